/-
  TokenQuotes: a text that is quoted is, as a pair's value, the text; and no comma in it is one of a list.
  Conditions: the table of token bytes holds what the program's text lays (the card ties it).
-/
import Derived.Test.YthccojahaadjoaaDoorTokTable
import Derived.Test.YthccojahaadjoaaDoorTokPair
import Derived.Test.YthccojahaadjoaaDoorTokQuote
import Derived.Test.YthccojahaadjoaaDoorTokJoinMath
import Derived.Test.YthccojahaadjoaaDoorTokTexts
namespace Go.Proofs.YthccojahaadjoaaDoor.tokenQuotes
open Go.ChangeShapes Go.WideShapes Go.ChangeAt Go.RowKit
open Go.ChangeMaps (open_string shut_string)
set_option linter.unusedVariables false

theorem cut_size (a : ByteArray) (n : Nat) (h : n < a.size) : (a.extract 0 n).size = n := by simp; omega
theorem const_quote : Tk.quoteVal (⟨#[97, 44, 98]⟩ : ByteArray).data.toList = .tuple #[.string ⟨#[34, 97, 44, 98, 34]⟩, .bool true] := by kernel_rfl
theorem quote_none {l : Tk.Bs} (h : Tk.quoteOf l = none) : Tk.quoteVal l = .tuple #[.string ⟨#[]⟩, .bool false] := by unfold Tk.quoteVal; rw [h]
theorem quote_some {l q : Tk.Bs} (h : Tk.quoteOf l = some q) : Tk.quoteVal l = .tuple #[.string ⟨q.toArray⟩, .bool true] := by unfold Tk.quoteVal; rw [h]
theorem s_text {Y : ByteArray} {l : Tk.Bs} (h : Y.data.toList = l) : Tk.S l = .string Y := by unfold Tk.S; rw [← Tk.bytes_ext' h]
theorem data_append (a b : ByteArray) : (a ++ b).data.toList = a.data.toList ++ b.data.toList := by simp
theorem pair_some {l a v : Tk.Bs} (h : Tk.pairOf l = some (a, some v)) : Tk.pairVal l = .tuple #[.string ⟨a.toArray⟩, .string ⟨v.toArray⟩, .bool true, .bool true] := by unfold Tk.pairVal; rw [h]

set_option maxHeartbeats 4000000 in
theorem walk (a0 : ByteArray) (w0 : a0.size ≤ maxLen) (w : World) (hT : Tk.Tab w) :
    Calls Tryd.prog 6 #[.string a0] w fun e w' => e = .returned (.bool true) ∧ Below w.heap.size w w' := by
  unfold maxLen at w0
  have HT := Lib.hid hT
  clear hT
  obtain ⟨s, hs, hsz⟩ : ∃ s : ByteArray, (s = if 3000 < a0.size then a0.extract 0 3000 else a0) ∧ s.size ≤ 3000 := by
    refine ⟨_, rfl, ?_⟩
    split
    · rw [cut_size _ _ (by assumption)]; omega
    · omega
  by_cases hlen : 3000 < a0.size
  all_goals
    first | rw [if_pos hlen] at hs | rw [if_neg hlen] at hs
    first | (have hd : decide ((3000 : Int) < (a0.size : Int)) = true := by simp; omega) | (have hd : decide ((3000 : Int) < (a0.size : Int)) = false := by simp; omega)
    have HS := Lib.hid hs
    clear hs
    cases hq : Tk.quoteOf s.data.toList with
    | none =>
      have HQ := Lib.hid (quote_none hq)
      clear hq
      go_enter Tryd.func6, Tryd.ntmps6
      go_wp2_with fail
      rw [← HS.out]
      clear HS hd hlen
      refine (Tk.quote_any s _ (by omega)).mono ?_
      rintro e w1 ⟨rfl, hb1⟩
      rw [HQ.out]
      go_wp2_with fail
      refine (Tk.quote_any _ _ (by decide)).mono ?_
      rintro e w2 ⟨rfl, hb2⟩
      rw [const_quote]
      have hB := hb1.trans (hb2.mono hb1.size)
      clear hb1 hb2
      go_wp2_with fail
      go_ret
      exact ⟨rfl, hB⟩
    | some q =>
      have HQ := Lib.hid (quote_some hq)
      have hql := Tk.quote_length hq
      have hlen2 : s.data.toList.length = s.size := by simp
      obtain ⟨Q, hQ⟩ : ∃ Q : ByteArray, Q = ⟨q.toArray⟩ := ⟨_, rfl⟩
      have hQd : Q.data.toList = q := by rw [hQ]
      have hQs : Q.size ≤ 6002 := by
        have h1 : Q.data.toList.length = Q.size := by simp
        rw [hQd] at h1; omega
      rw [← hQ] at HQ
      have HP := Lib.hid (show Tk.pairVal ((⟨#[120, 61]⟩ : ByteArray) ++ Q).data.toList = .tuple #[.string ⟨#[120]⟩, .string s, .bool true, .bool true] from by
        rw [data_append, hQd]
        have h1 := pair_some (Tk.pair_of_quote hq)
        rw [show (⟨s.data.toList.toArray⟩ : ByteArray) = s from (Tk.bytes_ext' rfl).symm] at h1
        exact h1)
      have HSP := Lib.hid (show Tk.splitOf (((⟨#[121, 44, 32, 120, 61]⟩ : ByteArray) ++ Q) ++ (⟨#[44, 32, 122]⟩ : ByteArray)).data.toList = some [[121], [120, 61] ++ q, [122]] from by
        rw [data_append, data_append, hQd]; exact Tk.split_quote hq)
      have HY := Lib.hid (s_text (Y := (⟨#[120, 61]⟩ : ByteArray) ++ Q) (l := [120, 61] ++ q) (by rw [data_append, hQd]))
      have e1 : (s.toList == s.toList) = true := by simp
      clear hq hql hlen2 hQ hQd
      go_enter Tryd.func6, Tryd.ntmps6
      go_wp2_with fail
      rw [← HS.out]
      clear HS hd hlen
      refine (Tk.quote_any s _ (by omega)).mono ?_
      rintro e w1 ⟨rfl, hb1⟩
      rw [HQ.out]
      go_wp2_with fail
      refine (Tk.pair_any _ _ ?hps (HT.out.below hb1 HT.out.lt)).mono ?_
      case hps => rw [ByteArray.size_append]; show 2 + Q.size ≤ _; omega
      rintro e w2 ⟨rfl, hb2⟩
      rw [HP.out]
      have hB := hb1.trans (hb2.mono hb1.size)
      clear hb1 hb2
      go_wp2_with fail
      refine (Tk.split_any _ _ ?hss).mono ?_
      case hss => rw [ByteArray.size_append, ByteArray.size_append]; show 5 + Q.size + 3 ≤ _; omega
      rintro e w3 ⟨hb3, h3⟩
      rcases h3 with ⟨h, _⟩ | ⟨ls, v, h, he, ho⟩
      · rw [HSP.out] at h; cases h
      · rw [he]
        rw [HSP.out] at h
        injection h with h
        subst h
        have hB3 := hB.trans (hb3.mono hB.size)
        clear he hB hb3
        obtain ⟨g, cap, hv⟩ := Tk.owns_shape ho (by simp)
        rw [hv] at ho
        have hc := ho.cellAt 1 (by simp)
        rw [show (List.map Tk.S [[121], [120, 61] ++ q, [122]])[1]? = some (Tk.S ([120, 61] ++ q)) from rfl, HY.out] at hc
        rw [hv, show ([[121], [120, 61] ++ q, [122]] : List Tk.Bs).length = 3 from rfl]
        clear hv ho
        have e2 : (((⟨#[120, 61]⟩ : ByteArray) ++ Q).toList == ((⟨#[120, 61]⟩ : ByteArray) ++ Q).toList) = true := by simp
        go_wp2_with fail
        go_ret
        exact ⟨rfl, hB3⟩


theorem contract (H : Type) (enc : TypeId × Value → H) (W : World) (base : Nat) (args : Array Value) (ds gs : List (DataW H)) (before : List MemPlace)
    (hval : ∀ (j : Nat) t v, Tryd.f6.params[j]? = some t → args[j]? = some v → Value.okWide Tryd.prog W .any base t v)
    (hW : DataW.Whole enc Tryd.prog Tryd.f6.params.toList Rows.tokenQuotesSpec.vars false W args.toList ds gs before) (hL : laidMetH Tryd.prog Rows.tokenQuotesRow.laid W) :
    Calls Tryd.prog 6 args W fun e W' => ∃ v, e = .returned v ∧ Rows.tokenQuotesSpec.post enc Tryd.prog Tryd.f6 false true false false W args v W' := by
  have hW' := hW
  obtain ⟨p, q, hA0, hV, rfl, hfz, hnd⟩ := hW
  have hA : DataW.TrodAll enc Tryd.prog W 0 (fun _ => true) true Tryd.f6.params.toList args.toList ds p := hA0
  rw [Tryd.params6] at hA hval
  obtain ⟨v0, vs0, d0, ds0, p0, q0, hargs, rfl, rfl, h0, r0⟩ := trodAll_cons hA
  obtain ⟨rfl, rfl, rfl⟩ := trodAll_nil r0
  obtain rfl : args = #[v0] := by cases args; simp_all
  obtain ⟨rfl, rfl⟩ := trodVars_none hV
  obtain ⟨a0, rfl, rfl, rfl, w0⟩ := open_string Tryd.underlying9 (hval 0 9 v0 rfl rfl) h0
  clear hA0
  simp only [List.append_nil] at hW'
  refine (walk a0 w0 W (Tk.table hL)).mono fun e W' ⟨he, bel⟩ => ?_
  subst he
  exact ⟨_, rfl, _, _, _, [], _, [], hW', trodAll_mk1 (shut_bool Tryd.underlying4 _), (trodAll_cons_mk (shut_string Tryd.underlying9 w0) trodAll_mk0), rfl, bel.frame _, fun h => by cases h⟩

theorem laid_met (os : Os) : laidMet Tryd.prog Rows.tokenQuotesRow.laid ((Tk.laidWorld os).forCall (fun _ _ => 0) ⟨#[], #[.string ByteArray.empty], []⟩).memory :=
  laidMet_of_run' 8 (by kernel_rfl) (by kernel_rfl)
theorem reads (os : Os) {H : Type} (enc : TypeId × Value → H) : ∃ places, DataW.whole enc Tryd.prog ((Tk.laidWorld os).forCall (fun _ _ => 0) ⟨#[], #[.string ByteArray.empty], []⟩).memory Tryd.f6.params.toList Rows.tokenQuotesSpec.vars false (#[.string ByteArray.empty] : Array Value).toList 8 = some ([.lit (.string [])], [], places) :=
  ⟨[], by kernel_rfl⟩

set_option maxRecDepth 100000 in
theorem lifted (os : Os) (started : os.Started) (H : Type) (enc : TypeId × Value → H) (F : Stop.Interp) :
    ReturnsInHanded {} Tryd.checked os 6 .any ((OpenSpec.ofChange Rows.tokenQuotesSpec).preRow enc Tryd.prog Tryd.f6 Rows.tokenQuotesRow.domain false Rows.tokenQuotesRow.laid) (((OpenSpec.ofChange Rows.tokenQuotesSpec).at F).post enc Tryd.prog Tryd.f6 false true false false) := by
  obtain ⟨places, hx⟩ := reads os enc
  refine returnsInHanded_of_row (C := Tryd.checked) (s := OpenSpec.ofChange Rows.tokenQuotesSpec) Tk.own started (by kernel_rfl) Tryd.func6
    (witness_row_at (enc := enc) (C := Tryd.checked) false (Tk.laidWorld os) #[.string ByteArray.empty] rfl (by kernel_rfl) (by kernel_rfl) (by kernel_rfl)
      (OpenSpec.preRow_of_cond 8 hx (by kernel_rfl) (fun k hk => by cases hk) (by kernel_rfl) (laid_met os))) ?_
  intro W base args ds gs before hval hW _ _ _ hL _ _
  exact contract H enc W base args ds gs before hval hW hL

theorem said : Rows.TokenQuotesSaid :=
  OpenClaim.holds_of_cond 6 Tryd.f6 rfl rfl rfl rfl rfl rfl rfl ⟨rfl, rfl, rfl, rfl, rfl⟩ rfl rfl rfl rfl rfl (by kernel_rfl) Tryd.func6 (by kernel_rfl)
    (of_decide_eq_true (by kernel_rfl)) (by unfold Func.isWrapper; first | (rw [if_pos (by decide +kernel)]; kernel_rfl) | (rw [if_neg (by decide +kernel)]; exact ⟨rfl, rfl⟩))
    (fun os started H enc _ F => by rw [OpenClaim.pre_eq_preRow]; exact lifted os started H enc F)

theorem plain (f : FuncId) (fn : Func) (hf : Tryd.pinned.checked.prog.funcNamed "gatepost/gatepostlaw01.TokenQuotes" = some f) (hfn : Tryd.pinned.checked.prog.funcs[f]? = some fn) :
    false = Tryd.pinned.checked.prog.looks [] ∧ ∀ (j : Nat) t, fn.params[j]? = some t → Tryd.pinned.checked.prog.wantsStandIn t = false := by
  obtain rfl : f = 6 := Option.some.inj ((show Tryd.prog.funcNamed "gatepost/gatepostlaw01.TokenQuotes" = some 6 by kernel_rfl).symm.trans hf) |>.symm
  obtain rfl : fn = Tryd.f6 := (Option.some.inj (Tryd.func6.symm.trans hfn)).symm
  refine ⟨by kernel_rfl, fun j t ht => ?_⟩
  rw [Tryd.params6] at ht
  have hm := Array.mem_of_getElem? ht
  simp at hm
  subst hm
  exact (show Tryd.prog.wantsStandIn 9 = false by kernel_rfl)

theorem card : Rows.TokenQuotesCardSaid :=
  Claim7.holds_tied_plain_at .later [] _ _ _ _ said (fun _ h => by cases h) (by kernel_rfl) (fun _ h => by cases h) tokenQuotes_row_tie rfl ⟨rfl, rfl⟩ (by kernel_rfl) rfl plain (by kernel_rfl)
end Go.Proofs.YthccojahaadjoaaDoor.tokenQuotes
