/-
  DateBack: what is told of a second is parsed to it; a day's date is its day; a day more is the next date.
  Conditions: the listed tables hold what the program's text lays (the card ties them).
-/
import Derived.Test.YtipooddkpbkfhaaDoorDateTab
import Derived.Test.YtipooddkpbkfhaaDoorParseForms
namespace Go.Proofs.YtipooddkpbkfhaaDoor.dateBack
open Go.ChangeShapes Go.WideShapes Go.ChangeAt Go.RowKit
open Go.ChangeMaps (open_string shut_string)
set_option linter.unusedVariables false

open Go.Proofs.YtipooddkpbkfhaaDoor.Dt

set_option maxHeartbeats 4000000 in
theorem walk_at (a0 a1 r q n m : Int) (W : World) (hE : Env W) (hF : FM W) (h0 : bits BinOp.and IntKind.i64 a0 137438953471 = r) (r0 : 0 ≤ r) (h1 : bits BinOp.and IntKind.i64 a1 4194303 = q) (q0 : 0 ≤ q) (hn : r % 253402300800 = n) (hm : q % 2932896 = m) :
    Calls Tryd.prog 4 #[.int .i64 a0, .int .i64 a1] W fun e w' => e = .returned (.bool true) ∧ Below W.heap.size W w' := by
  have HE := Lib.hid hE
  have HF := Lib.hid hF
  have n0 : 0 ≤ n ∧ n ≤ 253402300799 := by omega
  have m0 : 0 ≤ m ∧ m ≤ 2932895 := by omega
  clear hE hF
  go_enter Tryd.func4, Tryd.ntmps4
  go_wp2_with fail
  refine (format_in n W n0.1 n0.2 HE.out).mono ?_
  rintro e w1 ⟨⟨y, k, d, rfl, hv, hd⟩, hb1⟩
  have HB1 := Lib.hid hb1
  have HE1 := Lib.hid (HE.out.below hb1 (Nat.le_refl _))
  have HF1 := Lib.hid (HF.out.below hb1 (Nat.le_refl _))
  have HP := Lib.hid (parse_form1 n y d k w1 HE1.out HF1.out hv hd)
  clear hb1 hv hd
  obtain ⟨S, hS⟩ : ∃ S, S = B (form1 ((n / 86400 + 3) % 7).toNat y.toNat k d.toNat (n % 86400).toNat) := ⟨_, rfl⟩
  rw [← hS] at HP ⊢
  clear hS
  go_wp2_with fail
  refine HP.out.mono ?_
  rintro e w2 ⟨rfl, hb2⟩
  have HB2 := Lib.hid (below_then HB1.out hb2)
  have HM2 := Lib.hid (HE1.out.below hb2 (Nat.le_refl _)).md
  clear hb2 HB1 HE1 HF1 HP HE HF
  go_wp2_with fail
  refine (civil_in m w2 m0.1 (by omega) HM2.out).mono ?_
  rintro e w' ⟨⟨y1, k1, d1, rfl, hv1, hd1⟩, rfl⟩
  have HV1 := Lib.hid hv1
  have HD1 := Lib.hid hd1
  have b1 : 1970 ≤ y1 ∧ y1 ≤ 9999 := ⟨hv1.y0, hv1.y1⟩
  have b2 : k1 < 12 := hv1.k1
  have b3 : 1 ≤ d1 ∧ d1 ≤ 31 := ⟨hv1.d0, by have := hv1.d1; have := mlen_pos y1 k1 hv1.k1; omega⟩
  clear hv1 hd1
  go_wp2_with fail
  refine (civil_in (m + 1) w2 (by omega) (by omega) HM2.out).mono ?_
  rintro e w' ⟨⟨y2, k2, d2, rfl, hv2, hd2⟩, rfl⟩
  have hnext := HV1.out.next hv2 (by rw [hd2, HD1.out])
  clear hv2 hd2
  rcases hnext with ⟨rfl, rfl, rfl⟩ | ⟨rfl, rfl, rfl⟩ | ⟨rfl, rfl, rfl, rfl, rfl⟩
  all_goals
    go_wp2_with fail
    refine (days_valid _ _ _ _ w2 (by first | rfl | omega) HV1.out HM2.out).mono ?_
    rintro e w' ⟨rfl, rfl⟩
    rw [HD1.out]
    go_wp2_with fail
    go_ret
    exact ⟨rfl, HB2.out⟩

theorem walk (a0 : Int) (w0 : (Lit.int .i64 a0).wf = true) (a1 : Int) (w1 : (Lit.int .i64 a1).wf = true) (W : World) (hE : Env W ∧ FM W) :
    Calls Tryd.prog 4 #[.int .i64 a0, .int .i64 a1] W fun e w' => e = .returned (.bool true) ∧ Below W.heap.size W w' := by
  have b0 : 0 ≤ bits BinOp.and IntKind.i64 a0 137438953471 ∧ _ := mask a0 137438953471 (by omega)
  have b1 : 0 ≤ bits BinOp.and IntKind.i64 a1 4194303 ∧ _ := mask a1 4194303 (by omega)
  exact walk_at a0 a1 _ _ _ _ W hE.1 hE.2 rfl b0.1 rfl b1.1 rfl rfl

theorem contract (H : Type) (enc : TypeId × Value → H) (W : World) (base : Nat) (args : Array Value) (ds gs : List (DataW H)) (before : List MemPlace)
    (hval : ∀ (j : Nat) t v, Tryd.f4.params[j]? = some t → args[j]? = some v → Value.okWide Tryd.prog W .any base t v)
    (hW : DataW.Whole enc Tryd.prog Tryd.f4.params.toList Rows.dateBackSpec.vars false W args.toList ds gs before) (hL : laidMetH Tryd.prog Rows.dateBackRow.laid W) :
    Calls Tryd.prog 4 args W fun e W' => ∃ v, e = .returned v ∧ Rows.dateBackSpec.post enc Tryd.prog Tryd.f4 false true false false W args v W' := by
  have hW' := hW
  obtain ⟨p, q, hA0, hV, rfl, hfz, hnd⟩ := hW
  have hA : DataW.TrodAll enc Tryd.prog W 0 (fun _ => true) true Tryd.f4.params.toList args.toList ds p := hA0
  rw [Tryd.params4] at hA hval
  obtain ⟨v0, vs0, d0, ds0, p0, q0, hargs, rfl, rfl, h0, r0⟩ := trodAll_cons hA
  obtain ⟨v1, vs1, d1, ds1, p1, q1, rfl, rfl, rfl, h1, r1⟩ := trodAll_cons r0
  obtain ⟨rfl, rfl, rfl⟩ := trodAll_nil r1
  obtain rfl : args = #[v0, v1] := by cases args; simp_all
  obtain ⟨rfl, rfl⟩ := trodVars_none hV
  obtain ⟨a0, rfl, rfl, rfl, w0⟩ := open_int Tryd.underlying3 (hval 0 3 v0 rfl rfl) h0
  obtain ⟨a1, rfl, rfl, rfl, w1⟩ := open_int Tryd.underlying3 (hval 1 3 v1 rfl rfl) h1
  clear hA0
  simp only [List.append_nil] at hW'
  refine (walk a0 w0 a1 w1 W (Dt.tabAll hL)).mono fun e W' ⟨he, bel⟩ => ?_
  subst he
  exact ⟨_, rfl, _, _, _, [], _, [], hW', trodAll_mk1 (shut_bool Tryd.underlying4 _), (trodAll_cons_mk (shut_int Tryd.underlying3 w0) (trodAll_cons_mk (shut_int Tryd.underlying3 w1) trodAll_mk0)), rfl, bel.frame _, fun h => by cases h⟩

theorem laid_met (os : Os) : laidMet Tryd.prog Rows.dateBackRow.laid ((Dt.laidWorld os).forCall (fun _ _ => 0) ⟨#[], #[.int .i64 0, .int .i64 0], []⟩).memory :=
  laidMet_of_run' 8 (by kernel_rfl) (by kernel_rfl)
theorem reads (os : Os) {H : Type} (enc : TypeId × Value → H) : ∃ places, DataW.whole enc Tryd.prog ((Dt.laidWorld os).forCall (fun _ _ => 0) ⟨#[], #[.int .i64 0, .int .i64 0], []⟩).memory Tryd.f4.params.toList Rows.dateBackSpec.vars false (#[.int .i64 0, .int .i64 0] : Array Value).toList 8 = some ([.lit (.int .i64 0), .lit (.int .i64 0)], [], places) :=
  ⟨[], by kernel_rfl⟩

set_option maxRecDepth 100000 in
theorem lifted (os : Os) (started : os.Started) (H : Type) (enc : TypeId × Value → H) (F : Stop.Interp) :
    ReturnsInHanded {} Tryd.checked os 4 .any ((OpenSpec.ofChange Rows.dateBackSpec).preRow enc Tryd.prog Tryd.f4 Rows.dateBackRow.domain false Rows.dateBackRow.laid) (((OpenSpec.ofChange Rows.dateBackSpec).at F).post enc Tryd.prog Tryd.f4 false true false false) := by
  obtain ⟨places, hx⟩ := reads os enc
  refine returnsInHanded_of_row (C := Tryd.checked) (s := OpenSpec.ofChange Rows.dateBackSpec) Dt.own started (by kernel_rfl) Tryd.func4
    (witness_row_at (enc := enc) (C := Tryd.checked) false (Dt.laidWorld os) #[.int .i64 0, .int .i64 0] rfl (by kernel_rfl) (by kernel_rfl) (by kernel_rfl)
      (OpenSpec.preRow_of_cond 8 hx (by kernel_rfl) (fun k hk => by cases hk) (by kernel_rfl) (laid_met os))) ?_
  intro W base args ds gs before hval hW _ _ _ hL _ _
  exact contract H enc W base args ds gs before hval hW hL

theorem said : Rows.DateBackSaid :=
  OpenClaim.holds_of_cond 4 Tryd.f4 rfl rfl rfl rfl rfl rfl rfl ⟨rfl, rfl, rfl, rfl, rfl⟩ rfl rfl rfl rfl rfl (by kernel_rfl) Tryd.func4 (by kernel_rfl)
    (of_decide_eq_true (by kernel_rfl)) (by unfold Func.isWrapper; first | (rw [if_pos (by decide +kernel)]; kernel_rfl) | (rw [if_neg (by decide +kernel)]; exact ⟨rfl, rfl⟩))
    (fun os started H enc _ F => by rw [OpenClaim.pre_eq_preRow]; exact lifted os started H enc F)

theorem plain (f : FuncId) (fn : Func) (hf : Tryd.pinned.checked.prog.funcNamed "gatepost/gatepostlaw02.DateBack" = some f) (hfn : Tryd.pinned.checked.prog.funcs[f]? = some fn) :
    false = Tryd.pinned.checked.prog.looks [] ∧ ∀ (j : Nat) t, fn.params[j]? = some t → Tryd.pinned.checked.prog.wantsStandIn t = false := by
  obtain rfl : f = 4 := Option.some.inj ((show Tryd.prog.funcNamed "gatepost/gatepostlaw02.DateBack" = some 4 by kernel_rfl).symm.trans hf) |>.symm
  obtain rfl : fn = Tryd.f4 := (Option.some.inj (Tryd.func4.symm.trans hfn)).symm
  refine ⟨by kernel_rfl, fun j t ht => ?_⟩
  rw [Tryd.params4] at ht
  have hm := Array.mem_of_getElem? ht
  simp at hm
  subst hm
  exact (show Tryd.prog.wantsStandIn 3 = false by kernel_rfl)

theorem card : Rows.DateBackCardSaid :=
  Claim7.holds_tied_plain_at .later [] _ _ _ _ said (fun _ h => by cases h) (by kernel_rfl) (fun _ h => by cases h) dateBack_row_tie rfl ⟨rfl, rfl⟩ (by kernel_rfl) rfl plain (by kernel_rfl)
end Go.Proofs.YtipooddkpbkfhaaDoor.dateBack
