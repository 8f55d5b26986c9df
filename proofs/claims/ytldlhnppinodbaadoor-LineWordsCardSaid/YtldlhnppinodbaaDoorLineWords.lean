/-
  LineWords: for every two numbers the call returns true.
  Conditions: the listed tables hold what the program's text lays (the card ties them).
-/
import Derived.Test.YtldlhnppinodbaaDoorTabs
import Derived.Test.YtldlhnppinodbaaDoorLnWordMath
import Derived.WideKeyPair
namespace Go.Proofs.YtldlhnppinodbaaDoor.lineWords
open Go.ChangeShapes Go.WideShapes Go.ChangeAt Go.RowKit
open Go.ChangeMaps (open_string shut_string)
set_option linter.unusedVariables false

theorem and_nat (a : Int) (q : Nat) (hq : q < 9223372036854775808) : ∃ n : Nat, n ≤ q ∧ bits .and .i64 a (q : Int) = (n : Int) := by
  have h : (BitVec.ofInt 64 a &&& BitVec.ofInt 64 (q : Int)).toNat ≤ q := by
    rw [BitVec.toNat_and, BitVec.ofInt_natCast, BitVec.toNat_ofNat]
    exact Nat.le_trans Nat.and_le_right (Nat.mod_le _ _)
  refine ⟨_, h, ?_⟩
  show IntKind.i64.wrap ((BitVec.ofInt 64 a &&& BitVec.ofInt 64 (q : Int)).toNat : Int) = _
  rw [IntKind.wrap_i64]; omega

set_option maxHeartbeats 4000000 in
theorem walk (a0 : Int) (w0 : (Lit.int .i64 a0).wf = true) (a1 : Int) (w1 : (Lit.int .i64 a1).wf = true) (w : World) (hT : Tk.Tab w) :
    Calls Tryd.prog 6 #[.int .i64 a0, .int .i64 a1] w fun e w' => e = .returned (.bool true) ∧ Below w.heap.size w w' := by
  obtain ⟨k, hk, e1'⟩ := and_nat a0 7 (by omega)
  obtain ⟨v, hv, e2'⟩ := and_nat a1 511 (by omega)
  have e1 : bits .and .i64 a0 7 = (k : Int) := e1'
  have e2 : bits .and .i64 a1 511 = (v : Int) := e2'
  clear e1' e2'
  obtain ⟨m, hm⟩ : ∃ m, m = 100 + v % 500 := ⟨_, rfl⟩
  have m0 : 100 ≤ m := by omega
  have m1 : m ≤ 599 := by omega
  have e3 : 100 + (v : Int) % 500 = (m : Int) := by omega
  have HT := Lib.hid hT
  clear w0 w1 hT hm
  go_enter Tryd.func6, Tryd.ntmps6
  go_wp2_with fail
  go_loop [5, 6] (fun t i => ∃ j : Nat, 1 ≤ j ∧ (j = 1 ∨ j + 1 ≤ k) ∧ i = .int .i64 (j : Int) ∧ t = .string (Ln.WT (j - 1))) (fun _ i => k - (intOf i).toNat)
  case atStart => exact ⟨1, by omega, .inl rfl, rfl, rfl⟩
  case round =>
    obtain ⟨j, hj1, hj2, rfl, rfl⟩ := hrel
    have hsz := Ln.WT_size (j - 1)
    obtain ⟨T, hTT⟩ : ∃ T, T = Ln.WT (j - 1) := ⟨_, rfl⟩
    rw [← hTT] at hsz
    rw [← hTT]
    have HTT := Lib.hid hTT
    have hT13 : T.size ≤ 17 := by omega
    clear hsz hTT
    by_cases hlt : j + 1 < k
    · have HN := Lib.hid (show T ++ ⟨#[32, 47]⟩ = Ln.WT (j + 1 - 1) from by rw [HTT.out, Ln.WT_next]; congr 1; omega)
      go_wp2_with fail
      go_round
      case rel => exact ⟨j + 1, by omega, .inr (by omega), by go_num, by rw [HN.out]⟩
      case measure => simp [intOf]; omega
    · have HD1 := Lib.hid (Ln.IT_text m0 m1)
      have s3 := Ln.IT_size3 m0 m1
      have HS1 := Lib.hid (show Ln.stVal ((⟨#[72, 84, 84, 80, 47, 49, 46, 48, 32]⟩ : ByteArray) ++ Ln.IT (m : Int)) = .tuple #[.int .i64 0, .int .i64 (m : Int), .string ⟨#[]⟩, .int .i64 0] from Ln.st_short m0 m1)
      have HS2 := Lib.hid (show Ln.stVal ((⟨#[72, 84, 84, 80, 47, 49, 46, 48, 32]⟩ : ByteArray) ++ Ln.IT (m : Int) ++ ⟨#[32, 97, 32, 98, 32, 99]⟩) = .tuple #[.int .i64 0, .int .i64 (m : Int), .string ⟨#[97, 32, 98, 32, 99]⟩, .int .i64 0] from Ln.st_long m0 m1)
      have tm : ((m : Int) == (m : Int)) = true := by simp
      obtain ⟨D, hD⟩ : ∃ D, D = Ln.IT (m : Int) := ⟨_, rfl⟩
      rw [← hD] at s3 HD1 HS1 HS2
      have hback := fun W => Ln.run_three_back W (48 + (m : Int) / 100) (48 + (m : Int) / 10 % 10) (48 + (m : Int) % 10) (UInt8.ofNat (48 + m / 100)) (UInt8.ofNat (48 + m / 10 % 10)) (UInt8.ofNat (48 + m % 10)) (by rw [Ln.digit_val _ (by omega)]; omega) (by rw [Ln.digit_val _ (by omega)]; omega) (by rw [Ln.digit_val _ (by omega)]; omega)
      rw [← HD1.out] at hback
      have s4 : D.size ≤ 3 := by omega
      clear s3 hD
      by_cases hk3 : k = 3
      · have HQ := Lib.hid (show Ln.reqVal (T ++ ⟨#[32, 72, 84, 84, 80, 47, 49, 46, 49]⟩) = .tuple #[.string ⟨#[71, 69, 84]⟩, .string ⟨#[47]⟩, .int .i64 1, .int .i64 0] from by rw [HTT.out, show j - 1 = 1 from by omega]; exact Ln.words_good)
        have tk : ((k : Int) == 3) = true := by rw [hk3]; rfl
        have hlt' : (k : Int) - 1 ≤ (j : Int) := by omega
        clear hk3 hlt hj2
        go_wp2_with fail
        refine (Ln.request_any _ _ HT.out).mono ?_
        rintro e x1 ⟨rfl, hb1⟩
        rw [HQ.out]
        go_wp2_with fail
        refine (Ln.status_any _ _).mono ?_
        rintro e x2 ⟨rfl, hb2⟩
        rw [HS1.out]
        go_wp2_with fail
        refine (Ln.status_any _ _).mono ?_
        rintro e x3 ⟨rfl, hb3⟩
        rw [HS2.out]
        go_wp2_with fail
        go_ret
        refine ⟨rfl, ?_⟩
        exact ((hb1.alloc hb1.size _).trans (hb2.mono (Nat.le_trans hb1.size (by simp)))).trans (hb3.mono (Nat.le_trans hb1.size (Nat.le_trans (by simp) hb2.size)))
      · have HQ := Lib.hid (show Ln.reqVal (T ++ ⟨#[32, 72, 84, 84, 80, 47, 49, 46, 49]⟩) = .tuple #[.string ⟨#[]⟩, .string ⟨#[]⟩, .int .i64 0, .int .i64 30] from by rw [HTT.out]; exact Ln.words_bad (j - 1) (by omega) (by omega))
        have tk : ((k : Int) == 3) = false := by rw [beq_eq_false_iff_ne]; omega
        have hlt' : (k : Int) - 1 ≤ (j : Int) := by omega
        clear hk3 hlt hj2
        go_wp2_with fail
        refine (Ln.request_any _ _ HT.out).mono ?_
        rintro e x1 ⟨rfl, hb1⟩
        rw [HQ.out]
        go_wp2_with fail
        refine (Ln.status_any _ _).mono ?_
        rintro e x2 ⟨rfl, hb2⟩
        rw [HS1.out]
        go_wp2_with fail
        refine (Ln.status_any _ _).mono ?_
        rintro e x3 ⟨rfl, hb3⟩
        rw [HS2.out]
        go_wp2_with fail
        go_ret
        refine ⟨rfl, ?_⟩
        exact ((hb1.alloc hb1.size _).trans (hb2.mono (Nat.le_trans hb1.size (by simp)))).trans (hb3.mono (Nat.le_trans hb1.size (Nat.le_trans (by simp) hb2.size)))


theorem contract (H : Type) (enc : TypeId × Value → H) (W : World) (base : Nat) (args : Array Value) (ds gs : List (DataW H)) (before : List MemPlace)
    (hval : ∀ (j : Nat) t v, Tryd.f6.params[j]? = some t → args[j]? = some v → Value.okWide Tryd.prog W .any base t v)
    (hW : DataW.Whole enc Tryd.prog Tryd.f6.params.toList Rows.lineWordsSpec.vars false W args.toList ds gs before) (hL : laidMetH Tryd.prog Rows.lineWordsRow.laid W) :
    Calls Tryd.prog 6 args W fun e W' => ∃ v, e = .returned v ∧ Rows.lineWordsSpec.post enc Tryd.prog Tryd.f6 false true false false W args v W' := by
  have hW' := hW
  obtain ⟨p, q, hA0, hV, rfl, hfz, hnd⟩ := hW
  have hA : DataW.TrodAll enc Tryd.prog W 0 (fun _ => true) true Tryd.f6.params.toList args.toList ds p := hA0
  rw [Tryd.params6] at hA hval
  obtain ⟨v0, vs0, d0, ds0, p0, q0, hargs, rfl, rfl, h0, r0⟩ := trodAll_cons hA
  obtain ⟨v1, vs1, d1, ds1, p1, q1, rfl, rfl, rfl, h1, r1⟩ := trodAll_cons r0
  obtain ⟨rfl, rfl, rfl⟩ := trodAll_nil r1
  obtain rfl : args = #[v0, v1] := by cases args; simp_all
  obtain ⟨rfl, rfl⟩ := trodVars_none hV
  obtain ⟨a0, rfl, rfl, rfl, w0⟩ := open_int Tryd.underlying3 (hval 0 3 v0 rfl rfl) h0
  obtain ⟨a1, rfl, rfl, rfl, w1⟩ := open_int Tryd.underlying3 (hval 1 3 v1 rfl rfl) h1
  clear hA0
  simp only [List.append_nil] at hW'
  refine (walk a0 w0 a1 w1 W (Tb.tok_of_head (Tb.tail (Tb.tail (Tb.tail hL))))).mono fun e W' ⟨he, bel⟩ => ?_
  subst he
  exact ⟨_, rfl, _, _, _, [], _, [], hW', trodAll_mk1 (shut_bool Tryd.underlying4 _), (trodAll_cons_mk (shut_int Tryd.underlying3 w0) (trodAll_cons_mk (shut_int Tryd.underlying3 w1) trodAll_mk0)), rfl, bel.frame _, fun h => by cases h⟩

theorem laid_met (os : Os) : laidMet Tryd.prog Rows.lineWordsRow.laid ((Tb.laidWorld os).forCall (fun _ _ => 0) ⟨#[], #[.int .i64 0, .int .i64 0], []⟩).memory :=
  laidMet_of_run' 8 (by kernel_rfl) (by kernel_rfl)
theorem reads (os : Os) {H : Type} (enc : TypeId × Value → H) : ∃ places, DataW.whole enc Tryd.prog ((Tb.laidWorld os).forCall (fun _ _ => 0) ⟨#[], #[.int .i64 0, .int .i64 0], []⟩).memory Tryd.f6.params.toList Rows.lineWordsSpec.vars false (#[.int .i64 0, .int .i64 0] : Array Value).toList 8 = some ([.lit (.int .i64 0), .lit (.int .i64 0)], [], places) :=
  ⟨[], by kernel_rfl⟩

set_option maxRecDepth 100000 in
theorem lifted (os : Os) (started : os.Started) (H : Type) (enc : TypeId × Value → H) (F : Stop.Interp) :
    ReturnsInHanded {} Tryd.checked os 6 .any ((OpenSpec.ofChange Rows.lineWordsSpec).preRow enc Tryd.prog Tryd.f6 Rows.lineWordsRow.domain false Rows.lineWordsRow.laid) (((OpenSpec.ofChange Rows.lineWordsSpec).at F).post enc Tryd.prog Tryd.f6 false true false false) := by
  obtain ⟨places, hx⟩ := reads os enc
  refine returnsInHanded_of_row (C := Tryd.checked) (s := OpenSpec.ofChange Rows.lineWordsSpec) Tb.own started (by kernel_rfl) Tryd.func6
    (witness_row_at (enc := enc) (C := Tryd.checked) false (Tb.laidWorld os) #[.int .i64 0, .int .i64 0] rfl (by kernel_rfl) (by kernel_rfl) (by kernel_rfl)
      (OpenSpec.preRow_of_cond 8 hx (by kernel_rfl) (fun k hk => by cases hk) (by kernel_rfl) (laid_met os))) ?_
  intro W base args ds gs before hval hW _ _ _ hL _ _
  exact contract H enc W base args ds gs before hval hW hL

theorem said : Rows.LineWordsSaid :=
  OpenClaim.holds_of_cond 6 Tryd.f6 rfl rfl rfl rfl rfl rfl rfl ⟨rfl, rfl, rfl, rfl, rfl⟩ rfl rfl rfl rfl rfl (by kernel_rfl) Tryd.func6 (by kernel_rfl)
    (of_decide_eq_true (by kernel_rfl)) (by unfold Func.isWrapper; first | (rw [if_pos (by decide +kernel)]; kernel_rfl) | (rw [if_neg (by decide +kernel)]; exact ⟨rfl, rfl⟩))
    (fun os started H enc _ F => by rw [OpenClaim.pre_eq_preRow]; exact lifted os started H enc F)

theorem plain (f : FuncId) (fn : Func) (hf : Tryd.pinned.checked.prog.funcNamed "gatepost/gatepostlaw03.LineWords" = some f) (hfn : Tryd.pinned.checked.prog.funcs[f]? = some fn) :
    false = Tryd.pinned.checked.prog.looks [] ∧ ∀ (j : Nat) t, fn.params[j]? = some t → Tryd.pinned.checked.prog.wantsStandIn t = false := by
  obtain rfl : f = 6 := Option.some.inj ((show Tryd.prog.funcNamed "gatepost/gatepostlaw03.LineWords" = some 6 by kernel_rfl).symm.trans hf) |>.symm
  obtain rfl : fn = Tryd.f6 := (Option.some.inj (Tryd.func6.symm.trans hfn)).symm
  refine ⟨by kernel_rfl, fun j t ht => ?_⟩
  rw [Tryd.params6] at ht
  have hm := Array.mem_of_getElem? ht
  simp at hm
  subst hm
  exact (show Tryd.prog.wantsStandIn 3 = false by kernel_rfl)

theorem card : Rows.LineWordsCardSaid :=
  Claim7.holds_tied_plain_at .later [] _ _ _ _ said (fun _ h => by cases h) (by kernel_rfl) (fun _ h => by cases h) lineWords_row_tie rfl ⟨rfl, rfl⟩ (by kernel_rfl) rfl plain (by kernel_rfl)
end Go.Proofs.YtldlhnppinodbaaDoor.lineWords
