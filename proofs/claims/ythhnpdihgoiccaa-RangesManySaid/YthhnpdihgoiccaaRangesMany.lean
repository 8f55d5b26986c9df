/-
  RangesMany: RangesMany: for any two ints the law's call returns true.
  Conditions: none.
-/
import Derived.Test.YthhnpdihgoiccaaRows
import Derived.Test.YthhnpdihgoiccaaRnPick
import Derived.Test.YthhnpdihgoiccaaRnNum
import Derived.Test.YthhnpdihgoiccaaRnKp
import Derived.Deep.DeepCutAuto
import Derived.Deep.RegionHeld3
import Derived.WalkKit
import Derived.WalkLawsBesides
import Derived.ProofKit
import Derived.OpenShut
import Derived.ShutString
import Derived.SizedLaws
import Derived.Carry
import Derived.Below
import Derived.Outline
import Derived.Lib.Hide
namespace Go.Proofs.Ythhnpdihgoiccaa.rangesMany
open Go.ChangeShapes Go.WideShapes Go.ChangeAt Go.RowKit
open Go.ChangeMaps (open_string shut_string)
set_option linter.unusedVariables false

theorem own : ownKnob Try.prog.godebug = none := by kernel_rfl
theorem laidOut : laidOutB Try.prog = true := by kernel_rfl

open Go.Proofs.Ythhnpdihgoiccaa.Fd Go.Proofs.Ythhnpdihgoiccaa.Sn Go.Proofs.Ythhnpdihgoiccaa.Rn Go.Proofs.Ythhnpdihgoiccaa.Rm Go.Proofs.Ythhnpdihgoiccaa.Tk Go.Proofs.Ythhnpdihgoiccaa.Ct
theorem mask (a : Int) (m : Nat) (hm : m < 9223372036854775808) : 0 ≤ bits .and .i64 a (m : Int) ∧ bits .and .i64 a (m : Int) ≤ (m : Int) := by
  have h1 : (BitVec.ofInt 64 a &&& BitVec.ofInt 64 (m : Int)).toNat ≤ m := by
    rw [BitVec.toNat_and, BitVec.ofInt_natCast, BitVec.toNat_ofNat]
    exact Nat.le_trans Nat.and_le_right (Nat.mod_le _ _)
  have h2 : bits .and .i64 a (m : Int) = IntKind.i64.wrap ((BitVec.ofInt 64 a &&& BitVec.ofInt 64 (m : Int)).toNat : Int) := rfl
  rw [h2, IntKind.wrap_i64]
  omega
theorem mask_nat (a : Int) (m : Nat) (hm : m < 9223372036854775808) : ∃ r : Nat, bits .and .i64 a (m : Int) = (r : Int) ∧ r ≤ m := by
  obtain ⟨h0, h1⟩ := mask a m hm
  exact ⟨(bits .and .i64 a (m : Int)).toNat, by omega, by omega⟩
def T (n : Nat) : ByteArray := ⟨(decL n).toArray⟩
theorem T_le (n : Nat) (h : n ≤ 40) : (T n).size ≤ 10 := by
  show (decL n).toArray.size ≤ _; rw [List.size_toArray]; exact (decL_all 9 n (by omega)).len
theorem T_list (n : Nat) : (T n).data.toList = decL n := rfl
theorem lower_b : lower ([98, 121, 116, 101, 115, 61] : Bs) = hdL := by decide +kernel
theorem many_next (k : Nat) : manyT (k + 1) = manyT k ++ (two k k ++ [44]) := by
  unfold manyT; rw [List.range_succ, List.flatMap_append]; simp
/-- The text behind so many rounds. -/
structure Txt (X : ByteArray) (k : Nat) : Prop where
  text : X.data.toList = [98, 121, 116, 101, 115, 61] ++ manyT k
  size : X.size ≤ 6 + 30 * k
theorem Txt.start : Txt ⟨#[98, 121, 116, 101, 115, 61]⟩ 0 := ⟨rfl, by decide⟩
theorem Txt.next {X : ByteArray} {k : Nat} (h : Txt X k) (hk : k ≤ 40) : Txt (X ++ T k ++ ⟨#[45]⟩ ++ T k ++ ⟨#[44]⟩) (k + 1) := by
  have h1 := T_le k hk
  have h2 := h.size
  refine ⟨?_, ?_⟩
  · have e := h.text
    rw [many_next]
    unfold two T
    simp [e]
  · simp only [ByteArray.size_append]
    have e1 : (⟨#[45]⟩ : ByteArray).size = 1 := rfl
    have e2 : (⟨#[44]⟩ : ByteArray).size = 1 := rfl
    omega
set_option maxHeartbeats 16000000 in
set_option maxRecDepth 100000 in
theorem walk (a0 : Int) (w0 : (Lit.int .i64 a0).wf = true) (a1 : Int) (w1 : (Lit.int .i64 a1).wf = true) (w : World) :
    Calls Try.prog 5 #[.int .i64 a0, .int .i64 a1] w fun e w' => e = .returned (.bool true) ∧ Below w.heap.size w w' := by
  clear w0 w1
  obtain ⟨m, hm, hm2⟩ := mask_nat a0 7 (by omega)
  obtain ⟨c, hc, hc2⟩ := mask_nat a1 63 (by omega)
  have hm' : bits BinOp.and IntKind.i64 a0 7 = (m : Int) := hm
  have hc' : bits BinOp.and IntKind.i64 a1 63 = (c : Int) := hc
  obtain ⟨n, hn⟩ : ∃ n, n = 28 + m := ⟨_, rfl⟩
  have hn' : (28 : Int) + (m : Int) = (n : Int) := by omega
  have n1 : 28 ≤ n := by omega
  have n2 : n ≤ 35 := by omega
  clear hm hc hn
  go_enter Try.func5, Try.ntmps5
  go_wp2_with fail

  clear hn' hm' hc' hm2
  go_loop [5, 6] (fun s v => ∃ (k : Nat) (X : ByteArray), k ≤ n ∧ v = .int .i64 (k : Int) ∧ s = .string X ∧ Txt X k) (fun _ v => n - (intOf v).toNat)
  case atStart => exact ⟨0, _, Nat.zero_le _, rfl, rfl, Txt.start⟩
  case round =>
    obtain ⟨k, X, hk, rfl, rfl, hX⟩ := hrel
    have HX := Lib.hid hX
    have hs := hX.size
    clear hX
    by_cases hlt : k < n
    · have HN := Lib.hid (fun V => show Calls Try.prog 12 #[.int .i64 (k : Int)] V fun e w' => e = .returned (.string (T k)) ∧ V = w' from numDec_any 9 k V (by omega) (by omega))
      have sa := T_le k (by omega)
      have HY := Lib.hid (HX.out.next (by omega))
      go_wp2_with fail
      refine (HN.out _).mono ?_
      rintro e w1 ⟨rfl, rfl⟩
      go_wp2_with fail
      refine (HN.out _).mono ?_
      rintro e w1 ⟨rfl, rfl⟩
      go_wp2_with fail
      go_round
      case rel => exact ⟨k + 1, _, by omega, by go_num, rfl, HY.out⟩
      case measure => simp [intOf]; omega
    · obtain rfl : k = n := by omega
      have HP := Lib.hid (parse_more (hd := [98, 121, 116, 101, 115, 61]) lower_b (n := k) (by omega) (by omega))
      rw [← HX.out.text] at HP
      have HA := Lib.hid (fun V => parse_any X V (by omega))
      have HB := Lib.hid (fun V => pick_any X c V (by omega))
      by_cases h32 : k ≤ 32
      · have HPk := Lib.hid (show Rm.pick X.data.toList c = if c = 0 then ((0, 0), 2) else if c = 1 then ((0, 1), 1) else ((0, 0), 0) from by rw [HX.out.text]; exact pick_many lower_b n1 h32 (by omega))
        replace HP := Lib.hid (show parseR X.data.toList = some ((List.range k).map fun i : Nat => ((i : Int), (i : Int))) from by rw [HP.out, if_pos h32])
        clear HX
        have i32 : (k : Int) ≤ 32 := by omega
        go_wp2_with fail
        refine (HA.out _).mono ?_
        rintro e w1 ⟨v, rfl, hv, hb⟩
        rw [HP.out] at hv ⊢
        obtain ⟨a, cap, hvv⟩ := hv.shape
        simp only [Option.getD, List.length_map, List.length_range] at hvv
        rw [hvv]
        simp only [Option.isSome]
        have K1 := Lib.hid ((Kp.start (w := w)).more hb)
        clear hv hvv hb
        by_cases c0 : c = 0
        · have e1 := HPk.out
          rw [if_pos c0] at e1
          replace HB := Lib.hid (fun V => show Calls Try.prog 10 #[.string X, .int .i64 (c : Int)] V fun e w' => e = .returned (.tuple #[.agg #[.int .i64 0, .int .i64 0], .int .i64 2]) ∧ Below V.heap.size V w' from by have h := HB.out V; rw [e1] at h; exact h)
          have ce : ((c : Int) == 0) = true := by rw [c0]; rfl
          clear e1 c0
          go_wp2_with fail
          refine (HB.out _).mono ?_
          rintro e w2 ⟨rfl, hb⟩
          have K2 := Lib.hid ((K1.out.more hb).new 0 0 31)
          clear hb
          go_wp2_with fail
          go_ret
          exact ⟨rfl, K2.out.bel⟩
        · by_cases c1 : c = 1
          · have e1 := HPk.out
            rw [if_neg c0, if_pos c1] at e1
            replace HB := Lib.hid (fun V => show Calls Try.prog 10 #[.string X, .int .i64 (c : Int)] V fun e w' => e = .returned (.tuple #[.agg #[.int .i64 0, .int .i64 1], .int .i64 1]) ∧ Below V.heap.size V w' from by have h := HB.out V; rw [e1] at h; exact h)
            have ce : ((c : Int) == 0) = false := by rw [c1]; rfl
            have ce1 : ((c : Int) == 1) = true := by rw [c1]; rfl
            clear e1 c0 c1
            go_wp2_with fail
            refine (HB.out _).mono ?_
            rintro e w2 ⟨rfl, hb⟩
            have K2 := Lib.hid ((K1.out.more hb).new 0 1 31)
            clear hb
            go_wp2_with fail
            go_ret
            exact ⟨rfl, K2.out.bel⟩
          · have e1 := HPk.out
            rw [if_neg c0, if_neg c1] at e1
            replace HB := Lib.hid (fun V => show Calls Try.prog 10 #[.string X, .int .i64 (c : Int)] V fun e w' => e = .returned (.tuple #[.agg #[.int .i64 0, .int .i64 0], .int .i64 0]) ∧ Below V.heap.size V w' from by have h := HB.out V; rw [e1] at h; exact h)
            have ce : ((c : Int) == 0) = false := by rw [beq_eq_false_iff_ne]; omega
            have ce1 : ((c : Int) == 1) = false := by rw [beq_eq_false_iff_ne]; omega
            clear e1 c0 c1
            go_wp2_with fail
            refine (HB.out _).mono ?_
            rintro e w2 ⟨rfl, hb⟩
            have K2 := Lib.hid ((K1.out.more hb).new 0 0 31)
            clear hb
            go_wp2_with fail
            go_ret
            exact ⟨rfl, K2.out.bel⟩
      · replace HP := Lib.hid (show parseR X.data.toList = none from by rw [HP.out, if_neg h32])
        have e1 := pick_bad (long := (c : Int)) (.inl HP.out)
        replace HB := Lib.hid (fun V => show Calls Try.prog 10 #[.string X, .int .i64 (c : Int)] V fun e w' => e = .returned (.tuple #[.agg #[.int .i64 0, .int .i64 0], .int .i64 0]) ∧ Below V.heap.size V w' from by have h := HB.out V; rw [e1] at h; exact h)
        have i32 : ¬ (k : Int) ≤ 32 := by omega
        clear HX e1
        go_wp2_with fail
        refine (HA.out _).mono ?_
        rintro e w1 ⟨v, rfl, hv, hb⟩
        rw [HP.out] at hv ⊢
        obtain ⟨a, cap, hvv⟩ := hv.shape
        rw [hvv]
        simp only [Option.isSome, Option.getD]
        have K1 := Lib.hid ((Kp.start (w := w)).more hb)
        clear hv hvv hb
        go_wp2_with fail
        refine (HB.out _).mono ?_
        rintro e w2 ⟨rfl, hb⟩
        have K2 := Lib.hid ((K1.out.more hb).new 0 0 31)
        clear hb
        go_wp2_with fail
        go_ret
        exact ⟨rfl, K2.out.bel⟩

set_option maxRecDepth 100000 in
theorem lifted (os : Os) (started : os.Started) (H : Type) (enc : TypeId × Value → H) :
    ReturnsInHanded {} Try.checked os 5 .any (Rows.rangesManySpec.pre6 enc Try.prog Try.f5 Rows.rangesManyRow.domain false) (Rows.rangesManySpec.post enc Try.prog Try.f5 false true false false) := by
  refine returnsInHanded_of_change_sized (C := Try.checked) own started (by kernel_rfl) Try.func5
    (ChangeSpec.witness6 (enc := enc) (C := Try.checked) false ⟨#[], #[.int .i64 0, .int .i64 0], []⟩ 8 (by kernel_rfl) (by kernel_rfl) (by kernel_rfl) (by kernel_rfl)) ?_
  intro W base args ds gs before hval0 hW hcnd hsz _
  have hval : ∀ (j : Nat) t v, Try.f5.params[j]? = some t → args[j]? = some v → Value.okWide Try.prog W .any base t v := hval0
  have hW' := hW
  obtain ⟨p, q, hA0, hV, rfl, hfz, hnd⟩ := hW
  have hA : DataW.TrodAll enc Try.prog W 0 (fun _ => true) true Try.f5.params.toList args.toList ds p := hA0
  rw [Try.params5] at hA hval hsz
  obtain ⟨v0, vs0, d0, ds0, p0, q0, hargs, rfl, rfl, h0, r0⟩ := trodAll_cons hA
  obtain ⟨v1, vs1, d1, ds1, p1, q1, rfl, rfl, rfl, h1, r1⟩ := trodAll_cons r0
  obtain ⟨rfl, rfl, rfl⟩ := trodAll_nil r1
  obtain rfl : args = #[v0, v1] := by cases args; simp_all
  obtain ⟨rfl, rfl⟩ := trodVars_none hV
  obtain ⟨a0, rfl, rfl, rfl, w0⟩ := open_int Try.underlying3 (hval 0 3 v0 rfl rfl) h0
  obtain ⟨a1, rfl, rfl, rfl, w1⟩ := open_int Try.underlying3 (hval 1 3 v1 rfl rfl) h1
  clear hA0 hval0
  simp only [List.append_nil] at hW'
  refine (walk a0 w0 a1 w1 W).mono fun e W' ⟨he, bel⟩ => ?_
  subst he
  exact ⟨_, rfl, _, _, _, [], _, [], hW', trodAll_mk1 (shut_bool Try.underlying4 _), (trodAll_cons_mk (shut_int Try.underlying3 w0) (trodAll_cons_mk (shut_int Try.underlying3 w1) trodAll_mk0)), rfl, bel.frame _, fun h => by cases h⟩

theorem over : Rows.rangesManyRow.holds Try.pinned (OpenSpec.ofChange Rows.rangesManySpec) :=
  OpenClaim.holds_of_wide 5 Try.f5 rfl rfl rfl rfl rfl rfl rfl ⟨rfl, rfl, rfl, rfl, rfl⟩ rfl rfl rfl rfl rfl (by kernel_rfl) Try.func5 (by kernel_rfl)
    (of_decide_eq_true (by kernel_rfl)) (by unfold Func.isWrapper; first | (rw [if_pos (by decide +kernel)]; kernel_rfl) | (rw [if_neg (by decide +kernel)]; exact ⟨rfl, rfl⟩))
    (fun os started H enc _ => lifted os started H enc)

theorem proved : Rows.RangesManySaid := over
end Go.Proofs.Ythhnpdihgoiccaa.rangesMany
