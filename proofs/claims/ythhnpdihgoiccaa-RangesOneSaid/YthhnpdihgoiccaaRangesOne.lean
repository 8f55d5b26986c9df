/-
  RangesOne: RangesOne: for any three ints the law's call returns true.
  Conditions: none.
-/
import Derived.Test.YthhnpdihgoiccaaRows
import Derived.Test.YthhnpdihgoiccaaRnPick
import Derived.Test.YthhnpdihgoiccaaRnNum
import Derived.Test.YthhnpdihgoiccaaRnKp
import Derived.Deep.DeepCutAuto
import Derived.Deep.RegionHeld3
import Derived.WalkKit
import Derived.WalkLawsBesides
import Derived.ProofKit
import Derived.OpenShut
import Derived.ShutString
import Derived.SizedLaws
import Derived.Carry
import Derived.Below
import Derived.Outline
import Derived.Lib.Hide
namespace Go.Proofs.Ythhnpdihgoiccaa.rangesOne
open Go.ChangeShapes Go.WideShapes Go.ChangeAt Go.RowKit
open Go.ChangeMaps (open_string shut_string)
set_option linter.unusedVariables false

theorem own : ownKnob Try.prog.godebug = none := by kernel_rfl
theorem laidOut : laidOutB Try.prog = true := by kernel_rfl

open Go.Proofs.Ythhnpdihgoiccaa.Fd Go.Proofs.Ythhnpdihgoiccaa.Sn Go.Proofs.Ythhnpdihgoiccaa.Rn Go.Proofs.Ythhnpdihgoiccaa.Rm Go.Proofs.Ythhnpdihgoiccaa.Tk Go.Proofs.Ythhnpdihgoiccaa.Ct
theorem mask (a : Int) (m : Nat) (hm : m < 9223372036854775808) : 0 ≤ bits .and .i64 a (m : Int) ∧ bits .and .i64 a (m : Int) ≤ (m : Int) := by
  have h1 : (BitVec.ofInt 64 a &&& BitVec.ofInt 64 (m : Int)).toNat ≤ m := by
    rw [BitVec.toNat_and, BitVec.ofInt_natCast, BitVec.toNat_ofNat]
    exact Nat.le_trans Nat.and_le_right (Nat.mod_le _ _)
  have h2 : bits .and .i64 a (m : Int) = IntKind.i64.wrap ((BitVec.ofInt 64 a &&& BitVec.ofInt 64 (m : Int)).toNat : Int) := rfl
  rw [h2, IntKind.wrap_i64]
  omega
theorem mask_nat (a : Int) (m : Nat) (hm : m < 9223372036854775808) : ∃ r : Nat, bits .and .i64 a (m : Int) = (r : Int) ∧ r ≤ m := by
  obtain ⟨h0, h1⟩ := mask a m hm
  exact ⟨(bits .and .i64 a (m : Int)).toNat, by omega, by omega⟩
def T (n : Nat) : ByteArray := ⟨(decL n).toArray⟩
theorem T_le (n : Nat) (h : n ≤ 31) : (T n).size ≤ 10 := by
  show (decL n).toArray.size ≤ _; rw [List.size_toArray]; exact (decL_all 9 n (by omega)).len
theorem T_list (n : Nat) : (T n).data.toList = decL n := rfl
theorem lower_b : lower ([98, 121, 116, 101, 115, 61] : Bs) = hdL := by decide +kernel
theorem lower_B : lower ([66, 89, 84, 69, 83, 61] : Bs) = hdL := by decide +kernel
theorem text_two (a b : Nat) : (⟨#[98, 121, 116, 101, 115, 61]⟩ ++ (T a ++ ⟨#[45]⟩ ++ T b) : ByteArray).data.toList = [98, 121, 116, 101, 115, 61] ++ two a b := by
  unfold two T; simp
theorem text_both (a b : Nat) : (⟨#[66, 89, 84, 69, 83, 61]⟩ ++ (T a ++ ⟨#[45]⟩ ++ T b) ++ ⟨#[44, 32, 48, 45, 48]⟩ : ByteArray).data.toList = [66, 89, 84, 69, 83, 61] ++ (two a b ++ [44, 32, 48, 45, 48]) := by
  unfold two T; simp
theorem text_last (a : Nat) : (⟨#[98, 121, 116, 101, 115, 61, 45]⟩ ++ T a : ByteArray).data.toList = [98, 121, 116, 101, 115, 61] ++ 45 :: decL a := by
  unfold T; simp
theorem calls_two (a b c : Nat) (hab : a ≤ b) (hb : b ≤ 31) (hc : c ≤ 31) (V : World) : Calls Try.prog 10 #[.string (⟨#[98, 121, 116, 101, 115, 61]⟩ ++ (T a ++ ⟨#[45]⟩ ++ T b)), .int .i64 (c : Int)] V
    fun e w' => e = .returned (pickV (if (a : Int) < c then (((a : Int), if (b : Int) + 1 ≤ c then (b : Int) + 1 else c), 1) else ((0, 0), 2))) ∧ Below V.heap.size V w' := by
  have h1 := T_le a (by omega)
  have h2 := T_le b hb
  have h := pick_any (⟨#[98, 121, 116, 101, 115, 61]⟩ ++ (T a ++ ⟨#[45]⟩ ++ T b)) c V (by simp only [ByteArray.size_append]; have e1 : (⟨#[98, 121, 116, 101, 115, 61]⟩ : ByteArray).size = 6 := rfl; have e2 : (⟨#[45]⟩ : ByteArray).size = 1 := rfl; omega)
  rw [text_two, pick_two lower_b hab (by have e : mostT = 1099511627776 := rfl; omega) (by omega) (by have e : Rm.mostB = 1048576 := rfl; omega)] at h
  exact h
theorem calls_both (a b c : Nat) (hab : a ≤ b) (hb : b ≤ 31) (hc : c ≤ 31) (V : World) : Calls Try.prog 10 #[.string (⟨#[66, 89, 84, 69, 83, 61]⟩ ++ (T a ++ ⟨#[45]⟩ ++ T b) ++ ⟨#[44, 32, 48, 45, 48]⟩), .int .i64 (c : Int)] V
    fun e w' => (∃ q0 q1 n, e = .returned (.tuple #[.agg #[.int .i64 q0, .int .i64 q1], .int .i64 n]) ∧ (a < c → q0 = 0 ∧ q1 = 0 ∧ n = 0)) ∧ Below V.heap.size V w' := by
  have h1 := T_le a (by omega)
  have h2 := T_le b hb
  have h := pick_any (⟨#[66, 89, 84, 69, 83, 61]⟩ ++ (T a ++ ⟨#[45]⟩ ++ T b) ++ ⟨#[44, 32, 48, 45, 48]⟩) c V (by simp only [ByteArray.size_append]; have e1 : (⟨#[66, 89, 84, 69, 83, 61]⟩ : ByteArray).size = 6 := rfl; have e2 : (⟨#[45]⟩ : ByteArray).size = 1 := rfl; have e3 : (⟨#[44, 32, 48, 45, 48]⟩ : ByteArray).size = 5 := rfl; omega)
  rw [text_both] at h
  refine h.mono ?_
  rintro e w' ⟨he, hb'⟩
  refine ⟨⟨_, _, _, he, fun hac => ?_⟩, hb'⟩
  rw [pick_both lower_B hab (by have e : mostT = 1099511627776 := rfl; omega) (by omega) (by have e : Rm.mostB = 1048576 := rfl; omega)]
  exact ⟨rfl, rfl, rfl⟩
theorem calls_last (a c : Nat) (ha : a ≤ 31) (hc : c ≤ 31) (V : World) : Calls Try.prog 10 #[.string (⟨#[98, 121, 116, 101, 115, 61, 45]⟩ ++ T a), .int .i64 (c : Int)] V
    fun e w' => e = .returned (pickV (if a = 0 ∨ (c : Int) = 0 then ((0, 0), 2) else ((if (a : Int) < c then (c : Int) - a else 0, (c : Int)), 1))) ∧ Below V.heap.size V w' := by
  have h1 := T_le a ha
  have h := pick_any (⟨#[98, 121, 116, 101, 115, 61, 45]⟩ ++ T a) c V (by simp only [ByteArray.size_append]; have e1 : (⟨#[98, 121, 116, 101, 115, 61, 45]⟩ : ByteArray).size = 7 := rfl; omega)
  rw [text_last, pick_last lower_b (by have e : mostT = 1099511627776 := rfl; omega) (by omega) (by have e : Rm.mostB = 1048576 := rfl; omega)] at h
  exact h
set_option maxHeartbeats 16000000 in
set_option maxRecDepth 100000 in
theorem walk (a0 : Int) (w0 : (Lit.int .i64 a0).wf = true) (a1 : Int) (w1 : (Lit.int .i64 a1).wf = true) (a2 : Int) (w2 : (Lit.int .i64 a2).wf = true) (w : World) :
    Calls Try.prog 4 #[.int .i64 a0, .int .i64 a1, .int .i64 a2] w fun e w' => e = .returned (.bool true) ∧ Below w.heap.size w w' := by
  clear w0 w1 w2
  obtain ⟨n, hn, hn2⟩ := mask_nat a0 31 (by omega)
  obtain ⟨m, hm, hm2⟩ := mask_nat a1 31 (by omega)
  obtain ⟨c, hc, hc2⟩ := mask_nat a2 31 (by omega)
  have hn' : bits BinOp.and IntKind.i64 a0 31 = (n : Int) := hn
  have hm' : bits BinOp.and IntKind.i64 a1 31 = (m : Int) := hm
  have hc' : bits BinOp.and IntKind.i64 a2 31 = (c : Int) := hc
  clear hn hm hc
  by_cases hnm : m < n
  · have hord : (m : Int) < n := by omega
    have HN := Lib.hid (fun V => show Calls Try.prog 12 #[.int .i64 (m : Int)] V fun e w' => e = .returned (.string (T m)) ∧ V = w' from numDec_any 9 m V (by omega) (by omega))
    have HM := Lib.hid (fun V => show Calls Try.prog 12 #[.int .i64 (n : Int)] V fun e w' => e = .returned (.string (T n)) ∧ V = w' from numDec_any 9 n V (by omega) (by omega))
    have sa := T_le m (by omega)
    have sb := T_le n (by omega)
    have H1 := Lib.hid (fun V => calls_two m n c (by omega) (by omega) (by omega) V)
    have H2 := Lib.hid (fun V => calls_both m n c (by omega) (by omega) (by omega) V)
    have H3 := Lib.hid (fun V => calls_last m c (by omega) (by omega) V)
    by_cases hac : (m : Int) < c
    · by_cases hbc : (n : Int) + 1 ≤ c
      · by_cases ha0 : (m : Int) = 0
        · have P1 := Lib.hid (fun V => show Calls Try.prog 10 #[.string (⟨#[98, 121, 116, 101, 115, 61]⟩ ++ (T m ++ ⟨#[45]⟩ ++ T n)), .int .i64 (c : Int)] V fun e w' => e = .returned (.tuple #[.agg #[.int .i64 ((m : Int)), .int .i64 ((n : Int) + 1)], .int .i64 (1)]) ∧ Below V.heap.size V w' from by
            have h := H1.out V
            rw [show (if (m : Int) < c then (((m : Int), if (n : Int) + 1 ≤ c then (n : Int) + 1 else (c : Int)), (1 : Int)) else ((0, 0), 2)) = (((m : Int), (n : Int) + 1), 1) from by ((repeat' split) <;> first | rfl | (exfalso; omega))] at h
            exact h)
          have P3 := Lib.hid (fun V => show Calls Try.prog 10 #[.string (⟨#[98, 121, 116, 101, 115, 61, 45]⟩ ++ T m), .int .i64 (c : Int)] V fun e w' => e = .returned (.tuple #[.agg #[.int .i64 (0), .int .i64 (0)], .int .i64 (2)]) ∧ Below V.heap.size V w' from by
            have h := H3.out V
            rw [show (if m = 0 ∨ (c : Int) = 0 then ((0, 0), 2) else ((if (m : Int) < c then (c : Int) - m else 0, (c : Int)), (1 : Int))) = ((0, 0), 2) from by ((repeat' split) <;> first | rfl | (exfalso; omega))] at h
            exact h)
          have be : ((m : Int) == 0) = true := by rw [ha0]; rfl
          clear ha0
          clear H1 H3
          go_enter Try.func4, Try.ntmps4
          go_wp2_with fail
          refine (HN.out _).mono ?_
          rintro e w1 ⟨rfl, rfl⟩
          go_wp2_with fail
          refine (HM.out _).mono ?_
          rintro e w1 ⟨rfl, rfl⟩
          go_wp2_with fail
          refine (P1.out _).mono ?_
          rintro e w1 ⟨rfl, hb⟩
          have K1 := Lib.hid (((Kp.start (w := w)).more hb).new ((m : Int)) ((n : Int) + 1) 31)
          clear hb P1
          go_wp2_with fail
          refine (H2.out _).mono ?_
          rintro e w2 ⟨⟨q0, q1, qn, rfl, hq⟩, hb⟩
          have K2 := Lib.hid ((K1.out.more hb).new q0 q1 31)
          clear hb H2 K1
          go_wp2_with fail
          refine (HN.out _).mono ?_
          rintro e w3 ⟨rfl, rfl⟩
          go_wp2_with fail
          refine (P3.out _).mono ?_
          rintro e w3 ⟨rfl, hb⟩
          have K3 := Lib.hid ((K2.out.more hb).new (0) (0) 31)
          clear hb P3 K2 HN HM
          have x0 := K3.out.c0 (g := w1.heap.size) (x := (m : Int)) (y := (n : Int) + 1) (t := 31) (by simp)
          have x1 := K3.out.c1 (g := w1.heap.size) (x := (m : Int)) (y := (n : Int) + 1) (t := 31) (by simp)
          have y0 := K3.out.c0 (g := w2.heap.size) (x := q0) (y := q1) (t := 31) (by simp)
          have y1 := K3.out.c1 (g := w2.heap.size) (x := q0) (y := q1) (t := 31) (by simp)
          obtain ⟨rfl, rfl, rfl⟩ := hq (by omega)
          go_wp2_with fail
          all_goals
            go_ret
            exact ⟨by first | rfl | simp, K3.out.bel⟩
        · have P1 := Lib.hid (fun V => show Calls Try.prog 10 #[.string (⟨#[98, 121, 116, 101, 115, 61]⟩ ++ (T m ++ ⟨#[45]⟩ ++ T n)), .int .i64 (c : Int)] V fun e w' => e = .returned (.tuple #[.agg #[.int .i64 ((m : Int)), .int .i64 ((n : Int) + 1)], .int .i64 (1)]) ∧ Below V.heap.size V w' from by
            have h := H1.out V
            rw [show (if (m : Int) < c then (((m : Int), if (n : Int) + 1 ≤ c then (n : Int) + 1 else (c : Int)), (1 : Int)) else ((0, 0), 2)) = (((m : Int), (n : Int) + 1), 1) from by ((repeat' split) <;> first | rfl | (exfalso; omega))] at h
            exact h)
          have P3 := Lib.hid (fun V => show Calls Try.prog 10 #[.string (⟨#[98, 121, 116, 101, 115, 61, 45]⟩ ++ T m), .int .i64 (c : Int)] V fun e w' => e = .returned (.tuple #[.agg #[.int .i64 ((c : Int) - m), .int .i64 ((c : Int))], .int .i64 (1)]) ∧ Below V.heap.size V w' from by
            have h := H3.out V
            rw [show (if m = 0 ∨ (c : Int) = 0 then ((0, 0), 2) else ((if (m : Int) < c then (c : Int) - m else 0, (c : Int)), (1 : Int))) = (((c : Int) - m, (c : Int)), 1) from by ((repeat' split) <;> first | rfl | (exfalso; omega))] at h
            exact h)
          have be : ((m : Int) == 0) = false := by rw [beq_eq_false_iff_ne]; exact ha0
          have ce : ((c : Int) == 0) = false := by rw [beq_eq_false_iff_ne]; omega
          clear H1 H3
          go_enter Try.func4, Try.ntmps4
          go_wp2_with fail
          refine (HN.out _).mono ?_
          rintro e w1 ⟨rfl, rfl⟩
          go_wp2_with fail
          refine (HM.out _).mono ?_
          rintro e w1 ⟨rfl, rfl⟩
          go_wp2_with fail
          refine (P1.out _).mono ?_
          rintro e w1 ⟨rfl, hb⟩
          have K1 := Lib.hid (((Kp.start (w := w)).more hb).new ((m : Int)) ((n : Int) + 1) 31)
          clear hb P1
          go_wp2_with fail
          refine (H2.out _).mono ?_
          rintro e w2 ⟨⟨q0, q1, qn, rfl, hq⟩, hb⟩
          have K2 := Lib.hid ((K1.out.more hb).new q0 q1 31)
          clear hb H2 K1
          go_wp2_with fail
          refine (HN.out _).mono ?_
          rintro e w3 ⟨rfl, rfl⟩
          go_wp2_with fail
          refine (P3.out _).mono ?_
          rintro e w3 ⟨rfl, hb⟩
          have K3 := Lib.hid ((K2.out.more hb).new ((c : Int) - m) ((c : Int)) 31)
          clear hb P3 K2 HN HM
          have x0 := K3.out.c0 (g := w1.heap.size) (x := (m : Int)) (y := (n : Int) + 1) (t := 31) (by simp)
          have x1 := K3.out.c1 (g := w1.heap.size) (x := (m : Int)) (y := (n : Int) + 1) (t := 31) (by simp)
          have y0 := K3.out.c0 (g := w2.heap.size) (x := q0) (y := q1) (t := 31) (by simp)
          have y1 := K3.out.c1 (g := w2.heap.size) (x := q0) (y := q1) (t := 31) (by simp)
          obtain ⟨rfl, rfl, rfl⟩ := hq (by omega)
          go_wp2_with fail
          all_goals
            go_ret
            exact ⟨by first | rfl | simp, K3.out.bel⟩
      · by_cases ha0 : (m : Int) = 0
        · have P1 := Lib.hid (fun V => show Calls Try.prog 10 #[.string (⟨#[98, 121, 116, 101, 115, 61]⟩ ++ (T m ++ ⟨#[45]⟩ ++ T n)), .int .i64 (c : Int)] V fun e w' => e = .returned (.tuple #[.agg #[.int .i64 ((m : Int)), .int .i64 ((c : Int))], .int .i64 (1)]) ∧ Below V.heap.size V w' from by
            have h := H1.out V
            rw [show (if (m : Int) < c then (((m : Int), if (n : Int) + 1 ≤ c then (n : Int) + 1 else (c : Int)), (1 : Int)) else ((0, 0), 2)) = (((m : Int), (c : Int)), 1) from by ((repeat' split) <;> first | rfl | (exfalso; omega))] at h
            exact h)
          have P3 := Lib.hid (fun V => show Calls Try.prog 10 #[.string (⟨#[98, 121, 116, 101, 115, 61, 45]⟩ ++ T m), .int .i64 (c : Int)] V fun e w' => e = .returned (.tuple #[.agg #[.int .i64 (0), .int .i64 (0)], .int .i64 (2)]) ∧ Below V.heap.size V w' from by
            have h := H3.out V
            rw [show (if m = 0 ∨ (c : Int) = 0 then ((0, 0), 2) else ((if (m : Int) < c then (c : Int) - m else 0, (c : Int)), (1 : Int))) = ((0, 0), 2) from by ((repeat' split) <;> first | rfl | (exfalso; omega))] at h
            exact h)
          have be : ((m : Int) == 0) = true := by rw [ha0]; rfl
          clear ha0
          clear H1 H3
          go_enter Try.func4, Try.ntmps4
          go_wp2_with fail
          refine (HN.out _).mono ?_
          rintro e w1 ⟨rfl, rfl⟩
          go_wp2_with fail
          refine (HM.out _).mono ?_
          rintro e w1 ⟨rfl, rfl⟩
          go_wp2_with fail
          refine (P1.out _).mono ?_
          rintro e w1 ⟨rfl, hb⟩
          have K1 := Lib.hid (((Kp.start (w := w)).more hb).new ((m : Int)) ((c : Int)) 31)
          clear hb P1
          go_wp2_with fail
          refine (H2.out _).mono ?_
          rintro e w2 ⟨⟨q0, q1, qn, rfl, hq⟩, hb⟩
          have K2 := Lib.hid ((K1.out.more hb).new q0 q1 31)
          clear hb H2 K1
          go_wp2_with fail
          refine (HN.out _).mono ?_
          rintro e w3 ⟨rfl, rfl⟩
          go_wp2_with fail
          refine (P3.out _).mono ?_
          rintro e w3 ⟨rfl, hb⟩
          have K3 := Lib.hid ((K2.out.more hb).new (0) (0) 31)
          clear hb P3 K2 HN HM
          have x0 := K3.out.c0 (g := w1.heap.size) (x := (m : Int)) (y := (c : Int)) (t := 31) (by simp)
          have x1 := K3.out.c1 (g := w1.heap.size) (x := (m : Int)) (y := (c : Int)) (t := 31) (by simp)
          have y0 := K3.out.c0 (g := w2.heap.size) (x := q0) (y := q1) (t := 31) (by simp)
          have y1 := K3.out.c1 (g := w2.heap.size) (x := q0) (y := q1) (t := 31) (by simp)
          obtain ⟨rfl, rfl, rfl⟩ := hq (by omega)
          go_wp2_with fail
          all_goals
            go_ret
            exact ⟨by first | rfl | simp, K3.out.bel⟩
        · have P1 := Lib.hid (fun V => show Calls Try.prog 10 #[.string (⟨#[98, 121, 116, 101, 115, 61]⟩ ++ (T m ++ ⟨#[45]⟩ ++ T n)), .int .i64 (c : Int)] V fun e w' => e = .returned (.tuple #[.agg #[.int .i64 ((m : Int)), .int .i64 ((c : Int))], .int .i64 (1)]) ∧ Below V.heap.size V w' from by
            have h := H1.out V
            rw [show (if (m : Int) < c then (((m : Int), if (n : Int) + 1 ≤ c then (n : Int) + 1 else (c : Int)), (1 : Int)) else ((0, 0), 2)) = (((m : Int), (c : Int)), 1) from by ((repeat' split) <;> first | rfl | (exfalso; omega))] at h
            exact h)
          have P3 := Lib.hid (fun V => show Calls Try.prog 10 #[.string (⟨#[98, 121, 116, 101, 115, 61, 45]⟩ ++ T m), .int .i64 (c : Int)] V fun e w' => e = .returned (.tuple #[.agg #[.int .i64 ((c : Int) - m), .int .i64 ((c : Int))], .int .i64 (1)]) ∧ Below V.heap.size V w' from by
            have h := H3.out V
            rw [show (if m = 0 ∨ (c : Int) = 0 then ((0, 0), 2) else ((if (m : Int) < c then (c : Int) - m else 0, (c : Int)), (1 : Int))) = (((c : Int) - m, (c : Int)), 1) from by ((repeat' split) <;> first | rfl | (exfalso; omega))] at h
            exact h)
          have be : ((m : Int) == 0) = false := by rw [beq_eq_false_iff_ne]; exact ha0
          have ce : ((c : Int) == 0) = false := by rw [beq_eq_false_iff_ne]; omega
          clear H1 H3
          go_enter Try.func4, Try.ntmps4
          go_wp2_with fail
          refine (HN.out _).mono ?_
          rintro e w1 ⟨rfl, rfl⟩
          go_wp2_with fail
          refine (HM.out _).mono ?_
          rintro e w1 ⟨rfl, rfl⟩
          go_wp2_with fail
          refine (P1.out _).mono ?_
          rintro e w1 ⟨rfl, hb⟩
          have K1 := Lib.hid (((Kp.start (w := w)).more hb).new ((m : Int)) ((c : Int)) 31)
          clear hb P1
          go_wp2_with fail
          refine (H2.out _).mono ?_
          rintro e w2 ⟨⟨q0, q1, qn, rfl, hq⟩, hb⟩
          have K2 := Lib.hid ((K1.out.more hb).new q0 q1 31)
          clear hb H2 K1
          go_wp2_with fail
          refine (HN.out _).mono ?_
          rintro e w3 ⟨rfl, rfl⟩
          go_wp2_with fail
          refine (P3.out _).mono ?_
          rintro e w3 ⟨rfl, hb⟩
          have K3 := Lib.hid ((K2.out.more hb).new ((c : Int) - m) ((c : Int)) 31)
          clear hb P3 K2 HN HM
          have x0 := K3.out.c0 (g := w1.heap.size) (x := (m : Int)) (y := (c : Int)) (t := 31) (by simp)
          have x1 := K3.out.c1 (g := w1.heap.size) (x := (m : Int)) (y := (c : Int)) (t := 31) (by simp)
          have y0 := K3.out.c0 (g := w2.heap.size) (x := q0) (y := q1) (t := 31) (by simp)
          have y1 := K3.out.c1 (g := w2.heap.size) (x := q0) (y := q1) (t := 31) (by simp)
          obtain ⟨rfl, rfl, rfl⟩ := hq (by omega)
          go_wp2_with fail
          all_goals
            go_ret
            exact ⟨by first | rfl | simp, K3.out.bel⟩
    · by_cases ha0 : m = 0 ∨ (c : Int) = 0
      · have P1 := Lib.hid (fun V => show Calls Try.prog 10 #[.string (⟨#[98, 121, 116, 101, 115, 61]⟩ ++ (T m ++ ⟨#[45]⟩ ++ T n)), .int .i64 (c : Int)] V fun e w' => e = .returned (.tuple #[.agg #[.int .i64 (0), .int .i64 (0)], .int .i64 (2)]) ∧ Below V.heap.size V w' from by
          have h := H1.out V
          rw [show (if (m : Int) < c then (((m : Int), if (n : Int) + 1 ≤ c then (n : Int) + 1 else (c : Int)), (1 : Int)) else ((0, 0), 2)) = ((0, 0), 2) from by ((repeat' split) <;> first | rfl | (exfalso; omega))] at h
          exact h)
        have P3 := Lib.hid (fun V => show Calls Try.prog 10 #[.string (⟨#[98, 121, 116, 101, 115, 61, 45]⟩ ++ T m), .int .i64 (c : Int)] V fun e w' => e = .returned (.tuple #[.agg #[.int .i64 (0), .int .i64 (0)], .int .i64 (2)]) ∧ Below V.heap.size V w' from by
          have h := H3.out V
          rw [show (if m = 0 ∨ (c : Int) = 0 then ((0, 0), 2) else ((if (m : Int) < c then (c : Int) - m else 0, (c : Int)), (1 : Int))) = ((0, 0), 2) from by ((repeat' split) <;> first | rfl | (exfalso; omega))] at h
          exact h)
        have be : ((m : Int) == 0 || (c : Int) == 0) = true := by simp; omega
        clear ha0
        clear H1 H3
        go_enter Try.func4, Try.ntmps4
        go_wp2_with fail
        refine (HN.out _).mono ?_
        rintro e w1 ⟨rfl, rfl⟩
        go_wp2_with fail
        refine (HM.out _).mono ?_
        rintro e w1 ⟨rfl, rfl⟩
        go_wp2_with fail
        refine (P1.out _).mono ?_
        rintro e w1 ⟨rfl, hb⟩
        have K1 := Lib.hid (((Kp.start (w := w)).more hb).new (0) (0) 31)
        clear hb P1
        go_wp2_with fail
        refine (H2.out _).mono ?_
        rintro e w2 ⟨⟨q0, q1, qn, rfl, hq⟩, hb⟩
        have K2 := Lib.hid ((K1.out.more hb).new q0 q1 31)
        clear hb H2 K1
        go_wp2_with fail
        refine (HN.out _).mono ?_
        rintro e w3 ⟨rfl, rfl⟩
        go_wp2_with fail
        refine (P3.out _).mono ?_
        rintro e w3 ⟨rfl, hb⟩
        have K3 := Lib.hid ((K2.out.more hb).new (0) (0) 31)
        clear hb P3 K2 HN HM
        have x0 := K3.out.c0 (g := w1.heap.size) (x := 0) (y := 0) (t := 31) (by simp)
        have x1 := K3.out.c1 (g := w1.heap.size) (x := 0) (y := 0) (t := 31) (by simp)
        have y0 := K3.out.c0 (g := w2.heap.size) (x := q0) (y := q1) (t := 31) (by simp)
        have y1 := K3.out.c1 (g := w2.heap.size) (x := q0) (y := q1) (t := 31) (by simp)
        go_wp2_with fail
        all_goals
          go_ret
          exact ⟨by first | rfl | simp, K3.out.bel⟩
      · have P1 := Lib.hid (fun V => show Calls Try.prog 10 #[.string (⟨#[98, 121, 116, 101, 115, 61]⟩ ++ (T m ++ ⟨#[45]⟩ ++ T n)), .int .i64 (c : Int)] V fun e w' => e = .returned (.tuple #[.agg #[.int .i64 (0), .int .i64 (0)], .int .i64 (2)]) ∧ Below V.heap.size V w' from by
          have h := H1.out V
          rw [show (if (m : Int) < c then (((m : Int), if (n : Int) + 1 ≤ c then (n : Int) + 1 else (c : Int)), (1 : Int)) else ((0, 0), 2)) = ((0, 0), 2) from by ((repeat' split) <;> first | rfl | (exfalso; omega))] at h
          exact h)
        have P3 := Lib.hid (fun V => show Calls Try.prog 10 #[.string (⟨#[98, 121, 116, 101, 115, 61, 45]⟩ ++ T m), .int .i64 (c : Int)] V fun e w' => e = .returned (.tuple #[.agg #[.int .i64 (0), .int .i64 ((c : Int))], .int .i64 (1)]) ∧ Below V.heap.size V w' from by
          have h := H3.out V
          rw [show (if m = 0 ∨ (c : Int) = 0 then ((0, 0), 2) else ((if (m : Int) < c then (c : Int) - m else 0, (c : Int)), (1 : Int))) = ((0, (c : Int)), 1) from by ((repeat' split) <;> first | rfl | (exfalso; omega))] at h
          exact h)
        have be : ((m : Int) == 0) = false := by rw [beq_eq_false_iff_ne]; omega
        have ce : ((c : Int) == 0) = false := by rw [beq_eq_false_iff_ne]; omega
        clear H1 H3
        go_enter Try.func4, Try.ntmps4
        go_wp2_with fail
        refine (HN.out _).mono ?_
        rintro e w1 ⟨rfl, rfl⟩
        go_wp2_with fail
        refine (HM.out _).mono ?_
        rintro e w1 ⟨rfl, rfl⟩
        go_wp2_with fail
        refine (P1.out _).mono ?_
        rintro e w1 ⟨rfl, hb⟩
        have K1 := Lib.hid (((Kp.start (w := w)).more hb).new (0) (0) 31)
        clear hb P1
        go_wp2_with fail
        refine (H2.out _).mono ?_
        rintro e w2 ⟨⟨q0, q1, qn, rfl, hq⟩, hb⟩
        have K2 := Lib.hid ((K1.out.more hb).new q0 q1 31)
        clear hb H2 K1
        go_wp2_with fail
        refine (HN.out _).mono ?_
        rintro e w3 ⟨rfl, rfl⟩
        go_wp2_with fail
        refine (P3.out _).mono ?_
        rintro e w3 ⟨rfl, hb⟩
        have K3 := Lib.hid ((K2.out.more hb).new (0) ((c : Int)) 31)
        clear hb P3 K2 HN HM
        have x0 := K3.out.c0 (g := w1.heap.size) (x := 0) (y := 0) (t := 31) (by simp)
        have x1 := K3.out.c1 (g := w1.heap.size) (x := 0) (y := 0) (t := 31) (by simp)
        have y0 := K3.out.c0 (g := w2.heap.size) (x := q0) (y := q1) (t := 31) (by simp)
        have y1 := K3.out.c1 (g := w2.heap.size) (x := q0) (y := q1) (t := 31) (by simp)
        go_wp2_with fail
        all_goals
          go_ret
          exact ⟨by first | rfl | simp, K3.out.bel⟩
  · have hord : ¬ (m : Int) < n := by omega
    have HN := Lib.hid (fun V => show Calls Try.prog 12 #[.int .i64 (n : Int)] V fun e w' => e = .returned (.string (T n)) ∧ V = w' from numDec_any 9 n V (by omega) (by omega))
    have HM := Lib.hid (fun V => show Calls Try.prog 12 #[.int .i64 (m : Int)] V fun e w' => e = .returned (.string (T m)) ∧ V = w' from numDec_any 9 m V (by omega) (by omega))
    have sa := T_le n (by omega)
    have sb := T_le m (by omega)
    have H1 := Lib.hid (fun V => calls_two n m c (by omega) (by omega) (by omega) V)
    have H2 := Lib.hid (fun V => calls_both n m c (by omega) (by omega) (by omega) V)
    have H3 := Lib.hid (fun V => calls_last n c (by omega) (by omega) V)
    by_cases hac : (n : Int) < c
    · by_cases hbc : (m : Int) + 1 ≤ c
      · by_cases ha0 : (n : Int) = 0
        · have P1 := Lib.hid (fun V => show Calls Try.prog 10 #[.string (⟨#[98, 121, 116, 101, 115, 61]⟩ ++ (T n ++ ⟨#[45]⟩ ++ T m)), .int .i64 (c : Int)] V fun e w' => e = .returned (.tuple #[.agg #[.int .i64 ((n : Int)), .int .i64 ((m : Int) + 1)], .int .i64 (1)]) ∧ Below V.heap.size V w' from by
            have h := H1.out V
            rw [show (if (n : Int) < c then (((n : Int), if (m : Int) + 1 ≤ c then (m : Int) + 1 else (c : Int)), (1 : Int)) else ((0, 0), 2)) = (((n : Int), (m : Int) + 1), 1) from by ((repeat' split) <;> first | rfl | (exfalso; omega))] at h
            exact h)
          have P3 := Lib.hid (fun V => show Calls Try.prog 10 #[.string (⟨#[98, 121, 116, 101, 115, 61, 45]⟩ ++ T n), .int .i64 (c : Int)] V fun e w' => e = .returned (.tuple #[.agg #[.int .i64 (0), .int .i64 (0)], .int .i64 (2)]) ∧ Below V.heap.size V w' from by
            have h := H3.out V
            rw [show (if n = 0 ∨ (c : Int) = 0 then ((0, 0), 2) else ((if (n : Int) < c then (c : Int) - n else 0, (c : Int)), (1 : Int))) = ((0, 0), 2) from by ((repeat' split) <;> first | rfl | (exfalso; omega))] at h
            exact h)
          have be : ((n : Int) == 0) = true := by rw [ha0]; rfl
          clear ha0
          clear H1 H3
          go_enter Try.func4, Try.ntmps4
          go_wp2_with fail
          refine (HN.out _).mono ?_
          rintro e w1 ⟨rfl, rfl⟩
          go_wp2_with fail
          refine (HM.out _).mono ?_
          rintro e w1 ⟨rfl, rfl⟩
          go_wp2_with fail
          refine (P1.out _).mono ?_
          rintro e w1 ⟨rfl, hb⟩
          have K1 := Lib.hid (((Kp.start (w := w)).more hb).new ((n : Int)) ((m : Int) + 1) 31)
          clear hb P1
          go_wp2_with fail
          refine (H2.out _).mono ?_
          rintro e w2 ⟨⟨q0, q1, qn, rfl, hq⟩, hb⟩
          have K2 := Lib.hid ((K1.out.more hb).new q0 q1 31)
          clear hb H2 K1
          go_wp2_with fail
          refine (HN.out _).mono ?_
          rintro e w3 ⟨rfl, rfl⟩
          go_wp2_with fail
          refine (P3.out _).mono ?_
          rintro e w3 ⟨rfl, hb⟩
          have K3 := Lib.hid ((K2.out.more hb).new (0) (0) 31)
          clear hb P3 K2 HN HM
          have x0 := K3.out.c0 (g := w1.heap.size) (x := (n : Int)) (y := (m : Int) + 1) (t := 31) (by simp)
          have x1 := K3.out.c1 (g := w1.heap.size) (x := (n : Int)) (y := (m : Int) + 1) (t := 31) (by simp)
          have y0 := K3.out.c0 (g := w2.heap.size) (x := q0) (y := q1) (t := 31) (by simp)
          have y1 := K3.out.c1 (g := w2.heap.size) (x := q0) (y := q1) (t := 31) (by simp)
          obtain ⟨rfl, rfl, rfl⟩ := hq (by omega)
          go_wp2_with fail
          all_goals
            go_ret
            exact ⟨by first | rfl | simp, K3.out.bel⟩
        · have P1 := Lib.hid (fun V => show Calls Try.prog 10 #[.string (⟨#[98, 121, 116, 101, 115, 61]⟩ ++ (T n ++ ⟨#[45]⟩ ++ T m)), .int .i64 (c : Int)] V fun e w' => e = .returned (.tuple #[.agg #[.int .i64 ((n : Int)), .int .i64 ((m : Int) + 1)], .int .i64 (1)]) ∧ Below V.heap.size V w' from by
            have h := H1.out V
            rw [show (if (n : Int) < c then (((n : Int), if (m : Int) + 1 ≤ c then (m : Int) + 1 else (c : Int)), (1 : Int)) else ((0, 0), 2)) = (((n : Int), (m : Int) + 1), 1) from by ((repeat' split) <;> first | rfl | (exfalso; omega))] at h
            exact h)
          have P3 := Lib.hid (fun V => show Calls Try.prog 10 #[.string (⟨#[98, 121, 116, 101, 115, 61, 45]⟩ ++ T n), .int .i64 (c : Int)] V fun e w' => e = .returned (.tuple #[.agg #[.int .i64 ((c : Int) - n), .int .i64 ((c : Int))], .int .i64 (1)]) ∧ Below V.heap.size V w' from by
            have h := H3.out V
            rw [show (if n = 0 ∨ (c : Int) = 0 then ((0, 0), 2) else ((if (n : Int) < c then (c : Int) - n else 0, (c : Int)), (1 : Int))) = (((c : Int) - n, (c : Int)), 1) from by ((repeat' split) <;> first | rfl | (exfalso; omega))] at h
            exact h)
          have be : ((n : Int) == 0) = false := by rw [beq_eq_false_iff_ne]; exact ha0
          have ce : ((c : Int) == 0) = false := by rw [beq_eq_false_iff_ne]; omega
          clear H1 H3
          go_enter Try.func4, Try.ntmps4
          go_wp2_with fail
          refine (HN.out _).mono ?_
          rintro e w1 ⟨rfl, rfl⟩
          go_wp2_with fail
          refine (HM.out _).mono ?_
          rintro e w1 ⟨rfl, rfl⟩
          go_wp2_with fail
          refine (P1.out _).mono ?_
          rintro e w1 ⟨rfl, hb⟩
          have K1 := Lib.hid (((Kp.start (w := w)).more hb).new ((n : Int)) ((m : Int) + 1) 31)
          clear hb P1
          go_wp2_with fail
          refine (H2.out _).mono ?_
          rintro e w2 ⟨⟨q0, q1, qn, rfl, hq⟩, hb⟩
          have K2 := Lib.hid ((K1.out.more hb).new q0 q1 31)
          clear hb H2 K1
          go_wp2_with fail
          refine (HN.out _).mono ?_
          rintro e w3 ⟨rfl, rfl⟩
          go_wp2_with fail
          refine (P3.out _).mono ?_
          rintro e w3 ⟨rfl, hb⟩
          have K3 := Lib.hid ((K2.out.more hb).new ((c : Int) - n) ((c : Int)) 31)
          clear hb P3 K2 HN HM
          have x0 := K3.out.c0 (g := w1.heap.size) (x := (n : Int)) (y := (m : Int) + 1) (t := 31) (by simp)
          have x1 := K3.out.c1 (g := w1.heap.size) (x := (n : Int)) (y := (m : Int) + 1) (t := 31) (by simp)
          have y0 := K3.out.c0 (g := w2.heap.size) (x := q0) (y := q1) (t := 31) (by simp)
          have y1 := K3.out.c1 (g := w2.heap.size) (x := q0) (y := q1) (t := 31) (by simp)
          obtain ⟨rfl, rfl, rfl⟩ := hq (by omega)
          go_wp2_with fail
          all_goals
            go_ret
            exact ⟨by first | rfl | simp, K3.out.bel⟩
      · by_cases ha0 : (n : Int) = 0
        · have P1 := Lib.hid (fun V => show Calls Try.prog 10 #[.string (⟨#[98, 121, 116, 101, 115, 61]⟩ ++ (T n ++ ⟨#[45]⟩ ++ T m)), .int .i64 (c : Int)] V fun e w' => e = .returned (.tuple #[.agg #[.int .i64 ((n : Int)), .int .i64 ((c : Int))], .int .i64 (1)]) ∧ Below V.heap.size V w' from by
            have h := H1.out V
            rw [show (if (n : Int) < c then (((n : Int), if (m : Int) + 1 ≤ c then (m : Int) + 1 else (c : Int)), (1 : Int)) else ((0, 0), 2)) = (((n : Int), (c : Int)), 1) from by ((repeat' split) <;> first | rfl | (exfalso; omega))] at h
            exact h)
          have P3 := Lib.hid (fun V => show Calls Try.prog 10 #[.string (⟨#[98, 121, 116, 101, 115, 61, 45]⟩ ++ T n), .int .i64 (c : Int)] V fun e w' => e = .returned (.tuple #[.agg #[.int .i64 (0), .int .i64 (0)], .int .i64 (2)]) ∧ Below V.heap.size V w' from by
            have h := H3.out V
            rw [show (if n = 0 ∨ (c : Int) = 0 then ((0, 0), 2) else ((if (n : Int) < c then (c : Int) - n else 0, (c : Int)), (1 : Int))) = ((0, 0), 2) from by ((repeat' split) <;> first | rfl | (exfalso; omega))] at h
            exact h)
          have be : ((n : Int) == 0) = true := by rw [ha0]; rfl
          clear ha0
          clear H1 H3
          go_enter Try.func4, Try.ntmps4
          go_wp2_with fail
          refine (HN.out _).mono ?_
          rintro e w1 ⟨rfl, rfl⟩
          go_wp2_with fail
          refine (HM.out _).mono ?_
          rintro e w1 ⟨rfl, rfl⟩
          go_wp2_with fail
          refine (P1.out _).mono ?_
          rintro e w1 ⟨rfl, hb⟩
          have K1 := Lib.hid (((Kp.start (w := w)).more hb).new ((n : Int)) ((c : Int)) 31)
          clear hb P1
          go_wp2_with fail
          refine (H2.out _).mono ?_
          rintro e w2 ⟨⟨q0, q1, qn, rfl, hq⟩, hb⟩
          have K2 := Lib.hid ((K1.out.more hb).new q0 q1 31)
          clear hb H2 K1
          go_wp2_with fail
          refine (HN.out _).mono ?_
          rintro e w3 ⟨rfl, rfl⟩
          go_wp2_with fail
          refine (P3.out _).mono ?_
          rintro e w3 ⟨rfl, hb⟩
          have K3 := Lib.hid ((K2.out.more hb).new (0) (0) 31)
          clear hb P3 K2 HN HM
          have x0 := K3.out.c0 (g := w1.heap.size) (x := (n : Int)) (y := (c : Int)) (t := 31) (by simp)
          have x1 := K3.out.c1 (g := w1.heap.size) (x := (n : Int)) (y := (c : Int)) (t := 31) (by simp)
          have y0 := K3.out.c0 (g := w2.heap.size) (x := q0) (y := q1) (t := 31) (by simp)
          have y1 := K3.out.c1 (g := w2.heap.size) (x := q0) (y := q1) (t := 31) (by simp)
          obtain ⟨rfl, rfl, rfl⟩ := hq (by omega)
          go_wp2_with fail
          all_goals
            go_ret
            exact ⟨by first | rfl | simp, K3.out.bel⟩
        · have P1 := Lib.hid (fun V => show Calls Try.prog 10 #[.string (⟨#[98, 121, 116, 101, 115, 61]⟩ ++ (T n ++ ⟨#[45]⟩ ++ T m)), .int .i64 (c : Int)] V fun e w' => e = .returned (.tuple #[.agg #[.int .i64 ((n : Int)), .int .i64 ((c : Int))], .int .i64 (1)]) ∧ Below V.heap.size V w' from by
            have h := H1.out V
            rw [show (if (n : Int) < c then (((n : Int), if (m : Int) + 1 ≤ c then (m : Int) + 1 else (c : Int)), (1 : Int)) else ((0, 0), 2)) = (((n : Int), (c : Int)), 1) from by ((repeat' split) <;> first | rfl | (exfalso; omega))] at h
            exact h)
          have P3 := Lib.hid (fun V => show Calls Try.prog 10 #[.string (⟨#[98, 121, 116, 101, 115, 61, 45]⟩ ++ T n), .int .i64 (c : Int)] V fun e w' => e = .returned (.tuple #[.agg #[.int .i64 ((c : Int) - n), .int .i64 ((c : Int))], .int .i64 (1)]) ∧ Below V.heap.size V w' from by
            have h := H3.out V
            rw [show (if n = 0 ∨ (c : Int) = 0 then ((0, 0), 2) else ((if (n : Int) < c then (c : Int) - n else 0, (c : Int)), (1 : Int))) = (((c : Int) - n, (c : Int)), 1) from by ((repeat' split) <;> first | rfl | (exfalso; omega))] at h
            exact h)
          have be : ((n : Int) == 0) = false := by rw [beq_eq_false_iff_ne]; exact ha0
          have ce : ((c : Int) == 0) = false := by rw [beq_eq_false_iff_ne]; omega
          clear H1 H3
          go_enter Try.func4, Try.ntmps4
          go_wp2_with fail
          refine (HN.out _).mono ?_
          rintro e w1 ⟨rfl, rfl⟩
          go_wp2_with fail
          refine (HM.out _).mono ?_
          rintro e w1 ⟨rfl, rfl⟩
          go_wp2_with fail
          refine (P1.out _).mono ?_
          rintro e w1 ⟨rfl, hb⟩
          have K1 := Lib.hid (((Kp.start (w := w)).more hb).new ((n : Int)) ((c : Int)) 31)
          clear hb P1
          go_wp2_with fail
          refine (H2.out _).mono ?_
          rintro e w2 ⟨⟨q0, q1, qn, rfl, hq⟩, hb⟩
          have K2 := Lib.hid ((K1.out.more hb).new q0 q1 31)
          clear hb H2 K1
          go_wp2_with fail
          refine (HN.out _).mono ?_
          rintro e w3 ⟨rfl, rfl⟩
          go_wp2_with fail
          refine (P3.out _).mono ?_
          rintro e w3 ⟨rfl, hb⟩
          have K3 := Lib.hid ((K2.out.more hb).new ((c : Int) - n) ((c : Int)) 31)
          clear hb P3 K2 HN HM
          have x0 := K3.out.c0 (g := w1.heap.size) (x := (n : Int)) (y := (c : Int)) (t := 31) (by simp)
          have x1 := K3.out.c1 (g := w1.heap.size) (x := (n : Int)) (y := (c : Int)) (t := 31) (by simp)
          have y0 := K3.out.c0 (g := w2.heap.size) (x := q0) (y := q1) (t := 31) (by simp)
          have y1 := K3.out.c1 (g := w2.heap.size) (x := q0) (y := q1) (t := 31) (by simp)
          obtain ⟨rfl, rfl, rfl⟩ := hq (by omega)
          go_wp2_with fail
          all_goals
            go_ret
            exact ⟨by first | rfl | simp, K3.out.bel⟩
    · by_cases ha0 : n = 0 ∨ (c : Int) = 0
      · have P1 := Lib.hid (fun V => show Calls Try.prog 10 #[.string (⟨#[98, 121, 116, 101, 115, 61]⟩ ++ (T n ++ ⟨#[45]⟩ ++ T m)), .int .i64 (c : Int)] V fun e w' => e = .returned (.tuple #[.agg #[.int .i64 (0), .int .i64 (0)], .int .i64 (2)]) ∧ Below V.heap.size V w' from by
          have h := H1.out V
          rw [show (if (n : Int) < c then (((n : Int), if (m : Int) + 1 ≤ c then (m : Int) + 1 else (c : Int)), (1 : Int)) else ((0, 0), 2)) = ((0, 0), 2) from by ((repeat' split) <;> first | rfl | (exfalso; omega))] at h
          exact h)
        have P3 := Lib.hid (fun V => show Calls Try.prog 10 #[.string (⟨#[98, 121, 116, 101, 115, 61, 45]⟩ ++ T n), .int .i64 (c : Int)] V fun e w' => e = .returned (.tuple #[.agg #[.int .i64 (0), .int .i64 (0)], .int .i64 (2)]) ∧ Below V.heap.size V w' from by
          have h := H3.out V
          rw [show (if n = 0 ∨ (c : Int) = 0 then ((0, 0), 2) else ((if (n : Int) < c then (c : Int) - n else 0, (c : Int)), (1 : Int))) = ((0, 0), 2) from by ((repeat' split) <;> first | rfl | (exfalso; omega))] at h
          exact h)
        have be : ((n : Int) == 0 || (c : Int) == 0) = true := by simp; omega
        clear ha0
        clear H1 H3
        go_enter Try.func4, Try.ntmps4
        go_wp2_with fail
        refine (HN.out _).mono ?_
        rintro e w1 ⟨rfl, rfl⟩
        go_wp2_with fail
        refine (HM.out _).mono ?_
        rintro e w1 ⟨rfl, rfl⟩
        go_wp2_with fail
        refine (P1.out _).mono ?_
        rintro e w1 ⟨rfl, hb⟩
        have K1 := Lib.hid (((Kp.start (w := w)).more hb).new (0) (0) 31)
        clear hb P1
        go_wp2_with fail
        refine (H2.out _).mono ?_
        rintro e w2 ⟨⟨q0, q1, qn, rfl, hq⟩, hb⟩
        have K2 := Lib.hid ((K1.out.more hb).new q0 q1 31)
        clear hb H2 K1
        go_wp2_with fail
        refine (HN.out _).mono ?_
        rintro e w3 ⟨rfl, rfl⟩
        go_wp2_with fail
        refine (P3.out _).mono ?_
        rintro e w3 ⟨rfl, hb⟩
        have K3 := Lib.hid ((K2.out.more hb).new (0) (0) 31)
        clear hb P3 K2 HN HM
        have x0 := K3.out.c0 (g := w1.heap.size) (x := 0) (y := 0) (t := 31) (by simp)
        have x1 := K3.out.c1 (g := w1.heap.size) (x := 0) (y := 0) (t := 31) (by simp)
        have y0 := K3.out.c0 (g := w2.heap.size) (x := q0) (y := q1) (t := 31) (by simp)
        have y1 := K3.out.c1 (g := w2.heap.size) (x := q0) (y := q1) (t := 31) (by simp)
        go_wp2_with fail
        all_goals
          go_ret
          exact ⟨by first | rfl | simp, K3.out.bel⟩
      · have P1 := Lib.hid (fun V => show Calls Try.prog 10 #[.string (⟨#[98, 121, 116, 101, 115, 61]⟩ ++ (T n ++ ⟨#[45]⟩ ++ T m)), .int .i64 (c : Int)] V fun e w' => e = .returned (.tuple #[.agg #[.int .i64 (0), .int .i64 (0)], .int .i64 (2)]) ∧ Below V.heap.size V w' from by
          have h := H1.out V
          rw [show (if (n : Int) < c then (((n : Int), if (m : Int) + 1 ≤ c then (m : Int) + 1 else (c : Int)), (1 : Int)) else ((0, 0), 2)) = ((0, 0), 2) from by ((repeat' split) <;> first | rfl | (exfalso; omega))] at h
          exact h)
        have P3 := Lib.hid (fun V => show Calls Try.prog 10 #[.string (⟨#[98, 121, 116, 101, 115, 61, 45]⟩ ++ T n), .int .i64 (c : Int)] V fun e w' => e = .returned (.tuple #[.agg #[.int .i64 (0), .int .i64 ((c : Int))], .int .i64 (1)]) ∧ Below V.heap.size V w' from by
          have h := H3.out V
          rw [show (if n = 0 ∨ (c : Int) = 0 then ((0, 0), 2) else ((if (n : Int) < c then (c : Int) - n else 0, (c : Int)), (1 : Int))) = ((0, (c : Int)), 1) from by ((repeat' split) <;> first | rfl | (exfalso; omega))] at h
          exact h)
        have be : ((n : Int) == 0) = false := by rw [beq_eq_false_iff_ne]; omega
        have ce : ((c : Int) == 0) = false := by rw [beq_eq_false_iff_ne]; omega
        clear H1 H3
        go_enter Try.func4, Try.ntmps4
        go_wp2_with fail
        refine (HN.out _).mono ?_
        rintro e w1 ⟨rfl, rfl⟩
        go_wp2_with fail
        refine (HM.out _).mono ?_
        rintro e w1 ⟨rfl, rfl⟩
        go_wp2_with fail
        refine (P1.out _).mono ?_
        rintro e w1 ⟨rfl, hb⟩
        have K1 := Lib.hid (((Kp.start (w := w)).more hb).new (0) (0) 31)
        clear hb P1
        go_wp2_with fail
        refine (H2.out _).mono ?_
        rintro e w2 ⟨⟨q0, q1, qn, rfl, hq⟩, hb⟩
        have K2 := Lib.hid ((K1.out.more hb).new q0 q1 31)
        clear hb H2 K1
        go_wp2_with fail
        refine (HN.out _).mono ?_
        rintro e w3 ⟨rfl, rfl⟩
        go_wp2_with fail
        refine (P3.out _).mono ?_
        rintro e w3 ⟨rfl, hb⟩
        have K3 := Lib.hid ((K2.out.more hb).new (0) ((c : Int)) 31)
        clear hb P3 K2 HN HM
        have x0 := K3.out.c0 (g := w1.heap.size) (x := 0) (y := 0) (t := 31) (by simp)
        have x1 := K3.out.c1 (g := w1.heap.size) (x := 0) (y := 0) (t := 31) (by simp)
        have y0 := K3.out.c0 (g := w2.heap.size) (x := q0) (y := q1) (t := 31) (by simp)
        have y1 := K3.out.c1 (g := w2.heap.size) (x := q0) (y := q1) (t := 31) (by simp)
        go_wp2_with fail
        all_goals
          go_ret
          exact ⟨by first | rfl | simp, K3.out.bel⟩

set_option maxRecDepth 100000 in
theorem lifted (os : Os) (started : os.Started) (H : Type) (enc : TypeId × Value → H) :
    ReturnsInHanded {} Try.checked os 4 .any (Rows.rangesOneSpec.pre6 enc Try.prog Try.f4 Rows.rangesOneRow.domain false) (Rows.rangesOneSpec.post enc Try.prog Try.f4 false true false false) := by
  refine returnsInHanded_of_change_sized (C := Try.checked) own started (by kernel_rfl) Try.func4
    (ChangeSpec.witness6 (enc := enc) (C := Try.checked) false ⟨#[], #[.int .i64 0, .int .i64 0, .int .i64 0], []⟩ 8 (by kernel_rfl) (by kernel_rfl) (by kernel_rfl) (by kernel_rfl)) ?_
  intro W base args ds gs before hval0 hW hcnd hsz _
  have hval : ∀ (j : Nat) t v, Try.f4.params[j]? = some t → args[j]? = some v → Value.okWide Try.prog W .any base t v := hval0
  have hW' := hW
  obtain ⟨p, q, hA0, hV, rfl, hfz, hnd⟩ := hW
  have hA : DataW.TrodAll enc Try.prog W 0 (fun _ => true) true Try.f4.params.toList args.toList ds p := hA0
  rw [Try.params4] at hA hval hsz
  obtain ⟨v0, vs0, d0, ds0, p0, q0, hargs, rfl, rfl, h0, r0⟩ := trodAll_cons hA
  obtain ⟨v1, vs1, d1, ds1, p1, q1, rfl, rfl, rfl, h1, r1⟩ := trodAll_cons r0
  obtain ⟨v2, vs2, d2, ds2, p2, q2, rfl, rfl, rfl, h2, r2⟩ := trodAll_cons r1
  obtain ⟨rfl, rfl, rfl⟩ := trodAll_nil r2
  obtain rfl : args = #[v0, v1, v2] := by cases args; simp_all
  obtain ⟨rfl, rfl⟩ := trodVars_none hV
  obtain ⟨a0, rfl, rfl, rfl, w0⟩ := open_int Try.underlying3 (hval 0 3 v0 rfl rfl) h0
  obtain ⟨a1, rfl, rfl, rfl, w1⟩ := open_int Try.underlying3 (hval 1 3 v1 rfl rfl) h1
  obtain ⟨a2, rfl, rfl, rfl, w2⟩ := open_int Try.underlying3 (hval 2 3 v2 rfl rfl) h2
  clear hA0 hval0
  simp only [List.append_nil] at hW'
  refine (walk a0 w0 a1 w1 a2 w2 W).mono fun e W' ⟨he, bel⟩ => ?_
  subst he
  exact ⟨_, rfl, _, _, _, [], _, [], hW', trodAll_mk1 (shut_bool Try.underlying4 _), (trodAll_cons_mk (shut_int Try.underlying3 w0) (trodAll_cons_mk (shut_int Try.underlying3 w1) (trodAll_cons_mk (shut_int Try.underlying3 w2) trodAll_mk0))), rfl, bel.frame _, fun h => by cases h⟩

theorem over : Rows.rangesOneRow.holds Try.pinned (OpenSpec.ofChange Rows.rangesOneSpec) :=
  OpenClaim.holds_of_wide 4 Try.f4 rfl rfl rfl rfl rfl rfl rfl ⟨rfl, rfl, rfl, rfl, rfl⟩ rfl rfl rfl rfl rfl (by kernel_rfl) Try.func4 (by kernel_rfl)
    (of_decide_eq_true (by kernel_rfl)) (by unfold Func.isWrapper; first | (rw [if_pos (by decide +kernel)]; kernel_rfl) | (rw [if_neg (by decide +kernel)]; exact ⟨rfl, rfl⟩))
    (fun os started H enc _ => lifted os started H enc)

theorem proved : Rows.RangesOneSaid := over
end Go.Proofs.Ythhnpdihgoiccaa.rangesOne
