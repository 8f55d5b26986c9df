/-
  ranges.Content: what it returns. Condition: strconv's table holds what its initialiser lays.
-/
import Derived.Test.YthhnpdihgoiccaaDoorRnFits
import Derived.Test.YthhnpdihgoiccaaDoorRnItoa
import Derived.Test.YthhnpdihgoiccaaDoorRnKp
import Derived.Test.YthhnpdihgoiccaaDoorRgVal
import Derived.Deep.DeepCutAuto
import Derived.Deep.RegionHeld3
namespace Go.Proofs.YthhnpdihgoiccaaDoor.Rn
open Go.RowKit Go.Proofs.YthhnpdihgoiccaaDoor.Fd Go.Proofs.YthhnpdihgoiccaaDoor.Sn Go.Proofs.YthhnpdihgoiccaaDoor.Rm Go.Proofs.YthhnpdihgoiccaaDoor.Ct
set_option maxRecDepth 100000
set_option linter.unusedVariables false
set_option linter.unusedSimpArgs false

/-- A text, and the error: 2 for none. -/
def conV (o : Option Tk.Bs) : Value := match o with
  | some t => .tuple #[.string ⟨t.toArray⟩, .int .i64 0]
  | none => .tuple #[.string ⟨#[]⟩, .int .i64 2]
def T (n : Nat) : ByteArray := ⟨(decL n).toArray⟩
theorem T_le (n : Nat) (h : n ≤ 9999999) : (T n).size ≤ 10 := by
  show (decL n).toArray.size ≤ _; rw [List.size_toArray]; exact (decL_all 9 n (by omega)).len
structure KC (w : World) (a b : Nat) (W : World) : Prop where
  kp : Kp w [(w.heap.size, ((a : Int), (b : Int)), 23)] W
  p10 : Tb.P10 W
theorem KC.more {w : World} {a b : Nat} {W W' : World} (h : KC w a b W) (hb : Below W.heap.size W W') : KC w a b W' := ⟨h.kp.more hb, p10_below h.p10 hb (Nat.le_refl _)⟩
theorem KC.drew {w : World} {a b : Nat} {W : World} (h : KC w a b W) : KC w a b W.drew := h.more ((Below.refl W.heap.size W).drew)
theorem KC.cells {w : World} {a b : Nat} {W : World} (h : KC w a b W) : W.cell? ⟨w.heap.size, 0, none⟩ = some (.int .i64 (a : Int)) ∧ W.cell? ⟨w.heap.size, 1, none⟩ = some (.int .i64 (b : Int)) :=
  ⟨h.kp.c0 (x := (a : Int)) (y := (b : Int)) (t := 23) (by simp), h.kp.c1 (x := (a : Int)) (y := (b : Int)) (t := 23) (by simp)⟩
theorem con_text {p q l : ByteArray} {s t : Tk.Bs} (hp : p.data.toList = s) (hl : l.data.toList = t) : (⟨#[98, 121, 116, 101, 115, 32]⟩ ++ p ++ ⟨#[47]⟩ ++ l : ByteArray) = ⟨(bytL ++ (s ++ 47 :: t)).toArray⟩ := by
  have e : (⟨#[98, 121, 116, 101, 115, 32]⟩ ++ p ++ ⟨#[47]⟩ ++ l : ByteArray).data.toList = bytL ++ (s ++ 47 :: t) := by
    simp [hp, hl, bytL]
  have h2 := congrArg List.toArray e
  cases hh : (⟨#[98, 121, 116, 101, 115, 32]⟩ ++ p ++ ⟨#[47]⟩ ++ l : ByteArray) with
  | mk d => rw [hh] at h2; simp at h2; rw [h2]
theorem con_is {x y long : Int} (h : rightR (x, y) long = true) : contentOf (x, y) long = some (bytL ++ (spanT (x, y) ++ 47 :: longT long)) := by
  unfold contentOf
  rw [if_pos h]
theorem span_same (a b : Int) (h : a = b) : spanT (a, b) = [42] := by unfold spanT; rw [if_pos h]
theorem span_two (a b : Int) (h : ¬ a = b) : spanT (a, b) = decI a ++ 45 :: decI (b - 1) := by unfold spanT; rw [if_neg h]
theorem long_nat (c : Nat) : longT (c : Int) = decL c := by unfold longT decI; rw [if_pos (by omega), Int.toNat_natCast]
theorem long_none : longT (-1) = [42] := by decide
theorem con_not {x y long : Int} (h : rightR (x, y) long = false) : contentOf (x, y) long = none := by
  unfold contentOf
  rw [h]; rfl
set_option maxHeartbeats 8000000 in
theorem content_any (x y long : Int) (w : World) (hP : Tb.P10 w) :
    Calls Tryd.prog 5 #[.agg #[.int .i64 x, .int .i64 y], .int .i64 long] w fun e w' => e = .returned (conV (contentOf (x, y) long)) ∧ Below w.heap.size w w' := by
  cases hr : rightR (x, y) long with
  | false =>
    have HV := Lib.hid (con_not hr)
    have HF := Lib.hid (show ∀ V : World, Calls Tryd.prog 10 #[.agg #[.int .i64 x, .int .i64 y], .int .i64 long] V fun e w' => e = .returned (.bool false) ∧ Below V.heap.size V w' from fun V => by rw [← hr]; exact fits_any x y long V)
    have hb := (Below.refl w.heap.size w).alloc (Nat.le_refl _) (.cells #[.int .i64 x, .int .i64 y] 23)
    clear hr
    go_enter Tryd.func5, Tryd.ntmps5
    go_wp2_with fail
    refine (HF.out _).mono ?_
    rintro e w1 ⟨rfl, hb1⟩
    have HB := Lib.hid (Bl.next hb hb1)
    clear hb hb1
    go_wp2_with fail
    go_ret2
    exact ⟨by rw [HV.out]; rfl, HB.out⟩
  | true =>
    have HV := con_is hr
    obtain ⟨l0, l1, x0, xy, y1, ly, pos⟩ := right_iff.1 hr
    obtain ⟨a, rfl⟩ : ∃ a : Nat, x = (a : Int) := ⟨x.toNat, by omega⟩
    obtain ⟨b, rfl⟩ : ∃ b : Nat, y = (b : Int) := ⟨y.toNat, by omega⟩
    have HF := Lib.hid (show ∀ V : World, Calls Tryd.prog 10 #[.agg #[.int .i64 (a : Int), .int .i64 (b : Int)], .int .i64 long] V fun e w' => e = .returned (.bool true) ∧ Below V.heap.size V w' from fun V => by rw [← hr]; exact fits_any a b long V)
    have HK0 := Lib.hid (show KC w a b (w.alloc (.cells #[.int .i64 (a : Int), .int .i64 (b : Int)] 23)) from ⟨Kp.start.new _ _ _, p10_below hP ((Below.refl w.heap.size w).alloc (Nat.le_refl _) _) (Nat.le_refl _)⟩)
    have HI := Lib.hid (fun (n : Nat) (h : n ≤ 9999999) (V : World) (hp : Tb.P10 V) => (show Calls Tryd.prog 11 #[.int .i64 (n : Int)] V fun e w' => e = .returned (.string (T n)) ∧ Below V.heap.size V w' from itoa_any n V h hp))
    have sb := T_le (b - 1) (by omega)
    have sa := T_le a (by omega)
    clear hr hP
    go_enter Tryd.func5, Tryd.ntmps5
    go_wp2_with fail
    refine (HF.out _).mono ?_
    rintro e w1 ⟨rfl, hb1⟩
    have HK := Lib.hid (HK0.out.more hb1)
    clear hb1 HK0 HF
    have c0 := HK.out.cells.1
    have c1 := HK.out.cells.2
    by_cases hab : a < b
    · have habi : (a : Int) < b := by omega
      have HP := Lib.hid (show (T a ++ ⟨#[45]⟩ ++ T (b - 1) : ByteArray).data.toList = spanT ((a : Int), (b : Int)) from by
        rw [span_two _ _ (by omega)]
        have e : ((b : Int) - 1).toNat = b - 1 := by omega
        unfold T decI; rw [e]; simp)
      have hwr : IntKind.i64.wrap ((b : Int) - 1) = ((b - 1 : Nat) : Int) := by rw [IntWalk.i64_in _ (by omega)]; omega
      have HIa := Lib.hid (HI.out a (by omega))
      have HIb := Lib.hid (HI.out (b - 1) (by omega))
      have hs1 : (T a ++ ⟨#[45]⟩ : ByteArray).size ≤ 11 := by rw [ByteArray.size_append]; have : (⟨#[45]⟩ : ByteArray).size = 1 := rfl; omega
      generalize hA : T a = A at HIa sa hs1 HP
      generalize hB : T (b - 1) = B at HIb sb HP
      clear hA hB
      go_upto_region 5 with fail
      clear c0 c1
      refine Rg.val_region (n := 35) (J := fun V => KC w a b V) [(17, .pointer (some ⟨w.heap.size, 0, none⟩)), (18, .int .i64 (a : Int)), (19, .string A), (20, .string (A ++ ⟨#[45]⟩)), (21, .pointer (some ⟨w.heap.size, 1, none⟩)), (22, .int .i64 (b : Int)), (23, .int .i64 ((b - 1 : Nat) : Int)), (24, .string B), (25, .string (A ++ ⟨#[45]⟩ ++ B)), (6, .string (A ++ ⟨#[45]⟩ ++ B))] (by kernel_rfl) (by kernel_rfl) (by kernel_rfl) (by kernel_rfl) HK.out.drew (fun F hF => ?_)
      simp only [Rg.fill, List.setIfInBounds_toArray, List.set_cons_zero, List.set_cons_succ] at hF
      subst hF
      refine ⟨?_, fun V hJ => ?_⟩
      · show ∀ i, i < 10 → _
        repeat' refine Rg.below_succ ?_ ?_
        all_goals first
          | exact Rg.below_zero
          | (refine Rg.StepOK.of rfl ?_
             right
             refine ⟨by kernel_rfl, fun V hJ K hK => ?_⟩
             have c0 := hJ.cells.1
             have c1 := hJ.cells.2
             have HJ := Lib.hid hJ
             clear hJ
             go_simp
             first
               | exact hK _ HJ.out
               | (rw [if_neg (by omega), Oper.upon_value]; exact hK _ HJ.out)
               | (refine (HIa.out _ HJ.out.p10).mono ?_; rintro e w9 ⟨rfl, hb⟩; exact hK _ (HJ.out.more hb))
               | (refine (HIb.out _ HJ.out.p10).mono ?_; rintro e w9 ⟨rfl, hb⟩; exact hK _ (HJ.out.more hb)))
      · have KK := Lib.hid hJ
        have HPS := Lib.hid (show (A ++ ⟨#[45]⟩ ++ B : ByteArray).size ≤ 30 from by rw [ByteArray.size_append]; omega)
        generalize hP : (A ++ ⟨#[45]⟩ ++ B : ByteArray) = Pl at HP HPS ⊢
        clear hJ hP HIa HIb HK hs1 sa sb hwr
        by_cases hl : long = -1
        · subst hl
          replace HV := Lib.hid (show contentOf ((a : Int), (b : Int)) (-1) = some (bytL ++ (spanT ((a : Int), (b : Int)) ++ 47 :: [42])) from by rw [HV, long_none])
          have HT := Lib.hid (con_text (q := ⟨#[]⟩) (l := ⟨#[42]⟩) (t := [42]) HP.out rfl)
          have hs2 := HPS.out
          go_wp2_with fail
          go_ret2
          exact ⟨by rw [HV.out]; unfold conV; simp only; rw [← HT.out]; rfl, KK.out.kp.bel⟩
        · obtain ⟨c, rfl⟩ : ∃ c : Nat, long = (c : Int) := ⟨long.toNat, by omega⟩
          have HIc := Lib.hid (HI.out c (by omega))
          have sc := T_le c (by omega)
          replace HV := Lib.hid (show contentOf ((a : Int), (b : Int)) c = some (bytL ++ (spanT ((a : Int), (b : Int)) ++ 47 :: decL c)) from by rw [HV, long_nat])
          have HT := Lib.hid (con_text (q := ⟨#[]⟩) (l := T c) (t := decL c) HP.out rfl)
          generalize hC : T c = C at HIc sc HT
          have hne : ((c : Int) == -1) = false := by rw [beq_eq_false_iff_ne]; omega
          have hs2 := HPS.out
          clear hC hl
          go_wp2_with fail
          refine (HIc.out _ KK.out.p10).mono ?_
          rintro e w9 ⟨rfl, hb9⟩
          have HB9 := Lib.hid (Bl.next KK.out.kp.bel hb9)
          clear hb9
          go_wp2_with fail
          go_ret2
          exact ⟨by rw [HV.out]; unfold conV; simp only; rw [← HT.out]; rfl, HB9.out⟩
    · have hba : (a : Int) = b := by omega
      have hnlt : ¬ (a : Int) < b := by omega
      have HP := Lib.hid (show (⟨#[42]⟩ : ByteArray).data.toList = spanT ((a : Int), (b : Int)) from by rw [span_same _ _ hba])
      have HPS := Lib.hid (show (⟨#[42]⟩ : ByteArray).size ≤ 30 from by decide)
      have KK := HK
      clear hba sa sb
      by_cases hl : long = -1
      · exfalso; omega
      · obtain ⟨c, rfl⟩ : ∃ c : Nat, long = (c : Int) := ⟨long.toNat, by omega⟩
        have HIc := Lib.hid (HI.out c (by omega))
        have sc := T_le c (by omega)
        replace HV := Lib.hid (show contentOf ((a : Int), (b : Int)) c = some (bytL ++ (spanT ((a : Int), (b : Int)) ++ 47 :: decL c)) from by rw [HV, long_nat])
        have HT := Lib.hid (con_text (q := ⟨#[]⟩) (l := T c) (t := decL c) HP.out rfl)
        generalize hC : T c = C at HIc sc HT
        have hne : ((c : Int) == -1) = false := by rw [beq_eq_false_iff_ne]; omega
        have hs2 := HPS.out
        clear hC hl
        go_wp2_with fail
        refine (HIc.out _ KK.out.p10).mono ?_
        rintro e w9 ⟨rfl, hb9⟩
        have HB9 := Lib.hid (Bl.next KK.out.kp.bel hb9)
        clear hb9
        go_wp2_with fail
        go_ret2
        exact ⟨by rw [HV.out]; unfold conV; simp only; rw [← HT.out]; rfl, HB9.out⟩
end Go.Proofs.YthhnpdihgoiccaaDoor.Rn
