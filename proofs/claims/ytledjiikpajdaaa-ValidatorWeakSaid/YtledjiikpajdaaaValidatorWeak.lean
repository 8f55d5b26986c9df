/-
  ValidatorWeak: ValidatorWeak: whole, at the row.
  Conditions: none.
-/
import Derived.Test.YtledjiikpajdaaaRows
import Derived.Test.YtledjiikpajdaaaVdAlike
import Derived.Test.YtledjiikpajdaaaVdTags
import Derived.Test.YtledjiikpajdaaaRgVal
import Derived.Deep.DeepCutAuto
import Derived.WalkKit
import Derived.WalkLawsBesides
import Derived.ProofKit
import Derived.OpenShut
import Derived.ShutString
import Derived.SizedLaws
import Derived.Carry
import Derived.Below
import Derived.Outline
import Derived.Lib.Hide
namespace Go.Proofs.Ytledjiikpajdaaa.validatorWeak
open Go.ChangeShapes Go.WideShapes Go.ChangeAt Go.RowKit
open Go.ChangeMaps (open_string shut_string)
set_option linter.unusedVariables false

theorem own : ownKnob Try.prog.godebug = none := by kernel_rfl
theorem laidOut : laidOutB Try.prog = true := by kernel_rfl

open Go.Proofs.Ytledjiikpajdaaa.Tk Go.Proofs.Ytledjiikpajdaaa.Fd Go.Proofs.Ytledjiikpajdaaa.Vd
theorem val_eq (o : Option Vd.Tag) : tagVal o = .tuple #[.agg #[.bool (o.getD (false, [])).1, .string ⟨(o.getD (false, [])).2.toArray⟩], .bool o.isSome] := by cases o <;> rfl
theorem lit_val : tagVal (parseTag (⟨#[87, 47, 34, 34]⟩ : ByteArray).data.toList) = .tuple #[.agg #[.bool true, .string ⟨#[]⟩], .bool true] := by
  rw [show (⟨#[87, 47, 34, 34]⟩ : ByteArray).data.toList = [87, 47, 34, 34] from rfl, empty_weak]; rfl
theorem one_strong (V : World) : Calls Try.prog 8 #[.agg #[.bool true, .string ⟨#[]⟩], .agg #[.bool true, .string ⟨#[]⟩]] V fun e w' => e = .returned (.bool false) ∧ Below V.heap.size V w' := strong_any (true, []) (true, []) V
theorem one_weak (V : World) : Calls Try.prog 7 #[.agg #[.bool true, .string ⟨#[]⟩], .agg #[.bool true, .string ⟨#[]⟩]] V fun e w' => e = .returned (.bool true) ∧ Below V.heap.size V w' := weak_any (true, []) (true, []) V
theorem tags_law {w V : World} {g1 g2 : Nat} {xw yw : Bool} {xs ys : ByteArray} {L : List (Nat × Value × Value × TypeId)} (h : Tags w ((g2, .bool yw, .string ys, 23) :: (g1, .bool xw, .string xs, 23) :: L) V) : V.cell? ⟨g1, 0, none⟩ = some (.bool xw) ∧ V.cell? ⟨g1, 1, none⟩ = some (.string xs) ∧ V.cell? ⟨g2, 0, none⟩ = some (.bool yw) ∧ V.cell? ⟨g2, 1, none⟩ = some (.string ys) := ⟨h.c0 (.tail _ (.head _)), h.c1 (.tail _ (.head _)), h.c0 (.head _), h.c1 (.head _)⟩
theorem tags_swap {w V : World} {p q r : Nat × Value × Value × TypeId} (h : Tags w [r, q, p] V) : Tags w [q, p, r] V := ⟨h.bel, fun x hx => h.here x (by simp at hx ⊢; rcases hx with h | h | h <;> simp [h])⟩
set_option maxRecDepth 100000 in
set_option maxHeartbeats 16000000 in
theorem way_none (a0 : ByteArray) (s0 : a0.size ≤ 140737488351232) (a1 : ByteArray) (s1 : a1.size ≤ 140737488351232) (w : World) (xw yw is : Bool) (xs ys : ByteArray)
    (hX : tagVal (parseTag a0.data.toList) = .tuple #[.agg #[.bool xw, .string xs], .bool false]) (hY : tagVal (parseTag a1.data.toList) = .tuple #[.agg #[.bool yw, .string ys], .bool is]) :
    Calls Try.prog 4 #[.string a0, .string a1] w fun e w' => e = .returned (.bool true) ∧ Below w.heap.size w w' := by
  have HX := Lib.hid hX
  have HY := Lib.hid hY
  have HL := Lib.hid lit_val
  clear hX hY
  go_enter Try.func4, Try.ntmps4
  go_wp2_with fail
  refine (parse_any a0 _ (by omega)).mono ?_
  rintro e w1 ⟨rfl, hb1⟩
  rw [HX.out]
  have T1 := Lib.hid ((Tags.start hb1).new (.bool xw) (.string xs) 23)
  clear hb1
  go_wp2_with fail
  refine (parse_any a1 _ (by omega)).mono ?_
  rintro e w2 ⟨rfl, hb1⟩
  rw [HY.out]
  have T2 := Lib.hid ((T1.out.more hb1).new (.bool yw) (.string ys) 23)
  clear hb1 T1
  go_wp2_with fail
  refine (parse_any _ _ (by decide)).mono ?_
  rintro e w3 ⟨rfl, hb1⟩
  rw [HL.out]
  have T3 := Lib.hid ((T2.out.more hb1).new (.bool true) (.string ⟨#[]⟩) 23)
  clear hb1 T2
  go_wp2_with fail
  refine (one_strong _).mono ?_
  rintro e w4 ⟨rfl, hb1⟩
  have T4 := Lib.hid (T3.out.more hb1)
  have c5 := T4.out.c0 (.head _)
  have c6 := T4.out.c1 (.head _)
  clear hb1 T3
  go_wp2_with fail
  refine (one_weak _).mono ?_
  rintro e w5 ⟨rfl, hb1⟩
  have T5 := Lib.hid (tags_swap (T4.out.more hb1))
  clear hb1 T4 c5 c6
  obtain ⟨g1, hg1⟩ : ∃ g, g = w1.heap.size := ⟨_, rfl⟩
  obtain ⟨g2, hg2⟩ : ∃ g, g = w2.heap.size := ⟨_, rfl⟩
  obtain ⟨g3, hg3⟩ : ∃ g, g = w3.heap.size := ⟨_, rfl⟩
  rw [← hg1, ← hg2, ← hg3] at T5 ⊢
  clear hg1 hg2 hg3
  go_wp2_with fail
  go_ret
  exact ⟨rfl, T5.out.bel⟩
set_option maxRecDepth 100000 in
set_option maxHeartbeats 16000000 in
theorem way_other (a0 : ByteArray) (s0 : a0.size ≤ 140737488351232) (a1 : ByteArray) (s1 : a1.size ≤ 140737488351232) (w : World) (xw yw : Bool) (xs ys : ByteArray)
    (hX : tagVal (parseTag a0.data.toList) = .tuple #[.agg #[.bool xw, .string xs], .bool true]) (hY : tagVal (parseTag a1.data.toList) = .tuple #[.agg #[.bool yw, .string ys], .bool false]) :
    Calls Try.prog 4 #[.string a0, .string a1] w fun e w' => e = .returned (.bool true) ∧ Below w.heap.size w w' := by
  have HX := Lib.hid hX
  have HY := Lib.hid hY
  have HL := Lib.hid lit_val
  clear hX hY
  go_enter Try.func4, Try.ntmps4
  go_wp2_with fail
  refine (parse_any a0 _ (by omega)).mono ?_
  rintro e w1 ⟨rfl, hb1⟩
  rw [HX.out]
  have T1 := Lib.hid ((Tags.start hb1).new (.bool xw) (.string xs) 23)
  clear hb1
  go_wp2_with fail
  refine (parse_any a1 _ (by omega)).mono ?_
  rintro e w2 ⟨rfl, hb1⟩
  rw [HY.out]
  have T2 := Lib.hid ((T1.out.more hb1).new (.bool yw) (.string ys) 23)
  clear hb1 T1
  go_wp2_with fail
  refine (parse_any _ _ (by decide)).mono ?_
  rintro e w3 ⟨rfl, hb1⟩
  rw [HL.out]
  have T3 := Lib.hid ((T2.out.more hb1).new (.bool true) (.string ⟨#[]⟩) 23)
  clear hb1 T2
  go_wp2_with fail
  refine (one_strong _).mono ?_
  rintro e w4 ⟨rfl, hb1⟩
  have T4 := Lib.hid (T3.out.more hb1)
  have c5 := T4.out.c0 (.head _)
  have c6 := T4.out.c1 (.head _)
  clear hb1 T3
  go_wp2_with fail
  refine (one_weak _).mono ?_
  rintro e w5 ⟨rfl, hb1⟩
  have T5 := Lib.hid (tags_swap (T4.out.more hb1))
  clear hb1 T4 c5 c6
  obtain ⟨g1, hg1⟩ : ∃ g, g = w1.heap.size := ⟨_, rfl⟩
  obtain ⟨g2, hg2⟩ : ∃ g, g = w2.heap.size := ⟨_, rfl⟩
  obtain ⟨g3, hg3⟩ : ∃ g, g = w3.heap.size := ⟨_, rfl⟩
  rw [← hg1, ← hg2, ← hg3] at T5 ⊢
  clear hg1 hg2 hg3
  go_wp2_with fail
  go_ret
  exact ⟨rfl, T5.out.bel⟩
set_option maxRecDepth 100000 in
set_option maxHeartbeats 16000000 in
theorem way_same (a0 : ByteArray) (s0 : a0.size ≤ 140737488351232) (w : World) (xs ys : ByteArray)
    (hX : tagVal (parseTag a0.data.toList) = .tuple #[.agg #[.bool false, .string xs], .bool true]) (hY : tagVal (parseTag a0.data.toList) = .tuple #[.agg #[.bool false, .string ys], .bool true]) (hxy : ∀ V : World, (Calls Try.prog 8 #[.agg #[.bool false, .string xs], .agg #[.bool false, .string ys]] V fun e w' => e = .returned (.bool true) ∧ Below V.heap.size V w') ∧ (Calls Try.prog 8 #[.agg #[.bool false, .string ys], .agg #[.bool false, .string xs]] V fun e w' => e = .returned (.bool true) ∧ Below V.heap.size V w') ∧ (Calls Try.prog 7 #[.agg #[.bool false, .string xs], .agg #[.bool false, .string ys]] V fun e w' => e = .returned (.bool true) ∧ Below V.heap.size V w') ∧ Calls Try.prog 7 #[.agg #[.bool false, .string ys], .agg #[.bool false, .string xs]] V fun e w' => e = .returned (.bool true) ∧ Below V.heap.size V w') (hxx : ∀ V : World, (Calls Try.prog 8 #[.agg #[.bool false, .string xs], .agg #[.bool false, .string xs]] V fun e w' => e = .returned (.bool true) ∧ Below V.heap.size V w') ∧ Calls Try.prog 7 #[.agg #[.bool false, .string xs], .agg #[.bool false, .string xs]] V fun e w' => e = .returned (.bool true) ∧ Below V.heap.size V w') :
    Calls Try.prog 4 #[.string a0, .string a0] w fun e w' => e = .returned (.bool true) ∧ Below w.heap.size w w' := by
  have KXY := Lib.hid hxy
  have KXX := Lib.hid hxx
  clear hxy hxx
  have HX := Lib.hid hX
  have HY := Lib.hid hY
  have HL := Lib.hid lit_val
  clear hX hY
  go_enter Try.func4, Try.ntmps4
  go_wp2_with fail
  refine (parse_any a0 _ (by omega)).mono ?_
  rintro e w1 ⟨rfl, hb1⟩
  rw [HX.out]
  have T1 := Lib.hid ((Tags.start hb1).new (.bool false) (.string xs) 23)
  clear hb1
  go_wp2_with fail
  refine (parse_any a0 _ (by omega)).mono ?_
  rintro e w2 ⟨rfl, hb1⟩
  rw [HY.out]
  have T2 := Lib.hid ((T1.out.more hb1).new (.bool false) (.string ys) 23)
  clear hb1 T1
  go_wp2_with fail
  refine (parse_any _ _ (by decide)).mono ?_
  rintro e w3 ⟨rfl, hb1⟩
  rw [HL.out]
  have T3 := Lib.hid ((T2.out.more hb1).new (.bool true) (.string ⟨#[]⟩) 23)
  clear hb1 T2
  go_wp2_with fail
  refine (one_strong _).mono ?_
  rintro e w4 ⟨rfl, hb1⟩
  have T4 := Lib.hid (T3.out.more hb1)
  have c5 := T4.out.c0 (.head _)
  have c6 := T4.out.c1 (.head _)
  clear hb1 T3
  go_wp2_with fail
  refine (one_weak _).mono ?_
  rintro e w5 ⟨rfl, hb1⟩
  have T5 := Lib.hid (tags_swap (T4.out.more hb1))
  clear hb1 T4 c5 c6
  obtain ⟨g1, hg1⟩ : ∃ g, g = w1.heap.size := ⟨_, rfl⟩
  obtain ⟨g2, hg2⟩ : ∃ g, g = w2.heap.size := ⟨_, rfl⟩
  obtain ⟨g3, hg3⟩ : ∃ g, g = w3.heap.size := ⟨_, rfl⟩
  rw [← hg1, ← hg2, ← hg3] at T5 ⊢
  clear hg1 hg2 hg3
  obtain ⟨c1, c2, c3, c4⟩ := tags_law T5.out
  go_wp2_with fail
  refine (KXY.out _).1.mono ?_
  rintro e w6 ⟨rfl, hb1⟩
  have T6 := Lib.hid (T5.out.more hb1)
  clear hb1 T5 c1 c2 c3 c4
  obtain ⟨c1, c2, c3, c4⟩ := tags_law T6.out
  go_wp2_with fail
  refine (KXY.out _).2.2.1.mono ?_
  rintro e w7 ⟨rfl, hb1⟩
  replace T6 := Lib.hid (T6.out.more hb1)
  clear hb1 c1 c2 c3 c4
  obtain ⟨c1, c2, c3, c4⟩ := tags_law T6.out
  go_upto_region 10 with fail
  have T := Lib.hid T6.out.drew
  clear T6 c1 c2 c3 c4
  refine Rg.val_region (n := 95) (J := fun V => Tags w [(g2, .bool false, .string ys, 23), (g1, .bool false, .string xs, 23), (g3, .bool true, .string ⟨#[]⟩, 23)] V) [(66, .agg #[.bool false, .string xs]), (67, .agg #[.bool false, .string ys]), (68, .bool true), (69, .agg #[.bool false, .string ys]), (70, .agg #[.bool false, .string xs]), (71, .bool true), (72, .bool true), (73, .bool true), (74, .agg #[.bool false, .string xs]), (75, .agg #[.bool false, .string ys]), (76, .bool true), (77, .agg #[.bool false, .string ys]), (78, .agg #[.bool false, .string xs]), (79, .bool true), (80, .bool true), (81, .bool true), (82, .bool true), (83, .agg #[.bool false, .string xs]), (84, .agg #[.bool false, .string xs]), (85, .bool true), (86, .bool true), (87, .bool true), (88, .agg #[.bool false, .string xs]), (89, .agg #[.bool false, .string xs]), (90, .bool true), (91, .pointer (some ⟨g1, 0, none⟩)), (92, .bool false), (93, .bool true), (94, .bool true), (4, .bool true)] (by kernel_rfl) (by kernel_rfl) (by kernel_rfl) (by kernel_rfl) T.out (fun F hF => ?_)
  simp only [Rg.fill, List.setIfInBounds_toArray, List.set_cons_zero, List.set_cons_succ] at hF
  subst hF
  clear T
  refine ⟨?_, fun V hJ => ?_⟩
  · repeat' refine Rg.below_succ ?_ ?_
    all_goals first
      | exact Rg.below_zero
      | (refine Rg.StepOK.of rfl ?_
         right
         refine ⟨by kernel_rfl, fun V hJ K hK => ?_⟩
         obtain ⟨c1, c2, c3, c4⟩ := tags_law hJ
         have HJ := Lib.hid hJ
         clear hJ
         go_simp
         first
            | exact hK _ HJ.out
            | ((with_reducible refine Calls.mono (KXY.out V).1 ?_); rintro e w9 ⟨rfl, hb⟩; exact hK _ (HJ.out.more hb))
            | ((with_reducible refine Calls.mono (KXY.out V).2.1 ?_); rintro e w9 ⟨rfl, hb⟩; exact hK _ (HJ.out.more hb))
            | ((with_reducible refine Calls.mono (KXX.out V).1 ?_); rintro e w9 ⟨rfl, hb⟩; exact hK _ (HJ.out.more hb))
            | ((with_reducible refine Calls.mono (KXY.out V).2.2.1 ?_); rintro e w9 ⟨rfl, hb⟩; exact hK _ (HJ.out.more hb))
            | ((with_reducible refine Calls.mono (KXY.out V).2.2.2 ?_); rintro e w9 ⟨rfl, hb⟩; exact hK _ (HJ.out.more hb))
            | ((with_reducible refine Calls.mono (KXX.out V).2 ?_); rintro e w9 ⟨rfl, hb⟩; exact hK _ (HJ.out.more hb)))
  · go_wp2_with fail
    go_ret
    exact ⟨rfl, hJ.bel⟩
set_option maxRecDepth 100000 in
set_option maxHeartbeats 16000000 in
theorem way_false_false (a0 : ByteArray) (s0 : a0.size ≤ 140737488351232) (a1 : ByteArray) (s1 : a1.size ≤ 140737488351232) (w : World) (yw : Bool) (xs ys : ByteArray)
    (hX : tagVal (parseTag a0.data.toList) = .tuple #[.agg #[.bool false, .string xs], .bool true]) (hY : tagVal (parseTag a1.data.toList) = .tuple #[.agg #[.bool yw, .string ys], .bool true]) (hxy : ∀ V : World, (Calls Try.prog 8 #[.agg #[.bool false, .string xs], .agg #[.bool yw, .string ys]] V fun e w' => e = .returned (.bool false) ∧ Below V.heap.size V w') ∧ (Calls Try.prog 8 #[.agg #[.bool yw, .string ys], .agg #[.bool false, .string xs]] V fun e w' => e = .returned (.bool false) ∧ Below V.heap.size V w') ∧ (Calls Try.prog 7 #[.agg #[.bool false, .string xs], .agg #[.bool yw, .string ys]] V fun e w' => e = .returned (.bool false) ∧ Below V.heap.size V w') ∧ Calls Try.prog 7 #[.agg #[.bool yw, .string ys], .agg #[.bool false, .string xs]] V fun e w' => e = .returned (.bool false) ∧ Below V.heap.size V w') (hxx : ∀ V : World, (Calls Try.prog 8 #[.agg #[.bool false, .string xs], .agg #[.bool false, .string xs]] V fun e w' => e = .returned (.bool true) ∧ Below V.heap.size V w') ∧ Calls Try.prog 7 #[.agg #[.bool false, .string xs], .agg #[.bool false, .string xs]] V fun e w' => e = .returned (.bool true) ∧ Below V.heap.size V w') :
    Calls Try.prog 4 #[.string a0, .string a1] w fun e w' => e = .returned (.bool true) ∧ Below w.heap.size w w' := by
  have KXY := Lib.hid hxy
  have KXX := Lib.hid hxx
  clear hxy hxx
  have HX := Lib.hid hX
  have HY := Lib.hid hY
  have HL := Lib.hid lit_val
  clear hX hY
  go_enter Try.func4, Try.ntmps4
  go_wp2_with fail
  refine (parse_any a0 _ (by omega)).mono ?_
  rintro e w1 ⟨rfl, hb1⟩
  rw [HX.out]
  have T1 := Lib.hid ((Tags.start hb1).new (.bool false) (.string xs) 23)
  clear hb1
  go_wp2_with fail
  refine (parse_any a1 _ (by omega)).mono ?_
  rintro e w2 ⟨rfl, hb1⟩
  rw [HY.out]
  have T2 := Lib.hid ((T1.out.more hb1).new (.bool yw) (.string ys) 23)
  clear hb1 T1
  go_wp2_with fail
  refine (parse_any _ _ (by decide)).mono ?_
  rintro e w3 ⟨rfl, hb1⟩
  rw [HL.out]
  have T3 := Lib.hid ((T2.out.more hb1).new (.bool true) (.string ⟨#[]⟩) 23)
  clear hb1 T2
  go_wp2_with fail
  refine (one_strong _).mono ?_
  rintro e w4 ⟨rfl, hb1⟩
  have T4 := Lib.hid (T3.out.more hb1)
  have c5 := T4.out.c0 (.head _)
  have c6 := T4.out.c1 (.head _)
  clear hb1 T3
  go_wp2_with fail
  refine (one_weak _).mono ?_
  rintro e w5 ⟨rfl, hb1⟩
  have T5 := Lib.hid (tags_swap (T4.out.more hb1))
  clear hb1 T4 c5 c6
  obtain ⟨g1, hg1⟩ : ∃ g, g = w1.heap.size := ⟨_, rfl⟩
  obtain ⟨g2, hg2⟩ : ∃ g, g = w2.heap.size := ⟨_, rfl⟩
  obtain ⟨g3, hg3⟩ : ∃ g, g = w3.heap.size := ⟨_, rfl⟩
  rw [← hg1, ← hg2, ← hg3] at T5 ⊢
  clear hg1 hg2 hg3
  obtain ⟨c1, c2, c3, c4⟩ := tags_law T5.out
  go_wp2_with fail
  refine (KXY.out _).1.mono ?_
  rintro e w6 ⟨rfl, hb1⟩
  have T6 := Lib.hid (T5.out.more hb1)
  clear hb1 T5 c1 c2 c3 c4
  obtain ⟨c1, c2, c3, c4⟩ := tags_law T6.out
  go_upto_region 10 with fail
  have T := Lib.hid T6.out.drew
  clear T6 c1 c2 c3 c4
  refine Rg.val_region (n := 95) (J := fun V => Tags w [(g2, .bool yw, .string ys, 23), (g1, .bool false, .string xs, 23), (g3, .bool true, .string ⟨#[]⟩, 23)] V) [(66, .agg #[.bool false, .string xs]), (67, .agg #[.bool yw, .string ys]), (68, .bool false), (69, .agg #[.bool yw, .string ys]), (70, .agg #[.bool false, .string xs]), (71, .bool false), (72, .bool true), (73, .bool true), (74, .agg #[.bool false, .string xs]), (75, .agg #[.bool yw, .string ys]), (76, .bool false), (77, .agg #[.bool yw, .string ys]), (78, .agg #[.bool false, .string xs]), (79, .bool false), (80, .bool true), (81, .bool true), (82, .bool true), (83, .agg #[.bool false, .string xs]), (84, .agg #[.bool false, .string xs]), (85, .bool true), (86, .bool true), (87, .bool true), (88, .agg #[.bool false, .string xs]), (89, .agg #[.bool false, .string xs]), (90, .bool true), (91, .pointer (some ⟨g1, 0, none⟩)), (92, .bool false), (93, .bool true), (94, .bool true), (4, .bool true)] (by kernel_rfl) (by kernel_rfl) (by kernel_rfl) (by kernel_rfl) T.out (fun F hF => ?_)
  simp only [Rg.fill, List.setIfInBounds_toArray, List.set_cons_zero, List.set_cons_succ] at hF
  subst hF
  clear T
  refine ⟨?_, fun V hJ => ?_⟩
  · repeat' refine Rg.below_succ ?_ ?_
    all_goals first
      | exact Rg.below_zero
      | (refine Rg.StepOK.of rfl ?_
         right
         refine ⟨by kernel_rfl, fun V hJ K hK => ?_⟩
         obtain ⟨c1, c2, c3, c4⟩ := tags_law hJ
         have HJ := Lib.hid hJ
         clear hJ
         go_simp
         first
            | exact hK _ HJ.out
            | ((with_reducible refine Calls.mono (KXY.out V).1 ?_); rintro e w9 ⟨rfl, hb⟩; exact hK _ (HJ.out.more hb))
            | ((with_reducible refine Calls.mono (KXY.out V).2.1 ?_); rintro e w9 ⟨rfl, hb⟩; exact hK _ (HJ.out.more hb))
            | ((with_reducible refine Calls.mono (KXX.out V).1 ?_); rintro e w9 ⟨rfl, hb⟩; exact hK _ (HJ.out.more hb))
            | ((with_reducible refine Calls.mono (KXY.out V).2.2.1 ?_); rintro e w9 ⟨rfl, hb⟩; exact hK _ (HJ.out.more hb))
            | ((with_reducible refine Calls.mono (KXY.out V).2.2.2 ?_); rintro e w9 ⟨rfl, hb⟩; exact hK _ (HJ.out.more hb))
            | ((with_reducible refine Calls.mono (KXX.out V).2 ?_); rintro e w9 ⟨rfl, hb⟩; exact hK _ (HJ.out.more hb)))
  · go_wp2_with fail
    go_ret
    exact ⟨rfl, hJ.bel⟩
set_option maxRecDepth 100000 in
set_option maxHeartbeats 16000000 in
theorem way_false_true (a0 : ByteArray) (s0 : a0.size ≤ 140737488351232) (a1 : ByteArray) (s1 : a1.size ≤ 140737488351232) (w : World) (yw : Bool) (xs ys : ByteArray)
    (hX : tagVal (parseTag a0.data.toList) = .tuple #[.agg #[.bool false, .string xs], .bool true]) (hY : tagVal (parseTag a1.data.toList) = .tuple #[.agg #[.bool yw, .string ys], .bool true]) (hxy : ∀ V : World, (Calls Try.prog 8 #[.agg #[.bool false, .string xs], .agg #[.bool yw, .string ys]] V fun e w' => e = .returned (.bool false) ∧ Below V.heap.size V w') ∧ (Calls Try.prog 8 #[.agg #[.bool yw, .string ys], .agg #[.bool false, .string xs]] V fun e w' => e = .returned (.bool false) ∧ Below V.heap.size V w') ∧ (Calls Try.prog 7 #[.agg #[.bool false, .string xs], .agg #[.bool yw, .string ys]] V fun e w' => e = .returned (.bool true) ∧ Below V.heap.size V w') ∧ Calls Try.prog 7 #[.agg #[.bool yw, .string ys], .agg #[.bool false, .string xs]] V fun e w' => e = .returned (.bool true) ∧ Below V.heap.size V w') (hxx : ∀ V : World, (Calls Try.prog 8 #[.agg #[.bool false, .string xs], .agg #[.bool false, .string xs]] V fun e w' => e = .returned (.bool true) ∧ Below V.heap.size V w') ∧ Calls Try.prog 7 #[.agg #[.bool false, .string xs], .agg #[.bool false, .string xs]] V fun e w' => e = .returned (.bool true) ∧ Below V.heap.size V w') :
    Calls Try.prog 4 #[.string a0, .string a1] w fun e w' => e = .returned (.bool true) ∧ Below w.heap.size w w' := by
  have KXY := Lib.hid hxy
  have KXX := Lib.hid hxx
  clear hxy hxx
  have HX := Lib.hid hX
  have HY := Lib.hid hY
  have HL := Lib.hid lit_val
  clear hX hY
  go_enter Try.func4, Try.ntmps4
  go_wp2_with fail
  refine (parse_any a0 _ (by omega)).mono ?_
  rintro e w1 ⟨rfl, hb1⟩
  rw [HX.out]
  have T1 := Lib.hid ((Tags.start hb1).new (.bool false) (.string xs) 23)
  clear hb1
  go_wp2_with fail
  refine (parse_any a1 _ (by omega)).mono ?_
  rintro e w2 ⟨rfl, hb1⟩
  rw [HY.out]
  have T2 := Lib.hid ((T1.out.more hb1).new (.bool yw) (.string ys) 23)
  clear hb1 T1
  go_wp2_with fail
  refine (parse_any _ _ (by decide)).mono ?_
  rintro e w3 ⟨rfl, hb1⟩
  rw [HL.out]
  have T3 := Lib.hid ((T2.out.more hb1).new (.bool true) (.string ⟨#[]⟩) 23)
  clear hb1 T2
  go_wp2_with fail
  refine (one_strong _).mono ?_
  rintro e w4 ⟨rfl, hb1⟩
  have T4 := Lib.hid (T3.out.more hb1)
  have c5 := T4.out.c0 (.head _)
  have c6 := T4.out.c1 (.head _)
  clear hb1 T3
  go_wp2_with fail
  refine (one_weak _).mono ?_
  rintro e w5 ⟨rfl, hb1⟩
  have T5 := Lib.hid (tags_swap (T4.out.more hb1))
  clear hb1 T4 c5 c6
  obtain ⟨g1, hg1⟩ : ∃ g, g = w1.heap.size := ⟨_, rfl⟩
  obtain ⟨g2, hg2⟩ : ∃ g, g = w2.heap.size := ⟨_, rfl⟩
  obtain ⟨g3, hg3⟩ : ∃ g, g = w3.heap.size := ⟨_, rfl⟩
  rw [← hg1, ← hg2, ← hg3] at T5 ⊢
  clear hg1 hg2 hg3
  obtain ⟨c1, c2, c3, c4⟩ := tags_law T5.out
  go_wp2_with fail
  refine (KXY.out _).1.mono ?_
  rintro e w6 ⟨rfl, hb1⟩
  have T6 := Lib.hid (T5.out.more hb1)
  clear hb1 T5 c1 c2 c3 c4
  obtain ⟨c1, c2, c3, c4⟩ := tags_law T6.out
  go_upto_region 10 with fail
  have T := Lib.hid T6.out.drew
  clear T6 c1 c2 c3 c4
  refine Rg.val_region (n := 95) (J := fun V => Tags w [(g2, .bool yw, .string ys, 23), (g1, .bool false, .string xs, 23), (g3, .bool true, .string ⟨#[]⟩, 23)] V) [(66, .agg #[.bool false, .string xs]), (67, .agg #[.bool yw, .string ys]), (68, .bool false), (69, .agg #[.bool yw, .string ys]), (70, .agg #[.bool false, .string xs]), (71, .bool false), (72, .bool true), (73, .bool true), (74, .agg #[.bool false, .string xs]), (75, .agg #[.bool yw, .string ys]), (76, .bool true), (77, .agg #[.bool yw, .string ys]), (78, .agg #[.bool false, .string xs]), (79, .bool true), (80, .bool true), (81, .bool true), (82, .bool true), (83, .agg #[.bool false, .string xs]), (84, .agg #[.bool false, .string xs]), (85, .bool true), (86, .bool true), (87, .bool true), (88, .agg #[.bool false, .string xs]), (89, .agg #[.bool false, .string xs]), (90, .bool true), (91, .pointer (some ⟨g1, 0, none⟩)), (92, .bool false), (93, .bool true), (94, .bool true), (4, .bool true)] (by kernel_rfl) (by kernel_rfl) (by kernel_rfl) (by kernel_rfl) T.out (fun F hF => ?_)
  simp only [Rg.fill, List.setIfInBounds_toArray, List.set_cons_zero, List.set_cons_succ] at hF
  subst hF
  clear T
  refine ⟨?_, fun V hJ => ?_⟩
  · repeat' refine Rg.below_succ ?_ ?_
    all_goals first
      | exact Rg.below_zero
      | (refine Rg.StepOK.of rfl ?_
         right
         refine ⟨by kernel_rfl, fun V hJ K hK => ?_⟩
         obtain ⟨c1, c2, c3, c4⟩ := tags_law hJ
         have HJ := Lib.hid hJ
         clear hJ
         go_simp
         first
            | exact hK _ HJ.out
            | ((with_reducible refine Calls.mono (KXY.out V).1 ?_); rintro e w9 ⟨rfl, hb⟩; exact hK _ (HJ.out.more hb))
            | ((with_reducible refine Calls.mono (KXY.out V).2.1 ?_); rintro e w9 ⟨rfl, hb⟩; exact hK _ (HJ.out.more hb))
            | ((with_reducible refine Calls.mono (KXX.out V).1 ?_); rintro e w9 ⟨rfl, hb⟩; exact hK _ (HJ.out.more hb))
            | ((with_reducible refine Calls.mono (KXY.out V).2.2.1 ?_); rintro e w9 ⟨rfl, hb⟩; exact hK _ (HJ.out.more hb))
            | ((with_reducible refine Calls.mono (KXY.out V).2.2.2 ?_); rintro e w9 ⟨rfl, hb⟩; exact hK _ (HJ.out.more hb))
            | ((with_reducible refine Calls.mono (KXX.out V).2 ?_); rintro e w9 ⟨rfl, hb⟩; exact hK _ (HJ.out.more hb)))
  · go_wp2_with fail
    go_ret
    exact ⟨rfl, hJ.bel⟩
set_option maxRecDepth 100000 in
set_option maxHeartbeats 16000000 in
theorem way_true_false (a0 : ByteArray) (s0 : a0.size ≤ 140737488351232) (a1 : ByteArray) (s1 : a1.size ≤ 140737488351232) (w : World) (yw : Bool) (xs ys : ByteArray)
    (hX : tagVal (parseTag a0.data.toList) = .tuple #[.agg #[.bool true, .string xs], .bool true]) (hY : tagVal (parseTag a1.data.toList) = .tuple #[.agg #[.bool yw, .string ys], .bool true]) (hxy : ∀ V : World, (Calls Try.prog 8 #[.agg #[.bool true, .string xs], .agg #[.bool yw, .string ys]] V fun e w' => e = .returned (.bool false) ∧ Below V.heap.size V w') ∧ (Calls Try.prog 8 #[.agg #[.bool yw, .string ys], .agg #[.bool true, .string xs]] V fun e w' => e = .returned (.bool false) ∧ Below V.heap.size V w') ∧ (Calls Try.prog 7 #[.agg #[.bool true, .string xs], .agg #[.bool yw, .string ys]] V fun e w' => e = .returned (.bool false) ∧ Below V.heap.size V w') ∧ Calls Try.prog 7 #[.agg #[.bool yw, .string ys], .agg #[.bool true, .string xs]] V fun e w' => e = .returned (.bool false) ∧ Below V.heap.size V w') (hxx : ∀ V : World, (Calls Try.prog 8 #[.agg #[.bool true, .string xs], .agg #[.bool true, .string xs]] V fun e w' => e = .returned (.bool false) ∧ Below V.heap.size V w') ∧ Calls Try.prog 7 #[.agg #[.bool true, .string xs], .agg #[.bool true, .string xs]] V fun e w' => e = .returned (.bool true) ∧ Below V.heap.size V w') :
    Calls Try.prog 4 #[.string a0, .string a1] w fun e w' => e = .returned (.bool true) ∧ Below w.heap.size w w' := by
  have KXY := Lib.hid hxy
  have KXX := Lib.hid hxx
  clear hxy hxx
  have HX := Lib.hid hX
  have HY := Lib.hid hY
  have HL := Lib.hid lit_val
  clear hX hY
  go_enter Try.func4, Try.ntmps4
  go_wp2_with fail
  refine (parse_any a0 _ (by omega)).mono ?_
  rintro e w1 ⟨rfl, hb1⟩
  rw [HX.out]
  have T1 := Lib.hid ((Tags.start hb1).new (.bool true) (.string xs) 23)
  clear hb1
  go_wp2_with fail
  refine (parse_any a1 _ (by omega)).mono ?_
  rintro e w2 ⟨rfl, hb1⟩
  rw [HY.out]
  have T2 := Lib.hid ((T1.out.more hb1).new (.bool yw) (.string ys) 23)
  clear hb1 T1
  go_wp2_with fail
  refine (parse_any _ _ (by decide)).mono ?_
  rintro e w3 ⟨rfl, hb1⟩
  rw [HL.out]
  have T3 := Lib.hid ((T2.out.more hb1).new (.bool true) (.string ⟨#[]⟩) 23)
  clear hb1 T2
  go_wp2_with fail
  refine (one_strong _).mono ?_
  rintro e w4 ⟨rfl, hb1⟩
  have T4 := Lib.hid (T3.out.more hb1)
  have c5 := T4.out.c0 (.head _)
  have c6 := T4.out.c1 (.head _)
  clear hb1 T3
  go_wp2_with fail
  refine (one_weak _).mono ?_
  rintro e w5 ⟨rfl, hb1⟩
  have T5 := Lib.hid (tags_swap (T4.out.more hb1))
  clear hb1 T4 c5 c6
  obtain ⟨g1, hg1⟩ : ∃ g, g = w1.heap.size := ⟨_, rfl⟩
  obtain ⟨g2, hg2⟩ : ∃ g, g = w2.heap.size := ⟨_, rfl⟩
  obtain ⟨g3, hg3⟩ : ∃ g, g = w3.heap.size := ⟨_, rfl⟩
  rw [← hg1, ← hg2, ← hg3] at T5 ⊢
  clear hg1 hg2 hg3
  obtain ⟨c1, c2, c3, c4⟩ := tags_law T5.out
  go_wp2_with fail
  refine (KXY.out _).1.mono ?_
  rintro e w6 ⟨rfl, hb1⟩
  have T6 := Lib.hid (T5.out.more hb1)
  clear hb1 T5 c1 c2 c3 c4
  obtain ⟨c1, c2, c3, c4⟩ := tags_law T6.out
  go_upto_region 10 with fail
  have T := Lib.hid T6.out.drew
  clear T6 c1 c2 c3 c4
  refine Rg.val_region (n := 95) (J := fun V => Tags w [(g2, .bool yw, .string ys, 23), (g1, .bool true, .string xs, 23), (g3, .bool true, .string ⟨#[]⟩, 23)] V) [(66, .agg #[.bool true, .string xs]), (67, .agg #[.bool yw, .string ys]), (68, .bool false), (69, .agg #[.bool yw, .string ys]), (70, .agg #[.bool true, .string xs]), (71, .bool false), (72, .bool true), (73, .bool true), (74, .agg #[.bool true, .string xs]), (75, .agg #[.bool yw, .string ys]), (76, .bool false), (77, .agg #[.bool yw, .string ys]), (78, .agg #[.bool true, .string xs]), (79, .bool false), (80, .bool true), (81, .bool true), (82, .bool true), (83, .agg #[.bool true, .string xs]), (84, .agg #[.bool true, .string xs]), (85, .bool true), (86, .bool true), (87, .bool true), (88, .agg #[.bool true, .string xs]), (89, .agg #[.bool true, .string xs]), (90, .bool false), (91, .pointer (some ⟨g1, 0, none⟩)), (92, .bool true), (93, .bool true), (94, .bool true), (4, .bool true)] (by kernel_rfl) (by kernel_rfl) (by kernel_rfl) (by kernel_rfl) T.out (fun F hF => ?_)
  simp only [Rg.fill, List.setIfInBounds_toArray, List.set_cons_zero, List.set_cons_succ] at hF
  subst hF
  clear T
  refine ⟨?_, fun V hJ => ?_⟩
  · repeat' refine Rg.below_succ ?_ ?_
    all_goals first
      | exact Rg.below_zero
      | (refine Rg.StepOK.of rfl ?_
         right
         refine ⟨by kernel_rfl, fun V hJ K hK => ?_⟩
         obtain ⟨c1, c2, c3, c4⟩ := tags_law hJ
         have HJ := Lib.hid hJ
         clear hJ
         go_simp
         first
            | exact hK _ HJ.out
            | ((with_reducible refine Calls.mono (KXY.out V).1 ?_); rintro e w9 ⟨rfl, hb⟩; exact hK _ (HJ.out.more hb))
            | ((with_reducible refine Calls.mono (KXY.out V).2.1 ?_); rintro e w9 ⟨rfl, hb⟩; exact hK _ (HJ.out.more hb))
            | ((with_reducible refine Calls.mono (KXX.out V).1 ?_); rintro e w9 ⟨rfl, hb⟩; exact hK _ (HJ.out.more hb))
            | ((with_reducible refine Calls.mono (KXY.out V).2.2.1 ?_); rintro e w9 ⟨rfl, hb⟩; exact hK _ (HJ.out.more hb))
            | ((with_reducible refine Calls.mono (KXY.out V).2.2.2 ?_); rintro e w9 ⟨rfl, hb⟩; exact hK _ (HJ.out.more hb))
            | ((with_reducible refine Calls.mono (KXX.out V).2 ?_); rintro e w9 ⟨rfl, hb⟩; exact hK _ (HJ.out.more hb)))
  · go_wp2_with fail
    go_ret
    exact ⟨rfl, hJ.bel⟩
set_option maxRecDepth 100000 in
set_option maxHeartbeats 16000000 in
theorem way_true_true (a0 : ByteArray) (s0 : a0.size ≤ 140737488351232) (a1 : ByteArray) (s1 : a1.size ≤ 140737488351232) (w : World) (yw : Bool) (xs ys : ByteArray)
    (hX : tagVal (parseTag a0.data.toList) = .tuple #[.agg #[.bool true, .string xs], .bool true]) (hY : tagVal (parseTag a1.data.toList) = .tuple #[.agg #[.bool yw, .string ys], .bool true]) (hxy : ∀ V : World, (Calls Try.prog 8 #[.agg #[.bool true, .string xs], .agg #[.bool yw, .string ys]] V fun e w' => e = .returned (.bool false) ∧ Below V.heap.size V w') ∧ (Calls Try.prog 8 #[.agg #[.bool yw, .string ys], .agg #[.bool true, .string xs]] V fun e w' => e = .returned (.bool false) ∧ Below V.heap.size V w') ∧ (Calls Try.prog 7 #[.agg #[.bool true, .string xs], .agg #[.bool yw, .string ys]] V fun e w' => e = .returned (.bool true) ∧ Below V.heap.size V w') ∧ Calls Try.prog 7 #[.agg #[.bool yw, .string ys], .agg #[.bool true, .string xs]] V fun e w' => e = .returned (.bool true) ∧ Below V.heap.size V w') (hxx : ∀ V : World, (Calls Try.prog 8 #[.agg #[.bool true, .string xs], .agg #[.bool true, .string xs]] V fun e w' => e = .returned (.bool false) ∧ Below V.heap.size V w') ∧ Calls Try.prog 7 #[.agg #[.bool true, .string xs], .agg #[.bool true, .string xs]] V fun e w' => e = .returned (.bool true) ∧ Below V.heap.size V w') :
    Calls Try.prog 4 #[.string a0, .string a1] w fun e w' => e = .returned (.bool true) ∧ Below w.heap.size w w' := by
  have KXY := Lib.hid hxy
  have KXX := Lib.hid hxx
  clear hxy hxx
  have HX := Lib.hid hX
  have HY := Lib.hid hY
  have HL := Lib.hid lit_val
  clear hX hY
  go_enter Try.func4, Try.ntmps4
  go_wp2_with fail
  refine (parse_any a0 _ (by omega)).mono ?_
  rintro e w1 ⟨rfl, hb1⟩
  rw [HX.out]
  have T1 := Lib.hid ((Tags.start hb1).new (.bool true) (.string xs) 23)
  clear hb1
  go_wp2_with fail
  refine (parse_any a1 _ (by omega)).mono ?_
  rintro e w2 ⟨rfl, hb1⟩
  rw [HY.out]
  have T2 := Lib.hid ((T1.out.more hb1).new (.bool yw) (.string ys) 23)
  clear hb1 T1
  go_wp2_with fail
  refine (parse_any _ _ (by decide)).mono ?_
  rintro e w3 ⟨rfl, hb1⟩
  rw [HL.out]
  have T3 := Lib.hid ((T2.out.more hb1).new (.bool true) (.string ⟨#[]⟩) 23)
  clear hb1 T2
  go_wp2_with fail
  refine (one_strong _).mono ?_
  rintro e w4 ⟨rfl, hb1⟩
  have T4 := Lib.hid (T3.out.more hb1)
  have c5 := T4.out.c0 (.head _)
  have c6 := T4.out.c1 (.head _)
  clear hb1 T3
  go_wp2_with fail
  refine (one_weak _).mono ?_
  rintro e w5 ⟨rfl, hb1⟩
  have T5 := Lib.hid (tags_swap (T4.out.more hb1))
  clear hb1 T4 c5 c6
  obtain ⟨g1, hg1⟩ : ∃ g, g = w1.heap.size := ⟨_, rfl⟩
  obtain ⟨g2, hg2⟩ : ∃ g, g = w2.heap.size := ⟨_, rfl⟩
  obtain ⟨g3, hg3⟩ : ∃ g, g = w3.heap.size := ⟨_, rfl⟩
  rw [← hg1, ← hg2, ← hg3] at T5 ⊢
  clear hg1 hg2 hg3
  obtain ⟨c1, c2, c3, c4⟩ := tags_law T5.out
  go_wp2_with fail
  refine (KXY.out _).1.mono ?_
  rintro e w6 ⟨rfl, hb1⟩
  have T6 := Lib.hid (T5.out.more hb1)
  clear hb1 T5 c1 c2 c3 c4
  obtain ⟨c1, c2, c3, c4⟩ := tags_law T6.out
  go_upto_region 10 with fail
  have T := Lib.hid T6.out.drew
  clear T6 c1 c2 c3 c4
  refine Rg.val_region (n := 95) (J := fun V => Tags w [(g2, .bool yw, .string ys, 23), (g1, .bool true, .string xs, 23), (g3, .bool true, .string ⟨#[]⟩, 23)] V) [(66, .agg #[.bool true, .string xs]), (67, .agg #[.bool yw, .string ys]), (68, .bool false), (69, .agg #[.bool yw, .string ys]), (70, .agg #[.bool true, .string xs]), (71, .bool false), (72, .bool true), (73, .bool true), (74, .agg #[.bool true, .string xs]), (75, .agg #[.bool yw, .string ys]), (76, .bool true), (77, .agg #[.bool yw, .string ys]), (78, .agg #[.bool true, .string xs]), (79, .bool true), (80, .bool true), (81, .bool true), (82, .bool true), (83, .agg #[.bool true, .string xs]), (84, .agg #[.bool true, .string xs]), (85, .bool true), (86, .bool true), (87, .bool true), (88, .agg #[.bool true, .string xs]), (89, .agg #[.bool true, .string xs]), (90, .bool false), (91, .pointer (some ⟨g1, 0, none⟩)), (92, .bool true), (93, .bool true), (94, .bool true), (4, .bool true)] (by kernel_rfl) (by kernel_rfl) (by kernel_rfl) (by kernel_rfl) T.out (fun F hF => ?_)
  simp only [Rg.fill, List.setIfInBounds_toArray, List.set_cons_zero, List.set_cons_succ] at hF
  subst hF
  clear T
  refine ⟨?_, fun V hJ => ?_⟩
  · repeat' refine Rg.below_succ ?_ ?_
    all_goals first
      | exact Rg.below_zero
      | (refine Rg.StepOK.of rfl ?_
         right
         refine ⟨by kernel_rfl, fun V hJ K hK => ?_⟩
         obtain ⟨c1, c2, c3, c4⟩ := tags_law hJ
         have HJ := Lib.hid hJ
         clear hJ
         go_simp
         first
            | exact hK _ HJ.out
            | ((with_reducible refine Calls.mono (KXY.out V).1 ?_); rintro e w9 ⟨rfl, hb⟩; exact hK _ (HJ.out.more hb))
            | ((with_reducible refine Calls.mono (KXY.out V).2.1 ?_); rintro e w9 ⟨rfl, hb⟩; exact hK _ (HJ.out.more hb))
            | ((with_reducible refine Calls.mono (KXX.out V).1 ?_); rintro e w9 ⟨rfl, hb⟩; exact hK _ (HJ.out.more hb))
            | ((with_reducible refine Calls.mono (KXY.out V).2.2.1 ?_); rintro e w9 ⟨rfl, hb⟩; exact hK _ (HJ.out.more hb))
            | ((with_reducible refine Calls.mono (KXY.out V).2.2.2 ?_); rintro e w9 ⟨rfl, hb⟩; exact hK _ (HJ.out.more hb))
            | ((with_reducible refine Calls.mono (KXX.out V).2 ?_); rintro e w9 ⟨rfl, hb⟩; exact hK _ (HJ.out.more hb)))
  · go_wp2_with fail
    go_ret
    exact ⟨rfl, hJ.bel⟩
theorem walk (a0 : ByteArray) (s0 : a0.size ≤ reachBytes) (a1 : ByteArray) (s1 : a1.size ≤ reachBytes) (w : World) :
    Calls Try.prog 4 #[.string a0, .string a1] w fun e w' => e = .returned (.bool true) ∧ Below w.heap.size w w' := by
  unfold reachBytes at s0 s1
  have hX := val_eq (parseTag a0.data.toList)
  have hY := val_eq (parseTag a1.data.toList)
  cases ho : parseTag a0.data.toList with
  | none => rw [ho] at hX; exact way_none a0 s0 a1 s1 w _ _ _ _ _ (by rw [ho]; exact hX) hY
  | some x =>
  cases hq : parseTag a1.data.toList with
  | none => rw [ho] at hX; rw [hq] at hY; exact way_other a0 s0 a1 s1 w _ _ _ _ (by rw [ho]; exact hX) (by rw [hq]; exact hY)
  | some y =>
  rw [ho] at hX
  rw [hq] at hY
  have hxx : ∀ V : World, (Calls Try.prog 8 #[TV x, TV x] V fun e w' => e = .returned (.bool (!x.1)) ∧ Below V.heap.size V w') ∧ Calls Try.prog 7 #[TV x, TV x] V fun e w' => e = .returned (.bool true) ∧ Below V.heap.size V w' := fun V => by
    have h1 := strong_any x x V
    have h2 := weak_any x x V
    rw [strong_self] at h1
    rw [weak_self] at h2
    exact ⟨h1, h2⟩
  have hxy : ∀ V : World, (Calls Try.prog 8 #[TV x, TV y] V fun e w' => e = .returned (.bool (strongT x y)) ∧ Below V.heap.size V w') ∧ (Calls Try.prog 8 #[TV y, TV x] V fun e w' => e = .returned (.bool (strongT x y)) ∧ Below V.heap.size V w') ∧
      (Calls Try.prog 7 #[TV x, TV y] V fun e w' => e = .returned (.bool (weakT x y)) ∧ Below V.heap.size V w') ∧ Calls Try.prog 7 #[TV y, TV x] V fun e w' => e = .returned (.bool (weakT x y)) ∧ Below V.heap.size V w' := fun V => by
    have h1 := strong_any y x V
    have h2 := weak_any y x V
    rw [strong_comm] at h1
    rw [weak_comm] at h2
    exact ⟨strong_any x y V, h1, weak_any x y V, h2⟩
  cases hs : strongT x y with
  | true =>
    obtain ⟨k1, k2, k3⟩ := strong_weak hs
    have e := strong_same ho hq hs
    obtain rfl : a0 = a1 := by
      cases a0; cases a1; congr; exact Array.toList_inj.1 e
    rw [ho] at hq
    injection hq with hq
    subst hq
    rw [hs, k1] at hxy
    obtain ⟨b, t⟩ := x
    have k2' : b = false := k2
    subst k2'
    exact way_same a0 s0 w _ _ (by rw [ho]; exact hX) (by rw [ho]; exact hX) hxy hxx
  | false =>
    rw [hs] at hxy
    obtain ⟨b, t⟩ := x
    obtain ⟨c, u⟩ := y
    cases b <;> cases hw : weakT _ _ <;> rw [hw] at hxy
    · exact way_false_false a0 s0 a1 s1 w _ _ _ (by rw [ho]; exact hX) (by rw [hq]; exact hY) hxy hxx
    · exact way_false_true a0 s0 a1 s1 w _ _ _ (by rw [ho]; exact hX) (by rw [hq]; exact hY) hxy hxx
    · exact way_true_false a0 s0 a1 s1 w _ _ _ (by rw [ho]; exact hX) (by rw [hq]; exact hY) hxy hxx
    · exact way_true_true a0 s0 a1 s1 w _ _ _ (by rw [ho]; exact hX) (by rw [hq]; exact hY) hxy hxx

set_option maxRecDepth 100000 in
theorem lifted (os : Os) (started : os.Started) (H : Type) (enc : TypeId × Value → H) :
    ReturnsInHanded {} Try.checked os 4 .any (Rows.validatorWeakSpec.pre6 enc Try.prog Try.f4 Rows.validatorWeakRow.domain false) (Rows.validatorWeakSpec.post enc Try.prog Try.f4 false true false false) := by
  refine returnsInHanded_of_change_sized (C := Try.checked) own started (by kernel_rfl) Try.func4
    (ChangeSpec.witness6 (enc := enc) (C := Try.checked) false ⟨#[], #[.string ByteArray.empty, .string ByteArray.empty], []⟩ 8 (by kernel_rfl) (by kernel_rfl) (by kernel_rfl) (by kernel_rfl)) ?_
  intro W base args ds gs before hval0 hW hcnd hsz _
  have hval : ∀ (j : Nat) t v, Try.f4.params[j]? = some t → args[j]? = some v → Value.okWide Try.prog W .any base t v := hval0
  have hW' := hW
  obtain ⟨p, q, hA0, hV, rfl, hfz, hnd⟩ := hW
  have hA : DataW.TrodAll enc Try.prog W 0 (fun _ => true) true Try.f4.params.toList args.toList ds p := hA0
  rw [Try.params4] at hA hval hsz
  obtain ⟨v0, vs0, d0, ds0, p0, q0, hargs, rfl, rfl, h0, r0⟩ := trodAll_cons hA
  obtain ⟨v1, vs1, d1, ds1, p1, q1, rfl, rfl, rfl, h1, r1⟩ := trodAll_cons r0
  obtain ⟨rfl, rfl, rfl⟩ := trodAll_nil r1
  have hw0 : ∀ n ∈ d0.weights Try.prog 9, n ≤ reachBytes := fun n hn => by simpa using List.all_eq_true.1 hsz n (DataW.weights_mem_each (j := 0) (t := 9) (d := d0) rfl rfl _ hn)
  have hw1 : ∀ n ∈ d1.weights Try.prog 9, n ≤ reachBytes := fun n hn => by simpa using List.all_eq_true.1 hsz n (DataW.weights_mem_each (j := 1) (t := 9) (d := d1) rfl rfl _ hn)
  obtain rfl : args = #[v0, v1] := by cases args; simp_all
  obtain ⟨rfl, rfl⟩ := trodVars_none hV
  obtain ⟨a0, rfl, rfl, rfl, w0⟩ := open_string Try.underlying9 (hval 0 9 v0 rfl rfl) h0
  have s0 : a0.size ≤ reachBytes := by simpa [DataW.weights] using hw0
  obtain ⟨a1, rfl, rfl, rfl, w1⟩ := open_string Try.underlying9 (hval 1 9 v1 rfl rfl) h1
  have s1 : a1.size ≤ reachBytes := by simpa [DataW.weights] using hw1
  clear hA0 hval0
  simp only [List.append_nil] at hW'
  refine (walk a0 s0 a1 s1 W).mono fun e W' ⟨he, bel⟩ => ?_
  subst he
  exact ⟨_, rfl, _, _, _, [], _, [], hW', trodAll_mk1 (shut_bool Try.underlying4 _), (trodAll_cons_mk (shut_string Try.underlying9 w0) (trodAll_cons_mk (shut_string Try.underlying9 w1) trodAll_mk0)), rfl, bel.frame _, fun h => by cases h⟩

theorem over : Rows.validatorWeakRow.holds Try.pinned (OpenSpec.ofChange Rows.validatorWeakSpec) :=
  OpenClaim.holds_of_wide 4 Try.f4 rfl rfl rfl rfl rfl rfl rfl ⟨rfl, rfl, rfl, rfl, rfl⟩ rfl rfl rfl rfl rfl (by kernel_rfl) Try.func4 (by kernel_rfl)
    (of_decide_eq_true (by kernel_rfl)) (by unfold Func.isWrapper; first | (rw [if_pos (by decide +kernel)]; kernel_rfl) | (rw [if_neg (by decide +kernel)]; exact ⟨rfl, rfl⟩))
    (fun os started H enc _ => lifted os started H enc)

theorem proved : Rows.ValidatorWeakSaid := over
end Go.Proofs.Ytledjiikpajdaaa.validatorWeak
