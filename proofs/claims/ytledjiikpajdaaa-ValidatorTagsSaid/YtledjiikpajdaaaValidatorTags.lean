/-
  ValidatorTags: ValidatorTags: whole, at the row.
  Conditions: none.
-/
import Derived.Test.YtledjiikpajdaaaRows
import Derived.Test.YtledjiikpajdaaaVdRefTag
import Derived.Test.YtledjiikpajdaaaVdAlike
import Derived.Test.YtledjiikpajdaaaVdTags
import Derived.Test.YtledjiikpajdaaaRgVal
import Derived.WalkKit
import Derived.WalkLawsBesides
import Derived.ProofKit
import Derived.OpenShut
import Derived.ShutString
import Derived.SizedLaws
import Derived.Carry
import Derived.Below
import Derived.Outline
import Derived.Lib.Hide
namespace Go.Proofs.Ytledjiikpajdaaa.validatorTags
open Go.ChangeShapes Go.WideShapes Go.ChangeAt Go.RowKit
open Go.ChangeMaps (open_string shut_string)
set_option linter.unusedVariables false

theorem own : ownKnob Try.prog.godebug = none := by kernel_rfl
theorem laidOut : laidOutB Try.prog = true := by kernel_rfl

open Go.Proofs.Ytledjiikpajdaaa.Tk Go.Proofs.Ytledjiikpajdaaa.Fd Go.Proofs.Ytledjiikpajdaaa.Vd
theorem val_eq (o : Option Vd.Tag) : tagVal o = .tuple #[.agg #[.bool (o.getD (false, [])).1, .string ⟨(o.getD (false, [])).2.toArray⟩], .bool o.isSome] := by cases o <;> rfl
theorem rval_eq (o : Option Vd.Tag) : rtagVal o = .tuple #[.agg #[.bool (o.getD (false, [])).1, .string ⟨(o.getD (false, [])).2.toArray⟩], .bool o.isSome] := by cases o <;> rfl
theorem tags_law {w V : World} {g1 g2 g3 g4 g5 : Nat} {xw zw : Bool} {xs zs : ByteArray} (h : Tags w [(g5, .bool true, .string ⟨#[97]⟩, 23), (g4, .bool zw, .string zs, 26), (g3, .bool zw, .string zs, 23), (g2, .bool xw, .string xs, 26), (g1, .bool xw, .string xs, 23)] V) : V.cell? ⟨g1, 0, none⟩ = some (.bool xw) ∧ V.cell? ⟨g1, 1, none⟩ = some (.string xs) ∧ V.cell? ⟨g2, 0, none⟩ = some (.bool xw) ∧ V.cell? ⟨g2, 1, none⟩ = some (.string xs) ∧ V.cell? ⟨g3, 0, none⟩ = some (.bool zw) ∧ V.cell? ⟨g3, 1, none⟩ = some (.string zs) ∧ V.cell? ⟨g4, 0, none⟩ = some (.bool zw) ∧ V.cell? ⟨g4, 1, none⟩ = some (.string zs) ∧ V.cell? ⟨g5, 0, none⟩ = some (.bool true) ∧ V.cell? ⟨g5, 1, none⟩ = some (.string ⟨#[97]⟩) ∧ Tags w [(g5, .bool true, .string ⟨#[97]⟩, 23), (g4, .bool zw, .string zs, 26), (g3, .bool zw, .string zs, 23), (g2, .bool xw, .string xs, 26), (g1, .bool xw, .string xs, 23)] V := ⟨h.c0 (.tail _ (.tail _ (.tail _ (.tail _ (.head _))))), h.c1 (.tail _ (.tail _ (.tail _ (.tail _ (.head _))))), h.c0 (.tail _ (.tail _ (.tail _ (.head _)))), h.c1 (.tail _ (.tail _ (.tail _ (.head _)))), h.c0 (.tail _ (.tail _ (.head _))), h.c1 (.tail _ (.tail _ (.head _))), h.c0 (.tail _ (.head _)), h.c1 (.tail _ (.head _)), h.c0 (.head _), h.c1 (.head _), h⟩
theorem lit_val : tagVal (parseTag (⟨#[87, 47, 34, 97, 34]⟩ : ByteArray).data.toList) = .tuple #[.agg #[.bool true, .string ⟨#[97]⟩], .bool true] := by
  rw [show (⟨#[87, 47, 34, 97, 34]⟩ : ByteArray).data.toList = [87, 47, 34, 97, 34] from rfl, a_weak]; rfl
theorem weak_text (a b : Bool) (s t : ByteArray) : weakT (a, s.data.toList) (b, t.data.toList) = (s.toList == t.toList) := by
  unfold weakT; rw [ByteArray.toList_eq, ByteArray.toList_eq]
set_option maxRecDepth 100000 in
set_option maxHeartbeats 16000000 in
theorem walk (a0 : ByteArray) (s0 : a0.size ≤ reachBytes) (a1 : ByteArray) (s1 : a1.size ≤ reachBytes) (w : World) :
    Calls Try.prog 3 #[.string a0, .string a1] w fun e w' => e = .returned (.bool true) ∧ Below w.heap.size w w' := by
  unfold reachBytes at s0 s1
  have HX := Lib.hid (val_eq (parseTag a0.data.toList))
  have HY := Lib.hid (rval_eq (parseTag a0.data.toList))
  have HZ := Lib.hid (val_eq (parseTag a1.data.toList))
  have HV := Lib.hid (rval_eq (parseTag a1.data.toList))
  obtain ⟨o, ho⟩ : ∃ o, o = parseTag a0.data.toList := ⟨_, rfl⟩
  obtain ⟨q, hq⟩ : ∃ q, q = parseTag a1.data.toList := ⟨_, rfl⟩
  have HWk := Lib.hid (weak_any (o.getD (false, [])) (q.getD (false, [])))
  have HSt := Lib.hid (strong_any (o.getD (false, [])) (q.getD (false, [])))
  rw [← ho] at HX HY
  rw [← hq] at HZ HV
  have HO := Lib.hid ho
  have HQ := Lib.hid hq
  clear ho hq
  obtain ⟨xw, hxw⟩ : ∃ x, x = (o.getD (false, [])).1 := ⟨_, rfl⟩
  obtain ⟨xs, hxs⟩ : ∃ x : ByteArray, x = ⟨(o.getD (false, [])).2.toArray⟩ := ⟨_, rfl⟩
  obtain ⟨zw, hzw⟩ : ∃ x, x = (q.getD (false, [])).1 := ⟨_, rfl⟩
  obtain ⟨zs, hzs⟩ : ∃ x : ByteArray, x = ⟨(q.getD (false, [])).2.toArray⟩ := ⟨_, rfl⟩
  obtain ⟨ok, hok⟩ : ∃ x, x = o.isSome := ⟨_, rfl⟩
  obtain ⟨oq, hoq⟩ : ∃ x, x = q.isSome := ⟨_, rfl⟩
  replace HWk := Lib.hid (show ∀ W : World, Calls Try.prog 7 #[.agg #[.bool xw, .string xs], .agg #[.bool zw, .string zs]] W fun e w' => e = .returned (.bool (weakT (xw, xs.data.toList) (zw, zs.data.toList))) ∧ Below W.heap.size W w' from fun W => by rw [hxw, hxs, hzw, hzs]; exact HWk.out W)
  replace HSt := Lib.hid (show ∀ W : World, Calls Try.prog 8 #[.agg #[.bool xw, .string xs], .agg #[.bool zw, .string zs]] W fun e w' => e = .returned (.bool (strongT (xw, xs.data.toList) (zw, zs.data.toList))) ∧ Below W.heap.size W w' from fun W => by rw [hxw, hxs, hzw, hzs]; exact HSt.out W)
  rw [← hxw, ← hxs, ← hok] at HX HY
  rw [← hzw, ← hzs, ← hoq] at HZ HV
  clear hxw hxs hzw hzs hok hoq
  have HL := Lib.hid lit_val
  go_enter Try.func3, Try.ntmps3
  go_wp2_with fail
  refine (parse_any a0 _ (by omega)).mono ?_
  rintro e w1 ⟨rfl, hb1⟩
  rw [← HO.out, HX.out]
  have T1 := Lib.hid ((Tags.start hb1).new (.bool xw) (.string xs) 23)
  clear hb1
  go_wp2_with fail
  refine (refParse_any a0 _ (by omega)).mono ?_
  rintro e w2 ⟨rfl, hb1⟩
  rw [← HO.out, HY.out]
  have T2 := Lib.hid ((T1.out.more hb1).new (.bool xw) (.string xs) 26)
  clear hb1 T1
  go_wp2_with fail
  refine (parse_any a1 _ (by omega)).mono ?_
  rintro e w3 ⟨rfl, hb1⟩
  rw [← HQ.out, HZ.out]
  have T3 := Lib.hid ((T2.out.more hb1).new (.bool zw) (.string zs) 23)
  clear hb1 T2
  go_wp2_with fail
  refine (refParse_any a1 _ (by omega)).mono ?_
  rintro e w4 ⟨rfl, hb1⟩
  rw [← HQ.out, HV.out]
  have T4 := Lib.hid ((T3.out.more hb1).new (.bool zw) (.string zs) 26)
  clear hb1 T3
  go_wp2_with fail
  refine (parse_any _ _ (by decide)).mono ?_
  rintro e w5 ⟨rfl, hb1⟩
  rw [HL.out]
  have T5 := Lib.hid ((T4.out.more hb1).new (.bool true) (.string ⟨#[97]⟩) 23)
  clear hb1 T4
  go_wp2_with fail
  obtain ⟨g1, hg1⟩ : ∃ g, g = w1.heap.size := ⟨_, rfl⟩
  obtain ⟨g2, hg2⟩ : ∃ g, g = w2.heap.size := ⟨_, rfl⟩
  obtain ⟨g3, hg3⟩ : ∃ g, g = w3.heap.size := ⟨_, rfl⟩
  obtain ⟨g4, hg4⟩ : ∃ g, g = w4.heap.size := ⟨_, rfl⟩
  obtain ⟨g5, hg5⟩ : ∃ g, g = w5.heap.size := ⟨_, rfl⟩
  rw [← hg1, ← hg2, ← hg3, ← hg4, ← hg5] at T5 ⊢
  obtain ⟨W, hW⟩ : ∃ W, W = w5.alloc (.cells #[.bool true, .string ⟨#[97]⟩] 23) := ⟨_, rfl⟩
  rw [← hW] at T5 ⊢
  clear hW hg1 hg2 hg3 hg4 hg5
  by_cases e1 : xs = zs
  · subst e1
    by_cases e2 : xw = zw
    · subst e2
      have q1 : weakT (xw, xs.data.toList) (xw, xs.data.toList) = true := by unfold weakT; simp
      have q2 : strongT (xw, xs.data.toList) (xw, xs.data.toList) = !xw := by unfold strongT; simp
      clear HX HY HZ HV
      cases xw
      · have T := Lib.hid T5.out.drew
        have KW := Lib.hid (show ∀ V : World, Calls Try.prog 7 #[.agg #[.bool false, .string xs], .agg #[.bool false, .string xs]] V fun e w' => e = .returned (.bool true) ∧ Below V.heap.size V w' from fun V => by have h := HWk.out V; rw [q1] at h; exact h)
        have KS := Lib.hid (show ∀ V : World, Calls Try.prog 8 #[.agg #[.bool false, .string xs], .agg #[.bool false, .string xs]] V fun e w' => e = .returned (.bool true) ∧ Below V.heap.size V w' from fun V => by have h := HSt.out V; rw [q2] at h; exact h)
        clear T5 HWk HSt q1 q2
        refine Rg.val_region (n := 89) (J := fun V => Tags w [(g5, .bool true, .string ⟨#[97]⟩, 23), (g4, .bool false, .string xs, 26), (g3, .bool false, .string xs, 23), (g2, .bool false, .string xs, 26), (g1, .bool false, .string xs, 23)] V) [(39, .agg #[.bool false, .string xs]), (40, .agg #[.bool false, .string xs]), (41, .bool true), (42, .bool true), (43, .bool ok), (44, .bool ok), (45, .bool true), (46, .bool true), (47, .bool true), (48, .agg #[.bool false, .string xs]), (49, .agg #[.bool false, .string xs]), (50, .bool true), (51, .bool true), (52, .bool true), (53, .agg #[.bool false, .string xs]), (54, .agg #[.bool false, .string xs]), (55, .bool true), (56, .pointer (some ⟨g2, 1, none⟩)), (57, .string xs), (58, .pointer (some ⟨g4, 1, none⟩)), (59, .string xs), (60, .bool true), (61, .bool true), (62, .bool true), (63, .bool true), (64, .agg #[.bool false, .string xs]), (65, .agg #[.bool false, .string xs]), (66, .bool true), (67, .agg #[.bool false, .string xs]), (68, .agg #[.bool false, .string xs]), (69, .bool true), (70, .bool true), (71, .pointer (some ⟨g2, 0, none⟩)), (72, .bool false), (73, .bool true), (74, .bool true), (75, .bool true), (76, .bool true), (77, .bool true), (78, .pointer (some ⟨g5, 0, none⟩)), (79, .bool true), (80, .bool true), (81, .bool true), (82, .pointer (some ⟨g5, 1, none⟩)), (83, .string ⟨#[97]⟩), (84, .bool true), (85, .bool true), (86, .bool true), (87, .bool true), (88, .bool true), (4, .bool true)] (by kernel_rfl) (by kernel_rfl) (by kernel_rfl) (by kernel_rfl) T.out (fun F hF => ?_)
        simp only [Rg.fill, List.setIfInBounds_toArray, List.set_cons_zero, List.set_cons_succ] at hF
        subst hF
        clear T
        refine ⟨?_, fun V hJ => ?_⟩
        · repeat' refine Rg.below_succ ?_ ?_
          all_goals first
            | exact Rg.below_zero
            | (refine Rg.StepOK.of rfl ?_
               first
               | (left; exact ⟨by kernel_rfl, fun d hd => by injection hd with hd; subst hd; rfl⟩)
               | (right
                  refine ⟨by kernel_rfl, fun V hJ K hK => ?_⟩
                  obtain ⟨c1, c2, c3, c4, c5, c6, c7, c8, c9, ca, _⟩ := tags_law hJ
                  have HJ := Lib.hid hJ
                  clear hJ
                  go_simp
                  first
                    | exact hK _ HJ.out
                    | (refine (KW.out _).mono ?_; rintro e w9 ⟨rfl, hb⟩; exact hK _ (HJ.out.more hb))
                    | (refine (KS.out _).mono ?_; rintro e w9 ⟨rfl, hb⟩; exact hK _ (HJ.out.more hb))))
        · go_wp2_with fail
          go_ret
          exact ⟨rfl, hJ.bel⟩
      · have T := Lib.hid T5.out.drew
        have KW := Lib.hid (show ∀ V : World, Calls Try.prog 7 #[.agg #[.bool true, .string xs], .agg #[.bool true, .string xs]] V fun e w' => e = .returned (.bool true) ∧ Below V.heap.size V w' from fun V => by have h := HWk.out V; rw [q1] at h; exact h)
        have KS := Lib.hid (show ∀ V : World, Calls Try.prog 8 #[.agg #[.bool true, .string xs], .agg #[.bool true, .string xs]] V fun e w' => e = .returned (.bool false) ∧ Below V.heap.size V w' from fun V => by have h := HSt.out V; rw [q2] at h; exact h)
        clear T5 HWk HSt q1 q2
        refine Rg.val_region (n := 89) (J := fun V => Tags w [(g5, .bool true, .string ⟨#[97]⟩, 23), (g4, .bool true, .string xs, 26), (g3, .bool true, .string xs, 23), (g2, .bool true, .string xs, 26), (g1, .bool true, .string xs, 23)] V) [(39, .agg #[.bool true, .string xs]), (40, .agg #[.bool true, .string xs]), (41, .bool true), (42, .bool true), (43, .bool ok), (44, .bool ok), (45, .bool true), (46, .bool true), (47, .bool true), (48, .agg #[.bool true, .string xs]), (49, .agg #[.bool true, .string xs]), (50, .bool true), (51, .bool true), (52, .bool true), (53, .agg #[.bool true, .string xs]), (54, .agg #[.bool true, .string xs]), (55, .bool true), (56, .pointer (some ⟨g2, 1, none⟩)), (57, .string xs), (58, .pointer (some ⟨g4, 1, none⟩)), (59, .string xs), (60, .bool true), (61, .bool true), (62, .bool true), (63, .bool true), (64, .agg #[.bool true, .string xs]), (65, .agg #[.bool true, .string xs]), (66, .bool false), (67, .agg #[.bool true, .string xs]), (68, .agg #[.bool true, .string xs]), (69, .bool true), (70, .bool true), (71, .pointer (some ⟨g2, 0, none⟩)), (72, .bool true), (73, .bool false), (74, .bool false), (75, .bool true), (76, .bool true), (77, .bool true), (78, .pointer (some ⟨g5, 0, none⟩)), (79, .bool true), (80, .bool true), (81, .bool true), (82, .pointer (some ⟨g5, 1, none⟩)), (83, .string ⟨#[97]⟩), (84, .bool true), (85, .bool true), (86, .bool true), (87, .bool true), (88, .bool true), (4, .bool true)] (by kernel_rfl) (by kernel_rfl) (by kernel_rfl) (by kernel_rfl) T.out (fun F hF => ?_)
        simp only [Rg.fill, List.setIfInBounds_toArray, List.set_cons_zero, List.set_cons_succ] at hF
        subst hF
        clear T
        refine ⟨?_, fun V hJ => ?_⟩
        · repeat' refine Rg.below_succ ?_ ?_
          all_goals first
            | exact Rg.below_zero
            | (refine Rg.StepOK.of rfl ?_
               first
               | (left; exact ⟨by kernel_rfl, fun d hd => by injection hd with hd; subst hd; rfl⟩)
               | (right
                  refine ⟨by kernel_rfl, fun V hJ K hK => ?_⟩
                  obtain ⟨c1, c2, c3, c4, c5, c6, c7, c8, c9, ca, _⟩ := tags_law hJ
                  have HJ := Lib.hid hJ
                  clear hJ
                  go_simp
                  first
                    | exact hK _ HJ.out
                    | (refine (KW.out _).mono ?_; rintro e w9 ⟨rfl, hb⟩; exact hK _ (HJ.out.more hb))
                    | (refine (KS.out _).mono ?_; rintro e w9 ⟨rfl, hb⟩; exact hK _ (HJ.out.more hb))))
        · go_wp2_with fail
          go_ret
          exact ⟨rfl, hJ.bel⟩
    · have q1 : weakT (xw, xs.data.toList) (zw, xs.data.toList) = true := by unfold weakT; simp
      have q2 : strongT (xw, xs.data.toList) (zw, xs.data.toList) = false := by unfold strongT; cases xw <;> cases zw <;> first | rfl | exact absurd rfl e2
      have e3 : (xw == zw) = false := by simp [e2]
      clear HX HY HZ HV
      have T := Lib.hid T5.out.drew
      have KW := Lib.hid (show ∀ V : World, Calls Try.prog 7 #[.agg #[.bool xw, .string xs], .agg #[.bool zw, .string xs]] V fun e w' => e = .returned (.bool true) ∧ Below V.heap.size V w' from fun V => by have h := HWk.out V; rw [q1] at h; exact h)
      have KS := Lib.hid (show ∀ V : World, Calls Try.prog 8 #[.agg #[.bool xw, .string xs], .agg #[.bool zw, .string xs]] V fun e w' => e = .returned (.bool false) ∧ Below V.heap.size V w' from fun V => by have h := HSt.out V; rw [q2] at h; exact h)
      clear T5 HWk HSt q1 q2
      refine Rg.val_region (n := 89) (J := fun V => Tags w [(g5, .bool true, .string ⟨#[97]⟩, 23), (g4, .bool zw, .string xs, 26), (g3, .bool zw, .string xs, 23), (g2, .bool xw, .string xs, 26), (g1, .bool xw, .string xs, 23)] V) [(39, .agg #[.bool xw, .string xs]), (40, .agg #[.bool xw, .string xs]), (41, .bool true), (42, .bool true), (43, .bool ok), (44, .bool ok), (45, .bool true), (46, .bool true), (47, .bool true), (48, .agg #[.bool zw, .string xs]), (49, .agg #[.bool zw, .string xs]), (50, .bool true), (51, .bool true), (52, .bool true), (53, .agg #[.bool xw, .string xs]), (54, .agg #[.bool zw, .string xs]), (55, .bool true), (56, .pointer (some ⟨g2, 1, none⟩)), (57, .string xs), (58, .pointer (some ⟨g4, 1, none⟩)), (59, .string xs), (60, .bool true), (61, .bool true), (62, .bool true), (63, .bool true), (64, .agg #[.bool xw, .string xs]), (65, .agg #[.bool zw, .string xs]), (66, .bool false), (67, .agg #[.bool xw, .string xs]), (68, .agg #[.bool zw, .string xs]), (69, .bool false), (70, .bool false), (71, undef), (72, undef), (73, undef), (74, .bool false), (75, .bool true), (76, .bool true), (77, .bool true), (78, .pointer (some ⟨g5, 0, none⟩)), (79, .bool true), (80, .bool true), (81, .bool true), (82, .pointer (some ⟨g5, 1, none⟩)), (83, .string ⟨#[97]⟩), (84, .bool true), (85, .bool true), (86, .bool true), (87, .bool true), (88, .bool true), (4, .bool true)] (by kernel_rfl) (by kernel_rfl) (by kernel_rfl) (by kernel_rfl) T.out (fun F hF => ?_)
      simp only [Rg.fill, List.setIfInBounds_toArray, List.set_cons_zero, List.set_cons_succ] at hF
      subst hF
      clear T
      refine ⟨?_, fun V hJ => ?_⟩
      · repeat' refine Rg.below_succ ?_ ?_
        all_goals first
          | exact Rg.below_zero
          | (refine Rg.StepOK.of rfl ?_
             first
             | (left; exact ⟨by kernel_rfl, fun d hd => by injection hd with hd; subst hd; rfl⟩)
             | (right
                refine ⟨by kernel_rfl, fun V hJ K hK => ?_⟩
                obtain ⟨c1, c2, c3, c4, c5, c6, c7, c8, c9, ca, _⟩ := tags_law hJ
                have HJ := Lib.hid hJ
                clear hJ
                go_simp
                first
                  | exact hK _ HJ.out
                  | (refine (KW.out _).mono ?_; rintro e w9 ⟨rfl, hb⟩; exact hK _ (HJ.out.more hb))
                  | (refine (KS.out _).mono ?_; rintro e w9 ⟨rfl, hb⟩; exact hK _ (HJ.out.more hb))))
      · go_wp2_with fail
        go_ret
        exact ⟨rfl, hJ.bel⟩
  · have e4 : xs.data.toList ≠ zs.data.toList := fun h => e1 (by cases xs; cases zs; congr; exact Array.toList_inj.1 h)
    have q1 : weakT (xw, xs.data.toList) (zw, zs.data.toList) = false := by unfold weakT; exact beq_eq_false_iff_ne.2 e4
    have q2 : strongT (xw, xs.data.toList) (zw, zs.data.toList) = false := by unfold strongT; rw [show (xs.data.toList == zs.data.toList) = false from beq_eq_false_iff_ne.2 e4, Bool.and_false]
    have e3 : (xs.toList == zs.toList) = false := by rw [ByteArray.toList_eq, ByteArray.toList_eq]; exact beq_eq_false_iff_ne.2 e4
    clear HX HY HZ HV e4
    have T := Lib.hid T5.out.drew
    have KW := Lib.hid (show ∀ V : World, Calls Try.prog 7 #[.agg #[.bool xw, .string xs], .agg #[.bool zw, .string zs]] V fun e w' => e = .returned (.bool false) ∧ Below V.heap.size V w' from fun V => by have h := HWk.out V; rw [q1] at h; exact h)
    have KS := Lib.hid (show ∀ V : World, Calls Try.prog 8 #[.agg #[.bool xw, .string xs], .agg #[.bool zw, .string zs]] V fun e w' => e = .returned (.bool false) ∧ Below V.heap.size V w' from fun V => by have h := HSt.out V; rw [q2] at h; exact h)
    clear T5 HWk HSt q1 q2
    refine Rg.val_region (n := 89) (J := fun V => Tags w [(g5, .bool true, .string ⟨#[97]⟩, 23), (g4, .bool zw, .string zs, 26), (g3, .bool zw, .string zs, 23), (g2, .bool xw, .string xs, 26), (g1, .bool xw, .string xs, 23)] V) [(39, .agg #[.bool xw, .string xs]), (40, .agg #[.bool xw, .string xs]), (41, .bool true), (42, .bool true), (43, .bool ok), (44, .bool ok), (45, .bool true), (46, .bool true), (47, .bool true), (48, .agg #[.bool zw, .string zs]), (49, .agg #[.bool zw, .string zs]), (50, .bool true), (51, .bool true), (52, .bool true), (53, .agg #[.bool xw, .string xs]), (54, .agg #[.bool zw, .string zs]), (55, .bool false), (56, .pointer (some ⟨g2, 1, none⟩)), (57, .string xs), (58, .pointer (some ⟨g4, 1, none⟩)), (59, .string zs), (60, .bool false), (61, .bool true), (62, .bool true), (63, .bool true), (64, .agg #[.bool xw, .string xs]), (65, .agg #[.bool zw, .string zs]), (66, .bool false), (67, .agg #[.bool xw, .string xs]), (68, .agg #[.bool zw, .string zs]), (69, .bool false), (70, .bool false), (71, undef), (72, undef), (73, undef), (74, .bool false), (75, .bool true), (76, .bool true), (77, .bool true), (78, .pointer (some ⟨g5, 0, none⟩)), (79, .bool true), (80, .bool true), (81, .bool true), (82, .pointer (some ⟨g5, 1, none⟩)), (83, .string ⟨#[97]⟩), (84, .bool true), (85, .bool true), (86, .bool true), (87, .bool true), (88, .bool true), (4, .bool true)] (by kernel_rfl) (by kernel_rfl) (by kernel_rfl) (by kernel_rfl) T.out (fun F hF => ?_)
    simp only [Rg.fill, List.setIfInBounds_toArray, List.set_cons_zero, List.set_cons_succ] at hF
    subst hF
    clear T
    refine ⟨?_, fun V hJ => ?_⟩
    · repeat' refine Rg.below_succ ?_ ?_
      all_goals first
        | exact Rg.below_zero
        | (refine Rg.StepOK.of rfl ?_
           first
           | (left; exact ⟨by kernel_rfl, fun d hd => by injection hd with hd; subst hd; rfl⟩)
           | (right
              refine ⟨by kernel_rfl, fun V hJ K hK => ?_⟩
              obtain ⟨c1, c2, c3, c4, c5, c6, c7, c8, c9, ca, _⟩ := tags_law hJ
              have HJ := Lib.hid hJ
              clear hJ
              go_simp
              first
                | exact hK _ HJ.out
                | (refine (KW.out _).mono ?_; rintro e w9 ⟨rfl, hb⟩; exact hK _ (HJ.out.more hb))
                | (refine (KS.out _).mono ?_; rintro e w9 ⟨rfl, hb⟩; exact hK _ (HJ.out.more hb))))
    · go_wp2_with fail
      go_ret
      exact ⟨rfl, hJ.bel⟩

set_option maxRecDepth 100000 in
theorem lifted (os : Os) (started : os.Started) (H : Type) (enc : TypeId × Value → H) :
    ReturnsInHanded {} Try.checked os 3 .any (Rows.validatorTagsSpec.pre6 enc Try.prog Try.f3 Rows.validatorTagsRow.domain false) (Rows.validatorTagsSpec.post enc Try.prog Try.f3 false true false false) := by
  refine returnsInHanded_of_change_sized (C := Try.checked) own started (by kernel_rfl) Try.func3
    (ChangeSpec.witness6 (enc := enc) (C := Try.checked) false ⟨#[], #[.string ByteArray.empty, .string ByteArray.empty], []⟩ 8 (by kernel_rfl) (by kernel_rfl) (by kernel_rfl) (by kernel_rfl)) ?_
  intro W base args ds gs before hval0 hW hcnd hsz _
  have hval : ∀ (j : Nat) t v, Try.f3.params[j]? = some t → args[j]? = some v → Value.okWide Try.prog W .any base t v := hval0
  have hW' := hW
  obtain ⟨p, q, hA0, hV, rfl, hfz, hnd⟩ := hW
  have hA : DataW.TrodAll enc Try.prog W 0 (fun _ => true) true Try.f3.params.toList args.toList ds p := hA0
  rw [Try.params3] at hA hval hsz
  obtain ⟨v0, vs0, d0, ds0, p0, q0, hargs, rfl, rfl, h0, r0⟩ := trodAll_cons hA
  obtain ⟨v1, vs1, d1, ds1, p1, q1, rfl, rfl, rfl, h1, r1⟩ := trodAll_cons r0
  obtain ⟨rfl, rfl, rfl⟩ := trodAll_nil r1
  have hw0 : ∀ n ∈ d0.weights Try.prog 9, n ≤ reachBytes := fun n hn => by simpa using List.all_eq_true.1 hsz n (DataW.weights_mem_each (j := 0) (t := 9) (d := d0) rfl rfl _ hn)
  have hw1 : ∀ n ∈ d1.weights Try.prog 9, n ≤ reachBytes := fun n hn => by simpa using List.all_eq_true.1 hsz n (DataW.weights_mem_each (j := 1) (t := 9) (d := d1) rfl rfl _ hn)
  obtain rfl : args = #[v0, v1] := by cases args; simp_all
  obtain ⟨rfl, rfl⟩ := trodVars_none hV
  obtain ⟨a0, rfl, rfl, rfl, w0⟩ := open_string Try.underlying9 (hval 0 9 v0 rfl rfl) h0
  have s0 : a0.size ≤ reachBytes := by simpa [DataW.weights] using hw0
  obtain ⟨a1, rfl, rfl, rfl, w1⟩ := open_string Try.underlying9 (hval 1 9 v1 rfl rfl) h1
  have s1 : a1.size ≤ reachBytes := by simpa [DataW.weights] using hw1
  clear hA0 hval0
  simp only [List.append_nil] at hW'
  refine (walk a0 s0 a1 s1 W).mono fun e W' ⟨he, bel⟩ => ?_
  subst he
  exact ⟨_, rfl, _, _, _, [], _, [], hW', trodAll_mk1 (shut_bool Try.underlying4 _), (trodAll_cons_mk (shut_string Try.underlying9 w0) (trodAll_cons_mk (shut_string Try.underlying9 w1) trodAll_mk0)), rfl, bel.frame _, fun h => by cases h⟩

theorem over : Rows.validatorTagsRow.holds Try.pinned (OpenSpec.ofChange Rows.validatorTagsSpec) :=
  OpenClaim.holds_of_wide 3 Try.f3 rfl rfl rfl rfl rfl rfl rfl ⟨rfl, rfl, rfl, rfl, rfl⟩ rfl rfl rfl rfl rfl (by kernel_rfl) Try.func3 (by kernel_rfl)
    (of_decide_eq_true (by kernel_rfl)) (by unfold Func.isWrapper; first | (rw [if_pos (by decide +kernel)]; kernel_rfl) | (rw [if_neg (by decide +kernel)]; exact ⟨rfl, rfl⟩))
    (fun os started H enc _ => lifted os started H enc)

theorem proved : Rows.ValidatorTagsSaid := over
end Go.Proofs.Ytledjiikpajdaaa.validatorTags
