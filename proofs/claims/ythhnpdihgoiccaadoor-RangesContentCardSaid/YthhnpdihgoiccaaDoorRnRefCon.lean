/-
  gatepostref14.Content: what it returns. No condition.
-/
import Derived.Test.YthhnpdihgoiccaaDoorRnCon
import Derived.Test.YthhnpdihgoiccaaDoorRnDig
namespace Go.Proofs.YthhnpdihgoiccaaDoor.Rn
open Go.RowKit Go.Proofs.YthhnpdihgoiccaaDoor.Fd Go.Proofs.YthhnpdihgoiccaaDoor.Sn Go.Proofs.YthhnpdihgoiccaaDoor.Rm Go.Proofs.YthhnpdihgoiccaaDoor.Ct
set_option maxRecDepth 100000
set_option linter.unusedVariables false
set_option linter.unusedSimpArgs false

theorem bytes_list {p : ByteArray} {l : Tk.Bs} (h : p.data.toList = l) : p = ⟨l.toArray⟩ := by subst h; cases p; simp
theorem Kp.cells {w W : World} {a b : Nat} {t : TypeId} (h : Kp w [(w.heap.size, ((a : Int), (b : Int)), t)] W) : W.cell? ⟨w.heap.size, 0, none⟩ = some (.int .i64 (a : Int)) ∧ W.cell? ⟨w.heap.size, 1, none⟩ = some (.int .i64 (b : Int)) :=
  ⟨h.c0 (x := (a : Int)) (y := (b : Int)) (t := t) (by simp), h.c1 (x := (a : Int)) (y := (b : Int)) (t := t) (by simp)⟩
set_option maxHeartbeats 8000000 in
theorem refContent_any (x y long : Int) (w : World) :
    Calls Tryd.prog 6 #[.agg #[.int .i64 x, .int .i64 y], .int .i64 long] w fun e w' => e = .returned (conV (contentOf (x, y) long)) ∧ Below w.heap.size w w' := by
  cases hr : rightR (x, y) long with
  | false =>
    have HV := Lib.hid (con_not hr)
    have HF := Lib.hid (show ∀ V : World, Calls Tryd.prog 12 #[.agg #[.int .i64 x, .int .i64 y], .int .i64 long] V fun e w' => e = .returned (.bool false) ∧ Below V.heap.size V w' from fun V => by rw [← hr]; exact right_any x y long V)
    have hb := (Below.refl w.heap.size w).alloc (Nat.le_refl _) (.cells #[.int .i64 x, .int .i64 y] 23)
    clear hr
    go_enter Tryd.func6, Tryd.ntmps6
    go_wp2_with fail
    refine (HF.out _).mono ?_
    rintro e w1 ⟨rfl, hb1⟩
    have HB := Lib.hid (Bl.next hb hb1)
    clear hb hb1
    go_wp2_with fail
    go_ret2
    exact ⟨by rw [HV.out]; rfl, HB.out⟩
  | true =>
    have HV := con_is hr
    obtain ⟨l0, l1, x0, xy, y1, ly, pos⟩ := right_iff.1 hr
    obtain ⟨a, rfl⟩ : ∃ a : Nat, x = (a : Int) := ⟨x.toNat, by omega⟩
    obtain ⟨b, rfl⟩ : ∃ b : Nat, y = (b : Int) := ⟨y.toNat, by omega⟩
    have HF := Lib.hid (show ∀ V : World, Calls Tryd.prog 12 #[.agg #[.int .i64 (a : Int), .int .i64 (b : Int)], .int .i64 long] V fun e w' => e = .returned (.bool true) ∧ Below V.heap.size V w' from fun V => by rw [← hr]; exact right_any a b long V)
    have HK0 := Lib.hid (show Kp w [(w.heap.size, ((a : Int), (b : Int)), 23)] (w.alloc (.cells #[.int .i64 (a : Int), .int .i64 (b : Int)] 23)) from Kp.start.new _ _ _)
    have HI := Lib.hid (fun (n : Nat) (h : n ≤ 9999999) (V : World) => (show Calls Tryd.prog 13 #[.int .i64 (n : Int)] V fun e w' => e = .returned (.string (T n)) ∧ V = w' from digits_any 9 n V (by omega) (by omega)))
    have sb := T_le (b - 1) (by omega)
    have sa := T_le a (by omega)
    clear hr
    go_enter Tryd.func6, Tryd.ntmps6
    go_wp2_with fail
    refine (HF.out _).mono ?_
    rintro e w1 ⟨rfl, hb1⟩
    have HK := Lib.hid (HK0.out.more hb1)
    clear hb1 HK0 HF
    have c0 := HK.out.cells.1
    have c1 := HK.out.cells.2
    go_upto_if 12 with fail
    go_cut [6] (fun s6 wx => ∃ N : ByteArray, s6 = .string N ∧ N.data.toList = longT long ∧ N.size ≤ 10 ∧ w1 = wx)
    case first =>
      by_cases hl : long = -1
      · subst hl
        go_wp2_with fail
        go_meet
        exact ⟨_, rfl, by rw [long_none], by decide, rfl⟩
      · obtain ⟨c, rfl⟩ : ∃ c : Nat, long = (c : Int) := ⟨long.toNat, by omega⟩
        have HIc := Lib.hid (HI.out c (by omega))
        have sc := T_le c (by omega)
        go_wp2_with fail
        refine (HIc.out _).mono ?_
        rintro e w9 ⟨rfl, rfl⟩
        go_wp2_with fail
        go_meet
        exact ⟨_, rfl, by rw [long_nat]; rfl, sc, rfl⟩
    case rest =>
      obtain ⟨N, rfl, hN, sN, rfl⟩ := hcut
      have HN := Lib.hid hN
      clear hN
      by_cases hab : a = b
      · subst hab
        have HT := Lib.hid (show (⟨#[98, 121, 116, 101, 115, 32, 42, 47]⟩ ++ N : ByteArray) = ⟨(bytL ++ (spanT ((a : Int), (a : Int)) ++ 47 :: longT long)).toArray⟩ from by
          rw [← HN.out, span_same _ _ rfl]
          exact bytes_list (by simp [bytL]))
        go_wp2_with fail
        go_ret2
        exact ⟨by rw [HV]; unfold conV; simp only; rw [← HT.out]; rfl, HK.out.bel⟩
      · have hne : ((a : Int) == (b : Int)) = false := by rw [beq_eq_false_iff_ne]; omega
        have HT := Lib.hid (show (⟨#[98, 121, 116, 101, 115, 32]⟩ ++ T a ++ ⟨#[45]⟩ ++ T (b - 1) ++ ⟨#[47]⟩ ++ N : ByteArray) = ⟨(bytL ++ (spanT ((a : Int), (b : Int)) ++ 47 :: longT long)).toArray⟩ from by
          rw [← HN.out, span_two _ _ (by omega)]
          have e : ((b : Int) - 1).toNat = b - 1 := by omega
          exact bytes_list (by unfold T decI; rw [e]; simp [bytL]))
        have hwr : IntKind.i64.wrap ((b : Int) - 1) = ((b - 1 : Nat) : Int) := by rw [IntWalk.i64_in _ (by omega)]; omega
        have HIa := Lib.hid (HI.out a (by omega))
        have HIb := Lib.hid (HI.out (b - 1) (by omega))
        have e6 : (⟨#[98, 121, 116, 101, 115, 32]⟩ : ByteArray).size = 6 := rfl
        have e1 : (⟨#[45]⟩ : ByteArray).size = 1 := rfl
        have e2 : (⟨#[47]⟩ : ByteArray).size = 1 := rfl
        generalize hA : T a = A at HIa sa HT
        generalize hB : T (b - 1) = B at HIb sb HT
        clear hA hB
        go_upto_region 8 with fail
        clear c0 c1
        refine Rg.val_region (n := 35) (J := fun V => Kp w [(w.heap.size, ((a : Int), (b : Int)), 23)] V) [(22, .pointer (some ⟨w.heap.size, 0, none⟩)), (23, .int .i64 (a : Int)), (24, .string A), (25, .string (⟨#[98, 121, 116, 101, 115, 32]⟩ ++ A)), (26, .string (⟨#[98, 121, 116, 101, 115, 32]⟩ ++ A ++ ⟨#[45]⟩)), (27, .pointer (some ⟨w.heap.size, 1, none⟩)), (28, .int .i64 (b : Int)), (29, .int .i64 ((b - 1 : Nat) : Int)), (30, .string B), (31, .string (⟨#[98, 121, 116, 101, 115, 32]⟩ ++ A ++ ⟨#[45]⟩ ++ B)), (32, .string (⟨#[98, 121, 116, 101, 115, 32]⟩ ++ A ++ ⟨#[45]⟩ ++ B ++ ⟨#[47]⟩)), (33, .string N), (34, .string (⟨#[98, 121, 116, 101, 115, 32]⟩ ++ A ++ ⟨#[45]⟩ ++ B ++ ⟨#[47]⟩ ++ N)), (4, .string (⟨#[98, 121, 116, 101, 115, 32]⟩ ++ A ++ ⟨#[45]⟩ ++ B ++ ⟨#[47]⟩ ++ N)), (5, .int .i64 0)] (by kernel_rfl) (by kernel_rfl) (by kernel_rfl) (by kernel_rfl) HK.out.drew (fun F hF => ?_)
        simp only [Rg.fill, List.setIfInBounds_toArray, List.set_cons_zero, List.set_cons_succ] at hF
        subst hF
        refine ⟨?_, fun V hJ => ?_⟩
        · show ∀ i, i < 15 → _
          repeat' refine Rg.below_succ ?_ ?_
          all_goals first
            | exact Rg.below_zero
            | (refine Rg.StepOK.of rfl ?_
               right
               refine ⟨by kernel_rfl, fun V hJ K hK => ?_⟩
               have c0 := hJ.cells.1
               have c1 := hJ.cells.2
               have HJ := Lib.hid hJ
               clear hJ
               have q1 : ¬ 9223372036854775807 < 6 + A.size := by omega
               have q2 : ¬ 9223372036854775807 < 6 + A.size + 1 := by omega
               have q3 : ¬ 9223372036854775807 < 6 + A.size + 1 + B.size := by omega
               have q4 : ¬ 9223372036854775807 < 6 + A.size + 1 + B.size + 1 := by omega
               have q5 : ¬ 9223372036854775807 < 6 + A.size + 1 + B.size + 1 + N.size := by omega
               go_simp
               first
                 | (with_reducible exact hK _ HJ.out)
                 | ((with_reducible refine (HIa.out _).mono ?_); rintro e w9 ⟨rfl, rfl⟩; exact hK _ HJ.out)
                 | ((with_reducible refine (HIb.out _).mono ?_); rintro e w9 ⟨rfl, rfl⟩; exact hK _ HJ.out))
        · go_wp2_with fail
          go_ret2
          exact ⟨by rw [HV]; unfold conV; simp only; rw [← HT.out]; rfl, hJ.bel⟩
end Go.Proofs.YthhnpdihgoiccaaDoor.Rn
