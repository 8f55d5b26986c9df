/-
  fresh.Lifetime: what it returns. Condition: the listed table of codes.
-/
import Derived.Test.YtbignmccpbccoaaDoorFhParts
import Derived.Test.YtbignmccpbccoaaDoorFhHeur
import Derived.Deep.RegionHeld3
namespace Go.Proofs.YtbignmccpbccoaaDoor.Fh
open Go.RowKit Go.Proofs.YtbignmccpbccoaaDoor.Ct Go.Proofs.YtbignmccpbccoaaDoor.Fd
set_option linter.unusedVariables false

theorem One.cells {w : World} {g : Nat} {m : Mta} {b : Nat} {l1 m1 : Int} {W : World} (h : One w g m b l1 m1 W) {N : Nat} (hN : N = 21) :
    (loadCellsFrom ⟨g, 0, none⟩ 0 N #[]).run Tryd.prog W = .ok (mcells m) W ∧ W.cell? ⟨g, 15, none⟩ = some (.int .i64 m.exp) ∧ One w g m b l1 m1 W := ⟨h.met.load hN, h.met.exp, h⟩
theorem life_sh' (m : Mta) (h : 0 ≤ m.con.sh) : lifeOf m = clampT 0 2147483648 m.con.sh := by unfold lifeOf; rw [if_pos h]; exact (clamp_age h).symm
theorem life_ag' (m : Mta) (h : ¬ 0 ≤ m.con.sh) (h2 : 0 ≤ m.con.ag) : lifeOf m = clampT 0 2147483648 m.con.ag := by unfold lifeOf; rw [if_neg h, if_pos h2]; exact (clamp_age h2).symm
theorem life_exp' (m : Mta) (h : ¬ 0 ≤ m.con.sh) (h2 : ¬ 0 ≤ m.con.ag) (h3 : 0 ≤ m.exp) : lifeOf m = clampT 0 2147483648 (lessT m.exp (fromT m)) := by unfold lifeOf; rw [if_neg h, if_neg h2, if_pos h3]; exact (clamp_age (lessT_bd _ _).1).symm
theorem life_guess (m : Mta) (h : ¬ 0 ≤ m.con.sh) (h2 : ¬ 0 ≤ m.con.ag) (h3 : ¬ 0 ≤ m.exp) (h4 : heurOf m.code = true) : lifeOf m = atMost (lessT m.date m.mod / 10) 86400 := by
  unfold lifeOf; rw [if_neg h, if_neg h2, if_neg h3]
  by_cases h5 : 0 ≤ m.mod ∧ 0 ≤ m.date
  · rw [if_pos ⟨h4, h5⟩]
  · rw [if_neg (fun k => h5 k.2)]
    have : lessT m.date m.mod = 0 := by unfold lessT; rw [if_pos (by omega)]
    rw [this]; rfl
theorem life_zero (m : Mta) (h : ¬ 0 ≤ m.con.sh) (h2 : ¬ 0 ≤ m.con.ag) (h3 : ¬ 0 ≤ m.exp) (h4 : heurOf m.code = false) : lifeOf m = 0 := by
  unfold lifeOf; rw [if_neg h, if_neg h2, if_neg h3, if_neg (fun k => by rw [h4] at k; exact absurd k.1 (by decide))]

set_option maxRecDepth 100000 in
set_option maxHeartbeats 4000000 in
theorem life_any_sh (m : Mta) (w : World) (hC : Codes w) (h1 : 0 ≤ m.con.sh) : Calls Tryd.prog 10 #[.agg (mcells m)] w fun e w' => e = .returned (.int .i64 (lifeOf m)) ∧ Below w.heap.size w w' := by
  have HC := Lib.hid hC
  have hg := hC.lt
  clear hC
  have d1 : decide (0 ≤ m.con.sh) = true := by simp; exact h1
  have HL := Lib.hid (life_sh' m h1)
  unfold mcells
  go_enter Tryd.func10, Tryd.ntmps10
  go_wp2_with fail
  refine (within_made _ _ _).mono ?_
  rintro e w1 ⟨rfl, hw1⟩
  have HO := Lib.hid (one_new (m := m) hw1)
  have c1 := HO.out.met.sh
  clear hw1
  unfold clo
  go_wp2_with (go_at_call 21; refine (told_any _ _).mono ?_; rintro e w2 ⟨rfl, rfl⟩)
  refine (clos_any _ _ 0 2147483648 _ _ HO.out.a0 HO.out.a1).mono ?_
  rintro e w6 ⟨rfl, rfl⟩
  go_wp2_with fail
  go_ret
  exact ⟨by rw [HL.out]; rfl, HO.out.bel⟩
set_option maxRecDepth 100000 in
set_option maxHeartbeats 4000000 in
theorem life_any_ag (m : Mta) (w : World) (hC : Codes w) (h1 : ¬ 0 ≤ m.con.sh) (h2 : 0 ≤ m.con.ag) : Calls Tryd.prog 10 #[.agg (mcells m)] w fun e w' => e = .returned (.int .i64 (lifeOf m)) ∧ Below w.heap.size w w' := by
  have HC := Lib.hid hC
  have hg := hC.lt
  clear hC
  have d1 : decide (0 ≤ m.con.sh) = false := by simp; omega
  have d2 : decide (0 ≤ m.con.ag) = true := by simp; exact h2
  have HL := Lib.hid (life_ag' m h1 h2)
  unfold mcells
  go_enter Tryd.func10, Tryd.ntmps10
  go_wp2_with fail
  refine (within_made _ _ _).mono ?_
  rintro e w1 ⟨rfl, hw1⟩
  have HO := Lib.hid (one_new (m := m) hw1)
  have c1 := HO.out.met.sh
  have c2 := HO.out.met.ag
  clear hw1
  unfold clo
  go_wp2_with (go_at_call 21; refine (told_any _ _).mono ?_; rintro e w2 ⟨rfl, rfl⟩)
  refine (clos_any _ _ 0 2147483648 _ _ HO.out.a0 HO.out.a1).mono ?_
  rintro e w6 ⟨rfl, rfl⟩
  go_wp2_with fail
  go_ret
  exact ⟨by rw [HL.out]; rfl, HO.out.bel⟩
set_option maxRecDepth 100000 in
set_option maxHeartbeats 4000000 in
theorem life_any_exp (m : Mta) (w : World) (hC : Codes w) (h1 : ¬ 0 ≤ m.con.sh) (h2 : ¬ 0 ≤ m.con.ag) (h3 : 0 ≤ m.exp) : Calls Tryd.prog 10 #[.agg (mcells m)] w fun e w' => e = .returned (.int .i64 (lifeOf m)) ∧ Below w.heap.size w w' := by
  have HC := Lib.hid hC
  have hg := hC.lt
  clear hC
  have d1 : decide (0 ≤ m.con.sh) = false := by simp; omega
  have d2 : decide (0 ≤ m.con.ag) = false := by simp; omega
  have d3 : decide (0 ≤ m.exp) = true := by simp; exact h3
  have HL := Lib.hid (life_exp' m h1 h2 h3)
  unfold mcells
  go_enter Tryd.func10, Tryd.ntmps10
  go_wp2_with fail
  refine (within_made _ _ _).mono ?_
  rintro e w1 ⟨rfl, hw1⟩
  have HO := Lib.hid (one_new (m := m) hw1)
  have c1 := HO.out.met.sh
  have c2 := HO.out.met.ag
  have c3 := HO.out.met.exp
  clear hw1
  unfold clo
  go_wp2_with (go_at_call 21; refine (told_any _ _).mono ?_; rintro e w2 ⟨rfl, rfl⟩)
  obtain ⟨Z, N, hZ⟩ := size_met
  have z1 := hZ.is
  have z2 := hZ.run
  have HN := Lib.hid hZ.num
  clear hZ
  go_region_held3 (fun W => (loadCellsFrom ⟨w.heap.size, 0, none⟩ 0 N #[]).run Tryd.prog W = .ok (mcells m) W ∧ W.cell? ⟨w.heap.size, 15, none⟩ = some (.int .i64 m.exp) ∧ One w w.heap.size m (w.heap.size + 1) 0 2147483648 W)
    (first | exact HO.out.drew.cells HN.out | exact (HO.out.drew.more hb4).cells HN.out | exact ((HO.out.drew.more hb4).more hb5).cells HN.out) (first
    | (go_at_call 22; refine (start_any _ _).mono ?_; rintro e w4 ⟨rfl, hb4⟩)
    | (go_at_call 17; refine (between_any _ _ _).mono ?_; rintro e w5 ⟨rfl, hb5⟩)
    | (go_at_call 26; refine (clos_any _ _ 0 2147483648 _ _ ?_ ?_).mono ?_; exact ((HO.out.drew.more hb4).more hb5).a0; exact ((HO.out.drew.more hb4).more hb5).a1; rintro e w6 ⟨rfl, rfl⟩))
  clear z1 z2
  have HO5 := Lib.hid ((HO.out.drew.more hb4).more hb5)
  go_wp2_with fail
  go_ret
  exact ⟨by rw [HL.out]; rfl, HO5.out.bel⟩
set_option maxRecDepth 100000 in
set_option maxHeartbeats 4000000 in
theorem life_any_guess (m : Mta) (w : World) (hC : Codes w) (h1 : ¬ 0 ≤ m.con.sh) (h2 : ¬ 0 ≤ m.con.ag) (h3 : ¬ 0 ≤ m.exp) (h4 : heurOf m.code = true) : Calls Tryd.prog 10 #[.agg (mcells m)] w fun e w' => e = .returned (.int .i64 (lifeOf m)) ∧ Below w.heap.size w w' := by
  have HC := Lib.hid hC
  have hg := hC.lt
  clear hC
  have d1 : decide (0 ≤ m.con.sh) = false := by simp; omega
  have d2 : decide (0 ≤ m.con.ag) = false := by simp; omega
  have d3 : decide (0 ≤ m.exp) = false := by simp; omega
  have HL := Lib.hid (life_guess m h1 h2 h3 h4)
  have H4 := Lib.hid h4
  clear h4
  unfold mcells
  go_enter Tryd.func10, Tryd.ntmps10
  go_wp2_with fail
  refine (within_made _ _ _).mono ?_
  rintro e w1 ⟨rfl, hw1⟩
  have HO := Lib.hid (one_new (m := m) hw1)
  obtain ⟨Z, N, hZ⟩ := size_met
  have z1 := hZ.is
  have z2 := hZ.run
  have c0 := HO.out.met.code
  have c1 := HO.out.met.sh
  have c2 := HO.out.met.ag
  have c3 := HO.out.met.exp
  have c4 := HO.out.met.load hZ.num
  clear hZ
  clear hw1
  unfold clo
  go_wp2_with (first
    | (go_at_call 21; refine (told_any _ _).mono ?_; rintro e w2 ⟨rfl, rfl⟩)
    | (go_at_call 14; refine (heur_any _ _ (HC.out.below HO.out.bel hg)).mono ?_; rintro e w2 ⟨rfl, rfl⟩; rw [H4.out]))
  refine (guess_any m _).mono ?_
  rintro e w6 ⟨rfl, hb6⟩
  have HO6 := Lib.hid (HO.out.more hb6)
  clear hb6
  go_wp2_with fail
  go_ret
  exact ⟨by rw [HL.out]; rfl, HO6.out.bel⟩
set_option maxRecDepth 100000 in
set_option maxHeartbeats 4000000 in
theorem life_any_zero (m : Mta) (w : World) (hC : Codes w) (h1 : ¬ 0 ≤ m.con.sh) (h2 : ¬ 0 ≤ m.con.ag) (h3 : ¬ 0 ≤ m.exp) (h4 : heurOf m.code = false) : Calls Tryd.prog 10 #[.agg (mcells m)] w fun e w' => e = .returned (.int .i64 (lifeOf m)) ∧ Below w.heap.size w w' := by
  have HC := Lib.hid hC
  have hg := hC.lt
  clear hC
  have d1 : decide (0 ≤ m.con.sh) = false := by simp; omega
  have d2 : decide (0 ≤ m.con.ag) = false := by simp; omega
  have d3 : decide (0 ≤ m.exp) = false := by simp; omega
  have HL := Lib.hid (life_zero m h1 h2 h3 h4)
  have H4 := Lib.hid h4
  clear h4
  unfold mcells
  go_enter Tryd.func10, Tryd.ntmps10
  go_wp2_with fail
  refine (within_made _ _ _).mono ?_
  rintro e w1 ⟨rfl, hw1⟩
  have HO := Lib.hid (one_new (m := m) hw1)
  have c0 := HO.out.met.code
  have c1 := HO.out.met.sh
  have c2 := HO.out.met.ag
  have c3 := HO.out.met.exp
  clear hw1
  unfold clo
  go_wp2_with (first
    | (go_at_call 21; refine (told_any _ _).mono ?_; rintro e w2 ⟨rfl, rfl⟩)
    | (go_at_call 14; refine (heur_any _ _ (HC.out.below HO.out.bel hg)).mono ?_; rintro e w2 ⟨rfl, rfl⟩; rw [H4.out]))
  go_ret
  exact ⟨by rw [HL.out]; rfl, HO.out.bel⟩
theorem life_any (m : Mta) (w : World) (hC : Codes w) : Calls Tryd.prog 10 #[.agg (mcells m)] w fun e w' => e = .returned (.int .i64 (lifeOf m)) ∧ Below w.heap.size w w' := by
  by_cases h1 : 0 ≤ m.con.sh
  · exact life_any_sh m w hC h1
  · by_cases h2 : 0 ≤ m.con.ag
    · exact life_any_ag m w hC h1 h2
    · by_cases h3 : 0 ≤ m.exp
      · exact life_any_exp m w hC h1 h2 h3
      · cases h4 : heurOf m.code with
        | true => exact life_any_guess m w hC h1 h2 h3 h4
        | false => exact life_any_zero m w hC h1 h2 h3 h4
end Go.Proofs.YtbignmccpbccoaaDoor.Fh
