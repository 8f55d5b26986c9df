/-
  fresh.State: what it returns. Condition: the listed table of codes.
-/
import Derived.Test.YtbignmccpbccoaaDoorFhAge
import Derived.Test.YtbignmccpbccoaaDoorFhLife
import Derived.Deep.DeepCutAuto
namespace Go.Proofs.YtbignmccpbccoaaDoor.Fh
open Go.RowKit Go.Proofs.YtbignmccpbccoaaDoor.Ct Go.Proofs.YtbignmccpbccoaaDoor.Fd
set_option linter.unusedVariables false

/-- A Meta and a Control in memory, and nothing elder changed. -/
structure MC (w : World) (g : Nat) (m : Mta) (h : Nat) (r : Con) (W : World) : Prop where
  met : MetAt W g m
  con : ConAt W h r
  bel : Below w.heap.size w W
theorem MC.more {w : World} {g : Nat} {m : Mta} {k : Nat} {r : Con} {W W' : World} (h : MC w g m k r W) (hb : Below W.heap.size W W') : MC w g m k r W' :=
  ⟨h.met.more hb h.met.lt, Bl.old hb (block_lt h.con) h.con, Bl.next h.bel hb⟩
theorem MC.drew {w : World} {g : Nat} {m : Mta} {k : Nat} {r : Con} {W : World} (h : MC w g m k r W) : MC w g m k r W.drew := ⟨h.met, h.con, Bl.drewN h.bel 1⟩
theorem MC.cells {w : World} {g : Nat} {m : Mta} {k : Nat} {r : Con} {W : World} (h : MC w g m k r W) {N : Nat} (hN : N = 21) :
    (loadCellsFrom ⟨g, 0, none⟩ 0 N #[]).run Tryd.prog W = .ok (mcells m) W ∧ MC w g m k r W := ⟨h.met.load hN, h⟩
theorem mc_new (w : World) (m : Mta) (r : Con) : MC w w.heap.size m (w.heap.size + 1) r ((w.alloc (.cells (mcells m) 25)).alloc (.cells (cells r) 23)) :=
  ⟨(old_block _ _ (by simp)).trans (new_block _ _), new_block' _ _ (by simp), ((Below.refl _ _).alloc (Nat.le_refl _) _).alloc (by simp) _⟩
theorem stateT_young {c r : Con} {x l : Int} (h1 : r.nc = false) (h2 : c.nc = false) (h3 : ¬ (0 ≤ r.ag ∧ r.ag < x)) (h4 : x < l) : stateT c r x l = youngT (l - x) r := by
  unfold stateT youngT
  rw [if_neg (by rw [h1, h2]; simpa using h3), if_pos h4]
  split <;> split <;> omega
theorem stateT_old {c r : Con} {x l : Int} (h1 : r.nc = false) (h2 : c.nc = false) (h3 : ¬ (0 ≤ r.ag ∧ r.ag < x)) (h4 : ¬ x < l) : stateT c r x l = oldT (x - l) c r := by
  unfold stateT oldT
  rw [if_neg (by rw [h1, h2]; simpa using h3), if_neg h4]
  repeat' split
  all_goals omega
set_option maxRecDepth 100000 in
set_option maxHeartbeats 4000000 in
theorem state_req (m : Mta) (r : Con) (now : Int) (w : World) (hC : Codes w) (h1 : r.nc = true) : Calls Tryd.prog 12 #[.agg (mcells m), .agg (cells r), .int .i64 now] w fun e w' => e = .returned (.int .i64 (stateOf m r now)) ∧ Below w.heap.size w w' := by
  have HC := Lib.hid hC
  have hg := hC.lt
  have HV := Lib.hid (show stateOf m r now = 2 from by unfold stateOf stateT; rw [if_pos (.inl h1)])
  have HM := Lib.hid (mc_new w m r)
  have bA := ageOf_bd m now
  have bL := lifeOf_bd m
  have bM : mostA = 2147483648 := rfl
  rw [bM] at bA bL
  obtain ⟨A, hA⟩ : ∃ A, ageOf m now = A := ⟨_, rfl⟩
  obtain ⟨L, hL⟩ : ∃ L, lifeOf m = L := ⟨_, rfl⟩
  rw [hA] at bA
  rw [hL] at bL
  have HA := Lib.hid hA
  have HL := Lib.hid hL
  clear hC hA hL bM
  obtain ⟨Z, N, hZ⟩ := size_met
  have z1 := hZ.is
  have z2 := hZ.run
  have HN := Lib.hid hZ.num
  clear hZ
  unfold mcells cells at HM
  unfold mcells cells
  have H1 := Lib.hid h1
  clear h1
  go_enter Tryd.func12, Tryd.ntmps12
  go_wp2_with fail
  go_region_held3 (fun W => (loadCellsFrom ⟨w.heap.size, 0, none⟩ 0 N #[]).run Tryd.prog W = .ok (mcells m) W ∧ MC w w.heap.size m (w.heap.size + 1) r W)
    (first | exact HM.out.drew.cells HN.out | exact (HM.out.drew.more hb1).cells HN.out | exact (HM.out.drew.more hb2).cells HN.out | exact ((HM.out.drew.more hb1).more hb2).cells HN.out | exact ((HM.out.drew.more hb2).more hb1).cells HN.out) (first
    | (go_at_call 8; refine (age_any m now _).mono ?_; rintro e w4 ⟨rfl, hb1⟩; rw [HA.out])
    | (go_at_call 10; refine (life_any m _ ?_).mono ?_; (first | exact HC.out.below HM.out.drew.bel hg | exact HC.out.below (HM.out.drew.more hb1).bel hg); rintro e w5 ⟨rfl, hb2⟩; rw [HL.out]))
  all_goals
    have HK := Lib.hid (show MC w w.heap.size m (w.heap.size + 1) r _ from by first | exact (HM.out.drew.more hb1).more hb2 | exact (HM.out.drew.more hb2).more hb1)
    clear z1 z2 hb1 hb2
    have g1 := H1.out
    have k1 := HK.out.met.nc
    obtain ⟨-, k2, -⟩ := thirteen HK.out.con
    go_wp2_with fail
    go_ret
    exact ⟨by rw [HV.out]; rfl, HK.out.bel⟩

set_option maxRecDepth 100000 in
set_option maxHeartbeats 4000000 in
theorem state_said (m : Mta) (r : Con) (now : Int) (w : World) (hC : Codes w) (h1 : r.nc = false) (h2 : m.con.nc = true) : Calls Tryd.prog 12 #[.agg (mcells m), .agg (cells r), .int .i64 now] w fun e w' => e = .returned (.int .i64 (stateOf m r now)) ∧ Below w.heap.size w w' := by
  have HC := Lib.hid hC
  have hg := hC.lt
  have HV := Lib.hid (show stateOf m r now = 2 from by unfold stateOf stateT; rw [if_pos (.inr (.inl h2))])
  have HM := Lib.hid (mc_new w m r)
  have bA := ageOf_bd m now
  have bL := lifeOf_bd m
  have bM : mostA = 2147483648 := rfl
  rw [bM] at bA bL
  obtain ⟨A, hA⟩ : ∃ A, ageOf m now = A := ⟨_, rfl⟩
  obtain ⟨L, hL⟩ : ∃ L, lifeOf m = L := ⟨_, rfl⟩
  rw [hA] at bA
  rw [hL] at bL
  have HA := Lib.hid hA
  have HL := Lib.hid hL
  clear hC hA hL bM
  obtain ⟨Z, N, hZ⟩ := size_met
  have z1 := hZ.is
  have z2 := hZ.run
  have HN := Lib.hid hZ.num
  clear hZ
  unfold mcells cells at HM
  unfold mcells cells
  have H1 := Lib.hid h1
  clear h1
  have H2 := Lib.hid h2
  clear h2
  go_enter Tryd.func12, Tryd.ntmps12
  go_wp2_with fail
  go_region_held3 (fun W => (loadCellsFrom ⟨w.heap.size, 0, none⟩ 0 N #[]).run Tryd.prog W = .ok (mcells m) W ∧ MC w w.heap.size m (w.heap.size + 1) r W)
    (first | exact HM.out.drew.cells HN.out | exact (HM.out.drew.more hb1).cells HN.out | exact (HM.out.drew.more hb2).cells HN.out | exact ((HM.out.drew.more hb1).more hb2).cells HN.out | exact ((HM.out.drew.more hb2).more hb1).cells HN.out) (first
    | (go_at_call 8; refine (age_any m now _).mono ?_; rintro e w4 ⟨rfl, hb1⟩; rw [HA.out])
    | (go_at_call 10; refine (life_any m _ ?_).mono ?_; (first | exact HC.out.below HM.out.drew.bel hg | exact HC.out.below (HM.out.drew.more hb1).bel hg); rintro e w5 ⟨rfl, hb2⟩; rw [HL.out]))
  all_goals
    have HK := Lib.hid (show MC w w.heap.size m (w.heap.size + 1) r _ from by first | exact (HM.out.drew.more hb1).more hb2 | exact (HM.out.drew.more hb2).more hb1)
    clear z1 z2 hb1 hb2
    have g1 := H1.out
    have g2 := H2.out
    have k1 := HK.out.met.nc
    obtain ⟨-, k2, -⟩ := thirteen HK.out.con
    go_wp2_with fail
    go_ret
    exact ⟨by rw [HV.out]; rfl, HK.out.bel⟩

set_option maxRecDepth 100000 in
set_option maxHeartbeats 4000000 in
theorem state_aged (m : Mta) (r : Con) (now : Int) (w : World) (hC : Codes w) (h1 : r.nc = false) (h2 : m.con.nc = false) (h3 : 0 ≤ r.ag) (h4 : r.ag < ageOf m now) : Calls Tryd.prog 12 #[.agg (mcells m), .agg (cells r), .int .i64 now] w fun e w' => e = .returned (.int .i64 (stateOf m r now)) ∧ Below w.heap.size w w' := by
  have HC := Lib.hid hC
  have hg := hC.lt
  have HV := Lib.hid (show stateOf m r now = 2 from by unfold stateOf stateT; rw [if_pos (.inr (.inr ⟨h3, h4⟩))])
  have HM := Lib.hid (mc_new w m r)
  have bA := ageOf_bd m now
  have bL := lifeOf_bd m
  have bM : mostA = 2147483648 := rfl
  rw [bM] at bA bL
  obtain ⟨A, hA⟩ : ∃ A, ageOf m now = A := ⟨_, rfl⟩
  obtain ⟨L, hL⟩ : ∃ L, lifeOf m = L := ⟨_, rfl⟩
  rw [hA] at bA h4
  rw [hL] at bL
  have HA := Lib.hid hA
  have HL := Lib.hid hL
  clear hC hA hL bM
  obtain ⟨Z, N, hZ⟩ := size_met
  have z1 := hZ.is
  have z2 := hZ.run
  have HN := Lib.hid hZ.num
  clear hZ
  unfold mcells cells at HM
  unfold mcells cells
  have d3 : decide (0 ≤ r.ag) = true := by simp; exact h3
  have H1 := Lib.hid h1
  clear h1
  have H2 := Lib.hid h2
  clear h2
  go_enter Tryd.func12, Tryd.ntmps12
  go_wp2_with fail
  go_region_held3 (fun W => (loadCellsFrom ⟨w.heap.size, 0, none⟩ 0 N #[]).run Tryd.prog W = .ok (mcells m) W ∧ MC w w.heap.size m (w.heap.size + 1) r W)
    (first | exact HM.out.drew.cells HN.out | exact (HM.out.drew.more hb1).cells HN.out | exact (HM.out.drew.more hb2).cells HN.out | exact ((HM.out.drew.more hb1).more hb2).cells HN.out | exact ((HM.out.drew.more hb2).more hb1).cells HN.out) (first
    | (go_at_call 8; refine (age_any m now _).mono ?_; rintro e w4 ⟨rfl, hb1⟩; rw [HA.out])
    | (go_at_call 10; refine (life_any m _ ?_).mono ?_; (first | exact HC.out.below HM.out.drew.bel hg | exact HC.out.below (HM.out.drew.more hb1).bel hg); rintro e w5 ⟨rfl, hb2⟩; rw [HL.out]))
  all_goals
    have HK := Lib.hid (show MC w w.heap.size m (w.heap.size + 1) r _ from by first | exact (HM.out.drew.more hb1).more hb2 | exact (HM.out.drew.more hb2).more hb1)
    clear z1 z2 hb1 hb2
    have g1 := H1.out
    have g2 := H2.out
    have k1 := HK.out.met.nc
    obtain ⟨-, k2, -, -, -, -, -, k3, -⟩ := thirteen HK.out.con
    go_wp2_with (go_at_call 21; refine (told_any _ _).mono ?_; rintro e w6 ⟨rfl, rfl⟩)
    go_ret
    exact ⟨by rw [HV.out]; rfl, HK.out.bel⟩

set_option maxRecDepth 100000 in
set_option maxHeartbeats 4000000 in
theorem state_young_no (m : Mta) (r : Con) (now : Int) (w : World) (hC : Codes w) (h1 : r.nc = false) (h2 : m.con.nc = false) (h3 : r.ag < 0) (h5 : ageOf m now < lifeOf m) : Calls Tryd.prog 12 #[.agg (mcells m), .agg (cells r), .int .i64 now] w fun e w' => e = .returned (.int .i64 (stateOf m r now)) ∧ Below w.heap.size w w' := by
  have HC := Lib.hid hC
  have hg := hC.lt
  have HV := Lib.hid (show stateOf m r now = _ from stateT_young h1 h2 (fun k => by omega) h5)
  have HM := Lib.hid (mc_new w m r)
  have bA := ageOf_bd m now
  have bL := lifeOf_bd m
  have bM : mostA = 2147483648 := rfl
  rw [bM] at bA bL
  obtain ⟨A, hA⟩ : ∃ A, ageOf m now = A := ⟨_, rfl⟩
  obtain ⟨L, hL⟩ : ∃ L, lifeOf m = L := ⟨_, rfl⟩
  rw [hA] at bA h5 HV
  rw [hL] at bL h5 HV
  have HA := Lib.hid hA
  have HL := Lib.hid hL
  clear hC hA hL bM
  obtain ⟨Z, N, hZ⟩ := size_met
  have z1 := hZ.is
  have z2 := hZ.run
  have HN := Lib.hid hZ.num
  clear hZ
  unfold mcells cells at HM
  unfold mcells cells
  have d3 : decide (0 ≤ r.ag) = false := by simp; exact h3
  have H1 := Lib.hid h1
  clear h1
  have H2 := Lib.hid h2
  clear h2
  go_enter Tryd.func12, Tryd.ntmps12
  go_wp2_with fail
  go_region_held3 (fun W => (loadCellsFrom ⟨w.heap.size, 0, none⟩ 0 N #[]).run Tryd.prog W = .ok (mcells m) W ∧ MC w w.heap.size m (w.heap.size + 1) r W)
    (first | exact HM.out.drew.cells HN.out | exact (HM.out.drew.more hb1).cells HN.out | exact (HM.out.drew.more hb2).cells HN.out | exact ((HM.out.drew.more hb1).more hb2).cells HN.out | exact ((HM.out.drew.more hb2).more hb1).cells HN.out) (first
    | (go_at_call 8; refine (age_any m now _).mono ?_; rintro e w4 ⟨rfl, hb1⟩; rw [HA.out])
    | (go_at_call 10; refine (life_any m _ ?_).mono ?_; (first | exact HC.out.below HM.out.drew.bel hg | exact HC.out.below (HM.out.drew.more hb1).bel hg); rintro e w5 ⟨rfl, hb2⟩; rw [HL.out]))
  all_goals
    have HK := Lib.hid (show MC w w.heap.size m (w.heap.size + 1) r _ from by first | exact (HM.out.drew.more hb1).more hb2 | exact (HM.out.drew.more hb2).more hb1)
    clear z1 z2 hb1 hb2
    have g1 := H1.out
    have g2 := H2.out
    have k1 := HK.out.met.nc
    obtain ⟨-, k2, -, -, -, -, -, k3, -⟩ := thirteen HK.out.con
    go_upto_region 7 with (go_at_call 21; refine (told_any _ _).mono ?_; rintro e w6 ⟨rfl, rfl⟩)
    obtain ⟨ZC, NC, hZC⟩ := size_con
    have y1 := hZC.is
    have y2 := hZC.run
    have y3 := conAt_load HK.out.con hZC.num
    clear hZC
    go_wp2_with fail
    refine (young_any _ r _).mono ?_
    rintro e w7 ⟨rfl, hb7⟩
    have HK7 := Lib.hid (HK.out.more hb7)
    clear hb7
    go_wp2_with fail
    go_ret
    exact ⟨by rw [HV.out]; rfl, HK7.out.bel⟩

set_option maxRecDepth 100000 in
set_option maxHeartbeats 4000000 in
theorem state_old_no (m : Mta) (r : Con) (now : Int) (w : World) (hC : Codes w) (h1 : r.nc = false) (h2 : m.con.nc = false) (h3 : r.ag < 0) (h5 : ¬ ageOf m now < lifeOf m) : Calls Tryd.prog 12 #[.agg (mcells m), .agg (cells r), .int .i64 now] w fun e w' => e = .returned (.int .i64 (stateOf m r now)) ∧ Below w.heap.size w w' := by
  have HC := Lib.hid hC
  have hg := hC.lt
  have HV := Lib.hid (show stateOf m r now = _ from stateT_old h1 h2 (fun k => by omega) h5)
  have HM := Lib.hid (mc_new w m r)
  have bA := ageOf_bd m now
  have bL := lifeOf_bd m
  have bM : mostA = 2147483648 := rfl
  rw [bM] at bA bL
  obtain ⟨A, hA⟩ : ∃ A, ageOf m now = A := ⟨_, rfl⟩
  obtain ⟨L, hL⟩ : ∃ L, lifeOf m = L := ⟨_, rfl⟩
  rw [hA] at bA h5 HV
  rw [hL] at bL h5 HV
  have HA := Lib.hid hA
  have HL := Lib.hid hL
  clear hC hA hL bM
  obtain ⟨Z, N, hZ⟩ := size_met
  have z1 := hZ.is
  have z2 := hZ.run
  have HN := Lib.hid hZ.num
  clear hZ
  unfold mcells cells at HM
  unfold mcells cells
  have d3 : decide (0 ≤ r.ag) = false := by simp; exact h3
  have H1 := Lib.hid h1
  clear h1
  have H2 := Lib.hid h2
  clear h2
  go_enter Tryd.func12, Tryd.ntmps12
  go_wp2_with fail
  go_region_held3 (fun W => (loadCellsFrom ⟨w.heap.size, 0, none⟩ 0 N #[]).run Tryd.prog W = .ok (mcells m) W ∧ MC w w.heap.size m (w.heap.size + 1) r W)
    (first | exact HM.out.drew.cells HN.out | exact (HM.out.drew.more hb1).cells HN.out | exact (HM.out.drew.more hb2).cells HN.out | exact ((HM.out.drew.more hb1).more hb2).cells HN.out | exact ((HM.out.drew.more hb2).more hb1).cells HN.out) (first
    | (go_at_call 8; refine (age_any m now _).mono ?_; rintro e w4 ⟨rfl, hb1⟩; rw [HA.out])
    | (go_at_call 10; refine (life_any m _ ?_).mono ?_; (first | exact HC.out.below HM.out.drew.bel hg | exact HC.out.below (HM.out.drew.more hb1).bel hg); rintro e w5 ⟨rfl, hb2⟩; rw [HL.out]))
  all_goals
    have HK := Lib.hid (show MC w w.heap.size m (w.heap.size + 1) r _ from by first | exact (HM.out.drew.more hb1).more hb2 | exact (HM.out.drew.more hb2).more hb1)
    clear z1 z2 hb1 hb2
    have g1 := H1.out
    have g2 := H2.out
    have k1 := HK.out.met.nc
    obtain ⟨-, k2, -, -, -, -, -, k3, -⟩ := thirteen HK.out.con
    go_upto_region 8 with (go_at_call 21; refine (told_any _ _).mono ?_; rintro e w6 ⟨rfl, rfl⟩)
    obtain ⟨ZC, NC, hZC⟩ := size_con
    have y1 := hZC.is
    have y2 := hZC.run
    have y3 := conAt_load HK.out.con hZC.num
    have y4 := HK.out.met.loadCon hZC.num
    have y5 : ¬ NC = 0 := by rw [hZC.num]; decide
    clear hZC
    go_wp2_with fail
    refine (old_any _ m.con r _).mono ?_
    rintro e w7 ⟨rfl, hb7⟩
    have HK7 := Lib.hid (HK.out.more hb7)
    clear hb7
    go_wp2_with fail
    go_ret
    exact ⟨by rw [HV.out]; rfl, HK7.out.bel⟩

set_option maxRecDepth 100000 in
set_option maxHeartbeats 4000000 in
theorem state_young_yes (m : Mta) (r : Con) (now : Int) (w : World) (hC : Codes w) (h1 : r.nc = false) (h2 : m.con.nc = false) (h3 : 0 ≤ r.ag) (h4 : ¬ r.ag < ageOf m now) (h5 : ageOf m now < lifeOf m) : Calls Tryd.prog 12 #[.agg (mcells m), .agg (cells r), .int .i64 now] w fun e w' => e = .returned (.int .i64 (stateOf m r now)) ∧ Below w.heap.size w w' := by
  have HC := Lib.hid hC
  have hg := hC.lt
  have HV := Lib.hid (show stateOf m r now = _ from stateT_young h1 h2 (fun k => by omega) h5)
  have HM := Lib.hid (mc_new w m r)
  have bA := ageOf_bd m now
  have bL := lifeOf_bd m
  have bM : mostA = 2147483648 := rfl
  rw [bM] at bA bL
  obtain ⟨A, hA⟩ : ∃ A, ageOf m now = A := ⟨_, rfl⟩
  obtain ⟨L, hL⟩ : ∃ L, lifeOf m = L := ⟨_, rfl⟩
  rw [hA] at bA h4 h5 HV
  rw [hL] at bL h5 HV
  have HA := Lib.hid hA
  have HL := Lib.hid hL
  clear hC hA hL bM
  obtain ⟨Z, N, hZ⟩ := size_met
  have z1 := hZ.is
  have z2 := hZ.run
  have HN := Lib.hid hZ.num
  clear hZ
  unfold mcells cells at HM
  unfold mcells cells
  have d3 : decide (0 ≤ r.ag) = true := by simp; exact h3
  have H1 := Lib.hid h1
  clear h1
  have H2 := Lib.hid h2
  clear h2
  go_enter Tryd.func12, Tryd.ntmps12
  go_wp2_with fail
  go_region_held3 (fun W => (loadCellsFrom ⟨w.heap.size, 0, none⟩ 0 N #[]).run Tryd.prog W = .ok (mcells m) W ∧ MC w w.heap.size m (w.heap.size + 1) r W)
    (first | exact HM.out.drew.cells HN.out | exact (HM.out.drew.more hb1).cells HN.out | exact (HM.out.drew.more hb2).cells HN.out | exact ((HM.out.drew.more hb1).more hb2).cells HN.out | exact ((HM.out.drew.more hb2).more hb1).cells HN.out) (first
    | (go_at_call 8; refine (age_any m now _).mono ?_; rintro e w4 ⟨rfl, hb1⟩; rw [HA.out])
    | (go_at_call 10; refine (life_any m _ ?_).mono ?_; (first | exact HC.out.below HM.out.drew.bel hg | exact HC.out.below (HM.out.drew.more hb1).bel hg); rintro e w5 ⟨rfl, hb2⟩; rw [HL.out]))
  all_goals
    have HK := Lib.hid (show MC w w.heap.size m (w.heap.size + 1) r _ from by first | exact (HM.out.drew.more hb1).more hb2 | exact (HM.out.drew.more hb2).more hb1)
    clear z1 z2 hb1 hb2
    have g1 := H1.out
    have g2 := H2.out
    have k1 := HK.out.met.nc
    obtain ⟨-, k2, -, -, -, -, -, k3, -⟩ := thirteen HK.out.con
    go_upto_region 7 with (go_at_call 21; refine (told_any _ _).mono ?_; rintro e w6 ⟨rfl, rfl⟩)
    obtain ⟨ZC, NC, hZC⟩ := size_con
    have y1 := hZC.is
    have y2 := hZC.run
    have y3 := conAt_load HK.out.con hZC.num
    clear hZC
    go_wp2_with fail
    refine (young_any _ r _).mono ?_
    rintro e w7 ⟨rfl, hb7⟩
    have HK7 := Lib.hid (HK.out.more hb7)
    clear hb7
    go_wp2_with fail
    go_ret
    exact ⟨by rw [HV.out]; rfl, HK7.out.bel⟩

set_option maxRecDepth 100000 in
set_option maxHeartbeats 4000000 in
theorem state_old_yes (m : Mta) (r : Con) (now : Int) (w : World) (hC : Codes w) (h1 : r.nc = false) (h2 : m.con.nc = false) (h3 : 0 ≤ r.ag) (h4 : ¬ r.ag < ageOf m now) (h5 : ¬ ageOf m now < lifeOf m) : Calls Tryd.prog 12 #[.agg (mcells m), .agg (cells r), .int .i64 now] w fun e w' => e = .returned (.int .i64 (stateOf m r now)) ∧ Below w.heap.size w w' := by
  have HC := Lib.hid hC
  have hg := hC.lt
  have HV := Lib.hid (show stateOf m r now = _ from stateT_old h1 h2 (fun k => by omega) h5)
  have HM := Lib.hid (mc_new w m r)
  have bA := ageOf_bd m now
  have bL := lifeOf_bd m
  have bM : mostA = 2147483648 := rfl
  rw [bM] at bA bL
  obtain ⟨A, hA⟩ : ∃ A, ageOf m now = A := ⟨_, rfl⟩
  obtain ⟨L, hL⟩ : ∃ L, lifeOf m = L := ⟨_, rfl⟩
  rw [hA] at bA h4 h5 HV
  rw [hL] at bL h5 HV
  have HA := Lib.hid hA
  have HL := Lib.hid hL
  clear hC hA hL bM
  obtain ⟨Z, N, hZ⟩ := size_met
  have z1 := hZ.is
  have z2 := hZ.run
  have HN := Lib.hid hZ.num
  clear hZ
  unfold mcells cells at HM
  unfold mcells cells
  have d3 : decide (0 ≤ r.ag) = true := by simp; exact h3
  have H1 := Lib.hid h1
  clear h1
  have H2 := Lib.hid h2
  clear h2
  go_enter Tryd.func12, Tryd.ntmps12
  go_wp2_with fail
  go_region_held3 (fun W => (loadCellsFrom ⟨w.heap.size, 0, none⟩ 0 N #[]).run Tryd.prog W = .ok (mcells m) W ∧ MC w w.heap.size m (w.heap.size + 1) r W)
    (first | exact HM.out.drew.cells HN.out | exact (HM.out.drew.more hb1).cells HN.out | exact (HM.out.drew.more hb2).cells HN.out | exact ((HM.out.drew.more hb1).more hb2).cells HN.out | exact ((HM.out.drew.more hb2).more hb1).cells HN.out) (first
    | (go_at_call 8; refine (age_any m now _).mono ?_; rintro e w4 ⟨rfl, hb1⟩; rw [HA.out])
    | (go_at_call 10; refine (life_any m _ ?_).mono ?_; (first | exact HC.out.below HM.out.drew.bel hg | exact HC.out.below (HM.out.drew.more hb1).bel hg); rintro e w5 ⟨rfl, hb2⟩; rw [HL.out]))
  all_goals
    have HK := Lib.hid (show MC w w.heap.size m (w.heap.size + 1) r _ from by first | exact (HM.out.drew.more hb1).more hb2 | exact (HM.out.drew.more hb2).more hb1)
    clear z1 z2 hb1 hb2
    have g1 := H1.out
    have g2 := H2.out
    have k1 := HK.out.met.nc
    obtain ⟨-, k2, -, -, -, -, -, k3, -⟩ := thirteen HK.out.con
    go_upto_region 8 with (go_at_call 21; refine (told_any _ _).mono ?_; rintro e w6 ⟨rfl, rfl⟩)
    obtain ⟨ZC, NC, hZC⟩ := size_con
    have y1 := hZC.is
    have y2 := hZC.run
    have y3 := conAt_load HK.out.con hZC.num
    have y4 := HK.out.met.loadCon hZC.num
    have y5 : ¬ NC = 0 := by rw [hZC.num]; decide
    clear hZC
    go_wp2_with fail
    refine (old_any _ m.con r _).mono ?_
    rintro e w7 ⟨rfl, hb7⟩
    have HK7 := Lib.hid (HK.out.more hb7)
    clear hb7
    go_wp2_with fail
    go_ret
    exact ⟨by rw [HV.out]; rfl, HK7.out.bel⟩

theorem goState_any (m : Mta) (r : Con) (now : Int) (w : World) (hC : Codes w) : Calls Tryd.prog 12 #[.agg (mcells m), .agg (cells r), .int .i64 now] w fun e w' => e = .returned (.int .i64 (stateOf m r now)) ∧ Below w.heap.size w w' := by
  cases h1 : r.nc with
  | true => exact state_req m r now w hC h1
  | false =>
    cases h2 : m.con.nc with
    | true => exact state_said m r now w hC h1 h2
    | false =>
      by_cases h3 : 0 ≤ r.ag
      · by_cases h4 : r.ag < ageOf m now
        · exact state_aged m r now w hC h1 h2 h3 h4
        · by_cases h5 : ageOf m now < lifeOf m
          · exact state_young_yes m r now w hC h1 h2 h3 h4 h5
          · exact state_old_yes m r now w hC h1 h2 h3 h4 h5
      · by_cases h5 : ageOf m now < lifeOf m
        · exact state_young_no m r now w hC h1 h2 (by omega) h5
        · exact state_old_no m r now w hC h1 h2 (by omega) h5
end Go.Proofs.YtbignmccpbccoaaDoor.Fh
