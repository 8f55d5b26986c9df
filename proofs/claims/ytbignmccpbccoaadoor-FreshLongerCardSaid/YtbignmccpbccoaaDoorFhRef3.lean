/-
  gatepostref09.State: what it returns. No condition.
-/
import Derived.Test.YtbignmccpbccoaaDoorFhRef2
namespace Go.Proofs.YtbignmccpbccoaaDoor.Fh
open Go.RowKit Go.Proofs.YtbignmccpbccoaaDoor.Ct Go.Proofs.YtbignmccpbccoaaDoor.Fd
set_option linter.unusedVariables false

set_option maxRecDepth 100000 in
set_option maxHeartbeats 8000000 in
theorem rstate_req (m : Mta) (r : Con) (now : Int) (w : World) (h1 : r.nc = true) : Calls Tryd.prog 13 #[.agg (mcells m), .agg (cells r), .int .i64 now] w fun e w' => e = .returned (.int .i64 (stateOf m r now)) ∧ Below w.heap.size w w' := by
  have HM := Lib.hid (mc_new w m r)
  have bA := ageOf_bd m now
  have bL := lifeOf_bd m
  have bM : mostA = 2147483648 := rfl
  rw [bM] at bA bL
  have HV0 : stateOf m r now = stateT m.con r (ageOf m now) (lifeOf m) := rfl
  obtain ⟨A, hA⟩ : ∃ A, ageOf m now = A := ⟨_, rfl⟩
  obtain ⟨L, hL⟩ : ∃ L, lifeOf m = L := ⟨_, rfl⟩
  rw [hA] at bA HV0
  rw [hL] at bL HV0
  have HV0 : stateOf m r now = 2 := by unfold stateOf stateT; rw [if_pos (.inl h1)]
  have H1 := Lib.hid h1
  clear h1
  have HV := Lib.hid HV0
  have HA := Lib.hid hA
  have HL := Lib.hid hL
  clear hA hL bM HV0
  unfold mcells cells at HM
  unfold mcells cells
  go_enter Tryd.func13, Tryd.ntmps13
  go_upto_region 1 with fail
  obtain ⟨Z, N, hZ⟩ := size_met
  have z1 := hZ.is
  have z2 := hZ.run
  have z3 := HM.out.met.load hZ.num
  have HN := Lib.hid hZ.num
  clear hZ
  unfold mcells at z3
  go_wp2_with fail
  refine (rage_any m now _).mono ?_
  rintro e w4 ⟨rfl, hb1⟩
  rw [HA.out]
  have HM1 := Lib.hid (HM.out.more hb1)
  have z4 := HM1.out.met.load HN.out
  clear hb1
  go_wp2_with fail
  refine (rlife_any m _).mono ?_
  rintro e w5 ⟨rfl, hb2⟩
  rw [HL.out]
  have HK := Lib.hid (HM1.out.more hb2)
  clear hb2 z1 z2 z3 z4
  obtain ⟨-, q1, -, -, -, -, -, q2, -, -, -, q3, q4⟩ := thirteen HK.out.con
  have k1 := HK.out.met.nc
  have k2 := HK.out.met.mu
  have k3 := HK.out.met.px
  have k4 := HK.out.met.sh
  have k5 := HK.out.met.wh
  have g1 := H1.out
  go_wp2_with fail
  go_ret
  exact ⟨by rw [HV.out]; rfl, HK.out.bel⟩

set_option maxRecDepth 100000 in
set_option maxHeartbeats 8000000 in
theorem rstate_said (m : Mta) (r : Con) (now : Int) (w : World) (h1 : r.nc = false) (h2 : m.con.nc = true) : Calls Tryd.prog 13 #[.agg (mcells m), .agg (cells r), .int .i64 now] w fun e w' => e = .returned (.int .i64 (stateOf m r now)) ∧ Below w.heap.size w w' := by
  have HM := Lib.hid (mc_new w m r)
  have bA := ageOf_bd m now
  have bL := lifeOf_bd m
  have bM : mostA = 2147483648 := rfl
  rw [bM] at bA bL
  have HV0 : stateOf m r now = stateT m.con r (ageOf m now) (lifeOf m) := rfl
  obtain ⟨A, hA⟩ : ∃ A, ageOf m now = A := ⟨_, rfl⟩
  obtain ⟨L, hL⟩ : ∃ L, lifeOf m = L := ⟨_, rfl⟩
  rw [hA] at bA HV0
  rw [hL] at bL HV0
  have HV0 : stateOf m r now = 2 := by unfold stateOf stateT; rw [if_pos (.inr (.inl h2))]
  have H1 := Lib.hid h1
  have H2 := Lib.hid h2
  clear h1 h2
  have HV := Lib.hid HV0
  have HA := Lib.hid hA
  have HL := Lib.hid hL
  clear hA hL bM HV0
  unfold mcells cells at HM
  unfold mcells cells
  go_enter Tryd.func13, Tryd.ntmps13
  go_upto_region 1 with fail
  obtain ⟨Z, N, hZ⟩ := size_met
  have z1 := hZ.is
  have z2 := hZ.run
  have z3 := HM.out.met.load hZ.num
  have HN := Lib.hid hZ.num
  clear hZ
  unfold mcells at z3
  go_wp2_with fail
  refine (rage_any m now _).mono ?_
  rintro e w4 ⟨rfl, hb1⟩
  rw [HA.out]
  have HM1 := Lib.hid (HM.out.more hb1)
  have z4 := HM1.out.met.load HN.out
  clear hb1
  go_wp2_with fail
  refine (rlife_any m _).mono ?_
  rintro e w5 ⟨rfl, hb2⟩
  rw [HL.out]
  have HK := Lib.hid (HM1.out.more hb2)
  clear hb2 z1 z2 z3 z4
  obtain ⟨-, q1, -, -, -, -, -, q2, -, -, -, q3, q4⟩ := thirteen HK.out.con
  have k1 := HK.out.met.nc
  have k2 := HK.out.met.mu
  have k3 := HK.out.met.px
  have k4 := HK.out.met.sh
  have k5 := HK.out.met.wh
  have g1 := H1.out
  have g2 := H2.out
  go_wp2_with fail
  go_ret
  exact ⟨by rw [HV.out]; rfl, HK.out.bel⟩

set_option maxRecDepth 100000 in
set_option maxHeartbeats 8000000 in
theorem rstate_aged (m : Mta) (r : Con) (now : Int) (w : World) (h1 : r.nc = false) (h2 : m.con.nc = false) (h3 : 0 ≤ r.ag) (h4 : r.ag < ageOf m now) : Calls Tryd.prog 13 #[.agg (mcells m), .agg (cells r), .int .i64 now] w fun e w' => e = .returned (.int .i64 (stateOf m r now)) ∧ Below w.heap.size w w' := by
  have HM := Lib.hid (mc_new w m r)
  have bA := ageOf_bd m now
  have bL := lifeOf_bd m
  have bM : mostA = 2147483648 := rfl
  rw [bM] at bA bL
  have HV0 : stateOf m r now = stateT m.con r (ageOf m now) (lifeOf m) := rfl
  obtain ⟨A, hA⟩ : ∃ A, ageOf m now = A := ⟨_, rfl⟩
  obtain ⟨L, hL⟩ : ∃ L, lifeOf m = L := ⟨_, rfl⟩
  rw [hA] at bA HV0 h4
  rw [hL] at bL HV0
  have HV0 : stateOf m r now = 2 := by unfold stateOf stateT; rw [hA, if_pos (.inr (.inr ⟨h3, h4⟩))]
  have H1 := Lib.hid h1
  have H2 := Lib.hid h2
  clear h1 h2
  have HV := Lib.hid HV0
  have HA := Lib.hid hA
  have HL := Lib.hid hL
  clear hA hL bM HV0
  unfold mcells cells at HM
  unfold mcells cells
  go_enter Tryd.func13, Tryd.ntmps13
  go_upto_region 1 with fail
  obtain ⟨Z, N, hZ⟩ := size_met
  have z1 := hZ.is
  have z2 := hZ.run
  have z3 := HM.out.met.load hZ.num
  have HN := Lib.hid hZ.num
  clear hZ
  unfold mcells at z3
  go_wp2_with fail
  refine (rage_any m now _).mono ?_
  rintro e w4 ⟨rfl, hb1⟩
  rw [HA.out]
  have HM1 := Lib.hid (HM.out.more hb1)
  have z4 := HM1.out.met.load HN.out
  clear hb1
  go_wp2_with fail
  refine (rlife_any m _).mono ?_
  rintro e w5 ⟨rfl, hb2⟩
  rw [HL.out]
  have HK := Lib.hid (HM1.out.more hb2)
  clear hb2 z1 z2 z3 z4
  obtain ⟨-, q1, -, -, -, -, -, q2, -, -, -, q3, q4⟩ := thirteen HK.out.con
  have k1 := HK.out.met.nc
  have k2 := HK.out.met.mu
  have k3 := HK.out.met.px
  have k4 := HK.out.met.sh
  have k5 := HK.out.met.wh
  have g1 := H1.out
  have g2 := H2.out
  go_wp2_with fail
  go_ret
  exact ⟨by rw [HV.out]; rfl, HK.out.bel⟩

set_option maxRecDepth 100000 in
set_option maxHeartbeats 8000000 in
theorem rstate_young_no (m : Mta) (r : Con) (now : Int) (w : World) (h1 : r.nc = false) (h2 : m.con.nc = false) (h3 : r.ag < 0) (h5 : ageOf m now < lifeOf m) : Calls Tryd.prog 13 #[.agg (mcells m), .agg (cells r), .int .i64 now] w fun e w' => e = .returned (.int .i64 (stateOf m r now)) ∧ Below w.heap.size w w' := by
  have HM := Lib.hid (mc_new w m r)
  have bA := ageOf_bd m now
  have bL := lifeOf_bd m
  have bM : mostA = 2147483648 := rfl
  rw [bM] at bA bL
  have HV0 : stateOf m r now = stateT m.con r (ageOf m now) (lifeOf m) := rfl
  obtain ⟨A, hA⟩ : ∃ A, ageOf m now = A := ⟨_, rfl⟩
  obtain ⟨L, hL⟩ : ∃ L, lifeOf m = L := ⟨_, rfl⟩
  rw [hA] at bA HV0 h5
  rw [hL] at bL HV0 h5
  replace HV0 := HV0.trans (show stateT m.con r A L = youngT (L - A) r from stateT_young h1 h2 (fun k => by omega) h5)
  have H1 := Lib.hid h1
  have H2 := Lib.hid h2
  clear h1 h2
  have HV := Lib.hid HV0
  have HA := Lib.hid hA
  have HL := Lib.hid hL
  clear hA hL bM HV0
  unfold mcells cells at HM
  unfold mcells cells
  go_enter Tryd.func13, Tryd.ntmps13
  go_upto_region 1 with fail
  obtain ⟨Z, N, hZ⟩ := size_met
  have z1 := hZ.is
  have z2 := hZ.run
  have z3 := HM.out.met.load hZ.num
  have HN := Lib.hid hZ.num
  clear hZ
  unfold mcells at z3
  go_wp2_with fail
  refine (rage_any m now _).mono ?_
  rintro e w4 ⟨rfl, hb1⟩
  rw [HA.out]
  have HM1 := Lib.hid (HM.out.more hb1)
  have z4 := HM1.out.met.load HN.out
  clear hb1
  go_wp2_with fail
  refine (rlife_any m _).mono ?_
  rintro e w5 ⟨rfl, hb2⟩
  rw [HL.out]
  have HK := Lib.hid (HM1.out.more hb2)
  clear hb2 z1 z2 z3 z4
  obtain ⟨-, q1, -, -, -, -, -, q2, -, -, -, q3, q4⟩ := thirteen HK.out.con
  have k1 := HK.out.met.nc
  have k2 := HK.out.met.mu
  have k3 := HK.out.met.px
  have k4 := HK.out.met.sh
  have k5 := HK.out.met.wh
  have g1 := H1.out
  have g2 := H2.out
  by_cases m1 : 0 ≤ r.mf
  · by_cases m2 : L - A < r.mf
    · go_wp2_with fail
      go_ret
      exact ⟨ret_int (by rw [HV.out]; unfold youngT; split <;> omega), HK.out.bel⟩
    · go_wp2_with fail
      go_ret
      exact ⟨ret_int (by rw [HV.out]; unfold youngT; split <;> omega), HK.out.bel⟩
  · go_wp2_with fail
    go_ret
    exact ⟨ret_int (by rw [HV.out]; unfold youngT; split <;> omega), HK.out.bel⟩

set_option maxRecDepth 100000 in
set_option maxHeartbeats 8000000 in
theorem rstate_old_no (m : Mta) (r : Con) (now : Int) (w : World) (h1 : r.nc = false) (h2 : m.con.nc = false) (h3 : r.ag < 0) (h5 : ¬ ageOf m now < lifeOf m) : Calls Tryd.prog 13 #[.agg (mcells m), .agg (cells r), .int .i64 now] w fun e w' => e = .returned (.int .i64 (stateOf m r now)) ∧ Below w.heap.size w w' := by
  have HM := Lib.hid (mc_new w m r)
  have bA := ageOf_bd m now
  have bL := lifeOf_bd m
  have bM : mostA = 2147483648 := rfl
  rw [bM] at bA bL
  have HV0 : stateOf m r now = stateT m.con r (ageOf m now) (lifeOf m) := rfl
  obtain ⟨A, hA⟩ : ∃ A, ageOf m now = A := ⟨_, rfl⟩
  obtain ⟨L, hL⟩ : ∃ L, lifeOf m = L := ⟨_, rfl⟩
  rw [hA] at bA HV0 h5
  rw [hL] at bL HV0 h5
  replace HV0 := HV0.trans (show stateT m.con r A L = oldT (A - L) m.con r from stateT_old h1 h2 (fun k => by omega) h5)
  have H1 := Lib.hid h1
  have H2 := Lib.hid h2
  clear h1 h2
  have HV := Lib.hid HV0
  have HA := Lib.hid hA
  have HL := Lib.hid hL
  clear hA hL bM HV0
  unfold mcells cells at HM
  unfold mcells cells
  go_enter Tryd.func13, Tryd.ntmps13
  go_upto_region 1 with fail
  obtain ⟨Z, N, hZ⟩ := size_met
  have z1 := hZ.is
  have z2 := hZ.run
  have z3 := HM.out.met.load hZ.num
  have HN := Lib.hid hZ.num
  clear hZ
  unfold mcells at z3
  go_wp2_with fail
  refine (rage_any m now _).mono ?_
  rintro e w4 ⟨rfl, hb1⟩
  rw [HA.out]
  have HM1 := Lib.hid (HM.out.more hb1)
  have z4 := HM1.out.met.load HN.out
  clear hb1
  go_wp2_with fail
  refine (rlife_any m _).mono ?_
  rintro e w5 ⟨rfl, hb2⟩
  rw [HL.out]
  have HK := Lib.hid (HM1.out.more hb2)
  clear hb2 z1 z2 z3 z4
  obtain ⟨-, q1, -, -, -, -, -, q2, -, -, -, q3, q4⟩ := thirteen HK.out.con
  have k1 := HK.out.met.nc
  have k2 := HK.out.met.mu
  have k3 := HK.out.met.px
  have k4 := HK.out.met.sh
  have k5 := HK.out.met.wh
  have g1 := H1.out
  have g2 := H2.out
  cases hm : m.con.mu with
  | true =>
    go_wp2_with fail
    go_ret
    exact ⟨ret_int (by rw [HV.out]; unfold oldT; rw [if_pos (.inl hm)]), HK.out.bel⟩
  | false =>
    cases hp : m.con.px with
    | true =>
      go_wp2_with fail
      go_ret
      exact ⟨ret_int (by rw [HV.out]; unfold oldT; rw [if_pos (.inr (.inl hp))]), HK.out.bel⟩
    | false =>
      by_cases hs : 0 ≤ m.con.sh
      · go_wp2_with fail
        go_ret
        exact ⟨ret_int (by rw [HV.out]; unfold oldT; rw [if_pos (.inr (.inr hs))]), HK.out.bel⟩
      · by_cases s1 : 0 ≤ r.ms
        · by_cases s2 : A - L ≤ r.ms
          · go_wp2_with fail
            go_ret
            exact ⟨ret_int (by rw [HV.out]; unfold oldT; rw [if_neg (by rw [hm, hp]; simpa using hs), if_pos (by omega)]), HK.out.bel⟩
          · by_cases u1 : 0 ≤ m.con.wh
            · by_cases u2 : A - L < m.con.wh
              · by_cases u3 : r.mf ≤ 0
                · go_wp2_with fail
                  go_ret
                  exact ⟨ret_int (by rw [HV.out]; unfold oldT; rw [if_neg (by rw [hm, hp]; simpa using hs), if_neg (by omega), if_pos (by omega)]), HK.out.bel⟩
                · go_wp2_with fail
                  go_ret
                  exact ⟨ret_int (by rw [HV.out]; unfold oldT; rw [if_neg (by rw [hm, hp]; simpa using hs), if_neg (by omega), if_neg (by omega)]), HK.out.bel⟩
              · go_wp2_with fail
                go_ret
                exact ⟨ret_int (by rw [HV.out]; unfold oldT; rw [if_neg (by rw [hm, hp]; simpa using hs), if_neg (by omega), if_neg (by omega)]), HK.out.bel⟩
            · go_wp2_with fail
              go_ret
              exact ⟨ret_int (by rw [HV.out]; unfold oldT; rw [if_neg (by rw [hm, hp]; simpa using hs), if_neg (by omega), if_neg (by omega)]), HK.out.bel⟩
        · by_cases u1 : 0 ≤ m.con.wh
          · by_cases u2 : A - L < m.con.wh
            · by_cases u3 : r.mf ≤ 0
              · go_wp2_with fail
                go_ret
                exact ⟨ret_int (by rw [HV.out]; unfold oldT; rw [if_neg (by rw [hm, hp]; simpa using hs), if_neg (by omega), if_pos (by omega)]), HK.out.bel⟩
              · go_wp2_with fail
                go_ret
                exact ⟨ret_int (by rw [HV.out]; unfold oldT; rw [if_neg (by rw [hm, hp]; simpa using hs), if_neg (by omega), if_neg (by omega)]), HK.out.bel⟩
            · go_wp2_with fail
              go_ret
              exact ⟨ret_int (by rw [HV.out]; unfold oldT; rw [if_neg (by rw [hm, hp]; simpa using hs), if_neg (by omega), if_neg (by omega)]), HK.out.bel⟩
          · go_wp2_with fail
            go_ret
            exact ⟨ret_int (by rw [HV.out]; unfold oldT; rw [if_neg (by rw [hm, hp]; simpa using hs), if_neg (by omega), if_neg (by omega)]), HK.out.bel⟩

set_option maxRecDepth 100000 in
set_option maxHeartbeats 8000000 in
theorem rstate_young_yes (m : Mta) (r : Con) (now : Int) (w : World) (h1 : r.nc = false) (h2 : m.con.nc = false) (h3 : 0 ≤ r.ag) (h4 : ¬ r.ag < ageOf m now) (h5 : ageOf m now < lifeOf m) : Calls Tryd.prog 13 #[.agg (mcells m), .agg (cells r), .int .i64 now] w fun e w' => e = .returned (.int .i64 (stateOf m r now)) ∧ Below w.heap.size w w' := by
  have HM := Lib.hid (mc_new w m r)
  have bA := ageOf_bd m now
  have bL := lifeOf_bd m
  have bM : mostA = 2147483648 := rfl
  rw [bM] at bA bL
  have HV0 : stateOf m r now = stateT m.con r (ageOf m now) (lifeOf m) := rfl
  obtain ⟨A, hA⟩ : ∃ A, ageOf m now = A := ⟨_, rfl⟩
  obtain ⟨L, hL⟩ : ∃ L, lifeOf m = L := ⟨_, rfl⟩
  rw [hA] at bA HV0 h4 h5
  rw [hL] at bL HV0 h5
  replace HV0 := HV0.trans (show stateT m.con r A L = youngT (L - A) r from stateT_young h1 h2 (fun k => by omega) h5)
  have H1 := Lib.hid h1
  have H2 := Lib.hid h2
  clear h1 h2
  have HV := Lib.hid HV0
  have HA := Lib.hid hA
  have HL := Lib.hid hL
  clear hA hL bM HV0
  unfold mcells cells at HM
  unfold mcells cells
  go_enter Tryd.func13, Tryd.ntmps13
  go_upto_region 1 with fail
  obtain ⟨Z, N, hZ⟩ := size_met
  have z1 := hZ.is
  have z2 := hZ.run
  have z3 := HM.out.met.load hZ.num
  have HN := Lib.hid hZ.num
  clear hZ
  unfold mcells at z3
  go_wp2_with fail
  refine (rage_any m now _).mono ?_
  rintro e w4 ⟨rfl, hb1⟩
  rw [HA.out]
  have HM1 := Lib.hid (HM.out.more hb1)
  have z4 := HM1.out.met.load HN.out
  clear hb1
  go_wp2_with fail
  refine (rlife_any m _).mono ?_
  rintro e w5 ⟨rfl, hb2⟩
  rw [HL.out]
  have HK := Lib.hid (HM1.out.more hb2)
  clear hb2 z1 z2 z3 z4
  obtain ⟨-, q1, -, -, -, -, -, q2, -, -, -, q3, q4⟩ := thirteen HK.out.con
  have k1 := HK.out.met.nc
  have k2 := HK.out.met.mu
  have k3 := HK.out.met.px
  have k4 := HK.out.met.sh
  have k5 := HK.out.met.wh
  have g1 := H1.out
  have g2 := H2.out
  by_cases m1 : 0 ≤ r.mf
  · by_cases m2 : L - A < r.mf
    · go_wp2_with fail
      go_ret
      exact ⟨ret_int (by rw [HV.out]; unfold youngT; split <;> omega), HK.out.bel⟩
    · go_wp2_with fail
      go_ret
      exact ⟨ret_int (by rw [HV.out]; unfold youngT; split <;> omega), HK.out.bel⟩
  · go_wp2_with fail
    go_ret
    exact ⟨ret_int (by rw [HV.out]; unfold youngT; split <;> omega), HK.out.bel⟩

set_option maxRecDepth 100000 in
set_option maxHeartbeats 8000000 in
theorem rstate_old_yes (m : Mta) (r : Con) (now : Int) (w : World) (h1 : r.nc = false) (h2 : m.con.nc = false) (h3 : 0 ≤ r.ag) (h4 : ¬ r.ag < ageOf m now) (h5 : ¬ ageOf m now < lifeOf m) : Calls Tryd.prog 13 #[.agg (mcells m), .agg (cells r), .int .i64 now] w fun e w' => e = .returned (.int .i64 (stateOf m r now)) ∧ Below w.heap.size w w' := by
  have HM := Lib.hid (mc_new w m r)
  have bA := ageOf_bd m now
  have bL := lifeOf_bd m
  have bM : mostA = 2147483648 := rfl
  rw [bM] at bA bL
  have HV0 : stateOf m r now = stateT m.con r (ageOf m now) (lifeOf m) := rfl
  obtain ⟨A, hA⟩ : ∃ A, ageOf m now = A := ⟨_, rfl⟩
  obtain ⟨L, hL⟩ : ∃ L, lifeOf m = L := ⟨_, rfl⟩
  rw [hA] at bA HV0 h4 h5
  rw [hL] at bL HV0 h5
  replace HV0 := HV0.trans (show stateT m.con r A L = oldT (A - L) m.con r from stateT_old h1 h2 (fun k => by omega) h5)
  have H1 := Lib.hid h1
  have H2 := Lib.hid h2
  clear h1 h2
  have HV := Lib.hid HV0
  have HA := Lib.hid hA
  have HL := Lib.hid hL
  clear hA hL bM HV0
  unfold mcells cells at HM
  unfold mcells cells
  go_enter Tryd.func13, Tryd.ntmps13
  go_upto_region 1 with fail
  obtain ⟨Z, N, hZ⟩ := size_met
  have z1 := hZ.is
  have z2 := hZ.run
  have z3 := HM.out.met.load hZ.num
  have HN := Lib.hid hZ.num
  clear hZ
  unfold mcells at z3
  go_wp2_with fail
  refine (rage_any m now _).mono ?_
  rintro e w4 ⟨rfl, hb1⟩
  rw [HA.out]
  have HM1 := Lib.hid (HM.out.more hb1)
  have z4 := HM1.out.met.load HN.out
  clear hb1
  go_wp2_with fail
  refine (rlife_any m _).mono ?_
  rintro e w5 ⟨rfl, hb2⟩
  rw [HL.out]
  have HK := Lib.hid (HM1.out.more hb2)
  clear hb2 z1 z2 z3 z4
  obtain ⟨-, q1, -, -, -, -, -, q2, -, -, -, q3, q4⟩ := thirteen HK.out.con
  have k1 := HK.out.met.nc
  have k2 := HK.out.met.mu
  have k3 := HK.out.met.px
  have k4 := HK.out.met.sh
  have k5 := HK.out.met.wh
  have g1 := H1.out
  have g2 := H2.out
  cases hm : m.con.mu with
  | true =>
    go_wp2_with fail
    go_ret
    exact ⟨ret_int (by rw [HV.out]; unfold oldT; rw [if_pos (.inl hm)]), HK.out.bel⟩
  | false =>
    cases hp : m.con.px with
    | true =>
      go_wp2_with fail
      go_ret
      exact ⟨ret_int (by rw [HV.out]; unfold oldT; rw [if_pos (.inr (.inl hp))]), HK.out.bel⟩
    | false =>
      by_cases hs : 0 ≤ m.con.sh
      · go_wp2_with fail
        go_ret
        exact ⟨ret_int (by rw [HV.out]; unfold oldT; rw [if_pos (.inr (.inr hs))]), HK.out.bel⟩
      · by_cases s1 : 0 ≤ r.ms
        · by_cases s2 : A - L ≤ r.ms
          · go_wp2_with fail
            go_ret
            exact ⟨ret_int (by rw [HV.out]; unfold oldT; rw [if_neg (by rw [hm, hp]; simpa using hs), if_pos (by omega)]), HK.out.bel⟩
          · by_cases u1 : 0 ≤ m.con.wh
            · by_cases u2 : A - L < m.con.wh
              · by_cases u3 : r.mf ≤ 0
                · go_wp2_with fail
                  go_ret
                  exact ⟨ret_int (by rw [HV.out]; unfold oldT; rw [if_neg (by rw [hm, hp]; simpa using hs), if_neg (by omega), if_pos (by omega)]), HK.out.bel⟩
                · go_wp2_with fail
                  go_ret
                  exact ⟨ret_int (by rw [HV.out]; unfold oldT; rw [if_neg (by rw [hm, hp]; simpa using hs), if_neg (by omega), if_neg (by omega)]), HK.out.bel⟩
              · go_wp2_with fail
                go_ret
                exact ⟨ret_int (by rw [HV.out]; unfold oldT; rw [if_neg (by rw [hm, hp]; simpa using hs), if_neg (by omega), if_neg (by omega)]), HK.out.bel⟩
            · go_wp2_with fail
              go_ret
              exact ⟨ret_int (by rw [HV.out]; unfold oldT; rw [if_neg (by rw [hm, hp]; simpa using hs), if_neg (by omega), if_neg (by omega)]), HK.out.bel⟩
        · by_cases u1 : 0 ≤ m.con.wh
          · by_cases u2 : A - L < m.con.wh
            · by_cases u3 : r.mf ≤ 0
              · go_wp2_with fail
                go_ret
                exact ⟨ret_int (by rw [HV.out]; unfold oldT; rw [if_neg (by rw [hm, hp]; simpa using hs), if_neg (by omega), if_pos (by omega)]), HK.out.bel⟩
              · go_wp2_with fail
                go_ret
                exact ⟨ret_int (by rw [HV.out]; unfold oldT; rw [if_neg (by rw [hm, hp]; simpa using hs), if_neg (by omega), if_neg (by omega)]), HK.out.bel⟩
            · go_wp2_with fail
              go_ret
              exact ⟨ret_int (by rw [HV.out]; unfold oldT; rw [if_neg (by rw [hm, hp]; simpa using hs), if_neg (by omega), if_neg (by omega)]), HK.out.bel⟩
          · go_wp2_with fail
            go_ret
            exact ⟨ret_int (by rw [HV.out]; unfold oldT; rw [if_neg (by rw [hm, hp]; simpa using hs), if_neg (by omega), if_neg (by omega)]), HK.out.bel⟩

theorem rstate_any (m : Mta) (r : Con) (now : Int) (w : World) : Calls Tryd.prog 13 #[.agg (mcells m), .agg (cells r), .int .i64 now] w fun e w' => e = .returned (.int .i64 (stateOf m r now)) ∧ Below w.heap.size w w' := by
  cases h1 : r.nc with
  | true => exact rstate_req m r now w h1
  | false =>
    cases h2 : m.con.nc with
    | true => exact rstate_said m r now w h1 h2
    | false =>
      by_cases h3 : 0 ≤ r.ag
      · by_cases h4 : r.ag < ageOf m now
        · exact rstate_aged m r now w h1 h2 h3 h4
        · by_cases h5 : ageOf m now < lifeOf m
          · exact rstate_young_yes m r now w h1 h2 h3 h4 h5
          · exact rstate_old_yes m r now w h1 h2 h3 h4 h5
      · by_cases h5 : ageOf m now < lifeOf m
        · exact rstate_young_no m r now w h1 h2 (by omega) h5
        · exact rstate_old_no m r now w h1 h2 (by omega) h5
end Go.Proofs.YtbignmccpbccoaaDoor.Fh
