/-
  gatepostref09's Age, Lifetime, State: what each returns. No condition.
-/
import Derived.Test.YtbignmccpbccoaaDoorFhRef
import Derived.Test.YtbignmccpbccoaaDoorFhState
namespace Go.Proofs.YtbignmccpbccoaaDoor.Fh
open Go.RowKit Go.Proofs.YtbignmccpbccoaaDoor.Ct Go.Proofs.YtbignmccpbccoaaDoor.Fd
set_option linter.unusedVariables false

set_option maxRecDepth 100000 in
set_option maxHeartbeats 4000000 in
theorem rage_any (m : Mta) (now : Int) (w : World) : Calls Tryd.prog 9 #[.agg (mcells m), .int .i64 now] w fun e w' => e = .returned (.int .i64 (ageOf m now)) ∧ Below w.heap.size w w' := by
  have HB := Lib.hid (bel_met w m)
  unfold mcells at HB ⊢
  obtain ⟨T, hT⟩ : ∃ T, toldT m.age = T := ⟨_, rfl⟩
  obtain ⟨x, hx⟩ : ∃ x, lessT m.got m.date = x := ⟨_, rfl⟩
  obtain ⟨y, hy⟩ : ∃ y, lessT m.got m.ask = y := ⟨_, rfl⟩
  obtain ⟨z, hz⟩ : ∃ z, lessT now m.got = z := ⟨_, rfl⟩
  obtain ⟨c, hc⟩ : ∃ c, cutT m.age = c := ⟨_, rfl⟩
  have bT := toldT_bd m.age
  have bx := lessT_bd m.got m.date
  have b_y := lessT_bd m.got m.ask
  have bz := lessT_bd now m.got
  rw [hT] at bT
  rw [hx] at bx
  rw [hy] at b_y
  rw [hz] at bz
  unfold mostT at bT bx b_y bz
  have HA := Lib.hid (show ageOf m now = atMost ((if T + y < x then x else T + y) + z) 2147483648 from by unfold ageOf; rw [hT, hx, hy, hz]; rfl)
  have HT1 := Lib.hid (show 0 < m.age → c = T from fun h => by rw [← hT, ← hc]; unfold toldT; rw [if_pos h])
  have HT0 := Lib.hid (show ¬ 0 < m.age → T = 0 from fun h => by rw [← hT]; unfold toldT; rw [if_neg h])
  have HX := Lib.hid hx
  have HY := Lib.hid hy
  have HZ := Lib.hid hz
  have HC := Lib.hid hc
  clear hT hx hy hz hc
  by_cases hp : 0 < m.age
  · have HT := Lib.hid (show cutT m.age = T from by rw [HC.out, HT1.out hp])
    clear HT1 HT0 HC
    go_enter Tryd.func9, Tryd.ntmps9
    go_wp2_with (first
      | (go_at_call 18; refine (rless_any _ _ _).mono ?_; rintro e w6 ⟨rfl, rfl⟩; first | rw [HX.out] | rw [HY.out] | rw [HZ.out])
      | (go_at_call 19; refine (rcut_any _ _).mono ?_; rintro e w6 ⟨rfl, rfl⟩; rw [HT.out])
      | (go_at_call 20; refine (rmost_any _ _ _).mono ?_; rintro e w6 ⟨rfl, rfl⟩))
    all_goals
      go_ret
      exact ⟨ret_int (by rw [HA.out]; unfold atMost; (repeat' split) <;> omega), HB.out⟩
  · have h0 := HT0.out hp
    subst h0
    clear HT1 HT0 HC
    go_enter Tryd.func9, Tryd.ntmps9
    go_wp2_with (first
      | (go_at_call 18; refine (rless_any _ _ _).mono ?_; rintro e w6 ⟨rfl, rfl⟩; first | rw [HX.out] | rw [HY.out] | rw [HZ.out])
      | (go_at_call 20; refine (rmost_any _ _ _).mono ?_; rintro e w6 ⟨rfl, rfl⟩))
    all_goals
      go_ret
      exact ⟨ret_int (by rw [HA.out]; unfold atMost; (repeat' split) <;> omega), HB.out⟩
set_option maxRecDepth 100000 in
set_option maxHeartbeats 4000000 in
theorem rlife_sh (m : Mta) (w : World) (h1 : 0 ≤ m.con.sh) : Calls Tryd.prog 11 #[.agg (mcells m)] w fun e w' => e = .returned (.int .i64 (lifeOf m)) ∧ Below w.heap.size w w' := by
  have HB := Lib.hid (bel_met w m)
  have bx := lessT_bd m.date m.mod
  obtain ⟨x, hx⟩ : ∃ x, lessT m.date m.mod = x := ⟨_, rfl⟩
  rw [hx] at bx
  unfold mostT at bx
  unfold mcells at HB ⊢
  have HL := Lib.hid (show lifeOf m = atMost m.con.sh 2147483648 from by unfold lifeOf; rw [if_pos h1]; rfl)
  have HX := Lib.hid hx
  clear hx
  go_enter Tryd.func11, Tryd.ntmps11
  go_wp2_with (first | (go_at_call 20; refine (rmost_any _ _ _).mono ?_; rintro e w6 ⟨rfl, rfl⟩))
  all_goals
    go_ret
    exact ⟨ret_int (by rw [HL.out]), HB.out⟩
set_option maxRecDepth 100000 in
set_option maxHeartbeats 4000000 in
theorem rlife_ag (m : Mta) (w : World) (h1 : ¬ 0 ≤ m.con.sh) (h2 : 0 ≤ m.con.ag) : Calls Tryd.prog 11 #[.agg (mcells m)] w fun e w' => e = .returned (.int .i64 (lifeOf m)) ∧ Below w.heap.size w w' := by
  have HB := Lib.hid (bel_met w m)
  have bx := lessT_bd m.date m.mod
  obtain ⟨x, hx⟩ : ∃ x, lessT m.date m.mod = x := ⟨_, rfl⟩
  rw [hx] at bx
  unfold mostT at bx
  unfold mcells at HB ⊢
  have HL := Lib.hid (show lifeOf m = atMost m.con.ag 2147483648 from by unfold lifeOf; rw [if_neg h1, if_pos h2]; rfl)
  have HX := Lib.hid hx
  clear hx
  go_enter Tryd.func11, Tryd.ntmps11
  go_wp2_with (first | (go_at_call 20; refine (rmost_any _ _ _).mono ?_; rintro e w6 ⟨rfl, rfl⟩))
  all_goals
    go_ret
    exact ⟨ret_int (by rw [HL.out]), HB.out⟩
set_option maxRecDepth 100000 in
set_option maxHeartbeats 4000000 in
theorem rlife_exp1 (m : Mta) (w : World) (h1 : ¬ 0 ≤ m.con.sh) (h2 : ¬ 0 ≤ m.con.ag) (h3 : 0 ≤ m.exp) (h4 : 0 ≤ m.date) : Calls Tryd.prog 11 #[.agg (mcells m)] w fun e w' => e = .returned (.int .i64 (lifeOf m)) ∧ Below w.heap.size w w' := by
  have HB := Lib.hid (bel_met w m)
  have bx := lessT_bd m.date m.mod
  obtain ⟨x, hx⟩ : ∃ x, lessT m.date m.mod = x := ⟨_, rfl⟩
  rw [hx] at bx
  unfold mostT at bx
  unfold mcells at HB ⊢
  have HL := Lib.hid (show lifeOf m = atMost (lessT m.exp m.date) 2147483648 from by unfold lifeOf fromT; rw [if_neg h1, if_neg h2, if_pos h3]; rw [if_neg (by omega)]; rfl)
  have HX := Lib.hid hx
  clear hx
  go_enter Tryd.func11, Tryd.ntmps11
  go_wp2_with (first | (go_at_call 18; refine (rless_any _ _ _).mono ?_; rintro e w6 ⟨rfl, rfl⟩) | (go_at_call 20; refine (rmost_any _ _ _).mono ?_; rintro e w6 ⟨rfl, rfl⟩))
  all_goals
    go_ret
    exact ⟨ret_int (by rw [HL.out]), HB.out⟩
set_option maxRecDepth 100000 in
set_option maxHeartbeats 4000000 in
theorem rlife_exp2 (m : Mta) (w : World) (h1 : ¬ 0 ≤ m.con.sh) (h2 : ¬ 0 ≤ m.con.ag) (h3 : 0 ≤ m.exp) (h4 : ¬ 0 ≤ m.date) (h5 : 0 ≤ m.got) : Calls Tryd.prog 11 #[.agg (mcells m)] w fun e w' => e = .returned (.int .i64 (lifeOf m)) ∧ Below w.heap.size w w' := by
  have HB := Lib.hid (bel_met w m)
  have bx := lessT_bd m.date m.mod
  obtain ⟨x, hx⟩ : ∃ x, lessT m.date m.mod = x := ⟨_, rfl⟩
  rw [hx] at bx
  unfold mostT at bx
  unfold mcells at HB ⊢
  have HL := Lib.hid (show lifeOf m = atMost (lessT m.exp m.got) 2147483648 from by unfold lifeOf fromT; rw [if_neg h1, if_neg h2, if_pos h3]; rw [if_pos (by omega), if_neg (by omega)]; rfl)
  have HX := Lib.hid hx
  clear hx
  go_enter Tryd.func11, Tryd.ntmps11
  go_wp2_with (first | (go_at_call 18; refine (rless_any _ _ _).mono ?_; rintro e w6 ⟨rfl, rfl⟩) | (go_at_call 20; refine (rmost_any _ _ _).mono ?_; rintro e w6 ⟨rfl, rfl⟩))
  all_goals
    go_ret
    exact ⟨ret_int (by rw [HL.out]), HB.out⟩
set_option maxRecDepth 100000 in
set_option maxHeartbeats 4000000 in
theorem rlife_exp3 (m : Mta) (w : World) (h1 : ¬ 0 ≤ m.con.sh) (h2 : ¬ 0 ≤ m.con.ag) (h3 : 0 ≤ m.exp) (h4 : ¬ 0 ≤ m.date) (h5 : ¬ 0 ≤ m.got) : Calls Tryd.prog 11 #[.agg (mcells m)] w fun e w' => e = .returned (.int .i64 (lifeOf m)) ∧ Below w.heap.size w w' := by
  have HB := Lib.hid (bel_met w m)
  have bx := lessT_bd m.date m.mod
  obtain ⟨x, hx⟩ : ∃ x, lessT m.date m.mod = x := ⟨_, rfl⟩
  rw [hx] at bx
  unfold mostT at bx
  unfold mcells at HB ⊢
  have HL := Lib.hid (show lifeOf m = atMost (lessT m.exp 0) 2147483648 from by unfold lifeOf fromT; rw [if_neg h1, if_neg h2, if_pos h3]; rw [if_pos (by omega), if_pos (by omega)]; rfl)
  have HX := Lib.hid hx
  clear hx
  go_enter Tryd.func11, Tryd.ntmps11
  go_wp2_with (first | (go_at_call 18; refine (rless_any _ _ _).mono ?_; rintro e w6 ⟨rfl, rfl⟩) | (go_at_call 20; refine (rmost_any _ _ _).mono ?_; rintro e w6 ⟨rfl, rfl⟩))
  all_goals
    go_ret
    exact ⟨ret_int (by rw [HL.out]), HB.out⟩
set_option maxRecDepth 100000 in
set_option maxHeartbeats 4000000 in
theorem rlife_guess (m : Mta) (w : World) (h1 : ¬ 0 ≤ m.con.sh) (h2 : ¬ 0 ≤ m.con.ag) (h3 : ¬ 0 ≤ m.exp) (h4 : heurOf m.code = true) (h5 : 0 ≤ m.mod) (h6 : 0 ≤ m.date) : Calls Tryd.prog 11 #[.agg (mcells m)] w fun e w' => e = .returned (.int .i64 (lifeOf m)) ∧ Below w.heap.size w w' := by
  have HB := Lib.hid (bel_met w m)
  have bx := lessT_bd m.date m.mod
  obtain ⟨x, hx⟩ : ∃ x, lessT m.date m.mod = x := ⟨_, rfl⟩
  rw [hx] at bx
  unfold mostT at bx
  unfold mcells at HB ⊢
  have HL := Lib.hid (show lifeOf m = atMost (x / 10) 86400 from by unfold lifeOf; rw [if_neg h1, if_neg h2, if_neg h3, if_pos ⟨h4, h5, h6⟩, hx])
  have HX := Lib.hid hx
  have H4 := Lib.hid h4
  clear h4
  clear hx
  go_enter Tryd.func11, Tryd.ntmps11
  go_wp2_with (first | (go_at_call 15; refine (rheur_any _ _).mono ?_; rintro e w6 ⟨rfl, rfl⟩; rw [H4.out]) | (go_at_call 18; refine (rless_any _ _ _).mono ?_; rintro e w6 ⟨rfl, rfl⟩; rw [HX.out]) | (go_at_call 20; refine (rmost_any _ _ _).mono ?_; rintro e w6 ⟨rfl, rfl⟩))
  all_goals
    go_ret
    exact ⟨ret_int (by rw [HL.out]), HB.out⟩
set_option maxRecDepth 100000 in
set_option maxHeartbeats 4000000 in
theorem rlife_zero1 (m : Mta) (w : World) (h1 : ¬ 0 ≤ m.con.sh) (h2 : ¬ 0 ≤ m.con.ag) (h3 : ¬ 0 ≤ m.exp) (h4 : heurOf m.code = false) : Calls Tryd.prog 11 #[.agg (mcells m)] w fun e w' => e = .returned (.int .i64 (lifeOf m)) ∧ Below w.heap.size w w' := by
  have HB := Lib.hid (bel_met w m)
  have bx := lessT_bd m.date m.mod
  obtain ⟨x, hx⟩ : ∃ x, lessT m.date m.mod = x := ⟨_, rfl⟩
  rw [hx] at bx
  unfold mostT at bx
  unfold mcells at HB ⊢
  have HL := Lib.hid (show lifeOf m = 0 from life_zero m h1 h2 h3 h4)
  have HX := Lib.hid hx
  have H4 := Lib.hid h4
  clear h4
  clear hx
  go_enter Tryd.func11, Tryd.ntmps11
  go_wp2_with (first | (go_at_call 15; refine (rheur_any _ _).mono ?_; rintro e w6 ⟨rfl, rfl⟩; rw [H4.out]))
  all_goals
    go_ret
    exact ⟨ret_int (by rw [HL.out]), HB.out⟩
set_option maxRecDepth 100000 in
set_option maxHeartbeats 4000000 in
theorem rlife_zero2 (m : Mta) (w : World) (h1 : ¬ 0 ≤ m.con.sh) (h2 : ¬ 0 ≤ m.con.ag) (h3 : ¬ 0 ≤ m.exp) (h4 : heurOf m.code = true) (h5 : ¬ 0 ≤ m.mod) : Calls Tryd.prog 11 #[.agg (mcells m)] w fun e w' => e = .returned (.int .i64 (lifeOf m)) ∧ Below w.heap.size w w' := by
  have HB := Lib.hid (bel_met w m)
  have bx := lessT_bd m.date m.mod
  obtain ⟨x, hx⟩ : ∃ x, lessT m.date m.mod = x := ⟨_, rfl⟩
  rw [hx] at bx
  unfold mostT at bx
  unfold mcells at HB ⊢
  have HL := Lib.hid (show lifeOf m = 0 from by unfold lifeOf; rw [if_neg h1, if_neg h2, if_neg h3, if_neg (fun k => h5 k.2.1)])
  have HX := Lib.hid hx
  have H4 := Lib.hid h4
  clear h4
  clear hx
  go_enter Tryd.func11, Tryd.ntmps11
  go_wp2_with (first | (go_at_call 15; refine (rheur_any _ _).mono ?_; rintro e w6 ⟨rfl, rfl⟩; rw [H4.out]))
  all_goals
    go_ret
    exact ⟨ret_int (by rw [HL.out]), HB.out⟩
set_option maxRecDepth 100000 in
set_option maxHeartbeats 4000000 in
theorem rlife_zero3 (m : Mta) (w : World) (h1 : ¬ 0 ≤ m.con.sh) (h2 : ¬ 0 ≤ m.con.ag) (h3 : ¬ 0 ≤ m.exp) (h4 : heurOf m.code = true) (h5 : 0 ≤ m.mod) (h6 : ¬ 0 ≤ m.date) : Calls Tryd.prog 11 #[.agg (mcells m)] w fun e w' => e = .returned (.int .i64 (lifeOf m)) ∧ Below w.heap.size w w' := by
  have HB := Lib.hid (bel_met w m)
  have bx := lessT_bd m.date m.mod
  obtain ⟨x, hx⟩ : ∃ x, lessT m.date m.mod = x := ⟨_, rfl⟩
  rw [hx] at bx
  unfold mostT at bx
  unfold mcells at HB ⊢
  have HL := Lib.hid (show lifeOf m = 0 from by unfold lifeOf; rw [if_neg h1, if_neg h2, if_neg h3, if_neg (fun k => h6 k.2.2)])
  have HX := Lib.hid hx
  have H4 := Lib.hid h4
  clear h4
  clear hx
  go_enter Tryd.func11, Tryd.ntmps11
  go_wp2_with (first | (go_at_call 15; refine (rheur_any _ _).mono ?_; rintro e w6 ⟨rfl, rfl⟩; rw [H4.out]))
  all_goals
    go_ret
    exact ⟨ret_int (by rw [HL.out]), HB.out⟩
theorem rlife_any (m : Mta) (w : World) : Calls Tryd.prog 11 #[.agg (mcells m)] w fun e w' => e = .returned (.int .i64 (lifeOf m)) ∧ Below w.heap.size w w' := by
  by_cases h1 : 0 ≤ m.con.sh
  · exact rlife_sh m w h1
  · by_cases h2 : 0 ≤ m.con.ag
    · exact rlife_ag m w h1 h2
    · by_cases h3 : 0 ≤ m.exp
      · by_cases h4 : 0 ≤ m.date
        · exact rlife_exp1 m w h1 h2 h3 h4
        · by_cases h5 : 0 ≤ m.got
          · exact rlife_exp2 m w h1 h2 h3 h4 h5
          · exact rlife_exp3 m w h1 h2 h3 h4 h5
      · cases h4 : heurOf m.code with
        | false => exact rlife_zero1 m w h1 h2 h3 h4
        | true =>
          by_cases h5 : 0 ≤ m.mod
          · by_cases h6 : 0 ≤ m.date
            · exact rlife_guess m w h1 h2 h3 h4 h5 h6
            · exact rlife_zero3 m w h1 h2 h3 h4 h5 h6
          · exact rlife_zero2 m w h1 h2 h3 h4 h5
end Go.Proofs.YtbignmccpbccoaaDoor.Fh
