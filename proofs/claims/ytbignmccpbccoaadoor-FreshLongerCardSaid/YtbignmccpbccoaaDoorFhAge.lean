/-
  fresh.Age: what it returns. No condition.
-/
import Derived.Test.YtbignmccpbccoaaDoorFhSt
import Derived.Deep.RegionHeld3
import Derived.IntWalk
namespace Go.Proofs.YtbignmccpbccoaaDoor.Fh
open Go.RowKit Go.Proofs.YtbignmccpbccoaaDoor.Ct Go.Proofs.YtbignmccpbccoaaDoor.Fd
set_option linter.unusedVariables false

set_option maxRecDepth 100000 in
set_option maxHeartbeats 4000000 in
theorem age_any (m : Mta) (now : Int) (w : World) : Calls Tryd.prog 8 #[.agg (mcells m), .int .i64 now] w fun e w' => e = .returned (.int .i64 (ageOf m now)) ∧ Below w.heap.size w w' := by
  unfold mcells
  obtain ⟨T, hT⟩ : ∃ T, toldT m.age = T := ⟨_, rfl⟩
  obtain ⟨x, hx⟩ : ∃ x, lessT m.got m.date = x := ⟨_, rfl⟩
  obtain ⟨y, hy⟩ : ∃ y, lessT m.got m.ask = y := ⟨_, rfl⟩
  obtain ⟨z, hz⟩ : ∃ z, lessT now m.got = z := ⟨_, rfl⟩
  have bT := toldT_bd m.age
  have bx := lessT_bd m.got m.date
  have b_y := lessT_bd m.got m.ask
  have bz := lessT_bd now m.got
  rw [hT] at bT
  rw [hx] at bx
  rw [hy] at b_y
  rw [hz] at bz
  unfold mostT at bT bx b_y bz
  have HA := Lib.hid (show ageOf m now = atMost ((if T + y < x then x else T + y) + z) mostA from by unfold ageOf; rw [hT, hx, hy, hz])
  have HT := Lib.hid (show clampT 0 1099511627776 m.age = T from (clamp_told _).trans hT)
  have HX := Lib.hid hx
  have HY := Lib.hid hy
  have HZ := Lib.hid hz
  clear hT hx hy hz
  go_enter Tryd.func8, Tryd.ntmps8
  go_wp2_with fail
  refine (within_made _ _ _).mono ?_
  rintro e w1 ⟨rfl, hw1⟩
  have HO := Lib.hid (one_new (m := m) hw1)
  clear hw1
  unfold clo
  go_wp2_with fail
  refine (within_made _ _ _).mono ?_
  rintro e w2 ⟨rfl, hw2⟩
  have HK := Lib.hid (HO.out.two hw2)
  have c1 := HK.out.one.met.date
  have c2 := HK.out.one.met.got
  clear hw2
  unfold clo
  go_wp2_with fail
  refine (between_any _ _ _).mono ?_
  rintro e w3 ⟨rfl, hb3⟩
  rw [HX.out]
  have HK3 := Lib.hid (HK.out.more hb3)
  clear hb3 c1 c2
  go_wp2_with fail
  have hwr : IntKind.i64.wrap (T + y) = T + y := IntWalk.i64_in _ (by omega)
  go_region_held3 (fun W => W.cell? ⟨w.heap.size, 17, none⟩ = some (.int .i64 m.age) ∧ W.cell? ⟨w.heap.size, 18, none⟩ = some (.int .i64 m.ask) ∧ W.cell? ⟨w.heap.size, 19, none⟩ = some (.int .i64 m.got) ∧ Two w w.heap.size m (w.heap.size + 1) 0 1099511627776 w1.heap.size 0 2147483648 W)
    (first | exact HK3.out.drew.cells | exact (HK3.out.drew.more hb4).cells) (first
    | (go_at_call 26; refine (clos_any _ _ 0 1099511627776 _ _ ?_ ?_).mono ?_; (first | exact HK3.out.drew.one.a0 | exact (HK3.out.drew.more hb4).one.a0); (first | exact HK3.out.drew.one.a1 | exact (HK3.out.drew.more hb4).one.a1); rintro e w4 ⟨rfl, rfl⟩; rw [HT.out])
    | (go_at_call 17; refine (between_any _ _ _).mono ?_; rintro e w4 ⟨rfl, hb4⟩; rw [HY.out]))
  clear hwr
  have HK4 := Lib.hid (HK3.out.drew.more hb4)
  have c3 := HK4.out.one.met.got
  clear hb4
  go_wp2_with fail
  all_goals
    refine (between_any _ _ _).mono ?_
    rintro e w5 ⟨rfl, hb5⟩
    rw [HZ.out]
    have HK5 := Lib.hid (HK4.out.more hb5)
    clear hb5
    go_wp2_with fail
    refine (clos_any _ _ 0 2147483648 _ _ HK5.out.a2 HK5.out.a3).mono ?_
    rintro e w6 ⟨rfl, rfl⟩
    go_wp2_with fail
    go_ret
    exact ⟨ret_int (by rw [HA.out]; refine (clamp_age (by omega)).trans ?_; unfold atMost; (repeat' split) <;> omega), HK5.out.one.bel⟩
end Go.Proofs.YtbignmccpbccoaaDoor.Fh
