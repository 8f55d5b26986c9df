/-
  gatepostref09's cut, less, atMost, Heuristic and Age, Lifetime: what each returns. No condition but what each states.
-/
import Derived.Test.YtbignmccpbccoaaDoorFhClos
namespace Go.Proofs.YtbignmccpbccoaaDoor.Fh
open Go.RowKit Go.Proofs.YtbignmccpbccoaaDoor.Ct Go.Proofs.YtbignmccpbccoaaDoor.Fd
set_option linter.unusedVariables false

theorem rcut_any (n : Int) (w : World) : Calls Tryd.prog 19 #[.int .i64 n] w fun e w' => e = .returned (.int .i64 (cutT n)) ∧ w = w' := by
  go_enter Tryd.func19, Tryd.ntmps19
  go_wp2_with fail
  all_goals
    go_ret
    exact ⟨ret_int (by unfold cutT mostT; split <;> omega), rfl⟩
theorem rmost_any (n m : Int) (w : World) : Calls Tryd.prog 20 #[.int .i64 n, .int .i64 m] w fun e w' => e = .returned (.int .i64 (atMost n m)) ∧ w = w' := by
  go_enter Tryd.func20, Tryd.ntmps20
  go_wp2_with fail
  all_goals
    go_ret
    exact ⟨ret_int (by unfold atMost; split <;> omega), rfl⟩
set_option maxHeartbeats 1000000 in
theorem rless_any (a b : Int) (w : World) : Calls Tryd.prog 18 #[.int .i64 a, .int .i64 b] w fun e w' => e = .returned (.int .i64 (lessT a b)) ∧ w = w' := by
  obtain ⟨L, hL⟩ : ∃ L, lessT a b = L := ⟨_, rfl⟩
  obtain ⟨x, hx⟩ : ∃ x, cutT a = x := ⟨_, rfl⟩
  obtain ⟨y, hy⟩ : ∃ y, cutT b = y := ⟨_, rfl⟩
  have HX := Lib.hid hx
  have HY := Lib.hid hy
  by_cases ha : a < 0
  · have HL := Lib.hid (show L = 0 from by rw [← hL]; unfold lessT; rw [if_pos (.inl ha)])
    rw [hL]
    clear hL hx hy
    go_enter Tryd.func18, Tryd.ntmps18
    go_wp2_with fail
    go_ret
    exact ⟨ret_int (by rw [HL.out]), rfl⟩
  · by_cases hb : b < 0
    · have HL := Lib.hid (show L = 0 from by rw [← hL]; unfold lessT; rw [if_pos (.inr (.inl hb))])
      rw [hL]
      clear hL hx hy
      go_enter Tryd.func18, Tryd.ntmps18
      go_wp2_with fail
      go_ret
      exact ⟨ret_int (by rw [HL.out]), rfl⟩
    · have bx : 0 ≤ x ∧ x ≤ 1099511627776 := by rw [← hx]; exact cutT_bd (by omega)
      have cy : 0 ≤ y ∧ y ≤ 1099511627776 := by rw [← hy]; exact cutT_bd (by omega)
      have HL := Lib.hid (show L = if x < y then 0 else x - y from by
        rw [← hL]; unfold lessT; rw [hx, hy]
        by_cases h : x < y
        · rw [if_pos (.inr (.inr h)), if_pos h]
        · rw [if_neg (by omega), if_neg h])
      rw [hL]
      clear hL hx hy
      go_enter Tryd.func18, Tryd.ntmps18
      go_wp2_with (go_at_call 19; refine (rcut_any _ _).mono ?_; rintro e w2 ⟨rfl, rfl⟩; first | rw [HX.out] | rw [HY.out])
      go_outline
      all_goals
        go_ret
        exact ⟨ret_int (by rw [HL.out]; split <;> omega), rfl⟩

theorem rheur_any (n : Int) (w : World) : Calls Tryd.prog 15 #[.int .i64 n] w fun e w' => e = .returned (.bool (heurOf n)) ∧ w = w' := by
  by_cases h : heurOf n = true
  · have hn : n = 200 ∨ n = 203 ∨ n = 204 ∨ n = 206 ∨ n = 300 ∨ n = 301 ∨ n = 308 ∨ n = 404 ∨ n = 405 ∨ n = 410 ∨ n = 414 ∨ n = 501 := by
      simpa [heurOf, codes] using h
    clear h
    rcases hn with rfl | rfl | rfl | rfl | rfl | rfl | rfl | rfl | rfl | rfl | rfl | rfl
    all_goals
      go_enter Tryd.func15, Tryd.ntmps15
      go_wp2_with fail
      go_ret
      exact ⟨rfl, rfl⟩
  · have hf : heurOf n = false := by cases hc : heurOf n <;> simp_all
    have hn : n ≠ 200 ∧ n ≠ 203 ∧ n ≠ 204 ∧ n ≠ 206 ∧ n ≠ 300 ∧ n ≠ 301 ∧ n ≠ 308 ∧ n ≠ 404 ∧ n ≠ 405 ∧ n ≠ 410 ∧ n ≠ 414 ∧ n ≠ 501 := by
      simpa [heurOf, codes] using h
    obtain ⟨h1, h2, h3, h4, h5, h6, h7, h8, h9, h10, h11, h12⟩ := hn
    have HF := Lib.hid hf
    have e1 : (n == 200) = false := beq_eq_false_iff_ne.2 h1
    have e2 : (n == 203) = false := beq_eq_false_iff_ne.2 h2
    have e3 : (n == 204) = false := beq_eq_false_iff_ne.2 h3
    have e4 : (n == 206) = false := beq_eq_false_iff_ne.2 h4
    have e5 : (n == 300) = false := beq_eq_false_iff_ne.2 h5
    have e6 : (n == 301) = false := beq_eq_false_iff_ne.2 h6
    have e7 : (n == 308) = false := beq_eq_false_iff_ne.2 h7
    have e8 : (n == 404) = false := beq_eq_false_iff_ne.2 h8
    have e9 : (n == 405) = false := beq_eq_false_iff_ne.2 h9
    have e10 : (n == 410) = false := beq_eq_false_iff_ne.2 h10
    have e11 : (n == 414) = false := beq_eq_false_iff_ne.2 h11
    have e12 : (n == 501) = false := beq_eq_false_iff_ne.2 h12
    clear h hf h1 h2 h3 h4 h5 h6 h7 h8 h9 h10 h11 h12
    go_enter Tryd.func15, Tryd.ntmps15
    go_wp2_with fail
    go_ret
    exact ⟨by rw [HF.out]; rfl, rfl⟩
end Go.Proofs.YtbignmccpbccoaaDoor.Fh
