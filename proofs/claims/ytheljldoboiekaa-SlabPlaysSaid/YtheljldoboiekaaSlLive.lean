/-
  The reference's Live beside the plain arena. Condition: they are related ahead.
-/
import Derived.Test.YtheljldoboiekaaSlOps
namespace Go.Proofs.Ytheljldoboiekaa.Sl
open Go.RowKit Go.Proofs.Ytheljldoboiekaa.Fd
set_option maxRecDepth 100000
set_option linter.unusedVariables false
set_option linter.unusedSimpArgs false

def isLive (c : Int) (r : RB) : Bool := decide ((r.c : Int) = c) && r.held != 0
theorem live_step (c : Int) (L : List RQ) (k : Nat) (h : k < L.length) : ((rbs L).take (k + 1)).countP (isLive c) = ((rbs L).take k).countP (isLive c) + if isLive c L[k].1 then 1 else 0 := by
  have hl : k < (rbs L).length := by rw [rbs_length]; exact h
  rw [List.take_succ_eq_append_getElem hl, List.countP_append, rbs_at L k h, List.countP_cons, List.countP_nil, Nat.zero_add]
theorem live_le (c : Int) (L : List RQ) (k : Nat) : ((rbs L).take k).countP (isLive c) ≤ L.length := by
  have h1 := List.countP_le_length (p := isLive c) (l := (rbs L).take k)
  rw [List.length_take, rbs_length] at h1
  omega
set_option maxHeartbeats 4000000 in
theorem live_any {base p : Nat} {n : Nat → Nat} {A : Ar} {G : Nat} (c : Int) (w : World) (h : RRel w base p n A G) :
    Calls Try.prog 25 #[.pointer (some ⟨p, 0, none⟩), .int .i64 c] w fun e w' => e = .returned (.int .i64 (liveA A c)) ∧ w = w' := by
  obtain ⟨L, v, hA, hR, hlen, hbd⟩ := h.it
  obtain ⟨a, cap, hv⟩ := hA.form
  have hc4 := hA.arenaV
  rw [hv] at hc4
  have HE := Lib.hid (fun k hk => RAt.entry hA (k := k) hk)
  have HV := Lib.hid hv
  have HL := Lib.hid (show liveA A c = (((rbs L).countP (isLive c) : Nat) : Int) from hR.live_eq c)
  have hsm := h.small
  have hLs : L.length ≤ 1099511627776 := by omega
  clear h hv hA hR hbd
  go_enter Try.func25, Try.ntmps25
  go_wp2_with fail
  go_loop [5, 6] (fun m v => ∃ k : Nat, k ≤ L.length ∧ v = .int .i64 (k : Int) ∧ m = .int .i64 ((((rbs L).take k).countP (isLive c) : Nat) : Int)) (fun _ v => L.length - (intOf v).toNat)
  case atStart => exact ⟨0, Nat.zero_le _, rfl, rfl⟩
  case round =>
    obtain ⟨k, hk, rfl, rfl⟩ := hrel
    have hle := live_le c L k
    by_cases hlt : k < L.length
    · obtain ⟨g, cap', hv', _, _, hcell, _⟩ := HE.out k hlt
      rw [HV.out] at hv'
      injection hv' with e1 e2 e3
      subst e1 e3
      have d0 := hcell 0 (by decide)
      have d3 := hcell 3 (by decide)
      have HS := Lib.hid (live_step c L k hlt)
      generalize ((rbs L).take k).countP (isLive c) = N at HS hle ⊢
      generalize L[k] = x at d0 d3 HS
      replace d0 : w.cell? ⟨g, k * 5, none⟩ = some (.int .i64 (x.1.c : Int)) := d0
      replace d3 : w.cell? ⟨g, k * 5 + 3, none⟩ = some (.int .i64 (x.1.held : Int)) := d3
      clear hcell
      by_cases h1 : (x.1.c : Int) = c
      · have b1 : ((x.1.c : Int) == c) = true := by rw [beq_iff_eq]; exact h1
        by_cases h2 : x.1.held = 0
        · have b2 : ¬ (0 : Int) < (x.1.held : Int) := by omega
          have HN := Lib.hid (show ((rbs L).take (k + 1)).countP (isLive c) = N from by rw [HS.out, if_neg (by unfold isLive; simp [h2])]; rfl)
          clear h1 h2 HS
          go_wp2_with fail
          go_round
          case rel => exact ⟨k + 1, by omega, by go_num, by rw [HN.out]⟩
          case measure => simp [intOf]; omega
        · have b2 : (0 : Int) < (x.1.held : Int) := by omega
          have HN := Lib.hid (show ((rbs L).take (k + 1)).countP (isLive c) = N + 1 from by rw [HS.out, if_pos (by unfold isLive; rw [decide_eq_true h1]; simpa using h2)])
          clear h1 h2 HS
          go_wp2_with fail
          go_round
          case rel => exact ⟨k + 1, by omega, by go_num, by rw [HN.out]; go_num⟩
          case measure => simp [intOf]; omega
      · have b1 : ((x.1.c : Int) == c) = false := by rw [beq_eq_false_iff_ne]; exact h1
        have HN := Lib.hid (show ((rbs L).take (k + 1)).countP (isLive c) = N from by rw [HS.out, if_neg (by unfold isLive; rw [decide_eq_false h1]; simp)]; rfl)
        clear h1 HS
        go_wp2_with fail
        go_round
        case rel => exact ⟨k + 1, by omega, by go_num, by rw [HN.out]⟩
        case measure => simp [intOf]; omega
    · have HP := Lib.hid (show liveA A c = ((((rbs L).take k).countP (isLive c) : Nat) : Int) from by rw [HL.out, List.take_of_length_le (by rw [rbs_length]; omega)])
      clear HE
      go_wp2_with fail
      go_ret
      exact ⟨by rw [HP.out]; rfl, rfl⟩
end Go.Proofs.Ytheljldoboiekaa.Sl
