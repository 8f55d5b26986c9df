/-
  The reference's Sizes, find, right, Held and Live: what each returns. Condition: fewer than 2^40 blocks were taken.
-/
import Derived.Test.YtheljldoboiekaaSlRAt
namespace Go.Proofs.Ytheljldoboiekaa.Sl
open Go.RowKit Go.Proofs.Ytheljldoboiekaa.Fd
set_option maxRecDepth 100000
set_option linter.unusedVariables false
set_option linter.unusedSimpArgs false

theorem findR_step (c i : Int) : ∀ (L : List RB) (k : Nat), k ≤ findR c i L → ∀ h : k < L.length, isKey c i L[k] = false → k + 1 ≤ findR c i L
  | [], k, _, h, _ => absurd h (by simp)
  | r :: l, 0, _, _, hc => by
    have hc : isKey c i r = false := hc
    unfold findR; rw [hc]; simp
  | r :: l, k + 1, h0, h, hc => by
    unfold findR at h0 ⊢
    split at h0
    · omega
    · rename_i hd
      rw [if_neg hd]
      have := findR_step c i l k (by omega) (by simpa using h) hc
      omega
theorem findR_here (c i : Int) : ∀ (L : List RB) (k : Nat), k ≤ findR c i L → ∀ h : k < L.length, isKey c i L[k] = true → findR c i L = k
  | [], k, _, h, _ => absurd h (by simp)
  | r :: l, 0, _, _, hc => by
    have hc : isKey c i r = true := hc
    unfold findR; rw [if_pos hc]
  | r :: l, k + 1, h0, h, hc => by
    unfold findR at h0 ⊢
    split at h0
    · omega
    · rename_i hd
      rw [if_neg hd]
      have := findR_here c i l k (by omega) (by simpa using h) hc
      omega
def rbs (L : List RQ) : List RB := L.map fun x => x.1
/-- A place, or -1. -/
def placeI (c i : Int) (L : List RQ) : Int := if findR c i (rbs L) < L.length then findR c i (rbs L) else -1
theorem rbs_length (L : List RQ) : (rbs L).length = L.length := by simp [rbs]
theorem rbs_at (L : List RQ) (k : Nat) (h : k < L.length) : (rbs L)[k]'(by rw [rbs_length]; exact h) = L[k].1 := by simp [rbs]
set_option maxHeartbeats 4000000 in
theorem find_any {base p : Nat} {n : Nat → Nat} {L : List RQ} {v : Value} (c i : Int) (w : World) (h : RAt w base p n L v) (hl : L.length ≤ 1099511627776) :
    Calls Try.prog 37 #[.pointer (some ⟨p, 0, none⟩), .int .i64 c, .int .i64 i] w fun e w' => e = .returned (.int .i64 (placeI c i L)) ∧ w = w' := by
  obtain ⟨a, cap, hv⟩ := h.form
  have hc4 := h.arenaV
  rw [hv] at hc4
  have HE := Lib.hid (fun k hk => RAt.entry h (k := k) hk)
  have HV := Lib.hid hv
  clear h hv
  go_enter Try.func37, Try.ntmps37
  go_wp2_with fail
  go_loop [7] (fun v => ∃ k : Nat, k ≤ L.length ∧ v = .int .i64 (k : Int) ∧ k ≤ findR c i (rbs L)) (fun v => L.length - (intOf v).toNat)
  case atStart => exact ⟨0, Nat.zero_le _, rfl, Nat.zero_le _⟩
  case round =>
    obtain ⟨k, hk, rfl, hf⟩ := hrel
    by_cases hlt : k < L.length
    · obtain ⟨g, cap', hv', _, _, hcell, _⟩ := HE.out k hlt
      rw [HV.out] at hv'
      injection hv' with e1 e2 e3
      subst e1 e3
      have d0 := hcell 0 (by decide)
      have d1 := hcell 1 (by decide)
      obtain ⟨x, hx⟩ : ∃ x, L[k] = x := ⟨_, rfl⟩
      rw [hx] at d0 d1
      replace d0 : w.cell? ⟨g, k * 5, none⟩ = some (.int .i64 (x.1.c : Int)) := d0
      replace d1 : w.cell? ⟨g, k * 5 + 1, none⟩ = some (.int .i64 (x.1.i : Int)) := d1
      have hat := rbs_at L k hlt
      rw [hx] at hat
      have hlr : k < (rbs L).length := by rw [rbs_length]; exact hlt
      clear hcell
      by_cases h1 : (x.1.c : Int) = c
      · by_cases h2 : (x.1.i : Int) = i
        · have hi := findR_here c i (rbs L) k hf hlr (by rw [hat]; unfold isKey; rw [decide_eq_true ⟨h1, h2⟩])
          have HP := Lib.hid (show placeI c i L = (k : Int) from by unfold placeI; rw [hi, if_pos hlt])
          have b1 : ((x.1.c : Int) == c) = true := by rw [beq_iff_eq]; exact h1
          have b2 : ((x.1.i : Int) == i) = true := by rw [beq_iff_eq]; exact h2
          clear h1 h2 hi hf hat hx hlr
          go_wp2_with fail
          go_ret
          exact ⟨by rw [HP.out]; rfl, rfl⟩
        · have hi := findR_step c i (rbs L) k hf hlr (by rw [hat]; unfold isKey; rw [decide_eq_false (fun q => h2 q.2)])
          have b1 : ((x.1.c : Int) == c) = true := by rw [beq_iff_eq]; exact h1
          have b2 : ((x.1.i : Int) == i) = false := by rw [beq_eq_false_iff_ne]; exact h2
          clear h1 h2 hf hat hx hlr
          go_wp2_with fail
          go_round
          case rel => exact ⟨k + 1, by omega, by go_num, hi⟩
          case measure => simp [intOf]; omega
      · have hi := findR_step c i (rbs L) k hf hlr (by rw [hat]; unfold isKey; rw [decide_eq_false (fun q => h1 q.1)])
        have b1 : ((x.1.c : Int) == c) = false := by rw [beq_eq_false_iff_ne]; exact h1
        clear h1 hf hat hx hlr
        go_wp2_with fail
        go_round
        case rel => exact ⟨k + 1, by omega, by go_num, hi⟩
        case measure => simp [intOf]; omega
    · have HP := Lib.hid (show placeI c i L = -1 from by unfold placeI; rw [if_neg (by omega)])
      clear hf HE
      go_wp2_with fail
      go_ret
      exact ⟨by rw [HP.out]; rfl, rfl⟩
/-- A right handle's place, or -1. -/
def rightI (c i g : Int) (L : List RQ) : Int := if h : findR c i (rbs L) < L.length then (if L[findR c i (rbs L)].1.held = 0 ∨ (L[findR c i (rbs L)].1.gen : Int) ≠ g then -1 else findR c i (rbs L)) else -1
set_option maxHeartbeats 4000000 in
theorem right_any {base p : Nat} {n : Nat → Nat} {L : List RQ} {v : Value} (c i g : Int) (w : World) (h : RAt w base p n L v) (hl : L.length ≤ 1099511627776) :
    Calls Try.prog 39 #[.pointer (some ⟨p, 0, none⟩), .int .i64 c, .int .i64 i, .int .i64 g] w fun e w' => e = .returned (.int .i64 (rightI c i g L)) ∧ w = w' := by
  obtain ⟨a, cap, hv⟩ := h.form
  have hc4 := h.arenaV
  rw [hv] at hc4
  have HF := Lib.hid (find_any c i w h hl)
  by_cases hlt : findR c i (rbs L) < L.length
  · obtain ⟨b, cap', hv', _, _, hcell, _⟩ := h.entry hlt
    rw [hv] at hv'
    injection hv' with e1 e2 e3
    subst e1 e3
    have HP := Lib.hid (show placeI c i L = (findR c i (rbs L) : Int) from by unfold placeI; rw [if_pos hlt])
    have HR := Lib.hid (show rightI c i g L = if L[findR c i (rbs L)].1.held = 0 ∨ (L[findR c i (rbs L)].1.gen : Int) ≠ g then -1 else (findR c i (rbs L) : Int) from by unfold rightI; rw [dif_pos hlt])
    generalize findR c i (rbs L) = k at hlt hcell HP HR
    have d2 := hcell 2 (by decide)
    have d3 := hcell 3 (by decide)
    generalize L[k] = x at d2 d3 HR
    replace d2 : w.cell? ⟨b, k * 5 + 2, none⟩ = some (.int .i64 (x.1.gen : Int)) := d2
    replace d3 : w.cell? ⟨b, k * 5 + 3, none⟩ = some (.int .i64 (x.1.held : Int)) := d3
    rw [HP.out] at HF
    clear hcell h hv HP
    by_cases h0 : x.1.held = 0
    · have b1 : ((x.1.held : Int) == 0) = true := by rw [h0]; rfl
      replace HR := Lib.hid (show rightI c i g L = -1 from by rw [HR.out, if_pos (.inl h0)])
      clear h0
      go_enter Try.func39, Try.ntmps39
      go_wp2_with fail
      refine HF.out.mono ?_
      rintro e w1 ⟨rfl, rfl⟩
      go_wp2_with fail
      go_ret
      exact ⟨by rw [HR.out]; rfl, rfl⟩
    · have b1 : ((x.1.held : Int) == 0) = false := by rw [beq_eq_false_iff_ne]; omega
      by_cases hg : (x.1.gen : Int) = g
      · have b2 : ((x.1.gen : Int) != g) = false := by rw [hg]; simp
        replace HR := Lib.hid (show rightI c i g L = k from by rw [HR.out, if_neg (by rintro (q | q); exact h0 q; exact q hg)])
        clear h0 hg
        go_enter Try.func39, Try.ntmps39
        go_wp2_with fail
        refine HF.out.mono ?_
        rintro e w1 ⟨rfl, rfl⟩
        go_wp2_with fail
        go_ret
        exact ⟨by rw [HR.out]; rfl, rfl⟩
      · have b2 : ((x.1.gen : Int) != g) = true := by rw [bne_iff_ne]; exact hg
        replace HR := Lib.hid (show rightI c i g L = -1 from by rw [HR.out, if_pos (.inr hg)])
        clear h0 hg
        go_enter Try.func39, Try.ntmps39
        go_wp2_with fail
        refine HF.out.mono ?_
        rintro e w1 ⟨rfl, rfl⟩
        go_wp2_with fail
        go_ret
        exact ⟨by rw [HR.out]; rfl, rfl⟩
  · have HP := Lib.hid (show placeI c i L = -1 from by unfold placeI; rw [if_neg hlt])
    have HR := Lib.hid (show rightI c i g L = -1 from by unfold rightI; rw [dif_neg hlt])
    rw [HP.out] at HF
    clear h hv hlt
    go_enter Try.func39, Try.ntmps39
    go_wp2_with fail
    refine HF.out.mono ?_
    rintro e w1 ⟨rfl, rfl⟩
    go_wp2_with fail
    go_ret
    exact ⟨by rw [HR.out]; rfl, rfl⟩
end Go.Proofs.Ytheljldoboiekaa.Sl
