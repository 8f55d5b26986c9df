/-
  The reference's Size and Same: what each returns. Condition: at most 2^63 spans.
-/
import Derived.Test.YtifceaffglomaaaSpRefVal
import Derived.Deep.DeepCutAuto
namespace Go.Proofs.Ytifceaffglomaaa.Sn
open Go.RowKit Go.Proofs.Ytifceaffglomaaa.Fd
set_option maxRecDepth 100000
set_option linter.unusedVariables false

set_option maxHeartbeats 4000000 in
theorem rsize_any (v : Value) (l : List Sp) (w : World) (h : Spans w v l) (hl : l.length ≤ 9223372036854775807) :
    Calls Try.prog 18 #[v] w fun e w' => e = .returned (.int .i64 (sizeB l)) ∧ Below w.heap.size w w' := by
  cases hv : validB l with
  | false =>
    have HE := Lib.hid (show sizeB l = 0 from by simp [sizeB, hv])
    have hpos : 0 < l.length := by
      cases l with
      | nil => simp [validB, goodB] at hv
      | cons s r => simp
    obtain ⟨a, cap, rfl⟩ := h.shape
    have HP := Lib.hid h
    have HV := Lib.hid hv
    clear h hv
    go_enter Try.func18, Try.ntmps18
    go_wp2_with fail
    refine wp_loop_rounds 1 ?_
    rw [rounds_succ]
    go_wp2_with fail
    refine (rvalid_any _ l _ HP.out hl).mono ?_
    rintro e w1 ⟨rfl, hb1⟩
    rw [HV.out]
    go_wp2_with fail
    go_ret
    exact ⟨by rw [HE.out]; rfl, hb1⟩
  | true =>
    have HE := Lib.hid (show sizeB l = size l from by simp [sizeB, hv])
    have HVB := Lib.hid hv
    have HV := Lib.hid ((validB_iff l).1 hv)
    clear hv
    rcases h with ⟨rfl, a', cap', rfl⟩ | ⟨b, off, cap', rfl, hc, hm, hlt, hs⟩
    · go_enter Try.func18, Try.ntmps18
      go_wp2_with fail
      refine wp_loop_rounds 1 ?_
      rw [rounds_succ]
      go_wp2_with fail
      go_ret
      exact ⟨rfl, Below.refl _ _⟩
    · have HP := Lib.hid (SAt.spans hs rfl hc hm hlt)
      have HS := Lib.hid hs
      have hlen := HV.out.len
      clear hs hc hm
      go_enter Try.func18, Try.ntmps18
      go_wp2_with fail
      go_loopw [3, 4] (fun m i wr => ∃ (k : Nat) (z : Int), k ≤ l.length ∧ i = .int .i64 (k : Int) ∧ m = .int .i64 z ∧ 0 ≤ z ∧ size l = z + size (l.drop k) ∧ Below w.heap.size w wr) (fun _ i _ => l.length - (intOf i).toNat)
      case atStart => exact ⟨0, 0, Nat.zero_le _, rfl, rfl, Int.le_refl _, by simp, Below.refl _ _⟩
      case round =>
        obtain ⟨k, z, hk, rfl, rfl, hz, hg, hB⟩ := hrel
        have HG := Lib.hid hg
        have hsz := hB.size
        clear hg
        by_cases hlt2 : k < l.length
        · have hd := drop_cons l k hlt2
          have hx1 := good_low HV.out.good l[k] (List.getElem_mem _)
          have hx2 := HV.out.top l[k] (List.getElem_mem _)
          unfold mostB at hx2
          have hsum : size l ≤ 1048577 := by have := size_most HV.out.good HV.out.top (by unfold mostB; omega); unfold mostB at this; omega
          obtain ⟨c, _, hgd⟩ := HV.out.good.drop (k + 1)
          have hrest := size_nonneg hgd
          obtain ⟨x, hx⟩ : ∃ x, x = l[k].1 := ⟨_, rfl⟩
          obtain ⟨y, hy⟩ : ∃ y, y = l[k].2 := ⟨_, rfl⟩
          have HC := Lib.hid (show ∀ V, Below w.heap.size w V → V.cell? ⟨b, off + k * 2, none⟩ = some (.int .i64 x) ∧ V.cell? ⟨b, off + k * 2 + 1, none⟩ = some (.int .i64 y) from fun V hV =>
            ⟨by rw [hx]; exact (hV.cell (p := ⟨b, off + k * 2, none⟩) hlt).trans (HS.out k hlt2).1, by rw [hy]; exact (hV.cell (p := ⟨b, off + k * 2 + 1, none⟩) hlt).trans (HS.out k hlt2).2⟩)
          rw [show l[k] = (l[k].1, l[k].2) from rfl, ← hx, ← hy] at hd
          rw [← hx] at hx1
          rw [← hy] at hx1 hx2
          rw [hd, size_cons] at HG
          have hg := HG.out
          dsimp only at hg
          have hz2 : z + (y - x) ≤ 1048577 := by omega
          have hz3 : z + y - x = z + (y - x) := by omega
          have HN := Lib.hid (show size l = z + (y - x) + size (l.drop (k + 1)) from by omega)
          clear hx hy hd hg hrest hgd hsum
          go_wp2_with fail
          refine (rvalid_any _ l _ (HP.out.next hB) (by omega)).mono ?_
          rintro e w1 ⟨rfl, hb1⟩
          rw [HVB.out]
          have hB1 := hB.trans (hb1.mono hsz)
          obtain ⟨c0, c1⟩ := HC.out w1 hB1
          clear hb1
          go_wp2_with fail
          go_region
          all_goals go_wp2_with fail
          all_goals go_roundw
          case rel => exact ⟨k + 1, z + (y - x), by omega, by go_num, by first | go_num | (rw [hz3]), by omega, HN.out, by first | exact hB1.drew | exact hB1⟩
          case measure => simp [intOf]; omega
        · have HN := Lib.hid (show sizeB l = z from by rw [HE.out, HG.out, List.drop_of_length_le (by omega)]; simp [size])
          go_wp2_with fail
          go_ret
          exact ⟨by rw [HN.out]; rfl, hB⟩

set_option maxHeartbeats 4000000 in
theorem rsame_any (v u : Value) (l m : List Sp) (w : World) (h : Spans w v l) (hu : Spans w u m) (hl : l.length ≤ 9223372036854775807) (hm : m.length ≤ 9223372036854775807) :
    Calls Try.prog 14 #[v, u] w fun e w' => e = .returned (.bool (decide (l = m))) ∧ Below w.heap.size w w' := by
  by_cases hlen : l.length = m.length
  · rcases h with ⟨rfl, a, cap, rfl⟩ | ⟨b, off, cap, rfl, _, _, hlt, hs⟩
    · obtain rfl : m = [] := List.length_eq_zero_iff.1 hlen.symm
      obtain ⟨a', cap', rfl⟩ := hu.shape
      clear hu
      go_enter Try.func14, Try.ntmps14
      go_wp2_with fail
      refine wp_loop_rounds 1 ?_
      rw [rounds_succ]
      go_wp2_with fail
      go_ret
      exact ⟨rfl, Below.refl _ _⟩
    · rcases hu with ⟨rfl, a', cap', rfl⟩ | ⟨b', off', cap', rfl, _, _, hlt', hs'⟩
      · obtain rfl : l = [] := List.length_eq_zero_iff.1 hlen
        clear hs
        go_enter Try.func14, Try.ntmps14
        go_wp2_with fail
        refine wp_loop_rounds 1 ?_
        rw [rounds_succ]
        go_wp2_with fail
        go_ret
        exact ⟨rfl, Below.refl _ _⟩
      · have HS := Lib.hid hs
        have HS' := Lib.hid hs'
        have HL := Lib.hid hlen
        rw [← hlen]
        clear hs hs' hm
        have hn : l.length = m.length := hlen
        clear hlen
        obtain ⟨n, hnn⟩ : ∃ n, n = l.length := ⟨_, rfl⟩
        rw [← hnn] at hn hl
        rw [← hnn]
        have hnm : n = m.length := hn
        have HNL := Lib.hid hnn
        have HNM := Lib.hid hnm
        clear hnn hnm hn
        go_enter Try.func14, Try.ntmps14
        go_wp2_with fail
        go_loopw [5] (fun i wr => ∃ k : Nat, k ≤ n ∧ i = .int .i64 (k : Int) ∧ l.take k = m.take k ∧ Below w.heap.size w wr) (fun i _ => n - (intOf i).toNat)
        case atStart => exact ⟨0, Nat.zero_le _, rfl, rfl, Below.refl _ _⟩
        case round =>
          obtain ⟨k, hk, rfl, hg, hB⟩ := hrel
          have HG := Lib.hid hg
          clear hg
          by_cases hlt2 : k < n
          · have hkl : k < l.length := by have := HNL.out; omega
            have hkm : k < m.length := by have := HNM.out; omega
            have c0 := (hB.cell (p := ⟨b, off + k * 2, none⟩) hlt).trans (HS.out k hkl).1
            have c1 := (hB.cell (p := ⟨b, off + k * 2 + 1, none⟩) hlt).trans (HS.out k hkl).2
            have d0 := (hB.cell (p := ⟨b', off' + k * 2, none⟩) hlt').trans (HS'.out k hkm).1
            have d1 := (hB.cell (p := ⟨b', off' + k * 2 + 1, none⟩) hlt').trans (HS'.out k hkm).2
            have HX := Lib.hid (show l.take (k + 1) = l.take k ++ [(l[k].1, l[k].2)] from by rw [List.take_succ_eq_append_getElem hkl])
            have HY := Lib.hid (show m.take (k + 1) = m.take k ++ [(m[k].1, m[k].2)] from by rw [List.take_succ_eq_append_getElem hkm])
            have HNE := Lib.hid (show (l[k].1 ≠ m[k].1 ∨ l[k].2 ≠ m[k].2) → decide (l = m) = false from fun h => decide_eq_false (fun e => by subst e; rcases h with h | h <;> exact h rfl))
            generalize l[k].1 = x at c0 HX HNE
            generalize l[k].2 = y at c1 HX HNE
            generalize m[k].1 = p at d0 HY HNE
            generalize m[k].2 = q at d1 HY HNE
            by_cases h1 : x = p
            · subst h1
              by_cases h2 : y = q
              · subst h2
                go_upto_region 6 with fail
                go_region
                all_goals go_wp2_with fail
                all_goals go_roundw
                case rel => exact ⟨k + 1, by omega, by go_num, by rw [HX.out, HY.out, HG.out], hB.drew⟩
                case measure => simp [intOf]; omega
              · have h2b : (y == q) = false := by rw [beq_eq_false_iff_ne]; exact h2
                have HN := Lib.hid (HNE.out (.inr h2))
                go_upto_region 6 with fail
                go_region
                all_goals go_wp2_with fail
                all_goals go_ret
                all_goals exact ⟨by rw [HN.out]; rfl, hB.drew⟩
            · have h1b : (x == p) = false := by rw [beq_eq_false_iff_ne]; exact h1
              have HN := Lib.hid (HNE.out (.inl h1))
              go_upto_region 6 with fail
              go_region
              all_goals go_wp2_with fail
              all_goals go_ret
              all_goals exact ⟨by rw [HN.out]; rfl, hB.drew⟩
          · have HN := Lib.hid (show decide (l = m) = true from decide_eq_true (by have := HG.out; rw [List.take_of_length_le (by have := HNL.out; omega), List.take_of_length_le (by have := HNM.out; omega)] at this; exact this))
            go_wp2_with fail
            go_ret
            exact ⟨by rw [HN.out]; rfl, hB⟩
  · have HV := Lib.hid (show decide (l = m) = false from decide_eq_false (fun e => hlen (by rw [e])))
    obtain ⟨a, cap, rfl⟩ := h.shape
    obtain ⟨a', cap', rfl⟩ := hu.shape
    clear h hu
    have hne : ((l.length : Int) == (m.length : Int)) = false := by rw [beq_eq_false_iff_ne]; omega
    go_enter Try.func14, Try.ntmps14
    go_wp2_with fail
    go_ret
    exact ⟨by rw [HV.out]; rfl, Below.refl _ _⟩
end Go.Proofs.Ytifceaffglomaaa.Sn
