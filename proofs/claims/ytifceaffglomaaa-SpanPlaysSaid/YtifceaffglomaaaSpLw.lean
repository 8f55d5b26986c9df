/-
  The laws' own inside and sum: what each returns. Conditions: at most 2^63 spans; of sum: spans that rise, up to 2^20.
-/
import Derived.Test.YtifceaffglomaaaSpFn
import Derived.Deep.DeepCutAuto
namespace Go.Proofs.Ytifceaffglomaaa.Sn
open Go.RowKit Go.Proofs.Ytifceaffglomaaa.Fd
set_option maxRecDepth 100000
set_option linter.unusedVariables false

theorem memB_cons (s : Sp) (r : List Sp) (z : Int) : memB (s :: r) z = (decide (s.1 ≤ z ∧ z < s.2) || memB r z) := by simp [memB]
set_option maxHeartbeats 4000000 in
theorem inside_any (v : Value) (l : List Sp) (z : Int) (w : World) (h : Spans w v l) (hl : l.length ≤ 9223372036854775807) :
    Calls Try.prog 24 #[v, .int .i64 z] w fun e w' => e = .returned (.bool (memB l z)) ∧ w' = w := by
  rcases h with ⟨rfl, a, cap, rfl⟩ | ⟨b, off, cap, rfl, _, _, hlt, hs⟩
  · go_enter Try.func24, Try.ntmps24
    go_wp2_with fail
    refine wp_loop_rounds 1 ?_
    rw [rounds_succ]
    go_wp2_with fail
    go_ret
    exact ⟨rfl, rfl⟩
  · have HS := Lib.hid hs
    clear hs
    go_enter Try.func24, Try.ntmps24
    go_wp2_with fail
    go_loopw [5] (fun i wr => ∃ k : Nat, k ≤ l.length ∧ i = .int .i64 (k : Int) ∧ memB l z = memB (l.drop k) z ∧ wr = w) (fun i _ => l.length - (intOf i).toNat)
    case atStart => exact ⟨0, Nat.zero_le _, rfl, rfl, rfl⟩
    case round =>
      obtain ⟨k, hk, rfl, hg, hwr⟩ := hrel
      have hwr := hwr.symm
      subst hwr
      have HG := Lib.hid hg
      clear hg
      by_cases hlt2 : k < l.length
      · have hd := drop_cons l k hlt2
        have c0 := (HS.out k hlt2).1
        have c1 := (HS.out k hlt2).2
        obtain ⟨x, hx⟩ : ∃ x, x = l[k].1 := ⟨_, rfl⟩
        obtain ⟨y, hy⟩ : ∃ y, y = l[k].2 := ⟨_, rfl⟩
        rw [show l[k] = (l[k].1, l[k].2) from rfl, ← hx, ← hy] at hd
        rw [← hx] at c0
        rw [← hy] at c1
        rw [hd, memB_cons] at HG
        clear hx hy hd
        by_cases h1 : x ≤ z
        · by_cases h2 : z < y
          · have HN := Lib.hid (show memB l z = true from by rw [HG.out]; simp [h1, h2])
            go_wp2_with fail
            go_ret
            exact ⟨by rw [HN.out]; rfl, rfl⟩
          · have HN := Lib.hid (show memB l z = memB (l.drop (k + 1)) z from by rw [HG.out]; simp [h2])
            go_wp2_with fail
            go_roundw
            case rel => exact ⟨k + 1, by omega, by go_num, HN.out, trivial⟩
            case measure => simp [intOf]; omega
        · have HN := Lib.hid (show memB l z = memB (l.drop (k + 1)) z from by rw [HG.out]; simp [h1])
          go_wp2_with fail
          go_roundw
          case rel => exact ⟨k + 1, by omega, by go_num, HN.out, trivial⟩
          case measure => simp [intOf]; omega
      · have HN := Lib.hid (show memB l z = false from by rw [HG.out, List.drop_of_length_le (by omega)]; rfl)
        go_wp2_with fail
        go_ret
        exact ⟨by rw [HN.out]; rfl, rfl⟩
set_option maxHeartbeats 4000000 in
theorem sum_any (v : Value) (l : List Sp) (c : Int) (w : World) (h : Spans w v l) (hl : l.length ≤ 9223372036854775807) (hg : Good c l) (hc : -1 ≤ c) (ht : ∀ s ∈ l, s.2 ≤ 1048576) :
    Calls Try.prog 23 #[v] w fun e w' => e = .returned (.int .i64 (size l)) ∧ Below w.heap.size w w' := by
  rcases h with ⟨rfl, a, cap, rfl⟩ | ⟨b, off, cap, rfl, _, _, hlt, hs⟩
  · go_enter Try.func23, Try.ntmps23
    go_wp2_with fail
    refine wp_loop_rounds 1 ?_
    rw [rounds_succ]
    go_wp2_with fail
    go_ret
    exact ⟨rfl, Below.refl _ _⟩
  · have HS := Lib.hid hs
    have HGD := Lib.hid hg
    have HT := Lib.hid ht
    clear hs hg ht
    go_enter Try.func23, Try.ntmps23
    go_wp2_with fail
    go_loopw [3, 4] (fun m i wr => ∃ (k : Nat) (z : Int), k ≤ l.length ∧ i = .int .i64 (k : Int) ∧ m = .int .i64 z ∧ 0 ≤ z ∧ size l = z + size (l.drop k) ∧ Below w.heap.size w wr) (fun _ i _ => l.length - (intOf i).toNat)
    case atStart => exact ⟨0, 0, Nat.zero_le _, rfl, rfl, Int.le_refl _, by simp, Below.refl _ _⟩
    case round =>
      obtain ⟨k, z, hk, rfl, rfl, hz, hg, hB⟩ := hrel
      have HG := Lib.hid hg
      have hsz := hB.size
      clear hg
      by_cases hlt2 : k < l.length
      · have hd := drop_cons l k hlt2
        have c0 := (hB.cell (p := ⟨b, off + k * 2, none⟩) hlt).trans (HS.out k hlt2).1
        have c1 := (hB.cell (p := ⟨b, off + k * 2 + 1, none⟩) hlt).trans (HS.out k hlt2).2
        have hx1 := good_low HGD.out l[k] (List.getElem_mem _)
        have hx2 := HT.out l[k] (List.getElem_mem _)
        have hsum : size l ≤ 1048577 := by
          by_cases hc2 : c ≤ 1048576
          · have := size_most HGD.out HT.out hc2; omega
          · omega
        obtain ⟨c', _, hgd⟩ := HGD.out.drop (k + 1)
        have hrest := size_nonneg hgd
        obtain ⟨x, hx⟩ : ∃ x, x = l[k].1 := ⟨_, rfl⟩
        obtain ⟨y, hy⟩ : ∃ y, y = l[k].2 := ⟨_, rfl⟩
        rw [show l[k] = (l[k].1, l[k].2) from rfl, ← hx, ← hy] at hd
        rw [← hx] at c0 hx1
        rw [← hy] at c1 hx1 hx2
        rw [hd, size_cons] at HG
        have hg := HG.out
        dsimp only at hg
        have hz2 : z + (y - x) ≤ 1048577 := by omega
        have hz3 : z + y - x = z + (y - x) := by omega
        have HN := Lib.hid (show size l = z + (y - x) + size (l.drop (k + 1)) from by omega)
        clear hx hy hd hg hrest hgd hsum
        go_wp2_with fail
        go_region
        all_goals go_wp2_with fail
        all_goals go_roundw
        case rel => exact ⟨k + 1, z + (y - x), by omega, by go_num, by first | go_num | (rw [hz3]), by omega, HN.out, by first | exact hB.drew | exact hB⟩
        case measure => simp [intOf]; omega
      · have HN := Lib.hid (show size l = z from by rw [HG.out, List.drop_of_length_le (by omega)]; simp [size])
        go_wp2_with fail
        go_ret
        exact ⟨by rw [HN.out]; rfl, hB⟩
end Go.Proofs.Ytifceaffglomaaa.Sn
