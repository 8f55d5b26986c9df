/-
  span.within, empty, filled, Valid and Size: what each returns. Condition: a list of at most 2^63 spans.
-/
import Derived.Test.YtifceaffglomaaaSpBase
import Derived.Test.YtifceaffglomaaaSpSets
namespace Go.Proofs.Ytifceaffglomaaa.Sn
open Go.RowKit Go.Proofs.Ytifceaffglomaaa.Fd
set_option maxRecDepth 100000
set_option linter.unusedVariables false

set_option maxHeartbeats 2000000 in
theorem within_any (x y : Int) (w : World) :
    Calls Try.prog 25 #[.agg #[.int .i64 x, .int .i64 y]] w fun e w' => e = .returned (.bool (rightB (x, y))) ∧ Below w.heap.size w w' := by
  have HB := Lib.hid ((Below.refl w.heap.size w).alloc (Nat.le_refl _) (.cells #[.int .i64 x, .int .i64 y] 24))
  by_cases h1 : 0 ≤ x
  · by_cases h2 : x ≤ y
    · by_cases h3 : y ≤ 1048576
      · have HR := Lib.hid (show rightB (x, y) = true from by simp [rightB, h1, h2, h3])
        go_enter Try.func25, Try.ntmps25
        go_wp2_with fail
        go_ret
        exact ⟨by rw [HR.out]; rfl, HB.out⟩
      · have HR := Lib.hid (show rightB (x, y) = false from by simp [rightB, h1, h2, h3])
        go_enter Try.func25, Try.ntmps25
        go_wp2_with fail
        go_ret
        exact ⟨by rw [HR.out]; rfl, HB.out⟩
    · have HR := Lib.hid (show rightB (x, y) = false from by simp [rightB, h1, h2])
      go_enter Try.func25, Try.ntmps25
      go_wp2_with fail
      go_ret
      exact ⟨by rw [HR.out]; rfl, HB.out⟩
  · have HR := Lib.hid (show rightB (x, y) = false from by simp [rightB, h1])
    go_enter Try.func25, Try.ntmps25
    go_wp2_with fail
    go_ret
    exact ⟨by rw [HR.out]; rfl, HB.out⟩

set_option maxHeartbeats 2000000 in
theorem empty_any (x y : Int) (w : World) :
    Calls Try.prog 31 #[.agg #[.int .i64 x, .int .i64 y]] w fun e w' => e = .returned (.bool (decide (x = y))) ∧ Below w.heap.size w w' := by
  have HB := Lib.hid ((Below.refl w.heap.size w).alloc (Nat.le_refl _) (.cells #[.int .i64 x, .int .i64 y] 24))
  go_enter Try.func31, Try.ntmps31
  go_wp2_with fail
  go_ret
  exact ⟨rfl, HB.out⟩

def OnePost (l : List Sp) (w : World) (e : Ending) (w' : World) : Prop := ∃ v, e = .returned v ∧ OwnS w' w.heap.size v l ∧ Below w.heap.size w w'
theorem own_one {w : World} {g : Nat} {x y : Int} {base : Nat} (hb : base ≤ g) (h : w.heap[g]? = some (.cells #[.int .i64 x, .int .i64 y] 24 (0, 0))) : OwnS w base (.slice (some ⟨g, 0, none⟩) 1 1) [(x, y)] :=
  ⟨rfl, .inr ⟨g, 1, _, rfl, hb, h, Nat.le_refl _, by unfold maxLen; omega, rfl, rfl⟩⟩
set_option maxHeartbeats 2000000 in
theorem filled_any (x y : Int) (w : World) :
    Calls Try.prog 28 #[.agg #[.int .i64 x, .int .i64 y]] w (OnePost (filledL (x, y)) w) := by
  have hb := (Below.refl w.heap.size w).alloc (Nat.le_refl _) (.cells #[.int .i64 x, .int .i64 y] 24)
  go_enter Try.func28, Try.ntmps28
  go_wp2_with fail
  refine (empty_any x y _).mono ?_
  rintro e w1 ⟨rfl, hb1⟩
  have c0 : w1.cell? ⟨w.heap.size, 0, none⟩ = some (.int .i64 x) := (hb1.cell (p := ⟨w.heap.size, 0, none⟩) (by simp)).trans (two0 (new_block w _))
  have c1 : w1.cell? ⟨w.heap.size, 1, none⟩ = some (.int .i64 y) := (hb1.cell (p := ⟨w.heap.size, 1, none⟩) (by simp)).trans (two1 (new_block w _))
  have hB := Bl.next hb hb1
  have hsz := hB.size
  clear hb hb1
  by_cases h1 : x = y
  · subst h1
    have HE := Lib.hid (show filledL (x, x) = [] from by simp [filledL])
    go_wp2_with fail
    go_ret
    exact ⟨_, rfl, by rw [HE.out]; exact OwnS.nil _ _, hB⟩
  · have HE := Lib.hid (show filledL (x, y) = [(x, y)] from by simp [filledL, h1])
    have hd : decide (x = y) = false := by simp [h1]
    rw [hd]
    have HN := Lib.hid (own_one (x := x) (y := y) hsz (new_block w1 (.cells #[.int .i64 x, .int .i64 y] 24)))
    have HB2 := Lib.hid (hB.alloc hsz (.cells #[.int .i64 x, .int .i64 y] 24))
    clear hd hB
    go_wp2_with fail
    go_ret
    exact ⟨_, rfl, by rw [HE.out]; exact HN.out, HB2.out⟩

set_option maxHeartbeats 4000000 in
theorem valid_any (v : Value) (l : List Sp) (w : World) (h : Spans w v l) (hl : l.length ≤ 9223372036854775807) :
    Calls Try.prog 12 #[v] w fun e w' => e = .returned (.bool (validB l)) ∧ Below w.heap.size w w' := by
  by_cases h32 : l.length ≤ 32
  · have HV := Lib.hid (show validB l = goodB 0 l from by simp [validB, h32])
    rcases h with ⟨rfl, a, cap, rfl⟩ | ⟨b, off, cap, rfl, hc, hm, hlt, hs⟩
    · go_enter Try.func12, Try.ntmps12
      go_wp2_with fail
      refine wp_loop_rounds 1 ?_
      rw [rounds_succ]
      go_wp2_with fail
      go_ret
      exact ⟨rfl, Below.refl _ _⟩
    · have HS := Lib.hid hs
      clear hs hc hm
      go_enter Try.func12, Try.ntmps12
      go_wp2_with fail
      go_loopw [3, 11] (fun m i wr => ∃ (k : Nat) (z : Int), k ≤ l.length ∧ i = .int .i64 (k : Int) ∧ m = .int .i64 z ∧ goodB 0 l = goodB z (l.drop k) ∧ Below w.heap.size w wr) (fun _ i _ => l.length - (intOf i).toNat)
      case atStart => exact ⟨0, 0, Nat.zero_le _, rfl, rfl, rfl, Below.refl _ _⟩
      case round =>
        obtain ⟨k, z, hk, rfl, rfl, hg, hB⟩ := hrel
        have HG := Lib.hid hg
        have hsz := hB.size
        clear hg
        by_cases hlt2 : k < l.length
        · have hd := drop_cons l k hlt2
          have c0 := (hB.cell (p := ⟨b, off + k * 2, none⟩) hlt).trans (HS.out k hlt2).1
          have c1 := (hB.cell (p := ⟨b, off + k * 2 + 1, none⟩) hlt).trans (HS.out k hlt2).2
          obtain ⟨x, hx⟩ : ∃ x, x = l[k].1 := ⟨_, rfl⟩
          obtain ⟨y, hy⟩ : ∃ y, y = l[k].2 := ⟨_, rfl⟩
          rw [show l[k] = (l[k].1, l[k].2) from rfl, ← hx, ← hy] at hd
          rw [← hx] at c0
          rw [← hy] at c1
          rw [hd] at HG
          clear hx hy hd
          go_wp2_with fail
          refine (within_any x y _).mono ?_
          rintro e w1 ⟨rfl, hb1⟩
          have d0 : w1.cell? ⟨wr.heap.size, 0, none⟩ = some (.int .i64 x) := (hb1.cell (p := ⟨wr.heap.size, 0, none⟩) (by simp)).trans (two0 (new_block wr _))
          have d1 : w1.cell? ⟨wr.heap.size, 1, none⟩ = some (.int .i64 y) := (hb1.cell (p := ⟨wr.heap.size, 1, none⟩) (by simp)).trans (two1 (new_block wr _))
          have hB1 := Bl.next (hB.alloc hsz _) hb1
          have hsz1 : wr.heap.size < w1.heap.size := by have := hb1.size; simp at this; omega
          clear hb1 c0 c1
          cases hr : rightB (x, y) with
          | false =>
            have HN := Lib.hid (show validB l = false from by rw [HV.out, HG.out]; simp [goodB, hr])
            clear hr
            go_wp2_with fail
            go_ret
            exact ⟨by rw [HN.out]; rfl, hB1⟩
          | true =>
            have HR := Lib.hid hr
            clear hr
            go_wp2_with fail
            refine (empty_any x y _).mono ?_
            rintro e w2 ⟨rfl, hb2⟩
            have e0 : w2.cell? ⟨wr.heap.size, 0, none⟩ = some (.int .i64 x) := (hb2.cell (p := ⟨wr.heap.size, 0, none⟩) hsz1).trans d0
            have e1 : w2.cell? ⟨wr.heap.size, 1, none⟩ = some (.int .i64 y) := (hb2.cell (p := ⟨wr.heap.size, 1, none⟩) hsz1).trans d1
            have hB2 := Bl.next hB1 hb2
            clear hb2 d0 d1 hB1
            by_cases h1 : x = y
            · subst h1
              have HN := Lib.hid (show validB l = false from by rw [HV.out, HG.out]; simp [goodB])
              go_wp2_with fail
              go_ret
              exact ⟨by rw [HN.out]; rfl, hB2⟩
            · have hd : decide (x = y) = false := by simp [h1]
              rw [hd]
              have hbd := (rightB_iff (x, y)).1 HR.out
              have hy1 : 0 ≤ x := hbd.low
              have hy2 : x ≤ y := hbd.le
              have hy3 : y ≤ 1048576 := by have := hbd.top; unfold mostB at this; exact this
              by_cases h2 : x < z
              · have HN := Lib.hid (show validB l = false from by rw [HV.out, HG.out]; exact goodB_stop z x y _ (.inr (.inr (by omega))))
                clear hd hbd
                go_wp2_with fail
                go_ret
                exact ⟨by rw [HN.out]; rfl, hB2⟩
              · have HN := Lib.hid (show goodB 0 l = goodB (y + 1) (l.drop (k + 1)) from by rw [HG.out]; exact goodB_step z x y _ hy1 hy2 hy3 h1 (by omega))
                clear hd hbd h1
                go_wp2_with fail
                go_roundw
                case rel => exact ⟨k + 1, y + 1, by omega, by go_num, by go_num, HN.out, hB2⟩
                case measure => simp [intOf]; omega
        · have HN := Lib.hid (show validB l = true from by rw [HV.out, HG.out, List.drop_of_length_le (by omega)]; rfl)
          go_wp2_with fail
          go_ret
          exact ⟨by rw [HN.out]; rfl, hB⟩
  · have HV := Lib.hid (show validB l = false from by simp [validB, h32])
    obtain ⟨a, cap, rfl⟩ := h.shape
    clear h
    go_enter Try.func12, Try.ntmps12
    go_wp2_with fail
    go_ret
    exact ⟨by rw [HV.out]; rfl, Below.refl _ _⟩

set_option maxHeartbeats 4000000 in
theorem size_any (v : Value) (l : List Sp) (w : World) (h : Spans w v l) (hl : l.length ≤ 9223372036854775807) :
    Calls Try.prog 17 #[v] w fun e w' => e = .returned (.int .i64 (sizeB l)) ∧ Below w.heap.size w w' := by
  obtain ⟨a, cap, rfl⟩ := h.shape
  have HP := Lib.hid h
  have HL := Lib.hid hl
  clear h hl
  go_enter Try.func17, Try.ntmps17
  go_wp2_with fail
  refine (valid_any _ l _ HP.out HL.out).mono ?_
  rintro e w1 ⟨rfl, hb1⟩
  have HP1 := HP.out.next hb1
  have hsz1 := hb1.size
  clear HP
  cases hv : validB l with
  | false =>
    have HE := Lib.hid (show sizeB l = 0 from by simp [sizeB, hv])
    clear hv
    go_wp2_with fail
    go_ret
    exact ⟨by rw [HE.out]; rfl, hb1⟩
  | true =>
    have HE := Lib.hid (show sizeB l = size l from by simp [sizeB, hv])
    have HV := Lib.hid ((validB_iff l).1 hv)
    clear hv
    rcases HP1 with ⟨rfl, a', cap', hv'⟩ | ⟨b, off, cap', hv', hc, hm, hlt, hs⟩
    · cases hv'
      go_wp2_with fail
      refine wp_loop_rounds 1 ?_
      rw [rounds_succ]
      go_wp2_with fail
      go_ret
      exact ⟨rfl, hb1⟩
    · injection hv' with e1 e2 e3
      subst e1 e3
      have HS := Lib.hid hs
      have hlen := HV.out.len
      clear hs hc hm
      go_wp2_with fail
      go_loopw [3, 11] (fun m i wr => ∃ (k : Nat) (z : Int), k ≤ l.length ∧ i = .int .i64 (k : Int) ∧ m = .int .i64 z ∧ 0 ≤ z ∧ size l = z + size (l.drop k) ∧ Below w1.heap.size w1 wr) (fun _ i _ => l.length - (intOf i).toNat)
      case atStart => exact ⟨0, 0, Nat.zero_le _, rfl, rfl, Int.le_refl _, by simp, Below.refl _ _⟩
      case round =>
        obtain ⟨k, z, hk, rfl, rfl, hz, hg, hB⟩ := hrel
        have HG := Lib.hid hg
        have hsz := hB.size
        clear hg
        have HB := Lib.hid (Bl.next hb1 hB)
        by_cases hlt2 : k < l.length
        · have hd := drop_cons l k hlt2
          have c0 := (hB.cell (p := ⟨b, off + k * 2, none⟩) hlt).trans (HS.out k hlt2).1
          have c1 := (hB.cell (p := ⟨b, off + k * 2 + 1, none⟩) hlt).trans (HS.out k hlt2).2
          have hx1 := good_low HV.out.good l[k] (List.getElem_mem _)
          have hx2 := HV.out.top l[k] (List.getElem_mem _)
          unfold mostB at hx2
          have hsum : size l ≤ 1048577 := by have := size_most HV.out.good HV.out.top (by unfold mostB; omega); unfold mostB at this; omega
          obtain ⟨c, _, hgd⟩ := HV.out.good.drop (k + 1)
          have hrest := size_nonneg hgd
          obtain ⟨x, hx⟩ : ∃ x, x = l[k].1 := ⟨_, rfl⟩
          obtain ⟨y, hy⟩ : ∃ y, y = l[k].2 := ⟨_, rfl⟩
          rw [show l[k] = (l[k].1, l[k].2) from rfl, ← hx, ← hy] at hd
          rw [← hx] at c0 hx1
          rw [← hy] at c1 hx1 hx2
          rw [hd, size_cons] at HG
          have hg := HG.out
          dsimp only at hg
          have hz2 : z + (y - x) ≤ 1048577 := by omega
          have HN := Lib.hid (show size l = z + (y - x) + size (l.drop (k + 1)) from by omega)
          clear hx hy hd hg hrest hgd hsum
          go_wp2_with fail
          go_roundw
          case rel => exact ⟨k + 1, z + (y - x), by omega, by go_num, by go_num, by omega, HN.out, hB.alloc hsz _⟩
          case measure => simp [intOf]; omega
        · have HN := Lib.hid (show sizeB l = z from by rw [HE.out, HG.out, List.drop_of_length_le (by omega)]; simp [size])
          go_wp2_with fail
          go_ret
          exact ⟨by rw [HN.out]; rfl, HB.out⟩
end Go.Proofs.Ytifceaffglomaaa.Sn
