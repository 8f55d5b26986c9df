/-
  The program's searches in Alloc: what each returns. Condition: rows of at most 4096 blocks.
-/
import Derived.Test.YtheljldoboiekaaSlPFn
namespace Go.Proofs.Ytheljldoboiekaa.Sl
open Go.RowKit Go.Proofs.Ytheljldoboiekaa.Fd
set_option maxRecDepth 100000
set_option linter.unusedVariables false
set_option linter.unusedSimpArgs false

theorem freeAt_step : ∀ (l : List Blk) (k : Nat), k ≤ freeAt l → ∀ h : k < l.length, l[k].held ≠ 0 → k + 1 ≤ freeAt l
  | [], k, _, h, _ => absurd h (by simp)
  | r :: l, 0, _, _, hc => by
    have hc : r.held ≠ 0 := hc
    unfold freeAt; rw [if_neg hc]; omega
  | r :: l, k + 1, h0, h, hc => by
    unfold freeAt at h0 ⊢
    split at h0
    · omega
    · rename_i hd
      rw [if_neg hd]
      have := freeAt_step l k (by omega) (by simpa using h) hc
      omega
theorem freeAt_here (l : List Blk) (k : Nat) (hk : k ≤ freeAt l) (h : k < l.length) (h0 : l[k].held = 0) : freeAt l = k := by
  rcases Nat.lt_or_ge k (freeAt l) with h1 | h1
  · exact absurd h0 (freeAt_below l k h1)
  · omega
/-- The first free place, or -1. -/
def freeI (l : List Blk) : Int := if freeAt l < l.length then freeAt l else -1
def cloF : Value := .func (.func 36) #[] #[]
set_option maxHeartbeats 4000000 in
theorem firstB_any (g c : Nat) (q : Nat → Option Nat) (l : List Blk) (cur : Array Value) (w : World) (hg : w.heap[g]? = some (.cells cur 77 (0, 0))) (hr : RowP cur c q l) (hl : l.length ≤ 4096) :
    Calls Try.prog 35 #[.slice (some ⟨g, 0, none⟩) l.length l.length, .func (.func 36) #[] #[]] w fun e w' => e = .returned (.int .i64 (freeI l)) ∧ Below w.heap.size w w' := by
  have hgl := block_lt hg
  have HC := Lib.hid (show ∀ j b, l[j]? = some b → ∀ t, t < 5 → w.cell? ⟨g, j * 5 + t, none⟩ = (cellsP c j b (q j))[t]? from fun j b hb t ht => by rw [Lib.cell_of_heap hg]; exact hr.is j b hb t ht)
  clear hr hg
  go_enter Try.func35, Try.ntmps35
  go_wp2_with fail
  go_loopw [9] (fun j wr => ∃ k : Nat, k ≤ l.length ∧ j = .int .i64 (k : Int) ∧ k ≤ freeAt l ∧ Below w.heap.size w wr) (fun j _ => l.length - (intOf j).toNat)
  case atStart => exact ⟨0, Nat.zero_le _, rfl, Nat.zero_le _, Below.refl _ _⟩
  case round =>
    obtain ⟨k, hk, rfl, hf, hB⟩ := hrel
    by_cases hlt : k < l.length
    · obtain ⟨b, hb⟩ : ∃ b, l[k] = b := ⟨_, rfl⟩
      have hb2 : l[k]? = some b := by rw [List.getElem?_eq_getElem hlt, hb]
      have hd := fun t ht => (hB.cell (p := ⟨g, k * 5 + t, none⟩) hgl).trans (HC.out k b hb2 t ht)
      have d0 := hd 0 (by decide)
      have d1 := hd 1 (by decide)
      have d2 := hd 2 (by decide)
      have d3 := hd 3 (by decide)
      have d4 := hd 4 (by decide)
      replace d0 : wr.cell? ⟨g, k * 5, none⟩ = some (.int .i64 (ownI c b.gen)) := d0
      replace d1 : wr.cell? ⟨g, k * 5 + 1, none⟩ = some (.int .i64 (ownI k b.gen)) := d1
      replace d2 : wr.cell? ⟨g, k * 5 + 2, none⟩ = some (.int .i64 (b.gen : Int)) := d2
      replace d3 : wr.cell? ⟨g, k * 5 + 3, none⟩ = some (.int .i64 (b.held : Int)) := d3
      replace d4 : wr.cell? ⟨g, k * 5 + 4, none⟩ = some (bytV c (q k)) := d4
      clear hd
      generalize ownI c b.gen = x0 at d0
      generalize ownI k b.gen = x1 at d1
      obtain ⟨a4, n4, hv4⟩ : ∃ a n, bytV c (q k) = .slice a n n := by
        cases q k with
        | none => exact ⟨_, _, rfl⟩
        | some z => exact ⟨_, _, rfl⟩
      rw [hv4] at d4
      clear hv4
      have HBn := Lib.hid (hB.alloc hB.size (.cells #[.int .i64 x0, .int .i64 x1, .int .i64 (b.gen : Int), .int .i64 (b.held : Int), .slice a4 n4 n4] 77))
      have hkl : k < l.length := hlt
      by_cases h0 : b.held = 0
      · have hi := freeAt_here l k hf hlt (by rw [hb]; exact h0)
        have HP := Lib.hid (show freeI l = (k : Int) from by unfold freeI; rw [hi, if_pos hlt])
        have HT := Lib.hid (show ((b.held : Int) == 0) = true from by rw [h0]; rfl)
        clear h0 hi hf hb hb2
        go_wp2_with fail
        refine (free_any _ _ _ _ _ _).mono ?_
        rintro e w2 ⟨rfl, hb2⟩
        have HB2 := Lib.hid (HBn.out.trans (hb2.mono HBn.out.size))
        rw [HT.out]
        clear hb2
        go_wp2_with fail
        go_ret
        exact ⟨by rw [HP.out]; rfl, HB2.out⟩
      · have hi := freeAt_step l k hf hlt (by rw [hb]; exact h0)
        have HT := Lib.hid (show ((b.held : Int) == 0) = false from by rw [beq_eq_false_iff_ne]; omega)
        clear h0 hf hb hb2
        go_wp2_with fail
        refine (free_any _ _ _ _ _ _).mono ?_
        rintro e w2 ⟨rfl, hb2⟩
        have HB2 := Lib.hid (HBn.out.trans (hb2.mono HBn.out.size))
        rw [HT.out]
        clear hb2
        go_wp2_with fail
        go_roundw
        case rel => exact ⟨k + 1, by omega, by go_num, hi, HB2.out⟩
        case measure => simp [intOf]; omega
    · have HP := Lib.hid (show freeI l = -1 from by unfold freeI; rw [if_neg (by omega)])
      clear hf
      go_wp2_with fail
      go_ret
      exact ⟨by rw [HP.out]; rfl, hB⟩
/-- The least class that has so many bytes, or -1. -/
def classI (n : Int) : Int := if n ≤ 64 then 0 else if n ≤ 256 then 1 else if n ≤ 1024 then 2 else if n ≤ 4096 then 3 else -1
set_option maxHeartbeats 4000000 in
theorem firstC_any (p g : Nat) (gs ns : Nat → Nat) (n : Int) (w : World) (hp : w.heap[p]? = some (.cells (arenaV gs ns) 59 (0, 0))) (hg : w.cell? ⟨g, 0, none⟩ = some (.int .i64 n)) (hgl : g < w.heap.size) :
    Calls Try.prog 33 #[.slice (some ⟨p, 0, none⟩) 4 4, .func (.func 34) #[] #[.pointer (some ⟨g, 0, none⟩)]] w fun e w' => e = .returned (.int .i64 (classI n)) ∧ Below w.heap.size w w' := by
  have hpl := block_lt hp
  have HC := Lib.hid (show ∀ k, k < 4 → ∃ a n, w.cell? ⟨p, k * 2, none⟩ = some (.int .i64 (sizeC k : Int)) ∧ w.cell? ⟨p, k * 2 + 1, none⟩ = some (.slice a n n) from fun k hk => by
    rw [Lib.cell_of_heap hp, Lib.cell_of_heap hp]
    rcases (by omega : k = 0 ∨ k = 1 ∨ k = 2 ∨ k = 3) with rfl | rfl | rfl | rfl <;> exact ⟨_, _, rfl, rfl⟩)
  have HG := Lib.hid hg
  clear hp hg
  go_enter Try.func33, Try.ntmps33
  go_wp2_with fail
  go_loopw [9] (fun j wr => ∃ k : Nat, k ≤ 4 ∧ j = .int .i64 (k : Int) ∧ (∀ i, i < k → (sizeC i : Int) < n) ∧ Below w.heap.size w wr) (fun j _ => 4 - (intOf j).toNat)
  case atStart => exact ⟨0, Nat.zero_le _, rfl, fun i hi => by omega, Below.refl _ _⟩
  case round =>
    obtain ⟨k, hk, rfl, hf, hB⟩ := hrel
    by_cases hlt : k < 4
    · obtain ⟨a4, n4, d0, d1⟩ := HC.out k hlt
      replace d0 := (hB.cell (p := ⟨p, k * 2, none⟩) hpl).trans d0
      replace d1 := (hB.cell (p := ⟨p, k * 2 + 1, none⟩) hpl).trans d1
      have HBn := Lib.hid (hB.alloc hB.size (.cells #[.int .i64 (sizeC k : Int), .slice a4 n4 n4] 56))
      have HGn := Lib.hid ((HBn.out.cell (p := ⟨g, 0, none⟩) hgl).trans HG.out)
      have HGl := Lib.hid (Nat.lt_of_lt_of_le hgl HBn.out.size)
      have HS : ∃ S, S = sizeC k := ⟨_, rfl⟩
      obtain ⟨S, hS⟩ := HS
      rw [← hS] at d0 HBn HGn HGl
      by_cases h0 : n ≤ (S : Int)
      · have HP := Lib.hid (show classI n = (k : Int) from by
          have h1 := hf
          unfold classI
          rcases (by omega : k = 0 ∨ k = 1 ∨ k = 2 ∨ k = 3) with rfl | rfl | rfl | rfl
          · simp only [sizeC] at hS; rw [if_pos (by omega)]; rfl
          · have := h1 0 (by omega); simp only [sizeC] at hS this; rw [if_neg (by omega), if_pos (by omega)]; rfl
          · have := h1 1 (by omega); simp only [sizeC] at hS this; rw [if_neg (by omega), if_neg (by omega), if_pos (by omega)]; rfl
          · have := h1 2 (by omega); simp only [sizeC] at hS this; rw [if_neg (by omega), if_neg (by omega), if_neg (by omega), if_pos (by omega)]; rfl)
        have HT := Lib.hid (decide_eq_true h0)
        clear h0 hf hS
        go_wp2_with fail
        refine (fitc_any _ n _ _ _ HGl.out HGn.out).mono ?_
        rintro e w2 ⟨rfl, hb2⟩
        have HB2 := Lib.hid (HBn.out.trans (hb2.mono HBn.out.size))
        rw [HT.out]
        clear hb2
        go_wp2_with fail
        go_ret
        exact ⟨by rw [HP.out]; rfl, HB2.out⟩
      · have hi : ∀ i, i < k + 1 → (sizeC i : Int) < n := fun i hi => by
          by_cases e : i = k
          · subst e; rw [← hS]; omega
          · exact hf i (by omega)
        have HI := Lib.hid hi
        have HT := Lib.hid (decide_eq_false h0)
        clear h0 hf hS hi
        go_wp2_with fail
        refine (fitc_any _ n _ _ _ HGl.out HGn.out).mono ?_
        rintro e w2 ⟨rfl, hb2⟩
        have HB2 := Lib.hid (HBn.out.trans (hb2.mono HBn.out.size))
        rw [HT.out]
        clear hb2
        go_wp2_with fail
        go_roundw
        case rel => exact ⟨k + 1, by omega, by go_num, HI.out, HB2.out⟩
        case measure => simp [intOf]; omega
    · have HP := Lib.hid (show classI n = -1 from by
        have := hf 0 (by omega); have := hf 1 (by omega); have := hf 2 (by omega); have := hf 3 (by omega)
        simp only [sizeC] at *
        unfold classI
        rw [if_neg (by omega), if_neg (by omega), if_neg (by omega), if_neg (by omega)])
      clear hf
      go_wp2_with fail
      go_ret
      exact ⟨by rw [HP.out]; rfl, hB⟩
end Go.Proofs.Ytheljldoboiekaa.Sl
