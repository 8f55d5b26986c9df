/-
  The program's New: what it returns. No condition but numbers of an int.
-/
import Derived.Test.YtheljldoboiekaaSlPRel
import Derived.Deep.DeepCutAuto
import Derived.Deep.RegionWith
import Derived.Test.YtheljldoboiekaaRgSto
namespace Go.Proofs.Ytheljldoboiekaa.Sl
open Go.RowKit Go.Proofs.Ytheljldoboiekaa.Fd
set_option maxRecDepth 100000
set_option linter.unusedVariables false
set_option linter.unusedSimpArgs false

theorem lowC_any (n : Int) (w : World) : Calls Try.prog 28 #[.int .i64 n] w fun e w' => e = .returned (.bool (decide (n < 0))) ∧ w = w' := by
  by_cases h : n < 0
  · have HR := Lib.hid (decide_eq_true h)
    go_enter Try.func28, Try.ntmps28
    go_wp2_with fail
    go_ret
    exact ⟨by rw [HR.out]; rfl, rfl⟩
  · have HR := Lib.hid (decide_eq_false h)
    go_enter Try.func28, Try.ntmps28
    go_wp2_with fail
    go_ret
    exact ⟨by rw [HR.out]; rfl, rfl⟩
set_option maxHeartbeats 4000000 in
theorem low_any (g : Nat) (bl : Nat → Int) (w : World) (hg : ∀ k, k < 4 → w.cell? ⟨g, k, none⟩ = some (.int .i64 (bl k))) (hgl : g < w.heap.size) :
    Calls Try.prog 27 #[.slice (some ⟨g, 0, none⟩) 4 4, .func (.func 28) #[] #[]] w fun e w' => w = w' ∧
      ((e = .returned (.int .i64 (-1)) ∧ ∀ k, k < 4 → ¬ (bl k < 0)) ∨ ∃ k : Nat, k < 4 ∧ e = .returned (.int .i64 (k : Int)) ∧ bl k < 0) := by
  have HC := Lib.hid hg
  clear hg
  go_enter Try.func27, Try.ntmps27
  go_wp2_with fail
  go_loop [9] (fun j => ∃ k : Nat, k ≤ 4 ∧ j = .int .i64 (k : Int) ∧ ∀ i, i < k → ¬ (bl i < 0)) (fun j => 4 - (intOf j).toNat)
  case atStart => exact ⟨0, Nat.zero_le _, rfl, fun i hi => by omega⟩
  case round =>
    obtain ⟨k, hk, rfl, hf⟩ := hrel
    by_cases hlt : k < 4
    · have d0 := HC.out k hlt
      by_cases h0 : bl k < 0
      · have HT := Lib.hid (decide_eq_true h0)
        have H0 := Lib.hid h0
        generalize hbk : bl k = x at *
        have HX := Lib.hid hbk
        clear h0 hf hbk
        go_wp2_with fail
        refine (lowC_any _ _).mono ?_
        rintro e w2 ⟨rfl, rfl⟩
        rw [HT.out]
        go_wp2_with fail
        go_ret
        exact ⟨rfl, .inr ⟨k, hlt, rfl, by rw [HX.out]; exact H0.out⟩⟩
      · have HI := Lib.hid (show ∀ i, i < k + 1 → ¬ (bl i < 0) from fun i hi => by
          by_cases e : i = k
          · subst e; exact h0
          · exact hf i (by omega))
        have HT := Lib.hid (decide_eq_false h0)
        generalize bl k = x at d0 HT h0
        clear h0 hf
        go_wp2_with fail
        refine (lowC_any _ _).mono ?_
        rintro e w2 ⟨rfl, rfl⟩
        rw [HT.out]
        go_wp2_with fail
        go_round
        case rel => exact ⟨k + 1, by omega, by go_num, fun i hi => by have := HI.out i hi; omega⟩
        case measure => simp [intOf]; omega
    · have HF := Lib.hid hf
      obtain rfl : k = 4 := by omega
      clear hf
      go_wp2_with fail
      go_ret
      exact ⟨rfl, .inl ⟨rfl, HF.out⟩⟩
theorem bigC_any (n : Int) (w : World) : Calls Try.prog 29 #[.int .i64 n] w fun e w' => e = .returned (.bool (decide (4096 < n))) ∧ w = w' := by
  by_cases h : 4096 < n
  · have HR := Lib.hid (decide_eq_true h)
    go_enter Try.func29, Try.ntmps29
    go_wp2_with fail
    go_ret
    exact ⟨by rw [HR.out]; rfl, rfl⟩
  · have HR := Lib.hid (decide_eq_false h)
    go_enter Try.func29, Try.ntmps29
    go_wp2_with fail
    go_ret
    exact ⟨by rw [HR.out]; rfl, rfl⟩
set_option maxHeartbeats 4000000 in
theorem big_any (g : Nat) (bl : Nat → Int) (w : World) (hg : ∀ k, k < 4 → w.cell? ⟨g, k, none⟩ = some (.int .i64 (bl k))) (hgl : g < w.heap.size) :
    Calls Try.prog 27 #[.slice (some ⟨g, 0, none⟩) 4 4, .func (.func 29) #[] #[]] w fun e w' => w = w' ∧
      ((e = .returned (.int .i64 (-1)) ∧ ∀ k, k < 4 → ¬ (4096 < bl k)) ∨ ∃ k : Nat, k < 4 ∧ e = .returned (.int .i64 (k : Int)) ∧ 4096 < bl k) := by
  have HC := Lib.hid hg
  clear hg
  go_enter Try.func27, Try.ntmps27
  go_wp2_with fail
  go_loop [9] (fun j => ∃ k : Nat, k ≤ 4 ∧ j = .int .i64 (k : Int) ∧ ∀ i, i < k → ¬ (4096 < bl i)) (fun j => 4 - (intOf j).toNat)
  case atStart => exact ⟨0, Nat.zero_le _, rfl, fun i hi => by omega⟩
  case round =>
    obtain ⟨k, hk, rfl, hf⟩ := hrel
    by_cases hlt : k < 4
    · have d0 := HC.out k hlt
      by_cases h0 : 4096 < bl k
      · have HT := Lib.hid (decide_eq_true h0)
        have H0 := Lib.hid h0
        generalize hbk : bl k = x at *
        have HX := Lib.hid hbk
        clear h0 hf hbk
        go_wp2_with fail
        refine (bigC_any _ _).mono ?_
        rintro e w2 ⟨rfl, rfl⟩
        rw [HT.out]
        go_wp2_with fail
        go_ret
        exact ⟨rfl, .inr ⟨k, hlt, rfl, by rw [HX.out]; exact H0.out⟩⟩
      · have HI := Lib.hid (show ∀ i, i < k + 1 → ¬ (4096 < bl i) from fun i hi => by
          by_cases e : i = k
          · subst e; exact h0
          · exact hf i (by omega))
        have HT := Lib.hid (decide_eq_false h0)
        generalize bl k = x at d0 HT h0
        clear h0 hf
        go_wp2_with fail
        refine (bigC_any _ _).mono ?_
        rintro e w2 ⟨rfl, rfl⟩
        rw [HT.out]
        go_wp2_with fail
        go_round
        case rel => exact ⟨k + 1, by omega, by go_num, fun i hi => by have := HI.out i hi; omega⟩
        case measure => simp [intOf]; omega
    · have HF := Lib.hid hf
      obtain rfl : k = 4 := by omega
      clear hf
      go_wp2_with fail
      go_ret
      exact ⟨rfl, .inl ⟨rfl, HF.out⟩⟩
def noB : Blk := ⟨0, 0, []⟩
theorem infoBlk : (Try.prog.info? 77).map (fun i => (i.zero, i.size, i.bytes)) = some (some (.agg #[.int .i64 0, .int .i64 0, .int .i64 0, .int .i64 0, .slice none 0 0]), 5, 56) := by kernel_rfl
theorem info_partsB {e : TypeId} {z : Value} {n b : Nat} (h : (Try.prog.info? e).map (fun i => (i.zero, i.size, i.bytes)) = some (some z, n, b)) : ∃ i, Try.prog.info? e = some i ∧ i.zero = some z ∧ i.size = n ∧ i.bytes = b := by
  cases hi : Try.prog.info? e with
  | none => rw [hi] at h; simp at h
  | some i =>
    rw [hi] at h
    simp at h
    exact ⟨i, rfl, h.1, h.2.1, h.2.2⟩
theorem made_row (N c : Nat) : RowP (madeCells (Value.agg #[.int .i64 0, .int .i64 0, .int .i64 0, .int .i64 0, .slice none 0 0]).cells (N * 5)) c (fun _ => none) (List.replicate N noB) := by
  refine ⟨by rw [size_madeCells, List.length_replicate], fun j b hb t ht => ?_⟩
  rw [List.getElem?_replicate] at hb
  split at hb
  · rename_i hj
    injection hb with hb
    subst hb
    have e : (j * 5 + t) % 5 = t := by omega
    have hlt : j * 5 + t < N * 5 := by omega
    unfold madeCells
    rw [Array.getElem?_map, Array.getElem?_range]
    simp only [hlt, if_true, Option.map_some]
    show some ((#[Value.int .i64 0, .int .i64 0, .int .i64 0, .int .i64 0, .slice none 0 0] : Array Value)[(j * 5 + t) % 5]!) = _
    rw [e]
    match t, ht with
    | 0, _ | 1, _ | 2, _ | 3, _ | 4, _ => rfl
  · cases hb
theorem make_blocks (W : World) (N : Nat) (hN : N ≤ 4096) : ∃ w', (Instr.makeSlice 54 (.int .i64 (N : Int)) (.int .i64 (N : Int))).run Try.prog W = .ok (.slice (some ⟨W.heap.size, 0, none⟩) N N) w' ∧
    (∃ cur, w'.heap[W.heap.size]? = some (.cells cur 77 (0, 0)) ∧ ∀ c, RowP cur c (fun _ => none) (List.replicate N noB)) ∧ Below W.heap.size W w' := by
  obtain ⟨i, hi, hz, hs, hb⟩ := info_partsB infoBlk
  have hr := run_makeSlice (P := Try.prog) W 54 77 i _ Try.underlying54 hi hz .i64 .i64 (N : Int) (N : Int) (by omega) (by omega) (by rw [hs]; simp; omega) (by rw [hb]; omega) (by omega)
  simp only [Int.toNat_natCast, hs] at hr
  exact ⟨_, hr, ⟨_, new_block W _, made_row N⟩, (Below.refl _ _).alloc (Nat.le_refl _) _⟩
/-- The arena whose first classes are laid. -/
def arenaK (gs n : Nat → Nat) (k : Nat) : Array Value := #[if 0 < k then .int .i64 64 else .int .i64 0, if 0 < k then rowV gs n 0 else .slice none 0 0, if 1 < k then .int .i64 256 else .int .i64 0, if 1 < k then rowV gs n 1 else .slice none 0 0,
  if 2 < k then .int .i64 1024 else .int .i64 0, if 2 < k then rowV gs n 2 else .slice none 0 0, if 3 < k then .int .i64 4096 else .int .i64 0, if 3 < k then rowV gs n 3 else .slice none 0 0]
structure PN (w : World) (bl : Nat → Int) (p k : Nat) (gs : Nat → Nat) (W : World) : Prop where
  bel : Below w.heap.size w W
  box : W.heap[w.heap.size]? = some (.cells #[.int .i64 (bl 0), .int .i64 (bl 1), .int .i64 (bl 2), .int .i64 (bl 3)] 22 (0, 0))
  arena : W.heap[p]? = some (.cells (arenaK gs (fun c => (bl c).toNat) k) 59 (0, 0))
  row : ∀ c, c < k → ∃ cur, W.heap[gs c]? = some (.cells cur 77 (0, 0)) ∧ RowP cur c (fun _ => none) (List.replicate (bl c).toNat noB)
  at' : w.heap.size < p
  far : ∀ c, c < k → p < gs c
  inj : ∀ c d, c < d → d < k → gs c < gs d
theorem PN.next {w : World} {bl : Nat → Int} {p k : Nat} {gs : Nat → Nat} {W V : World} (h : PN w bl p k gs W) (hb : Below W.heap.size W V) : PN w bl p k gs V := by
  refine ⟨Bl.next h.bel hb, Bl.old hb (block_lt h.box) h.box, Bl.old hb (block_lt h.arena) h.arena, fun c hc => ?_, h.at', h.far, h.inj⟩
  obtain ⟨cur, h1, h2⟩ := h.row c hc
  exact ⟨cur, Bl.old hb (block_lt h1) h1, h2⟩
theorem PN.done {w : World} {bl : Nat → Int} {p : Nat} {gs : Nat → Nat} {W : World} (h : PN w bl p 4 gs W) (hb : ∀ k, k < 4 → bl k ≤ 4096) : PRel W w.heap.size p (fun c => (bl c).toNat) (newA fun c => (bl c).toNat) 0 := by
  refine ⟨⟨gs, fun _ _ => none, fun _ _ => [], ⟨h.arena, fun c hc => ?_, fun c hc => by simp [newA], fun c i q hq => by (cases hq), Nat.le_of_lt h.at', fun c hc => ?_, fun c d hc hd e => ?_, fun c i q hq => by (cases hq), fun c i d j q hq => by (cases hq)⟩, ⟨fun c i b hc hb hh => ?_, fun c i b q hc hb hh hq => by (cases hq), fun c i b hc hb => ?_⟩⟩, fun c hc => by have := hb c hc; show (bl c).toNat ≤ _; omega, by decide⟩
  · exact h.row c hc
  · have h1 := h.far c hc
    have h2 := h.at'
    exact ⟨by omega, by omega⟩
  · rcases Nat.lt_trichotomy c d with h1 | h1 | h1
    · have := h.inj c d h1 hd; omega
    · exact h1
    · have := h.inj d c h1 hc; omega
  · unfold newA at hb
    rw [List.getElem?_replicate] at hb
    split at hb
    · injection hb with hb; subst hb; exact absurd rfl hh
    · cases hb
  · unfold newA at hb
    rw [List.getElem?_replicate] at hb
    split at hb
    · injection hb with hb; subst hb; exact ⟨Nat.le_refl _, by decide⟩
    · cases hb
/-- A class is laid. -/
theorem PN.lay {w : World} {bl : Nat → Int} {p k : Nat} {gs : Nat → Nat} {W V V' : World} (h : PN w bl p k gs W) (hk : k < 4) (hb : Below W.heap.size W V) (hr : ∃ cur, V.heap[W.heap.size]? = some (.cells cur 77 (0, 0)) ∧ ∀ c, RowP cur c (fun _ => none) (List.replicate (bl k).toNat noB))
    (hV : V' = (V.setCell ⟨p, k * 2, none⟩ (.int .i64 (sizeC k : Int))).setCell ⟨p, k * 2 + 1, none⟩ (.slice (some ⟨W.heap.size, 0, none⟩) (bl k).toNat (bl k).toNat)) : PN w bl p (k + 1) (fun c => if c = k then W.heap.size else gs c) V' := by
  have h2 := h.next hb
  have hpl := block_lt h.arena
  have hne : ∀ b, b ≠ p → V'.heap[b]? = V.heap[b]? := fun b hbp => by rw [hV, set_heap hbp, set_heap hbp]
  have h0 := h.at'
  obtain ⟨cur, hr1, hr2⟩ := hr
  refine ⟨?_, ?_, ?_, fun c hc => ?_, h.at', fun c hc => ?_, fun c d hcd hd => ?_⟩
  · rw [hV]; exact (h2.bel.setCell (p := ⟨p, k * 2, none⟩) (by show _ ≤ p; omega) _).setCell (p := ⟨p, k * 2 + 1, none⟩) (by show _ ≤ p; omega) _
  · rw [hne _ (by omega)]; exact h2.box
  · rw [hV]
    have h3 := heap_put (heap_put h2.arena (k * 2) (.int .i64 (sizeC k : Int))) (k * 2 + 1) (.slice (some ⟨W.heap.size, 0, none⟩) (bl k).toNat (bl k).toNat)
    rw [h3]
    rcases (by omega : k = 0 ∨ k = 1 ∨ k = 2 ∨ k = 3) with rfl | rfl | rfl | rfl <;> rfl
  · by_cases e : c = k
    · subst e
      refine ⟨cur, ?_, hr2 c⟩
      simp only [if_true]
      rw [hne _ (by omega)]; exact hr1
    · obtain ⟨cu, h3, h4⟩ := h2.row c (by omega)
      refine ⟨cu, ?_, h4⟩
      simp only [e, if_false]
      rw [hne _ (by have := h.far c (by omega); omega)]; exact h3
  · by_cases e : c = k
    · simp only [e, if_true]; exact hpl
    · simp only [e, if_false]; exact h.far c (by omega)
  · by_cases e : d = k
    · simp only [e, if_true]
      rw [if_neg (by omega)]
      obtain ⟨cu, h3, h4⟩ := h.row c (by omega)
      exact block_lt h3
    · rw [if_neg (by omega), if_neg e]
      exact h.inj c d hcd (by omega)
def NewP (bl : Nat → Int) (w : World) (e : Ending) (w' : World) : Prop :=
  Below w.heap.size w w' ∧
  (((∃ k, k < 4 ∧ bl k < 0) ∧ e = .returned (.tuple #[.pointer none, .int .i64 2])) ∨
   ((∀ k, k < 4 → 0 ≤ bl k) ∧ (∃ k, k < 4 ∧ 4096 < bl k) ∧ e = .returned (.tuple #[.pointer none, .int .i64 3])) ∨
   ((∀ k, k < 4 → 0 ≤ bl k ∧ bl k ≤ 4096) ∧ ∃ p, e = .returned (.tuple #[.pointer (some ⟨p, 0, none⟩), .int .i64 0]) ∧ PRel w' w.heap.size p (fun c => (bl c).toNat) (newA fun c => (bl c).toNat) 0))
set_option maxHeartbeats 8000000 in
theorem pnew_any (bl : Nat → Int) (w : World) : Calls Try.prog 8 #[.agg #[.int .i64 (bl 0), .int .i64 (bl 1), .int .i64 (bl 2), .int .i64 (bl 3)]] w (NewP bl w) := by
  obtain ⟨w1, hw1⟩ : ∃ w1, w1 = w.alloc (.cells #[.int .i64 (bl 0), .int .i64 (bl 1), .int .i64 (bl 2), .int .i64 (bl 3)] 22) := ⟨_, rfl⟩
  have hB1 : Below w.heap.size w w1 := by rw [hw1]; exact (Below.refl _ _).alloc (Nat.le_refl _) _
  have hbox : w1.heap[w.heap.size]? = some (.cells #[.int .i64 (bl 0), .int .i64 (bl 1), .int .i64 (bl 2), .int .i64 (bl 3)] 22 (0, 0)) := by rw [hw1]; exact new_block _ _
  have hcells : ∀ k, k < 4 → w1.cell? ⟨w.heap.size, k, none⟩ = some (.int .i64 (bl k)) := fun k hk => by
    rw [Lib.cell_of_heap hbox]
    rcases (by omega : k = 0 ∨ k = 1 ∨ k = 2 ∨ k = 3) with rfl | rfl | rfl | rfl <;> rfl
  have HL := Lib.hid (low_any w.heap.size bl w1 hcells (block_lt hbox))
  have HG := Lib.hid (big_any w.heap.size bl w1 hcells (block_lt hbox))
  have HB1 := Lib.hid hB1
  have HW1 := Lib.hid hw1
  have HBX := Lib.hid hbox
  clear hB1 hw1 hbox hcells
  go_enter Try.func8, Try.ntmps8
  go_wp2_with fail
  rw [← HW1.out]
  refine HL.out.mono ?_
  rintro e w2 ⟨hw, h2⟩
  subst hw
  rcases h2 with ⟨rfl, hl⟩ | ⟨k, hk, rfl, hl⟩
  · have HLo := Lib.hid hl
    clear hl
    go_wp2_with fail
    refine HG.out.mono ?_
    rintro e w2 ⟨hw, h2⟩
    subst hw
    rcases h2 with ⟨rfl, hg⟩ | ⟨k, hk, rfl, hg⟩
    · have HGo := Lib.hid hg
      have HP0 := Lib.hid (show PN w bl w1.heap.size 0 (fun _ => 0) (w1.alloc (.cells #[.int .i64 0, .slice none 0 0, .int .i64 0, .slice none 0 0, .int .i64 0, .slice none 0 0, .int .i64 0, .slice none 0 0] 59)) from
        ⟨HB1.out.alloc HB1.out.size _, (old_block _ _ (block_lt HBX.out)).trans HBX.out, new_block _ _, fun c hc => absurd hc (by omega), block_lt HBX.out, fun c hc => absurd hc (by omega), fun c d h1 h2 => absurd h2 (by omega)⟩)
      clear hg HL HG
      go_wp2_with fail
      refine (sizesV_any _).mono ?_
      rintro e w3 ⟨rfl, hb3⟩
      have HP1 := Lib.hid (HP0.out.next hb3)
      clear hb3
      unfold sizesV
      go_wp2_with fail
      obtain ⟨p, hp⟩ : ∃ p, p = w1.heap.size := ⟨_, rfl⟩
      rw [← hp] at HP1 ⊢
      clear hp HP0
      have x0 := idx0
      have x1 := idx1
      have x2 := idx2
      have x3 := idx3
      go_loopw [16] (fun j wr => ∃ (k : Nat) (gs : Nat → Nat), k ≤ 4 ∧ j = .int .i64 (k : Int) ∧ PN w bl p k gs wr) (fun j _ => 4 - (intOf j).toNat)
      case atStart => exact ⟨0, _, Nat.zero_le _, rfl, HP1.out⟩
      case round =>
        obtain ⟨k, gs, hk, rfl, hP⟩ := hrel
        by_cases hlt : k < 4
        · obtain ⟨N, hN⟩ : ∃ N : Nat, bl k = (N : Int) := ⟨(bl k).toNat, by have := HLo.out k hlt; omega⟩
          have hNN : (bl k).toNat = N := by omega
          have hN4 : N ≤ 4096 := by have := HGo.out k hlt; omega
          have hbx : wr.cell? ⟨w.heap.size, k, none⟩ = some (.int .i64 (N : Int)) := by
            rw [Lib.cell_of_heap hP.box, ← hN]
            rcases (by omega : k = 0 ∨ k = 1 ∨ k = 2 ∨ k = 3) with rfl | rfl | rfl | rfl <;> rfl
          have hPd := hP.next ((Below.refl _ _).drew)
          obtain ⟨w5, hmk, hrow5, hb5⟩ := make_blocks wr.drew N hN4
          have hP5 := hPd.next hb5
          obtain ⟨v0, v1, y0, y1⟩ : ∃ v0 v1, w5.cell? ⟨p, k * 2, none⟩ = some v0 ∧ w5.cell? ⟨p, k * 2 + 1, none⟩ = some v1 := by
            rw [Lib.cell_of_heap hP5.arena, Lib.cell_of_heap hP5.arena]
            rcases (by omega : k = 0 ∨ k = 1 ∨ k = 2 ∨ k = 3) with rfl | rfl | rfl | rfl <;> exact ⟨_, _, rfl, rfl⟩
          have z0 := free hP5.arena (k * 2)
          have z1 := free hP5.arena (k * 2 + 1)
          have HLy := Lib.hid (fun V' hV => hPd.lay (V := w5) (V' := V') hlt hb5 (by rw [hNN]; exact hrow5) hV)
          rw [hNN] at HLy
          have hq : w.heap.size ≠ p := by have := hP.at'; omega
          clear hP hPd hP5 hrow5 hb5 hN hNN HP1 HBX HB1 HW1
          rcases (by omega : k = 0 ∨ k = 1 ∨ k = 2 ∨ k = 3) with rfl | rfl | rfl | rfl
          all_goals
            go_upto_region 9 with fail
            go_region
            go_wp2_with fail
            go_roundw
            case rel => exact ⟨_, _, by omega, by go_num, HLy.out _ rfl⟩
            case measure => simp [intOf]
        · obtain rfl : k = 4 := by omega
          have HD := Lib.hid (hP.done (fun k hk => by have := HGo.out k hk; omega))
          have HB := Lib.hid hP.bel
          clear hP
          go_wp2_with fail
          go_ret2
          exact ⟨HB.out, .inr (.inr ⟨fun k hk => by have := HLo.out k hk; have := HGo.out k hk; omega, p, rfl, HD.out⟩)⟩
    · have HK := Lib.hid (show (∀ k, k < 4 → 0 ≤ bl k) ∧ ∃ k, k < 4 ∧ 4096 < bl k from ⟨fun k hk => by have := HLo.out k hk; omega, k, hk, hg⟩)
      have hne : ((k : Int) != -1) = true := by rw [bne_iff_ne]; omega
      clear hg HL HG
      go_wp2_with fail
      go_ret2
      exact ⟨HB1.out, .inr (.inl ⟨HK.out.1, HK.out.2, rfl⟩)⟩
  · have HK := Lib.hid (show ∃ k, k < 4 ∧ bl k < 0 from ⟨k, hk, hl⟩)
    have hne : ((k : Int) != -1) = true := by rw [bne_iff_ne]; omega
    clear hl HL HG
    go_wp2_with fail
    go_ret2
    exact ⟨HB1.out, .inl ⟨HK.out, rfl⟩⟩
end Go.Proofs.Ytheljldoboiekaa.Sl
