/-
  What the laws of layer 15 say of the plain arena: what is written is read, blocks are filled, generations. No program, no condition.
-/
import Derived.Test.YtheljldoboiekaaSlMath
namespace Go.Proofs.Ytheljldoboiekaa.Sl
open Go.Proofs.Ytheljldoboiekaa.Tk
set_option linter.unusedVariables false
set_option linter.unusedSimpArgs false

/-! Two blocks of a class: SlabBack. A state is told by that class's list. -/
def zer (c : Nat) : Bs := List.replicate (sizeC c) 0
theorem zer_length (c : Nat) : (zer c).length = sizeC c := by simp [zer]
def two (A : Ar) (c : Nat) (x y : Blk) : Ar := upd A c [x, y]
theorem two_c (A : Ar) (c : Nat) (x y : Blk) : two A c x y c = [x, y] := upd_same _ _ _
theorem alloc_first {A : Ar} {n : Nat} {x y : Blk} (hn : n ≤ 4096) (hx : x.held = 0) :
    allocA (two A (classN n) x y) n = (((classN n : Int), 0, (x.gen : Int) + 1), 0, two A (classN n) ⟨x.gen + 1, 1, zer (classN n)⟩ y) := by
  rw [alloc_at (i := 0) (b := x) hn (by rw [two_c]; simp [freeAt, hx]) (by rw [two_c]; rfl)]
  unfold two; rw [upd_twice, upd_same]; rfl
theorem alloc_second {A : Ar} {n : Nat} {x y : Blk} (hn : n ≤ 4096) (hx : x.held ≠ 0) (hy : y.held = 0) :
    allocA (two A (classN n) x y) n = (((classN n : Int), 1, (y.gen : Int) + 1), 0, two A (classN n) x ⟨y.gen + 1, 1, zer (classN n)⟩) := by
  rw [alloc_at (i := 1) (b := y) hn (by rw [two_c]; simp [freeAt, hx, hy]) (by rw [two_c]; rfl)]
  unfold two; rw [upd_twice, upd_same]; rfl
theorem right_first {A : Ar} {c : Nat} {x y : Blk} (hc : c < 4) (hx : x.held ≠ 0) : rightA (two A c x y) ((c : Int), 0, (x.gen : Int)) = some x :=
  right_some (i := 0) hc (by rw [two_c]; rfl) hx
theorem right_second {A : Ar} {c : Nat} {x y : Blk} (hc : c < 4) (hy : y.held ≠ 0) : rightA (two A c x y) ((c : Int), 1, (y.gen : Int)) = some y :=
  right_some (i := 1) hc (by rw [two_c]; rfl) hy
theorem right_gone {A : Ar} {c : Nat} {x y : Blk} {g : Int} (hc : c < 4) (h : (x.gen : Int) ≠ g ∨ x.held = 0) : rightA (two A c x y) ((c : Int), 0, g) = none :=
  right_old (i := 0) hc (by rw [two_c]; rfl) h
theorem put_first (A : Ar) (c : Nat) (x y b : Blk) (g : Int) : putA (two A c x y) ((c : Int), 0, g) b = two A c b y := by
  show putA (two A c x y) ((c : Int), ((0 : Nat) : Int), g) b = _
  rw [put_at, two_c]; unfold two; rw [upd_twice]; rfl

/-! All blocks of a class: SlabFills. The first k are taken, once each. -/
def filledL (n k : Nat) (c : Nat) : List Blk := List.replicate k ⟨1, 1, zer c⟩ ++ List.replicate (n - k) ⟨0, 0, []⟩
theorem filled_zero (n c : Nat) : filledL n 0 c = List.replicate n ⟨0, 0, []⟩ := by simp [filledL]
theorem filled_full (n c : Nat) : filledL n n c = List.replicate n ⟨1, 1, zer c⟩ := by simp [filledL]
theorem filled_free (n k c : Nat) (h : k < n) : freeAt (filledL n k c) = k ∧ (filledL n k c)[k]? = some ⟨0, 0, []⟩ := by
  have hl : (filledL n k c).length = n := by simp [filledL]; omega
  have hk : (filledL n k c)[k]? = some ⟨0, 0, []⟩ := by
    unfold filledL
    rw [List.getElem?_append_right (by simp), List.length_replicate, Nat.sub_self, List.getElem?_replicate, if_pos (by omega)]
  refine ⟨freeAt_is _ k (by omega) ?_ (fun i hi => ?_), hk⟩
  · have := List.getElem?_eq_some_iff.1 hk
    obtain ⟨h1, h2⟩ := this
    rw [h2]
  · have e : (filledL n k c)[i]? = some ⟨1, 1, zer c⟩ := by
      unfold filledL
      rw [List.getElem?_append_left (by rw [List.length_replicate]; exact hi), List.getElem?_replicate, if_pos hi]
    obtain ⟨h1, h2⟩ := List.getElem?_eq_some_iff.1 e
    rw [h2]; simp
theorem filled_set (n k c : Nat) (h : k < n) : (filledL n k c).set k ⟨1, 1, zer c⟩ = filledL n (k + 1) c := by
  unfold filledL
  rw [List.set_append_right _ _ (by simp)]
  obtain ⟨m, hm⟩ : ∃ m, n - k = m + 1 := ⟨n - k - 1, by omega⟩
  have e : n - (k + 1) = m := by omega
  rw [hm, e, List.length_replicate, Nat.sub_self, List.replicate_succ, List.set_cons_zero, List.replicate_succ' (n := k)]
  simp
theorem class_size {c : Nat} (hc : c < 4) : classN (sizeC c) = c ∧ sizeC c ≤ 4096 := by
  rcases (by omega : c = 0 ∨ c = 1 ∨ c = 2 ∨ c = 3) with rfl | rfl | rfl | rfl <;> decide
theorem alloc_filled {A : Ar} {n k c : Nat} (hc : c < 4) (h : k < n) : allocA (upd A c (filledL n k c)) (sizeC c : Nat) = (((c : Int), (k : Int), 1), 0, upd A c (filledL n (k + 1) c)) := by
  obtain ⟨e1, e2⟩ := class_size hc
  obtain ⟨f1, f2⟩ := filled_free n k c h
  have := alloc_at (A := upd A c (filledL n k c)) (n := sizeC c) (i := k) (b := ⟨0, 0, []⟩) e2 (by rw [e1, upd_same]; exact f1) (by rw [e1, upd_same]; exact f2)
  rw [this, e1, upd_same, upd_twice]
  show (_, _, upd A c ((filledL n k c).set k ⟨1, 1, zer c⟩)) = _
  rw [filled_set n k c h]
  rfl
/-- All are held once; the generations are these. -/
def gensL (gs : List Nat) (c : Nat) : List Blk := gs.map fun g => ⟨g, 1, zer c⟩
theorem full_gens (n c : Nat) : filledL n n c = gensL (List.replicate n 1) c := by rw [filled_full]; simp [gensL]
theorem gens_held {gs : List Nat} {c : Nat} : ∀ b ∈ gensL gs c, b.held ≠ 0 := by
  intro b hb
  obtain ⟨g, _, rfl⟩ := List.mem_map.1 hb
  simp
theorem alloc_gens {A : Ar} {gs : List Nat} {c : Nat} (hc : c < 4) : allocA (upd A c (gensL gs c)) (sizeC c : Nat) = ((0, 0, 0), 14, upd A c (gensL gs c)) := by
  obtain ⟨e1, e2⟩ := class_size hc
  exact alloc_full e2 (by rw [e1, upd_same]; exact gens_held)
theorem live_gens {A : Ar} {gs : List Nat} {c : Nat} (hc : c < 4) : liveA (upd A c (gensL gs c)) c = gs.length := by
  unfold liveA
  rw [if_pos (by omega), Int.toNat_natCast, upd_same]
  have e : (gensL gs c).countP (fun b => b.held != 0) = (gensL gs c).length := List.countP_eq_length.2 (fun b hb => by simp [gens_held b hb])
  rw [e]; simp [gensL]
/-- One is let go. -/
theorem drop_gens {A : Ar} {gs : List Nat} {c k g : Nat} (hc : c < 4) (hk : gs[k]? = some g) :
    dropA (upd A c (gensL gs c)) ((c : Int), (k : Int), (g : Int)) = (0, upd A c ((gensL gs c).set k ⟨g, 0, zer c⟩)) := by
  have hb : (upd A c (gensL gs c) c)[k]? = some ⟨g, 1, zer c⟩ := by rw [upd_same]; unfold gensL; rw [List.getElem?_map, hk]; rfl
  unfold dropA
  rw [right_some (b := ⟨g, 1, zer c⟩) hc hb (by simp)]
  show (0, putA _ _ _) = _
  rw [put_at, upd_same, upd_twice]
  rfl
/-- And taken anew: it is that one, one generation on. -/
theorem alloc_dropped {A : Ar} {gs : List Nat} {c k g : Nat} (hc : c < 4) (hk : gs[k]? = some g) :
    allocA (upd A c ((gensL gs c).set k ⟨g, 0, zer c⟩)) (sizeC c : Nat) = (((c : Int), (k : Int), (g : Int) + 1), 0, upd A c (gensL (gs.set k (g + 1)) c)) := by
  obtain ⟨e1, e2⟩ := class_size hc
  obtain ⟨hlt, hg⟩ := List.getElem?_eq_some_iff.1 hk
  have hl : k < (gensL gs c).length := by simp [gensL]; exact hlt
  have hb : ((gensL gs c).set k ⟨g, 0, zer c⟩)[k]? = some ⟨g, 0, zer c⟩ := by rw [List.getElem?_set_self hl]
  have hf : freeAt ((gensL gs c).set k ⟨g, 0, zer c⟩) = k := by
    refine freeAt_is _ k (by simpa using hl) (by simp) (fun i hi => ?_)
    rw [List.getElem_set_ne (by omega)]
    exact gens_held _ (List.getElem_mem _)
  rw [alloc_at (i := k) (b := ⟨g, 0, zer c⟩) e2 (by rw [e1, upd_same]; exact hf) (by rw [e1, upd_same]; exact hb), e1, upd_same, upd_twice, List.set_set]
  show (_, _, upd A c ((gensL gs c).set k ⟨g + 1, 1, zer c⟩)) = _
  have : (gensL gs c).set k ⟨g + 1, 1, zer c⟩ = gensL (gs.set k (g + 1)) c := by unfold gensL; rw [List.map_set]
  rw [this]

/-! One block of a class: SlabGens. -/
def one (A : Ar) (c : Nat) (x : Blk) : Ar := upd A c [x]
theorem one_c (A : Ar) (c : Nat) (x : Blk) : one A c x c = [x] := upd_same _ _ _
theorem alloc_one {A : Ar} {n : Nat} {x : Blk} (hn : n ≤ 4096) (hx : x.held = 0) :
    allocA (one A (classN n) x) n = (((classN n : Int), 0, (x.gen : Int) + 1), 0, one A (classN n) ⟨x.gen + 1, 1, zer (classN n)⟩) := by
  rw [alloc_at (i := 0) (b := x) hn (by rw [one_c]; simp [freeAt, hx]) (by rw [one_c]; rfl)]
  unfold one; rw [upd_twice, upd_same]; rfl
theorem right_one {A : Ar} {c : Nat} {x : Blk} (hc : c < 4) (hx : x.held ≠ 0) : rightA (one A c x) ((c : Int), 0, (x.gen : Int)) = some x :=
  right_some (i := 0) hc (by rw [one_c]; rfl) hx
theorem right_one_gone {A : Ar} {c : Nat} {x : Blk} {g : Int} (hc : c < 4) (h : (x.gen : Int) ≠ g ∨ x.held = 0) : rightA (one A c x) ((c : Int), 0, g) = none :=
  right_old (i := 0) hc (by rw [one_c]; rfl) h
theorem drop_one {A : Ar} {c : Nat} {x : Blk} (hc : c < 4) (hx : x.held ≠ 0) : dropA (one A c x) ((c : Int), 0, (x.gen : Int)) = (0, one A c { x with held := x.held - 1 }) := by
  unfold dropA
  rw [right_one hc hx]
  show (0, putA (one A c x) ((c : Int), ((0 : Nat) : Int), _) _) = _
  rw [put_at, one_c]; unfold one; rw [upd_twice]; rfl
end Go.Proofs.Ytheljldoboiekaa.Sl
