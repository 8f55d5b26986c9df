/-
  An arena of blocks as plain data, and what the calls on it tell. No program, no condition.
-/
import Derived.Test.YtheljldoboiekaaTokMath
namespace Go.Proofs.Ytheljldoboiekaa.Sl
open Go.Proofs.Ytheljldoboiekaa.Tk
set_option linter.unusedVariables false
set_option linter.unusedSimpArgs false

/-- A block: how often it was taken, how often it is held, its bytes. -/
structure Blk where
  gen : Nat
  held : Nat
  mem : Bs
/-- The blocks of each class. -/
abbrev Ar := Nat → List Blk
/-- A handle: class, index, generation. -/
abbrev Hd := Int × Int × Int
def sizeC : Nat → Nat
  | 0 => 64
  | 1 => 256
  | 2 => 1024
  | 3 => 4096
  | _ => 0
def sizesI (c : Int) : Int := if 0 ≤ c ∧ c ≤ 3 then sizeC c.toNat else 0
/-- The least class whose blocks have so many bytes. -/
def classN (n : Nat) : Nat := if n ≤ 64 then 0 else if n ≤ 256 then 1 else if n ≤ 1024 then 2 else 3
theorem classN_lt (n : Nat) : classN n < 4 := by unfold classN; repeat' split
                                                 all_goals omega
theorem classN_fit {n : Nat} (h : n ≤ 4096) : n ≤ sizeC (classN n) := by
  unfold classN; repeat' split
  all_goals (simp only [sizeC]; omega)
theorem classN_least {n c : Nat} (h : c < classN n) : sizeC c < n := by
  have h4 := classN_lt n
  unfold classN at h
  rcases (by omega : c = 0 ∨ c = 1 ∨ c = 2 ∨ 3 ≤ c) with rfl | rfl | rfl | h3
  · simp only [sizeC]; split at h <;> omega
  · simp only [sizeC]; repeat' split at h
    all_goals omega
  · simp only [sizeC]; repeat' split at h
    all_goals omega
  · have := classN_lt n; unfold classN at this; omega
def upd (A : Ar) (c : Nat) (l : List Blk) : Ar := fun d => if d = c then l else A d
theorem upd_same (A : Ar) (c : Nat) (l : List Blk) : upd A c l c = l := by unfold upd; rw [if_pos rfl]
theorem upd_other (A : Ar) {c d : Nat} (l : List Blk) (h : d ≠ c) : upd A c l d = A d := by unfold upd; rw [if_neg h]
theorem upd_twice (A : Ar) (c : Nat) (l m : List Blk) : upd (upd A c l) c m = upd A c m := by
  funext d; unfold upd; split <;> rfl
theorem upd_self (A : Ar) (c : Nat) : upd A c (A c) = A := by
  funext d; unfold upd; split
  · rename_i h; rw [h]
  · rfl
/-- The first block that nobody holds; the list's length, if there is none. -/
def freeAt : List Blk → Nat
  | [] => 0
  | b :: r => if b.held = 0 then 0 else freeAt r + 1
theorem freeAt_le : ∀ l : List Blk, freeAt l ≤ l.length
  | [] => Nat.le_refl _
  | b :: r => by unfold freeAt; have := freeAt_le r; split <;> simp <;> omega
theorem freeAt_free : ∀ (l : List Blk) (h : freeAt l < l.length), l[freeAt l].held = 0
  | [], h => absurd h (by simp [freeAt])
  | b :: r, h => by
    by_cases hb : b.held = 0
    · have e : freeAt (b :: r) = 0 := by unfold freeAt; rw [if_pos hb]
      simp only [e]; exact hb
    · have e : freeAt (b :: r) = freeAt r + 1 := by rw [freeAt, if_neg hb]
      simp only [e, List.getElem_cons_succ]
      exact freeAt_free r (by rw [e] at h; simpa using h)
theorem freeAt_below : ∀ (l : List Blk) (i : Nat) (hi : i < freeAt l), (l[i]'(Nat.lt_of_lt_of_le hi (freeAt_le l))).held ≠ 0
  | [], i, hi => absurd hi (by simp [freeAt])
  | b :: r, i, hi => by
    by_cases hb : b.held = 0
    · have e : freeAt (b :: r) = 0 := by unfold freeAt; rw [if_pos hb]
      omega
    · cases i with
      | zero => exact hb
      | succ i =>
        have e : freeAt (b :: r) = freeAt r + 1 := by rw [freeAt, if_neg hb]
        simp only [List.getElem_cons_succ]
        exact freeAt_below r i (by omega)
/-- It is the one place that is free with none free ahead of it. -/
theorem freeAt_is (l : List Blk) (k : Nat) (hk : k < l.length) (h0 : l[k].held = 0) (h : ∀ i (hi : i < k), (l[i]'(by omega)).held ≠ 0) : freeAt l = k := by
  rcases Nat.lt_trichotomy (freeAt l) k with h1 | h1 | h1
  · exact absurd (freeAt_free l (by omega)) (h _ h1)
  · exact h1
  · exact absurd h0 (freeAt_below l k h1)
theorem freeAt_full (l : List Blk) (h : ∀ b ∈ l, b.held ≠ 0) : freeAt l = l.length := by
  rcases Nat.lt_or_ge (freeAt l) l.length with h1 | h1
  · exact absurd (freeAt_free l h1) (h _ (List.getElem_mem h1))
  · exact Nat.le_antisymm (freeAt_le l) h1

/-! The calls: the answer, the error (0: none), what is kept. -/
def allocA (A : Ar) (n : Int) : Hd × Int × Ar :=
  if n < 0 ∨ 4096 < n then ((0, 0, 0), 2, A)
  else match (A (classN n.toNat))[freeAt (A (classN n.toNat))]? with
    | none => ((0, 0, 0), 14, A)
    | some b => (((classN n.toNat : Int), (freeAt (A (classN n.toNat)) : Int), (b.gen : Int) + 1), 0,
      upd A (classN n.toNat) ((A (classN n.toNat)).set (freeAt (A (classN n.toNat))) ⟨b.gen + 1, 1, List.replicate (sizeC (classN n.toNat)) 0⟩))
/-- The block of a handle that is right. -/
def rightA (A : Ar) (h : Hd) : Option Blk :=
  if 0 ≤ h.1 ∧ h.1 ≤ 3 ∧ 0 ≤ h.2.1 then match (A h.1.toNat)[h.2.1.toNat]? with
    | some b => if b.held ≠ 0 ∧ (b.gen : Int) = h.2.2 then some b else none
    | none => none
  else none
def putA (A : Ar) (h : Hd) (b : Blk) : Ar := upd A h.1.toNat ((A h.1.toNat).set h.2.1.toNat b)
def holdA (A : Ar) (h : Hd) : Int × Ar := match rightA A h with
  | none => (15, A)
  | some b => if b.held = 1048576 then (3, A) else (0, putA A h { b with held := b.held + 1 })
def dropA (A : Ar) (h : Hd) : Int × Ar := match rightA A h with
  | none => (15, A)
  | some b => (0, putA A h { b with held := b.held - 1 })
/-- Bytes laid over others from a place on. -/
def lay (m : Bs) (i : Nat) (b : Bs) : Bs := m.take i ++ b ++ m.drop (i + b.length)
def fitsI (c : Int) (i n : Int) : Bool := decide (0 ≤ i ∧ i ≤ sizesI c ∧ 0 ≤ n ∧ n ≤ sizesI c - i)
def writeA (A : Ar) (h : Hd) (i : Int) (b : Bs) : Int × Ar := match rightA A h with
  | none => (15, A)
  | some k => if fitsI h.1 i b.length then (0, putA A h { k with mem := lay k.mem i.toNat b }) else (2, A)
def readA (A : Ar) (h : Hd) (i n : Int) : Bs × Int := match rightA A h with
  | none => ([], 15)
  | some k => if fitsI h.1 i n then ((k.mem.drop i.toNat).take n.toNat, 0) else ([], 2)
def heldA (A : Ar) (h : Hd) : Int := match rightA A h with
  | none => 0
  | some b => b.held
def liveA (A : Ar) (c : Int) : Int := if 0 ≤ c ∧ c ≤ 3 then ((A c.toNat).countP fun b => b.held != 0 : Nat) else 0
def newA (ns : Nat → Nat) : Ar := fun c => List.replicate (ns c) ⟨0, 0, []⟩

/-! On one class's list. -/
theorem right_at {A : Ar} {c i : Nat} {g : Int} (hc : c < 4) : rightA A ((c : Int), (i : Int), g) = match (A c)[i]? with
    | some b => if b.held ≠ 0 ∧ (b.gen : Int) = g then some b else none
    | none => none := by
  unfold rightA
  rw [if_pos (by simp only; omega)]
  rfl
theorem right_some {A : Ar} {c i : Nat} {b : Blk} (hc : c < 4) (h : (A c)[i]? = some b) (hh : b.held ≠ 0) : rightA A ((c : Int), (i : Int), (b.gen : Int)) = some b := by
  rw [right_at hc, h]; simp [hh]
theorem right_old {A : Ar} {c i : Nat} {b : Blk} {g : Int} (hc : c < 4) (h : (A c)[i]? = some b) (hg : (b.gen : Int) ≠ g ∨ b.held = 0) : rightA A ((c : Int), (i : Int), g) = none := by
  rw [right_at hc, h]
  show (if _ then _ else _) = _
  rw [if_neg]
  rintro ⟨h1, h2⟩
  rcases hg with hg | hg
  · exact hg h2
  · exact h1 hg
theorem put_at (A : Ar) (c i : Nat) (g : Int) (b : Blk) : putA A ((c : Int), (i : Int), g) b = upd A c ((A c).set i b) := rfl
theorem alloc_at {A : Ar} {n : Nat} {i : Nat} {b : Blk} (hn : n ≤ 4096) (hi : freeAt (A (classN n)) = i) (hb : (A (classN n))[i]? = some b) :
    allocA A n = (((classN n : Int), (i : Int), (b.gen : Int) + 1), 0, upd A (classN n) ((A (classN n)).set i ⟨b.gen + 1, 1, List.replicate (sizeC (classN n)) 0⟩)) := by
  unfold allocA
  rw [if_neg (by omega), Int.toNat_natCast, hi, hb]
theorem alloc_full {A : Ar} {n : Nat} (hn : n ≤ 4096) (h : ∀ b ∈ A (classN n), b.held ≠ 0) : allocA A n = ((0, 0, 0), 14, A) := by
  unfold allocA
  rw [if_neg (by omega), Int.toNat_natCast, freeAt_full _ h, List.getElem?_eq_none (Nat.le_refl _)]
theorem lay_read {m b : Bs} {i : Nat} (h : i + b.length ≤ m.length) : ((lay m i b).drop i).take b.length = b := by
  unfold lay
  have e : (m.take i).length = i := by rw [List.length_take]; omega
  rw [List.append_assoc, List.drop_left' e, List.take_left]
theorem lay_length {m b : Bs} {i : Nat} (h : i + b.length ≤ m.length) : (lay m i b).length = m.length := by
  unfold lay; simp; omega
end Go.Proofs.Ytheljldoboiekaa.Sl
