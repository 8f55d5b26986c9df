/-
  Texts that the laws' proofs stand on, 3 of them in one file; each one's head says what it proves and under which condition.
-/
import Derived.Below
/-
  Plain functions on bytes, and what holds of them: blanks, trimming, small letters. No program, no condition.
-/
namespace Go.Proofs.Ytbpadliiekhkjaa.Tk

abbrev Bs := List UInt8

/-- A blank: a space or a tab. -/
def blank (c : UInt8) : Bool := c == 32 || c == 9
def ltrim (l : Bs) : Bs := l.dropWhile blank
def rtrim (l : Bs) : Bs := (l.reverse.dropWhile blank).reverse
def trim (l : Bs) : Bs := rtrim (ltrim l)
/-- The small letter of a byte. -/
def low (c : UInt8) : UInt8 := if 65 ≤ c.toNat ∧ c.toNat ≤ 90 then c + 32 else c
def lower (l : Bs) : Bs := l.map low

theorem blank_yes {c : UInt8} (h : blank c = true) : (c.toNat : Int) = 32 ∨ (c.toNat : Int) = 9 := by
  simp [blank] at h; rcases h with rfl | rfl <;> simp
theorem blank_no {c : UInt8} (h : blank c = false) : (c.toNat : Int) ≠ 32 ∧ (c.toNat : Int) ≠ 9 := by
  simp [blank] at h
  constructor
  · intro e; apply h.1; apply UInt8.toNat.inj; simpa using (by omega : c.toNat = 32)
  · intro e; apply h.2; apply UInt8.toNat.inj; simpa using (by omega : c.toNat = 9)

theorem low_up {c : UInt8} (h : 65 ≤ c.toNat ∧ c.toNat ≤ 90) : ((low c).toNat : Int) = (c.toNat : Int) + 32 := by
  unfold low; rw [if_pos h]; simp [UInt8.toNat_add]; omega
theorem low_id {c : UInt8} (h : ¬ (65 ≤ c.toNat ∧ c.toNat ≤ 90)) : low c = c := by unfold low; rw [if_neg h]
theorem low_low (c : UInt8) : low (low c) = low c := by
  by_cases h : 65 ≤ c.toNat ∧ c.toNat ≤ 90
  · have := low_up h; exact low_id (by omega)
  · rw [low_id h, low_id h]
theorem lower_lower (l : Bs) : lower (lower l) = lower l := by
  simp [lower, low_low]
theorem lower_length (l : Bs) : (lower l).length = l.length := by simp [lower]

/-! Trimming. -/
theorem ltrim_cons_blank {c : UInt8} (l : Bs) (h : blank c = true) : ltrim (c :: l) = ltrim l := by simp [ltrim, h]
theorem ltrim_cons_other {c : UInt8} (l : Bs) (h : blank c = false) : ltrim (c :: l) = c :: l := by simp [ltrim, h]
theorem rtrim_snoc_blank {c : UInt8} (l : Bs) (h : blank c = true) : rtrim (l ++ [c]) = rtrim l := by simp [rtrim, h]
theorem rtrim_snoc_other {c : UInt8} (l : Bs) (h : blank c = false) : rtrim (l ++ [c]) = l ++ [c] := by simp [rtrim, h]
theorem rtrim_nil : rtrim [] = [] := rfl
theorem ltrim_nil : ltrim [] = [] := rfl

theorem snoc_cases (l : Bs) : l = [] ∨ ∃ i c, l = i ++ [c] := by
  rcases List.eq_nil_or_concat l with h | ⟨i, c, h⟩
  · exact .inl h
  · exact .inr ⟨i, c, by rw [h, List.concat_eq_append]⟩
/-- The last byte is no blank, or there is none. -/
theorem rtrim_end (l : Bs) : rtrim l = [] ∨ ∃ i c, rtrim l = i ++ [c] ∧ blank c = false := by
  induction hn : l.length generalizing l with
  | zero => left; rw [List.length_eq_zero_iff] at hn; subst hn; rfl
  | succ n ih =>
    rcases snoc_cases l with rfl | ⟨i, c, rfl⟩
    · left; rfl
    · by_cases h : blank c = true
      · rw [rtrim_snoc_blank i h]; exact ih i (by simpa using hn)
      · right; have h' : blank c = false := by simpa using h
        exact ⟨i, c, rtrim_snoc_other i h', h'⟩
theorem ltrim_begin (l : Bs) : ltrim l = [] ∨ ∃ c t, ltrim l = c :: t ∧ blank c = false := by
  induction l with
  | nil => left; rfl
  | cons c t ih =>
    by_cases h : blank c = true
    · rw [ltrim_cons_blank t h]; exact ih
    · have h' : blank c = false := by simpa using h
      right; exact ⟨c, t, ltrim_cons_other t h', h'⟩
theorem rtrim_idem (l : Bs) : rtrim (rtrim l) = rtrim l := by
  rcases rtrim_end l with h | ⟨i, c, h, hc⟩
  · rw [h]; rfl
  · rw [h, rtrim_snoc_other i hc]
theorem rtrim_cons_other {c : UInt8} (t : Bs) (h : blank c = false) : ∃ t', rtrim (c :: t) = c :: t' := by
  induction hn : t.length generalizing t with
  | zero =>
    rw [List.length_eq_zero_iff] at hn; subst hn
    exact ⟨[], rtrim_snoc_other [] h⟩
  | succ n ih =>
    rcases snoc_cases t with rfl | ⟨i, d, rfl⟩
    · simp at hn
    · by_cases hd : blank d = true
      · obtain ⟨t', ht⟩ := ih i (by simpa using hn)
        refine ⟨t', ?_⟩
        rw [← ht]; exact rtrim_snoc_blank (c :: i) hd
      · have hd' : blank d = false := by simpa using hd
        exact ⟨i ++ [d], rtrim_snoc_other (c :: i) hd'⟩
theorem ltrim_rtrim_ltrim (l : Bs) : ltrim (rtrim (ltrim l)) = rtrim (ltrim l) := by
  rcases ltrim_begin l with h | ⟨c, t, h, hc⟩
  · rw [h]; rfl
  · rw [h]; obtain ⟨t', ht⟩ := rtrim_cons_other t hc
    rw [ht, ltrim_cons_other t' hc]
theorem trim_trim (l : Bs) : trim (trim l) = trim l := by
  unfold trim; rw [ltrim_rtrim_ltrim, rtrim_idem]
theorem trim_cons_blank {c : UInt8} (l : Bs) (h : blank c = true) : trim (c :: l) = trim l := by
  unfold trim; rw [ltrim_cons_blank l h]
theorem ltrim_snoc_blank {c : UInt8} (l : Bs) (h : blank c = true) : rtrim (ltrim (l ++ [c])) = rtrim (ltrim l) := by
  induction l with
  | nil => simp only [List.nil_append]; rw [ltrim_cons_blank [] h]
  | cons d t ih =>
    by_cases hd : blank d = true
    · rw [List.cons_append, ltrim_cons_blank _ hd, ltrim_cons_blank _ hd]; exact ih
    · have hd' : blank d = false := by simpa using hd
      rw [List.cons_append, ltrim_cons_other _ hd', ltrim_cons_other _ hd']
      exact rtrim_snoc_blank (d :: t) h
theorem trim_snoc_blank {c : UInt8} (l : Bs) (h : blank c = true) : trim (l ++ [c]) = trim l := ltrim_snoc_blank l h
/-- What is trimmed is empty, or has no blank at either end. -/
theorem trim_ends (l : Bs) : trim l = [] ∨ ((∃ c t, trim l = c :: t ∧ blank c = false) ∧ ∃ i c, trim l = i ++ [c] ∧ blank c = false) := by
  unfold trim
  rcases ltrim_begin l with h | ⟨c, t, h, hc⟩
  · left; rw [h]; rfl
  · right
    refine ⟨?_, ?_⟩
    · rw [h]; obtain ⟨t', ht⟩ := rtrim_cons_other t hc; exact ⟨c, t', ht, hc⟩
    · rcases rtrim_end (ltrim l) with h2 | h2
      · rw [h] at h2; obtain ⟨t', ht⟩ := rtrim_cons_other t hc; rw [ht] at h2; cases h2
      · exact h2
theorem rtrim_length (l : Bs) : (rtrim l).length ≤ l.length := by
  unfold rtrim; simp; exact Nat.le_trans (List.dropWhile_sublist _).length_le (by simp)
theorem trim_length (l : Bs) : (trim l).length ≤ l.length := by
  unfold trim ltrim; exact Nat.le_trans (rtrim_length _) (List.dropWhile_sublist _).length_le

/-- The loops of a trim over indices: from the left .. -/
theorem ltrim_drop_step (l : Bs) (k : Nat) (hk : k < l.length) (h : blank l[k] = true) : ltrim (l.drop k) = ltrim (l.drop (k + 1)) := by
  rw [List.drop_eq_getElem_cons hk, ltrim_cons_blank _ h]
theorem ltrim_drop_stop (l : Bs) (k : Nat) (hk : k < l.length) (h : blank l[k] = false) : ltrim (l.drop k) = l.drop k := by
  rw [List.drop_eq_getElem_cons hk, ltrim_cons_other _ h]
/-- .. and from the right. -/
theorem part_snoc (l : Bs) (k m : Nat) (hk : k < m) (hm : m ≤ l.length) : (l.take m).drop k = (l.take (m - 1)).drop k ++ [l[m - 1]'(by omega)] := by
  have h1 : l.take m = l.take (m - 1) ++ [l[m - 1]'(by omega)] := by
    have := List.take_succ_eq_append_getElem (l := l) (i := m - 1) (by omega)
    rwa [show m - 1 + 1 = m from by omega] at this
  rw [h1, List.drop_append_of_le_length (by simp; omega)]
theorem rtrim_part_step (l : Bs) (k m : Nat) (hk : k < m) (hm : m ≤ l.length) (h : blank (l[m - 1]'(by omega)) = true) : rtrim ((l.take m).drop k) = rtrim ((l.take (m - 1)).drop k) := by
  rw [part_snoc l k m hk hm, rtrim_snoc_blank _ h]
theorem rtrim_part_stop (l : Bs) (k m : Nat) (hk : k < m) (hm : m ≤ l.length) (h : blank (l[m - 1]'(by omega)) = false) : rtrim ((l.take m).drop k) = (l.take m).drop k := by
  rw [part_snoc l k m hk hm, rtrim_snoc_other _ h]
theorem part_all (l : Bs) (k : Nat) : (l.take l.length).drop k = l.drop k := by rw [List.take_length]
theorem part_none (l : Bs) (k : Nat) : rtrim ((l.take k).drop k) = (l.take k).drop k := by
  have : (l.take k).drop k = [] := by rw [List.drop_eq_nil_iff]; exact List.length_take_le _ _
  rw [this]; rfl
theorem part_get (l : Bs) (k m j : Nat) (hm : m ≤ l.length) (hj : j < ((l.take m).drop k).length) : ((l.take m).drop k)[j] = l[k + j]'(by simp at hj; omega) := by
  simp
theorem part_length (l : Bs) (k m : Nat) (hm : m ≤ l.length) : ((l.take m).drop k).length = m - k := by
  simp; omega
end Go.Proofs.Ytbpadliiekhkjaa.Tk
/-
  An arena of blocks as plain data, and what the calls on it tell. No program, no condition.
-/
namespace Go.Proofs.Ytbpadliiekhkjaa.Sl
open Go.Proofs.Ytbpadliiekhkjaa.Tk
set_option linter.unusedVariables false
set_option linter.unusedSimpArgs false

/-- A block: how often it was taken, how often it is held, its bytes. -/
structure Blk where
  gen : Nat
  held : Nat
  mem : Bs
/-- The blocks of each class. -/
abbrev Ar := Nat → List Blk
/-- A handle: class, index, generation. -/
abbrev Hd := Int × Int × Int
def sizeC : Nat → Nat
  | 0 => 64
  | 1 => 256
  | 2 => 1024
  | 3 => 4096
  | _ => 0
def sizesI (c : Int) : Int := if 0 ≤ c ∧ c ≤ 3 then sizeC c.toNat else 0
/-- The least class whose blocks have so many bytes. -/
def classN (n : Nat) : Nat := if n ≤ 64 then 0 else if n ≤ 256 then 1 else if n ≤ 1024 then 2 else 3
theorem classN_lt (n : Nat) : classN n < 4 := by unfold classN; repeat' split
                                                 all_goals omega
theorem classN_fit {n : Nat} (h : n ≤ 4096) : n ≤ sizeC (classN n) := by
  unfold classN; repeat' split
  all_goals (simp only [sizeC]; omega)
theorem classN_least {n c : Nat} (h : c < classN n) : sizeC c < n := by
  have h4 := classN_lt n
  unfold classN at h
  rcases (by omega : c = 0 ∨ c = 1 ∨ c = 2 ∨ 3 ≤ c) with rfl | rfl | rfl | h3
  · simp only [sizeC]; split at h <;> omega
  · simp only [sizeC]; repeat' split at h
    all_goals omega
  · simp only [sizeC]; repeat' split at h
    all_goals omega
  · have := classN_lt n; unfold classN at this; omega
def upd (A : Ar) (c : Nat) (l : List Blk) : Ar := fun d => if d = c then l else A d
theorem upd_same (A : Ar) (c : Nat) (l : List Blk) : upd A c l c = l := by unfold upd; rw [if_pos rfl]
theorem upd_other (A : Ar) {c d : Nat} (l : List Blk) (h : d ≠ c) : upd A c l d = A d := by unfold upd; rw [if_neg h]
theorem upd_twice (A : Ar) (c : Nat) (l m : List Blk) : upd (upd A c l) c m = upd A c m := by
  funext d; unfold upd; split <;> rfl
theorem upd_self (A : Ar) (c : Nat) : upd A c (A c) = A := by
  funext d; unfold upd; split
  · rename_i h; rw [h]
  · rfl
/-- The first block that nobody holds; the list's length, if there is none. -/
def freeAt : List Blk → Nat
  | [] => 0
  | b :: r => if b.held = 0 then 0 else freeAt r + 1
theorem freeAt_le : ∀ l : List Blk, freeAt l ≤ l.length
  | [] => Nat.le_refl _
  | b :: r => by unfold freeAt; have := freeAt_le r; split <;> simp <;> omega
theorem freeAt_free : ∀ (l : List Blk) (h : freeAt l < l.length), l[freeAt l].held = 0
  | [], h => absurd h (by simp [freeAt])
  | b :: r, h => by
    by_cases hb : b.held = 0
    · have e : freeAt (b :: r) = 0 := by unfold freeAt; rw [if_pos hb]
      simp only [e]; exact hb
    · have e : freeAt (b :: r) = freeAt r + 1 := by rw [freeAt, if_neg hb]
      simp only [e, List.getElem_cons_succ]
      exact freeAt_free r (by rw [e] at h; simpa using h)
theorem freeAt_below : ∀ (l : List Blk) (i : Nat) (hi : i < freeAt l), (l[i]'(Nat.lt_of_lt_of_le hi (freeAt_le l))).held ≠ 0
  | [], i, hi => absurd hi (by simp [freeAt])
  | b :: r, i, hi => by
    by_cases hb : b.held = 0
    · have e : freeAt (b :: r) = 0 := by unfold freeAt; rw [if_pos hb]
      omega
    · cases i with
      | zero => exact hb
      | succ i =>
        have e : freeAt (b :: r) = freeAt r + 1 := by rw [freeAt, if_neg hb]
        simp only [List.getElem_cons_succ]
        exact freeAt_below r i (by omega)
/-- It is the one place that is free with none free ahead of it. -/
theorem freeAt_is (l : List Blk) (k : Nat) (hk : k < l.length) (h0 : l[k].held = 0) (h : ∀ i (hi : i < k), (l[i]'(by omega)).held ≠ 0) : freeAt l = k := by
  rcases Nat.lt_trichotomy (freeAt l) k with h1 | h1 | h1
  · exact absurd (freeAt_free l (by omega)) (h _ h1)
  · exact h1
  · exact absurd h0 (freeAt_below l k h1)
theorem freeAt_full (l : List Blk) (h : ∀ b ∈ l, b.held ≠ 0) : freeAt l = l.length := by
  rcases Nat.lt_or_ge (freeAt l) l.length with h1 | h1
  · exact absurd (freeAt_free l h1) (h _ (List.getElem_mem h1))
  · exact Nat.le_antisymm (freeAt_le l) h1

/-! The calls: the answer, the error (0: none), what is kept. -/
def allocA (A : Ar) (n : Int) : Hd × Int × Ar :=
  if n < 0 ∨ 4096 < n then ((0, 0, 0), 2, A)
  else match (A (classN n.toNat))[freeAt (A (classN n.toNat))]? with
    | none => ((0, 0, 0), 14, A)
    | some b => (((classN n.toNat : Int), (freeAt (A (classN n.toNat)) : Int), (b.gen : Int) + 1), 0,
      upd A (classN n.toNat) ((A (classN n.toNat)).set (freeAt (A (classN n.toNat))) ⟨b.gen + 1, 1, List.replicate (sizeC (classN n.toNat)) 0⟩))
/-- The block of a handle that is right. -/
def rightA (A : Ar) (h : Hd) : Option Blk :=
  if 0 ≤ h.1 ∧ h.1 ≤ 3 ∧ 0 ≤ h.2.1 then match (A h.1.toNat)[h.2.1.toNat]? with
    | some b => if b.held ≠ 0 ∧ (b.gen : Int) = h.2.2 then some b else none
    | none => none
  else none
def putA (A : Ar) (h : Hd) (b : Blk) : Ar := upd A h.1.toNat ((A h.1.toNat).set h.2.1.toNat b)
def holdA (A : Ar) (h : Hd) : Int × Ar := match rightA A h with
  | none => (15, A)
  | some b => if b.held = 1048576 then (3, A) else (0, putA A h { b with held := b.held + 1 })
def dropA (A : Ar) (h : Hd) : Int × Ar := match rightA A h with
  | none => (15, A)
  | some b => (0, putA A h { b with held := b.held - 1 })
/-- Bytes laid over others from a place on. -/
def lay (m : Bs) (i : Nat) (b : Bs) : Bs := m.take i ++ b ++ m.drop (i + b.length)
def fitsI (c : Int) (i n : Int) : Bool := decide (0 ≤ i ∧ i ≤ sizesI c ∧ 0 ≤ n ∧ n ≤ sizesI c - i)
def writeA (A : Ar) (h : Hd) (i : Int) (b : Bs) : Int × Ar := match rightA A h with
  | none => (15, A)
  | some k => if fitsI h.1 i b.length then (0, putA A h { k with mem := lay k.mem i.toNat b }) else (2, A)
def readA (A : Ar) (h : Hd) (i n : Int) : Bs × Int := match rightA A h with
  | none => ([], 15)
  | some k => if fitsI h.1 i n then ((k.mem.drop i.toNat).take n.toNat, 0) else ([], 2)
def heldA (A : Ar) (h : Hd) : Int := match rightA A h with
  | none => 0
  | some b => b.held
def liveA (A : Ar) (c : Int) : Int := if 0 ≤ c ∧ c ≤ 3 then ((A c.toNat).countP fun b => b.held != 0 : Nat) else 0
def newA (ns : Nat → Nat) : Ar := fun c => List.replicate (ns c) ⟨0, 0, []⟩

/-! On one class's list. -/
theorem right_at {A : Ar} {c i : Nat} {g : Int} (hc : c < 4) : rightA A ((c : Int), (i : Int), g) = match (A c)[i]? with
    | some b => if b.held ≠ 0 ∧ (b.gen : Int) = g then some b else none
    | none => none := by
  unfold rightA
  rw [if_pos (by simp only; omega)]
  rfl
theorem right_some {A : Ar} {c i : Nat} {b : Blk} (hc : c < 4) (h : (A c)[i]? = some b) (hh : b.held ≠ 0) : rightA A ((c : Int), (i : Int), (b.gen : Int)) = some b := by
  rw [right_at hc, h]; simp [hh]
theorem right_old {A : Ar} {c i : Nat} {b : Blk} {g : Int} (hc : c < 4) (h : (A c)[i]? = some b) (hg : (b.gen : Int) ≠ g ∨ b.held = 0) : rightA A ((c : Int), (i : Int), g) = none := by
  rw [right_at hc, h]
  show (if _ then _ else _) = _
  rw [if_neg]
  rintro ⟨h1, h2⟩
  rcases hg with hg | hg
  · exact hg h2
  · exact h1 hg
theorem put_at (A : Ar) (c i : Nat) (g : Int) (b : Blk) : putA A ((c : Int), (i : Int), g) b = upd A c ((A c).set i b) := rfl
theorem alloc_at {A : Ar} {n : Nat} {i : Nat} {b : Blk} (hn : n ≤ 4096) (hi : freeAt (A (classN n)) = i) (hb : (A (classN n))[i]? = some b) :
    allocA A n = (((classN n : Int), (i : Int), (b.gen : Int) + 1), 0, upd A (classN n) ((A (classN n)).set i ⟨b.gen + 1, 1, List.replicate (sizeC (classN n)) 0⟩)) := by
  unfold allocA
  rw [if_neg (by omega), Int.toNat_natCast, hi, hb]
theorem alloc_full {A : Ar} {n : Nat} (hn : n ≤ 4096) (h : ∀ b ∈ A (classN n), b.held ≠ 0) : allocA A n = ((0, 0, 0), 14, A) := by
  unfold allocA
  rw [if_neg (by omega), Int.toNat_natCast, freeAt_full _ h, List.getElem?_eq_none (Nat.le_refl _)]
theorem lay_read {m b : Bs} {i : Nat} (h : i + b.length ≤ m.length) : ((lay m i b).drop i).take b.length = b := by
  unfold lay
  have e : (m.take i).length = i := by rw [List.length_take]; omega
  rw [List.append_assoc, List.drop_left' e, List.take_left]
theorem lay_length {m b : Bs} {i : Nat} (h : i + b.length ≤ m.length) : (lay m i b).length = m.length := by
  unfold lay; simp; omega
end Go.Proofs.Ytbpadliiekhkjaa.Sl
/-
  What the laws of layer 15 say of the plain arena: what is written is read, blocks are filled, generations. No program, no condition.
-/
namespace Go.Proofs.Ytbpadliiekhkjaa.Sl
open Go.Proofs.Ytbpadliiekhkjaa.Tk
set_option linter.unusedVariables false
set_option linter.unusedSimpArgs false

/-! Two blocks of a class: SlabBack. A state is told by that class's list. -/
def zer (c : Nat) : Bs := List.replicate (sizeC c) 0
theorem zer_length (c : Nat) : (zer c).length = sizeC c := by simp [zer]
def two (A : Ar) (c : Nat) (x y : Blk) : Ar := upd A c [x, y]
theorem two_c (A : Ar) (c : Nat) (x y : Blk) : two A c x y c = [x, y] := upd_same _ _ _
theorem alloc_first {A : Ar} {n : Nat} {x y : Blk} (hn : n ≤ 4096) (hx : x.held = 0) :
    allocA (two A (classN n) x y) n = (((classN n : Int), 0, (x.gen : Int) + 1), 0, two A (classN n) ⟨x.gen + 1, 1, zer (classN n)⟩ y) := by
  rw [alloc_at (i := 0) (b := x) hn (by rw [two_c]; simp [freeAt, hx]) (by rw [two_c]; rfl)]
  unfold two; rw [upd_twice, upd_same]; rfl
theorem alloc_second {A : Ar} {n : Nat} {x y : Blk} (hn : n ≤ 4096) (hx : x.held ≠ 0) (hy : y.held = 0) :
    allocA (two A (classN n) x y) n = (((classN n : Int), 1, (y.gen : Int) + 1), 0, two A (classN n) x ⟨y.gen + 1, 1, zer (classN n)⟩) := by
  rw [alloc_at (i := 1) (b := y) hn (by rw [two_c]; simp [freeAt, hx, hy]) (by rw [two_c]; rfl)]
  unfold two; rw [upd_twice, upd_same]; rfl
theorem right_first {A : Ar} {c : Nat} {x y : Blk} (hc : c < 4) (hx : x.held ≠ 0) : rightA (two A c x y) ((c : Int), 0, (x.gen : Int)) = some x :=
  right_some (i := 0) hc (by rw [two_c]; rfl) hx
theorem right_second {A : Ar} {c : Nat} {x y : Blk} (hc : c < 4) (hy : y.held ≠ 0) : rightA (two A c x y) ((c : Int), 1, (y.gen : Int)) = some y :=
  right_some (i := 1) hc (by rw [two_c]; rfl) hy
theorem right_gone {A : Ar} {c : Nat} {x y : Blk} {g : Int} (hc : c < 4) (h : (x.gen : Int) ≠ g ∨ x.held = 0) : rightA (two A c x y) ((c : Int), 0, g) = none :=
  right_old (i := 0) hc (by rw [two_c]; rfl) h
theorem put_first (A : Ar) (c : Nat) (x y b : Blk) (g : Int) : putA (two A c x y) ((c : Int), 0, g) b = two A c b y := by
  show putA (two A c x y) ((c : Int), ((0 : Nat) : Int), g) b = _
  rw [put_at, two_c]; unfold two; rw [upd_twice]; rfl

/-! All blocks of a class: SlabFills. The first k are taken, once each. -/
def filledL (n k : Nat) (c : Nat) : List Blk := List.replicate k ⟨1, 1, zer c⟩ ++ List.replicate (n - k) ⟨0, 0, []⟩
theorem filled_zero (n c : Nat) : filledL n 0 c = List.replicate n ⟨0, 0, []⟩ := by simp [filledL]
theorem filled_full (n c : Nat) : filledL n n c = List.replicate n ⟨1, 1, zer c⟩ := by simp [filledL]
theorem filled_free (n k c : Nat) (h : k < n) : freeAt (filledL n k c) = k ∧ (filledL n k c)[k]? = some ⟨0, 0, []⟩ := by
  have hl : (filledL n k c).length = n := by simp [filledL]; omega
  have hk : (filledL n k c)[k]? = some ⟨0, 0, []⟩ := by
    unfold filledL
    rw [List.getElem?_append_right (by simp), List.length_replicate, Nat.sub_self, List.getElem?_replicate, if_pos (by omega)]
  refine ⟨freeAt_is _ k (by omega) ?_ (fun i hi => ?_), hk⟩
  · have := List.getElem?_eq_some_iff.1 hk
    obtain ⟨h1, h2⟩ := this
    rw [h2]
  · have e : (filledL n k c)[i]? = some ⟨1, 1, zer c⟩ := by
      unfold filledL
      rw [List.getElem?_append_left (by rw [List.length_replicate]; exact hi), List.getElem?_replicate, if_pos hi]
    obtain ⟨h1, h2⟩ := List.getElem?_eq_some_iff.1 e
    rw [h2]; simp
theorem filled_set (n k c : Nat) (h : k < n) : (filledL n k c).set k ⟨1, 1, zer c⟩ = filledL n (k + 1) c := by
  unfold filledL
  rw [List.set_append_right _ _ (by simp)]
  obtain ⟨m, hm⟩ : ∃ m, n - k = m + 1 := ⟨n - k - 1, by omega⟩
  have e : n - (k + 1) = m := by omega
  rw [hm, e, List.length_replicate, Nat.sub_self, List.replicate_succ, List.set_cons_zero, List.replicate_succ' (n := k)]
  simp
theorem class_size {c : Nat} (hc : c < 4) : classN (sizeC c) = c ∧ sizeC c ≤ 4096 := by
  rcases (by omega : c = 0 ∨ c = 1 ∨ c = 2 ∨ c = 3) with rfl | rfl | rfl | rfl <;> decide
theorem alloc_filled {A : Ar} {n k c : Nat} (hc : c < 4) (h : k < n) : allocA (upd A c (filledL n k c)) (sizeC c : Nat) = (((c : Int), (k : Int), 1), 0, upd A c (filledL n (k + 1) c)) := by
  obtain ⟨e1, e2⟩ := class_size hc
  obtain ⟨f1, f2⟩ := filled_free n k c h
  have := alloc_at (A := upd A c (filledL n k c)) (n := sizeC c) (i := k) (b := ⟨0, 0, []⟩) e2 (by rw [e1, upd_same]; exact f1) (by rw [e1, upd_same]; exact f2)
  rw [this, e1, upd_same, upd_twice]
  show (_, _, upd A c ((filledL n k c).set k ⟨1, 1, zer c⟩)) = _
  rw [filled_set n k c h]
  rfl
/-- All are held once; the generations are these. -/
def gensL (gs : List Nat) (c : Nat) : List Blk := gs.map fun g => ⟨g, 1, zer c⟩
theorem full_gens (n c : Nat) : filledL n n c = gensL (List.replicate n 1) c := by rw [filled_full]; simp [gensL]
theorem gens_held {gs : List Nat} {c : Nat} : ∀ b ∈ gensL gs c, b.held ≠ 0 := by
  intro b hb
  obtain ⟨g, _, rfl⟩ := List.mem_map.1 hb
  simp
theorem alloc_gens {A : Ar} {gs : List Nat} {c : Nat} (hc : c < 4) : allocA (upd A c (gensL gs c)) (sizeC c : Nat) = ((0, 0, 0), 14, upd A c (gensL gs c)) := by
  obtain ⟨e1, e2⟩ := class_size hc
  exact alloc_full e2 (by rw [e1, upd_same]; exact gens_held)
theorem live_gens {A : Ar} {gs : List Nat} {c : Nat} (hc : c < 4) : liveA (upd A c (gensL gs c)) c = gs.length := by
  unfold liveA
  rw [if_pos (by omega), Int.toNat_natCast, upd_same]
  have e : (gensL gs c).countP (fun b => b.held != 0) = (gensL gs c).length := List.countP_eq_length.2 (fun b hb => by simp [gens_held b hb])
  rw [e]; simp [gensL]
/-- One is let go. -/
theorem drop_gens {A : Ar} {gs : List Nat} {c k g : Nat} (hc : c < 4) (hk : gs[k]? = some g) :
    dropA (upd A c (gensL gs c)) ((c : Int), (k : Int), (g : Int)) = (0, upd A c ((gensL gs c).set k ⟨g, 0, zer c⟩)) := by
  have hb : (upd A c (gensL gs c) c)[k]? = some ⟨g, 1, zer c⟩ := by rw [upd_same]; unfold gensL; rw [List.getElem?_map, hk]; rfl
  unfold dropA
  rw [right_some (b := ⟨g, 1, zer c⟩) hc hb (by simp)]
  show (0, putA _ _ _) = _
  rw [put_at, upd_same, upd_twice]
  rfl
/-- And taken anew: it is that one, one generation on. -/
theorem alloc_dropped {A : Ar} {gs : List Nat} {c k g : Nat} (hc : c < 4) (hk : gs[k]? = some g) :
    allocA (upd A c ((gensL gs c).set k ⟨g, 0, zer c⟩)) (sizeC c : Nat) = (((c : Int), (k : Int), (g : Int) + 1), 0, upd A c (gensL (gs.set k (g + 1)) c)) := by
  obtain ⟨e1, e2⟩ := class_size hc
  obtain ⟨hlt, hg⟩ := List.getElem?_eq_some_iff.1 hk
  have hl : k < (gensL gs c).length := by simp [gensL]; exact hlt
  have hb : ((gensL gs c).set k ⟨g, 0, zer c⟩)[k]? = some ⟨g, 0, zer c⟩ := by rw [List.getElem?_set_self hl]
  have hf : freeAt ((gensL gs c).set k ⟨g, 0, zer c⟩) = k := by
    refine freeAt_is _ k (by simpa using hl) (by simp) (fun i hi => ?_)
    rw [List.getElem_set_ne (by omega)]
    exact gens_held _ (List.getElem_mem _)
  rw [alloc_at (i := k) (b := ⟨g, 0, zer c⟩) e2 (by rw [e1, upd_same]; exact hf) (by rw [e1, upd_same]; exact hb), e1, upd_same, upd_twice, List.set_set]
  show (_, _, upd A c ((gensL gs c).set k ⟨g + 1, 1, zer c⟩)) = _
  have : (gensL gs c).set k ⟨g + 1, 1, zer c⟩ = gensL (gs.set k (g + 1)) c := by unfold gensL; rw [List.map_set]
  rw [this]

/-! One block of a class: SlabGens. -/
def one (A : Ar) (c : Nat) (x : Blk) : Ar := upd A c [x]
theorem one_c (A : Ar) (c : Nat) (x : Blk) : one A c x c = [x] := upd_same _ _ _
theorem alloc_one {A : Ar} {n : Nat} {x : Blk} (hn : n ≤ 4096) (hx : x.held = 0) :
    allocA (one A (classN n) x) n = (((classN n : Int), 0, (x.gen : Int) + 1), 0, one A (classN n) ⟨x.gen + 1, 1, zer (classN n)⟩) := by
  rw [alloc_at (i := 0) (b := x) hn (by rw [one_c]; simp [freeAt, hx]) (by rw [one_c]; rfl)]
  unfold one; rw [upd_twice, upd_same]; rfl
theorem right_one {A : Ar} {c : Nat} {x : Blk} (hc : c < 4) (hx : x.held ≠ 0) : rightA (one A c x) ((c : Int), 0, (x.gen : Int)) = some x :=
  right_some (i := 0) hc (by rw [one_c]; rfl) hx
theorem right_one_gone {A : Ar} {c : Nat} {x : Blk} {g : Int} (hc : c < 4) (h : (x.gen : Int) ≠ g ∨ x.held = 0) : rightA (one A c x) ((c : Int), 0, g) = none :=
  right_old (i := 0) hc (by rw [one_c]; rfl) h
theorem drop_one {A : Ar} {c : Nat} {x : Blk} (hc : c < 4) (hx : x.held ≠ 0) : dropA (one A c x) ((c : Int), 0, (x.gen : Int)) = (0, one A c { x with held := x.held - 1 }) := by
  unfold dropA
  rw [right_one hc hx]
  show (0, putA (one A c x) ((c : Int), ((0 : Nat) : Int), _) _) = _
  rw [put_at, one_c]; unfold one; rw [upd_twice]; rfl
end Go.Proofs.Ytbpadliiekhkjaa.Sl
