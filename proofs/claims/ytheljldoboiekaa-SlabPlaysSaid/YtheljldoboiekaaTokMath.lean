/-
  Plain functions on bytes, and what holds of them: blanks, trimming, small letters. No program, no condition.
-/
import Derived.Below
namespace Go.Proofs.Ytheljldoboiekaa.Tk

abbrev Bs := List UInt8

/-- A blank: a space or a tab. -/
def blank (c : UInt8) : Bool := c == 32 || c == 9
def ltrim (l : Bs) : Bs := l.dropWhile blank
def rtrim (l : Bs) : Bs := (l.reverse.dropWhile blank).reverse
def trim (l : Bs) : Bs := rtrim (ltrim l)
/-- The small letter of a byte. -/
def low (c : UInt8) : UInt8 := if 65 ≤ c.toNat ∧ c.toNat ≤ 90 then c + 32 else c
def lower (l : Bs) : Bs := l.map low

theorem blank_yes {c : UInt8} (h : blank c = true) : (c.toNat : Int) = 32 ∨ (c.toNat : Int) = 9 := by
  simp [blank] at h; rcases h with rfl | rfl <;> simp
theorem blank_no {c : UInt8} (h : blank c = false) : (c.toNat : Int) ≠ 32 ∧ (c.toNat : Int) ≠ 9 := by
  simp [blank] at h
  constructor
  · intro e; apply h.1; apply UInt8.toNat.inj; simpa using (by omega : c.toNat = 32)
  · intro e; apply h.2; apply UInt8.toNat.inj; simpa using (by omega : c.toNat = 9)

theorem low_up {c : UInt8} (h : 65 ≤ c.toNat ∧ c.toNat ≤ 90) : ((low c).toNat : Int) = (c.toNat : Int) + 32 := by
  unfold low; rw [if_pos h]; simp [UInt8.toNat_add]; omega
theorem low_id {c : UInt8} (h : ¬ (65 ≤ c.toNat ∧ c.toNat ≤ 90)) : low c = c := by unfold low; rw [if_neg h]
theorem low_low (c : UInt8) : low (low c) = low c := by
  by_cases h : 65 ≤ c.toNat ∧ c.toNat ≤ 90
  · have := low_up h; exact low_id (by omega)
  · rw [low_id h, low_id h]
theorem lower_lower (l : Bs) : lower (lower l) = lower l := by
  simp [lower, low_low]
theorem lower_length (l : Bs) : (lower l).length = l.length := by simp [lower]

/-! Trimming. -/
theorem ltrim_cons_blank {c : UInt8} (l : Bs) (h : blank c = true) : ltrim (c :: l) = ltrim l := by simp [ltrim, h]
theorem ltrim_cons_other {c : UInt8} (l : Bs) (h : blank c = false) : ltrim (c :: l) = c :: l := by simp [ltrim, h]
theorem rtrim_snoc_blank {c : UInt8} (l : Bs) (h : blank c = true) : rtrim (l ++ [c]) = rtrim l := by simp [rtrim, h]
theorem rtrim_snoc_other {c : UInt8} (l : Bs) (h : blank c = false) : rtrim (l ++ [c]) = l ++ [c] := by simp [rtrim, h]
theorem rtrim_nil : rtrim [] = [] := rfl
theorem ltrim_nil : ltrim [] = [] := rfl

theorem snoc_cases (l : Bs) : l = [] ∨ ∃ i c, l = i ++ [c] := by
  rcases List.eq_nil_or_concat l with h | ⟨i, c, h⟩
  · exact .inl h
  · exact .inr ⟨i, c, by rw [h, List.concat_eq_append]⟩
/-- The last byte is no blank, or there is none. -/
theorem rtrim_end (l : Bs) : rtrim l = [] ∨ ∃ i c, rtrim l = i ++ [c] ∧ blank c = false := by
  induction hn : l.length generalizing l with
  | zero => left; rw [List.length_eq_zero_iff] at hn; subst hn; rfl
  | succ n ih =>
    rcases snoc_cases l with rfl | ⟨i, c, rfl⟩
    · left; rfl
    · by_cases h : blank c = true
      · rw [rtrim_snoc_blank i h]; exact ih i (by simpa using hn)
      · right; have h' : blank c = false := by simpa using h
        exact ⟨i, c, rtrim_snoc_other i h', h'⟩
theorem ltrim_begin (l : Bs) : ltrim l = [] ∨ ∃ c t, ltrim l = c :: t ∧ blank c = false := by
  induction l with
  | nil => left; rfl
  | cons c t ih =>
    by_cases h : blank c = true
    · rw [ltrim_cons_blank t h]; exact ih
    · have h' : blank c = false := by simpa using h
      right; exact ⟨c, t, ltrim_cons_other t h', h'⟩
theorem rtrim_idem (l : Bs) : rtrim (rtrim l) = rtrim l := by
  rcases rtrim_end l with h | ⟨i, c, h, hc⟩
  · rw [h]; rfl
  · rw [h, rtrim_snoc_other i hc]
theorem rtrim_cons_other {c : UInt8} (t : Bs) (h : blank c = false) : ∃ t', rtrim (c :: t) = c :: t' := by
  induction hn : t.length generalizing t with
  | zero =>
    rw [List.length_eq_zero_iff] at hn; subst hn
    exact ⟨[], rtrim_snoc_other [] h⟩
  | succ n ih =>
    rcases snoc_cases t with rfl | ⟨i, d, rfl⟩
    · simp at hn
    · by_cases hd : blank d = true
      · obtain ⟨t', ht⟩ := ih i (by simpa using hn)
        refine ⟨t', ?_⟩
        rw [← ht]; exact rtrim_snoc_blank (c :: i) hd
      · have hd' : blank d = false := by simpa using hd
        exact ⟨i ++ [d], rtrim_snoc_other (c :: i) hd'⟩
theorem ltrim_rtrim_ltrim (l : Bs) : ltrim (rtrim (ltrim l)) = rtrim (ltrim l) := by
  rcases ltrim_begin l with h | ⟨c, t, h, hc⟩
  · rw [h]; rfl
  · rw [h]; obtain ⟨t', ht⟩ := rtrim_cons_other t hc
    rw [ht, ltrim_cons_other t' hc]
theorem trim_trim (l : Bs) : trim (trim l) = trim l := by
  unfold trim; rw [ltrim_rtrim_ltrim, rtrim_idem]
theorem trim_cons_blank {c : UInt8} (l : Bs) (h : blank c = true) : trim (c :: l) = trim l := by
  unfold trim; rw [ltrim_cons_blank l h]
theorem ltrim_snoc_blank {c : UInt8} (l : Bs) (h : blank c = true) : rtrim (ltrim (l ++ [c])) = rtrim (ltrim l) := by
  induction l with
  | nil => simp only [List.nil_append]; rw [ltrim_cons_blank [] h]
  | cons d t ih =>
    by_cases hd : blank d = true
    · rw [List.cons_append, ltrim_cons_blank _ hd, ltrim_cons_blank _ hd]; exact ih
    · have hd' : blank d = false := by simpa using hd
      rw [List.cons_append, ltrim_cons_other _ hd', ltrim_cons_other _ hd']
      exact rtrim_snoc_blank (d :: t) h
theorem trim_snoc_blank {c : UInt8} (l : Bs) (h : blank c = true) : trim (l ++ [c]) = trim l := ltrim_snoc_blank l h
/-- What is trimmed is empty, or has no blank at either end. -/
theorem trim_ends (l : Bs) : trim l = [] ∨ ((∃ c t, trim l = c :: t ∧ blank c = false) ∧ ∃ i c, trim l = i ++ [c] ∧ blank c = false) := by
  unfold trim
  rcases ltrim_begin l with h | ⟨c, t, h, hc⟩
  · left; rw [h]; rfl
  · right
    refine ⟨?_, ?_⟩
    · rw [h]; obtain ⟨t', ht⟩ := rtrim_cons_other t hc; exact ⟨c, t', ht, hc⟩
    · rcases rtrim_end (ltrim l) with h2 | h2
      · rw [h] at h2; obtain ⟨t', ht⟩ := rtrim_cons_other t hc; rw [ht] at h2; cases h2
      · exact h2
theorem rtrim_length (l : Bs) : (rtrim l).length ≤ l.length := by
  unfold rtrim; simp; exact Nat.le_trans (List.dropWhile_sublist _).length_le (by simp)
theorem trim_length (l : Bs) : (trim l).length ≤ l.length := by
  unfold trim ltrim; exact Nat.le_trans (rtrim_length _) (List.dropWhile_sublist _).length_le

/-- The loops of a trim over indices: from the left .. -/
theorem ltrim_drop_step (l : Bs) (k : Nat) (hk : k < l.length) (h : blank l[k] = true) : ltrim (l.drop k) = ltrim (l.drop (k + 1)) := by
  rw [List.drop_eq_getElem_cons hk, ltrim_cons_blank _ h]
theorem ltrim_drop_stop (l : Bs) (k : Nat) (hk : k < l.length) (h : blank l[k] = false) : ltrim (l.drop k) = l.drop k := by
  rw [List.drop_eq_getElem_cons hk, ltrim_cons_other _ h]
/-- .. and from the right. -/
theorem part_snoc (l : Bs) (k m : Nat) (hk : k < m) (hm : m ≤ l.length) : (l.take m).drop k = (l.take (m - 1)).drop k ++ [l[m - 1]'(by omega)] := by
  have h1 : l.take m = l.take (m - 1) ++ [l[m - 1]'(by omega)] := by
    have := List.take_succ_eq_append_getElem (l := l) (i := m - 1) (by omega)
    rwa [show m - 1 + 1 = m from by omega] at this
  rw [h1, List.drop_append_of_le_length (by simp; omega)]
theorem rtrim_part_step (l : Bs) (k m : Nat) (hk : k < m) (hm : m ≤ l.length) (h : blank (l[m - 1]'(by omega)) = true) : rtrim ((l.take m).drop k) = rtrim ((l.take (m - 1)).drop k) := by
  rw [part_snoc l k m hk hm, rtrim_snoc_blank _ h]
theorem rtrim_part_stop (l : Bs) (k m : Nat) (hk : k < m) (hm : m ≤ l.length) (h : blank (l[m - 1]'(by omega)) = false) : rtrim ((l.take m).drop k) = (l.take m).drop k := by
  rw [part_snoc l k m hk hm, rtrim_snoc_other _ h]
theorem part_all (l : Bs) (k : Nat) : (l.take l.length).drop k = l.drop k := by rw [List.take_length]
theorem part_none (l : Bs) (k : Nat) : rtrim ((l.take k).drop k) = (l.take k).drop k := by
  have : (l.take k).drop k = [] := by rw [List.drop_eq_nil_iff]; exact List.length_take_le _ _
  rw [this]; rfl
theorem part_get (l : Bs) (k m j : Nat) (hm : m ≤ l.length) (hj : j < ((l.take m).drop k).length) : ((l.take m).drop k)[j] = l[k + j]'(by simp at hj; omega) := by
  simp
theorem part_length (l : Bs) (k m : Nat) (hm : m ≤ l.length) : ((l.take m).drop k).length = m - k := by
  simp; omega
end Go.Proofs.Ytheljldoboiekaa.Tk
