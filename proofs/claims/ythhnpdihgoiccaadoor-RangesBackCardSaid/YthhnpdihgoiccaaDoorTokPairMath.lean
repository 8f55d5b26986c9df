/-
  Pairs, quoted texts and quoting: plain functions on bytes, and their steps. No program, no condition.
-/
import Derived.Test.YthhnpdihgoiccaaDoorTokIsMath
import Derived.Test.YthhnpdihgoiccaaDoorTokSplitMath
import Derived.Lib.Bytealg
namespace Go.Proofs.YthhnpdihgoiccaaDoor.Tk

/-- Where the first = stands; the length, if there is none. -/
def eqIdx : Bs → Nat
  | [] => 0
  | c :: r => if c = 61 then 0 else eqIdx r + 1
theorem eqIdx_le (l : Bs) : eqIdx l ≤ l.length := by
  induction l with
  | nil => exact Nat.le_refl _
  | cons c r ih => unfold eqIdx; split <;> simp; omega
theorem eqIdx_at (l : Bs) (h : eqIdx l < l.length) : l[eqIdx l] = 61 := by
  induction l with
  | nil => simp at h
  | cons c r ih =>
    unfold eqIdx at h ⊢
    by_cases hc : c = 61
    · simp [hc]
    · simp only [hc, if_false] at h ⊢
      simp only [List.length_cons] at h
      exact ih (by omega)
theorem eqIdx_before (l : Bs) (j : Nat) (hj : j < eqIdx l) : l[j]'(by have := eqIdx_le l; omega) ≠ 61 := by
  induction l generalizing j with
  | nil => simp [eqIdx] at hj
  | cons c r ih =>
    by_cases hc : c = 61
    · simp [eqIdx, hc] at hj
    · cases j with
      | zero => simpa using hc
      | succ j =>
        simp only [eqIdx, hc, if_false] at hj
        simpa using ih j (by omega)
/-- A place ahead of which there is no =, and which has one, or is the end. -/
theorem eqIdx_is (l : Bs) (k : Nat) (hk : k ≤ l.length) (h1 : ∀ j (hj : j < k), l[j]'(by omega) ≠ 61) (h2 : ∀ h : k < l.length, l[k] = 61) : eqIdx l = k := by
  rcases Nat.lt_trichotomy (eqIdx l) k with h | h | h
  · exact absurd (eqIdx_at l (by omega)) (h1 _ h)
  · exact h
  · have := eqIdx_le l
    exact absurd (h2 (by omega)) (eqIdx_before l k h)
theorem indexByte_eq (l : Bs) : Lib.indexByte l 61 = if eqIdx l < l.length then (eqIdx l : Int) else -1 := by
  induction l with
  | nil => simp [Lib.indexByte, eqIdx]
  | cons c r ih =>
    unfold Lib.indexByte eqIdx
    by_cases hc : c = 61
    · simp [hc]
    · have hc' : (c == 61) = false := by simpa using hc
      simp only [hc', hc, if_false, ih, List.length_cons, Bool.false_eq_true]
      by_cases h : eqIdx r < r.length
      · have h2 : eqIdx r + 1 < r.length + 1 := by omega
        have h3 : (((eqIdx r : Nat) : Int) == -1) = false := beq_eq_false_iff_ne.2 (by omega)
        simp only [h, h2, if_true, h3, Bool.false_eq_true, if_false]; omega
      · have h2 : ¬ eqIdx r + 1 < r.length + 1 := by omega
        simp [h, h2]

/-- What stands behind the first quote of a quoted text. -/
def unqGo : Bs → Option Bs
  | [] => none
  | c :: r =>
    if c = 34 then (if r = [] then some [] else none)
    else if c = 92 then
      match r with
      | [] => none
      | d :: r' => if textByte d then (unqGo r').map (d :: ·) else none
    else if textByte c then (unqGo r).map (c :: ·) else none
def unq : Bs → Option Bs
  | [] => none
  | c :: r => if c = 34 then unqGo r else none
theorem unqGo_nil : unqGo [] = none := by rw [unqGo.eq_def]
theorem unqGo_last : unqGo [34] = some [] := by rw [unqGo.eq_def]; simp
theorem unqGo_early (r : Bs) (h : r ≠ []) : unqGo (34 :: r) = none := by rw [unqGo.eq_def]; simp [h]
theorem unqGo_back1 : unqGo [92] = none := by rw [unqGo.eq_def]; simp
theorem unqGo_back (d : UInt8) (r : Bs) (h : textByte d = true) : unqGo (92 :: d :: r) = (unqGo r).map (d :: ·) := by rw [unqGo.eq_def]; simp [h]
theorem unqGo_backno (d : UInt8) (r : Bs) (h : textByte d = false) : unqGo (92 :: d :: r) = none := by rw [unqGo.eq_def]; simp [h]
theorem unqGo_other (c : UInt8) (r : Bs) (h1 : c ≠ 34) (h2 : c ≠ 92) (h : textByte c = true) : unqGo (c :: r) = (unqGo r).map (c :: ·) := by rw [unqGo.eq_def]; simp [h1, h2, h]
theorem unqGo_otherno (c : UInt8) (r : Bs) (h1 : c ≠ 34) (h2 : c ≠ 92) (h : textByte c = false) : unqGo (c :: r) = none := by rw [unqGo.eq_def]; simp [h1, h2, h]
/-- A quoted text ends with a quote. -/
theorem unqGo_end : ∀ (n : Nat) (r : Bs), r.length ≤ n → ∀ u, unqGo r = some u → ∃ i, r = i ++ [34]
  | 0, r, h, u, hu => by
    have : r = [] := List.length_eq_zero_iff.1 (by omega)
    subst this; rw [unqGo_nil] at hu; cases hu
  | n + 1, r, h, u, hu => by
    match r with
    | [] => rw [unqGo_nil] at hu; cases hu
    | c :: r =>
      by_cases h1 : c = 34
      · subst h1
        by_cases hr : r = []
        · subst hr; exact ⟨[], rfl⟩
        · rw [unqGo_early r hr] at hu; cases hu
      · by_cases h2 : c = 92
        · subst h2
          match r with
          | [] => rw [unqGo_back1] at hu; cases hu
          | d :: r' =>
            cases hd : textByte d with
            | false => rw [unqGo_backno d r' hd] at hu; cases hu
            | true =>
              rw [unqGo_back d r' hd, Option.map_eq_some_iff] at hu
              obtain ⟨x, hx, _⟩ := hu
              obtain ⟨i, hi⟩ := unqGo_end n r' (by simp at h; omega) x hx
              exact ⟨92 :: d :: i, by rw [hi]; rfl⟩
        · cases hc : textByte c with
          | false => rw [unqGo_otherno c r h1 h2 hc] at hu; cases hu
          | true =>
            rw [unqGo_other c r h1 h2 hc, Option.map_eq_some_iff] at hu
            obtain ⟨x, hx, _⟩ := hu
            obtain ⟨i, hi⟩ := unqGo_end n r (by simp at h; omega) x hx
            exact ⟨c :: i, by rw [hi]; rfl⟩
theorem unq_notail (l : Bs) (h : 1 < l.length) (hl : l[l.length - 1] ≠ 34) : unq l = none := by
  match l, h, hl with
  | c :: r, h, hl =>
    unfold unq
    by_cases hc : c = 34
    · simp only [hc, if_true]
      cases hu : unqGo r with
      | none => rfl
      | some u =>
        obtain ⟨i, hi⟩ := unqGo_end _ r (Nat.le_refl _) u hu
        exfalso; apply hl; subst hi; simp
    · simp [hc]
theorem unq_short (l : Bs) (h : l.length ≤ 1) : unq l = none := by
  match l with
  | [] => rfl
  | [c] =>
    by_cases hc : c = 34
    · simp [unq, hc, unqGo_nil]
    · simp [unq, hc]
  | _ :: _ :: _ => simp at h
theorem unq_nohead (l : Bs) (h : 0 < l.length) (hl : l[0] ≠ 34) : unq l = none := by
  match l, h, hl with
  | c :: r, h, hl => unfold unq; simp at hl; simp [hl]
theorem unq_head (l : Bs) (h : 0 < l.length) (hl : l[0] = 34) : unq l = unqGo (l.drop 1) := by
  match l, h, hl with
  | c :: r, h, hl => unfold unq; simp at hl; simp [hl]

/-- What has been read of a quoted text so far, and what is left. -/
def Rest (l : Bs) (acc : Bs) (i : Nat) : Prop := unq l = (unqGo (l.drop i)).map (acc ++ ·)
theorem Rest.start {l : Bs} (h : 0 < l.length) (hl : l[0] = 34) : Rest l [] 1 := by
  show unq l = _; rw [unq_head l h hl]; cases unqGo (l.drop 1) <;> simp
theorem map_snoc (o : Option Bs) (acc : Bs) (d : UInt8) : (o.map (d :: ·)).map (acc ++ ·) = o.map (acc ++ [d] ++ ·) := by cases o <;> simp
theorem Rest.other {l acc : Bs} {i : Nat} (h : Rest l acc i) (hi : i < l.length) (h1 : l[i] ≠ 34) (h2 : l[i] ≠ 92) (ht : textByte l[i] = true) : Rest l (acc ++ [l[i]]) (i + 1) := by
  unfold Rest at *; rw [h, drop_at l i hi, unqGo_other _ _ h1 h2 ht, map_snoc]
theorem Rest.otherno {l acc : Bs} {i : Nat} (h : Rest l acc i) (hi : i < l.length) (h1 : l[i] ≠ 34) (h2 : l[i] ≠ 92) (ht : textByte l[i] = false) : unq l = none := by
  unfold Rest at h; rw [h, drop_at l i hi, unqGo_otherno _ _ h1 h2 ht]; rfl
theorem Rest.back {l acc : Bs} {i : Nat} (h : Rest l acc i) (hi : i + 1 < l.length) (h2 : l[i] = 92) (ht : textByte l[i + 1] = true) : Rest l (acc ++ [l[i + 1]]) (i + 2) := by
  unfold Rest at *; rw [h, drop_at l i (by omega), h2, drop_at l (i + 1) hi, unqGo_back _ _ ht, map_snoc]
theorem Rest.backno {l acc : Bs} {i : Nat} (h : Rest l acc i) (hi : i + 1 < l.length) (h2 : l[i] = 92) (ht : textByte l[i + 1] = false) : unq l = none := by
  unfold Rest at h; rw [h, drop_at l i (by omega), h2, drop_at l (i + 1) hi, unqGo_backno _ _ ht]; rfl
theorem Rest.back1 {l acc : Bs} {i : Nat} (h : Rest l acc i) (hi : i + 1 = l.length) (h2 : l[i] = 92) : unq l = none := by
  unfold Rest at h
  have : l.drop (i + 1) = [] := List.drop_eq_nil_of_le (by omega)
  rw [h, drop_at l i (by omega), h2, this, unqGo_back1]; rfl
theorem Rest.backEnd {l acc : Bs} {i : Nat} (h : Rest l acc i) (hi : i + 2 = l.length) (h2 : l[i] = 92) : unq l = none := by
  unfold Rest at h
  have : l.drop (i + 1 + 1) = [] := List.drop_eq_nil_of_le (by omega)
  rw [h, drop_at l i (by omega), h2, drop_at l (i + 1) (by omega), this]
  cases ht : textByte l[i + 1] with
  | true => rw [unqGo_back _ _ ht, unqGo_nil]; rfl
  | false => rw [unqGo_backno _ _ ht]; rfl
theorem Rest.early {l acc : Bs} {i : Nat} (h : Rest l acc i) (hi : i + 1 < l.length) (h1 : l[i] = 34) : unq l = none := by
  unfold Rest at h
  rw [h, drop_at l i (by omega), h1, unqGo_early _ (by intro e; have := congrArg List.length e; simp at this; omega)]; rfl
theorem Rest.stop {l acc : Bs} {i : Nat} (h : Rest l acc i) (hi : i + 1 = l.length) (h1 : l[i] = 34) : unq l = some acc := by
  unfold Rest at h
  have : l.drop (i + 1) = [] := List.drop_eq_nil_of_le (by omega)
  rw [h, drop_at l i (by omega), h1, this, unqGo_last]; simp
theorem Rest.none {l acc : Bs} {i : Nat} (h : Rest l acc i) (hi : l.length ≤ i) : unq l = none := by
  unfold Rest at h; rw [h, List.drop_eq_nil_of_le hi, unqGo_nil]; rfl

/-- An element's name, and its value if it has one. -/
def pairOf (l : Bs) : Option (Bs × Option Bs) :=
  if isTok (l.take (eqIdx l)) = false then none
  else if eqIdx l = l.length then some (l, none)
  else if isTok (l.drop (eqIdx l + 1)) then some (l.take (eqIdx l), some (l.drop (eqIdx l + 1)))
  else (unq (l.drop (eqIdx l + 1))).map fun u => (l.take (eqIdx l), some u)

/-- A byte in a quoted text. -/
def esc (c : UInt8) : Bs := if c = 34 ∨ c = 92 then [92, c] else [c]
def quoteOf (l : Bs) : Option Bs := if l.all textByte then some (34 :: (l.flatMap esc ++ [34])) else none
theorem esc_length (l : Bs) : (l.flatMap esc).length ≤ 2 * l.length := by
  induction l with
  | nil => simp
  | cons c r ih =>
    have : (esc c).length ≤ 2 := by unfold esc; split <;> simp
    simp only [List.flatMap_cons, List.length_append, List.length_cons]; omega
theorem esc_snoc (s : ByteArray) (k : Nat) (hk : k < s.size) : (s.data.toList.take (k + 1)).flatMap esc = (s.data.toList.take k).flatMap esc ++ esc s[k] := by
  rw [take_snoc s k hk, List.flatMap_append]; simp
end Go.Proofs.YthhnpdihgoiccaaDoor.Tk
