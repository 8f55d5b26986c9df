/-
  Tags of versions and conditions on them, as plain functions on bytes; and what the laws of layer 12 say of them. A date's reading is a function that they are told. No program, no condition.
-/
import Derived.Test.YtledjiikpajdaaaTokSplitMath
import Derived.Test.YtledjiikpajdaaaFdMath
namespace Go.Proofs.Ytledjiikpajdaaa.Vd
open Go.Proofs.Ytledjiikpajdaaa.Tk Go.Proofs.Ytledjiikpajdaaa.Fd
set_option linter.unusedVariables false
set_option linter.unusedSimpArgs false

abbrev Tag := Bool × Bs
def tagByte (c : UInt8) : Bool := decide (33 ≤ c.toNat) && c != 34 && c != 92 && c != 127
/-- What stands between two quotes. -/
def inner (s : Bs) : Bs := (s.drop 1).dropLast
def body (s : Bs) : Option Bs := if 2 ≤ s.length ∧ s.head? = some 34 ∧ s.getLast? = some 34 ∧ (inner s).all tagByte = true then some (inner s) else none
def parseTag (s : Bs) : Option Tag := if 2 < s.length ∧ s.take 2 = [87, 47] then (body (s.drop 2)).map fun t => (true, t) else (body s).map fun t => (false, t)
def tagOf (s : Bs) : Tag := (parseTag s).getD (false, [])
def weakT (x y : Tag) : Bool := x.2 == y.2
def strongT (x y : Tag) : Bool := !x.1 && !y.1 && x.2 == y.2
theorem body_shape {s t : Bs} (h : body s = some t) : s = 34 :: (t ++ [34]) := by
  unfold body at h
  split at h
  · rename_i h0
    injection h with h
    obtain ⟨h1, h2, h3, _⟩ := h0
    subst h
    cases s with
    | nil => simp at h1
    | cons c r =>
      have hc : c = 34 := by simpa using h2
      subst hc
      have hr : r ≠ [] := by rintro rfl; simp at h1
      have hl : r.getLast? = some 34 := by
        rw [List.getLast?_cons] at h3
        cases hg : r.getLast? with
        | none => exact absurd (List.getLast?_eq_none_iff.1 hg) hr
        | some d => rw [hg] at h3; simpa using h3
      obtain ⟨i, rfl⟩ := List.getLast?_eq_some_iff.1 hl
      simp [inner]
  · cases h
theorem strong_weak {x y : Tag} (h : strongT x y = true) : weakT x y = true ∧ x.1 = false ∧ y.1 = false := by
  unfold strongT at h
  simp only [Bool.and_eq_true, Bool.not_eq_true'] at h
  exact ⟨h.2, h.1.1, h.1.2⟩
theorem parse_plain {s : Bs} {t : Tag} (h : parseTag s = some t) (ht : t.1 = false) : s = 34 :: (t.2 ++ [34]) := by
  unfold parseTag at h
  split at h
  · rw [Option.map_eq_some_iff] at h
    obtain ⟨u, _, rfl⟩ := h
    cases ht
  · rw [Option.map_eq_some_iff] at h
    obtain ⟨u, hu, rfl⟩ := h
    exact body_shape hu
/-- Two tags that are alike as strong ones are one text. -/
theorem strong_same {a b : Bs} {x y : Tag} (ha : parseTag a = some x) (hb : parseTag b = some y) (h : strongT x y = true) : a = b := by
  obtain ⟨h1, h2, h3⟩ := strong_weak h
  rw [parse_plain ha h2, parse_plain hb h3]
  unfold weakT at h1
  rw [eq_of_beq h1]
theorem strong_comm (x y : Tag) : strongT x y = strongT y x := by
  unfold strongT
  rw [show (y.2 == x.2) = (x.2 == y.2) from Bool.eq_iff_iff.2 (by rw [beq_iff_eq, beq_iff_eq]; exact eq_comm)]
  cases x.1 <;> cases y.1 <;> rfl
theorem weak_comm (x y : Tag) : weakT x y = weakT y x := by
  unfold weakT
  exact Bool.eq_iff_iff.2 (by rw [beq_iff_eq, beq_iff_eq]; exact eq_comm)
theorem weak_self (x : Tag) : weakT x x = true := by unfold weakT; simp
theorem strong_self (x : Tag) : strongT x x = !x.1 := by unfold strongT; simp
theorem empty_weak : parseTag [87, 47, 34, 34] = some (true, []) := by decide
theorem a_weak : parseTag [87, 47, 34, 97, 34] = some (true, [97]) := by decide
/-- What does not begin as one is none. -/
theorem no_tag {s : Bs} (h1 : s.head? ≠ some 34) (h2 : s.take 2 ≠ [87, 47]) : parseTag s = none := by
  unfold parseTag
  rw [if_neg (fun h => h2 h.2)]
  have : body s = none := by unfold body; rw [if_neg (fun h => h1 h.2.1)]
  rw [this]; rfl

/-! Conditions. -/
def getM : Bs := [71, 69, 84]
def headM : Bs := [72, 69, 65, 68]
def inmL : Bs := [105, 102, 45, 110, 111, 110, 101, 45, 109, 97, 116, 99, 104]
def imsL : Bs := [105, 102, 45, 109, 111, 100, 105, 102, 105, 101, 100, 45, 115, 105, 110, 99, 101]
def ifrL : Bs := [105, 102, 45, 114, 97, 110, 103, 101]
def rngL : Bs := [114, 97, 110, 103, 101]
def sameTag (own : Tag) (x : Bs) : Bool := match parseTag x with
  | some t => weakT t own
  | none => false
def tagsOk (s tag : Bs) : Bool := s == [42] || (match parseTag tag, splitOf s with
  | some own, some l => l.any (sameTag own)
  | _, _ => false)
def sinceOk (P : Bs → Option Int) (s : Bs) (md : Int) : Bool := match P s with
  | some d => decide (0 ≤ md ∧ md ≤ d)
  | none => false
def unchangedOf (P : Bs → Option Int) (meth : Bs) (fs : List Fl) (tag : Bs) (md : Int) : Bool :=
  if meth ≠ getM ∧ meth ≠ headM then false
  else if 0 < getN fs inmL then tagsOk (getT fs inmL) tag
  else decide (getN fs imsL = 1) && sinceOk P (getT fs imsL) md
def ifrOk (P : Bs → Option Int) (s tag : Bs) (md : Int) : Bool := match parseTag s with
  | some t => (match parseTag tag with
    | some own => strongT t own
    | none => false)
  | none => match P s with
    | some d => decide (md = d)
    | none => false
def appliesOf (P : Bs → Option Int) (meth : Bs) (fs : List Fl) (tag : Bs) (md : Int) : Bool :=
  if meth ≠ getM ∨ getN fs rngL ≠ 1 then false
  else if getN fs ifrL ≠ 1 then decide (getN fs ifrL = 0)
  else ifrOk P (getT fs ifrL) tag md

/-! Seconds. -/
def imsU : ByteArray := ⟨#[73, 102, 45, 77, 111, 100, 105, 102, 105, 101, 100, 45, 83, 105, 110, 99, 101]⟩
def inmU : ByteArray := ⟨#[73, 102, 45, 78, 111, 110, 101, 45, 77, 97, 116, 99, 104]⟩
def ifrU : ByteArray := ⟨#[73, 102, 45, 82, 97, 110, 103, 101]⟩
def rngU : ByteArray := ⟨#[82, 97, 110, 103, 101]⟩
def xV : ByteArray := ⟨#[34, 120, 34]⟩
def xB : ByteArray := ⟨#[120]⟩
theorem times_since (P : Bs → Option Int) (s : ByteArray) {at_ since : Int} (h0 : 0 ≤ at_) (hP : P s.data.toList = some since) : unchangedOf P getM [(imsU, s)] [] at_ = decide (at_ ≤ since) := by
  have h1 : ∀ v : ByteArray, has inmL (imsU, v) = false := fun v => (show alike imsU.data.toList inmL = false from by decide +kernel)
  have h2 : ∀ v : ByteArray, has imsL (imsU, v) = true := fun v => (show alike imsU.data.toList imsL = true from by decide +kernel)
  have e1 : getN [(imsU, s)] inmL = 0 := by unfold getN sel; simp [h1]
  have e2 : getN [(imsU, s)] imsL = 1 := by unfold getN sel; simp [h2]
  have e3 : getT [(imsU, s)] imsL = s.data.toList := by unfold getT sel; simp [h2, joinC]
  unfold unchangedOf
  rw [if_neg (by decide), e1, if_neg (by omega), e2, e3]
  unfold sinceOk
  rw [hP]
  simp [h0]
theorem times_tag (P : Bs → Option Int) (s : ByteArray) (at_ : Int) : unchangedOf P getM [(imsU, s), (inmU, xV)] [] at_ = false := by
  have h1 : ∀ v : ByteArray, has inmL (imsU, v) = false := fun v => (show alike imsU.data.toList inmL = false from by decide +kernel)
  have h2 : has inmL (inmU, xV) = true := by decide +kernel
  have e1 : getN [(imsU, s), (inmU, xV)] inmL = 1 := by unfold getN sel; simp [h1, h2]
  have e3 : getT [(imsU, s), (inmU, xV)] inmL = xV.data.toList := by unfold getT sel; simp [h1, h2, joinC]
  unfold unchangedOf
  rw [if_neg (by decide), e1, if_pos (by omega), e3]
  rfl
theorem times_range (P : Bs → Option Int) (s : ByteArray) {at_ since : Int} (ht : parseTag s.data.toList = none) (hP : P s.data.toList = some since) : appliesOf P getM [(ifrU, s), (rngU, xB)] [] at_ = decide (at_ = since) := by
  have h1 : ∀ v : ByteArray, has rngL (ifrU, v) = false := fun v => (show alike ifrU.data.toList rngL = false from by decide +kernel)
  have h2 : ∀ v : ByteArray, has ifrL (ifrU, v) = true := fun v => (show alike ifrU.data.toList ifrL = true from by decide +kernel)
  have h3 : has rngL (rngU, xB) = true := by decide +kernel
  have h4 : has ifrL (rngU, xB) = false := by decide +kernel
  have e1 : getN [(ifrU, s), (rngU, xB)] rngL = 1 := by unfold getN sel; simp [h1, h3]
  have e2 : getN [(ifrU, s), (rngU, xB)] ifrL = 1 := by unfold getN sel; simp [h2, h4]
  have e3 : getT [(ifrU, s), (rngU, xB)] ifrL = s.data.toList := by unfold getT sel; simp [h2, h4, joinC]
  unfold appliesOf
  rw [e1, e2, e3, if_neg (by decide), if_neg (by decide)]
  unfold ifrOk
  rw [ht, hP]
theorem times_bare (P : Bs → Option Int) (at_ : Int) : appliesOf P getM [(rngU, xB)] [] at_ = true := by
  have e1 : getN [(rngU, xB)] rngL = 1 := by decide +kernel
  have e2 : getN [(rngU, xB)] ifrL = 0 := by decide +kernel
  unfold appliesOf
  rw [e1, e2, if_neg (by decide), if_pos (by decide)]
  rfl
end Go.Proofs.Ytledjiikpajdaaa.Vd
