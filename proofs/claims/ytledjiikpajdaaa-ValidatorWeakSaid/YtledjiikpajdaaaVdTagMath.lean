/-
  A tag's text as the program cuts it (two prefixes and a suffix), and as the reference does (by places): both are the plain function. No program, no condition.
-/
import Derived.Test.YtledjiikpajdaaaVdMath
import Derived.Lib.Strings
namespace Go.Proofs.Ytledjiikpajdaaa.Vd
open Go.Proofs.Ytledjiikpajdaaa.Tk Go.Proofs.Ytledjiikpajdaaa.Fd
set_option linter.unusedVariables false
set_option linter.unusedSimpArgs false

/-- What is left behind W/ (or all), and what is left behind a quote. -/
def quotedL (s : Bs) : Bs := Lib.trimPrefix s [87, 47]
def openL (s : Bs) : Bs := Lib.trimPrefix (quotedL s) [34]
def textL (s : Bs) : Bs := Lib.trimSuffix (openL s) [34]
def beginsL (s : Bs) : Bool := Lib.hasPrefix (quotedL s) [34]
def endsL (s : Bs) : Bool := Lib.hasSuffix (openL s) [34]
def weakL (s : Bs) : Bool := Lib.hasPrefix s [87, 47]
theorem prefix_two (s : Bs) : weakL s = decide (s.take 2 = [87, 47]) := by
  unfold weakL Lib.hasPrefix
  match s with
  | [] => simp
  | [a] => simp [List.isPrefixOf]
  | a :: b :: r => 
    simp only [List.isPrefixOf, List.take_succ_cons, List.take_zero, List.cons.injEq, and_true]
    rw [Bool.eq_iff_iff]
    simp only [Bool.and_eq_true, beq_iff_eq, decide_eq_true_iff, Bool.and_true]
    constructor <;> rintro ⟨rfl, rfl⟩ <;> exact ⟨rfl, rfl⟩
theorem prefix_one (s : Bs) : Lib.hasPrefix s [34] = decide (s.head? = some 34) := by
  unfold Lib.hasPrefix
  cases s with
  | nil => simp
  | cons a r =>
    simp only [List.isPrefixOf, List.head?_cons, Option.some.injEq, Bool.and_true]
    rw [Bool.eq_iff_iff, beq_iff_eq, decide_eq_true_iff]
    exact ⟨Eq.symm, Eq.symm⟩
theorem suffix_one (s : Bs) : Lib.hasSuffix s [34] = decide (s.getLast? = some 34) := by
  unfold Lib.hasSuffix
  rw [Bool.eq_iff_iff, List.isSuffixOf_iff_suffix, decide_eq_true_iff]
  constructor
  · rintro ⟨t, rfl⟩; simp
  · intro h
    obtain ⟨i, rfl⟩ := List.getLast?_eq_some_iff.1 h
    exact ⟨i, rfl⟩
theorem quoted_eq (s : Bs) : quotedL s = if weakL s then s.drop 2 else s := rfl
/-- What stands between the quotes of a text, cut in the program's way. -/
theorem body_cut (q : Bs) : body q = if Lib.hasPrefix q [34] && Lib.hasSuffix (Lib.trimPrefix q [34]) [34] && (Lib.trimSuffix (Lib.trimPrefix q [34]) [34]).all tagByte then some (Lib.trimSuffix (Lib.trimPrefix q [34]) [34]) else none := by
  unfold body
  cases q with
  | nil => simp [Lib.hasPrefix]
  | cons a r =>
    by_cases ha : a = 34
    · subst ha
      have h1 : Lib.hasPrefix (34 :: r) [34] = true := by rw [prefix_one]; simp
      have h2 : Lib.trimPrefix (34 :: r) [34] = r := by unfold Lib.trimPrefix; rw [h1]; rfl
      rw [h2, h1]
      have h3 : inner (34 :: r) = r.dropLast := rfl
      rw [h3]
      by_cases hl : r.getLast? = some 34
      · have h4 : Lib.hasSuffix r [34] = true := by rw [suffix_one]; simp [hl]
        have h5 : Lib.trimSuffix r [34] = r.dropLast := by unfold Lib.trimSuffix; rw [h4, if_pos rfl, List.dropLast_eq_take]; rfl
        have hr : r ≠ [] := by rintro rfl; simp at hl
        have h6 : (34 :: r).getLast? = some 34 := by rw [List.getLast?_cons, hl]; rfl
        have h7 : 2 ≤ (34 :: r).length := by
          have := List.length_pos_iff.2 hr
          simp; omega
        rw [h4, h5]
        by_cases hb : r.dropLast.all tagByte = true
        · rw [if_pos ⟨h7, rfl, h6, hb⟩, hb]; rfl
        · rw [if_neg (fun h => hb h.2.2.2)]
          have : r.dropLast.all tagByte = false := by simpa using hb
          rw [this]; rfl
      · have h4 : Lib.hasSuffix r [34] = false := by rw [suffix_one]; simp [hl]
        rw [h4]
        rw [if_neg]
        · rfl
        · rintro ⟨h7, _, h6, _⟩
          cases r with
          | nil => simp at h7
          | cons b r' =>
            rw [List.getLast?_cons] at h6
            cases hg : (b :: r').getLast? with
            | none => simp at hg
            | some d => rw [hg] at h6; simp at h6; exact hl (by rw [hg, h6])
    · have h1 : Lib.hasPrefix (a :: r) [34] = false := by rw [prefix_one]; simp [ha]
      rw [h1, if_neg (fun h => ha (by simpa using h.2.1))]
      rfl
theorem parse_cut (s : Bs) : parseTag s = if beginsL s && endsL s && (textL s).all tagByte then some (weakL s, textL s) else none := by
  have hb := body_cut (quotedL s)
  have e : (if beginsL s && endsL s && (textL s).all tagByte then some (weakL s, textL s) else none) = (body (quotedL s)).map fun t => (weakL s, t) := by
    rw [hb]
    show _ = Option.map _ (if beginsL s && endsL s && (textL s).all tagByte then some (textL s) else none)
    split <;> rfl
  rw [e, quoted_eq]
  unfold parseTag
  cases hw : weakL s with
  | false =>
    rw [prefix_two, decide_eq_false_iff_not] at hw
    rw [if_neg (fun h => hw h.2)]; rfl
  | true =>
    have hw' := hw
    rw [prefix_two, decide_eq_true_iff] at hw'
    rw [if_pos rfl]
    by_cases hl : 2 < s.length
    · rw [if_pos ⟨hl, hw'⟩]
    · rw [if_neg (fun h => hl h.1)]
      have h2 : s.length = 2 := by
        have := congrArg List.length hw'
        simp at this; omega
      have hs : s = [87, 47] := by rw [← hw', List.take_of_length_le (by omega)]
      subst hs; decide
/-- In the reference's way: the places of the quotes, and each byte between. -/
def restL (s : Bs) : Bs := if 2 < s.length ∧ s.take 2 = [87, 47] then s.drop 2 else s
def flagL (s : Bs) : Bool := decide (2 < s.length ∧ s.take 2 = [87, 47])
theorem parse_rest (s : Bs) : parseTag s = (body (restL s)).map fun t => (flagL s, t) := by
  unfold parseTag restL flagL
  split
  · rename_i h; rw [decide_eq_true h]
  · rename_i h; rw [decide_eq_false h]
end Go.Proofs.Ytledjiikpajdaaa.Vd
