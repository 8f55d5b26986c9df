/-
  The text that tells a part of a body, and its reading, as plain functions on bytes: what is told is read as it was. No program, no condition.
-/
import Derived.Test.YthhnpdihgoiccaaDoorRgMath
namespace Go.Proofs.YthhnpdihgoiccaaDoor.Rm
open Go.Proofs.YthhnpdihgoiccaaDoor.Tk Go.Proofs.YthhnpdihgoiccaaDoor.Ct
set_option linter.unusedVariables false
set_option linter.unusedSimpArgs false

def decI (n : Int) : Bs := decL n.toNat
def rightR (x : W) (long : Int) : Bool := decide (-1 ≤ long ∧ long ≤ mostB ∧ 0 ≤ x.1 ∧ x.1 ≤ x.2 ∧ x.2 ≤ mostB ∧ (0 ≤ long → x.2 ≤ long) ∧ (x.1 < x.2 ∨ 0 ≤ long))
def bytL : Bs := [98, 121, 116, 101, 115, 32]
def spanT (x : W) : Bs := if x.1 = x.2 then [42] else decI x.1 ++ 45 :: decI (x.2 - 1)
def longT (long : Int) : Bs := if 0 ≤ long then decI long else [42]
def contentOf (x : W) (long : Int) : Option Bs := if rightR x long then some (bytL ++ (spanT x ++ 47 :: longT long)) else none
def mostR : Int := 1048577
def readLong (t : Bs) : Option Int := if t = [42] then some (-1) else numT mostR t
def readSpan (t : Bs) : Option W :=
  if t = [42] then some (0, 0)
  else if ix 45 t = t.length then none
  else match numT mostR (t.take (ix 45 t)), numT mostR (t.drop (ix 45 t + 1)) with
    | some a, some b => if a ≤ b then some (a, b + 1) else none
    | _, _ => none
def readR (s : Bs) : Option (W × Int) :=
  if s.take 6 = bytL ∧ ix 47 (s.drop 6) ≠ (s.drop 6).length then
    match readLong ((s.drop 6).drop (ix 47 (s.drop 6) + 1)), readSpan ((s.drop 6).take (ix 47 (s.drop 6))) with
    | some n, some x => if rightR x n then some (x, n) else none
    | _, _ => none
  else none
theorem long_back {n : Int} (h0 : -1 ≤ n) (h1 : n ≤ mostB) : readLong (longT n) = some n := by
  unfold longT
  by_cases hn : 0 ≤ n
  · rw [if_pos hn]
    have hne : decI n ≠ [42] := by
      intro h
      have := dec_no (n := n.toNat) 42 (by unfold decI at h; rw [h]; simp)
      exact this.2.2.2.2.2 rfl
    have hb : mostB = 1048576 := rfl
    have hr : mostR = 1048577 := rfl
    unfold readLong
    rw [if_neg hne]
    unfold decI
    rw [numT_dec _ (by decide), capped_small (by omega)]
    congr 1; omega
  · rw [if_neg hn]
    unfold readLong
    rw [if_pos rfl]
    congr 1; omega
theorem span_back {x : W} (h0 : 0 ≤ x.1) (h1 : x.1 ≤ x.2) (h2 : x.2 ≤ mostB) : readSpan (spanT x) = some (if x.1 = x.2 then (0, 0) else x) := by
  unfold spanT
  by_cases he : x.1 = x.2
  · rw [if_pos he, if_pos he]; rfl
  · rw [if_neg he, if_neg he]
    have hb : mostB = 1048576 := rfl
    have hr : mostR = 1048577 := rfl
    have hi : ix 45 (decI x.1 ++ 45 :: decI (x.2 - 1)) = (decI x.1).length := ix_name (fun d hd => (dec_no d hd).2.1) _
    have hp := (decL_all x.1.toNat x.1.toNat (dec_big _)).pos
    have hp2 : 0 < (decI x.1).length := hp
    have hne : decI x.1 ++ 45 :: decI (x.2 - 1) ≠ [42] := by
      intro h
      have h3 := congrArg List.length h
      simp at h3
      omega
    have e1 : (decI x.1 ++ 45 :: decI (x.2 - 1)).take (decI x.1).length = decI x.1 := by simp
    have e2 : (decI x.1 ++ 45 :: decI (x.2 - 1)).drop ((decI x.1).length + 1) = decI (x.2 - 1) := by rw [← List.drop_drop]; simp
    have hl : (decI x.1 ++ 45 :: decI (x.2 - 1)).length = (decI x.1).length + 1 + (decI (x.2 - 1)).length := by simp; omega
    unfold readSpan
    rw [if_neg hne, hi, if_neg (by omega), e1, e2]
    unfold decI
    rw [numT_dec _ (by decide), numT_dec _ (by decide), capped_small (by omega), capped_small (by omega)]
    show (if (x.1.toNat : Int) ≤ ((x.2 - 1).toNat : Int) then some ((x.1.toNat : Int), ((x.2 - 1).toNat : Int) + 1) else none) = _
    rw [if_pos (by omega)]
    congr 1
    apply Prod.ext
    · show (x.1.toNat : Int) = x.1; omega
    · show ((x.2 - 1).toNat : Int) + 1 = x.2; omega
theorem span_no {x : W} : ∀ d ∈ spanT x, d ≠ 47 := by
  unfold spanT
  split
  · intro d hd; simp at hd; subst hd; decide
  · intro d hd
    rcases List.mem_append.1 hd with hd | hd
    · exact (dec_no d hd).2.2.1
    · rcases List.mem_cons.1 hd with rfl | hd
      · decide
      · exact (dec_no d hd).2.2.1
/-- What is told is read as it was. -/
theorem content_back {x : W} {long : Int} {t : Bs} (h : contentOf x long = some t) : readR t = some (if x.1 = x.2 then (0, 0) else x, long) := by
  unfold contentOf at h
  split at h
  · rename_i hr
    injection h with h
    subst h
    have hr2 := hr
    unfold rightR at hr2
    have hr2 := of_decide_eq_true hr2
    obtain ⟨h1, h2, h3, h4, h5, h6, h7⟩ := hr2
    have e1 : (bytL ++ (spanT x ++ 47 :: longT long)).take 6 = bytL := rfl
    have e2 : (bytL ++ (spanT x ++ 47 :: longT long)).drop 6 = spanT x ++ 47 :: longT long := rfl
    have hi : ix 47 (spanT x ++ 47 :: longT long) = (spanT x).length := ix_name span_no _
    have e3 : (spanT x ++ 47 :: longT long).take (spanT x).length = spanT x := by simp
    have e4 : (spanT x ++ 47 :: longT long).drop ((spanT x).length + 1) = longT long := by rw [← List.drop_drop]; simp
    have hl : (spanT x ++ 47 :: longT long).length = (spanT x).length + 1 + (longT long).length := by simp; omega
    unfold readR
    rw [e1, e2, hi, if_pos ⟨rfl, by omega⟩, e3, e4, long_back h1 h2, span_back h3 h4 h5]
    show (if rightR (if x.1 = x.2 then (0, 0) else x) long = true then some (if x.1 = x.2 then (0, 0) else x, long) else none) = _
    have hx : rightR (if x.1 = x.2 then (0, 0) else x) long = true := by
      by_cases he : x.1 = x.2
      · rw [if_pos he]
        unfold rightR
        rw [decide_eq_true_eq]
        simp only
        have : mostB = 1048576 := rfl
        omega
      · rw [if_neg he]; exact hr
    rw [if_pos hx]
  · cases h
theorem content_five : contentOf (0, 0) 5 = some [98, 121, 116, 101, 115, 32, 42, 47, 53] := by
  unfold contentOf
  rw [if_pos (by decide)]
  unfold spanT longT decI
  rw [if_pos rfl, if_pos (by decide), decL_small (by decide)]
  rfl
theorem read_five : readR [98, 121, 116, 101, 115, 32, 48, 45, 52, 47, 53] = some ((0, 5), 5) := by
  have h : contentOf (0, 5) 5 = some [98, 121, 116, 101, 115, 32, 48, 45, 52, 47, 53] := by
    unfold contentOf
    rw [if_pos (by decide)]
    unfold spanT longT decI
    rw [if_neg (by decide), if_pos (by decide), decL_small (by decide), decL_small (by decide), decL_small (by decide)]
    rfl
  exact content_back h
end Go.Proofs.YthhnpdihgoiccaaDoor.Rm
