/-
  How a message's body is framed, as plain functions on fields. No program, no condition.
-/
import Derived.Test.YtoofdompafkddaaDoorFdNamesMath
import Derived.Test.YtoofdompafkddaaDoorNum
namespace Go.Proofs.YtoofdompafkddaaDoor.Fr
open Go.Proofs.YtoofdompafkddaaDoor.Tk Go.Proofs.YtoofdompafkddaaDoor.Fd
set_option linter.unusedVariables false

def trE : Bs := [84, 114, 97, 110, 115, 102, 101, 114, 45, 69, 110, 99, 111, 100, 105, 110, 103]
def coL : Bs := [67, 111, 110, 116, 101, 110, 116, 45, 76, 101, 110, 103, 116, 104]
def trE' : Bs := [116, 114, 97, 110, 115, 102, 101, 114, 45, 101, 110, 99, 111, 100, 105, 110, 103]
def coL' : Bs := [99, 111, 110, 116, 101, 110, 116, 45, 108, 101, 110, 103, 116, 104]
def chk : Bs := [99, 104, 117, 110, 107, 101, 100]
theorem has_alike {a b : Bs} (h : lower a = lower b) (f : Fl) : has a f = has b f := by unfold has alike; rw [h]
theorem sel_alike {a b : Bs} (h : lower a = lower b) (fs : List Fl) : sel fs a = sel fs b := by
  unfold sel
  have : has a = has b := funext (has_alike h)
  rw [this]
theorem getT_alike {a b : Bs} (h : lower a = lower b) (fs : List Fl) : getT fs a = getT fs b := by unfold getT; rw [sel_alike h]
theorem getN_alike {a b : Bs} (h : lower a = lower b) (fs : List Fl) : getN fs a = getN fs b := by unfold getN; rw [sel_alike h]
theorem trE_low : lower trE' = lower trE := by decide
theorem coL_low : lower coL' = lower coL := by decide

/-- A text as a number. -/
def numT (x : Bs) : Int × Bool := Num.numOf ⟨x.toArray⟩ 1099511627776
/-- The one number that all texts are, behind some that were one. -/
def oneNum : Nat → Int → List Bs → Option Int
  | _, n, [] => some n
  | i, n, x :: r => if (numT x).2 = false ∨ (0 < i ∧ (numT x).1 ≠ n) then none else oneNum (i + 1) (numT x).1 r
/-- What the lengths' text tells. -/
def lenVal (t : Bs) : Int × Int :=
  match splitOf t with
  | none => (0, 32)
  | some ls => if ls = [] then (0, 32) else match oneNum 0 0 ls with
    | none => (0, 32)
    | some n => if 1048576 < n then (0, 3) else (n, 0)
def justC (fs : List Fl) : Bool := match namesOf (getT fs trE) with
  | none => false
  | some ls => ls == [chk]
/-- The kind, the length and the error. -/
def toldVal (m : Int) (fs : List Fl) (silent : Int) : Int × Int × Int :=
  if 0 < getN fs trE then
    (if m = 0 ∨ 0 < getN fs coL ∨ justC fs = false then (0, 0, 32) else (2, 0, 0))
  else if getN fs coL = 0 then (silent, 0, 0)
  else if (lenVal (getT fs coL)).2 = 0 then (1, (lenVal (getT fs coL)).1, 0) else (0, 0, (lenVal (getT fs coL)).2)
def three (v : Int × Int × Int) : List Int := [v.1, v.2.1, v.2.2]
/-- A step of the look at the numbers. -/
theorem oneNum_bad {i : Nat} {n : Int} {x : Bs} {r : List Bs} (h : (numT x).2 = false ∨ (0 < i ∧ (numT x).1 ≠ n)) : oneNum i n (x :: r) = none := if_pos h
theorem oneNum_next {i : Nat} {n : Int} {x : Bs} {r : List Bs} (h : ¬ ((numT x).2 = false ∨ (0 < i ∧ (numT x).1 ≠ n))) : oneNum i n (x :: r) = oneNum (i + 1) (numT x).1 r := if_neg h
theorem lenVal_none {t : Bs} (h : splitOf t = none) : lenVal t = (0, 32) := by unfold lenVal; rw [h]
theorem lenVal_empty {t : Bs} (h : splitOf t = some []) : lenVal t = (0, 32) := by unfold lenVal; rw [h]; rfl
theorem lenVal_bad {t : Bs} {ls : List Bs} (h : splitOf t = some ls) (hn : oneNum 0 0 ls = none) : lenVal t = (0, 32) := by
  unfold lenVal; rw [h]
  by_cases h0 : ls = []
  · show (if ls = [] then _ else _) = _; rw [if_pos h0]
  · show (if ls = [] then _ else _) = _; rw [if_neg h0, hn]
theorem lenVal_big {t : Bs} {ls : List Bs} {n : Int} (h : splitOf t = some ls) (h0 : ls ≠ []) (hn : oneNum 0 0 ls = some n) (hb : 1048576 < n) : lenVal t = (0, 3) := by
  unfold lenVal; rw [h]
  show (if ls = [] then _ else _) = _; rw [if_neg h0, hn]
  show (if 1048576 < n then _ else _) = _; rw [if_pos hb]
theorem lenVal_ok {t : Bs} {ls : List Bs} {n : Int} (h : splitOf t = some ls) (h0 : ls ≠ []) (hn : oneNum 0 0 ls = some n) (hb : ¬ 1048576 < n) : lenVal t = (n, 0) := by
  unfold lenVal; rw [h]
  show (if ls = [] then _ else _) = _; rw [if_neg h0, hn]
  show (if 1048576 < n then _ else _) = _; rw [if_neg hb]
end Go.Proofs.YtoofdompafkddaaDoor.Fr
