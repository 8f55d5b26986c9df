/-
  Numbers and names at a text's beginning, and how a text of a date's form is read: plain functions on bytes. No program, no condition.
-/
import Derived.Test.YtipooddkpbkfhaaDoorFormText
namespace Go.Proofs.YtipooddkpbkfhaaDoor.Dt
open Go.RowKit

def dgt (c : UInt8) : Bool := 48 ≤ c.toNat && c.toNat ≤ 57
def numv (l : Bs) : Int := l.foldl (fun n c => n * 10 + ((c.toNat : Int) - 48)) 0
/-- The number of k digits that a text begins with, and what is behind it. -/
def cutN (l : Bs) (k : Nat) : Option (Int × Bs) := if l.length < k then none else if (l.take k).all dgt = true then some (numv (l.take k), l.drop k) else none
/-- Which of the names a text begins with, and what is behind it. -/
def pick (s : Bs) : List Bs → Option (Nat × Bs)
  | [] => none
  | n :: r => if Lib.hasPrefix s n = true then some (0, Lib.trimPrefix s n) else (pick s r).map fun x => (x.1 + 1, x.2)

theorem numv_snoc (l : Bs) (c : UInt8) : numv (l ++ [c]) = numv l * 10 + ((c.toNat : Int) - 48) := by simp [numv, List.foldl_append]
theorem dgt_bd {c : UInt8} (h : dgt c = true) : 48 ≤ (c.toNat : Int) ∧ (c.toNat : Int) ≤ 57 := by simp [dgt] at h; omega
theorem dgt_no {c : UInt8} (h : dgt c = false) : (c.toNat : Int) < 48 ∨ (48 ≤ (c.toNat : Int) ∧ 57 < (c.toNat : Int)) := by simp [dgt] at h; omega
theorem numv_bd (l : Bs) (h : l.all dgt = true) (hl : l.length ≤ 4) : 0 ≤ numv l ∧ numv l ≤ 9999 := by
  simp only [List.all_eq_true] at h
  have hb : ∀ c ∈ l, 48 ≤ (c.toNat : Int) ∧ (c.toNat : Int) ≤ 57 := fun c hc => dgt_bd (h c hc)
  match l, hl, hb with
  | [], _, _ => simp [numv]
  | [a], _, hb => have := hb a (by simp); simp [numv]; omega
  | [a, b], _, hb => have := hb a (by simp); have := hb b (by simp); simp [numv]; omega
  | [a, b, c], _, hb => have := hb a (by simp); have := hb b (by simp); have := hb c (by simp); simp [numv]; omega
  | [a, b, c, d], _, hb => have := hb a (by simp); have := hb b (by simp); have := hb c (by simp); have := hb d (by simp); simp [numv]; omega
  | a :: b :: c :: d :: e :: r, hl, _ => simp at hl
theorem take_snoc (s : ByteArray) (k : Nat) (h : k < s.size) : s.data.toList.take (k + 1) = s.data.toList.take k ++ [s[k]] := by
  rw [List.take_succ_eq_append_getElem (by simpa using h)]; rfl
theorem all_snoc (s : ByteArray) (k : Nat) (h : k < s.size) : (s.data.toList.take (k + 1)).all dgt = ((s.data.toList.take k).all dgt && dgt s[k]) := by
  rw [take_snoc s k h, List.all_append]; simp
theorem cutN_short {l : Bs} {k : Nat} (h : l.length < k) : cutN l k = none := by unfold cutN; rw [if_pos h]
theorem cutN_bad {s : ByteArray} {k j : Nat} (hk : k ≤ s.size) (hj : j < k) (hd : dgt (s[j]'(by omega)) = false) : cutN s.data.toList k = none := by
  unfold cutN
  rw [if_neg (by simp; exact hk), if_neg]
  intro h
  rw [List.all_eq_true] at h
  have hm : s[j]'(by omega) ∈ s.data.toList.take k := by
    rw [List.mem_take_iff_getElem]
    exact ⟨j, by rw [Array.length_toList]; have : s.data.size = s.size := rfl; omega, rfl⟩
  rw [h _ hm] at hd
  cases hd
theorem cutN_good {s : ByteArray} {k : Nat} (hk : k ≤ s.size) (h : (s.data.toList.take k).all dgt = true) : cutN s.data.toList k = some (numv (s.data.toList.take k), s.data.toList.drop k) := by
  unfold cutN; rw [if_neg (by simp; exact hk), if_pos h]
/-- Three results of a cut. -/
def cutRes (s : Bs) (r : Option (Int × Bs)) : Value := match r with
  | some (n, t) => .tuple #[.int .i64 n, .string (B t), .bool true]
  | none => .tuple #[.int .i64 0, .string (B s), .bool false]
def nameRes (s : Bs) (r : Option (Nat × Bs)) : Value := cutRes s (r.map fun x => ((x.1 : Int), x.2))
theorem pick_yes {s n : Bs} {r : List Bs} (h : Lib.hasPrefix s n = true) : pick s (n :: r) = some (0, Lib.trimPrefix s n) := by simp [pick, h]
theorem pick_no {s n : Bs} {r : List Bs} (h : Lib.hasPrefix s n = false) : pick s (n :: r) = (pick s r).map fun x => (x.1 + 1, x.2) := by simp [pick, h]
theorem shift_shift {j : Nat} (o : Option (Nat × Bs)) : (o.map fun x => (x.1 + 1, x.2)).map (fun x => (x.1 + j, x.2)) = o.map fun x => (x.1 + (j + 1), x.2) := by
  cases o <;> simp; omega
end Go.Proofs.YtipooddkpbkfhaaDoor.Dt
