/-
  The parts of a target: plain functions on bytes. No program, no condition.
-/
import Derived.Test.YtldlhnppinodbaaLnMath
import Derived.Test.YtldlhnppinodbaaTokMath
import Derived.Lib.IndexAny
import Derived.Lib.Strings
import Derived.Lib.IndexBytes
namespace Go.Proofs.Ytldlhnppinodbaa.Ln
open Go.Proofs.Ytldlhnppinodbaa.Tk

/-- The bytes that end a host. -/
def stop (c : UInt8) : Bool := c == 47 || c == 63
/-- The place of the first such byte, or the end. -/
def hostEnd : Bs → Nat
  | [] => 0
  | c :: r => if stop c then 0 else hostEnd r + 1
def pathOf (p : Bs) : Bs := if p.head? = some 47 then p else 47 :: p
def scheme : Bs := [104, 116, 116, 112, 58, 47, 47]
/-- What a target asks for, and its host. -/
def hostParts (r : Bs) : Option (Bs × Bs) := if hostEnd r = 0 then none else some (pathOf (r.drop (hostEnd r)), r.take (hostEnd r))
def pathParts (l : Bs) : Option (Bs × Bs) :=
  if isTgt l = false then none
  else if l.head? = some 47 ∨ l = [42] then some (l, [])
  else if lower (l.take 7) = scheme then hostParts (l.drop 7)
  else none

theorem hostEnd_le (l : Bs) : hostEnd l ≤ l.length := by
  induction l with
  | nil => exact Nat.le_refl _
  | cons c r ih => unfold hostEnd; split <;> simp; omega
theorem hostEnd_before (l : Bs) (j : Nat) (hj : j < hostEnd l) : stop (l[j]'(by have := hostEnd_le l; omega)) = false := by
  induction l generalizing j with
  | nil => simp [hostEnd] at hj
  | cons c r ih =>
    cases hc : stop c with
    | true => simp [hostEnd, hc] at hj
    | false =>
      cases j with
      | zero => simpa using hc
      | succ j => simp only [hostEnd, hc] at hj; simpa using ih j (by simpa using hj)
theorem hostEnd_at (l : Bs) (h : hostEnd l < l.length) : stop l[hostEnd l] = true := by
  induction l with
  | nil => simp at h
  | cons c r ih =>
    cases hc : stop c with
    | true => simp [hostEnd, hc]
    | false =>
      have h' : hostEnd r < r.length := by simp [hostEnd, hc] at h; omega
      simp [hostEnd, hc, ih h']
theorem contains_stop (c : UInt8) : [47, 63].contains c = stop c := by
  unfold stop; simp only [List.contains, List.elem]; cases c == 47 <;> cases c == 63 <;> rfl
theorem indexAny_end (l : Bs) : Lib.indexAny l [47, 63] = if hostEnd l < l.length then (hostEnd l : Int) else -1 := by
  induction l with
  | nil => rfl
  | cons c r ih =>
    unfold Lib.indexAny hostEnd
    rw [contains_stop]
    cases hc : stop c with
    | true => simp
    | false =>
      rw [if_neg (by simp), ih, List.length_cons]
      by_cases h : hostEnd r < r.length
      · have h3 : ((hostEnd r : Int) == -1) = false := by rw [beq_eq_false_iff_ne]; omega
        rw [if_pos h, h3]; simp [h]
      · rw [if_neg h]; simp [h]
/-- The end by what stands ahead of it. -/
theorem hostEnd_eq (l : Bs) (k : Nat) (hk : k ≤ l.length) (hb : ∀ j (hj : j < k), stop (l[j]'(by omega)) = false) (ha : ∀ h : k < l.length, stop l[k] = true) : hostEnd l = k := by
  have h1 := hostEnd_le l
  rcases Nat.lt_trichotomy (hostEnd l) k with h | h | h
  · have := hb (hostEnd l) h
    rw [hostEnd_at l (by omega)] at this; exact absurd this (by decide)
  · exact h
  · have := hostEnd_before l k h
    rw [ha (by omega)] at this; exact absurd this (by decide)
theorem stop_no {c : UInt8} (h : stop c = false) : (c.toNat : Int) ≠ 47 ∧ (c.toNat : Int) ≠ 63 := by
  unfold stop at h
  simp only [Bool.or_eq_false_iff, beq_eq_false_iff_ne] at h
  exact ⟨fun e => h.1 (UInt8.toNat_inj.1 (by show c.toNat = 47; omega)), fun e => h.2 (UInt8.toNat_inj.1 (by show c.toNat = 63; omega))⟩
theorem stop_yes {c : UInt8} (h : stop c = true) : (c.toNat : Int) = 47 ∨ ((c.toNat : Int) ≠ 47 ∧ (c.toNat : Int) = 63) := by
  unfold stop at h
  simp only [Bool.or_eq_true, beq_iff_eq] at h
  rcases h with rfl | rfl
  · exact .inl rfl
  · exact .inr ⟨by decide, rfl⟩
theorem byte_eq {c d : UInt8} (h : (c.toNat : Int) = (d.toNat : Int)) : c = d := UInt8.toNat_inj.1 (by omega)
theorem tgt_ascii {l : Bs} (h : isTgt l = true) : ∀ c ∈ l, c.toNat < 128 := by
  intro c hc
  simp [isTgt] at h
  have := tg_yes (h.2 c hc)
  omega
theorem bytes_ext {a b : ByteArray} (h : a.data.toList = b.data.toList) : a = b := by
  apply ByteArray.ext; exact Array.toList_inj.1 h
theorem bytes_mk (a : ByteArray) : (⟨a.data.toList.toArray⟩ : ByteArray) = a := bytes_ext (by simp)
theorem cut_text (s : ByteArray) (a b : Nat) : s.extract a b = ⟨((s.data.toList.drop a).take (b - a)).toArray⟩ := bytes_ext (by rw [Lib.extract_data])
theorem cut_head (s : ByteArray) (b : Nat) : s.extract 0 b = ⟨(s.data.toList.take b).toArray⟩ := by rw [cut_text]; rfl
theorem cut_tail (s : ByteArray) (a : Nat) : s.extract a s.size = ⟨(s.data.toList.drop a).toArray⟩ := bytes_ext (by rw [Lib.extract_to_end])
theorem head_at {s : ByteArray} (h : 0 < s.size) : s.data.toList.head? = some s[0] := by
  have hl : s.data.toList.length = s.size := by simp
  rw [List.head?_eq_getElem?, List.getElem?_eq_getElem (by omega)]; rfl
theorem slash_size (p : ByteArray) : ((⟨#[47]⟩ : ByteArray) ++ p).size = 1 + p.size := by rw [ByteArray.size_append]; rfl
theorem slash_text (p : ByteArray) (l : Bs) (h : p.data.toList = l) : (⟨#[47]⟩ : ByteArray) ++ p = ⟨(47 :: l).toArray⟩ := bytes_ext (by simp [h])
end Go.Proofs.Ytldlhnppinodbaa.Ln
