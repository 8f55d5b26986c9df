/-
  What the reference's loop over a request's line looks for: plain functions on bytes. No program, no condition.
-/
import Derived.Test.YtldlhnppinodbaaDoorLnMath
import Derived.Lib.Strings
import Derived.Lib.IndexBytes
namespace Go.Proofs.YtldlhnppinodbaaDoor.Ln
open Go.Proofs.YtldlhnppinodbaaDoor.Tk

/-- Two bytes 32 that part a line into a token, a target and a version. -/
def Hit (l : Bs) (i k : Nat) : Prop := i < k ∧ k < l.length ∧ l[i]? = some 32 ∧ l[k]? = some 32 ∧ isTok (l.take i) = true ∧ isTgt ((l.drop (i + 1)).take (k - (i + 1))) = true ∧ isMin (minorOf (l.drop (k + 1))) = true

theorem part_at {l : Bs} {i : Nat} (h : l[i]? = some 32) : l = l.take i ++ 32 :: l.drop (i + 1) := by
  obtain ⟨hi, he⟩ := List.getElem?_eq_some_iff.1 h
  conv => lhs; rw [← List.take_append_drop i l]
  rw [List.drop_eq_getElem_cons hi, he]
theorem hit_parts {l : Bs} {i k : Nat} (h : Hit l i k) : reqOk l = true ∧ fst l = l.take i ∧ fst (rst l) = (l.drop (i + 1)).take (k - (i + 1)) ∧ rst (rst l) = l.drop (k + 1) := by
  obtain ⟨hik, hk, h1, h2, h3, h4, h5⟩ := h
  have e1 := part_at h1
  have f1 : fst l = l.take i := by
    conv => lhs; rw [e1]
    exact fst_mk (tok_no h3)
  have r1 : rst l = l.drop (i + 1) := by
    conv => lhs; rw [e1]
    exact rst_mk (tok_no h3)
  have h2' : (l.drop (i + 1))[k - (i + 1)]? = some 32 := by rw [List.getElem?_drop, show i + 1 + (k - (i + 1)) = k from by omega]; exact h2
  have e2 := part_at h2'
  rw [List.drop_drop, show i + 1 + (k - (i + 1) + 1) = k + 1 from by omega] at e2
  have f2 : fst (l.drop (i + 1)) = (l.drop (i + 1)).take (k - (i + 1)) := by
    conv => lhs; rw [e2]
    exact fst_mk (tgt_no h4)
  have r2 : rst (l.drop (i + 1)) = l.drop (k + 1) := by
    conv => lhs; rw [e2]
    exact rst_mk (tgt_no h4)
  rw [r1]
  refine ⟨?_, f1, f2, r2⟩
  unfold reqOk
  rw [r1, f1, f2, r2, h3, h4, h5]; rfl
theorem hit_of_ok {l : Bs} (h : reqOk l = true) : ∃ i k, Hit l i k := by
  unfold reqOk at h
  simp only [Bool.and_eq_true] at h
  obtain ⟨⟨h1, h2⟩, h3⟩ := h
  have a2 : idx (rst l) < (rst l).length := by
    refine Decidable.byContradiction fun hn => ?_
    rw [rst_full hn] at h3; exact absurd h3 (by decide)
  have a1 : idx l < l.length := by
    refine Decidable.byContradiction fun hn => ?_
    rw [rst_full hn] at a2; simp [idx] at a2
  have hl := rst_len l
  refine ⟨idx l, idx l + 1 + idx (rst l), by omega, by omega, ?_, ?_, h1, ?_, ?_⟩
  · rw [List.getElem?_eq_getElem a1, idx_at l a1]
  · have := List.getElem?_drop (xs := l) (i := idx l + 1) (j := idx (rst l))
    rw [← this, show l.drop (idx l + 1) = rst l from rfl, List.getElem?_eq_getElem a2, idx_at _ a2]
  · rw [show idx l + 1 + idx (rst l) - (idx l + 1) = idx (rst l) from by omega]; exact h2
  · rw [show idx l + 1 + idx (rst l) + 1 = idx l + 1 + (idx (rst l) + 1) from by omega, ← List.drop_drop]; exact h3
theorem ok_false {l : Bs} (h : ∀ i k, i < l.length → ¬ Hit l i k) : reqOk l = false := by
  cases hr : reqOk l with
  | false => rfl
  | true =>
    obtain ⟨i, k, hh⟩ := hit_of_ok hr
    exact absurd hh (h i k (Nat.lt_trans hh.1 hh.2.1))
/-- No two places from before (i, k) on part the line. -/
def NoHit (l : Bs) (i k : Nat) : Prop := (∀ i' k', i' < i → ¬ Hit l i' k') ∧ ∀ k', k' < k → ¬ Hit l i k'
theorem NoHit.start (l : Bs) : NoHit l 0 0 := ⟨fun _ _ h => by omega, fun _ h => by omega⟩
theorem NoHit.skip {l : Bs} {i : Nat} (h : NoHit l i 0) (hn : l[i]? ≠ some 32) : NoHit l (i + 1) 0 := by
  refine ⟨fun i' k' hi hh => ?_, fun _ h => by omega⟩
  by_cases e : i' = i
  · subst e; exact hn hh.2.2.1
  · exact h.1 i' k' (by omega) hh
theorem NoHit.enter {l : Bs} {i : Nat} (h : NoHit l i 0) : NoHit l i (i + 1) := ⟨h.1, fun _ hk hh => by have := hh.1; omega⟩
theorem NoHit.next {l : Bs} {i k : Nat} (h : NoHit l i k) (hn : ¬ Hit l i k) : NoHit l i (k + 1) := by
  refine ⟨h.1, fun k' hk hh => ?_⟩
  by_cases e : k' = k
  · subst e; exact hn hh
  · exact h.2 k' (by omega) hh
theorem NoHit.leave {l : Bs} {i : Nat} (h : NoHit l i l.length) : NoHit l (i + 1) 0 := by
  refine ⟨fun i' k' hi hh => ?_, fun _ h => by omega⟩
  by_cases e : i' = i
  · subst e; exact h.2 k' hh.2.1 hh
  · exact h.1 i' k' (by omega) hh
theorem NoHit.all {l : Bs} (h : NoHit l l.length 0) : reqOk l = false := ok_false fun i k hi => h.1 i k hi

theorem byte_at (s : ByteArray) (i : Nat) (h : i < s.size) : s.data.toList[i]? = some s[i] := by rw [List.getElem?_eq_getElem (by simpa using h)]; rfl
theorem byte_is {c : UInt8} (h : (c.toNat : Int) = 32) : c = 32 := by
  have : c.toNat = 32 := by omega
  exact UInt8.toNat_inj.1 this
theorem is_byte {c : UInt8} (h : c = 32) : (c.toNat : Int) = 32 := by rw [h]; rfl
theorem bytes_ext {a b : ByteArray} (h : a.data.toList = b.data.toList) : a = b := by
  apply ByteArray.ext; exact Array.toList_inj.1 h
theorem cut_text (s : ByteArray) (a b : Nat) : s.extract a b = ⟨((s.data.toList.drop a).take (b - a)).toArray⟩ := bytes_ext (by rw [Lib.extract_data])
theorem cut_head (s : ByteArray) (b : Nat) : s.extract 0 b = ⟨(s.data.toList.take b).toArray⟩ := by rw [cut_text]; rfl
theorem cut_tail (s : ByteArray) (a : Nat) : s.extract a s.size = ⟨(s.data.toList.drop a).toArray⟩ := bytes_ext (by rw [Lib.extract_to_end])

/-- A status line by its places. -/
def stRef (l : Bs) : Bool := decide (12 ≤ l.length) && isMin (minorOf (l.take 8)) && (l[8]? == some 32) && isCod (codeOf ((l.drop 9).take 3)) && (decide (l.length = 12) || ((l[12]? == some 32) && isRsn (l.drop 13)))
theorem code_len {l : Bs} (h : isCod (codeOf l) = true) : l.length = 3 := by
  match l, h with
  | [_, _, _], _ => rfl
  | [], h => exact absurd h (by decide)
  | [_], h => exact absurd (show isCod (-1) = true from h) (by decide)
  | [_, _], h => exact absurd (show isCod (-1) = true from h) (by decide)
  | _ :: _ :: _ :: _ :: _, h => exact absurd (show isCod (-1) = true from h) (by decide)
theorem dgt_ne {c : UInt8} (h : dgt c = true) : c ≠ 32 := by
  intro e; rw [e] at h; exact absurd h (by decide)
theorem code_no {l : Bs} (h : isCod (codeOf l) = true) : ∀ c ∈ l, c ≠ 32 := by
  match l, code_len h, h with
  | [a, b, c], _, h =>
    have hd : (dgt a && dgt b && dgt c) = true := by
      cases hd : (dgt a && dgt b && dgt c) with
      | true => rfl
      | false =>
        have e : codeOf [a, b, c] = -1 := by simp only [codeOf, hd]; rfl
        rw [e] at h; exact absurd h (by decide)
    simp only [Bool.and_eq_true] at hd
    intro x hx
    simp at hx
    rcases hx with rfl | rfl | rfl
    · exact dgt_ne hd.1.1
    · exact dgt_ne hd.1.2
    · exact dgt_ne hd.2
theorem ver_len {l : Bs} (h : isMin (minorOf l) = true) : l.length = 8 := by
  unfold minorOf at h
  split at h
  · rename_i e; rw [e]; rfl
  · split at h
    · rename_i e; rw [e]; rfl
    · exact absurd h (by decide)
theorem st_parts {l : Bs} (h : stRef l = true) : stOk l = true ∧ fst l = l.take 8 ∧ fst (rst l) = (l.drop 9).take 3 ∧ rst (rst l) = l.drop 13 := by
  unfold stRef at h
  simp only [Bool.and_eq_true, Bool.or_eq_true, decide_eq_true_eq, beq_iff_eq] at h
  obtain ⟨⟨⟨⟨h1, h2⟩, h3⟩, h4⟩, h5⟩ := h
  have e1 := part_at h3
  have f1 : fst l = l.take 8 := by
    conv => lhs; rw [e1]
    exact fst_mk (ver_no h2)
  have r1 : rst l = l.drop 9 := by
    conv => lhs; rw [e1]
    exact rst_mk (ver_no h2)
  have key : fst (l.drop 9) = (l.drop 9).take 3 ∧ rst (l.drop 9) = l.drop 13 ∧ isRsn (l.drop 13) = true := by
    rcases h5 with h5 | ⟨h5, h6⟩
    · have e3 : (l.drop 9).take 3 = l.drop 9 := List.take_of_length_le (by rw [List.length_drop]; omega)
      rw [e3] at h4
      have e4 : l.drop 13 = [] := List.drop_eq_nil_of_le (by omega)
      rw [e3, e4]
      exact ⟨fst_none (code_no h4), rst_none (code_no h4), rfl⟩
    · have h5' : (l.drop 9)[3]? = some 32 := by rw [List.getElem?_drop]; exact h5
      have e2 := part_at h5'
      rw [List.drop_drop] at e2
      refine ⟨?_, ?_, h6⟩
      · conv => lhs; rw [e2]
        exact fst_mk (code_no h4)
      · conv => lhs; rw [e2]
        exact rst_mk (code_no h4)
  rw [r1]
  refine ⟨?_, f1, key.1, key.2.1⟩
  unfold stOk
  rw [r1, f1, key.1, key.2.1, h2, h4, key.2.2]; rfl
theorem st_ref {l : Bs} (h : stOk l = true) : stRef l = true := by
  unfold stOk at h
  simp only [Bool.and_eq_true] at h
  obtain ⟨⟨h1, h2⟩, h3⟩ := h
  have l1 := ver_len h1
  have l2 := code_len h2
  rw [fst_len] at l1 l2
  have b2 := idx_le (rst l)
  have hl := rst_len l
  have a1 : idx l < l.length := by omega
  have t1 : l.take 8 = fst l := by unfold fst; rw [l1]
  have d1 : l.drop 9 = rst l := by unfold rst; rw [l1]
  have t2 : (rst l).take 3 = fst (rst l) := by unfold fst; rw [l2]
  have d2 : l.drop 13 = rst (rst l) := by
    have e : rst (rst l) = (rst l).drop 4 := by unfold rst; rw [show idx (List.drop (idx l + 1) l) = 3 from l2]
    rw [e, ← d1, List.drop_drop]
  have p8 : l[8]? = some 32 := by
    have := idx_at l a1
    rw [List.getElem?_eq_getElem (by omega)]
    rw [show l[8]'(by omega) = l[idx l] from by congr 1; omega, this]
  unfold stRef
  rw [t1, d1, t2, d2, h1, h2, h3, p8]
  have c1 : decide (12 ≤ l.length) = true := by rw [decide_eq_true_iff]; omega
  rw [c1]
  by_cases e : l.length = 12
  · simp [e]
  · have a2 : idx (rst l) < (rst l).length := by omega
    have p12 : l[12]? = some 32 := by
      have h4 := idx_at (rst l) a2
      have h5 : (rst l)[3]? = some 32 := by
        rw [List.getElem?_eq_getElem (by omega)]
        rw [show (rst l)[3]'(by omega) = (rst l)[idx (rst l)] from by congr 1; omega, h4]
      rw [← d1, List.getElem?_drop] at h5
      exact h5
    rw [p12]; simp
theorem st_no {l : Bs} (h : stRef l = false) : stOk l = false := by
  cases hs : stOk l with
  | false => rfl
  | true => rw [st_ref hs] at h; exact absurd h (by decide)
end Go.Proofs.YtldlhnppinodbaaDoor.Ln
