/-
  Texts that the law's proof stands on, 4 of them in one file; each one's head says what it proves and under which condition.
-/
import Derived.Test.YtoofdompafkddaaDoorHeadReadsP7
import Derived.Test.YtoofdompafkddaaDoorHeadReadsP4
import Derived.Test.YtoofdompafkddaaDoorHeadReadsP5
import Derived.Lib.SlBytesConst
import Derived.Test.YtoofdompafkddaaDoorHeadReadsP10
/-
  bytes.TrimSuffix at a suffix of one byte; bytes.IndexByte at a byte 10: what each returns. No condition but what a slice can have.
-/
namespace Go.Proofs.YtoofdompafkddaaDoor.Hd
open Go.RowKit Go.Proofs.YtoofdompafkddaaDoor.Tk Go.Proofs.YtoofdompafkddaaDoor.Fd
set_option linter.unusedVariables false

theorem bytesOf_map (l : Bs) : Lib.bytesOf (l.map fun c => (c.toNat : Int)) = l := by
  induction l with
  | nil => rfl
  | cons c r ih => simp [Lib.bytesOf] at ih ⊢; exact ih
/-- Bytes without a byte at their end. -/
def cutEnd (c : UInt8) (l : Bs) : Bs := if l.getLast? = some c then l.dropLast else l
theorem cutEnd_own (l : Bs) : cutEnd 13 l = own l := rfl
theorem cutEnd_snoc (c : UInt8) (l : Bs) : cutEnd c (l ++ [c]) = l := by unfold cutEnd; simp
theorem cutEnd_take (c : UInt8) (l : Bs) : cutEnd c l = l.take (cutEnd c l).length := by
  unfold cutEnd; split
  · rw [List.length_dropLast, List.dropLast_eq_take]
  · rw [List.take_length]
theorem cutEnd_le (c : UInt8) (l : Bs) : (cutEnd c l).length ≤ l.length := by
  unfold cutEnd; split
  · rw [List.length_dropLast]; omega
  · exact Nat.le_refl _
theorem suffix_one (l : Bs) (c : UInt8) : Lib.hasSuffix l [c] = decide (l.getLast? = some c) := by
  rw [Bool.eq_iff_iff, decide_eq_true_eq]
  unfold Lib.hasSuffix
  rw [List.isSuffixOf_iff_suffix]
  constructor
  · rintro ⟨t, rfl⟩; simp
  · intro h
    rcases snoc_cases l with rfl | ⟨i, d, rfl⟩
    · simp at h
    · simp at h; subst h; exact ⟨i, rfl⟩
theorem Holds_take {w : World} {b off : Nat} {l : Bs} (h : Holds w b off l) (k : Nat) : Holds w b off (l.take k) := by
  intro j hj
  have hj' : j < l.length := by rw [List.length_take] at hj; omega
  rw [h j hj', List.getElem_take]

theorem trimsuf_any (b off cap : Nat) (l : Bs) (q : Nat) (c : UInt8) (w : World) (hc : l.length ≤ cap) (hm : cap ≤ maxLen) (h : Holds w b off l) (hq : w.cell? ⟨q, 0, none⟩ = some (.int .u8 (c.toNat : Int))) :
    Calls Tryd.prog 100 #[.slice (some ⟨b, off, none⟩) l.length cap, .slice (some ⟨q, 0, none⟩) 1 1] w fun e w' => e = .returned (.slice (some ⟨b, off, none⟩) (cutEnd c l).length cap) ∧ w = w' := by
  refine (Ln.bytes_TrimSuffix_all (some ⟨b, off, none⟩) (some ⟨q, 0, none⟩) l.length cap 1 1 (l.map fun c => (c.toNat : Int)) [(c.toNat : Int)] w (by simp) rfl hc (by unfold maxLen at hm; omega)
    (.of_cells fun i hi => ?_) (.of_cells fun i hi => ?_)).mono ?_
  · rw [Addr.add_lit, h i hi]; simp [hi]
  · have : i = 0 := by omega
    subst this; rw [Addr.add_lit]; simpa using hq
  · rintro e w' ⟨rfl, rfl⟩
    refine ⟨?_, rfl⟩
    have e1 : Lib.bytesOf [(c.toNat : Int)] = [c] := bytesOf_map [c]
    show Ending.returned (Lib.bytesTrimSuffix b off l.length cap _ _) = _
    unfold Lib.bytesTrimSuffix
    rw [bytesOf_map, e1, suffix_one]
    unfold cutEnd Lib.sliceTo
    by_cases hl : l.getLast? = some c
    · simp [hl]
    · simp [hl]

/-- Where the first byte 10 stands; the length, if there is none. -/
def nl : Bs → Nat
  | [] => 0
  | c :: r => if c = 10 then 0 else nl r + 1
theorem nl_le (l : Bs) : nl l ≤ l.length := by
  induction l with
  | nil => exact Nat.le_refl _
  | cons c r ih => unfold nl; split <;> simp; omega
theorem nl_at (l : Bs) (h : nl l < l.length) : l[nl l] = 10 := by
  induction l with
  | nil => simp at h
  | cons c r ih =>
    by_cases hc : c = 10
    · simp [nl, hc]
    · have h' : nl r < r.length := by simp [nl, hc] at h; omega
      simp [nl, hc, ih h']
theorem nl_before (l : Bs) : ∀ c ∈ l.take (nl l), c ≠ 10 := by
  induction l with
  | nil => simp
  | cons c r ih =>
    by_cases hc : c = 10
    · simp [nl, hc]
    · simp only [nl, hc, if_false, List.take_succ_cons]
      intro d hd
      rcases List.mem_cons.1 hd with rfl | hd
      · exact hc
      · exact ih d hd
theorem nl_index (l : Bs) : Lib.indexByte l 10 = if nl l < l.length then (nl l : Int) else -1 := by
  induction l with
  | nil => simp [Lib.indexByte, nl]
  | cons c r ih =>
    unfold Lib.indexByte nl
    by_cases hc : c = 10
    · simp [hc]
    · have hb : (c == 10) = false := by simpa using hc
      rw [if_neg hc, hb, ih, List.length_cons]
      by_cases h : nl r < r.length
      · have h2 : nl r + 1 < r.length + 1 := by omega
        have h3 : ((nl r : Int) == -1) = false := by rw [beq_eq_false_iff_ne]; omega
        rw [if_pos h, if_pos h2, h3]; simp
      · have h2 : ¬ nl r + 1 < r.length + 1 := by omega
        rw [if_neg h, if_neg h2]; rfl
theorem nl_none {l : Bs} (h : ¬ nl l < l.length) : ∀ c ∈ l, c ≠ 10 := by
  have := nl_before l
  rwa [List.take_of_length_le (by omega)] at this
/-- The first byte 10 of a beginning, in the whole. -/
theorem nl_split {b : Bs} {m : Nat} (h : nl (b.take m) < (b.take m).length) :
    b = b.take (nl (b.take m)) ++ 10 :: b.drop (nl (b.take m) + 1) ∧ (∀ c ∈ b.take (nl (b.take m)), c ≠ 10) ∧ nl (b.take m) < m ∧ nl (b.take m) < b.length := by
  have h1 := nl_at _ h
  have h2 := nl_before (b.take m)
  have hl : (b.take m).length = min m b.length := List.length_take
  have hb : nl (b.take m) < b.length := by omega
  rw [List.getElem_take] at h1
  rw [List.take_take, Nat.min_eq_left (by omega)] at h2
  refine ⟨?_, h2, by omega, hb⟩
  rw [← h1, List.getElem_cons_drop]
  exact (List.take_append_drop _ _).symm

theorem idx10_any (b off cap : Nat) (l : Bs) (w : World) (h : Holds w b off l) :
    Calls Tryd.prog 69 #[.slice (some ⟨b, off, none⟩) l.length cap, .int .u8 10] w fun e w' => e = .returned (.int .i64 (Lib.indexByte l 10)) ∧ w = w' := by
  refine (Ln.bytes_IndexByte b off l.length cap (l.map fun c => (c.toNat : Int)) 10 w (by simp) ?_).mono ?_
  · intro i hi
    rw [h i hi]
    simp [hi]
  · rintro e w' ⟨rfl, rfl⟩
    rw [bytesOf_map]
    exact ⟨rfl, rfl⟩

end Go.Proofs.YtoofdompafkddaaDoor.Hd
/-
  bytes.TrimSuffix at a suffix of one byte; a reader's fail: what each leaves. No condition but what a slice can have.
-/
namespace Go.Proofs.YtoofdompafkddaaDoor.Hd
open Go.RowKit Go.Proofs.YtoofdompafkddaaDoor.Tk Go.Proofs.YtoofdompafkddaaDoor.Fd
set_option linter.unusedVariables false

/-- All sixteen cells of a block, one behind the other. -/
theorem put16 {w : World} {g : Nat} {t : TypeId} {fr : Nat × Nat} {x0 x1 x2 x3 x4 x5 x6 x7 x8 x9 x10 x11 x12 x13 x14 x15 : Value} (h0 : w.heap[g]? = some (.cells #[x0, x1, x2, x3, x4, x5, x6, x7, x8, x9, x10, x11, x12, x13, x14, x15] t fr)) (a0 a1 a2 a3 a4 a5 a6 a7 a8 a9 a10 a11 a12 a13 a14 a15 : Value) :
    ((((((((((((((((w.setCell ⟨g, 0, none⟩ a0).setCell ⟨g, 1, none⟩ a1).setCell ⟨g, 2, none⟩ a2).setCell ⟨g, 3, none⟩ a3).setCell ⟨g, 4, none⟩ a4).setCell ⟨g, 5, none⟩ a5).setCell ⟨g, 6, none⟩ a6).setCell ⟨g, 7, none⟩ a7).setCell ⟨g, 8, none⟩ a8).setCell ⟨g, 9, none⟩ a9).setCell ⟨g, 10, none⟩ a10).setCell ⟨g, 11, none⟩ a11).setCell ⟨g, 12, none⟩ a12).setCell ⟨g, 13, none⟩ a13).setCell ⟨g, 14, none⟩ a14).setCell ⟨g, 15, none⟩ a15).heap[g]? = some (.cells #[a0, a1, a2, a3, a4, a5, a6, a7, a8, a9, a10, a11, a12, a13, a14, a15] t fr) := by
  have h1 : (w.setCell ⟨g, 0, none⟩ a0).heap[g]? = some (.cells #[a0, x1, x2, x3, x4, x5, x6, x7, x8, x9, x10, x11, x12, x13, x14, x15] t fr) := heap_put h0 0 a0
  have h2 : ((w.setCell ⟨g, 0, none⟩ a0).setCell ⟨g, 1, none⟩ a1).heap[g]? = some (.cells #[a0, a1, x2, x3, x4, x5, x6, x7, x8, x9, x10, x11, x12, x13, x14, x15] t fr) := heap_put h1 1 a1
  have h3 : (((w.setCell ⟨g, 0, none⟩ a0).setCell ⟨g, 1, none⟩ a1).setCell ⟨g, 2, none⟩ a2).heap[g]? = some (.cells #[a0, a1, a2, x3, x4, x5, x6, x7, x8, x9, x10, x11, x12, x13, x14, x15] t fr) := heap_put h2 2 a2
  have h4 : ((((w.setCell ⟨g, 0, none⟩ a0).setCell ⟨g, 1, none⟩ a1).setCell ⟨g, 2, none⟩ a2).setCell ⟨g, 3, none⟩ a3).heap[g]? = some (.cells #[a0, a1, a2, a3, x4, x5, x6, x7, x8, x9, x10, x11, x12, x13, x14, x15] t fr) := heap_put h3 3 a3
  have h5 : (((((w.setCell ⟨g, 0, none⟩ a0).setCell ⟨g, 1, none⟩ a1).setCell ⟨g, 2, none⟩ a2).setCell ⟨g, 3, none⟩ a3).setCell ⟨g, 4, none⟩ a4).heap[g]? = some (.cells #[a0, a1, a2, a3, a4, x5, x6, x7, x8, x9, x10, x11, x12, x13, x14, x15] t fr) := heap_put h4 4 a4
  have h6 : ((((((w.setCell ⟨g, 0, none⟩ a0).setCell ⟨g, 1, none⟩ a1).setCell ⟨g, 2, none⟩ a2).setCell ⟨g, 3, none⟩ a3).setCell ⟨g, 4, none⟩ a4).setCell ⟨g, 5, none⟩ a5).heap[g]? = some (.cells #[a0, a1, a2, a3, a4, a5, x6, x7, x8, x9, x10, x11, x12, x13, x14, x15] t fr) := heap_put h5 5 a5
  have h7 : (((((((w.setCell ⟨g, 0, none⟩ a0).setCell ⟨g, 1, none⟩ a1).setCell ⟨g, 2, none⟩ a2).setCell ⟨g, 3, none⟩ a3).setCell ⟨g, 4, none⟩ a4).setCell ⟨g, 5, none⟩ a5).setCell ⟨g, 6, none⟩ a6).heap[g]? = some (.cells #[a0, a1, a2, a3, a4, a5, a6, x7, x8, x9, x10, x11, x12, x13, x14, x15] t fr) := heap_put h6 6 a6
  have h8 : ((((((((w.setCell ⟨g, 0, none⟩ a0).setCell ⟨g, 1, none⟩ a1).setCell ⟨g, 2, none⟩ a2).setCell ⟨g, 3, none⟩ a3).setCell ⟨g, 4, none⟩ a4).setCell ⟨g, 5, none⟩ a5).setCell ⟨g, 6, none⟩ a6).setCell ⟨g, 7, none⟩ a7).heap[g]? = some (.cells #[a0, a1, a2, a3, a4, a5, a6, a7, x8, x9, x10, x11, x12, x13, x14, x15] t fr) := heap_put h7 7 a7
  have h9 : (((((((((w.setCell ⟨g, 0, none⟩ a0).setCell ⟨g, 1, none⟩ a1).setCell ⟨g, 2, none⟩ a2).setCell ⟨g, 3, none⟩ a3).setCell ⟨g, 4, none⟩ a4).setCell ⟨g, 5, none⟩ a5).setCell ⟨g, 6, none⟩ a6).setCell ⟨g, 7, none⟩ a7).setCell ⟨g, 8, none⟩ a8).heap[g]? = some (.cells #[a0, a1, a2, a3, a4, a5, a6, a7, a8, x9, x10, x11, x12, x13, x14, x15] t fr) := heap_put h8 8 a8
  have h10 : ((((((((((w.setCell ⟨g, 0, none⟩ a0).setCell ⟨g, 1, none⟩ a1).setCell ⟨g, 2, none⟩ a2).setCell ⟨g, 3, none⟩ a3).setCell ⟨g, 4, none⟩ a4).setCell ⟨g, 5, none⟩ a5).setCell ⟨g, 6, none⟩ a6).setCell ⟨g, 7, none⟩ a7).setCell ⟨g, 8, none⟩ a8).setCell ⟨g, 9, none⟩ a9).heap[g]? = some (.cells #[a0, a1, a2, a3, a4, a5, a6, a7, a8, a9, x10, x11, x12, x13, x14, x15] t fr) := heap_put h9 9 a9
  have h11 : (((((((((((w.setCell ⟨g, 0, none⟩ a0).setCell ⟨g, 1, none⟩ a1).setCell ⟨g, 2, none⟩ a2).setCell ⟨g, 3, none⟩ a3).setCell ⟨g, 4, none⟩ a4).setCell ⟨g, 5, none⟩ a5).setCell ⟨g, 6, none⟩ a6).setCell ⟨g, 7, none⟩ a7).setCell ⟨g, 8, none⟩ a8).setCell ⟨g, 9, none⟩ a9).setCell ⟨g, 10, none⟩ a10).heap[g]? = some (.cells #[a0, a1, a2, a3, a4, a5, a6, a7, a8, a9, a10, x11, x12, x13, x14, x15] t fr) := heap_put h10 10 a10
  have h12 : ((((((((((((w.setCell ⟨g, 0, none⟩ a0).setCell ⟨g, 1, none⟩ a1).setCell ⟨g, 2, none⟩ a2).setCell ⟨g, 3, none⟩ a3).setCell ⟨g, 4, none⟩ a4).setCell ⟨g, 5, none⟩ a5).setCell ⟨g, 6, none⟩ a6).setCell ⟨g, 7, none⟩ a7).setCell ⟨g, 8, none⟩ a8).setCell ⟨g, 9, none⟩ a9).setCell ⟨g, 10, none⟩ a10).setCell ⟨g, 11, none⟩ a11).heap[g]? = some (.cells #[a0, a1, a2, a3, a4, a5, a6, a7, a8, a9, a10, a11, x12, x13, x14, x15] t fr) := heap_put h11 11 a11
  have h13 : (((((((((((((w.setCell ⟨g, 0, none⟩ a0).setCell ⟨g, 1, none⟩ a1).setCell ⟨g, 2, none⟩ a2).setCell ⟨g, 3, none⟩ a3).setCell ⟨g, 4, none⟩ a4).setCell ⟨g, 5, none⟩ a5).setCell ⟨g, 6, none⟩ a6).setCell ⟨g, 7, none⟩ a7).setCell ⟨g, 8, none⟩ a8).setCell ⟨g, 9, none⟩ a9).setCell ⟨g, 10, none⟩ a10).setCell ⟨g, 11, none⟩ a11).setCell ⟨g, 12, none⟩ a12).heap[g]? = some (.cells #[a0, a1, a2, a3, a4, a5, a6, a7, a8, a9, a10, a11, a12, x13, x14, x15] t fr) := heap_put h12 12 a12
  have h14 : ((((((((((((((w.setCell ⟨g, 0, none⟩ a0).setCell ⟨g, 1, none⟩ a1).setCell ⟨g, 2, none⟩ a2).setCell ⟨g, 3, none⟩ a3).setCell ⟨g, 4, none⟩ a4).setCell ⟨g, 5, none⟩ a5).setCell ⟨g, 6, none⟩ a6).setCell ⟨g, 7, none⟩ a7).setCell ⟨g, 8, none⟩ a8).setCell ⟨g, 9, none⟩ a9).setCell ⟨g, 10, none⟩ a10).setCell ⟨g, 11, none⟩ a11).setCell ⟨g, 12, none⟩ a12).setCell ⟨g, 13, none⟩ a13).heap[g]? = some (.cells #[a0, a1, a2, a3, a4, a5, a6, a7, a8, a9, a10, a11, a12, a13, x14, x15] t fr) := heap_put h13 13 a13
  have h15 : (((((((((((((((w.setCell ⟨g, 0, none⟩ a0).setCell ⟨g, 1, none⟩ a1).setCell ⟨g, 2, none⟩ a2).setCell ⟨g, 3, none⟩ a3).setCell ⟨g, 4, none⟩ a4).setCell ⟨g, 5, none⟩ a5).setCell ⟨g, 6, none⟩ a6).setCell ⟨g, 7, none⟩ a7).setCell ⟨g, 8, none⟩ a8).setCell ⟨g, 9, none⟩ a9).setCell ⟨g, 10, none⟩ a10).setCell ⟨g, 11, none⟩ a11).setCell ⟨g, 12, none⟩ a12).setCell ⟨g, 13, none⟩ a13).setCell ⟨g, 14, none⟩ a14).heap[g]? = some (.cells #[a0, a1, a2, a3, a4, a5, a6, a7, a8, a9, a10, a11, a12, a13, a14, x15] t fr) := heap_put h14 14 a14
  have h16 : ((((((((((((((((w.setCell ⟨g, 0, none⟩ a0).setCell ⟨g, 1, none⟩ a1).setCell ⟨g, 2, none⟩ a2).setCell ⟨g, 3, none⟩ a3).setCell ⟨g, 4, none⟩ a4).setCell ⟨g, 5, none⟩ a5).setCell ⟨g, 6, none⟩ a6).setCell ⟨g, 7, none⟩ a7).setCell ⟨g, 8, none⟩ a8).setCell ⟨g, 9, none⟩ a9).setCell ⟨g, 10, none⟩ a10).setCell ⟨g, 11, none⟩ a11).setCell ⟨g, 12, none⟩ a12).setCell ⟨g, 13, none⟩ a13).setCell ⟨g, 14, none⟩ a14).setCell ⟨g, 15, none⟩ a15).heap[g]? = some (.cells #[a0, a1, a2, a3, a4, a5, a6, a7, a8, a9, a10, a11, a12, a13, a14, a15] t fr) := heap_put h15 15 a15
  exact h16
theorem chg16 (w : World) (g : Nat) (a0 a1 a2 a3 a4 a5 a6 a7 a8 a9 a10 a11 a12 a13 a14 a15 : Value) : Chg (fun k => k = g) w ((((((((((((((((w.setCell ⟨g, 0, none⟩ a0).setCell ⟨g, 1, none⟩ a1).setCell ⟨g, 2, none⟩ a2).setCell ⟨g, 3, none⟩ a3).setCell ⟨g, 4, none⟩ a4).setCell ⟨g, 5, none⟩ a5).setCell ⟨g, 6, none⟩ a6).setCell ⟨g, 7, none⟩ a7).setCell ⟨g, 8, none⟩ a8).setCell ⟨g, 9, none⟩ a9).setCell ⟨g, 10, none⟩ a10).setCell ⟨g, 11, none⟩ a11).setCell ⟨g, 12, none⟩ a12).setCell ⟨g, 13, none⟩ a13).setCell ⟨g, 14, none⟩ a14).setCell ⟨g, 15, none⟩ a15) := by
  have h0 := Chg.refl (fun k => k = g) w
  have h1 := h0.put ⟨g, 0, none⟩ a0 (.inl rfl)
  have h2 := h1.put ⟨g, 1, none⟩ a1 (.inl rfl)
  have h3 := h2.put ⟨g, 2, none⟩ a2 (.inl rfl)
  have h4 := h3.put ⟨g, 3, none⟩ a3 (.inl rfl)
  have h5 := h4.put ⟨g, 4, none⟩ a4 (.inl rfl)
  have h6 := h5.put ⟨g, 5, none⟩ a5 (.inl rfl)
  have h7 := h6.put ⟨g, 6, none⟩ a6 (.inl rfl)
  have h8 := h7.put ⟨g, 7, none⟩ a7 (.inl rfl)
  have h9 := h8.put ⟨g, 8, none⟩ a8 (.inl rfl)
  have h10 := h9.put ⟨g, 9, none⟩ a9 (.inl rfl)
  have h11 := h10.put ⟨g, 10, none⟩ a10 (.inl rfl)
  have h12 := h11.put ⟨g, 11, none⟩ a11 (.inl rfl)
  have h13 := h12.put ⟨g, 12, none⟩ a12 (.inl rfl)
  have h14 := h13.put ⟨g, 13, none⟩ a13 (.inl rfl)
  have h15 := h14.put ⟨g, 14, none⟩ a14 (.inl rfl)
  have h16 := h15.put ⟨g, 15, none⟩ a15 (.inl rfl)
  exact h16

set_option maxRecDepth 100000 in
set_option maxHeartbeats 4000000 in
theorem fail_any (resp : Bool) (g : Nat) (M : Nat) (F lv : Value) (n : Nat) (wh : Bool) (e1 : Nat) (q : Parts) (fv : Value) (e0 : Nat) (w : World) (hF : IsFn F) (h : w.heap[g]? = some (.cells (rc resp M F lv n wh e1 resp q fv) 97 (0, 0))) :
    Calls Tryd.prog 72 #[.pointer (some ⟨g, 0, none⟩), .int .i64 (e0 : Int)] w fun e w' => e = .returned (.tuple #[]) ∧ w'.heap[g]? = some (.cells (rc false M F (.slice none 0 0) 0 false e0 false .none (.slice none 0 0)) 97 (0, 0)) ∧ Chg (fun k => k = g) w w' := by
  obtain ⟨fn, fi, ca, rfl⟩ := hF
  have c0 := rc0 h
  have c1 := rc1 h
  have c2 := rc2 h
  have c3 := rc3 h
  have c4 := rc4 h
  have c5 := rc5 h
  have c6 := rc6 h
  have c7 := rc7 h
  have c8 := rc8 h
  have c9 := rc9 h
  have c10 := rc10 h
  have c11 := rc11 h
  have c12 := rc12 h
  have c13 := rc13 h
  have c14 := rc14 h
  have c15 := rc15 h
  have f0 := free h 0
  have f1 := free h 1
  have f2 := free h 2
  have f3 := free h 3
  have f4 := free h 4
  have f5 := free h 5
  have f6 := free h 6
  have f7 := free h 7
  have f8 := free h 8
  have f9 := free h 9
  have f10 := free h 10
  have f11 := free h 11
  have f12 := free h 12
  have f13 := free h 13
  have f14 := free h 14
  have f15 := free h 15
  have HB := Lib.hid h
  clear h
  go_enter Tryd.func72, Tryd.ntmps72
  go_wp2_with fail
  go_end0
  exact ⟨rfl, put16 HB.out _ _ _ _ _ _ _ _ _ _ _ _ _ _ _ _, chg16 _ _ _ _ _ _ _ _ _ _ _ _ _ _ _ _ _ _⟩
end Go.Proofs.YtoofdompafkddaaDoor.Hd
/-
  A line that ended, by either function: where the reader stands then. Conditions: at most 8192 bytes; the table of token bytes.
-/
namespace Go.Proofs.YtoofdompafkddaaDoor.Hd
open Go.RowKit Go.Proofs.YtoofdompafkddaaDoor.Tk Go.Proofs.YtoofdompafkddaaDoor.Fd
set_option linter.unusedVariables false

theorem On.kept {w w' : World} {O O' : Nat → Prop} {resp : Bool} {g gb : Nat} {lv fv : Value} {p : Option Parts} {l : Bs} {n : Nat} {fs : List Fl} (h : On w O resp g gb lv fv p l n fs) (hc : Chg O' w w') (hd : ∀ k, O k → ¬ O' k) : On w' O resp g gb lv fv p l n fs :=
  ⟨hc.old (hd _ h.og) h.blk, hc.old (hd _ h.ob) h.box, row_chg h.line hc h.ol hd, row_chg h.flds hc h.of hd, h.og, h.ob, h.ol, h.of⟩
theorem On.below {w w' : World} {O : Nat → Prop} {resp : Bool} {g gb : Nat} {lv fv : Value} {p : Option Parts} {l : Bs} {n : Nat} {fs : List Fl} (h : On w O resp g gb lv fv p l n fs) (hb : Below w.heap.size w w') : On w' O resp g gb lv fv p l n fs :=
  h.kept (O' := fun _ => False) (Chg.of_below hb) (fun _ _ hf => hf)
/-- A row cut to nothing. -/
theorem row_cut {w : World} {q n C : Nat} {l : Bs} (h : OwnB w (.slice (some ⟨q, 0, none⟩) n C) l) : OwnB w (.slice (some ⟨q, 0, none⟩) 0 C) [] := by
  refine ⟨by simp [bys], .inr ?_⟩
  rcases h.2 with ⟨hv, _⟩ | ⟨g, cap, cur, hv, hg, hh, hlc, hcm, hcs, htk⟩
  · cases hv
  · injection hv with h1 h2 h3
    injection h1 with h1
    injection h1 with h1
    subst h1 h3
    exact ⟨q, C, cur, rfl, hg, hh, Nat.zero_le _, hcm, hcs, by simp [bys]⟩
theorem On.cut {w : World} {O : Nat → Prop} {resp : Bool} {g gb q m C : Nat} {fv : Value} {p : Option Parts} {l : Bs} {n : Nat} {fs : List Fl} (h : On w O resp g gb (.slice (some ⟨q, 0, none⟩) m C) fv p l n fs) :
    On (w.setCell ⟨g, 3, none⟩ (.slice (some ⟨q, 0, none⟩) 0 C)) O resp g gb (.slice (some ⟨q, 0, none⟩) 0 C) fv p [] n fs := by
  have hxg : gb ≠ g := apart_of h.box h.blk (by decide)
  refine ⟨rc_put3 h.blk _, put_far h.box (by show gb ≠ g; exact hxg), row_same (row_cut h.line) fun k hk => ?_, row_same h.flds fun k hk => ?_, h.og, h.ob, h.ol, h.of⟩
  · obtain ⟨cu, hcu⟩ := row_type h.line (k := k) hk
    exact put_far rfl (by show k ≠ g; exact apart_of hcu h.blk (by decide))
  · obtain ⟨cu, hcu⟩ := row_type h.flds hk
    exact put_far rfl (by show k ≠ g; exact apart_of hcu h.blk (by decide))
theorem new_size {O : Nat → Prop} {a b : World} (hs : a.heap.size ≤ b.heap.size) (k : Nat) (h : New O b k) : New O a k := by
  rcases h with h | h
  · exact .inl h
  · exact .inr (by omega)

def LinePost (O : Nat → Prop) (resp : Bool) (g : Nat) (st : St) (w : World) (e : Ending) (w' : World) : Prop :=
  ∃ e0 : Nat, e = .returned (.int .i64 (e0 : Int)) ∧ Chg O w w' ∧
    ((e0 = 0 ∧ Rdr w' (New O w) resp g st) ∨ (e0 ≠ 0 ∧ st = .bad e0 ∧ ∃ M F lv n wh e1 q fv, IsFn F ∧ w'.heap[g]? = some (.cells (rc resp M F lv n wh e1 resp q fv) 97 (0, 0))))
theorem chg_one {O : Nat → Prop} {g : Nat} {w w' : World} (h : Chg (fun k => k = g) w w') (hg : O g) : Chg O w w' :=
  ⟨h.os, h.tape, h.output, h.size, fun k hk hn => h.block k hk (fun e => hn (e ▸ hg))⟩
theorem Chg.mono {O O' : Nat → Prop} {w w' : World} (h : Chg O' w w') (hO : ∀ k, O' k → O k) : Chg O w w' := ⟨h.os, h.tape, h.output, h.size, fun k hk hn => h.block k hk (fun e => hn (hO k e))⟩
theorem txt_pos {t : Bs} (h : t ≠ []) : 0 < (txt t).size := by rw [txt_size]; exact List.length_pos_iff.2 h
/-- A row of another type than the reader's stands. -/
theorem row_apart {w w' : World} {g : Nat} {cs : Array Value} {s e : TypeId} {base sz n : Nat} {v : Value} {xs : List Value} (hg : w.heap[g]? = some (.cells cs s (0, 0))) (hne : e ≠ s) (h : w.ownsRow base e sz v n xs) (hc : Chg (fun k => k = g) w w') :
    w'.ownsRow base e sz v n xs :=
  row_same h fun k hk => by
    obtain ⟨cu, hcu⟩ := row_type h hk
    exact hc.block k (block_lt hcu) (apart_of hcu hg hne)

theorem opening_line (O : Nat → Prop) (resp : Bool) (g gb : Nat) (lv fv : Value) (n : Nat) (fs : List Fl) (t : Bs) (w : World) (h : On w O resp g gb lv fv none [] n fs) (hT : Tab w) (ho : ¬ O 0) :
    Calls Tryd.prog 67 #[.pointer (some ⟨g, 0, none⟩), .string (txt t), .pointer (some ⟨gb, 0, none⟩)] w (LinePost O resp g (ended resp none n fs t) w) := by
  have hg : g ≠ 0 := fun e => ho (e ▸ h.og)
  by_cases ht : t = []
  · subst ht
    refine (opening_empty g gb w).mono ?_
    rintro e w' ⟨rfl, rfl⟩
    exact ⟨0, rfl, Chg.refl _ _, .inl ⟨rfl, Rdr.mono (s := .on none [] n fs) ⟨gb, lv, fv, h⟩ (fun k hk => .inl hk)⟩⟩
  · refine (opening_any resp g gb (most none) (fnOf gb none) lv n _ fv (txt t) w h.blk h.box hT hg (txt_pos ht)).mono ?_
    rintro e w' ⟨rfl, hb, hc⟩
    refine ⟨_, rfl, chg_one hc h.og, ?_⟩
    have he : ended resp none n fs t = if (firstOf resp (txt t)).2 = 0 then .on (some (firstOf resp (txt t)).1) [] n fs else .bad (firstOf resp (txt t)).2 := by
      show (if t = [] then _ else _) = _; rw [if_neg ht]
    rw [he]
    by_cases h0 : (firstOf resp (txt t)).2 = 0
    · rw [if_pos h0]
      have hxg : gb ≠ g := apart_of h.box h.blk (by decide)
      exact .inl ⟨h0, gb, lv, fv, hb, hc.old hxg h.box, row_apart h.blk (by decide) h.line hc, row_apart h.blk (by decide) h.flds hc, .inl h.og, .inl h.ob, fun k hk => .inl (h.ol k hk), fun k hk => .inl (h.of k hk)⟩
    · rw [if_neg h0]
      exact .inr ⟨h0, rfl, 8192, _, lv, n, false, 0, _, fv, ⟨_, _, _, rfl⟩, hb⟩

theorem field_line (O : Nat → Prop) (resp : Bool) (g gb : Nat) (lv fv : Value) (q : Parts) (n : Nat) (fs : List Fl) (t : Bs) (w : World) (h : On w O resp g gb lv fv (some q) [] n fs) (hT : Tab w) (ho : ¬ O 0)
    (hl : fs.length ≤ 64) (ht8 : t.length ≤ 8192) :
    Calls Tryd.prog 68 #[.pointer (some ⟨g, 0, none⟩), .string (txt t)] w (LinePost O resp g (ended resp (some q) n fs t) w) := by
  by_cases ht : t = []
  · subst ht
    refine (field_empty resp g 8192 (fnOf gb (some q)) lv n q fv w h.blk).mono ?_
    rintro e w' ⟨rfl, hb, hc⟩
    exact ⟨0, rfl, chg_one hc h.og, .inl ⟨rfl, 8192, fnOf gb (some q), _, n, fv, fnOf_is _ _, hb, row_apart h.blk (by decide) h.flds hc, .inl h.og, fun k hk => .inl (h.of k hk)⟩⟩
  · have he : ended resp (some q) n fs t = if fs.length = 64 then .bad 3 else if (fldOf (txt t)).2 = 0 then .on (some q) [] n (fs ++ [(fldOf (txt t)).1]) else .bad (fldOf (txt t)).2 := by
      show (if t = [] then _ else _) = _; rw [if_neg ht]
    rw [he]
    by_cases h64 : fs.length = 64
    · rw [if_pos h64]
      obtain ⟨a, c, hfv⟩ := OwnF.form h.flds
      subst hfv
      have hB := h.blk
      rw [h64] at hB
      rw [h64] at h
      refine (field_full resp g 8192 (fnOf gb (some q)) lv n q a c (txt t) w hB (txt_pos ht)).mono ?_
      rintro e w' ⟨rfl, rfl⟩
      exact ⟨3, rfl, Chg.refl _ _, .inr ⟨by omega, rfl, 8192, _, lv, n, false, 0, q, _, fnOf_is gb (some q), hB⟩⟩
    · rw [if_neg h64]
      refine (field_any (fun k => k = g ∨ fv.ownBlock = some k) resp g 8192 (fnOf gb (some q)) lv n q fv fs (txt t) w h.blk h.flds (by omega) (.inl rfl) (fun k hk => .inr hk) hT (txt_pos ht) (by rw [txt_size]; omega)).mono ?_
      rintro e w' ⟨rfl, ⟨fv', hb, hf, hn⟩, hc⟩
      have hO : ∀ k, (k = g ∨ fv.ownBlock = some k) → O k := fun k hk => by
        rcases hk with hk | hk
        · subst hk; exact h.og
        · exact h.of k hk
      refine ⟨_, rfl, Chg.mono hc hO, ?_⟩
      by_cases h0 : (fldOf (txt t)).2 = 0
      · rw [if_pos h0]
        refine .inl ⟨h0, gb, lv, fv', hb, hc.old (fun hk => ?_) h.box, row_same h.line (fun k hk => ?_), hf, .inl h.og, .inl h.ob, fun k hk => .inl (h.ol k hk), fun k hk => ?_⟩
        · rcases hk with hk | hk
          · exact apart_of h.box h.blk (by decide) hk
          · obtain ⟨cu, hcu⟩ := row_type h.flds hk; exact apart_of hcu h.box (by decide) rfl
        · obtain ⟨cu, hcu⟩ := row_type h.line hk
          refine hc.block k (block_lt hcu) (fun hk2 => ?_)
          rcases hk2 with hk2 | hk2
          · exact apart_of hcu h.blk (by decide) hk2
          · obtain ⟨cv, hcv⟩ := row_type h.flds hk2; exact apart_of hcv hcu (by decide) rfl
        · rcases hn k hk with h1 | h1
          · exact .inl (hO k h1)
          · exact .inr h1
      · rw [if_neg h0]
        exact .inr ⟨h0, rfl, 8192, _, lv, n, false, 0, q, fv', fnOf_is gb (some q), hb⟩
end Go.Proofs.YtoofdompafkddaaDoor.Hd
/-
  A reader's end: what it leaves. Conditions: at most 8192 bytes; the table of token bytes.
-/
namespace Go.Proofs.YtoofdompafkddaaDoor.Hd
open Go.RowKit Go.Proofs.YtoofdompafkddaaDoor.Tk Go.Proofs.YtoofdompafkddaaDoor.Fd
set_option linter.unusedVariables false

def EndPost (O : Nat → Prop) (resp : Bool) (g : Nat) (st : St) (w : World) (e : Ending) (w' : World) : Prop := e = .returned (.tuple #[]) ∧ Rdr w' (New O w) resp g st ∧ Chg O w w'
theorem own_take (l : Bs) : own l = l.take (own l).length := cutEnd_take 13 l
set_option maxRecDepth 100000 in
set_option maxHeartbeats 4000000 in
theorem end_none (O : Nat → Prop) (resp : Bool) (g gb : Nat) (lv fv : Value) (l : Bs) (n : Nat) (fs : List Fl) (w : World) (h : On w O resp g gb lv fv none (l ++ [10]) n fs) (hT : Tab w) (ho : ¬ O 0) :
    Calls Tryd.prog 71 #[.pointer (some ⟨g, 0, none⟩)] w (EndPost O resp g (ended resp none n fs (own l)) w) := by
  rcases h.line.2 with ⟨_, h0⟩ | ⟨q, C, cur, hv, _, hh, hlc, hcm, hcs, htk⟩
  · simp at h0
  have hl1 : (l ++ [10]).length = l.length + 1 := by simp
  rw [hl1] at hv hlc
  subst hv
  have HO := Lib.hid h
  have hB := h.blk
  have hL := h.line
  have hqg : q ≠ g := apart_of hh hB (by decide)
  have hLh : Holds w q 0 (l ++ [10]) := OwnB.holds hL (by rw [hl1])
  have hqw := block_lt hh
  have c2 := rc2 hB
  have c3 := rc3 hB
  have f3 := free hB 3
  unfold fnOf at c2
  clear h htk hcs hh
  have HB := Lib.hid hB
  have HH := Lib.hid hLh
  clear hB hL hLh
  have kc := fun (w : World) (C : Array Value) (n c : Nat) => Lib.run_convert_bytes_const (P := Tryd.prog) w 22 5 C n c Tryd.underlying22 Tryd.underlying5
  have HC1 := Lib.hid (cutEnd_snoc 10 l)
  have HC2 := Lib.hid (show (cutEnd 13 l) = own l from rfl)
  have hol := own_length l
  have hconv := fun (W : World) (h : Holds W q 0 (own l)) => Tk.run_back (P := Tryd.prog) W 22 9 5 q 0 C (own l) Tryd.underlying22 Tryd.underlying5 Tryd.underlying9 h
  have HV := Lib.hid hconv
  obtain ⟨w1, hw1⟩ : ∃ w1, w1 = w.alloc (.cells #[.int .u8 10] 5 (1, 2)) := ⟨_, rfl⟩
  have hb1 : Below w.heap.size w w1 := by rw [hw1]; exact (Below.refl _ _).alloc (Nat.le_refl _) _
  have HN1 := Lib.hid (show w1.heap[w.heap.size]? = some (.cells #[.int .u8 10] 5 (1, 2)) from by rw [hw1]; exact new_block _ _)
  obtain ⟨w2, hw2⟩ : ∃ w2, w2 = w1.alloc (.cells #[.int .u8 13] 5 (1, 2)) := ⟨_, rfl⟩
  have hb2 : Below w1.heap.size w1 w2 := by rw [hw2]; exact (Below.refl _ _).alloc (Nat.le_refl _) _
  have HN2 := Lib.hid (show w2.heap[w1.heap.size]? = some (.cells #[.int .u8 13] 5 (1, 2)) from by rw [hw2]; exact new_block _ _)
  have HX1 := Lib.hid (holds_below HH.out hb1 hqw)
  have HX2 := Lib.hid (holds_below HX1.out hb2 (by have := hb1.size; omega))
  have HB1 := Bl.old hb1 (block_lt HB.out) HB.out
  have HB2 := Bl.old hb2 (block_lt HB1) HB1
  have HBB := Lib.hid (Bl.next hb1 hb2)
  have HO2 := Lib.hid (HO.out.below (Bl.next hb1 hb2))
  have HO3 := Lib.hid HO2.out.cut
  have hs2 : w.heap.size ≤ w2.heap.size := (Bl.next hb1 hb2).size
  have HC3 := Lib.hid ((Chg.of_below (O := O) (Bl.next hb1 hb2)).put ⟨g, 3, none⟩ (.slice (some ⟨q, 0, none⟩) 0 C) (.inl HO.out.og))
  have HT3 := Lib.hid (Tab.chg hT HC3.out ho)
  have HW1 := Lib.hid hw1
  have HW2 := Lib.hid hw2
  have HCV := Lib.hid (HV.out w2 (by rw [own_take]; exact Holds_take (l := l) (by have := Holds_take HX2.out l.length; rwa [List.take_left] at this) _))
  clear hw1 hw2 hb1 hb2 HB1 HV hconv
  go_enter Tryd.func71, Tryd.ntmps71
  go_wp2_with fail
  rw [← hl1, ← HW1.out]
  refine (trimsuf_any q 0 C (l ++ [10]) w.heap.size 10 _ (by rw [hl1]; exact hlc) hcm HX1.out (by rw [Lib.cell_of_heap HN1.out]; rfl)).mono ?_
  rintro e x1 ⟨rfl, rfl⟩
  rw [HC1.out]
  clear c2 c3 f3
  go_wp2_with fail
  rw [← HW2.out]
  refine (trimsuf_any q 0 C l w1.heap.size 13 _ (by omega) hcm (by have := Holds_take HX2.out l.length; rwa [List.take_left] at this) (by rw [Lib.cell_of_heap HN2.out]; rfl)).mono ?_
  rintro e x2 ⟨rfl, rfl⟩
  rw [HC2.out]
  have hcv := HCV.out
  have c2 := rc2 HB2
  have c3 := rc3 HB2
  have f3 := free HB2 3
  unfold fnOf at c2
  go_wp2_with fail
  refine (opening_line O resp g gb _ fv n fs (own l) _ HO3.out HT3.out ho).mono ?_
  rintro e w4 ⟨e0, rfl, hc4, hR⟩
  have hs4 : w.heap.size ≤ (w2.setCell ⟨g, 3, none⟩ (.slice (some ⟨q, 0, none⟩) 0 C)).heap.size := by simpa [World.setCell] using hs2
  have HC4 := Lib.hid (HC3.out.trans hc4 (fun k hk => .inl hk))
  rcases hR with ⟨h0, hR⟩ | ⟨h0, hst, M, F, lv', n', wh, e1, q', fv', hF, hblk⟩
  · subst h0
    have HR := Lib.hid (hR.mono (new_size hs4))
    clear hR hc4 hcv c2 c3 f3 HB2
    go_wp2_with fail
    go_end0
    exact ⟨rfl, HR.out, HC4.out⟩
  · have HS := Lib.hid hst
    have HK := Lib.hid hblk
    have hn0 : ((e0 : Int) != 0) = true := by rw [bne_iff_ne]; omega
    clear hst hc4 hcv c2 c3 f3 HB2 hblk
    go_wp2_with fail
    refine (fail_any resp g M F lv' n' wh e1 q' fv' e0 _ hF HK.out).mono ?_
    rintro e w5 ⟨rfl, hb5, hc5⟩
    have HC5 := Lib.hid (HC4.out.trans hc5 (fun k hk => .inl (hk ▸ HO.out.og)))
    have HB5 := Lib.hid hb5
    clear hc5 hb5
    go_wp2_with fail
    go_end0
    exact ⟨rfl, by rw [HS.out]; exact ⟨M, F, hF, HB5.out, .inl HO.out.og⟩, HC5.out⟩
set_option maxRecDepth 100000 in
set_option maxHeartbeats 4000000 in
theorem end_some (O : Nat → Prop) (resp : Bool) (qq : Parts) (g gb : Nat) (lv fv : Value) (l : Bs) (n : Nat) (fs : List Fl) (w : World) (h : On w O resp g gb lv fv (some qq) (l ++ [10]) n fs) (hT : Tab w) (ho : ¬ O 0) (hl64 : fs.length ≤ 64) (hl8 : l.length ≤ 8192) :
    Calls Tryd.prog 71 #[.pointer (some ⟨g, 0, none⟩)] w (EndPost O resp g (ended resp (some qq) n fs (own l)) w) := by
  rcases h.line.2 with ⟨_, h0⟩ | ⟨q, C, cur, hv, _, hh, hlc, hcm, hcs, htk⟩
  · simp at h0
  have hl1 : (l ++ [10]).length = l.length + 1 := by simp
  rw [hl1] at hv hlc
  subst hv
  have HO := Lib.hid h
  have hB := h.blk
  have hL := h.line
  have hqg : q ≠ g := apart_of hh hB (by decide)
  have hLh : Holds w q 0 (l ++ [10]) := OwnB.holds hL (by rw [hl1])
  have hqw := block_lt hh
  have c2 := rc2 hB
  have c3 := rc3 hB
  have f3 := free hB 3
  unfold fnOf at c2
  clear h htk hcs hh
  have HB := Lib.hid hB
  have HH := Lib.hid hLh
  clear hB hL hLh
  have kc := fun (w : World) (C : Array Value) (n c : Nat) => Lib.run_convert_bytes_const (P := Tryd.prog) w 22 5 C n c Tryd.underlying22 Tryd.underlying5
  have HC1 := Lib.hid (cutEnd_snoc 10 l)
  have HC2 := Lib.hid (show (cutEnd 13 l) = own l from rfl)
  have hol := own_length l
  have hconv := fun (W : World) (h : Holds W q 0 (own l)) => Tk.run_back (P := Tryd.prog) W 22 9 5 q 0 C (own l) Tryd.underlying22 Tryd.underlying5 Tryd.underlying9 h
  have HV := Lib.hid hconv
  obtain ⟨w1, hw1⟩ : ∃ w1, w1 = w.alloc (.cells #[.int .u8 10] 5 (1, 2)) := ⟨_, rfl⟩
  have hb1 : Below w.heap.size w w1 := by rw [hw1]; exact (Below.refl _ _).alloc (Nat.le_refl _) _
  have HN1 := Lib.hid (show w1.heap[w.heap.size]? = some (.cells #[.int .u8 10] 5 (1, 2)) from by rw [hw1]; exact new_block _ _)
  obtain ⟨w2, hw2⟩ : ∃ w2, w2 = w1.alloc (.cells #[.int .u8 13] 5 (1, 2)) := ⟨_, rfl⟩
  have hb2 : Below w1.heap.size w1 w2 := by rw [hw2]; exact (Below.refl _ _).alloc (Nat.le_refl _) _
  have HN2 := Lib.hid (show w2.heap[w1.heap.size]? = some (.cells #[.int .u8 13] 5 (1, 2)) from by rw [hw2]; exact new_block _ _)
  have HX1 := Lib.hid (holds_below HH.out hb1 hqw)
  have HX2 := Lib.hid (holds_below HX1.out hb2 (by have := hb1.size; omega))
  have HB1 := Bl.old hb1 (block_lt HB.out) HB.out
  have HB2 := Bl.old hb2 (block_lt HB1) HB1
  have HBB := Lib.hid (Bl.next hb1 hb2)
  have HO2 := Lib.hid (HO.out.below (Bl.next hb1 hb2))
  have HO3 := Lib.hid HO2.out.cut
  have hs2 : w.heap.size ≤ w2.heap.size := (Bl.next hb1 hb2).size
  have HC3 := Lib.hid ((Chg.of_below (O := O) (Bl.next hb1 hb2)).put ⟨g, 3, none⟩ (.slice (some ⟨q, 0, none⟩) 0 C) (.inl HO.out.og))
  have HT3 := Lib.hid (Tab.chg hT HC3.out ho)
  have HW1 := Lib.hid hw1
  have HW2 := Lib.hid hw2
  have HCV := Lib.hid (HV.out w2 (by rw [own_take]; exact Holds_take (l := l) (by have := Holds_take HX2.out l.length; rwa [List.take_left] at this) _))
  clear hw1 hw2 hb1 hb2 HB1 HV hconv
  go_enter Tryd.func71, Tryd.ntmps71
  go_wp2_with fail
  rw [← hl1, ← HW1.out]
  refine (trimsuf_any q 0 C (l ++ [10]) w.heap.size 10 _ (by rw [hl1]; exact hlc) hcm HX1.out (by rw [Lib.cell_of_heap HN1.out]; rfl)).mono ?_
  rintro e x1 ⟨rfl, rfl⟩
  rw [HC1.out]
  clear c2 c3 f3
  go_wp2_with fail
  rw [← HW2.out]
  refine (trimsuf_any q 0 C l w1.heap.size 13 _ (by omega) hcm (by have := Holds_take HX2.out l.length; rwa [List.take_left] at this) (by rw [Lib.cell_of_heap HN2.out]; rfl)).mono ?_
  rintro e x2 ⟨rfl, rfl⟩
  rw [HC2.out]
  have hcv := HCV.out
  have c2 := rc2 HB2
  have c3 := rc3 HB2
  have f3 := free HB2 3
  unfold fnOf at c2
  go_wp2_with fail
  refine (field_line O resp g gb _ fv qq n fs (own l) _ HO3.out HT3.out ho hl64 (by omega)).mono ?_
  rintro e w4 ⟨e0, rfl, hc4, hR⟩
  have hs4 : w.heap.size ≤ (w2.setCell ⟨g, 3, none⟩ (.slice (some ⟨q, 0, none⟩) 0 C)).heap.size := by simpa [World.setCell] using hs2
  have HC4 := Lib.hid (HC3.out.trans hc4 (fun k hk => .inl hk))
  rcases hR with ⟨h0, hR⟩ | ⟨h0, hst, M, F, lv', n', wh, e1, q', fv', hF, hblk⟩
  · subst h0
    have HR := Lib.hid (hR.mono (new_size hs4))
    clear hR hc4 hcv c2 c3 f3 HB2
    go_wp2_with fail
    go_end0
    exact ⟨rfl, HR.out, HC4.out⟩
  · have HS := Lib.hid hst
    have HK := Lib.hid hblk
    have hn0 : ((e0 : Int) != 0) = true := by rw [bne_iff_ne]; omega
    clear hst hc4 hcv c2 c3 f3 HB2 hblk
    go_wp2_with fail
    refine (fail_any resp g M F lv' n' wh e1 q' fv' e0 _ hF HK.out).mono ?_
    rintro e w5 ⟨rfl, hb5, hc5⟩
    have HC5 := Lib.hid (HC4.out.trans hc5 (fun k hk => .inl (hk ▸ HO.out.og)))
    have HB5 := Lib.hid hb5
    clear hc5 hb5
    go_wp2_with fail
    go_end0
    exact ⟨rfl, by rw [HS.out]; exact ⟨M, F, hF, HB5.out, .inl HO.out.og⟩, HC5.out⟩
theorem end_any (O : Nat → Prop) (resp : Bool) (g gb : Nat) (lv fv : Value) (p : Option Parts) (l : Bs) (n : Nat) (fs : List Fl) (w : World) (h : On w O resp g gb lv fv p (l ++ [10]) n fs) (hT : Tab w) (ho : ¬ O 0) (hl64 : fs.length ≤ 64) (hl8 : l.length ≤ 8192) :
    Calls Tryd.prog 71 #[.pointer (some ⟨g, 0, none⟩)] w (EndPost O resp g (ended resp p n fs (own l)) w) := by
  cases p with
  | none => exact end_none O resp g gb lv fv l n fs w h hT ho
  | some qq => exact end_some O resp qq g gb lv fv l n fs w h hT ho hl64 hl8
end Go.Proofs.YtoofdompafkddaaDoor.Hd
