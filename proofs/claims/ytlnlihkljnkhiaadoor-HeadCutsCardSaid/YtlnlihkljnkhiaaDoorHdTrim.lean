/-
  bytes.TrimSuffix at a suffix of one byte; a reader's fail: what each leaves. No condition but what a slice can have.
-/
import Derived.Test.YtlnlihkljnkhiaaDoorHdField
import Derived.Test.YtlnlihkljnkhiaaDoorLnCut
namespace Go.Proofs.YtlnlihkljnkhiaaDoor.Hd
open Go.RowKit Go.Proofs.YtlnlihkljnkhiaaDoor.Tk Go.Proofs.YtlnlihkljnkhiaaDoor.Fd
set_option linter.unusedVariables false

/-- Bytes without a byte at their end. -/
def cutEnd (c : UInt8) (l : Bs) : Bs := if l.getLast? = some c then l.dropLast else l
theorem cutEnd_own (l : Bs) : cutEnd 13 l = own l := rfl
theorem cutEnd_snoc (c : UInt8) (l : Bs) : cutEnd c (l ++ [c]) = l := by unfold cutEnd; simp
theorem cutEnd_take (c : UInt8) (l : Bs) : cutEnd c l = l.take (cutEnd c l).length := by
  unfold cutEnd; split
  · rw [List.length_dropLast, List.dropLast_eq_take]
  · rw [List.take_length]
theorem cutEnd_le (c : UInt8) (l : Bs) : (cutEnd c l).length ≤ l.length := by
  unfold cutEnd; split
  · rw [List.length_dropLast]; omega
  · exact Nat.le_refl _
theorem suffix_one (l : Bs) (c : UInt8) : Lib.hasSuffix l [c] = decide (l.getLast? = some c) := by
  rw [Bool.eq_iff_iff, decide_eq_true_eq]
  unfold Lib.hasSuffix
  rw [List.isSuffixOf_iff_suffix]
  constructor
  · rintro ⟨t, rfl⟩; simp
  · intro h
    rcases snoc_cases l with rfl | ⟨i, d, rfl⟩
    · simp at h
    · simp at h; subst h; exact ⟨i, rfl⟩
theorem Holds_take {w : World} {b off : Nat} {l : Bs} (h : Holds w b off l) (k : Nat) : Holds w b off (l.take k) := by
  intro j hj
  have hj' : j < l.length := by rw [List.length_take] at hj; omega
  rw [h j hj', List.getElem_take]

theorem trimsuf_any (b off cap : Nat) (l : Bs) (q : Nat) (c : UInt8) (w : World) (hc : l.length ≤ cap) (hm : cap ≤ maxLen) (h : Holds w b off l) (hq : w.cell? ⟨q, 0, none⟩ = some (.int .u8 (c.toNat : Int))) :
    Calls Tryd.prog 54 #[.slice (some ⟨b, off, none⟩) l.length cap, .slice (some ⟨q, 0, none⟩) 1 1] w fun e w' => e = .returned (.slice (some ⟨b, off, none⟩) (cutEnd c l).length cap) ∧ w = w' := by
  refine (Ln.bytes_TrimSuffix_all (some ⟨b, off, none⟩) (some ⟨q, 0, none⟩) l.length cap 1 1 (l.map fun c => (c.toNat : Int)) [(c.toNat : Int)] w (by simp) rfl hc (by unfold maxLen at hm; omega)
    (.of_cells fun i hi => ?_) (.of_cells fun i hi => ?_)).mono ?_
  · rw [Addr.add_lit, h i hi]; simp [hi]
  · have : i = 0 := by omega
    subst this; rw [Addr.add_lit]; simpa using hq
  · rintro e w' ⟨rfl, rfl⟩
    refine ⟨?_, rfl⟩
    have e1 : Lib.bytesOf [(c.toNat : Int)] = [c] := Ln.bytesOf_map [c]
    show Ending.returned (Lib.bytesTrimSuffix b off l.length cap _ _) = _
    unfold Lib.bytesTrimSuffix
    rw [Ln.bytesOf_map, e1, suffix_one]
    unfold cutEnd Lib.sliceTo
    by_cases hl : l.getLast? = some c
    · simp [hl]
    · simp [hl]

/-- All sixteen cells of a block, one behind the other. -/
theorem put16 {w : World} {g : Nat} {t : TypeId} {fr : Nat × Nat} {x0 x1 x2 x3 x4 x5 x6 x7 x8 x9 x10 x11 x12 x13 x14 x15 : Value} (h0 : w.heap[g]? = some (.cells #[x0, x1, x2, x3, x4, x5, x6, x7, x8, x9, x10, x11, x12, x13, x14, x15] t fr)) (a0 a1 a2 a3 a4 a5 a6 a7 a8 a9 a10 a11 a12 a13 a14 a15 : Value) :
    ((((((((((((((((w.setCell ⟨g, 0, none⟩ a0).setCell ⟨g, 1, none⟩ a1).setCell ⟨g, 2, none⟩ a2).setCell ⟨g, 3, none⟩ a3).setCell ⟨g, 4, none⟩ a4).setCell ⟨g, 5, none⟩ a5).setCell ⟨g, 6, none⟩ a6).setCell ⟨g, 7, none⟩ a7).setCell ⟨g, 8, none⟩ a8).setCell ⟨g, 9, none⟩ a9).setCell ⟨g, 10, none⟩ a10).setCell ⟨g, 11, none⟩ a11).setCell ⟨g, 12, none⟩ a12).setCell ⟨g, 13, none⟩ a13).setCell ⟨g, 14, none⟩ a14).setCell ⟨g, 15, none⟩ a15).heap[g]? = some (.cells #[a0, a1, a2, a3, a4, a5, a6, a7, a8, a9, a10, a11, a12, a13, a14, a15] t fr) := by
  have h1 : (w.setCell ⟨g, 0, none⟩ a0).heap[g]? = some (.cells #[a0, x1, x2, x3, x4, x5, x6, x7, x8, x9, x10, x11, x12, x13, x14, x15] t fr) := heap_put h0 0 a0
  have h2 : ((w.setCell ⟨g, 0, none⟩ a0).setCell ⟨g, 1, none⟩ a1).heap[g]? = some (.cells #[a0, a1, x2, x3, x4, x5, x6, x7, x8, x9, x10, x11, x12, x13, x14, x15] t fr) := heap_put h1 1 a1
  have h3 : (((w.setCell ⟨g, 0, none⟩ a0).setCell ⟨g, 1, none⟩ a1).setCell ⟨g, 2, none⟩ a2).heap[g]? = some (.cells #[a0, a1, a2, x3, x4, x5, x6, x7, x8, x9, x10, x11, x12, x13, x14, x15] t fr) := heap_put h2 2 a2
  have h4 : ((((w.setCell ⟨g, 0, none⟩ a0).setCell ⟨g, 1, none⟩ a1).setCell ⟨g, 2, none⟩ a2).setCell ⟨g, 3, none⟩ a3).heap[g]? = some (.cells #[a0, a1, a2, a3, x4, x5, x6, x7, x8, x9, x10, x11, x12, x13, x14, x15] t fr) := heap_put h3 3 a3
  have h5 : (((((w.setCell ⟨g, 0, none⟩ a0).setCell ⟨g, 1, none⟩ a1).setCell ⟨g, 2, none⟩ a2).setCell ⟨g, 3, none⟩ a3).setCell ⟨g, 4, none⟩ a4).heap[g]? = some (.cells #[a0, a1, a2, a3, a4, x5, x6, x7, x8, x9, x10, x11, x12, x13, x14, x15] t fr) := heap_put h4 4 a4
  have h6 : ((((((w.setCell ⟨g, 0, none⟩ a0).setCell ⟨g, 1, none⟩ a1).setCell ⟨g, 2, none⟩ a2).setCell ⟨g, 3, none⟩ a3).setCell ⟨g, 4, none⟩ a4).setCell ⟨g, 5, none⟩ a5).heap[g]? = some (.cells #[a0, a1, a2, a3, a4, a5, x6, x7, x8, x9, x10, x11, x12, x13, x14, x15] t fr) := heap_put h5 5 a5
  have h7 : (((((((w.setCell ⟨g, 0, none⟩ a0).setCell ⟨g, 1, none⟩ a1).setCell ⟨g, 2, none⟩ a2).setCell ⟨g, 3, none⟩ a3).setCell ⟨g, 4, none⟩ a4).setCell ⟨g, 5, none⟩ a5).setCell ⟨g, 6, none⟩ a6).heap[g]? = some (.cells #[a0, a1, a2, a3, a4, a5, a6, x7, x8, x9, x10, x11, x12, x13, x14, x15] t fr) := heap_put h6 6 a6
  have h8 : ((((((((w.setCell ⟨g, 0, none⟩ a0).setCell ⟨g, 1, none⟩ a1).setCell ⟨g, 2, none⟩ a2).setCell ⟨g, 3, none⟩ a3).setCell ⟨g, 4, none⟩ a4).setCell ⟨g, 5, none⟩ a5).setCell ⟨g, 6, none⟩ a6).setCell ⟨g, 7, none⟩ a7).heap[g]? = some (.cells #[a0, a1, a2, a3, a4, a5, a6, a7, x8, x9, x10, x11, x12, x13, x14, x15] t fr) := heap_put h7 7 a7
  have h9 : (((((((((w.setCell ⟨g, 0, none⟩ a0).setCell ⟨g, 1, none⟩ a1).setCell ⟨g, 2, none⟩ a2).setCell ⟨g, 3, none⟩ a3).setCell ⟨g, 4, none⟩ a4).setCell ⟨g, 5, none⟩ a5).setCell ⟨g, 6, none⟩ a6).setCell ⟨g, 7, none⟩ a7).setCell ⟨g, 8, none⟩ a8).heap[g]? = some (.cells #[a0, a1, a2, a3, a4, a5, a6, a7, a8, x9, x10, x11, x12, x13, x14, x15] t fr) := heap_put h8 8 a8
  have h10 : ((((((((((w.setCell ⟨g, 0, none⟩ a0).setCell ⟨g, 1, none⟩ a1).setCell ⟨g, 2, none⟩ a2).setCell ⟨g, 3, none⟩ a3).setCell ⟨g, 4, none⟩ a4).setCell ⟨g, 5, none⟩ a5).setCell ⟨g, 6, none⟩ a6).setCell ⟨g, 7, none⟩ a7).setCell ⟨g, 8, none⟩ a8).setCell ⟨g, 9, none⟩ a9).heap[g]? = some (.cells #[a0, a1, a2, a3, a4, a5, a6, a7, a8, a9, x10, x11, x12, x13, x14, x15] t fr) := heap_put h9 9 a9
  have h11 : (((((((((((w.setCell ⟨g, 0, none⟩ a0).setCell ⟨g, 1, none⟩ a1).setCell ⟨g, 2, none⟩ a2).setCell ⟨g, 3, none⟩ a3).setCell ⟨g, 4, none⟩ a4).setCell ⟨g, 5, none⟩ a5).setCell ⟨g, 6, none⟩ a6).setCell ⟨g, 7, none⟩ a7).setCell ⟨g, 8, none⟩ a8).setCell ⟨g, 9, none⟩ a9).setCell ⟨g, 10, none⟩ a10).heap[g]? = some (.cells #[a0, a1, a2, a3, a4, a5, a6, a7, a8, a9, a10, x11, x12, x13, x14, x15] t fr) := heap_put h10 10 a10
  have h12 : ((((((((((((w.setCell ⟨g, 0, none⟩ a0).setCell ⟨g, 1, none⟩ a1).setCell ⟨g, 2, none⟩ a2).setCell ⟨g, 3, none⟩ a3).setCell ⟨g, 4, none⟩ a4).setCell ⟨g, 5, none⟩ a5).setCell ⟨g, 6, none⟩ a6).setCell ⟨g, 7, none⟩ a7).setCell ⟨g, 8, none⟩ a8).setCell ⟨g, 9, none⟩ a9).setCell ⟨g, 10, none⟩ a10).setCell ⟨g, 11, none⟩ a11).heap[g]? = some (.cells #[a0, a1, a2, a3, a4, a5, a6, a7, a8, a9, a10, a11, x12, x13, x14, x15] t fr) := heap_put h11 11 a11
  have h13 : (((((((((((((w.setCell ⟨g, 0, none⟩ a0).setCell ⟨g, 1, none⟩ a1).setCell ⟨g, 2, none⟩ a2).setCell ⟨g, 3, none⟩ a3).setCell ⟨g, 4, none⟩ a4).setCell ⟨g, 5, none⟩ a5).setCell ⟨g, 6, none⟩ a6).setCell ⟨g, 7, none⟩ a7).setCell ⟨g, 8, none⟩ a8).setCell ⟨g, 9, none⟩ a9).setCell ⟨g, 10, none⟩ a10).setCell ⟨g, 11, none⟩ a11).setCell ⟨g, 12, none⟩ a12).heap[g]? = some (.cells #[a0, a1, a2, a3, a4, a5, a6, a7, a8, a9, a10, a11, a12, x13, x14, x15] t fr) := heap_put h12 12 a12
  have h14 : ((((((((((((((w.setCell ⟨g, 0, none⟩ a0).setCell ⟨g, 1, none⟩ a1).setCell ⟨g, 2, none⟩ a2).setCell ⟨g, 3, none⟩ a3).setCell ⟨g, 4, none⟩ a4).setCell ⟨g, 5, none⟩ a5).setCell ⟨g, 6, none⟩ a6).setCell ⟨g, 7, none⟩ a7).setCell ⟨g, 8, none⟩ a8).setCell ⟨g, 9, none⟩ a9).setCell ⟨g, 10, none⟩ a10).setCell ⟨g, 11, none⟩ a11).setCell ⟨g, 12, none⟩ a12).setCell ⟨g, 13, none⟩ a13).heap[g]? = some (.cells #[a0, a1, a2, a3, a4, a5, a6, a7, a8, a9, a10, a11, a12, a13, x14, x15] t fr) := heap_put h13 13 a13
  have h15 : (((((((((((((((w.setCell ⟨g, 0, none⟩ a0).setCell ⟨g, 1, none⟩ a1).setCell ⟨g, 2, none⟩ a2).setCell ⟨g, 3, none⟩ a3).setCell ⟨g, 4, none⟩ a4).setCell ⟨g, 5, none⟩ a5).setCell ⟨g, 6, none⟩ a6).setCell ⟨g, 7, none⟩ a7).setCell ⟨g, 8, none⟩ a8).setCell ⟨g, 9, none⟩ a9).setCell ⟨g, 10, none⟩ a10).setCell ⟨g, 11, none⟩ a11).setCell ⟨g, 12, none⟩ a12).setCell ⟨g, 13, none⟩ a13).setCell ⟨g, 14, none⟩ a14).heap[g]? = some (.cells #[a0, a1, a2, a3, a4, a5, a6, a7, a8, a9, a10, a11, a12, a13, a14, x15] t fr) := heap_put h14 14 a14
  have h16 : ((((((((((((((((w.setCell ⟨g, 0, none⟩ a0).setCell ⟨g, 1, none⟩ a1).setCell ⟨g, 2, none⟩ a2).setCell ⟨g, 3, none⟩ a3).setCell ⟨g, 4, none⟩ a4).setCell ⟨g, 5, none⟩ a5).setCell ⟨g, 6, none⟩ a6).setCell ⟨g, 7, none⟩ a7).setCell ⟨g, 8, none⟩ a8).setCell ⟨g, 9, none⟩ a9).setCell ⟨g, 10, none⟩ a10).setCell ⟨g, 11, none⟩ a11).setCell ⟨g, 12, none⟩ a12).setCell ⟨g, 13, none⟩ a13).setCell ⟨g, 14, none⟩ a14).setCell ⟨g, 15, none⟩ a15).heap[g]? = some (.cells #[a0, a1, a2, a3, a4, a5, a6, a7, a8, a9, a10, a11, a12, a13, a14, a15] t fr) := heap_put h15 15 a15
  exact h16
theorem chg16 (w : World) (g : Nat) (a0 a1 a2 a3 a4 a5 a6 a7 a8 a9 a10 a11 a12 a13 a14 a15 : Value) : Chg (fun k => k = g) w ((((((((((((((((w.setCell ⟨g, 0, none⟩ a0).setCell ⟨g, 1, none⟩ a1).setCell ⟨g, 2, none⟩ a2).setCell ⟨g, 3, none⟩ a3).setCell ⟨g, 4, none⟩ a4).setCell ⟨g, 5, none⟩ a5).setCell ⟨g, 6, none⟩ a6).setCell ⟨g, 7, none⟩ a7).setCell ⟨g, 8, none⟩ a8).setCell ⟨g, 9, none⟩ a9).setCell ⟨g, 10, none⟩ a10).setCell ⟨g, 11, none⟩ a11).setCell ⟨g, 12, none⟩ a12).setCell ⟨g, 13, none⟩ a13).setCell ⟨g, 14, none⟩ a14).setCell ⟨g, 15, none⟩ a15) := by
  have h0 := Chg.refl (fun k => k = g) w
  have h1 := h0.put ⟨g, 0, none⟩ a0 (.inl rfl)
  have h2 := h1.put ⟨g, 1, none⟩ a1 (.inl rfl)
  have h3 := h2.put ⟨g, 2, none⟩ a2 (.inl rfl)
  have h4 := h3.put ⟨g, 3, none⟩ a3 (.inl rfl)
  have h5 := h4.put ⟨g, 4, none⟩ a4 (.inl rfl)
  have h6 := h5.put ⟨g, 5, none⟩ a5 (.inl rfl)
  have h7 := h6.put ⟨g, 6, none⟩ a6 (.inl rfl)
  have h8 := h7.put ⟨g, 7, none⟩ a7 (.inl rfl)
  have h9 := h8.put ⟨g, 8, none⟩ a8 (.inl rfl)
  have h10 := h9.put ⟨g, 9, none⟩ a9 (.inl rfl)
  have h11 := h10.put ⟨g, 10, none⟩ a10 (.inl rfl)
  have h12 := h11.put ⟨g, 11, none⟩ a11 (.inl rfl)
  have h13 := h12.put ⟨g, 12, none⟩ a12 (.inl rfl)
  have h14 := h13.put ⟨g, 13, none⟩ a13 (.inl rfl)
  have h15 := h14.put ⟨g, 14, none⟩ a14 (.inl rfl)
  have h16 := h15.put ⟨g, 15, none⟩ a15 (.inl rfl)
  exact h16

set_option maxRecDepth 100000 in
set_option maxHeartbeats 4000000 in
theorem fail_any (resp : Bool) (g : Nat) (M : Nat) (F lv : Value) (n : Nat) (wh : Bool) (e1 : Nat) (q : Parts) (fv : Value) (e0 : Nat) (w : World) (hF : IsFn F) (h : w.heap[g]? = some (.cells (rc resp M F lv n wh e1 resp q fv) 64 (0, 0))) :
    Calls Tryd.prog 36 #[.pointer (some ⟨g, 0, none⟩), .int .i64 (e0 : Int)] w fun e w' => e = .returned (.tuple #[]) ∧ w'.heap[g]? = some (.cells (rc false M F (.slice none 0 0) 0 false e0 false .none (.slice none 0 0)) 64 (0, 0)) ∧ Chg (fun k => k = g) w w' := by
  obtain ⟨fn, fi, ca, rfl⟩ := hF
  have c0 := rc0 h
  have c1 := rc1 h
  have c2 := rc2 h
  have c3 := rc3 h
  have c4 := rc4 h
  have c5 := rc5 h
  have c6 := rc6 h
  have c7 := rc7 h
  have c8 := rc8 h
  have c9 := rc9 h
  have c10 := rc10 h
  have c11 := rc11 h
  have c12 := rc12 h
  have c13 := rc13 h
  have c14 := rc14 h
  have c15 := rc15 h
  have f0 := free h 0
  have f1 := free h 1
  have f2 := free h 2
  have f3 := free h 3
  have f4 := free h 4
  have f5 := free h 5
  have f6 := free h 6
  have f7 := free h 7
  have f8 := free h 8
  have f9 := free h 9
  have f10 := free h 10
  have f11 := free h 11
  have f12 := free h 12
  have f13 := free h 13
  have f14 := free h 14
  have f15 := free h 15
  have HB := Lib.hid h
  clear h
  go_enter Tryd.func36, Tryd.ntmps36
  go_wp2_with fail
  go_end0
  exact ⟨rfl, put16 HB.out _ _ _ _ _ _ _ _ _ _ _ _ _ _ _ _, chg16 _ _ _ _ _ _ _ _ _ _ _ _ _ _ _ _ _ _⟩
end Go.Proofs.YtlnlihkljnkhiaaDoor.Hd
