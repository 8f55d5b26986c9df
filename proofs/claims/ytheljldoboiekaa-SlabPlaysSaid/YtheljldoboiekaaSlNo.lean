/-
  An arena that is nil, or that no call made: what each method returns. No condition.
-/
import Derived.Test.YtheljldoboiekaaSlPRel
import Derived.Test.YtheljldoboiekaaSlPRead
import Derived.Test.YtheljldoboiekaaSlPAlloc
import Derived.Laws.CopyOwn
namespace Go.Proofs.Ytheljldoboiekaa.Sl
open Go.RowKit Go.Proofs.Ytheljldoboiekaa.Fd
set_option maxRecDepth 100000
set_option linter.unusedVariables false
set_option linter.unusedSimpArgs false

def NoA (pv : Value) (w : World) : Prop := pv = .pointer none ∨ ∃ b, pv = .pointer (some ⟨b, 0, none⟩) ∧ w.cell? ⟨b, 0, none⟩ = some (.int .i64 0) ∧ b < w.heap.size
theorem NoA.next {pv : Value} {w w' : World} (h : NoA pv w) (hb : Below w.heap.size w w') : NoA pv w' := by
  rcases h with h | ⟨b, h1, h2, h3⟩
  · exact .inl h
  · exact .inr ⟨b, h1, (hb.cell (p := ⟨b, 0, none⟩) h3).trans h2, Nat.lt_of_lt_of_le h3 hb.size⟩
theorem no_made (pv : Value) (w : World) (h : NoA pv w) : Calls Try.prog 32 #[pv] w fun e w' => e = .returned (.bool false) ∧ Below w.heap.size w w' := by
  rcases h with rfl | ⟨b, rfl, h2, _⟩
  · exact (made_nil w).mono (fun e w' h => ⟨h.1, by rw [← h.2]; exact Below.refl _ _⟩)
  · exact (made_zero b w h2).mono (fun e w' h => ⟨h.1, by rw [← h.2]; exact Below.refl _ _⟩)
set_option maxHeartbeats 2000000 in
theorem no_right (pv : Value) (c i g : Int) (w : World) (h : NoA pv w) :
    Calls Try.prog 38 #[pv, .agg #[.int .i64 c, .int .i64 i, .int .i64 g]] w fun e w' => e = .returned (.tuple #[.pointer none, .int .i64 1]) ∧ Below w.heap.size w w' := by
  have hB1 := (Below.refl w.heap.size w).alloc (Nat.le_refl _) (.cells #[.int .i64 c, .int .i64 i, .int .i64 g] 34)
  have HC := Lib.hid (no_made pv _ (h.next hB1))
  clear h
  go_enter Try.func38, Try.ntmps38
  go_wp2_with fail
  refine HC.out.mono ?_
  rintro e w2 ⟨rfl, hb2⟩
  have HB := Lib.hid (Bl.next hB1 hb2)
  clear hb2 hB1 HC
  go_wp2_with fail
  go_ret2
  exact ⟨rfl, HB.out⟩
set_option maxHeartbeats 2000000 in
theorem no_hold (pv : Value) (c i g : Int) (w : World) (h : NoA pv w) :
    Calls Try.prog 13 #[pv, .agg #[.int .i64 c, .int .i64 i, .int .i64 g]] w fun e w' => e = .returned (.int .i64 1) ∧ Below w.heap.size w w' := by
  have hB1 := (Below.refl w.heap.size w).alloc (Nat.le_refl _) (.cells #[.int .i64 c, .int .i64 i, .int .i64 g] 34)
  have HC := Lib.hid (no_right pv c i g _ (h.next hB1))
  clear h
  go_enter Try.func13, Try.ntmps13
  go_wp2_with fail
  refine HC.out.mono ?_
  rintro e w2 ⟨rfl, hb2⟩
  have HB := Lib.hid (Bl.next hB1 hb2)
  clear hb2 hB1 HC
  go_wp2_with fail
  go_ret
  exact ⟨rfl, HB.out⟩
set_option maxHeartbeats 2000000 in
theorem no_drop (pv : Value) (c i g : Int) (w : World) (h : NoA pv w) :
    Calls Try.prog 15 #[pv, .agg #[.int .i64 c, .int .i64 i, .int .i64 g]] w fun e w' => e = .returned (.int .i64 1) ∧ Below w.heap.size w w' := by
  have hB1 := (Below.refl w.heap.size w).alloc (Nat.le_refl _) (.cells #[.int .i64 c, .int .i64 i, .int .i64 g] 34)
  have HC := Lib.hid (no_right pv c i g _ (h.next hB1))
  clear h
  go_enter Try.func15, Try.ntmps15
  go_wp2_with fail
  refine HC.out.mono ?_
  rintro e w2 ⟨rfl, hb2⟩
  have HB := Lib.hid (Bl.next hB1 hb2)
  clear hb2 hB1 HC
  go_wp2_with fail
  go_ret
  exact ⟨rfl, HB.out⟩
set_option maxHeartbeats 2000000 in
theorem no_held (pv : Value) (c i g : Int) (w : World) (h : NoA pv w) :
    Calls Try.prog 22 #[pv, .agg #[.int .i64 c, .int .i64 i, .int .i64 g]] w fun e w' => e = .returned (.int .i64 0) ∧ Below w.heap.size w w' := by
  have hB1 := (Below.refl w.heap.size w).alloc (Nat.le_refl _) (.cells #[.int .i64 c, .int .i64 i, .int .i64 g] 34)
  have HC := Lib.hid (no_right pv c i g _ (h.next hB1))
  clear h
  go_enter Try.func22, Try.ntmps22
  go_wp2_with fail
  refine HC.out.mono ?_
  rintro e w2 ⟨rfl, hb2⟩
  have HB := Lib.hid (Bl.next hB1 hb2)
  clear hb2 hB1 HC
  go_wp2_with fail
  go_ret
  exact ⟨rfl, HB.out⟩
set_option maxHeartbeats 2000000 in
theorem no_part (pv : Value) (c i g a n : Int) (w : World) (h : NoA pv w) :
    Calls Try.prog 40 #[pv, .agg #[.int .i64 c, .int .i64 i, .int .i64 g], .int .i64 a, .int .i64 n] w fun e w' => e = .returned (.tuple #[.slice none 0 0, .int .i64 1]) ∧ Below w.heap.size w w' := by
  have hB1 := (Below.refl w.heap.size w).alloc (Nat.le_refl _) (.cells #[.int .i64 c, .int .i64 i, .int .i64 g] 34)
  have HC := Lib.hid (no_right pv c i g _ (h.next hB1))
  clear h
  go_enter Try.func40, Try.ntmps40
  go_wp2_with fail
  refine HC.out.mono ?_
  rintro e w2 ⟨rfl, hb2⟩
  have HB := Lib.hid (Bl.next hB1 hb2)
  clear hb2 hB1 HC
  go_wp2_with fail
  go_ret2
  exact ⟨rfl, HB.out⟩
theorem no_info : (Try.prog.info? 5).map (·.size) = some 1 := by kernel_rfl
set_option maxHeartbeats 2000000 in
theorem no_write (pv : Value) (c i g a : Int) (w : World) (h : NoA pv w) :
    Calls Try.prog 17 #[pv, .agg #[.int .i64 c, .int .i64 i, .int .i64 g], .int .i64 a, .slice none 0 0] w fun e w' => e = .returned (.int .i64 1) ∧ Below w.heap.size w w' := by
  have hB1 := (Below.refl w.heap.size w).alloc (Nat.le_refl _) (.cells #[.int .i64 c, .int .i64 i, .int .i64 g] 34)
  have HC := Lib.hid (no_part pv c i g a 0 _ (h.next hB1))
  clear h
  go_enter Try.func17, Try.ntmps17
  go_wp2_with fail
  refine HC.out.mono ?_
  rintro e w2 ⟨rfl, hb2⟩
  have HB := Lib.hid (Bl.next hB1 hb2)
  clear hb2 hB1 HC
  go_wp2_with ((with_reducible show wpList _ _ _ (⟨some 22, _, _, _, _, _⟩ :: _) _ _); refine wpList_copy_nothing rfl (.tmp 20) (.tmp 21) 35 35 rfl 5 Try.underlying35 no_info none none 0 0 0 0 (by rfl) (by rfl) (by simp) ?_)
  go_ret
  exact ⟨rfl, HB.out⟩
set_option maxHeartbeats 2000000 in
theorem no_read (pv : Value) (c i g a n : Int) (w : World) (h : NoA pv w) :
    Calls Try.prog 19 #[pv, .agg #[.int .i64 c, .int .i64 i, .int .i64 g], .int .i64 a, .int .i64 n] w fun e w' => (∃ x cap, e = .returned (.tuple #[.slice x 0 cap, .int .i64 1])) ∧ Below w.heap.size w w' := by
  have hB1 := (Below.refl w.heap.size w).alloc (Nat.le_refl _) (.cells #[.int .i64 c, .int .i64 i, .int .i64 g] 34)
  have HC := Lib.hid (no_part pv c i g a n _ (h.next hB1))
  clear h
  go_enter Try.func19, Try.ntmps19
  go_wp2_with fail
  refine HC.out.mono ?_
  rintro e w2 ⟨rfl, hb2⟩
  have HB := Lib.hid (Bl.next hB1 hb2)
  clear hb2 hB1 HC
  go_wp2_with fail
  refine (cloneB_nil _).mono ?_
  rintro e w3 ⟨v, rfl, hv, hb3⟩
  obtain ⟨x, cap, rfl⟩ := hv.form
  have HB3 := Lib.hid (Bl.next HB.out hb3)
  clear hb3 hv
  go_wp2_with fail
  go_ret2
  exact ⟨⟨_, _, rfl⟩, HB3.out⟩
set_option maxHeartbeats 2000000 in
theorem no_live (pv : Value) (c : Int) (w : World) (h : NoA pv w) :
    Calls Try.prog 24 #[pv, .int .i64 c] w fun e w' => e = .returned (.int .i64 0) ∧ Below w.heap.size w w' := by
  have HC := Lib.hid (no_made pv w h)
  clear h
  go_enter Try.func24, Try.ntmps24
  go_wp2_with fail
  refine HC.out.mono ?_
  rintro e w2 ⟨rfl, hb2⟩
  go_wp2_with fail
  go_ret
  exact ⟨rfl, hb2⟩
set_option maxHeartbeats 2000000 in
theorem no_alloc (pv : Value) (k : Int) (w : World) (h : NoA pv w) :
    Calls Try.prog 11 #[pv, .int .i64 k] w fun e w' => e = .returned (.tuple #[.agg #[.int .i64 0, .int .i64 0, .int .i64 0], .int .i64 1]) ∧ Below w.heap.size w w' := by
  obtain ⟨w2, hw2⟩ : ∃ w2, w2 = (w.alloc (.cells #[.int .i64 k] 3)).alloc (.cells #[.int .i64 0, .int .i64 0, .int .i64 0] 34) := ⟨_, rfl⟩
  have hB2 : Below w.heap.size w w2 := by rw [hw2]; exact ((Below.refl _ _).alloc (Nat.le_refl _) _).alloc (by simp) _
  have hr2 : w2.heap[w.heap.size + 1]? = some (.cells #[.int .i64 0, .int .i64 0, .int .i64 0] 34 (0, 0)) := by rw [hw2]; exact new_block' _ _ (by simp)
  have HC := Lib.hid (no_made pv w2 (h.next hB2))
  have HW2 := Lib.hid hw2
  have HR2 := Lib.hid hr2
  have HB2 := Lib.hid hB2
  clear h hw2 hr2 hB2
  go_enter Try.func11, Try.ntmps11
  go_wp2_with fail
  rw [← HW2.out]
  refine HC.out.mono ?_
  rintro e w3 ⟨rfl, hb3⟩
  have HR3 := Lib.hid (Bl.old hb3 (block_lt HR2.out) HR2.out)
  obtain ⟨r0, r1, r2⟩ := three HR3.out
  have f0 := free HR3.out 0
  have f1 := free HR3.out 1
  have f2 := free HR3.out 2
  have HB3 := Lib.hid (Bl.next HB2.out hb3)
  clear hb3
  go_wp2_with fail
  refine bodyPost_ret (results_pair rfl _ _ (w.heap.size + 1) 34 _ (0, 0) _ rfl (put3 HR3.out _ _ _) Try.underlying34 rfl infoH) rfl ?_
  exact ⟨rfl, new3_below HB3.out (by omega) _ _ _⟩
end Go.Proofs.Ytheljldoboiekaa.Sl
