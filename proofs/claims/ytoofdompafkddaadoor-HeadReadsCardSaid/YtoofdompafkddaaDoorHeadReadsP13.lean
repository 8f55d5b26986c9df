/-
  Texts that the law's proof stands on, 4 of them in one file; each one's head says what it proves and under which condition.
-/
import Derived.Test.YtoofdompafkddaaDoorHeadReadsP12
import Derived.Laws.AppendOwnNone
import Derived.WalkSpells
import Derived.Lib.LazyBuf
import Derived.Test.YtoofdompafkddaaDoorHeadReadsP11
import Derived.Test.YtoofdompafkddaaDoorHeadReadsP7
import Derived.KernelRfl
/-
  slices.Clone at fields; a reader's untold, Request and Response: what each returns. Conditions: fields of at most 2^20 bytes in all.
-/
namespace Go.Proofs.YtoofdompafkddaaDoor.Hd
open Go.RowKit Go.Proofs.YtoofdompafkddaaDoor.Tk Go.Proofs.YtoofdompafkddaaDoor.Fd
set_option linter.unusedVariables false

def ListPost (fs : List Fl) (w : World) (e : Ending) (w' : World) : Prop := ∃ u, e = .returned u ∧ OwnF w' w.heap.size u fs ∧ Below w.heap.size w w'
theorem flat_one (fs : List Fl) : ∀ u ∈ flat fs, u.oneCell' = true := by
  intro u hu
  unfold flat at hu
  rw [List.mem_flatMap] at hu
  obtain ⟨f, _, hf⟩ := hu
  exact one_cells f.1 f.2 u hf
set_option maxRecDepth 100000 in
set_option maxHeartbeats 4000000 in
theorem clone_any (v : Value) (fs : List Fl) (w : World) (h : OwnF w 0 v fs) (hl : fs.length ≤ 1048576) : Calls Tryd.prog 50 #[v] w (ListPost fs w) := by
  have hq := fun (w : World) (a : Option Addr) (n c : Nat) => Lib.run_eql_slice_nil (P := Tryd.prog) w 27 56 a n c 0 0 Tryd.underlying27
  rcases h.2 with ⟨rfl, h0⟩ | ⟨q, C, cur, hv, _, hh, hlc, hcm, hcs, htk⟩
  · have hfs : fs = [] := List.length_eq_zero_iff.1 h0
    subst hfs
    clear h h0
    go_enter Tryd.func50, Tryd.ntmps50
    go_wp2_with fail
    go_ret
    exact ⟨_, rfl, OwnF.nil _ _, Below.refl _ _⟩
  · subst hv
    obtain ⟨i0, hi, hz0, hz1, hz2⟩ := info_parts infoField
    have HO := Lib.hid h
    have HW := Lib.hid (show (w.alloc (.cells #[] 56)).ownsRow w.heap.size 56 2 (.slice (some ⟨w.heap.size, 0, none⟩) 0 0) 0 [] from World.ownsRow_lit (base := w.heap.size) (e := 56) (size := 2) w #[] 0 (Nat.le_refl _) (Nat.zero_le _) rfl)
    have hB1 := (Below.refl w.heap.size w).alloc (Nat.le_refl _) (.cells #[] 56)
    have HN := Lib.hid (World.ownsRow.cells (owns_kept HO.out hB1) (g := q) rfl)
    clear h hh htk hcs
    go_enter Tryd.func50, Tryd.ntmps50
    go_wp2_with (at_builtin; refine wpList_append_own _ rfl _ _ 27 rfl w.heap.size 56 i0 (.agg #[.string ⟨#[]⟩, .string ⟨#[]⟩]) 2 32 Tryd.underlying27 hi hz0 hz1 hz2 rfl (by decide) _ _ _ rfl HW.out ⟨q, 0, none⟩ fs.length C (flat fs) rfl (flat_length _) HN.out (fun y hy => flat_one _ y hy) (by unfold maxLen; omega) (by omega) hB1.size ?_; intro v' w6 hown' hgrow hnil)
    have HB6 := Lib.hid (hB1.grown hgrow hB1.size (fun k hk => by injection hk with hk; subst hk; exact Nat.le_refl _))
    have HO6 := Lib.hid (show OwnF w6 w.heap.size v' fs from by unfold OwnF; rw [Nat.zero_add, List.nil_append] at hown'; exact hown')
    clear hown' hgrow hnil
    go_wp2_with fail
    go_ret
    exact ⟨_, rfl, HO6.out, HB6.out⟩

set_option maxHeartbeats 2000000 in
theorem untold_any (O : Nat → Prop) (resp want : Bool) (g : Nat) (s : St) (w : World) (h : Rdr w O resp g s) :
    Calls Tryd.prog 49 #[.pointer (some ⟨g, 0, none⟩), .bool want] w fun e w' => e = .returned (.int .i64 (if doneOf s && resp == want then 0 else 16)) ∧ w = w' := by
  obtain ⟨⟨F, hF, c2⟩, c5, c6⟩ := h.tells
  obtain ⟨D, hD⟩ : ∃ D, D = doneOf s := ⟨_, rfl⟩
  rw [← hD] at c5 ⊢
  cases D with
  | false =>
    clear h hD c6
    go_enter Tryd.func49, Tryd.ntmps49
    go_wp2_with fail
    refine (made_yes g F _ hF c2).mono ?_
    rintro e w' ⟨rfl, rfl⟩
    go_wp2_with fail
    go_ret
    exact ⟨rfl, rfl⟩
  | true =>
    have c0 : w.cell? ⟨g, 0, none⟩ = some (.bool resp) := by
      cases s with
      | on => simp [doneOf] at hD
      | done q fs => obtain ⟨M, F, lv, n, fv, hF, hb, _⟩ := h; exact rc0 hb
      | bad => simp [doneOf] at hD
    clear h hD c6
    cases resp <;> cases want
    all_goals
      go_enter Tryd.func49, Tryd.ntmps49
      go_wp2_with fail
      refine (made_yes g F _ hF c2).mono ?_
      rintro e w' ⟨rfl, rfl⟩
      go_wp2_with fail
      go_ret
      exact ⟨rfl, rfl⟩
end Go.Proofs.YtoofdompafkddaaDoor.Hd
/-
  A reader's Request and Response: what each returns. Conditions: fields of at most 2^20 bytes in all.
-/
namespace Go.Proofs.YtoofdompafkddaaDoor.Hd
open Go.RowKit Go.Proofs.YtoofdompafkddaaDoor.Tk Go.Proofs.YtoofdompafkddaaDoor.Fd
set_option linter.unusedVariables false

theorem infoReq : (Tryd.prog.info? 29).map (·.size) = some 4 := by kernel_rfl
theorem infoRes : (Tryd.prog.info? 31).map (·.size) = some 4 := by kernel_rfl
theorem put4 {w : World} {g : Nat} {a b c d : Value} {t : TypeId} {fr : Nat × Nat} (h : w.heap[g]? = some (.cells #[a, b, c, d] t fr)) (x y z u : Value) :
    ((((w.setCell ⟨g, 0, none⟩ x).setCell ⟨g, 1, none⟩ y).setCell ⟨g, 2, none⟩ z).setCell ⟨g, 3, none⟩ u).heap[g]? = some (.cells #[x, y, z, u] t fr) := by
  rw [heap_put (heap_put (heap_put (heap_put h 0 x) 1 y) 2 z) 3 u]; rfl
theorem four {w : World} {g : Nat} {a b c d : Value} {t : TypeId} {fr : Nat × Nat} (h : w.heap[g]? = some (.cells #[a, b, c, d] t fr)) : w.cell? ⟨g, 0, none⟩ = some a ∧ w.cell? ⟨g, 1, none⟩ = some b ∧ w.cell? ⟨g, 2, none⟩ = some c ∧ w.cell? ⟨g, 3, none⟩ = some d := by
  refine ⟨?_, ?_, ?_, ?_⟩ <;> (rw [Lib.cell_of_heap h]; rfl)
theorem put4_below {B : Nat} {w0 w : World} {g : Nat} (h : Below B w0 w) (hg : B ≤ g) (x y z u : Value) : Below B w0 ((((w.setCell ⟨g, 0, none⟩ x).setCell ⟨g, 1, none⟩ y).setCell ⟨g, 2, none⟩ z).setCell ⟨g, 3, none⟩ u) :=
  (((h.setCell (p := ⟨g, 0, none⟩) hg _).setCell (p := ⟨g, 1, none⟩) hg _).setCell (p := ⟨g, 2, none⟩) hg _).setCell (p := ⟨g, 3, none⟩) hg _
/-- A request's head, and its error; a response's. -/
def ReqPost (H : Parts × List Fl × Nat) (w : World) (e : Ending) (w' : World) : Prop := ∃ v, e = .returned (.tuple #[.agg #[.string H.1.a, .string H.1.b, .int .i64 H.1.m, v], .int .i64 (H.2.2 : Int)]) ∧ OwnF w' w.heap.size v H.2.1 ∧ Below w.heap.size w w'
def ResPost (H : Parts × List Fl × Nat) (w : World) (e : Ending) (w' : World) : Prop := ∃ v, e = .returned (.tuple #[.agg #[.int .i64 H.1.m, .int .i64 H.1.c, .string H.1.a, v], .int .i64 (H.2.2 : Int)]) ∧ OwnF w' w.heap.size v H.2.1 ∧ Below w.heap.size w w'
theorem headOf_no {resp same : Bool} {s : St} (h : (doneOf s && same) = false) : headOf resp same s = (.none, [], 16) := by
  cases s with
  | on => rfl
  | done q fs => simp [doneOf] at h; subst h; rfl
  | bad => rfl

set_option maxRecDepth 100000 in
set_option maxHeartbeats 4000000 in
theorem request_no (O : Nat → Prop) (resp : Bool) (g : Nat) (s : St) (w : World) (h : Rdr w O resp g s) (hn : (doneOf s && resp == false) = false) :
    Calls Tryd.prog 19 #[.pointer (some ⟨g, 0, none⟩)] w (ReqPost (headOf resp (resp == false) s) w) := by
  rw [headOf_no hn]
  have HR := Lib.hid (h.below ((Below.refl w.heap.size w).alloc (Nat.le_refl _) (.cells #[.string ⟨#[]⟩, .string ⟨#[]⟩, .int .i64 0, .slice none 0 0] 29)))
  have HN := Lib.hid hn
  clear h hn
  go_enter Tryd.func19, Tryd.ntmps19
  go_wp2_with fail
  refine (untold_any O resp false g s _ HR.out).mono ?_
  rintro e w' ⟨rfl, rfl⟩
  rw [HN.out]
  go_wp2_with fail
  refine bodyPost_ret (results_pair rfl _ _ w.heap.size 29 _ (0, 0) _ rfl (new_block _ _) Tryd.underlying29 rfl infoReq) rfl ?_
  exact ⟨_, rfl, OwnF.nil _ _, (Below.refl _ _).alloc (Nat.le_refl _) _⟩
set_option maxRecDepth 100000 in
set_option maxHeartbeats 4000000 in
theorem request_yes (O : Nat → Prop) (g : Nat) (q : Parts) (fs : List Fl) (w : World) (h : Rdr w O false g (.done q fs)) (hl : fs.length ≤ 1048576) :
    Calls Tryd.prog 19 #[.pointer (some ⟨g, 0, none⟩)] w (ReqPost (q, fs, 0) w) := by
  have HR := Lib.hid (h.below ((Below.refl w.heap.size w).alloc (Nat.le_refl _) (.cells #[.string ⟨#[]⟩, .string ⟨#[]⟩, .int .i64 0, .slice none 0 0] 29)))
  have hB1 := (Below.refl w.heap.size w).alloc (Nat.le_refl _) (.cells #[.string ⟨#[]⟩, .string ⟨#[]⟩, .int .i64 0, .slice none 0 0] 29)
  have HK1 := Lib.hid (new_block w (.cells #[.string ⟨#[]⟩, .string ⟨#[]⟩, .int .i64 0, .slice none 0 0] 29))
  obtain ⟨w1, hw1⟩ : ∃ w1, w1 = w.alloc (.cells #[.string ⟨#[]⟩, .string ⟨#[]⟩, .int .i64 0, .slice none 0 0] 29) := ⟨_, rfl⟩
  have HW1 := Lib.hid hw1
  rw [← hw1] at HR hB1 HK1
  clear hw1 h
  obtain ⟨M, F, lv, n, fv, hF, hb, hf, _, _⟩ := HR.out
  have c7 := rc7 hb
  have c8 := rc8 hb
  have c9 := rc9 hb
  have c10 := rc10 hb
  have c15 := rc15 hb
  unfold qA at c7
  unfold qB at c8
  unfold qM at c9
  simp only [Bool.false_eq_true, if_false] at c7 c8 c9
  have HFF := Lib.hid hf
  have HBB := Lib.hid hb
  clear hb hf hF
  have HT := Lib.hid (new_block w1 (.cells #[.string q.a, .string q.b, .int .i64 q.m, .slice none 0 0] 29))
  have hB2 := hB1.alloc hB1.size (.cells #[.string q.a, .string q.b, .int .i64 q.m, .slice none 0 0] 29)
  have HK2 := Lib.hid ((old_block w1 (.cells #[.string q.a, .string q.b, .int .i64 q.m, .slice none 0 0] 29) (block_lt HK1.out)).trans HK1.out)
  have HF2 := Lib.hid (owns_kept HFF.out ((Below.refl _ w1).alloc (Nat.le_refl _) (.cells #[.string q.a, .string q.b, .int .i64 q.m, .slice none 0 0] 29)))
  have c15' : (w1.alloc (.cells #[.string q.a, .string q.b, .int .i64 q.m, .slice none 0 0] 29)).cell? ⟨g, 15, none⟩ = some fv := rc15 ((old_block w1 _ (block_lt HBB.out)).trans HBB.out)
  obtain ⟨T, hT⟩ : ∃ T, T = w1.heap.size := ⟨_, rfl⟩
  have HTT := Lib.hid hT
  have hTw : w.heap.size + 1 ≤ T := by rw [hT]; exact block_lt HK1.out
  rw [← hT] at HT
  clear hT
  go_enter Tryd.func19, Tryd.ntmps19
  go_wp2_with fail
  rw [← HW1.out]
  refine (untold_any O false false g _ _ HR.out).mono ?_
  rintro e w' ⟨rfl, rfl⟩
  rw [show (doneOf (.done q fs) && (false == false)) = true from rfl]
  go_wp2_with fail
  rw [← HTT.out]
  refine (clone_any fv fs _ HF2.out hl).mono ?_
  rintro e w3 ⟨v, rfl, hf3, hb3⟩
  have HB3 := Lib.hid (Bl.next hB2 hb3)
  have HK3 := Lib.hid (Bl.old hb3 (block_lt HK2.out) HK2.out)
  have hT3 := Bl.old hb3 (block_lt HT.out) HT.out
  have HO3 := Lib.hid hf3
  obtain ⟨va, vc, hv⟩ := OwnF.form hf3
  subst hv
  obtain ⟨t0, t1, t2, t3⟩ := four hT3
  have ft := free hT3 3
  obtain ⟨r0, r1, r2, r3⟩ := four HK3.out
  have f0 := free HK3.out 0
  have f1 := free HK3.out 1
  have f2 := free HK3.out 2
  have f3 := free HK3.out 3
  have hne : w.heap.size ≠ T := by omega
  have hen : T ≠ w.heap.size := by omega
  have HP := Lib.hid (put_far (a := ⟨T, 3, none⟩) (v := .slice va fs.length vc) HK3.out (by show w.heap.size ≠ T; exact hne))
  clear hf3 hb3 hT3 c7 c8 c9 c10 c15 c15' hB2
  go_wp2_with fail
  refine bodyPost_ret (results_pair rfl _ _ w.heap.size 29 _ (0, 0) _ rfl (put4 HP.out _ _ _ _) Tryd.underlying29 rfl infoReq) rfl ?_
  obtain ⟨c3, hc3⟩ : ∃ c3, c3 = w3.setCell ⟨T, 3, none⟩ (.slice va fs.length vc) := ⟨_, rfl⟩
  refine ⟨_, rfl, ?_, put4_below (HB3.out.setCell (p := ⟨T, 3, none⟩) (by show w.heap.size ≤ T; omega) _) (Nat.le_refl _) _ _ _ _⟩
  refine owns_mono (row_same HO3.out fun k hk => ?_) (by have := hB1.size; simp; omega)
  have hk3 := (World.ownsRow.lt HO3.out k hk).1
  have hkT : k ≠ T := by
    have : w1.heap.size + 1 ≤ k := by simpa using hk3
    have := HTT.out
    omega
  have hkw : k ≠ w.heap.size := by
    have : w1.heap.size + 1 ≤ k := by simpa using hk3
    have := hB1.size
    omega
  exact put_far (put_far (put_far (put_far (put_far rfl (by show k ≠ T; exact hkT)) (by show k ≠ w.heap.size; exact hkw)) (by show k ≠ w.heap.size; exact hkw)) (by show k ≠ w.heap.size; exact hkw)) (by show k ≠ w.heap.size; exact hkw)
set_option maxRecDepth 100000 in
set_option maxHeartbeats 4000000 in
theorem response_no (O : Nat → Prop) (resp : Bool) (g : Nat) (s : St) (w : World) (h : Rdr w O resp g s) (hn : (doneOf s && resp == true) = false) :
    Calls Tryd.prog 21 #[.pointer (some ⟨g, 0, none⟩)] w (ResPost (headOf resp (resp == true) s) w) := by
  rw [headOf_no hn]
  have HR := Lib.hid (h.below ((Below.refl w.heap.size w).alloc (Nat.le_refl _) (.cells #[.int .i64 0, .int .i64 0, .string ⟨#[]⟩, .slice none 0 0] 31)))
  have HN := Lib.hid hn
  clear h hn
  go_enter Tryd.func21, Tryd.ntmps21
  go_wp2_with fail
  refine (untold_any O resp true g s _ HR.out).mono ?_
  rintro e w' ⟨rfl, rfl⟩
  rw [HN.out]
  go_wp2_with fail
  refine bodyPost_ret (results_pair rfl _ _ w.heap.size 31 _ (0, 0) _ rfl (new_block _ _) Tryd.underlying31 rfl infoRes) rfl ?_
  exact ⟨_, rfl, OwnF.nil _ _, (Below.refl _ _).alloc (Nat.le_refl _) _⟩
set_option maxRecDepth 100000 in
set_option maxHeartbeats 4000000 in
theorem response_yes (O : Nat → Prop) (g : Nat) (q : Parts) (fs : List Fl) (w : World) (h : Rdr w O true g (.done q fs)) (hl : fs.length ≤ 1048576) :
    Calls Tryd.prog 21 #[.pointer (some ⟨g, 0, none⟩)] w (ResPost (q, fs, 0) w) := by
  have HR := Lib.hid (h.below ((Below.refl w.heap.size w).alloc (Nat.le_refl _) (.cells #[.int .i64 0, .int .i64 0, .string ⟨#[]⟩, .slice none 0 0] 31)))
  have hB1 := (Below.refl w.heap.size w).alloc (Nat.le_refl _) (.cells #[.int .i64 0, .int .i64 0, .string ⟨#[]⟩, .slice none 0 0] 31)
  have HK1 := Lib.hid (new_block w (.cells #[.int .i64 0, .int .i64 0, .string ⟨#[]⟩, .slice none 0 0] 31))
  obtain ⟨w1, hw1⟩ : ∃ w1, w1 = w.alloc (.cells #[.int .i64 0, .int .i64 0, .string ⟨#[]⟩, .slice none 0 0] 31) := ⟨_, rfl⟩
  have HW1 := Lib.hid hw1
  rw [← hw1] at HR hB1 HK1
  clear hw1 h
  obtain ⟨M, F, lv, n, fv, hF, hb, hf, _, _⟩ := HR.out
  have c7 := rc11 hb
  have c8 := rc12 hb
  have c9 := rc13 hb
  have c10 := rc14 hb
  have c15 := rc15 hb
  unfold sM at c7
  unfold sC at c8
  unfold sA at c9
  simp only [if_true] at c7 c8 c9
  have HFF := Lib.hid hf
  have HBB := Lib.hid hb
  clear hb hf hF
  have HT := Lib.hid (new_block w1 (.cells #[.int .i64 q.m, .int .i64 q.c, .string q.a, .slice none 0 0] 31))
  have hB2 := hB1.alloc hB1.size (.cells #[.int .i64 q.m, .int .i64 q.c, .string q.a, .slice none 0 0] 31)
  have HK2 := Lib.hid ((old_block w1 (.cells #[.int .i64 q.m, .int .i64 q.c, .string q.a, .slice none 0 0] 31) (block_lt HK1.out)).trans HK1.out)
  have HF2 := Lib.hid (owns_kept HFF.out ((Below.refl _ w1).alloc (Nat.le_refl _) (.cells #[.int .i64 q.m, .int .i64 q.c, .string q.a, .slice none 0 0] 31)))
  have c15' : (w1.alloc (.cells #[.int .i64 q.m, .int .i64 q.c, .string q.a, .slice none 0 0] 31)).cell? ⟨g, 15, none⟩ = some fv := rc15 ((old_block w1 _ (block_lt HBB.out)).trans HBB.out)
  obtain ⟨T, hT⟩ : ∃ T, T = w1.heap.size := ⟨_, rfl⟩
  have HTT := Lib.hid hT
  have hTw : w.heap.size + 1 ≤ T := by rw [hT]; exact block_lt HK1.out
  rw [← hT] at HT
  clear hT
  go_enter Tryd.func21, Tryd.ntmps21
  go_wp2_with fail
  rw [← HW1.out]
  refine (untold_any O true true g _ _ HR.out).mono ?_
  rintro e w' ⟨rfl, rfl⟩
  rw [show (doneOf (.done q fs) && (true == true)) = true from rfl]
  go_wp2_with fail
  rw [← HTT.out]
  refine (clone_any fv fs _ HF2.out hl).mono ?_
  rintro e w3 ⟨v, rfl, hf3, hb3⟩
  have HB3 := Lib.hid (Bl.next hB2 hb3)
  have HK3 := Lib.hid (Bl.old hb3 (block_lt HK2.out) HK2.out)
  have hT3 := Bl.old hb3 (block_lt HT.out) HT.out
  have HO3 := Lib.hid hf3
  obtain ⟨va, vc, hv⟩ := OwnF.form hf3
  subst hv
  obtain ⟨t0, t1, t2, t3⟩ := four hT3
  have ft := free hT3 3
  obtain ⟨r0, r1, r2, r3⟩ := four HK3.out
  have f0 := free HK3.out 0
  have f1 := free HK3.out 1
  have f2 := free HK3.out 2
  have f3 := free HK3.out 3
  have hne : w.heap.size ≠ T := by omega
  have hen : T ≠ w.heap.size := by omega
  have HP := Lib.hid (put_far (a := ⟨T, 3, none⟩) (v := .slice va fs.length vc) HK3.out (by show w.heap.size ≠ T; exact hne))
  clear hf3 hb3 hT3 c7 c8 c9 c10 c15 c15' hB2
  go_wp2_with fail
  refine bodyPost_ret (results_pair rfl _ _ w.heap.size 31 _ (0, 0) _ rfl (put4 HP.out _ _ _ _) Tryd.underlying31 rfl infoRes) rfl ?_
  obtain ⟨c3, hc3⟩ : ∃ c3, c3 = w3.setCell ⟨T, 3, none⟩ (.slice va fs.length vc) := ⟨_, rfl⟩
  refine ⟨_, rfl, ?_, put4_below (HB3.out.setCell (p := ⟨T, 3, none⟩) (by show w.heap.size ≤ T; omega) _) (Nat.le_refl _) _ _ _ _⟩
  refine owns_mono (row_same HO3.out fun k hk => ?_) (by have := hB1.size; simp; omega)
  have hk3 := (World.ownsRow.lt HO3.out k hk).1
  have hkT : k ≠ T := by
    have : w1.heap.size + 1 ≤ k := by simpa using hk3
    have := HTT.out
    omega
  have hkw : k ≠ w.heap.size := by
    have : w1.heap.size + 1 ≤ k := by simpa using hk3
    have := hB1.size
    omega
  exact put_far (put_far (put_far (put_far (put_far rfl (by show k ≠ T; exact hkT)) (by show k ≠ w.heap.size; exact hkw)) (by show k ≠ w.heap.size; exact hkw)) (by show k ≠ w.heap.size; exact hkw)) (by show k ≠ w.heap.size; exact hkw)
theorem request_any (O : Nat → Prop) (resp : Bool) (g : Nat) (s : St) (w : World) (h : Rdr w O resp g s) (hG : Good s) :
    Calls Tryd.prog 19 #[.pointer (some ⟨g, 0, none⟩)] w (ReqPost (headOf resp (resp == false) s) w) := by
  cases hn : (doneOf s && resp == false) with
  | false => exact request_no O resp g s w h hn
  | true =>
    cases s with
    | on => simp [doneOf] at hn
    | bad => simp [doneOf] at hn
    | done q fs =>
      have hr : resp = false := by cases resp <;> simp [doneOf] at hn ⊢
      subst hr
      exact request_yes O g q fs w h (by have := hG.1; omega)
theorem response_any (O : Nat → Prop) (resp : Bool) (g : Nat) (s : St) (w : World) (h : Rdr w O resp g s) (hG : Good s) :
    Calls Tryd.prog 21 #[.pointer (some ⟨g, 0, none⟩)] w (ResPost (headOf resp (resp == true) s) w) := by
  cases hn : (doneOf s && resp == true) with
  | false => exact response_no O resp g s w h hn
  | true =>
    cases s with
    | on => simp [doneOf] at hn
    | bad => simp [doneOf] at hn
    | done q fs =>
      have hr : resp = true := by cases resp <;> simp [doneOf] at hn ⊢
      subst hr
      exact response_yes O g q fs w h (by have := hG.1; omega)
end Go.Proofs.YtoofdompafkddaaDoor.Hd
/-
  head.New: what it returns. No condition.
-/
namespace Go.Proofs.YtoofdompafkddaaDoor.Hd
open Go.RowKit Go.Proofs.YtoofdompafkddaaDoor.Tk Go.Proofs.YtoofdompafkddaaDoor.Fd
set_option linter.unusedVariables false

theorem infoPart : (Tryd.prog.info? 94).map (·.size) = some 2 := by kernel_rfl
def OpenPost (F1 : Value) (w : World) (e : Ending) (w' : World) : Prop :=
  e = .returned (.agg #[.int .i64 1026, fnOf w.heap.size none]) ∧ w'.heap[w.heap.size]? = some (.cells #[F1] 91 (0, 0)) ∧ Below w.heap.size w w'
set_option maxRecDepth 100000 in
set_option maxHeartbeats 4000000 in
theorem open_any (fn : Fn) (w : World) :
    Calls Tryd.prog 45 #[.func fn #[] #[]] w (OpenPost (.func fn #[] #[]) w) := by
  have HX := Lib.hid (fun o => (old_block (w.alloc (.cells #[.func fn #[] #[]] 91)) o (b := w.heap.size) (by simp)).trans (new_block w (.cells #[.func fn #[] #[]] 91)))
  have HB := Lib.hid ((((Below.refl w.heap.size w).alloc (Nat.le_refl _) (.cells #[.func fn #[] #[]] 91)).alloc (by simp) (.cells #[.int .i64 1026, fnOf w.heap.size none] 94)))
  have HN := Lib.hid (new_block' (w.alloc (.cells #[.func fn #[] #[]] 91)) (.cells #[.int .i64 1026, fnOf w.heap.size none] 94) (g := w.heap.size + 1) (by simp))
  go_enter Tryd.func45, Tryd.ntmps45
  go_wp2_with fail
  refine bodyPost_ret (results_one rfl _ _ (w.heap.size + 1) 94 _ (0, 0) _ rfl HN.out Tryd.underlying94 rfl infoPart) rfl ?_
  exact ⟨rfl, HX.out _, HB.out⟩
def NewPost (resp : Bool) (w : World) (e : Ending) (w' : World) : Prop :=
  ∃ g, e = .returned (.pointer (some ⟨g, 0, none⟩)) ∧ Rdr w' (fun k => w.heap.size ≤ k) resp g start ∧ Below w.heap.size w w'
theorem new_made (resp : Bool) (w w1 : World) (h1 : w1.heap[w.heap.size]? = some (.cells #[firstFn resp] 91 (0, 0))) (hb : Below w.heap.size w w1) :
    NewPost resp w (.returned (.pointer (some ⟨w1.heap.size, 0, none⟩))) (w1.alloc (.cells (rc resp 1026 (fnOf w.heap.size none) (.slice none 0 0) 0 false 0 resp .none (.slice none 0 0)) 97)) := by
  refine ⟨_, rfl, ⟨w.heap.size, .slice none 0 0, .slice none 0 0, new_block _ _, (old_block _ _ (block_lt h1)).trans h1, OwnB.nil _, OwnF.nil _ _, hb.size, Nat.le_refl _, (fun k hk => by cases hk), (fun k hk => by cases hk)⟩, hb.alloc hb.size _⟩
set_option maxRecDepth 100000 in
set_option maxHeartbeats 4000000 in
theorem new_any (resp : Bool) (w : World) : Calls Tryd.prog 14 #[.bool resp] w (NewPost resp w) := by
  cases resp with
  | false =>
    go_enter Tryd.func14, Tryd.ntmps14
    go_wp2_with fail
    refine (open_any (.func 43) w).mono ?_
    rintro e w1 ⟨rfl, h1, hb1⟩
    have HM := Lib.hid (new_made false w w1 h1 hb1)
    clear h1 hb1
    go_wp2_with fail
    go_ret
    exact HM.out
  | true =>
    go_enter Tryd.func14, Tryd.ntmps14
    go_wp2_with fail
    refine (open_any (.func 44) w).mono ?_
    rintro e w1 ⟨rfl, h1, hb1⟩
    have HM := Lib.hid (new_made true w w1 h1 hb1)
    clear h1 hb1
    go_wp2_with fail
    go_ret
    exact HM.out
end Go.Proofs.YtoofdompafkddaaDoor.Hd
/-
  Whole lines that a reader reads: plain functions on bytes. No program, no condition.
-/
namespace Go.Proofs.YtoofdompafkddaaDoor.Hd
open Go.Proofs.YtoofdompafkddaaDoor.Tk Go.Proofs.YtoofdompafkddaaDoor.Fd Go.Proofs.YtoofdompafkddaaDoor.Ln
set_option linter.unusedVariables false

theorem ended_first {resp : Bool} {t : Bs} {n : Nat} {fs : List Fl} (ht : t ≠ []) (he : (firstOf resp (txt t)).2 = 0) : ended resp none n fs t = .on (some (firstOf resp (txt t)).1) [] n fs := by
  show (if t = [] then _ else _) = _
  rw [if_neg ht, if_pos he]
theorem ended_skip {resp : Bool} {n : Nat} {fs : List Fl} : ended resp none n fs [] = .on none [] n fs := rfl
theorem ended_last {resp : Bool} {q : Parts} {n : Nat} {fs : List Fl} : ended resp (some q) n fs [] = .done q fs := rfl
theorem ended_full {resp : Bool} {q : Parts} {n : Nat} {fs : List Fl} {t : Bs} (ht : t ≠ []) (hl : fs.length = 64) : ended resp (some q) n fs t = .bad 3 := by
  show (if t = [] then _ else _) = _
  rw [if_neg ht, if_pos hl]
theorem ended_field {resp : Bool} {q : Parts} {n : Nat} {fs : List Fl} {t : Bs} (ht : t ≠ []) (hl : fs.length ≠ 64) (he : (fldOf (txt t)).2 = 0) : ended resp (some q) n fs t = .on (some q) [] n (fs ++ [(fldOf (txt t)).1]) := by
  show (if t = [] then _ else _) = _
  rw [if_neg ht, if_neg hl, if_pos he]
/-- A line that ends, from its beginning on. -/
theorem run_whole {resp : Bool} {p : Option Parts} {n : Nat} {fs : List Fl} {t r : Bs} (h10 : ∀ c ∈ t, c ≠ 10) (hn : n + t.length < 8192) (hm : t.length < most p) :
    run resp (.on p [] n fs) (t ++ 10 :: r) = (t.length + 1 + (run resp (ended resp p (n + t.length + 1) fs (own t)) r).1, (run resp (ended resp p (n + t.length + 1) fs (own t)) r).2) := by
  have := run_line (resp := resp) (b := t) (r := r) (p := p) (l := []) (n := n) (fs := fs) h10 (by unfold room; simp; omega)
  simpa using this
theorem run_end {resp : Bool} {q : Parts} {n : Nat} {fs : List Fl} {r : Bs} (hn : n < 8192) : run resp (.on (some q) [] n fs) (10 :: r) = (1, .done q fs) := by
  have := run_whole (resp := resp) (p := some q) (n := n) (fs := fs) (t := []) (r := r) (by simp) (by simpa using hn) (by simp [most])
  rw [List.nil_append] at this
  rw [this, show own [] = [] from rfl, ended_last, run_over rfl]
  rfl

/-! GET / HTTP/1.1 -/
def getL : Bs := [71, 69, 84, 32, 47, 32, 72, 84, 84, 80, 47, 49, 46, 49]
def getP : Parts := ⟨1, 0, ⟨#[71, 69, 84]⟩, ⟨#[47]⟩⟩
theorem get_first : firstOf false (txt getL) = (getP, 0) := by kernel_rfl
theorem get_run (r : Bs) : run false start (getL ++ 10 :: r) = (15 + (run false (.on (some getP) [] 15 []) r).1, (run false (.on (some getP) [] 15 []) r).2) := by
  have h := run_whole (resp := false) (p := none) (n := 0) (fs := []) (t := getL) (r := r) (by decide) (by decide) (by decide)
  have e : ended false none (0 + getL.length + 1) [] (own getL) = .on (some getP) [] 15 [] := by
    have h2 := ended_first (resp := false) (t := getL) (n := 15) (fs := []) (by decide) (by rw [get_first])
    rw [get_first] at h2
    exact h2
  rw [e] at h
  exact h
/-! Lines 'a: b'. -/
def abL : Bs := [97, 58, 32, 98]
def abF : Fl := (⟨#[97]⟩, ⟨#[98]⟩)
theorem ab_fld : fldOf (txt abL) = (abF, 0) := by kernel_rfl
def reps : Nat → Bs
  | 0 => []
  | n + 1 => abL ++ 10 :: reps n
theorem reps_length (n : Nat) : (reps n).length = 5 * n := by
  induction n with
  | zero => rfl
  | succ n ih => show (abL ++ 10 :: reps n).length = _; simp [abL, ih]; omega
theorem reps_snoc (n : Nat) : reps (n + 1) = reps n ++ (abL ++ [10]) := by
  induction n with
  | zero => rfl
  | succ n ih =>
    show abL ++ 10 :: reps (n + 1) = (abL ++ 10 :: reps n) ++ (abL ++ [10])
    rw [ih]; simp
/-- Fields as long as there is room. -/
theorem reps_run (k : Nat) (q : Parts) (n : Nat) (fs : List Fl) (r : Bs) (hk : fs.length + k ≤ 64) (hn : n + 5 * k < 8192) :
    run false (.on (some q) [] n fs) (reps k ++ r) = (5 * k + (run false (.on (some q) [] (n + 5 * k) (fs ++ List.replicate k abF)) r).1, (run false (.on (some q) [] (n + 5 * k) (fs ++ List.replicate k abF)) r).2) := by
  induction k generalizing n fs with
  | zero => simp [reps]
  | succ k ih =>
    have h := run_whole (resp := false) (p := some q) (n := n) (fs := fs) (t := abL) (r := reps k ++ r) (by decide) (by simp [abL]; omega) (by simp [abL, most])
    have e : ended false (some q) (n + abL.length + 1) fs (own abL) = .on (some q) [] (n + 5) (fs ++ [abF]) := by
      have h2 := ended_field (resp := false) (q := q) (n := n + 5) (fs := fs) (t := abL) (by decide) (by omega) (by rw [ab_fld])
      rw [ab_fld] at h2
      exact h2
    rw [e, ih (n + 5) (fs ++ [abF]) (by simp; omega) (by omega)] at h
    show run false _ ((abL ++ 10 :: reps k) ++ r) = _
    rw [List.append_assoc, List.cons_append, h, List.append_assoc, show [abF] ++ List.replicate k abF = List.replicate (k + 1) abF from by rw [List.replicate_succ]; rfl, show n + 5 + 5 * k = n + 5 * (k + 1) from by omega]
    simp only [Prod.mk.injEq, and_true]
    simp [abL]; omega
/-- As many fields as there are, and what comes of them. -/
theorem many_run (n : Nat) (hn : n ≤ 67) : doneOf (run false start (getL ++ 10 :: (reps n ++ [10]))).2 = decide (n ≤ 64) ∧ errOf (run false start (getL ++ 10 :: (reps n ++ [10]))).2 = if n ≤ 64 then 0 else 3 := by
  rw [get_run]
  by_cases h : n ≤ 64
  · rw [reps_run n getP 15 [] [10] (by simpa using h) (by omega), run_end (by omega)]
    simp [doneOf, errOf, h]
  · obtain ⟨m, rfl⟩ : ∃ m, n = 64 + (m + 1) := ⟨n - 65, by omega⟩
    have hs : reps (64 + (m + 1)) ++ [10] = reps 64 ++ (abL ++ 10 :: (reps m ++ [10])) := by
      have : ∀ a b, reps (a + b) = reps a ++ reps b := by
        intro a b
        induction a with
        | zero => simp [reps]
        | succ a ih => rw [show a + 1 + b = (a + b) + 1 from by omega]; show abL ++ 10 :: reps (a + b) = (abL ++ 10 :: reps a) ++ reps b; rw [ih]; simp
      rw [this]
      show reps 64 ++ (abL ++ 10 :: reps m) ++ [10] = _
      simp
    rw [hs, reps_run 64 getP 15 [] _ (by simp) (by omega)]
    have h := run_whole (resp := false) (p := some getP) (n := 15 + 5 * 64) (fs := [] ++ List.replicate 64 abF) (t := abL) (r := reps m ++ [10]) (by decide) (by simp [abL]) (by decide)
    rw [ended_full (t := own abL) (by decide) (by simp), run_over (s := .bad 3) rfl] at h
    rw [h]
    have : ¬ 64 + (m + 1) ≤ 64 := by omega
    simp [doneOf, errOf]
/-! A field as long as may be. -/
def xs (k : Nat) : Bs := List.replicate k 120
theorem xs_val (k : Nat) : isVal (xs k) = true := by
  unfold isVal xs
  cases k with
  | zero => rfl
  | succ k =>
    have h1 : (List.replicate (k + 1) (120 : UInt8)).all textByte = true := by
      rw [List.all_eq_true]; intro c hc; rw [List.eq_of_mem_replicate hc]; decide
    have h2 : (List.replicate (k + 1) (120 : UInt8)).headD 0 = 120 := rfl
    have h3 : (List.replicate (k + 1) (120 : UInt8)).getLastD 0 = 120 := by
      rw [List.getLastD_eq_getLast?, List.getLast?_replicate]; simp
    rw [h1, h2, h3]
    have h4 : Tk.blank (120 : UInt8) = false := by decide
    rw [h4]
    simp
theorem two_of {a b c d : Value} (h : Value.tuple #[a, b] = Value.tuple #[c, d]) : b = d := by
  injection h with h
  injection h with h
  injection h with _ h
  injection h
theorem fld_x (k : Nat) : (fldOf (txt ([97, 58, 32] ++ xs k))).2 = 0 := by
  have hf : isFld (⟨#[97]⟩ : ByteArray).data.toList (⟨(xs k).toArray⟩ : ByteArray).data.toList = true := by
    have h1 : isTok (⟨#[97]⟩ : ByteArray).data.toList = true := by decide
    have h2 : isVal (⟨(xs k).toArray⟩ : ByteArray).data.toList = true := xs_val k
    unfold isFld; rw [h1, h2]; rfl
  have h := parse_line hf
  have e : (⟨#[97]⟩ ++ ⟨#[58, 32]⟩ ++ ⟨(xs k).toArray⟩ : ByteArray) = txt ([97, 58, 32] ++ xs k) := by
    apply bytes_eq
    rw [line_data]
    rfl
  rw [e, parseVal_of] at h
  have h2 := two_of h
  clear h hf e
  generalize (fldOf (txt ([97, 58, 32] ++ xs k))).2 = z at h2 ⊢
  injection h2 with _ h2
  omega
theorem own_x (k : Nat) : own ([97, 58, 32] ++ xs k) = [97, 58, 32] ++ xs k := by
  unfold own
  rw [if_neg]
  intro h
  cases k with
  | zero => simp [xs] at h
  | succ k =>
    have : ([97, 58, 32] ++ xs (k + 1)).getLast? = some 120 := by
      rw [List.getLast?_append, xs, List.getLast?_replicate]; simp
    rw [this] at h; exact absurd h (by decide)
theorem x_no (k : Nat) : ∀ c ∈ [97, 58, 32] ++ xs k, c ≠ 10 := by
  intro c hc
  rw [List.mem_append] at hc
  rcases hc with hc | hc
  · revert hc; revert c; decide
  · rw [List.eq_of_mem_replicate hc]; decide
theorem long_run (k : Nat) (hk : k ≤ 8205) : (k + 18 + 2 ≤ 8192 → (run false start (getL ++ 10 :: ([97, 58, 32] ++ xs k ++ [10, 10]))).1 = k + 20 ∧ doneOf (run false start (getL ++ 10 :: ([97, 58, 32] ++ xs k ++ [10, 10]))).2 = true ∧ errOf (run false start (getL ++ 10 :: ([97, 58, 32] ++ xs k ++ [10, 10]))).2 = 0) ∧
    (8192 < k + 18 + 2 → (run false start (getL ++ 10 :: ([97, 58, 32] ++ xs k ++ [10, 10]))).1 = 8193 ∧ doneOf (run false start (getL ++ 10 :: ([97, 58, 32] ++ xs k ++ [10, 10]))).2 = false ∧ errOf (run false start (getL ++ 10 :: ([97, 58, 32] ++ xs k ++ [10, 10]))).2 = 3) := by
  have hl : ([97, 58, 32] ++ xs k).length = k + 3 := by simp [xs]
  rw [get_run]
  by_cases h8 : 15 + (k + 3) < 8192
  · have h := run_whole (resp := false) (p := some getP) (n := 15) (fs := []) (t := [97, 58, 32] ++ xs k) (r := [10]) (x_no k) (by rw [hl]; exact h8) (by rw [hl]; simp only [most, Option.isNone_some]; simp; omega)
    rw [own_x, hl, ended_field (by simp) (by simp) (fld_x k)] at h
    rw [show [97, 58, 32] ++ xs k ++ [10, 10] = [97, 58, 32] ++ xs k ++ 10 :: [10] from rfl, h]
    refine ⟨fun h2 => ?_, fun h2 => ?_⟩
    · rw [run_end (by omega)]
      exact ⟨by show 15 + (k + 3 + 1 + 1) = _; omega, rfl, rfl⟩
    · have e : 15 + (k + 3) + 1 = 8192 := by omega
      rw [e, run_cons rfl, step_on, if_pos (by simp [room, most]), run_nil]
      exact ⟨by show 15 + (k + 3 + 1 + (0 + 1)) = _; omega, rfl, rfl⟩
  · have hb : room (some getP) [] 15 < ([97, 58, 32] ++ xs k ++ [10, 10]).length := by rw [List.length_append, hl]; simp [room, most]; omega
    have hr : room (some getP) [] 15 = 8177 := by simp [room, most]
    have h := run_big (resp := false) (b := [97, 58, 32] ++ xs k ++ [10, 10]) (p := some getP) (l := []) (n := 15) (fs := []) (fun c hc => by
      rw [hr, List.take_append_of_le_length (by rw [hl]; omega)] at hc
      exact x_no k c (List.mem_of_mem_take hc)) hb
    rw [h, hr]
    exact ⟨fun h2 => by omega, fun _ => ⟨rfl, rfl, rfl⟩⟩
end Go.Proofs.YtoofdompafkddaaDoor.Hd
