/-
  A reader's Request and Response: what each returns. Conditions: fields of at most 2^20 bytes in all.
-/
import Derived.Test.YtlnlihkljnkhiaaDoorHdTell
namespace Go.Proofs.YtlnlihkljnkhiaaDoor.Hd
open Go.RowKit Go.Proofs.YtlnlihkljnkhiaaDoor.Tk Go.Proofs.YtlnlihkljnkhiaaDoor.Fd
set_option linter.unusedVariables false

theorem infoReq : (Tryd.prog.info? 29).map (·.size) = some 4 := by kernel_rfl
theorem infoRes : (Tryd.prog.info? 31).map (·.size) = some 4 := by kernel_rfl
theorem put4 {w : World} {g : Nat} {a b c d : Value} {t : TypeId} {fr : Nat × Nat} (h : w.heap[g]? = some (.cells #[a, b, c, d] t fr)) (x y z u : Value) :
    ((((w.setCell ⟨g, 0, none⟩ x).setCell ⟨g, 1, none⟩ y).setCell ⟨g, 2, none⟩ z).setCell ⟨g, 3, none⟩ u).heap[g]? = some (.cells #[x, y, z, u] t fr) := by
  rw [heap_put (heap_put (heap_put (heap_put h 0 x) 1 y) 2 z) 3 u]; rfl
theorem four {w : World} {g : Nat} {a b c d : Value} {t : TypeId} {fr : Nat × Nat} (h : w.heap[g]? = some (.cells #[a, b, c, d] t fr)) : w.cell? ⟨g, 0, none⟩ = some a ∧ w.cell? ⟨g, 1, none⟩ = some b ∧ w.cell? ⟨g, 2, none⟩ = some c ∧ w.cell? ⟨g, 3, none⟩ = some d := by
  refine ⟨?_, ?_, ?_, ?_⟩ <;> (rw [Lib.cell_of_heap h]; rfl)
theorem put4_below {B : Nat} {w0 w : World} {g : Nat} (h : Below B w0 w) (hg : B ≤ g) (x y z u : Value) : Below B w0 ((((w.setCell ⟨g, 0, none⟩ x).setCell ⟨g, 1, none⟩ y).setCell ⟨g, 2, none⟩ z).setCell ⟨g, 3, none⟩ u) :=
  (((h.setCell (p := ⟨g, 0, none⟩) hg _).setCell (p := ⟨g, 1, none⟩) hg _).setCell (p := ⟨g, 2, none⟩) hg _).setCell (p := ⟨g, 3, none⟩) hg _
/-- A request's head, and its error; a response's. -/
def ReqPost (H : Parts × List Fl × Nat) (w : World) (e : Ending) (w' : World) : Prop := ∃ v, e = .returned (.tuple #[.agg #[.string H.1.a, .string H.1.b, .int .i64 H.1.m, v], .int .i64 (H.2.2 : Int)]) ∧ OwnF w' w.heap.size v H.2.1 ∧ Below w.heap.size w w'
def ResPost (H : Parts × List Fl × Nat) (w : World) (e : Ending) (w' : World) : Prop := ∃ v, e = .returned (.tuple #[.agg #[.int .i64 H.1.m, .int .i64 H.1.c, .string H.1.a, v], .int .i64 (H.2.2 : Int)]) ∧ OwnF w' w.heap.size v H.2.1 ∧ Below w.heap.size w w'
theorem headOf_no {resp same : Bool} {s : St} (h : (doneOf s && same) = false) : headOf resp same s = (.none, [], 16) := by
  cases s with
  | on => rfl
  | done q fs => simp [doneOf] at h; subst h; rfl
  | bad => rfl

set_option maxRecDepth 100000 in
set_option maxHeartbeats 4000000 in
theorem request_no (O : Nat → Prop) (resp : Bool) (g : Nat) (s : St) (w : World) (h : Rdr w O resp g s) (hn : (doneOf s && resp == false) = false) :
    Calls Tryd.prog 12 #[.pointer (some ⟨g, 0, none⟩)] w (ReqPost (headOf resp (resp == false) s) w) := by
  rw [headOf_no hn]
  have HR := Lib.hid (h.below ((Below.refl w.heap.size w).alloc (Nat.le_refl _) (.cells #[.string ⟨#[]⟩, .string ⟨#[]⟩, .int .i64 0, .slice none 0 0] 29)))
  have HN := Lib.hid hn
  clear h hn
  go_enter Tryd.func12, Tryd.ntmps12
  go_wp2_with fail
  refine (untold_any O resp false g s _ HR.out).mono ?_
  rintro e w' ⟨rfl, rfl⟩
  rw [HN.out]
  go_wp2_with fail
  refine bodyPost_ret (results_pair rfl _ _ w.heap.size 29 _ (0, 0) _ rfl (new_block _ _) Tryd.underlying29 rfl infoReq) rfl ?_
  exact ⟨_, rfl, OwnF.nil _ _, (Below.refl _ _).alloc (Nat.le_refl _) _⟩
set_option maxRecDepth 100000 in
set_option maxHeartbeats 4000000 in
theorem request_yes (O : Nat → Prop) (g : Nat) (q : Parts) (fs : List Fl) (w : World) (h : Rdr w O false g (.done q fs)) (hl : fs.length ≤ 1048576) :
    Calls Tryd.prog 12 #[.pointer (some ⟨g, 0, none⟩)] w (ReqPost (q, fs, 0) w) := by
  have HR := Lib.hid (h.below ((Below.refl w.heap.size w).alloc (Nat.le_refl _) (.cells #[.string ⟨#[]⟩, .string ⟨#[]⟩, .int .i64 0, .slice none 0 0] 29)))
  have hB1 := (Below.refl w.heap.size w).alloc (Nat.le_refl _) (.cells #[.string ⟨#[]⟩, .string ⟨#[]⟩, .int .i64 0, .slice none 0 0] 29)
  have HK1 := Lib.hid (new_block w (.cells #[.string ⟨#[]⟩, .string ⟨#[]⟩, .int .i64 0, .slice none 0 0] 29))
  obtain ⟨w1, hw1⟩ : ∃ w1, w1 = w.alloc (.cells #[.string ⟨#[]⟩, .string ⟨#[]⟩, .int .i64 0, .slice none 0 0] 29) := ⟨_, rfl⟩
  have HW1 := Lib.hid hw1
  rw [← hw1] at HR hB1 HK1
  clear hw1 h
  obtain ⟨M, F, lv, n, fv, hF, hb, hf, _, _⟩ := HR.out
  have c7 := rc7 hb
  have c8 := rc8 hb
  have c9 := rc9 hb
  have c10 := rc10 hb
  have c15 := rc15 hb
  unfold qA at c7
  unfold qB at c8
  unfold qM at c9
  simp only [Bool.false_eq_true, if_false] at c7 c8 c9
  have HFF := Lib.hid hf
  have HBB := Lib.hid hb
  clear hb hf hF
  have HT := Lib.hid (new_block w1 (.cells #[.string q.a, .string q.b, .int .i64 q.m, .slice none 0 0] 29))
  have hB2 := hB1.alloc hB1.size (.cells #[.string q.a, .string q.b, .int .i64 q.m, .slice none 0 0] 29)
  have HK2 := Lib.hid ((old_block w1 (.cells #[.string q.a, .string q.b, .int .i64 q.m, .slice none 0 0] 29) (block_lt HK1.out)).trans HK1.out)
  have HF2 := Lib.hid (owns_kept HFF.out ((Below.refl _ w1).alloc (Nat.le_refl _) (.cells #[.string q.a, .string q.b, .int .i64 q.m, .slice none 0 0] 29)))
  have c15' : (w1.alloc (.cells #[.string q.a, .string q.b, .int .i64 q.m, .slice none 0 0] 29)).cell? ⟨g, 15, none⟩ = some fv := rc15 ((old_block w1 _ (block_lt HBB.out)).trans HBB.out)
  obtain ⟨T, hT⟩ : ∃ T, T = w1.heap.size := ⟨_, rfl⟩
  have HTT := Lib.hid hT
  have hTw : w.heap.size + 1 ≤ T := by rw [hT]; exact block_lt HK1.out
  rw [← hT] at HT
  clear hT
  go_enter Tryd.func12, Tryd.ntmps12
  go_wp2_with fail
  rw [← HW1.out]
  refine (untold_any O false false g _ _ HR.out).mono ?_
  rintro e w' ⟨rfl, rfl⟩
  rw [show (doneOf (.done q fs) && (false == false)) = true from rfl]
  go_wp2_with fail
  rw [← HTT.out]
  refine (clone_any fv fs _ HF2.out hl).mono ?_
  rintro e w3 ⟨v, rfl, hf3, hb3⟩
  have HB3 := Lib.hid (Bl.next hB2 hb3)
  have HK3 := Lib.hid (Bl.old hb3 (block_lt HK2.out) HK2.out)
  have hT3 := Bl.old hb3 (block_lt HT.out) HT.out
  have HO3 := Lib.hid hf3
  obtain ⟨va, vc, hv⟩ := OwnF.form hf3
  subst hv
  obtain ⟨t0, t1, t2, t3⟩ := four hT3
  have ft := free hT3 3
  obtain ⟨r0, r1, r2, r3⟩ := four HK3.out
  have f0 := free HK3.out 0
  have f1 := free HK3.out 1
  have f2 := free HK3.out 2
  have f3 := free HK3.out 3
  have hne : w.heap.size ≠ T := by omega
  have hen : T ≠ w.heap.size := by omega
  have HP := Lib.hid (put_far (a := ⟨T, 3, none⟩) (v := .slice va fs.length vc) HK3.out (by show w.heap.size ≠ T; exact hne))
  clear hf3 hb3 hT3 c7 c8 c9 c10 c15 c15' hB2
  go_wp2_with fail
  refine bodyPost_ret (results_pair rfl _ _ w.heap.size 29 _ (0, 0) _ rfl (put4 HP.out _ _ _ _) Tryd.underlying29 rfl infoReq) rfl ?_
  obtain ⟨c3, hc3⟩ : ∃ c3, c3 = w3.setCell ⟨T, 3, none⟩ (.slice va fs.length vc) := ⟨_, rfl⟩
  refine ⟨_, rfl, ?_, put4_below (HB3.out.setCell (p := ⟨T, 3, none⟩) (by show w.heap.size ≤ T; omega) _) (Nat.le_refl _) _ _ _ _⟩
  refine owns_mono (row_same HO3.out fun k hk => ?_) (by have := hB1.size; simp; omega)
  have hk3 := (World.ownsRow.lt HO3.out k hk).1
  have hkT : k ≠ T := by
    have : w1.heap.size + 1 ≤ k := by simpa using hk3
    have := HTT.out
    omega
  have hkw : k ≠ w.heap.size := by
    have : w1.heap.size + 1 ≤ k := by simpa using hk3
    have := hB1.size
    omega
  exact put_far (put_far (put_far (put_far (put_far rfl (by show k ≠ T; exact hkT)) (by show k ≠ w.heap.size; exact hkw)) (by show k ≠ w.heap.size; exact hkw)) (by show k ≠ w.heap.size; exact hkw)) (by show k ≠ w.heap.size; exact hkw)
set_option maxRecDepth 100000 in
set_option maxHeartbeats 4000000 in
theorem response_no (O : Nat → Prop) (resp : Bool) (g : Nat) (s : St) (w : World) (h : Rdr w O resp g s) (hn : (doneOf s && resp == true) = false) :
    Calls Tryd.prog 14 #[.pointer (some ⟨g, 0, none⟩)] w (ResPost (headOf resp (resp == true) s) w) := by
  rw [headOf_no hn]
  have HR := Lib.hid (h.below ((Below.refl w.heap.size w).alloc (Nat.le_refl _) (.cells #[.int .i64 0, .int .i64 0, .string ⟨#[]⟩, .slice none 0 0] 31)))
  have HN := Lib.hid hn
  clear h hn
  go_enter Tryd.func14, Tryd.ntmps14
  go_wp2_with fail
  refine (untold_any O resp true g s _ HR.out).mono ?_
  rintro e w' ⟨rfl, rfl⟩
  rw [HN.out]
  go_wp2_with fail
  refine bodyPost_ret (results_pair rfl _ _ w.heap.size 31 _ (0, 0) _ rfl (new_block _ _) Tryd.underlying31 rfl infoRes) rfl ?_
  exact ⟨_, rfl, OwnF.nil _ _, (Below.refl _ _).alloc (Nat.le_refl _) _⟩
set_option maxRecDepth 100000 in
set_option maxHeartbeats 4000000 in
theorem response_yes (O : Nat → Prop) (g : Nat) (q : Parts) (fs : List Fl) (w : World) (h : Rdr w O true g (.done q fs)) (hl : fs.length ≤ 1048576) :
    Calls Tryd.prog 14 #[.pointer (some ⟨g, 0, none⟩)] w (ResPost (q, fs, 0) w) := by
  have HR := Lib.hid (h.below ((Below.refl w.heap.size w).alloc (Nat.le_refl _) (.cells #[.int .i64 0, .int .i64 0, .string ⟨#[]⟩, .slice none 0 0] 31)))
  have hB1 := (Below.refl w.heap.size w).alloc (Nat.le_refl _) (.cells #[.int .i64 0, .int .i64 0, .string ⟨#[]⟩, .slice none 0 0] 31)
  have HK1 := Lib.hid (new_block w (.cells #[.int .i64 0, .int .i64 0, .string ⟨#[]⟩, .slice none 0 0] 31))
  obtain ⟨w1, hw1⟩ : ∃ w1, w1 = w.alloc (.cells #[.int .i64 0, .int .i64 0, .string ⟨#[]⟩, .slice none 0 0] 31) := ⟨_, rfl⟩
  have HW1 := Lib.hid hw1
  rw [← hw1] at HR hB1 HK1
  clear hw1 h
  obtain ⟨M, F, lv, n, fv, hF, hb, hf, _, _⟩ := HR.out
  have c7 := rc11 hb
  have c8 := rc12 hb
  have c9 := rc13 hb
  have c10 := rc14 hb
  have c15 := rc15 hb
  unfold sM at c7
  unfold sC at c8
  unfold sA at c9
  simp only [if_true] at c7 c8 c9
  have HFF := Lib.hid hf
  have HBB := Lib.hid hb
  clear hb hf hF
  have HT := Lib.hid (new_block w1 (.cells #[.int .i64 q.m, .int .i64 q.c, .string q.a, .slice none 0 0] 31))
  have hB2 := hB1.alloc hB1.size (.cells #[.int .i64 q.m, .int .i64 q.c, .string q.a, .slice none 0 0] 31)
  have HK2 := Lib.hid ((old_block w1 (.cells #[.int .i64 q.m, .int .i64 q.c, .string q.a, .slice none 0 0] 31) (block_lt HK1.out)).trans HK1.out)
  have HF2 := Lib.hid (owns_kept HFF.out ((Below.refl _ w1).alloc (Nat.le_refl _) (.cells #[.int .i64 q.m, .int .i64 q.c, .string q.a, .slice none 0 0] 31)))
  have c15' : (w1.alloc (.cells #[.int .i64 q.m, .int .i64 q.c, .string q.a, .slice none 0 0] 31)).cell? ⟨g, 15, none⟩ = some fv := rc15 ((old_block w1 _ (block_lt HBB.out)).trans HBB.out)
  obtain ⟨T, hT⟩ : ∃ T, T = w1.heap.size := ⟨_, rfl⟩
  have HTT := Lib.hid hT
  have hTw : w.heap.size + 1 ≤ T := by rw [hT]; exact block_lt HK1.out
  rw [← hT] at HT
  clear hT
  go_enter Tryd.func14, Tryd.ntmps14
  go_wp2_with fail
  rw [← HW1.out]
  refine (untold_any O true true g _ _ HR.out).mono ?_
  rintro e w' ⟨rfl, rfl⟩
  rw [show (doneOf (.done q fs) && (true == true)) = true from rfl]
  go_wp2_with fail
  rw [← HTT.out]
  refine (clone_any fv fs _ HF2.out hl).mono ?_
  rintro e w3 ⟨v, rfl, hf3, hb3⟩
  have HB3 := Lib.hid (Bl.next hB2 hb3)
  have HK3 := Lib.hid (Bl.old hb3 (block_lt HK2.out) HK2.out)
  have hT3 := Bl.old hb3 (block_lt HT.out) HT.out
  have HO3 := Lib.hid hf3
  obtain ⟨va, vc, hv⟩ := OwnF.form hf3
  subst hv
  obtain ⟨t0, t1, t2, t3⟩ := four hT3
  have ft := free hT3 3
  obtain ⟨r0, r1, r2, r3⟩ := four HK3.out
  have f0 := free HK3.out 0
  have f1 := free HK3.out 1
  have f2 := free HK3.out 2
  have f3 := free HK3.out 3
  have hne : w.heap.size ≠ T := by omega
  have hen : T ≠ w.heap.size := by omega
  have HP := Lib.hid (put_far (a := ⟨T, 3, none⟩) (v := .slice va fs.length vc) HK3.out (by show w.heap.size ≠ T; exact hne))
  clear hf3 hb3 hT3 c7 c8 c9 c10 c15 c15' hB2
  go_wp2_with fail
  refine bodyPost_ret (results_pair rfl _ _ w.heap.size 31 _ (0, 0) _ rfl (put4 HP.out _ _ _ _) Tryd.underlying31 rfl infoRes) rfl ?_
  obtain ⟨c3, hc3⟩ : ∃ c3, c3 = w3.setCell ⟨T, 3, none⟩ (.slice va fs.length vc) := ⟨_, rfl⟩
  refine ⟨_, rfl, ?_, put4_below (HB3.out.setCell (p := ⟨T, 3, none⟩) (by show w.heap.size ≤ T; omega) _) (Nat.le_refl _) _ _ _ _⟩
  refine owns_mono (row_same HO3.out fun k hk => ?_) (by have := hB1.size; simp; omega)
  have hk3 := (World.ownsRow.lt HO3.out k hk).1
  have hkT : k ≠ T := by
    have : w1.heap.size + 1 ≤ k := by simpa using hk3
    have := HTT.out
    omega
  have hkw : k ≠ w.heap.size := by
    have : w1.heap.size + 1 ≤ k := by simpa using hk3
    have := hB1.size
    omega
  exact put_far (put_far (put_far (put_far (put_far rfl (by show k ≠ T; exact hkT)) (by show k ≠ w.heap.size; exact hkw)) (by show k ≠ w.heap.size; exact hkw)) (by show k ≠ w.heap.size; exact hkw)) (by show k ≠ w.heap.size; exact hkw)
theorem request_any (O : Nat → Prop) (resp : Bool) (g : Nat) (s : St) (w : World) (h : Rdr w O resp g s) (hG : Good s) :
    Calls Tryd.prog 12 #[.pointer (some ⟨g, 0, none⟩)] w (ReqPost (headOf resp (resp == false) s) w) := by
  cases hn : (doneOf s && resp == false) with
  | false => exact request_no O resp g s w h hn
  | true =>
    cases s with
    | on => simp [doneOf] at hn
    | bad => simp [doneOf] at hn
    | done q fs =>
      have hr : resp = false := by cases resp <;> simp [doneOf] at hn ⊢
      subst hr
      exact request_yes O g q fs w h (by have := hG.1; omega)
theorem response_any (O : Nat → Prop) (resp : Bool) (g : Nat) (s : St) (w : World) (h : Rdr w O resp g s) (hG : Good s) :
    Calls Tryd.prog 14 #[.pointer (some ⟨g, 0, none⟩)] w (ResPost (headOf resp (resp == true) s) w) := by
  cases hn : (doneOf s && resp == true) with
  | false => exact response_no O resp g s w h hn
  | true =>
    cases s with
    | on => simp [doneOf] at hn
    | bad => simp [doneOf] at hn
    | done q fs =>
      have hr : resp = true := by cases resp <;> simp [doneOf] at hn ⊢
      subst hr
      exact response_yes O g q fs w h (by have := hG.1; omega)
end Go.Proofs.YtlnlihkljnkhiaaDoor.Hd
