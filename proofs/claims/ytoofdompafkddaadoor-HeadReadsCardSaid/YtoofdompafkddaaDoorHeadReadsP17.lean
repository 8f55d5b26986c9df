/-
  Texts that the law's proof stands on, 3 of them in one file; each one's head says what it proves and under which condition.
-/
import Derived.Test.YtoofdompafkddaaDoorHeadReadsP16
import Derived.ArgAppend
import Derived.Laws.AppendOwnNone
import Derived.Test.YtoofdompafkddaaDoorHeadReadsP3
import Derived.Test.YtoofdompafkddaaDoorHeadReadsP7
/-
  The reference reader's Request and Response: what each returns. Conditions: at most 2^20 fields.
-/
namespace Go.Proofs.YtoofdompafkddaaDoor.Hd
open Go.RowKit Go.Proofs.YtoofdompafkddaaDoor.Tk Go.Proofs.YtoofdompafkddaaDoor.Fd
set_option linter.unusedVariables false

set_option maxRecDepth 100000 in
set_option maxHeartbeats 4000000 in
theorem rrequest_yes (O : Nat → Prop) (g : Nat) (q : Parts) (fs : List Fl) (w : World) (h : RRdr w O false g (.done q fs)) (hl : fs.length ≤ 1048576) :
    Calls Tryd.prog 20 #[.pointer (some ⟨g, 0, none⟩)] w (ReqPost (q, fs, 0) w) := by
  obtain ⟨n, o, f, fv, hb, hf, _, _⟩ := h
  obtain ⟨A, hA⟩ : ∃ A, A = Obj.cells #[.string ⟨#[]⟩, .string ⟨#[]⟩, .int .i64 0, .slice none 0 0] 29 := ⟨_, rfl⟩
  obtain ⟨B, hB⟩ : ∃ B, B = Obj.cells #[.string q.a, .string q.b, .int .i64 q.m, .slice none 0 0] 29 := ⟨_, rfl⟩
  obtain ⟨C, hC⟩ : ∃ C, C = Obj.cells #[] 56 := ⟨_, rfl⟩
  have s1 : (w.alloc A).heap.size = w.heap.size + 1 := by simp
  have s2 : ((w.alloc A).alloc B).heap.size = w.heap.size + 1 + 1 := by simp
  have s3 : (((w.alloc A).alloc B).alloc C).heap.size = w.heap.size + 1 + 1 + 1 := by simp
  have hbel : Below w.heap.size w (((w.alloc A).alloc B).alloc C) := (((Below.refl _ w).alloc (Nat.le_refl _) A).alloc (by omega) B).alloc (by omega) C
  have hAB := new_block w A
  have hBB := new_block (w.alloc A) B
  rw [s1] at hBB
  have hA3 : (((w.alloc A).alloc B).alloc C).heap[w.heap.size]? = some A := (old_block _ _ (by omega)).trans ((old_block _ _ (by omega)).trans hAB)
  have hB3 : (((w.alloc A).alloc B).alloc C).heap[w.heap.size + 1]? = some B := (old_block _ _ (by omega)).trans hBB
  have hW : (((w.alloc A).alloc B).alloc C).ownsRow (w.heap.size + 1 + 1) 56 2 (.slice (some ⟨w.heap.size + 1 + 1, 0, none⟩) 0 0) 0 [] := by
    have h := World.ownsRow_lit (base := w.heap.size + 1 + 1) (e := 56) (size := 2) ((w.alloc A).alloc B) #[] 0 (by omega) (Nat.zero_le _) rfl
    rw [s2, ← hC] at h
    exact h
  have c0 := rblk_at hb 0 (x := .bool false) rfl
  have c4 := rblk_at hb 4 (x := .string q.a) rfl
  have c5 := rblk_at hb 5 (x := .string q.b) rfl
  have c6 := rblk_at hb 6 (x := .int .i64 q.m) rfl
  have c7 := rblk_at hb 7 (x := .slice none 0 0) rfl
  have c13 := rblk_at hb 13 (x := .bool true) rfl
  have c14 := rblk_at hb 14 (x := .int .i64 0) rfl
  have hgl := block_lt hb
  have c12' : (((w.alloc A).alloc B).alloc C).cell? ⟨g, 12, none⟩ = some fv := rblk_at (w := ((w.alloc A).alloc B).alloc C) ((hbel.block g hgl).trans hb) 12 rfl
  have HW := Lib.hid hW
  have HA3 := Lib.hid hA3
  have HB3 := Lib.hid hB3
  have HBel := Lib.hid hbel
  have HS3 := Lib.hid s3
  have HF := Lib.hid (owns_kept hf (w' := ((w.alloc A).alloc B).alloc C) hbel)
  obtain ⟨i0, hi, hz0, hz1, hz2⟩ := info_parts infoField
  have hOW : ∀ X Y, (((w.alloc X).alloc Y).alloc C).ownsRow w.heap.size 56 2 (.slice (some ⟨w.heap.size + 1 + 1, 0, none⟩) 0 0) 0 [] := fun X Y => by
    have s : ((w.alloc X).alloc Y).heap.size = w.heap.size + 1 + 1 := by simp
    have h := World.ownsRow_lit (base := w.heap.size) (e := 56) (size := 2) ((w.alloc X).alloc Y) #[] 0 (by omega) (Nat.zero_le _) rfl
    rw [s, ← hC] at h
    exact h
  subst hA hB hC
  have HOW := Lib.hid hOW
  clear hOW
  have hen : w.heap.size + 1 ≠ w.heap.size := by omega
  have hne : w.heap.size ≠ w.heap.size + 1 := by omega
  obtain ⟨r0, r1, r2, r3⟩ := four hA3
  have e0 := free hA3 0
  have e1 := free hA3 1
  have e2 := free hA3 2
  have e3 := free hA3 3
  obtain ⟨t0, t1, t2, t3⟩ := four hB3
  have ft := free hB3 3
  clear hAB hBB hA3 hB3 hW hbel s1 s2 s3
  rcases hf.2 with ⟨rfl, h0⟩ | ⟨k, cap, cur, hv, _, hh, hlc, hcm, hcs, htk⟩
  · obtain rfl : fs = [] := List.length_eq_zero_iff.1 h0
    clear hf hb h0
    go_enter Tryd.func20, Tryd.ntmps20
    go_wp2_with fail
    refine bodyPost_ret (results_pair rfl _ _ w.heap.size 29 _ (0, 0) _ rfl ((old_block _ _ (by simp; omega)).trans ((old_block _ _ (by simp)).trans (new_block _ _))) Tryd.underlying29 rfl infoReq) rfl ?_
    exact ⟨_, rfl, HOW.out _ _, (((Below.refl _ w).alloc (Nat.le_refl _) _).alloc (by simp) _).alloc (by simp; omega) _⟩
  · subst hv
    have HN := Lib.hid (World.ownsRow.cells HF.out (g := k) rfl)
    clear hf hb hh htk hcs r0 r1 r2 r3 e0 e1 e2 e3 t0 t1 t2 t3 ft
    go_enter Tryd.func20, Tryd.ntmps20
    go_wp2_with (at_builtin; refine wpList_append_own _ rfl _ _ 27 rfl (w.heap.size + 1 + 1) 56 i0 (.agg #[.string ⟨#[]⟩, .string ⟨#[]⟩]) 2 32 Tryd.underlying27 hi hz0 hz1 hz2 rfl (by decide) _ _ _ rfl HW.out ⟨k, 0, none⟩ fs.length cap (flat fs) rfl (flat_length _) HN.out (fun y hy => flat_one _ y hy) (by unfold maxLen; omega) (by omega) (by rw [HS3.out]; omega) ?_; intro v' w6 hown' hgrow hnil; have HO6 := Lib.hid (show OwnF w6 (w.heap.size + 1 + 1) v' fs from by unfold OwnF; rw [Nat.zero_add, List.nil_append] at hown'; exact hown'); obtain ⟨va, vc, hv'⟩ := OwnF.form HO6.out; subst hv'; have HB6 := Lib.hid (HBel.out.grown hgrow HBel.out.size (fun k hk => by injection hk with hk; have hk' : w.heap.size + 1 + 1 = k := hk; omega)); have hq6 := (Below.refl (w.heap.size + 1 + 1) _).grown hgrow (by rw [HS3.out]; omega) (fun k hk => by injection hk with hk; have hk' : w.heap.size + 1 + 1 = k := hk; omega); have HA6 := Lib.hid (Bl.old hq6 (by omega) HA3.out); have HC6 := Lib.hid (Bl.old hq6 (by omega) HB3.out); obtain ⟨r0, r1, r2, r3⟩ := four HA6.out; have e0 := free HA6.out 0; have e1 := free HA6.out 1; have e2 := free HA6.out 2; have e3 := free HA6.out 3; obtain ⟨t0, t1, t2, t3⟩ := four HC6.out; have ft := free HC6.out 3; clear hown' hgrow hnil hq6)
    refine bodyPost_ret (results_pair rfl _ _ w.heap.size 29 _ (0, 0) _ rfl (put4 (put_far (a := ⟨w.heap.size + 1, 3, none⟩) (v := .slice va fs.length vc) HA6.out (by show w.heap.size ≠ w.heap.size + 1; exact hne)) _ _ _ _) Tryd.underlying29 rfl infoReq) rfl ?_
    refine ⟨_, rfl, ?_, put4_below (HB6.out.setCell (p := ⟨w.heap.size + 1, 3, none⟩) (by show w.heap.size ≤ w.heap.size + 1; omega) _) (Nat.le_refl _) _ _ _ _⟩
    refine owns_mono (row_same HO6.out fun j hj => ?_) (by omega)
    have hj2 := (World.ownsRow.lt HO6.out j hj).1
    exact put_far (put_far (put_far (put_far (put_far rfl (by show j ≠ w.heap.size + 1; omega)) (by show j ≠ w.heap.size; omega)) (by show j ≠ w.heap.size; omega)) (by show j ≠ w.heap.size; omega)) (by show j ≠ w.heap.size; omega)
set_option maxRecDepth 100000 in
set_option maxHeartbeats 4000000 in
theorem rresponse_yes (O : Nat → Prop) (g : Nat) (q : Parts) (fs : List Fl) (w : World) (h : RRdr w O true g (.done q fs)) (hl : fs.length ≤ 1048576) :
    Calls Tryd.prog 22 #[.pointer (some ⟨g, 0, none⟩)] w (ResPost (q, fs, 0) w) := by
  obtain ⟨n, o, f, fv, hb, hf, _, _⟩ := h
  obtain ⟨A, hA⟩ : ∃ A, A = Obj.cells #[.int .i64 0, .int .i64 0, .string ⟨#[]⟩, .slice none 0 0] 31 := ⟨_, rfl⟩
  obtain ⟨B, hB⟩ : ∃ B, B = Obj.cells #[.int .i64 q.m, .int .i64 q.c, .string q.a, .slice none 0 0] 31 := ⟨_, rfl⟩
  obtain ⟨C, hC⟩ : ∃ C, C = Obj.cells #[] 56 := ⟨_, rfl⟩
  have s1 : (w.alloc A).heap.size = w.heap.size + 1 := by simp
  have s2 : ((w.alloc A).alloc B).heap.size = w.heap.size + 1 + 1 := by simp
  have s3 : (((w.alloc A).alloc B).alloc C).heap.size = w.heap.size + 1 + 1 + 1 := by simp
  have hbel : Below w.heap.size w (((w.alloc A).alloc B).alloc C) := (((Below.refl _ w).alloc (Nat.le_refl _) A).alloc (by omega) B).alloc (by omega) C
  have hAB := new_block w A
  have hBB := new_block (w.alloc A) B
  rw [s1] at hBB
  have hA3 : (((w.alloc A).alloc B).alloc C).heap[w.heap.size]? = some A := (old_block _ _ (by omega)).trans ((old_block _ _ (by omega)).trans hAB)
  have hB3 : (((w.alloc A).alloc B).alloc C).heap[w.heap.size + 1]? = some B := (old_block _ _ (by omega)).trans hBB
  have hW : (((w.alloc A).alloc B).alloc C).ownsRow (w.heap.size + 1 + 1) 56 2 (.slice (some ⟨w.heap.size + 1 + 1, 0, none⟩) 0 0) 0 [] := by
    have h := World.ownsRow_lit (base := w.heap.size + 1 + 1) (e := 56) (size := 2) ((w.alloc A).alloc B) #[] 0 (by omega) (Nat.zero_le _) rfl
    rw [s2, ← hC] at h
    exact h
  have c0 := rblk_at hb 0 (x := .bool true) rfl
  have c4 := rblk_at hb 8 (x := .int .i64 q.m) rfl
  have c5 := rblk_at hb 9 (x := .int .i64 q.c) rfl
  have c6 := rblk_at hb 10 (x := .string q.a) rfl
  have c7 := rblk_at hb 11 (x := .slice none 0 0) rfl
  have c13 := rblk_at hb 13 (x := .bool true) rfl
  have c14 := rblk_at hb 14 (x := .int .i64 0) rfl
  have hgl := block_lt hb
  have c12' : (((w.alloc A).alloc B).alloc C).cell? ⟨g, 12, none⟩ = some fv := rblk_at (w := ((w.alloc A).alloc B).alloc C) ((hbel.block g hgl).trans hb) 12 rfl
  have HW := Lib.hid hW
  have HA3 := Lib.hid hA3
  have HB3 := Lib.hid hB3
  have HBel := Lib.hid hbel
  have HS3 := Lib.hid s3
  have HF := Lib.hid (owns_kept hf (w' := ((w.alloc A).alloc B).alloc C) hbel)
  obtain ⟨i0, hi, hz0, hz1, hz2⟩ := info_parts infoField
  have hOW : ∀ X Y, (((w.alloc X).alloc Y).alloc C).ownsRow w.heap.size 56 2 (.slice (some ⟨w.heap.size + 1 + 1, 0, none⟩) 0 0) 0 [] := fun X Y => by
    have s : ((w.alloc X).alloc Y).heap.size = w.heap.size + 1 + 1 := by simp
    have h := World.ownsRow_lit (base := w.heap.size) (e := 56) (size := 2) ((w.alloc X).alloc Y) #[] 0 (by omega) (Nat.zero_le _) rfl
    rw [s, ← hC] at h
    exact h
  subst hA hB hC
  have HOW := Lib.hid hOW
  clear hOW
  have hen : w.heap.size + 1 ≠ w.heap.size := by omega
  have hne : w.heap.size ≠ w.heap.size + 1 := by omega
  obtain ⟨r0, r1, r2, r3⟩ := four hA3
  have e0 := free hA3 0
  have e1 := free hA3 1
  have e2 := free hA3 2
  have e3 := free hA3 3
  obtain ⟨t0, t1, t2, t3⟩ := four hB3
  have ft := free hB3 3
  clear hAB hBB hA3 hB3 hW hbel s1 s2 s3
  rcases hf.2 with ⟨rfl, h0⟩ | ⟨k, cap, cur, hv, _, hh, hlc, hcm, hcs, htk⟩
  · obtain rfl : fs = [] := List.length_eq_zero_iff.1 h0
    clear hf hb h0
    go_enter Tryd.func22, Tryd.ntmps22
    go_wp2_with fail
    refine bodyPost_ret (results_pair rfl _ _ w.heap.size 31 _ (0, 0) _ rfl ((old_block _ _ (by simp; omega)).trans ((old_block _ _ (by simp)).trans (new_block _ _))) Tryd.underlying31 rfl infoRes) rfl ?_
    exact ⟨_, rfl, HOW.out _ _, (((Below.refl _ w).alloc (Nat.le_refl _) _).alloc (by simp) _).alloc (by simp; omega) _⟩
  · subst hv
    have HN := Lib.hid (World.ownsRow.cells HF.out (g := k) rfl)
    clear hf hb hh htk hcs r0 r1 r2 r3 e0 e1 e2 e3 t0 t1 t2 t3 ft
    go_enter Tryd.func22, Tryd.ntmps22
    go_wp2_with (at_builtin; refine wpList_append_own _ rfl _ _ 27 rfl (w.heap.size + 1 + 1) 56 i0 (.agg #[.string ⟨#[]⟩, .string ⟨#[]⟩]) 2 32 Tryd.underlying27 hi hz0 hz1 hz2 rfl (by decide) _ _ _ rfl HW.out ⟨k, 0, none⟩ fs.length cap (flat fs) rfl (flat_length _) HN.out (fun y hy => flat_one _ y hy) (by unfold maxLen; omega) (by omega) (by rw [HS3.out]; omega) ?_; intro v' w6 hown' hgrow hnil; have HO6 := Lib.hid (show OwnF w6 (w.heap.size + 1 + 1) v' fs from by unfold OwnF; rw [Nat.zero_add, List.nil_append] at hown'; exact hown'); obtain ⟨va, vc, hv'⟩ := OwnF.form HO6.out; subst hv'; have HB6 := Lib.hid (HBel.out.grown hgrow HBel.out.size (fun k hk => by injection hk with hk; have hk' : w.heap.size + 1 + 1 = k := hk; omega)); have hq6 := (Below.refl (w.heap.size + 1 + 1) _).grown hgrow (by rw [HS3.out]; omega) (fun k hk => by injection hk with hk; have hk' : w.heap.size + 1 + 1 = k := hk; omega); have HA6 := Lib.hid (Bl.old hq6 (by omega) HA3.out); have HC6 := Lib.hid (Bl.old hq6 (by omega) HB3.out); obtain ⟨r0, r1, r2, r3⟩ := four HA6.out; have e0 := free HA6.out 0; have e1 := free HA6.out 1; have e2 := free HA6.out 2; have e3 := free HA6.out 3; obtain ⟨t0, t1, t2, t3⟩ := four HC6.out; have ft := free HC6.out 3; clear hown' hgrow hnil hq6)
    refine bodyPost_ret (results_pair rfl _ _ w.heap.size 31 _ (0, 0) _ rfl (put4 (put_far (a := ⟨w.heap.size + 1, 3, none⟩) (v := .slice va fs.length vc) HA6.out (by show w.heap.size ≠ w.heap.size + 1; exact hne)) _ _ _ _) Tryd.underlying31 rfl infoRes) rfl ?_
    refine ⟨_, rfl, ?_, put4_below (HB6.out.setCell (p := ⟨w.heap.size + 1, 3, none⟩) (by show w.heap.size ≤ w.heap.size + 1; omega) _) (Nat.le_refl _) _ _ _ _⟩
    refine owns_mono (row_same HO6.out fun j hj => ?_) (by omega)
    have hj2 := (World.ownsRow.lt HO6.out j hj).1
    exact put_far (put_far (put_far (put_far (put_far rfl (by show j ≠ w.heap.size + 1; omega)) (by show j ≠ w.heap.size; omega)) (by show j ≠ w.heap.size; omega)) (by show j ≠ w.heap.size; omega)) (by show j ≠ w.heap.size; omega)
theorem rrequest_any (O : Nat → Prop) (resp : Bool) (g : Nat) (s : St) (w : World) (h : RRdr w O resp g s) (hG : Good s) :
    Calls Tryd.prog 20 #[.pointer (some ⟨g, 0, none⟩)] w (ReqPost (headOf resp (resp == false) s) w) := by
  cases hn : (doneOf s && resp == false) with
  | false => exact rrequest_no O resp g s w h hn
  | true =>
    cases s with
    | on => simp [doneOf] at hn
    | bad => simp [doneOf] at hn
    | done q fs =>
      have hr : resp = false := by cases resp <;> simp [doneOf] at hn ⊢
      subst hr
      exact rrequest_yes O g q fs w h (by have := hG.1; omega)
theorem rresponse_any (O : Nat → Prop) (resp : Bool) (g : Nat) (s : St) (w : World) (h : RRdr w O resp g s) (hG : Good s) :
    Calls Tryd.prog 22 #[.pointer (some ⟨g, 0, none⟩)] w (ResPost (headOf resp (resp == true) s) w) := by
  cases hn : (doneOf s && resp == true) with
  | false => exact rresponse_no O resp g s w h hn
  | true =>
    cases s with
    | on => simp [doneOf] at hn
    | bad => simp [doneOf] at hn
    | done q fs =>
      have hr : resp = true := by cases resp <;> simp [doneOf] at hn ⊢
      subst hr
      exact rresponse_yes O g q fs w h (by have := hG.1; omega)
end Go.Proofs.YtoofdompafkddaaDoor.Hd
/-
  gatepostref04.Same at two slices that read as the same fields: true. Condition: at most 2^40 fields.
-/
namespace Go.Proofs.YtoofdompafkddaaDoor.Fd
open Go.RowKit Tk
set_option linter.unusedVariables false

set_option maxHeartbeats 2000000 in
theorem sameL_any (v u : Value) (fs : List Fl) (w : World) (hv : Flds w v fs) (hu : Flds w u fs) (hl : fs.length ≤ 1099511627776) :
    Calls Tryd.prog 51 #[v, u] w fun e w' => e = .returned (.bool true) ∧ ∃ n, w' = w.drewN n := by
  by_cases h0 : fs.length = 0
  · obtain rfl : fs = [] := List.length_eq_zero_iff.1 h0
    obtain ⟨a, cap, rfl⟩ := hv.shape
    obtain ⟨b, cap2, rfl⟩ := hu.shape
    clear hv hu h0
    go_enter Tryd.func51, Tryd.ntmps51
    go_wp2_with fail
    refine wp_loop_rounds 1 ?_
    rw [rounds_succ]
    go_wp2_with fail
    go_ret
    exact ⟨rfl, 0, rfl⟩
  · rcases hv with ⟨h, _⟩ | ⟨g, off, cap, rfl, _, hc⟩
    · rw [h] at h0; exact absurd rfl h0
    rcases hu with ⟨h, _⟩ | ⟨g2, off2, cap2, rfl, _, hc2⟩
    · rw [h] at h0; exact absurd rfl h0
    have hne : ((fs.length : Int) != (fs.length : Int)) = false := by simp
    have HC := Lib.hid hc
    have HC2 := Lib.hid hc2
    clear hc hc2 h0
    go_enter Tryd.func51, Tryd.ntmps51
    go_wp2_with fail
    go_loopw [5] (fun i wr => ∃ k : Nat, k ≤ fs.length ∧ i = .int .i64 (k : Int) ∧ ∃ n, wr = w.drewN n) (fun i _ => fs.length - (intOf i).toNat)
    case atStart => exact ⟨0, Nat.zero_le _, rfl, ⟨0, rfl⟩⟩
    case round =>
      obtain ⟨k, hk, rfl, n, hw⟩ := hrel
      have HW := Lib.hid hw
      by_cases hlt : k < fs.length
      · have c1 : wr.cell? ⟨g, off + k * 2, none⟩ = some (.string fs[k].1) := by rw [hw]; exact (HC.out k hlt).1
        have c2 : wr.cell? ⟨g, off + k * 2 + 1, none⟩ = some (.string fs[k].2) := by rw [hw]; exact (HC.out k hlt).2
        have d1 : wr.cell? ⟨g2, off2 + k * 2, none⟩ = some (.string fs[k].1) := by rw [hw]; exact (HC2.out k hlt).1
        have d2 : wr.cell? ⟨g2, off2 + k * 2 + 1, none⟩ = some (.string fs[k].2) := by rw [hw]; exact (HC2.out k hlt).2
        obtain ⟨x, hx⟩ : ∃ x, x = fs[k].1 := ⟨_, rfl⟩
        obtain ⟨y, hy⟩ : ∃ y, y = fs[k].2 := ⟨_, rfl⟩
        rw [← hx] at c1 d1
        rw [← hy] at c2 d2
        have ht : (!(x.toList == x.toList)) = false := by simp
        have hu : (!(y.toList == y.toList)) = false := by simp
        clear hx hy hw
        go_wp2_with fail
        go_quiet (fail)
        go_wp2_with fail
        go_roundw
        case rel => exact ⟨k + 1, by omega, by go_num, _, by rw [HW.out, World.drewN_drewN]⟩
        case measure => simp [intOf]; omega
      · clear hw
        go_wp2_with fail
        go_ret
        exact ⟨rfl, n, HW.out⟩
end Go.Proofs.YtoofdompafkddaaDoor.Fd
/-
  gatepostref05's SameRequest and SameResponse at two heads of the same parts and fields: true.
-/
namespace Go.Proofs.YtoofdompafkddaaDoor.Hd
open Go.RowKit Go.Proofs.YtoofdompafkddaaDoor.Tk Go.Proofs.YtoofdompafkddaaDoor.Fd
set_option linter.unusedVariables false

set_option maxRecDepth 100000 in
set_option maxHeartbeats 2000000 in
theorem sameReq_any (H : Parts × List Fl × Nat) (v u : Value) (w : World) (hv : Flds w v H.2.1) (hu : Flds w u H.2.1) (hl : H.2.1.length ≤ 1099511627776) :
    Calls Tryd.prog 23 #[.agg #[.string H.1.a, .string H.1.b, .int .i64 H.1.m, v], .agg #[.string H.1.a, .string H.1.b, .int .i64 H.1.m, u]] w fun e w' => e = .returned (.bool true) ∧ Below w.heap.size w w' := by
  obtain ⟨q, fs, er⟩ := H
  have HV := Lib.hid hv
  have HU := Lib.hid hu
  obtain ⟨va, vc, hv1⟩ := hv.shape
  obtain ⟨ua, uc, hu1⟩ := hu.shape
  obtain ⟨x, hx⟩ : ∃ x, x = q.a := ⟨_, rfl⟩
  obtain ⟨y, hy⟩ : ∃ y, y = q.b := ⟨_, rfl⟩
  obtain ⟨m, hm⟩ : ∃ m, m = q.m := ⟨_, rfl⟩
  obtain ⟨c, hc⟩ : ∃ c, c = q.c := ⟨_, rfl⟩
  simp only [← hx, ← hy, ← hm]
  have e1 : (x.toList == x.toList) = true := by simp
  have e2 : (y.toList == y.toList) = true := by simp
  have e3 : (m == m) = true := by simp
  have e4 : (c == c) = true := by simp
  have HB := Lib.hid (fun (o1 o2 : Obj) => ((Below.refl w.heap.size w).alloc (Nat.le_refl _) o1).alloc (by simp) o2)
  have HN := Lib.hid (fun (o1 o2 : Obj) (n : Nat) => (show Below w.heap.size w (((w.alloc o1).alloc o2).drewN n) from ⟨(HB.out o1 o2).os, (HB.out o1 o2).tape, (HB.out o1 o2).output, (HB.out o1 o2).size, (HB.out o1 o2).block⟩))
  subst hv1 hu1
  clear hv hu hx hy hm hc
  go_enter Tryd.func23, Tryd.ntmps23
  go_wp2_with fail
  refine (sameL_any _ _ fs _ (HV.out.below (HB.out _ _) (Nat.le_refl _)) (HU.out.below (HB.out _ _) (Nat.le_refl _)) hl).mono ?_
  rintro e w' ⟨rfl, n, rfl⟩
  go_wp2_with fail
  go_ret
  exact ⟨rfl, HN.out _ _ _⟩
set_option maxRecDepth 100000 in
set_option maxHeartbeats 2000000 in
theorem sameRes_any (H : Parts × List Fl × Nat) (v u : Value) (w : World) (hv : Flds w v H.2.1) (hu : Flds w u H.2.1) (hl : H.2.1.length ≤ 1099511627776) :
    Calls Tryd.prog 24 #[.agg #[.int .i64 H.1.m, .int .i64 H.1.c, .string H.1.a, v], .agg #[.int .i64 H.1.m, .int .i64 H.1.c, .string H.1.a, u]] w fun e w' => e = .returned (.bool true) ∧ Below w.heap.size w w' := by
  obtain ⟨q, fs, er⟩ := H
  have HV := Lib.hid hv
  have HU := Lib.hid hu
  obtain ⟨va, vc, hv1⟩ := hv.shape
  obtain ⟨ua, uc, hu1⟩ := hu.shape
  obtain ⟨x, hx⟩ : ∃ x, x = q.a := ⟨_, rfl⟩
  obtain ⟨y, hy⟩ : ∃ y, y = q.b := ⟨_, rfl⟩
  obtain ⟨m, hm⟩ : ∃ m, m = q.m := ⟨_, rfl⟩
  obtain ⟨c, hc⟩ : ∃ c, c = q.c := ⟨_, rfl⟩
  simp only [← hx, ← hm, ← hc]
  have e1 : (x.toList == x.toList) = true := by simp
  have e2 : (y.toList == y.toList) = true := by simp
  have e3 : (m == m) = true := by simp
  have e4 : (c == c) = true := by simp
  have HB := Lib.hid (fun (o1 o2 : Obj) => ((Below.refl w.heap.size w).alloc (Nat.le_refl _) o1).alloc (by simp) o2)
  have HN := Lib.hid (fun (o1 o2 : Obj) (n : Nat) => (show Below w.heap.size w (((w.alloc o1).alloc o2).drewN n) from ⟨(HB.out o1 o2).os, (HB.out o1 o2).tape, (HB.out o1 o2).output, (HB.out o1 o2).size, (HB.out o1 o2).block⟩))
  subst hv1 hu1
  clear hv hu hx hy hm hc
  go_enter Tryd.func24, Tryd.ntmps24
  go_wp2_with fail
  refine (sameL_any _ _ fs _ (HV.out.below (HB.out _ _) (Nat.le_refl _)) (HU.out.below (HB.out _ _) (Nat.le_refl _)) hl).mono ?_
  rintro e w' ⟨rfl, n, rfl⟩
  go_wp2_with fail
  go_ret
  exact ⟨rfl, HN.out _ _ _⟩
end Go.Proofs.YtoofdompafkddaaDoor.Hd
