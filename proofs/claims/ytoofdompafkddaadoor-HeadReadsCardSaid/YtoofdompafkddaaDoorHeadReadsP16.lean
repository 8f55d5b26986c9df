/-
  Texts that the law's proof stands on, 4 of them in one file; each one's head says what it proves and under which condition.
-/
import Derived.Test.YtoofdompafkddaaDoorHeadReadsP11
import Derived.Test.YtoofdompafkddaaDoorHeadReadsP15
import Derived.Deep.DeepCutAuto
import Derived.Deep.RegionHeld3
import Derived.Test.YtoofdompafkddaaDoorHeadReadsP12
import Derived.RegionTactic
import Derived.Test.YtoofdompafkddaaDoorHeadReadsP13
/-
  The reference's reader in memory; a line that ended: what it leaves. Conditions: fields of at most 8192 bytes in all.
-/
namespace Go.Proofs.YtoofdompafkddaaDoor.Hd
open Go.RowKit Go.Proofs.YtoofdompafkddaaDoor.Tk Go.Proofs.YtoofdompafkddaaDoor.Fd Go.Proofs.YtoofdompafkddaaDoor.Ln
set_option linter.unusedVariables false

/-- The reference's cells. -/
def rr (resp : Bool) (n : Nat) (o : ByteArray) (f : Bool) (q : Parts) (fv : Value) (d : Bool) (e : Nat) : Array Value :=
  #[.bool resp, .int .i64 (n : Int), .string o, .bool f, .string (qA resp q), .string (qB resp q), .int .i64 (qM resp q), .slice none 0 0,
    .int .i64 (sM resp q), .int .i64 (sC resp q), .string (sA resp q), .slice none 0 0, fv, .bool d, .int .i64 (e : Int)]
def RBlk (w : World) (g : Nat) (cs : Array Value) : Prop := w.heap[g]? = some (.cells cs 33 (0, 0))
def RRdr (w : World) (O : Nat → Prop) (resp : Bool) (g : Nat) : St → Prop
  | .on p l n fs => ∃ fv, RBlk w g (rr resp n (txt l) p.isSome (p.getD .none) fv false 0) ∧ OwnF w 0 fv fs ∧ O g ∧ ∀ k, fv.ownBlock = some k → O k
  | .done q fs => ∃ n o f fv, RBlk w g (rr resp n o f q fv true 0) ∧ OwnF w 0 fv fs ∧ O g ∧ ∀ k, fv.ownBlock = some k → O k
  | .bad e => ∃ n o f q fv, RBlk w g (rr resp n o f q fv false e) ∧ O g
theorem RRdr.mono {w : World} {O O' : Nat → Prop} {resp : Bool} {g : Nat} {s : St} (h : RRdr w O resp g s) (hO : ∀ k, O k → O' k) : RRdr w O' resp g s := by
  cases s with
  | on p l n fs => obtain ⟨fv, hb, hf, hg, ho⟩ := h; exact ⟨fv, hb, hf, hO _ hg, fun k hk => hO _ (ho k hk)⟩
  | done q fs => obtain ⟨n, o, f, fv, hb, hf, hg, ho⟩ := h; exact ⟨n, o, f, fv, hb, hf, hO _ hg, fun k hk => hO _ (ho k hk)⟩
  | bad e => obtain ⟨n, o, f, q, fv, hb, hg⟩ := h; exact ⟨n, o, f, q, fv, hb, hO _ hg⟩
theorem RRdr.kept {w w' : World} {O O' : Nat → Prop} {resp : Bool} {g : Nat} {s : St} (h : RRdr w O resp g s) (hc : Chg O' w w') (hd : ∀ k, O k → ¬ O' k) : RRdr w' O resp g s := by
  cases s with
  | on p l n fs => obtain ⟨fv, hb, hf, hg, ho⟩ := h; exact ⟨fv, hc.old (hd _ hg) hb, row_chg hf hc ho hd, hg, ho⟩
  | done q fs => obtain ⟨n, o, f, fv, hb, hf, hg, ho⟩ := h; exact ⟨n, o, f, fv, hc.old (hd _ hg) hb, row_chg hf hc ho hd, hg, ho⟩
  | bad e => obtain ⟨n, o, f, q, fv, hb, hg⟩ := h; exact ⟨n, o, f, q, fv, hc.old (hd _ hg) hb, hg⟩
theorem RRdr.below {w w' : World} {O : Nat → Prop} {resp : Bool} {g : Nat} {s : St} (h : RRdr w O resp g s) (hb : Below w.heap.size w w') : RRdr w' O resp g s :=
  h.kept (O' := fun _ => False) (Chg.of_below hb) (fun _ _ hf => hf)
theorem RRdr.bound {w : World} {O : Nat → Prop} {resp : Bool} {g : Nat} {s : St} (h : RRdr w O resp g s) : RRdr w (fun k => O k ∧ k < w.heap.size) resp g s := by
  cases s with
  | on p l n fs => obtain ⟨fv, hb, hf, hg, ho⟩ := h; exact ⟨fv, hb, hf, ⟨hg, block_lt hb⟩, fun k hk => ⟨ho k hk, (World.ownsRow.lt hf k hk).2⟩⟩
  | done q fs => obtain ⟨n, o, f, fv, hb, hf, hg, ho⟩ := h; exact ⟨n, o, f, fv, hb, hf, ⟨hg, block_lt hb⟩, fun k hk => ⟨ho k hk, (World.ownsRow.lt hf k hk).2⟩⟩
  | bad e => obtain ⟨n, o, f, q, fv, hb, hg⟩ := h; exact ⟨n, o, f, q, fv, hb, hg, block_lt hb⟩
theorem rblk_at {w : World} {g : Nat} {cs : Array Value} (h : RBlk w g cs) (j : Nat) {x : Value} (e : cs[j]? = some x) : w.cell? ⟨g, j, none⟩ = some x := by rw [Lib.cell_of_heap h]; exact e
theorem rblk_free {w : World} {g : Nat} {cs : Array Value} (h : RBlk w g cs) (j : Nat) : w.frozen? ⟨g, j, none⟩ = false := free h j
theorem rblk_put {w : World} {g : Nat} {cs : Array Value} (h : RBlk w g cs) (i : Nat) (x : Value) : RBlk (w.setCell ⟨g, i, none⟩ x) g (cs.setIfInBounds i x) := heap_put h i x

/-- What a line that ended leaves. -/
def REnd (O : Nat → Prop) (resp : Bool) (g : Nat) (st : St) (w : World) (e : Ending) (w' : World) : Prop := e = .returned (.tuple #[]) ∧ RRdr w' (New O w) resp g st ∧ Chg O w w'

set_option maxRecDepth 100000 in
set_option maxHeartbeats 4000000 in
theorem rended_skip (O : Nat → Prop) (resp : Bool) (g : Nat) (n : Nat) (fs : List Fl) (w : World) (h : RRdr w O resp g (.on none [] n fs)) :
    Calls Tryd.prog 48 #[.pointer (some ⟨g, 0, none⟩), .string ⟨#[]⟩] w (REnd O resp g (.on none [] n fs) w) := by
  have HR := Lib.hid (h.mono (O' := New O w) (fun k hk => .inl hk))
  obtain ⟨fv, hb, _⟩ := h
  have c3 := rblk_at hb 3 (x := .bool false) rfl
  clear hb
  go_enter Tryd.func48, Tryd.ntmps48
  go_wp2_with fail
  go_end0
  exact ⟨rfl, HR.out, Chg.refl _ _⟩
set_option maxRecDepth 100000 in
set_option maxHeartbeats 4000000 in
theorem rended_last (O : Nat → Prop) (resp : Bool) (g : Nat) (q : Parts) (n : Nat) (fs : List Fl) (w : World) (h : RRdr w O resp g (.on (some q) [] n fs)) :
    Calls Tryd.prog 48 #[.pointer (some ⟨g, 0, none⟩), .string ⟨#[]⟩] w (REnd O resp g (.done q fs) w) := by
  obtain ⟨fv, hb, hf, hg, ho⟩ := h
  have c3 := rblk_at hb 3 (x := .bool true) rfl
  have c13 := rblk_at hb 13 (x := .bool false) rfl
  have f13 := rblk_free hb 13
  have HB := Lib.hid (rblk_put hb 13 (.bool true))
  have HF := Lib.hid (row_apart hb (by decide) hf ((Chg.refl (fun k => k = g) w).put ⟨g, 13, none⟩ (.bool true) (.inl rfl)))
  clear hb hf
  go_enter Tryd.func48, Tryd.ntmps48
  go_wp2_with fail
  go_end0
  exact ⟨rfl, ⟨n, _, _, fv, HB.out, HF.out, .inl hg, fun k hk => .inl (ho k hk)⟩, (Chg.refl _ _).put _ _ (.inl hg)⟩
set_option maxRecDepth 100000 in
set_option maxHeartbeats 4000000 in
theorem rended_full (O : Nat → Prop) (resp : Bool) (g : Nat) (q : Parts) (n : Nat) (fs : List Fl) (t : ByteArray) (w : World) (h : RRdr w O resp g (.on (some q) [] n fs)) (hl : fs.length = 64) (ht : 0 < t.size) :
    Calls Tryd.prog 48 #[.pointer (some ⟨g, 0, none⟩), .string t] w (REnd O resp g (.bad 3) w) := by
  have ht0 : t.toList.isEmpty = false := text_full ht
  obtain ⟨fv, hb, hf, hg, ho⟩ := h
  obtain ⟨a, c, hfv⟩ := OwnF.form hf
  subst hfv
  have hB : RBlk w g (rr resp n (txt []) true q (.slice a 64 c) false 0) := by rw [hl] at hb; exact hb
  have c3 := rblk_at hB 3 (x := .bool true) rfl
  have c12 := rblk_at hB 12 (x := .slice a 64 c) rfl
  have c14 := rblk_at hB 14 (x := .int .i64 0) rfl
  have f14 := rblk_free hB 14
  have HB := Lib.hid (rblk_put hB 14 (.int .i64 3))
  clear hb hf hB ho
  go_enter Tryd.func48, Tryd.ntmps48
  go_wp2_with fail
  go_end0
  exact ⟨rfl, ⟨n, _, _, q, _, HB.out, .inl hg⟩, (Chg.refl _ _).put _ _ (.inl hg)⟩
end Go.Proofs.YtoofdompafkddaaDoor.Hd
/-
  The reference's ended: what it leaves at any line. Conditions: fields of at most 8192 bytes in all.
-/
namespace Go.Proofs.YtoofdompafkddaaDoor.Hd
open Go.RowKit Go.Proofs.YtoofdompafkddaaDoor.Tk Go.Proofs.YtoofdompafkddaaDoor.Fd Go.Proofs.YtoofdompafkddaaDoor.Ln
set_option linter.unusedVariables false

theorem rr_putQ {w : World} {g n : Nat} {o : ByteArray} {f : Bool} {q : Parts} {fv : Value} {d : Bool} {e : Nat} (h0 : RBlk w g (rr false n o f q fv d e)) (R : Parts) (m : Nat) :
    RBlk (((((w.setCell ⟨g, 4, none⟩ (.string R.a)).setCell ⟨g, 5, none⟩ (.string R.b)).setCell ⟨g, 6, none⟩ (.int .i64 R.m)).setCell ⟨g, 14, none⟩ (.int .i64 (m : Int))).setCell ⟨g, 3, none⟩ (.bool true)) g (rr false n o true R fv d m) := by
  have h0 : w.heap[g]? = some (.cells #[.bool false, .int .i64 (n : Int), .string o, .bool f, .string (qA false q), .string (qB false q), .int .i64 (qM false q), .slice none 0 0, .int .i64 (sM false q), .int .i64 (sC false q), .string (sA false q), .slice none 0 0, fv, .bool d, .int .i64 (e : Int)] 33 (0, 0)) := h0
  have h1 : (w.setCell ⟨g, 4, none⟩ (.string R.a)).heap[g]? = some (.cells #[.bool false, .int .i64 (n : Int), .string o, .bool f, .string R.a, .string (qB false q), .int .i64 (qM false q), .slice none 0 0, .int .i64 (sM false q), .int .i64 (sC false q), .string (sA false q), .slice none 0 0, fv, .bool d, .int .i64 (e : Int)] 33 (0, 0)) := heap_put h0 4 _
  have h2 : ((w.setCell ⟨g, 4, none⟩ (.string R.a)).setCell ⟨g, 5, none⟩ (.string R.b)).heap[g]? = some (.cells #[.bool false, .int .i64 (n : Int), .string o, .bool f, .string R.a, .string R.b, .int .i64 (qM false q), .slice none 0 0, .int .i64 (sM false q), .int .i64 (sC false q), .string (sA false q), .slice none 0 0, fv, .bool d, .int .i64 (e : Int)] 33 (0, 0)) := heap_put h1 5 _
  have h3 : (((w.setCell ⟨g, 4, none⟩ (.string R.a)).setCell ⟨g, 5, none⟩ (.string R.b)).setCell ⟨g, 6, none⟩ (.int .i64 R.m)).heap[g]? = some (.cells #[.bool false, .int .i64 (n : Int), .string o, .bool f, .string R.a, .string R.b, .int .i64 R.m, .slice none 0 0, .int .i64 (sM false q), .int .i64 (sC false q), .string (sA false q), .slice none 0 0, fv, .bool d, .int .i64 (e : Int)] 33 (0, 0)) := heap_put h2 6 _
  have h4 : ((((w.setCell ⟨g, 4, none⟩ (.string R.a)).setCell ⟨g, 5, none⟩ (.string R.b)).setCell ⟨g, 6, none⟩ (.int .i64 R.m)).setCell ⟨g, 14, none⟩ (.int .i64 (m : Int))).heap[g]? = some (.cells #[.bool false, .int .i64 (n : Int), .string o, .bool f, .string R.a, .string R.b, .int .i64 R.m, .slice none 0 0, .int .i64 (sM false q), .int .i64 (sC false q), .string (sA false q), .slice none 0 0, fv, .bool d, .int .i64 (m : Int)] 33 (0, 0)) := heap_put h3 14 _
  have h5 : (((((w.setCell ⟨g, 4, none⟩ (.string R.a)).setCell ⟨g, 5, none⟩ (.string R.b)).setCell ⟨g, 6, none⟩ (.int .i64 R.m)).setCell ⟨g, 14, none⟩ (.int .i64 (m : Int))).setCell ⟨g, 3, none⟩ (.bool true)).heap[g]? = some (.cells #[.bool false, .int .i64 (n : Int), .string o, .bool true, .string R.a, .string R.b, .int .i64 R.m, .slice none 0 0, .int .i64 (sM false q), .int .i64 (sC false q), .string (sA false q), .slice none 0 0, fv, .bool d, .int .i64 (m : Int)] 33 (0, 0)) := heap_put h4 3 _
  exact h5
theorem rr_putS {w : World} {g n : Nat} {o : ByteArray} {f : Bool} {q : Parts} {fv : Value} {d : Bool} {e : Nat} (h0 : RBlk w g (rr true n o f q fv d e)) (R : Parts) (m : Nat) :
    RBlk (((((w.setCell ⟨g, 8, none⟩ (.int .i64 R.m)).setCell ⟨g, 9, none⟩ (.int .i64 R.c)).setCell ⟨g, 10, none⟩ (.string R.a)).setCell ⟨g, 14, none⟩ (.int .i64 (m : Int))).setCell ⟨g, 3, none⟩ (.bool true)) g (rr true n o true R fv d m) := by
  have h0 : w.heap[g]? = some (.cells #[.bool true, .int .i64 (n : Int), .string o, .bool f, .string (qA true q), .string (qB true q), .int .i64 (qM true q), .slice none 0 0, .int .i64 (sM true q), .int .i64 (sC true q), .string (sA true q), .slice none 0 0, fv, .bool d, .int .i64 (e : Int)] 33 (0, 0)) := h0
  have h1 : (w.setCell ⟨g, 8, none⟩ (.int .i64 R.m)).heap[g]? = some (.cells #[.bool true, .int .i64 (n : Int), .string o, .bool f, .string (qA true q), .string (qB true q), .int .i64 (qM true q), .slice none 0 0, .int .i64 R.m, .int .i64 (sC true q), .string (sA true q), .slice none 0 0, fv, .bool d, .int .i64 (e : Int)] 33 (0, 0)) := heap_put h0 8 _
  have h2 : ((w.setCell ⟨g, 8, none⟩ (.int .i64 R.m)).setCell ⟨g, 9, none⟩ (.int .i64 R.c)).heap[g]? = some (.cells #[.bool true, .int .i64 (n : Int), .string o, .bool f, .string (qA true q), .string (qB true q), .int .i64 (qM true q), .slice none 0 0, .int .i64 R.m, .int .i64 R.c, .string (sA true q), .slice none 0 0, fv, .bool d, .int .i64 (e : Int)] 33 (0, 0)) := heap_put h1 9 _
  have h3 : (((w.setCell ⟨g, 8, none⟩ (.int .i64 R.m)).setCell ⟨g, 9, none⟩ (.int .i64 R.c)).setCell ⟨g, 10, none⟩ (.string R.a)).heap[g]? = some (.cells #[.bool true, .int .i64 (n : Int), .string o, .bool f, .string (qA true q), .string (qB true q), .int .i64 (qM true q), .slice none 0 0, .int .i64 R.m, .int .i64 R.c, .string R.a, .slice none 0 0, fv, .bool d, .int .i64 (e : Int)] 33 (0, 0)) := heap_put h2 10 _
  have h4 : ((((w.setCell ⟨g, 8, none⟩ (.int .i64 R.m)).setCell ⟨g, 9, none⟩ (.int .i64 R.c)).setCell ⟨g, 10, none⟩ (.string R.a)).setCell ⟨g, 14, none⟩ (.int .i64 (m : Int))).heap[g]? = some (.cells #[.bool true, .int .i64 (n : Int), .string o, .bool f, .string (qA true q), .string (qB true q), .int .i64 (qM true q), .slice none 0 0, .int .i64 R.m, .int .i64 R.c, .string R.a, .slice none 0 0, fv, .bool d, .int .i64 (m : Int)] 33 (0, 0)) := heap_put h3 14 _
  have h5 : (((((w.setCell ⟨g, 8, none⟩ (.int .i64 R.m)).setCell ⟨g, 9, none⟩ (.int .i64 R.c)).setCell ⟨g, 10, none⟩ (.string R.a)).setCell ⟨g, 14, none⟩ (.int .i64 (m : Int))).setCell ⟨g, 3, none⟩ (.bool true)).heap[g]? = some (.cells #[.bool true, .int .i64 (n : Int), .string o, .bool true, .string (qA true q), .string (qB true q), .int .i64 (qM true q), .slice none 0 0, .int .i64 R.m, .int .i64 R.c, .string R.a, .slice none 0 0, fv, .bool d, .int .i64 (m : Int)] 33 (0, 0)) := heap_put h4 3 _
  exact h5
/-- Where a reader stands behind a first line; behind a field. -/
def firstSt (R : Parts × Nat) (n : Nat) (fs : List Fl) : St := if R.2 = 0 then .on (some R.1) [] n fs else .bad R.2
def fieldSt (q : Parts) (R : Fl × Nat) (n : Nat) (fs : List Fl) : St := if R.2 = 0 then .on (some q) [] n (fs ++ [R.1]) else .bad R.2
theorem rfirst {O : Nat → Prop} {resp : Bool} {g : Nat} {n : Nat} {fs : List Fl} {fv : Value} {t : ByteArray} {w w' : World} (hc : Chg (fun k => k = g) w w') (hb : RBlk w' g (rr resp n (txt []) true (firstOf resp t).1 fv false (firstOf resp t).2)) (hw : ∃ cs, RBlk w g cs) (hf : OwnF w 0 fv fs) (hg : O g) (ho : ∀ k, fv.ownBlock = some k → O k) :
    RRdr w' (New O w) resp g (firstSt (firstOf resp t) n fs) := by
  obtain ⟨cs, hw⟩ := hw
  unfold firstSt
  by_cases h0 : (firstOf resp t).2 = 0
  · rw [if_pos h0]
    rw [h0] at hb
    exact ⟨fv, hb, row_apart hw (by decide) hf hc, .inl hg, fun k hk => .inl (ho k hk)⟩
  · rw [if_neg h0]
    exact ⟨n, _, _, _, fv, hb, .inl hg⟩
set_option maxRecDepth 100000 in
set_option maxHeartbeats 4000000 in
theorem rended_req (O : Nat → Prop) (g : Nat) (n : Nat) (fs : List Fl) (t : ByteArray) (w : World) (h : RRdr w O false g (.on none [] n fs)) (ht : 0 < t.size) :
    Calls Tryd.prog 48 #[.pointer (some ⟨g, 0, none⟩), .string t] w (REnd O false g (firstSt (firstOf false t) n fs) w) := by
  have ht0 : t.toList.isEmpty = false := text_full ht
  obtain ⟨fv, hb, hf, hg, ho⟩ := h
  have HV := Lib.hid (reqVal_of t)
  have HFin := Lib.hid (fun (w' : World) (hc : Chg (fun k => k = g) w w') (hb' : RBlk w' g (rr false n (txt []) true (firstOf false t).1 fv false (firstOf false t).2)) => rfirst (O := O) hc hb' ⟨_, hb⟩ hf hg ho)
  have HE := Lib.hid (show firstOf false t = reqOf t from rfl)
  rw [HE.out] at HFin
  rw [HE.out]
  obtain ⟨R, hR⟩ : ∃ R, R = reqOf t := ⟨_, rfl⟩
  rw [← hR] at HV HFin
  rw [← hR]
  have HB := Lib.hid hb
  have c0 := rblk_at hb 0 (x := .bool false) rfl
  have c3 := rblk_at hb 3 (x := .bool false) rfl
  clear hb hf hR
  go_enter Tryd.func48, Tryd.ntmps48
  go_wp2_with fail
  refine (refRequest_any t _).mono ?_
  rintro e w1 ⟨rfl, m, hw1⟩
  rw [HV.out]
  have hb1 : RBlk w1 g (rr false n (txt []) false .none fv false 0) := by rw [hw1]; exact HB.out
  have HC1 := Lib.hid (show Chg (fun k => k = g) w w1 from by rw [hw1]; exact (Chg.refl _ w).drewN m)
  have d3 := rblk_at hb1 3 (x := .bool false) rfl
  have d4 := rblk_at hb1 4 (x := .string ⟨#[]⟩) rfl
  have d5 := rblk_at hb1 5 (x := .string ⟨#[]⟩) rfl
  have d6 := rblk_at hb1 6 (x := .int .i64 0) rfl
  have d14 := rblk_at hb1 14 (x := .int .i64 0) rfl
  have f3 := rblk_free hb1 3
  have f4 := rblk_free hb1 4
  have f5 := rblk_free hb1 5
  have f6 := rblk_free hb1 6
  have f14 := rblk_free hb1 14
  have HB1 := Lib.hid (rr_putQ hb1 R.1 R.2)
  have HC2 := Lib.hid (((((HC1.out.put ⟨g, 4, none⟩ (.string R.1.a) (.inl rfl)).put ⟨g, 5, none⟩ (.string R.1.b) (.inl rfl)).put ⟨g, 6, none⟩ (.int .i64 R.1.m) (.inl rfl)).put ⟨g, 14, none⟩ (.int .i64 (R.2 : Int)) (.inl rfl)).put ⟨g, 3, none⟩ (.bool true) (.inl rfl))
  clear hw1 hb1
  go_wp2_with fail
  go_end0
  exact ⟨rfl, HFin.out _ HC2.out HB1.out, chg_one HC2.out hg⟩
set_option maxRecDepth 100000 in
set_option maxHeartbeats 4000000 in
theorem rended_res (O : Nat → Prop) (g : Nat) (n : Nat) (fs : List Fl) (t : ByteArray) (w : World) (h : RRdr w O true g (.on none [] n fs)) (ht : 0 < t.size) :
    Calls Tryd.prog 48 #[.pointer (some ⟨g, 0, none⟩), .string t] w (REnd O true g (firstSt (firstOf true t) n fs) w) := by
  have ht0 : t.toList.isEmpty = false := text_full ht
  obtain ⟨fv, hb, hf, hg, ho⟩ := h
  have HV := Lib.hid (stVal_of t)
  have HFin := Lib.hid (fun (w' : World) (hc : Chg (fun k => k = g) w w') (hb' : RBlk w' g (rr true n (txt []) true (firstOf true t).1 fv false (firstOf true t).2)) => rfirst (O := O) hc hb' ⟨_, hb⟩ hf hg ho)
  have HE := Lib.hid (show firstOf true t = stOf t from rfl)
  rw [HE.out] at HFin
  rw [HE.out]
  obtain ⟨R, hR⟩ : ∃ R, R = stOf t := ⟨_, rfl⟩
  rw [← hR] at HV HFin
  rw [← hR]
  have HB := Lib.hid hb
  have c0 := rblk_at hb 0 (x := .bool true) rfl
  have c3 := rblk_at hb 3 (x := .bool false) rfl
  clear hb hf hR
  go_enter Tryd.func48, Tryd.ntmps48
  go_wp2_with fail
  refine (refStatus_any t _).mono ?_
  rintro e w1 ⟨rfl, m, hw1⟩
  rw [HV.out]
  have hb1 : RBlk w1 g (rr true n (txt []) false .none fv false 0) := by rw [hw1]; exact HB.out
  have HC1 := Lib.hid (show Chg (fun k => k = g) w w1 from by rw [hw1]; exact (Chg.refl _ w).drewN m)
  have d3 := rblk_at hb1 3 (x := .bool false) rfl
  have d4 := rblk_at hb1 8 (x := .int .i64 0) rfl
  have d5 := rblk_at hb1 9 (x := .int .i64 0) rfl
  have d6 := rblk_at hb1 10 (x := .string ⟨#[]⟩) rfl
  have d14 := rblk_at hb1 14 (x := .int .i64 0) rfl
  have f3 := rblk_free hb1 3
  have f4 := rblk_free hb1 8
  have f5 := rblk_free hb1 9
  have f6 := rblk_free hb1 10
  have f14 := rblk_free hb1 14
  have HB1 := Lib.hid (rr_putS hb1 R.1 R.2)
  have HC2 := Lib.hid (((((HC1.out.put ⟨g, 8, none⟩ (.int .i64 R.1.m) (.inl rfl)).put ⟨g, 9, none⟩ (.int .i64 R.1.c) (.inl rfl)).put ⟨g, 10, none⟩ (.string R.1.a) (.inl rfl)).put ⟨g, 14, none⟩ (.int .i64 (R.2 : Int)) (.inl rfl)).put ⟨g, 3, none⟩ (.bool true) (.inl rfl))
  clear hw1 hb1
  go_wp2_with fail
  go_end0
  exact ⟨rfl, HFin.out _ HC2.out HB1.out, chg_one HC2.out hg⟩

set_option maxRecDepth 100000 in
set_option maxHeartbeats 4000000 in
theorem rended_field (O : Nat → Prop) (resp : Bool) (g : Nat) (q : Parts) (n : Nat) (fs : List Fl) (t : ByteArray) (w : World) (h : RRdr w O resp g (.on (some q) [] n fs)) (hl : fs.length < 64) (ht : 0 < t.size) (hts : t.size ≤ 70368744177664) :
    Calls Tryd.prog 48 #[.pointer (some ⟨g, 0, none⟩), .string t] w (REnd O resp g (fieldSt q (fldOf t) n fs) w) := by
  have ht0 : t.toList.isEmpty = false := text_full ht
  obtain ⟨i0, hi, hz0, hz1, hz2⟩ := info_parts infoField
  obtain ⟨fv, hb, hf, hg, ho⟩ := h
  have HV := Lib.hid (parseVal_of t)
  obtain ⟨⟨⟨a, b⟩, e0⟩, hR⟩ : ∃ R, R = fldOf t := ⟨_, rfl⟩
  rw [← hR] at HV
  rw [← hR]
  have HF := Lib.hid hf
  obtain ⟨fa, fc, hfv⟩ := hf.form
  subst hfv
  have HB := Lib.hid hb
  have c3 := rblk_at hb 3 (x := .bool true) rfl
  have c12 := rblk_at hb 12 (x := .slice fa fs.length fc) rfl
  have h64 : ¬ ((fs.length : Int) = 64) := by omega
  clear hR hb hf
  go_enter Tryd.func48, Tryd.ntmps48
  go_wp2_with fail
  refine (refParse_any t _ hts).mono ?_
  rintro e w1 ⟨rfl, hb1⟩
  rw [HV.out]
  unfold FV
  have hK1 : RBlk w1 g _ := Bl.old hb1 (block_lt HB.out) HB.out
  have hG1 := block_lt hK1
  have HF1 := Lib.hid (owns_kept HF.out hb1)
  have HC1 := Lib.hid (Chg.of_below (O := O) hb1)
  have d14 := rblk_at hK1 14 (x := .int .i64 0) rfl
  have f14 := rblk_free hK1 14
  have hCg := (Chg.refl (fun k => k = g) w1).put ⟨g, 14, none⟩ (.int .i64 (e0 : Int)) (.inl rfl)
  have HO1 := Lib.hid (row_apart hK1 (by decide) HF1.out hCg)
  have hKp : RBlk (w1.setCell ⟨g, 14, none⟩ (.int .i64 (e0 : Int))) g (rr resp n (txt []) true q (.slice fa fs.length fc) false e0) := rblk_put hK1 14 _
  have hsp : (w1.setCell ⟨g, 14, none⟩ (.int .i64 (e0 : Int))).heap.size = w1.heap.size := by simp [World.setCell]
  have hK2 : RBlk ((w1.setCell ⟨g, 14, none⟩ (.int .i64 (e0 : Int))).alloc (.cells #[.string a, .string b] 56)) g (rr resp n (txt []) true q (.slice fa fs.length fc) false e0) := (old_block _ (.cells #[.string a, .string b] 56) (by rw [hsp]; exact hG1)).trans hKp
  have hN2 := new_block' (w1.setCell ⟨g, 14, none⟩ (.int .i64 (e0 : Int))) (.cells #[.string a, .string b] 56) hsp.symm
  have hO2 := owns_kept HO1.out ((Below.refl _ (w1.setCell ⟨g, 14, none⟩ (.int .i64 (e0 : Int)))).alloc (Nat.le_refl _) (.cells #[.string a, .string b] 56))
  have hC2 := (HC1.out.put ⟨g, 14, none⟩ (.int .i64 (e0 : Int)) (.inl hg)).alloc (.cells #[.string a, .string b] 56)
  have HLT := Lib.hid (fun j hj => (World.ownsRow.lt HF1.out j hj).2)
  obtain ⟨G, hG⟩ : ∃ G, G = w1.heap.size := ⟨_, rfl⟩
  rw [← hG] at hN2
  have HGG := Lib.hid hG
  obtain ⟨w2, hw2⟩ : ∃ w2, w2 = (w1.setCell ⟨g, 14, none⟩ (.int .i64 (e0 : Int))).alloc (.cells #[.string a, .string b] 56) := ⟨_, rfl⟩
  rw [← hw2] at hK2 hN2 hO2 hC2
  have HW2 := Lib.hid hw2
  have HK2 := Lib.hid hK2
  have HN2 := Lib.hid hN2
  have HO2 := Lib.hid hO2
  have HC2 := Lib.hid hC2
  clear hw2 hG hK2 hN2 hO2 hC2 hKp hCg hsp c12 hb1 hK1
  go_upto_region 12 with fail
  rw [← HGG.out, ← HW2.out]
  have hgw : g < w2.heap.size := block_lt HK2.out
  have hGw : G < w2.heap.size := block_lt HN2.out
  have hrg : some g ≠ (Value.slice fa fs.length fc).ownBlock := fun e => by obtain ⟨cu, hcu⟩ := row_type HO2.out e.symm; exact apart_of hcu HK2.out (by decide) rfl
  have hrG : some G ≠ (Value.slice fa fs.length fc).ownBlock := fun e => by
    have h1 := HLT.out G e.symm
    have h2 := HGG.out
    omega
  have HO3 := Lib.hid (fun o => owns_kept HO2.out ((Below.refl w2.heap.size w2).drew.alloc (Nat.le_refl _) o))
  have hK3' : RBlk (w2.drew.alloc (.cells #[.string a, .string b] 56)) g _ := (old_block w2.drew (.cells #[.string a, .string b] 56) (block_lt HK2.out)).trans HK2.out
  have HK3 := Lib.hid hK3'
  have c12 := rblk_at HK2.out 12 (x := .slice fa fs.length fc) rfl
  have c12' : (w2.alloc (.cells #[.string a, .string b] 56)).cell? ⟨g, 12, none⟩ = some (.slice fa fs.length fc) := rblk_at (w := (w2.drew.alloc (.cells #[.string a, .string b] 56))) HK3.out 12 rfl
  have cG0 := two0 HN2.out
  have cG1 := two1 HN2.out
  clear d14 f14 hK3' hG1
  go_region_law ((refine step_append_lies _ (by rfl) _ _ 27 (by rfl) 0 56 i0 (.agg #[.string ⟨#[]⟩, .string ⟨#[]⟩]) 2 32 Tryd.underlying27 hi hz0 hz1 hz2 rfl (by decide) _ _ _ (by rfl) (HO3.out _) ⟨w2.heap.size, 0, none⟩ 1 1 [.string a, .string b] (by rfl) rfl (news_at (new_block w2.drew _)) (one_cells a b) (by omega) (by unfold maxLen; omega) (by omega) (Nat.zero_le _) _ rfl ?_; intro g3 cap3 w3 hown3 hgrow hat3 hlt3; have hK4 := (hgrow.block g (by simp; omega) hrg).trans HK3.out; have d15 := rblk_at hK4 12 (x := .slice fa fs.length fc) rfl; have df := rblk_free hK4 12))
  all_goals
    go_wp2_with fail
    go_end0
    have hsz := HC2.out.size
    have hrow3 : OwnF w3 0 (.slice (some ⟨g3, 0, none⟩) (fs.length + 1) cap3) (fs ++ [(a, b)]) := by
      unfold OwnF; rw [flat_snoc, List.length_append]; exact hown3
    obtain ⟨cu, hcu⟩ := row_type hrow3 rfl
    have hgg : g3 ≠ g := apart_of hcu hK4 (by decide)
    have hn3 : New O w g3 := by
      rcases hat3 with h3 | h3
      · exact .inl (ho _ h3)
      · refine .inr ?_
        have : g3 = w2.heap.size + 1 := by simpa using h3
        omega
    refine ⟨rfl, ?_, ((((HC2.out.drew).alloc _).grown hgrow (fun k hk => .inl (ho k hk))).put _ _ (.inl hg))⟩
    have hK5 : RBlk (w3.setCell ⟨g, 12, none⟩ (.slice (some ⟨g3, 0, none⟩) (fs.length + 1) cap3)) g (rr resp n (txt []) true q (.slice (some ⟨g3, 0, none⟩) (fs.length + 1) cap3) false e0) := rblk_put hK4 12 _
    unfold fieldSt
    by_cases h0 : e0 = 0
    · subst h0
      rw [if_pos rfl]
      exact ⟨_, hK5, row_same hrow3 (fun k hk => by injection hk with hk; subst hk; exact put_far rfl (by show g3 ≠ g; exact hgg)), .inl hg, fun k hk => by injection hk with hk; subst hk; exact hn3⟩
    · rw [if_neg (show ¬ ((a, b), e0).2 = 0 from h0)]
      exact ⟨n, _, _, q, _, hK5, .inl hg⟩
end Go.Proofs.YtoofdompafkddaaDoor.Hd
/-
  The reference's Feed: what it returns and leaves. Condition: none beyond the lengths that a slice can have.
-/
namespace Go.Proofs.YtoofdompafkddaaDoor.Hd
open Go.RowKit Go.Proofs.YtoofdompafkddaaDoor.Tk Go.Proofs.YtoofdompafkddaaDoor.Fd
set_option linter.unusedVariables false

theorem rended_any (O : Nat → Prop) (resp : Bool) (g : Nat) (p : Option Parts) (n : Nat) (fs : List Fl) (t : Bs) (w : World) (h : RRdr w O resp g (.on p [] n fs)) (hl : fs.length ≤ 64) (ht8 : t.length ≤ 8192) :
    Calls Tryd.prog 48 #[.pointer (some ⟨g, 0, none⟩), .string (txt t)] w (REnd O resp g (ended resp p n fs t) w) := by
  by_cases ht : t = []
  · subst ht
    cases p with
    | none => exact rended_skip O resp g n fs w h
    | some q => exact rended_last O resp g q n fs w h
  · cases p with
    | none =>
      have he : ended resp none n fs t = firstSt (firstOf resp (txt t)) n fs := by
        show (if t = [] then _ else _) = _; rw [if_neg ht]; rfl
      rw [he]
      cases resp with
      | false => exact rended_req O g n fs (txt t) w h (txt_pos ht)
      | true => exact rended_res O g n fs (txt t) w h (txt_pos ht)
    | some q =>
      have he : ended resp (some q) n fs t = if fs.length = 64 then .bad 3 else fieldSt q (fldOf (txt t)) n fs := by
        show (if t = [] then _ else _) = _; rw [if_neg ht]; rfl
      rw [he]
      by_cases h64 : fs.length = 64
      · rw [if_pos h64]; exact rended_full O resp g q n fs (txt t) w h h64 (txt_pos ht)
      · rw [if_neg h64]; exact rended_field O resp g q n fs (txt t) w h (by omega) (txt_pos ht) (by rw [txt_size]; omega)

def RFeedPost (O : Nat → Prop) (resp : Bool) (g : Nat) (s : St) (b : Bs) (w : World) (e : Ending) (w' : World) : Prop :=
  e = .returned (.tuple #[.int .i64 ((run resp s b).1 : Nat), .bool (doneOf (run resp s b).2), .int .i64 (errOf (run resp s b).2 : Nat)]) ∧ RRdr w' (New O w) resp g (run resp s b).2 ∧ Chg O w w'
def RAt (O : Nat → Prop) (resp : Bool) (g : Nat) (s : St) (b : Bs) (w : World) (k : Nat) (st : St) (wr : World) : Prop :=
  k ≤ b.length ∧ run resp s b = (k + (run resp st (b.drop k)).1, (run resp st (b.drop k)).2) ∧ Good st ∧ RRdr wr (New O w) resp g st ∧ Chg O w wr
theorem RAt.ends {O : Nat → Prop} {resp : Bool} {g : Nat} {s : St} {b : Bs} {w : World} {k : Nat} {st : St} {wr : World} (h : RAt O resp g s b w k st wr) (ho : over st = true ∨ k = b.length) : run resp s b = (k, st) := by
  obtain ⟨_, hr, _⟩ := h
  rcases ho with ho | ho
  · rw [hr, run_over ho]; rfl
  · rw [hr, ho, List.drop_length, run_nil]; rfl
theorem RAt.post {O : Nat → Prop} {resp : Bool} {g : Nat} {s : St} {b : Bs} {w : World} {k : Nat} {st : St} {wr : World} (h : RAt O resp g s b w k st wr) (ho : over st = true ∨ k = b.length) {n : Nat} :
    RFeedPost O resp g s b w (.returned (.tuple #[.int .i64 (k : Int), .bool (doneOf st), .int .i64 (errOf st : Nat)])) (wr.drewN n) := by
  unfold RFeedPost
  rw [h.ends ho]
  obtain ⟨_, _, _, hR, hC⟩ := h
  exact ⟨rfl, hR.below ⟨rfl, rfl, rfl, Nat.le_refl _, fun _ _ => rfl⟩, hC.drewN n⟩
/-- One byte more. -/
theorem RAt.next {O : Nat → Prop} {resp : Bool} {g : Nat} {s : St} {b : Bs} {w : World} {k : Nat} {p : Option Parts} {l : Bs} {n : Nat} {fs : List Fl} {wr w' : World} (h : RAt O resp g s b w k (.on p l n fs) wr) (hk : k < b.length)
    (hR : RRdr w' (New O w) resp g (step resp (.on p l n fs) b[k])) (hC : Chg O w w') : RAt O resp g s b w (k + 1) (step resp (.on p l n fs) b[k]) w' := by
  obtain ⟨_, hr, hG, _⟩ := h
  refine ⟨by omega, ?_, good_step resp hG _, hR, hC⟩
  rw [hr, List.drop_eq_getElem_cons hk, run_cons rfl]
  simp only [Prod.mk.injEq, and_true]
  omega
theorem RRdr.tells {w : World} {O : Nat → Prop} {resp : Bool} {g : Nat} {s : St} (h : RRdr w O resp g s) : w.cell? ⟨g, 13, none⟩ = some (.bool (doneOf s)) ∧ w.cell? ⟨g, 14, none⟩ = some (.int .i64 (errOf s : Nat)) := by
  cases s with
  | on p l n fs => obtain ⟨fv, hb, _⟩ := h; exact ⟨rblk_at hb 13 rfl, rblk_at hb 14 rfl⟩
  | done q fs => obtain ⟨n, o, f, fv, hb, _⟩ := h; exact ⟨rblk_at hb 13 rfl, rblk_at hb 14 rfl⟩
  | bad e => obtain ⟨n, o, f, q, fv, hb, hg⟩ := h; exact ⟨rblk_at hb 13 rfl, rblk_at hb 14 rfl⟩

theorem last_get {T : ByteArray} {l i : Bs} {d : UInt8} (hT : T = txt l) (hl : l = i ++ [d]) (h : l.length - 1 < T.size) : T[l.length - 1] = d := by
  subst hT hl
  rw [ByteArray.getElem_eq_getElem_data]
  show (i ++ [d]).toArray[(i ++ [d]).length - 1]'_ = d
  simp

theorem last_no {T : ByteArray} {l i : Bs} {d : UInt8} (hT : T = txt l) (hl : l = i ++ [d]) (h : l.length - 1 < T.size) (h3 : (((T[l.length - 1]'h).toNat : Int) == 13) = false) : T = txt (own l) := by
  rw [last_get hT hl h] at h3
  have hd : d ≠ 13 := by rintro rfl; revert h3; decide
  rw [hT, hl]
  simp [own, hd]

theorem last_13 {T : ByteArray} {l i : Bs} {d : UInt8} (hT : T = txt l) (hl : l = i ++ [d]) (h : l.length - 1 < T.size) (h3 : (((T[l.length - 1]'h).toNat : Int) == 13) = true) : T.extract 0 (l.length - 1) = txt (own l) := by
  rw [last_get hT hl h] at h3
  have hd : d = 13 := by
    apply UInt8.toNat.inj
    have := eq_of_beq h3
    show d.toNat = 13
    omega
  rw [hT, hl]
  subst hd
  apply bytes_eq
  rw [ByteArray.data_extract, Array.toList_extract, List.extract_eq_take_drop]
  simp [txt, own]

set_option maxRecDepth 100000 in
set_option maxHeartbeats 8000000 in
theorem rfeed_any (O : Nat → Prop) (resp : Bool) (g : Nat) (s : St) (v : Value) (b : Bs) (w : World) (h : RRdr w O resp g s) (hG : Good s) (hv : Byts w v b) (hvo : 0 < b.length → ∀ k, v.ownBlock = some k → ¬ O k) (hbl : b.length ≤ maxLen) :
    Calls Tryd.prog 18 #[.pointer (some ⟨g, 0, none⟩), v] w (RFeedPost O resp g s b w) := by
  obtain ⟨va, vc, hvs⟩ := hv.shape
  have HF0 := Lib.hid (show RAt O resp g s b w 0 s w from ⟨Nat.zero_le _, by simp, hG, h.mono (fun k hk => .inl hk), Chg.refl _ _⟩)
  have HV := Lib.hid hv
  unfold maxLen at hbl
  subst hvs
  clear h hv hG
  go_enter Tryd.func18, Tryd.ntmps18
  go_wp2_with fail
  go_loopw [7, 8, 9] (fun u c8 c9 wr => ∃ (k : Nat) (st : St), u = .int .i64 (k : Int) ∧ RAt O resp g s b w k st wr) (fun u _ _ _ => b.length - (intOf u).toNat)
  case atStart => exact ⟨0, s, rfl, HF0.out⟩
  case round =>
    obtain ⟨k, st, rfl, hAt⟩ := hrel
    have HA := Lib.hid hAt
    obtain ⟨hk, _, hGs, hRs, hCs⟩ := hAt
    obtain ⟨c5, c6⟩ := hRs.tells
    have HG := Lib.hid hGs
    have HR := Lib.hid hRs
    have HC := Lib.hid hCs
    obtain ⟨D, hD⟩ : ∃ D, D = doneOf st := ⟨_, rfl⟩
    obtain ⟨E, hE⟩ : ∃ E, E = errOf st := ⟨_, rfl⟩
    rw [← hD] at c5
    rw [← hE] at c6
    have HP := Lib.hid (fun (n : Nat) (ho : over st = true ∨ k = b.length) => (show RFeedPost O resp g s b w (.returned (.tuple #[.int .i64 (k : Int), .bool D, .int .i64 (E : Int)])) (wr.drewN n) from by rw [hD, hE]; exact HA.out.post ho))
    have HD := Lib.hid hD
    have HE := Lib.hid hE
    clear hGs hRs hCs hD hE
    by_cases hlt : k < b.length
    · cases D with
      | true =>
        have HOv := Lib.hid (show over st = true from over_of (.inl HD.out.symm))
        obtain rfl : E = 0 := by
          have h1 := HD.out; have h2 := HE.out
          cases st with
          | on => simp [doneOf] at h1
          | done => simpa [errOf] using h2
          | bad => simp [doneOf] at h1
        have c6' : wr.cell? ⟨g, 14, none⟩ = some (.int .i64 0) := c6
        clear c6
        go_wp2_with fail
        go_quiet (fail)
        go_wp2_with fail
        go_ret3
        exact HP.out _ (.inl HOv.out)
      | false =>
        by_cases he : E = 0
        · subst he
          obtain ⟨p, l, n, fs, hst⟩ := over_no HG.out HD.out.symm HE.out.symm
          have c6' : wr.cell? ⟨g, 14, none⟩ = some (.int .i64 0) := c6
          rcases HV.out with ⟨hb0, _⟩ | ⟨B, off, cap, hve, hcap, hcm, hB, hh⟩
          · rw [hb0] at hlt; simp at hlt
          injection hve with e1 e2 e3
          subst e1 e3
          have hOB : ¬ O B := hvo (by omega) B rfl
          have hKB : wr.heap[B]? = w.heap[B]? := HC.out.block B hB hOB
          obtain ⟨c, hc⟩ : ∃ c, c = b[k] := ⟨_, rfl⟩
          have cb : wr.cell? ⟨B, off + k, none⟩ = some (.int .u8 (c.toNat : Int)) := by rw [World.cell?_of_block (w := w) hKB, hc]; exact hh k hlt
          have HRon := HR.out
          have HGon := HG.out
          have HAon := HA.out
          rw [hst] at HRon HGon HAon
          obtain ⟨fv, hb, hf, hgO, hfo⟩ := HRon
          obtain ⟨h1, h2, h3, h4, h5, h6⟩ := HGon
          have d1 := rblk_at hb 1 (x := .int .i64 (n : Int)) rfl
          have d2 := rblk_at hb 2 (x := .string (txt l)) rfl
          have d3 := rblk_at hb 3 (x := .bool p.isSome) rfl
          have f1 := rblk_free hb 1
          have f2 := rblk_free hb 2
          have f14 := rblk_free hb 14
          have HAO := Lib.hid HAon
          have HBk := Lib.hid hb
          have HFk := Lib.hid hf
          have HC0 := Lib.hid hc
          have hcm' : vc ≤ 9223372036854775807 := by unfold maxLen at hcm; omega
          have hls : (txt l).size ≤ 8192 := by rw [txt_size]; omega
          clear c6 hh hKB e2 HAon hb hf hc hst h6 hcm
          obtain ⟨x1, hx1⟩ : ∃ x1, x1 = wr.setCell ⟨g, 1, none⟩ (.int .i64 ((n : Int) + 1)) := ⟨_, rfl⟩
          have HB1 := Lib.hid (show RBlk x1 g (rr resp (n + 1) (txt l) p.isSome (p.getD .none) fv false 0) from by rw [hx1]; exact rblk_put HBk.out 1 _)
          have HF1 := Lib.hid (show OwnF x1 0 fv fs from by rw [hx1]; exact row_apart HBk.out (by decide) HFk.out ((Chg.refl (fun k => k = g) wr).put _ _ (.inl rfl)))
          have HC1 := Lib.hid (show Chg O w x1 from by rw [hx1]; exact HC.out.put _ _ hgO)
          have HX1 := Lib.hid hx1
          have e2 := rblk_at HB1.out 2 (x := .string (txt l)) rfl
          have g2 := rblk_free HB1.out 2
          have hgx : g < x1.heap.size := block_lt HB1.out
          have hKA : RBlk (x1.drew.alloc (.cells #[.int .u8 (c.toNat : Int)] 5)) g _ := (old_block x1.drew _ (block_lt HB1.out)).trans HB1.out
          have e2' : (x1.alloc (.cells #[.int .u8 (c.toNat : Int)] 5)).cell? ⟨g, 2, none⟩ = some (.string (txt l)) := rblk_at (w := x1.drew.alloc (.cells #[.int .u8 (c.toNat : Int)] 5)) hKA 2 rfl
          have g2' : (x1.alloc (.cells #[.int .u8 (c.toNat : Int)] 5)).frozen? ⟨g, 2, none⟩ = false := rblk_free (w := x1.drew.alloc (.cells #[.int .u8 (c.toNat : Int)] 5)) hKA 2
          have hcv : (convert 22 9 (.slice (some ⟨x1.heap.size, 0, none⟩) 1 1)).run Tryd.prog (x1.alloc (.cells #[.int .u8 (c.toNat : Int)] 5)).drew = .ok (.string ⟨#[c]⟩) (x1.alloc (.cells #[.int .u8 (c.toNat : Int)] 5)).drew :=
            Tk.run_back (P := Tryd.prog) _ 22 9 5 x1.heap.size 0 1 [c] Tryd.underlying22 Tryd.underlying5 Tryd.underlying9 (fun j hj => by
              have : j = 0 := by simpa using hj
              subst this
              exact cell_of_one (new_block x1 _))
          obtain ⟨X, hX⟩ : ∃ X, txt l ++ ⟨#[c]⟩ = X := ⟨_, rfl⟩
          have HX := Lib.hid (show X = txt (l ++ [c]) from by rw [← hX]; exact bytes_eq (by simp [txt]))
          have hXs : X.size = l.length + 1 := by rw [HX.out, txt_size]; simp
          obtain ⟨x2, hx2⟩ : ∃ x2, x2 = ((x1.setCell ⟨g, 2, none⟩ (.string X)).alloc (.cells #[.int .u8 (c.toNat : Int)] 5)).drew := ⟨_, rfl⟩
          have hsp : (x1.setCell ⟨g, 2, none⟩ (.string X)).heap.size = x1.heap.size := by simp [World.setCell]
          have HB2 := Lib.hid (show RBlk x2 g (rr resp (n + 1) X p.isSome (p.getD .none) fv false 0) from by
            rw [hx2]; exact (old_block _ _ (by rw [hsp]; exact hgx)).trans (rblk_put HB1.out 2 _))
          have HF2 := Lib.hid (show OwnF x2 0 fv fs from by
            rw [hx2]
            have h := row_apart HB1.out (by decide) HF1.out ((Chg.refl (fun k => k = g) x1).put ⟨g, 2, none⟩ (.string X) (.inl rfl))
            exact owns_kept h (((Below.refl _ _).alloc (Nat.le_refl _) _).drew))
          have HC2 := Lib.hid (show Chg O w x2 from by rw [hx2]; exact ((HC1.out.put ⟨g, 2, none⟩ (.string X) hgO).alloc _).drew)
          have HX2 := Lib.hid hx2
          have HN := Lib.hid (fun (w' : World) (hR : RRdr w' (New O w) resp g (step resp (.on p l n fs) c)) (hC : Chg O w w') => (show RAt O resp g s b w (k + 1) (step resp (.on p l n fs) c) w' from by
            have h := RAt.next HAO.out hlt (by rw [← HC0.out]; exact hR) hC
            rwa [← HC0.out] at h))
          have i1 := rblk_at HB2.out 1 (x := .int .i64 ((n : Int) + 1)) rfl
          have i2 := rblk_at HB2.out 2 (x := .string X) rfl
          have i3 := rblk_at HB2.out 3 (x := .bool p.isSome) rfl
          have i14 := rblk_at HB2.out 14 (x := .int .i64 0) rfl
          have i13 := rblk_at HB2.out 13 (x := .bool false) rfl
          have j2 := rblk_free HB2.out 2
          have j14 := rblk_free HB2.out 14
          clear hx1 hKA d2 d3 f2 f14 hx2 hsp
          go_upto_region 6 with fail
          rw [← HX1.out]
          clear d1 f1
          go_region
          rw [← HX2.out]
          clear e2 g2 e2' g2' hcv hX cb
          by_cases hroom : room p l n = 0
          · have HS := Lib.hid (show step resp (.on p l n fs) c = .bad 3 from by rw [step_on, if_pos hroom])
            rw [HS.out] at HN
            have hb3 : RRdr (x2.setCell ⟨g, 14, none⟩ (.int .i64 3)) (New O w) resp g (.bad 3) := ⟨n + 1, X, p.isSome, p.getD .none, fv, rblk_put HB2.out 14 _, hgO⟩
            have HFin := Lib.hid (fun (m : Nat) => (show RFeedPost O resp g s b w (.returned (.tuple #[.int .i64 ((k : Int) + 1), .bool false, .int .i64 3])) ((x2.setCell ⟨g, 14, none⟩ (.int .i64 3)).drewN m) from RAt.post (n := m) (HN.out _ hb3 (HC2.out.put _ _ hgO)) (.inl rfl)))
            clear hb3
            by_cases h8 : 8192 ≤ n
            · go_wp2_with fail
              go_quiet (fail)
              go_wp2_with fail
              go_ret3
              exact HFin.out _
            · have hpn : p.isSome = false := by
                cases p with
                | none => rfl
                | some q => exfalso; simp [room, most] at hroom; omega
              have hl6 : 1026 ≤ l.length := by
                cases p with
                | none => simp [room, most] at hroom; omega
                | some q => simp at hpn
              rw [hpn] at i3
              clear hroom
              go_wp2_with fail
              go_quiet (fail)
              go_wp2_with fail
              go_ret3
              exact HFin.out _
          · have hn8 : n < 8192 := by unfold room at hroom; omega
            by_cases hc10 : c = 10
            · have hc10' : ((c.toNat : Int) != 10) = false := by rw [hc10]; rfl
              have HS := Lib.hid (show step resp (.on p l n fs) c = ended resp p (n + 1) fs (own l) from by rw [step_on, if_neg hroom, if_pos hc10])
              rw [HS.out] at HN
              obtain ⟨T, xT⟩ : ∃ T, X.extract 0 l.length = T := ⟨_, rfl⟩
              have HTT := Lib.hid (show T = txt l from by
                rw [← xT, HX.out]
                apply bytes_eq
                rw [ByteArray.data_extract, Array.toList_extract, List.extract_eq_take_drop]
                simp [txt])
              have hTs : T.size = l.length := by rw [HTT.out, txt_size]
              have hl6 : p.isSome = false → l.length < 1026 := fun hp => by
                cases p with
                | none => simp [room, most] at hroom; omega
                | some q => simp at hp
              have HL6 := Lib.hid hl6
              have HB4 := Lib.hid (show RRdr (x2.setCell ⟨g, 2, none⟩ (.string ⟨#[]⟩)) (New O w) resp g (.on p [] (n + 1) fs) from ⟨fv, rblk_put HB2.out 2 _, row_apart HB2.out (by decide) HF2.out ((Chg.refl (fun k => k = g) x2).put _ _ (.inl rfl)), hgO, hfo⟩)
              have HC4 := Lib.hid (HC2.out.put ⟨g, 2, none⟩ (.string ⟨#[]⟩) hgO)
              have HEnd := Lib.hid (fun (y : World) (x : ByteArray) (hx : x = txt (own l)) (hy : ∃ m, y = (x2.drewN m).setCell ⟨g, 2, none⟩ (.string ⟨#[]⟩)) => (show Calls Tryd.prog 48 #[.pointer (some ⟨g, 0, none⟩), .string x] y fun e w' => e = .returned (.tuple #[]) ∧ RAt O resp g s b w (k + 1) (ended resp p (n + 1) fs (own l)) w' from by
                obtain ⟨m, rfl⟩ := hy
                subst hx
                refine (rended_any (New O w) resp g p (n + 1) fs (own l) ((x2.setCell ⟨g, 2, none⟩ (.string ⟨#[]⟩)).drewN m) (HB4.out.below ⟨rfl, rfl, rfl, Nat.le_refl _, fun _ _ => rfl⟩) h4 (by have := own_length l; omega)).mono ?_
                rintro e w' ⟨rfl, hR, hC⟩
                have hC5 := (HC4.out.drewN m).again hC
                exact ⟨rfl, HN.out w' (hR.mono (new_new (HC4.out.drewN m).size)) hC5⟩))
              clear hroom hc10 hl6
              have hreg : p.isSome = true ∨ (p.isSome = false ∧ l.length < 1026) := by
                cases hp : p.isSome with
                | true => exact .inl rfl
                | false => exact .inr ⟨rfl, HL6.out hp⟩
              rcases hreg with hp | ⟨hp, hl6⟩
              all_goals
                rw [hp] at i3
                clear hp
                rcases snoc_cases l with hl0 | ⟨i, d, hld⟩
                · have hz : l.length = 0 := by rw [hl0]; rfl
                  have HO := Lib.hid (show (ByteArray.empty : ByteArray) = txt (own l) from by rw [hl0]; rfl)
                  clear hl0
                  go_wp2_with fail
                  go_quiet (fail)
                  go_wp2_with fail
                  refine (HEnd.out _ _ HO.out ⟨_, rfl⟩).mono ?_
                  rintro e x3 ⟨rfl, hA3⟩
                  have HA3 := Lib.hid hA3
                  clear hA3
                  go_wp2_with fail
                  go_roundw
                  case rel => exact ⟨k + 1, _, by go_num, HA3.out⟩
                  case measure => simp [intOf]; omega
                · have hz : 1 ≤ l.length := by rw [hld]; simp
                  have HLD := Lib.hid hld
                  clear hld
                  go_wp2_with fail
                  go_quiet (fail)
                  go_wp2_with fail
                  all_goals
                    rename_i h3 K3 a3
                    first
                    | refine (HEnd.out _ _ (last_no HTT.out HLD.out _ h3) ⟨_, rfl⟩).mono ?_
                    | refine (HEnd.out _ _ (last_13 HTT.out HLD.out _ h3) ⟨_, rfl⟩).mono ?_
                    rintro e x3 ⟨rfl, hA3⟩
                    have HA3 := Lib.hid hA3
                    clear hA3
                    go_wp2_with fail
                    go_roundw
                    case rel => exact ⟨k + 1, _, by go_num, HA3.out⟩
                    case measure => simp [intOf]; omega
            · have hc10' : ((c.toNat : Int) != 10) = true := by
                rw [bne_iff_ne]; intro e; apply hc10; apply UInt8.toNat.inj; show c.toNat = 10; omega
              have HS := Lib.hid (show step resp (.on p l n fs) c = .on p (l ++ [c]) (n + 1) fs from by rw [step_on, if_neg hroom, if_neg hc10])
              rw [HS.out] at HN
              have HFin := Lib.hid (HN.out x2 ⟨fv, by rw [← HX.out]; exact HB2.out, HF2.out, hgO, hfo⟩ HC2.out)
              cases hp : p.isSome with
              | true =>
                rw [hp] at i3
                clear hroom hc10 hp
                go_wp2_with fail
                go_roundw
                case rel => exact ⟨k + 1, _, by go_num, HFin.out⟩
                case measure => simp [intOf]; omega
              | false =>
                have hl6 : l.length < 1026 := by
                  cases p with
                  | none => simp [room, most] at hroom; omega
                  | some q => simp at hp
                rw [hp] at i3
                clear hroom hc10 hp
                go_wp2_with fail
                go_roundw
                case rel => exact ⟨k + 1, _, by go_num, HFin.out⟩
                case measure => simp [intOf]; omega
        · have hne : ((E : Int) == 0) = false := by rw [beq_eq_false_iff_ne]; omega
          have HOv := Lib.hid (show over st = true from over_of (.inr (by rw [← HE.out]; exact he)))
          clear he
          go_wp2_with fail
          go_quiet (fail)
          go_wp2_with fail
          go_ret3
          exact HP.out _ (.inl HOv.out)
    · have hke : k = b.length := by omega
      have HKE := Lib.hid hke
      clear hke
      go_wp2_with fail
      go_quiet (fail)
      go_wp2_with fail
      go_ret3
      exact HP.out _ (.inr HKE.out)
end Go.Proofs.YtoofdompafkddaaDoor.Hd
/-
  The reference reader's Request and Response where there is no head to tell. (Where there is one: see NOTES.md.)
-/
namespace Go.Proofs.YtoofdompafkddaaDoor.Hd
open Go.RowKit Go.Proofs.YtoofdompafkddaaDoor.Tk Go.Proofs.YtoofdompafkddaaDoor.Fd
set_option linter.unusedVariables false

set_option maxRecDepth 100000 in
set_option maxHeartbeats 4000000 in
theorem rrequest_no (O : Nat → Prop) (resp : Bool) (g : Nat) (s : St) (w : World) (h : RRdr w O resp g s) (hn : (doneOf s && resp == false) = false) :
    Calls Tryd.prog 20 #[.pointer (some ⟨g, 0, none⟩)] w (ReqPost (headOf resp (resp == false) s) w) := by
  rw [headOf_no hn]
  obtain ⟨c13, c14⟩ := h.tells
  have c0 : w.cell? ⟨g, 0, none⟩ = some (.bool resp) := by
    cases s with
    | on => obtain ⟨fv, hb, _⟩ := h; exact rblk_at hb 0 rfl
    | done => obtain ⟨n, o, f, fv, hb, _⟩ := h; exact rblk_at hb 0 rfl
    | bad => obtain ⟨n, o, f, q, fv, hb, _⟩ := h; exact rblk_at hb 0 rfl
  have hgl : g < w.heap.size := World.block_lt_of_cell? w _ c0
  obtain ⟨D, hD⟩ : ∃ D, D = doneOf s := ⟨_, rfl⟩
  obtain ⟨E, hE⟩ : ∃ E, E = errOf s := ⟨_, rfl⟩
  rw [← hD] at c13 hn
  rw [← hE] at c14
  have hDE : D = true → E = 0 := fun h => by
    cases s with
    | on => subst hD; cases h
    | done => exact hE
    | bad => subst hD; cases h
  clear h hD hE
  cases D with
  | false =>
    go_enter Tryd.func20, Tryd.ntmps20
    go_wp2_with fail
    refine bodyPost_ret (results_pair rfl _ _ w.heap.size 29 _ (0, 0) _ rfl (new_block _ _) Tryd.underlying29 rfl infoReq) rfl ?_
    exact ⟨_, rfl, OwnF.nil _ _, (Below.refl _ _).alloc (Nat.le_refl _) _⟩
  | true =>
    have hr : resp = true := by cases resp <;> simp at hn ⊢
    subst hr
    have he := hDE rfl
    subst he
    have c14' : w.cell? ⟨g, 14, none⟩ = some (.int .i64 0) := c14
    clear c14
    go_enter Tryd.func20, Tryd.ntmps20
    go_wp2_with fail
    refine bodyPost_ret (results_pair rfl _ _ w.heap.size 29 _ (0, 0) _ rfl (new_block _ _) Tryd.underlying29 rfl infoReq) rfl ?_
    exact ⟨_, rfl, OwnF.nil _ _, (Below.refl _ _).alloc (Nat.le_refl _) _⟩
set_option maxRecDepth 100000 in
set_option maxHeartbeats 4000000 in
theorem rresponse_no (O : Nat → Prop) (resp : Bool) (g : Nat) (s : St) (w : World) (h : RRdr w O resp g s) (hn : (doneOf s && resp == true) = false) :
    Calls Tryd.prog 22 #[.pointer (some ⟨g, 0, none⟩)] w (ResPost (headOf resp (resp == true) s) w) := by
  rw [headOf_no hn]
  obtain ⟨c13, c14⟩ := h.tells
  have c0 : w.cell? ⟨g, 0, none⟩ = some (.bool resp) := by
    cases s with
    | on => obtain ⟨fv, hb, _⟩ := h; exact rblk_at hb 0 rfl
    | done => obtain ⟨n, o, f, fv, hb, _⟩ := h; exact rblk_at hb 0 rfl
    | bad => obtain ⟨n, o, f, q, fv, hb, _⟩ := h; exact rblk_at hb 0 rfl
  have hgl : g < w.heap.size := World.block_lt_of_cell? w _ c0
  obtain ⟨D, hD⟩ : ∃ D, D = doneOf s := ⟨_, rfl⟩
  obtain ⟨E, hE⟩ : ∃ E, E = errOf s := ⟨_, rfl⟩
  rw [← hD] at c13 hn
  rw [← hE] at c14
  have hDE : D = true → E = 0 := fun h => by
    cases s with
    | on => subst hD; cases h
    | done => exact hE
    | bad => subst hD; cases h
  clear h hD hE
  cases D with
  | false =>
    go_enter Tryd.func22, Tryd.ntmps22
    go_wp2_with fail
    refine bodyPost_ret (results_pair rfl _ _ w.heap.size 31 _ (0, 0) _ rfl (new_block _ _) Tryd.underlying31 rfl infoRes) rfl ?_
    exact ⟨_, rfl, OwnF.nil _ _, (Below.refl _ _).alloc (Nat.le_refl _) _⟩
  | true =>
    have hr : resp = false := by cases resp <;> simp at hn ⊢
    subst hr
    have he := hDE rfl
    subst he
    have c14' : w.cell? ⟨g, 14, none⟩ = some (.int .i64 0) := c14
    clear c14
    go_enter Tryd.func22, Tryd.ntmps22
    go_wp2_with fail
    refine bodyPost_ret (results_pair rfl _ _ w.heap.size 31 _ (0, 0) _ rfl (new_block _ _) Tryd.underlying31 rfl infoRes) rfl ?_
    exact ⟨_, rfl, OwnF.nil _ _, (Below.refl _ _).alloc (Nat.le_refl _) _⟩
end Go.Proofs.YtoofdompafkddaaDoor.Hd
