/-
  Texts that the law's proof stands on, 4 of them in one file; each one's head says what it proves and under which condition.
-/
import Derived.Test.YtoofdompafkddaaDoorHeadFieldsP8
import Derived.Test.YtoofdompafkddaaDoorHeadFieldsP10
import Derived.Laws.EntriesVeiled
import Derived.Deep.RegionHeld3
import Derived.Deep.AppendLies
import Derived.Test.YtoofdompafkddaaDoorHeadFieldsP6
import Derived.Test.YtoofdompafkddaaDoorHeadFieldsP4
import Derived.Lib.SlBytesConst
/-
  What is done with a line that ended: requestLine, statusLine, the closure of opening: what each leaves. Condition: the table of token bytes.
-/
namespace Go.Proofs.YtoofdompafkddaaDoor.Hd
open Go.RowKit Go.Proofs.YtoofdompafkddaaDoor.Tk Go.Proofs.YtoofdompafkddaaDoor.Fd Go.Proofs.YtoofdompafkddaaDoor.Ln
set_option linter.unusedVariables false

section
variable {w : World} {g : Nat} {resp : Bool} {M : Nat} {F lv : Value} {n : Nat} {wh : Bool} {e : Nat} {rq : Bool} {q : Parts} {fv : Value}
theorem rc7 (h : w.heap[g]? = some (.cells (rc resp M F lv n wh e rq q fv) 97 (0, 0))) : w.cell? ⟨g, 7, none⟩ = some (.string (qA rq q)) := by rw [Lib.cell_of_heap h]; rfl
theorem rc8 (h : w.heap[g]? = some (.cells (rc resp M F lv n wh e rq q fv) 97 (0, 0))) : w.cell? ⟨g, 8, none⟩ = some (.string (qB rq q)) := by rw [Lib.cell_of_heap h]; rfl
theorem rc9 (h : w.heap[g]? = some (.cells (rc resp M F lv n wh e rq q fv) 97 (0, 0))) : w.cell? ⟨g, 9, none⟩ = some (.int .i64 (qM rq q)) := by rw [Lib.cell_of_heap h]; rfl
theorem rc10 (h : w.heap[g]? = some (.cells (rc resp M F lv n wh e rq q fv) 97 (0, 0))) : w.cell? ⟨g, 10, none⟩ = some (.slice none 0 0) := by rw [Lib.cell_of_heap h]; rfl
theorem rc11 (h : w.heap[g]? = some (.cells (rc resp M F lv n wh e rq q fv) 97 (0, 0))) : w.cell? ⟨g, 11, none⟩ = some (.int .i64 (sM rq q)) := by rw [Lib.cell_of_heap h]; rfl
theorem rc12 (h : w.heap[g]? = some (.cells (rc resp M F lv n wh e rq q fv) 97 (0, 0))) : w.cell? ⟨g, 12, none⟩ = some (.int .i64 (sC rq q)) := by rw [Lib.cell_of_heap h]; rfl
theorem rc13 (h : w.heap[g]? = some (.cells (rc resp M F lv n wh e rq q fv) 97 (0, 0))) : w.cell? ⟨g, 13, none⟩ = some (.string (sA rq q)) := by rw [Lib.cell_of_heap h]; rfl
theorem rc14 (h : w.heap[g]? = some (.cells (rc resp M F lv n wh e rq q fv) 97 (0, 0))) : w.cell? ⟨g, 14, none⟩ = some (.slice none 0 0) := by rw [Lib.cell_of_heap h]; rfl
end
theorem rc_putQ {w : World} {g : Nat} {M : Nat} {F lv : Value} {n : Nat} {q : Parts} {fv : Value} (h : w.heap[g]? = some (.cells (rc false M F lv n false 0 false q fv) 97 (0, 0))) (t : Parts) :
    ((((w.setCell ⟨g, 7, none⟩ (.string t.a)).setCell ⟨g, 8, none⟩ (.string t.b)).setCell ⟨g, 9, none⟩ (.int .i64 t.m)).setCell ⟨g, 10, none⟩ (.slice none 0 0)).heap[g]? = some (.cells (rc false M F lv n false 0 false t fv) 97 (0, 0)) :=
  heap_put (heap_put (heap_put (heap_put h 7 _) 8 _) 9 _) 10 _
theorem rc_putS {w : World} {g : Nat} {M : Nat} {F lv : Value} {n : Nat} {q : Parts} {fv : Value} (h : w.heap[g]? = some (.cells (rc true M F lv n false 0 true q fv) 97 (0, 0))) (t : Parts) :
    ((((w.setCell ⟨g, 11, none⟩ (.int .i64 t.m)).setCell ⟨g, 12, none⟩ (.int .i64 t.c)).setCell ⟨g, 13, none⟩ (.string t.a)).setCell ⟨g, 14, none⟩ (.slice none 0 0)).heap[g]? = some (.cells (rc true M F lv n false 0 true t fv) 97 (0, 0)) :=
  heap_put (heap_put (heap_put (heap_put h 11 _) 12 _) 13 _) 14 _
theorem rc_putF {w : World} {g : Nat} {resp : Bool} {M : Nat} {F lv : Value} {n : Nat} {wh : Bool} {e : Nat} {rq : Bool} {q : Parts} {fv : Value} (h : w.heap[g]? = some (.cells (rc resp M F lv n wh e rq q fv) 97 (0, 0))) (m : Nat) (G : Value) :
    ((w.setCell ⟨g, 1, none⟩ (.int .i64 (m : Int))).setCell ⟨g, 2, none⟩ G).heap[g]? = some (.cells (rc resp m G lv n wh e rq q fv) 97 (0, 0)) :=
  heap_put (heap_put h 1 _) 2 _

/-- A call that turned a reader's block alone. -/
def ClosPost (g : Nat) (cs : Array Value) (e0 : Nat) (w : World) (e : Ending) (w' : World) : Prop :=
  e = .returned (.int .i64 (e0 : Int)) ∧ w'.heap[g]? = some (.cells cs 97 (0, 0)) ∧ Chg (fun k => k = g) w w'

set_option maxRecDepth 100000 in
set_option maxHeartbeats 4000000 in
theorem requestLine_any (g : Nat) (M : Nat) (F lv : Value) (n : Nat) (q : Parts) (fv : Value) (t : ByteArray) (w : World) (h : w.heap[g]? = some (.cells (rc false M F lv n false 0 false q fv) 97 (0, 0))) (hT : Tab w) :
    Calls Tryd.prog 43 #[.pointer (some ⟨g, 0, none⟩), .string t] w (ClosPost g (rc false M F lv n false 0 false (reqOf t).1 fv) (reqOf t).2 w) := by
  have HV := Lib.hid (reqVal_of t)
  obtain ⟨R, hR⟩ : ∃ R, R = reqOf t := ⟨_, rfl⟩
  rw [← hR] at HV
  rw [← hR]
  have HB := Lib.hid h
  clear hR h
  go_enter Tryd.func43, Tryd.ntmps43
  go_wp2_with fail
  refine (request_any t _ hT).mono ?_
  rintro e w1 ⟨rfl, hb1⟩
  rw [HV.out]
  have hK := Bl.old hb1 (block_lt HB.out) HB.out
  have c7 := rc7 hK
  have c8 := rc8 hK
  have c9 := rc9 hK
  have c10 := rc10 hK
  have f7 := free hK 7
  have f8 := free hK 8
  have f9 := free hK 9
  have f10 := free hK 10
  have HK := Lib.hid (rc_putQ hK R.1)
  have HC := Lib.hid (Chg.of_below (O := fun k => k = g) hb1)
  clear hK hb1
  go_wp2_with fail
  go_ret
  exact ⟨rfl, HK.out, (((HC.out.put _ _ (.inl rfl)).put _ _ (.inl rfl)).put _ _ (.inl rfl)).put _ _ (.inl rfl)⟩

set_option maxRecDepth 100000 in
set_option maxHeartbeats 4000000 in
theorem statusLine_any (g : Nat) (M : Nat) (F lv : Value) (n : Nat) (q : Parts) (fv : Value) (t : ByteArray) (w : World) (h : w.heap[g]? = some (.cells (rc true M F lv n false 0 true q fv) 97 (0, 0))) :
    Calls Tryd.prog 44 #[.pointer (some ⟨g, 0, none⟩), .string t] w (ClosPost g (rc true M F lv n false 0 true (stOf t).1 fv) (stOf t).2 w) := by
  have HV := Lib.hid (stVal_of t)
  obtain ⟨R, hR⟩ : ∃ R, R = stOf t := ⟨_, rfl⟩
  rw [← hR] at HV
  rw [← hR]
  have HB := Lib.hid h
  clear hR h
  go_enter Tryd.func44, Tryd.ntmps44
  go_wp2_with fail
  refine (status_any t _).mono ?_
  rintro e w1 ⟨rfl, hb1⟩
  rw [HV.out]
  have hK := Bl.old hb1 (block_lt HB.out) HB.out
  have c11 := rc11 hK
  have c12 := rc12 hK
  have c13 := rc13 hK
  have c14 := rc14 hK
  have f11 := free hK 11
  have f12 := free hK 12
  have f13 := free hK 13
  have f14 := free hK 14
  have HK := Lib.hid (rc_putS hK R.1)
  have HC := Lib.hid (Chg.of_below (O := fun k => k = g) hb1)
  clear hK hb1
  go_wp2_with fail
  go_ret
  exact ⟨rfl, HK.out, (((HC.out.put _ _ (.inl rfl)).put _ _ (.inl rfl)).put _ _ (.inl rfl)).put _ _ (.inl rfl)⟩

theorem Tab.chg {O : Nat → Prop} {w w' : World} (h : Tab w) (hc : Chg O w w') (ho : ¬ O 0) : Tab w' := fun n hn => by
  rw [World.cell?_of_block (w := w) (hc.block 0 h.lt ho)]; exact h n hn
/-- The closure of opening at an empty line. -/
theorem opening_empty (g gb : Nat) (w : World) :
    Calls Tryd.prog 67 #[.pointer (some ⟨g, 0, none⟩), .string ⟨#[]⟩, .pointer (some ⟨gb, 0, none⟩)] w fun e w' => e = .returned (.int .i64 0) ∧ w = w' := by
  go_enter Tryd.func67, Tryd.ntmps67
  go_wp2_with fail
  go_ret
  exact ⟨rfl, rfl⟩
set_option maxRecDepth 100000 in
set_option maxHeartbeats 4000000 in
theorem opening_any (resp : Bool) (g gb : Nat) (M : Nat) (F lv : Value) (n : Nat) (q : Parts) (fv : Value) (t : ByteArray) (w : World) (h : w.heap[g]? = some (.cells (rc resp M F lv n false 0 resp q fv) 97 (0, 0)))
    (hx : w.heap[gb]? = some (.cells #[firstFn resp] 91 (0, 0))) (hT : Tab w) (hg : g ≠ 0) (ht : 0 < t.size) :
    Calls Tryd.prog 67 #[.pointer (some ⟨g, 0, none⟩), .string t, .pointer (some ⟨gb, 0, none⟩)] w
      (ClosPost g (rc resp 8192 (.func (.func 68) #[] #[]) lv n false 0 resp (firstOf resp t).1 fv) (firstOf resp t).2 w) := by
  have ht0 : t.toList.isEmpty = false := text_full ht
  have hxg : gb ≠ g := apart_of hx h (by decide)
  have c1 := rc1 h
  have c2 := rc2 h
  have f1 := free h 1
  have f2 := free h 2
  have hK : ((w.setCell ⟨g, 1, none⟩ (.int .i64 8192)).setCell ⟨g, 2, none⟩ (.func (.func 68) #[] #[])).heap[g]? = some (.cells (rc resp 8192 (.func (.func 68) #[] #[]) lv n false 0 resp q fv) 97 (0, 0)) := rc_putF h 8192 (.func (.func 68) #[] #[])
  have hC := ((Chg.refl (fun k => k = g) w).put ⟨g, 1, none⟩ (.int .i64 8192) (.inl rfl)).put ⟨g, 2, none⟩ (.func (.func 68) #[] #[]) (.inl rfl)
  have hX : ((w.setCell ⟨g, 1, none⟩ (.int .i64 8192)).setCell ⟨g, 2, none⟩ (.func (.func 68) #[] #[])).cell? ⟨gb, 0, none⟩ = some (firstFn resp) := by
    rw [Lib.cell_of_heap (hC.old hxg hx)]; rfl
  have HT := Lib.hid (Tab.chg hT hC (fun e => hg e.symm))
  have HK := Lib.hid hK
  have HC := Lib.hid hC
  clear hK hC hT hx h
  cases resp with
  | false =>
    unfold firstFn at hX
    simp only [Bool.false_eq_true, if_false] at hX
    go_enter Tryd.func67, Tryd.ntmps67
    go_wp2_with fail
    refine (requestLine_any g 8192 _ lv n q fv t _ HK.out HT.out).mono ?_
    rintro e w1 ⟨rfl, hb, hc⟩
    have HC2 := Lib.hid (HC.out.trans hc (fun i hi => .inl hi))
    clear hc hX
    go_wp2_with fail
    go_ret
    exact ⟨rfl, hb, HC2.out⟩
  | true =>
    unfold firstFn at hX
    simp only [if_true] at hX
    go_enter Tryd.func67, Tryd.ntmps67
    go_wp2_with fail
    refine (statusLine_any g 8192 _ lv n q fv t _ HK.out).mono ?_
    rintro e w1 ⟨rfl, hb, hc⟩
    have HC2 := Lib.hid (HC.out.trans hc (fun i hi => .inl hi))
    clear hc hX
    go_wp2_with fail
    go_ret
    exact ⟨rfl, hb, HC2.out⟩
end Go.Proofs.YtoofdompafkddaaDoor.Hd
/-
  A reader's fieldLine: what it leaves. Conditions: fields of at most 8192 bytes in all; the table of token bytes.
-/
namespace Go.Proofs.YtoofdompafkddaaDoor.Hd
open Go.RowKit Go.Proofs.YtoofdompafkddaaDoor.Tk Go.Proofs.YtoofdompafkddaaDoor.Fd
set_option linter.unusedVariables false

set_option maxRecDepth 100000 in
set_option maxHeartbeats 4000000 in
theorem field_empty (resp : Bool) (g : Nat) (M : Nat) (F lv : Value) (n : Nat) (q : Parts) (fv : Value) (w : World) (h : w.heap[g]? = some (.cells (rc resp M F lv n false 0 resp q fv) 97 (0, 0))) :
    Calls Tryd.prog 68 #[.pointer (some ⟨g, 0, none⟩), .string ⟨#[]⟩] w (ClosPost g (rc resp M F (.slice none 0 0) n true 0 resp q fv) 0 w) := by
  have c5 := rc5 h
  have c3 := rc3 h
  have f5 := free h 5
  have f3 := free h 3
  have HK := Lib.hid (rc_put3 (rc_put5 h true) (.slice none 0 0))
  clear h
  go_enter Tryd.func68, Tryd.ntmps68
  go_wp2_with fail
  go_ret
  exact ⟨rfl, HK.out, ((Chg.refl (fun k => k = g) w).put _ _ (.inl rfl)).put _ _ (.inl rfl)⟩
set_option maxHeartbeats 4000000 in
theorem field_full (resp : Bool) (g : Nat) (M : Nat) (F lv : Value) (n : Nat) (q : Parts) (a : Option Addr) (c : Nat) (t : ByteArray) (w : World) (h : w.heap[g]? = some (.cells (rc resp M F lv n false 0 resp q (.slice a 64 c)) 97 (0, 0))) (ht : 0 < t.size) :
    Calls Tryd.prog 68 #[.pointer (some ⟨g, 0, none⟩), .string t] w fun e w' => e = .returned (.int .i64 3) ∧ w = w' := by
  have ht0 : t.toList.isEmpty = false := text_full ht
  have c15 := rc15 h
  clear h
  go_enter Tryd.func68, Tryd.ntmps68
  go_wp2_with fail
  go_ret
  exact ⟨rfl, rfl⟩

theorem old2 {w : World} {k : Nat} {x o : Obj} (h : w.heap[k]? = some x) : (w.drew.alloc o).heap[k]? = some x := (old_block w.drew o (block_lt h)).trans h
def FieldPost (O : Nat → Prop) (resp : Bool) (g : Nat) (M : Nat) (F lv : Value) (n : Nat) (q : Parts) (fs : List Fl) (e0 : Nat) (w : World) (e : Ending) (w' : World) : Prop :=
  e = .returned (.int .i64 (e0 : Int)) ∧ (∃ fv, w'.heap[g]? = some (.cells (rc resp M F lv n false 0 resp q fv) 97 (0, 0)) ∧ OwnF w' 0 fv fs ∧ ∀ k, fv.ownBlock = some k → New O w k) ∧ Chg O w w'

set_option maxRecDepth 100000 in
set_option maxHeartbeats 4000000 in
theorem field_any (O : Nat → Prop) (resp : Bool) (g : Nat) (M : Nat) (F lv : Value) (n : Nat) (q : Parts) (fv : Value) (fs : List Fl) (t : ByteArray) (w : World) (h : w.heap[g]? = some (.cells (rc resp M F lv n false 0 resp q fv) 97 (0, 0)))
    (hf : OwnF w 0 fv fs) (hl : fs.length < 64) (og : O g) (of : ∀ k, fv.ownBlock = some k → O k) (hT : Tab w) (ht : 0 < t.size) (hts : t.size ≤ 70368744177664) :
    Calls Tryd.prog 68 #[.pointer (some ⟨g, 0, none⟩), .string t] w (FieldPost O resp g M F lv n q (fs ++ [(fldOf t).1]) (fldOf t).2 w) := by
  have ht0 : t.toList.isEmpty = false := text_full ht
  obtain ⟨i0, hi, hz0, hz1, hz2⟩ := info_parts infoField
  have HV := Lib.hid (parseVal_of t)
  obtain ⟨⟨⟨a, b⟩, e0⟩, hR⟩ : ∃ R, R = fldOf t := ⟨_, rfl⟩
  rw [← hR] at HV
  rw [← hR]
  have HB := Lib.hid h
  have HF := Lib.hid hf
  obtain ⟨fa, fc, hfv⟩ := hf.form
  subst hfv
  have c15 := rc15 h
  have h64 : ¬ ((fs.length : Int) = 64) := by omega
  clear hR h hf
  go_enter Tryd.func68, Tryd.ntmps68
  go_wp2_with fail
  refine (parse_any t _ hts hT).mono ?_
  rintro e w1 ⟨rfl, hb1⟩
  rw [HV.out]
  unfold FV
  have hK1 := Bl.old hb1 (block_lt HB.out) HB.out
  have hG1 := block_lt hK1
  have HF1 := Lib.hid (owns_kept HF.out hb1)
  have HC1 := Lib.hid (Chg.of_below (O := O) hb1)
  have HK2 := Lib.hid ((old_block w1 (.cells #[.string a, .string b] 56) hG1).trans hK1)
  have HN2 := Lib.hid (new_block w1 (.cells #[.string a, .string b] 56))
  clear c15 hb1 hK1
  go_wp2_with fail
  have HO2 := Lib.hid (owns_kept HF1.out ((Below.refl w1.heap.size w1).alloc (Nat.le_refl _) (.cells #[.string a, .string b] 56)))
  have HC2 := Lib.hid (HC1.out.alloc (.cells #[.string a, .string b] 56))
  obtain ⟨G, hG⟩ : ∃ G, G = w1.heap.size := ⟨_, rfl⟩
  rw [← hG] at HN2
  rw [← hG]
  obtain ⟨w2, hw2⟩ : ∃ w2, w2 = w1.alloc (.cells #[.string a, .string b] 56) := ⟨_, rfl⟩
  rw [← hw2] at HK2 HN2 HO2 HC2
  rw [← hw2]
  have hgw : g < w2.heap.size := block_lt HK2.out
  have hGw : G < w2.heap.size := block_lt HN2.out
  have hrg : some g ≠ (Value.slice fa fs.length fc).ownBlock := fun e => by obtain ⟨cu, hcu⟩ := row_type HO2.out e.symm; exact apart_of hcu HK2.out (by decide) rfl
  have hrG : some G ≠ (Value.slice fa fs.length fc).ownBlock := fun e => by
    have h1 := World.ownsRow.lt HF1.out G e.symm
    omega
  have hGg : G ≠ g := apart_of HN2.out HK2.out (by decide)
  have HO3 := Lib.hid (fun o => owns_kept HO2.out ((Below.refl w2.heap.size w2).drew.alloc (Nat.le_refl _) o))
  clear hG hw2 HF1 HC1 hG1
  have HK3 := Lib.hid (old2 (o := (.cells #[.string a, .string b] 56)) HK2.out)
  have c15 := rc15 HK2.out
  have c15' : (w2.alloc (.cells #[.string a, .string b] 56)).cell? ⟨g, 15, none⟩ = some (.slice fa fs.length fc) := rc15 (w := (w2.drew.alloc (.cells #[.string a, .string b] 56))) HK3.out
  have cG0 := two0 HN2.out
  have cG1 := two1 HN2.out
  go_region_law ((refine step_append_lies _ (by rfl) _ _ 27 (by rfl) 0 56 i0 (.agg #[.string ⟨#[]⟩, .string ⟨#[]⟩]) 2 32 Tryd.underlying27 hi hz0 hz1 hz2 rfl (by decide) _ _ _ (by rfl) (HO3.out _) ⟨w2.heap.size, 0, none⟩ 1 1 [.string a, .string b] (by rfl) rfl (news_at (new_block w2.drew _)) (one_cells a b) (by omega) (by unfold maxLen; omega) (by omega) (Nat.zero_le _) _ rfl ?_; intro g3 cap3 w3 hown3 hgrow hat3 hlt3; have hK4 := (hgrow.block g (by simp; omega) hrg).trans HK3.out; have d15 := rc15 hK4; have df := free hK4 15))
  all_goals
    go_wp2_with fail
    go_ret
    have hsz := HC2.out.size
    have hrow3 : OwnF w3 0 (.slice (some ⟨g3, 0, none⟩) (fs.length + 1) cap3) (fs ++ [(a, b)]) := by
      unfold OwnF; rw [flat_snoc, List.length_append]; exact hown3
    obtain ⟨cu, hcu⟩ := row_type hrow3 rfl
    have hgg : g3 ≠ g := apart_of hcu hK4 (by decide)
    refine ⟨rfl, ⟨_, rc_put15 hK4 _, row_same hrow3 fun k hk => ?_, fun k hk => ?_⟩, ?_⟩
    · injection hk with hk; subst hk; exact put_far rfl (by show g3 ≠ g; exact hgg)
    · injection hk with hk; subst hk
      rcases hat3 with h3 | h3
      · exact .inl (of _ h3)
      · refine .inr ?_
        show w.heap.size ≤ g3
        have : g3 = w2.heap.size + 1 := by simpa using h3
        omega
    · exact ((((HC2.out.drew).alloc _).grown hgrow (fun k hk => .inl (of k hk))).put _ _ (.inl og))
end Go.Proofs.YtoofdompafkddaaDoor.Hd
/-
  bytes.TrimSuffix at a suffix of one byte; bytes.IndexByte at a byte 10: what each returns. No condition but what a slice can have.
-/
namespace Go.Proofs.YtoofdompafkddaaDoor.Hd
open Go.RowKit Go.Proofs.YtoofdompafkddaaDoor.Tk Go.Proofs.YtoofdompafkddaaDoor.Fd
set_option linter.unusedVariables false

theorem bytesOf_map (l : Bs) : Lib.bytesOf (l.map fun c => (c.toNat : Int)) = l := by
  induction l with
  | nil => rfl
  | cons c r ih => simp [Lib.bytesOf] at ih ⊢; exact ih
/-- Bytes without a byte at their end. -/
def cutEnd (c : UInt8) (l : Bs) : Bs := if l.getLast? = some c then l.dropLast else l
theorem cutEnd_own (l : Bs) : cutEnd 13 l = own l := rfl
theorem cutEnd_snoc (c : UInt8) (l : Bs) : cutEnd c (l ++ [c]) = l := by unfold cutEnd; simp
theorem cutEnd_take (c : UInt8) (l : Bs) : cutEnd c l = l.take (cutEnd c l).length := by
  unfold cutEnd; split
  · rw [List.length_dropLast, List.dropLast_eq_take]
  · rw [List.take_length]
theorem cutEnd_le (c : UInt8) (l : Bs) : (cutEnd c l).length ≤ l.length := by
  unfold cutEnd; split
  · rw [List.length_dropLast]; omega
  · exact Nat.le_refl _
theorem suffix_one (l : Bs) (c : UInt8) : Lib.hasSuffix l [c] = decide (l.getLast? = some c) := by
  rw [Bool.eq_iff_iff, decide_eq_true_eq]
  unfold Lib.hasSuffix
  rw [List.isSuffixOf_iff_suffix]
  constructor
  · rintro ⟨t, rfl⟩; simp
  · intro h
    rcases snoc_cases l with rfl | ⟨i, d, rfl⟩
    · simp at h
    · simp at h; subst h; exact ⟨i, rfl⟩
theorem Holds_take {w : World} {b off : Nat} {l : Bs} (h : Holds w b off l) (k : Nat) : Holds w b off (l.take k) := by
  intro j hj
  have hj' : j < l.length := by rw [List.length_take] at hj; omega
  rw [h j hj', List.getElem_take]

theorem trimsuf_any (b off cap : Nat) (l : Bs) (q : Nat) (c : UInt8) (w : World) (hc : l.length ≤ cap) (hm : cap ≤ maxLen) (h : Holds w b off l) (hq : w.cell? ⟨q, 0, none⟩ = some (.int .u8 (c.toNat : Int))) :
    Calls Tryd.prog 100 #[.slice (some ⟨b, off, none⟩) l.length cap, .slice (some ⟨q, 0, none⟩) 1 1] w fun e w' => e = .returned (.slice (some ⟨b, off, none⟩) (cutEnd c l).length cap) ∧ w = w' := by
  refine (Ln.bytes_TrimSuffix_all (some ⟨b, off, none⟩) (some ⟨q, 0, none⟩) l.length cap 1 1 (l.map fun c => (c.toNat : Int)) [(c.toNat : Int)] w (by simp) rfl hc (by unfold maxLen at hm; omega)
    (.of_cells fun i hi => ?_) (.of_cells fun i hi => ?_)).mono ?_
  · rw [Addr.add_lit, h i hi]; simp [hi]
  · have : i = 0 := by omega
    subst this; rw [Addr.add_lit]; simpa using hq
  · rintro e w' ⟨rfl, rfl⟩
    refine ⟨?_, rfl⟩
    have e1 : Lib.bytesOf [(c.toNat : Int)] = [c] := bytesOf_map [c]
    show Ending.returned (Lib.bytesTrimSuffix b off l.length cap _ _) = _
    unfold Lib.bytesTrimSuffix
    rw [bytesOf_map, e1, suffix_one]
    unfold cutEnd Lib.sliceTo
    by_cases hl : l.getLast? = some c
    · simp [hl]
    · simp [hl]

/-- Where the first byte 10 stands; the length, if there is none. -/
def nl : Bs → Nat
  | [] => 0
  | c :: r => if c = 10 then 0 else nl r + 1
theorem nl_le (l : Bs) : nl l ≤ l.length := by
  induction l with
  | nil => exact Nat.le_refl _
  | cons c r ih => unfold nl; split <;> simp; omega
theorem nl_at (l : Bs) (h : nl l < l.length) : l[nl l] = 10 := by
  induction l with
  | nil => simp at h
  | cons c r ih =>
    by_cases hc : c = 10
    · simp [nl, hc]
    · have h' : nl r < r.length := by simp [nl, hc] at h; omega
      simp [nl, hc, ih h']
theorem nl_before (l : Bs) : ∀ c ∈ l.take (nl l), c ≠ 10 := by
  induction l with
  | nil => simp
  | cons c r ih =>
    by_cases hc : c = 10
    · simp [nl, hc]
    · simp only [nl, hc, if_false, List.take_succ_cons]
      intro d hd
      rcases List.mem_cons.1 hd with rfl | hd
      · exact hc
      · exact ih d hd
theorem nl_index (l : Bs) : Lib.indexByte l 10 = if nl l < l.length then (nl l : Int) else -1 := by
  induction l with
  | nil => simp [Lib.indexByte, nl]
  | cons c r ih =>
    unfold Lib.indexByte nl
    by_cases hc : c = 10
    · simp [hc]
    · have hb : (c == 10) = false := by simpa using hc
      rw [if_neg hc, hb, ih, List.length_cons]
      by_cases h : nl r < r.length
      · have h2 : nl r + 1 < r.length + 1 := by omega
        have h3 : ((nl r : Int) == -1) = false := by rw [beq_eq_false_iff_ne]; omega
        rw [if_pos h, if_pos h2, h3]; simp
      · have h2 : ¬ nl r + 1 < r.length + 1 := by omega
        rw [if_neg h, if_neg h2]; rfl
theorem nl_none {l : Bs} (h : ¬ nl l < l.length) : ∀ c ∈ l, c ≠ 10 := by
  have := nl_before l
  rwa [List.take_of_length_le (by omega)] at this
/-- The first byte 10 of a beginning, in the whole. -/
theorem nl_split {b : Bs} {m : Nat} (h : nl (b.take m) < (b.take m).length) :
    b = b.take (nl (b.take m)) ++ 10 :: b.drop (nl (b.take m) + 1) ∧ (∀ c ∈ b.take (nl (b.take m)), c ≠ 10) ∧ nl (b.take m) < m ∧ nl (b.take m) < b.length := by
  have h1 := nl_at _ h
  have h2 := nl_before (b.take m)
  have hl : (b.take m).length = min m b.length := List.length_take
  have hb : nl (b.take m) < b.length := by omega
  rw [List.getElem_take] at h1
  rw [List.take_take, Nat.min_eq_left (by omega)] at h2
  refine ⟨?_, h2, by omega, hb⟩
  rw [← h1, List.getElem_cons_drop]
  exact (List.take_append_drop _ _).symm

theorem idx10_any (b off cap : Nat) (l : Bs) (w : World) (h : Holds w b off l) :
    Calls Tryd.prog 69 #[.slice (some ⟨b, off, none⟩) l.length cap, .int .u8 10] w fun e w' => e = .returned (.int .i64 (Lib.indexByte l 10)) ∧ w = w' := by
  refine (Ln.bytes_IndexByte b off l.length cap (l.map fun c => (c.toNat : Int)) 10 w (by simp) ?_).mono ?_
  · intro i hi
    rw [h i hi]
    simp [hi]
  · rintro e w' ⟨rfl, rfl⟩
    rw [bytesOf_map]
    exact ⟨rfl, rfl⟩

end Go.Proofs.YtoofdompafkddaaDoor.Hd
/-
  bytes.TrimSuffix at a suffix of one byte; a reader's fail: what each leaves. No condition but what a slice can have.
-/
namespace Go.Proofs.YtoofdompafkddaaDoor.Hd
open Go.RowKit Go.Proofs.YtoofdompafkddaaDoor.Tk Go.Proofs.YtoofdompafkddaaDoor.Fd
set_option linter.unusedVariables false

/-- All sixteen cells of a block, one behind the other. -/
theorem put16 {w : World} {g : Nat} {t : TypeId} {fr : Nat × Nat} {x0 x1 x2 x3 x4 x5 x6 x7 x8 x9 x10 x11 x12 x13 x14 x15 : Value} (h0 : w.heap[g]? = some (.cells #[x0, x1, x2, x3, x4, x5, x6, x7, x8, x9, x10, x11, x12, x13, x14, x15] t fr)) (a0 a1 a2 a3 a4 a5 a6 a7 a8 a9 a10 a11 a12 a13 a14 a15 : Value) :
    ((((((((((((((((w.setCell ⟨g, 0, none⟩ a0).setCell ⟨g, 1, none⟩ a1).setCell ⟨g, 2, none⟩ a2).setCell ⟨g, 3, none⟩ a3).setCell ⟨g, 4, none⟩ a4).setCell ⟨g, 5, none⟩ a5).setCell ⟨g, 6, none⟩ a6).setCell ⟨g, 7, none⟩ a7).setCell ⟨g, 8, none⟩ a8).setCell ⟨g, 9, none⟩ a9).setCell ⟨g, 10, none⟩ a10).setCell ⟨g, 11, none⟩ a11).setCell ⟨g, 12, none⟩ a12).setCell ⟨g, 13, none⟩ a13).setCell ⟨g, 14, none⟩ a14).setCell ⟨g, 15, none⟩ a15).heap[g]? = some (.cells #[a0, a1, a2, a3, a4, a5, a6, a7, a8, a9, a10, a11, a12, a13, a14, a15] t fr) := by
  have h1 : (w.setCell ⟨g, 0, none⟩ a0).heap[g]? = some (.cells #[a0, x1, x2, x3, x4, x5, x6, x7, x8, x9, x10, x11, x12, x13, x14, x15] t fr) := heap_put h0 0 a0
  have h2 : ((w.setCell ⟨g, 0, none⟩ a0).setCell ⟨g, 1, none⟩ a1).heap[g]? = some (.cells #[a0, a1, x2, x3, x4, x5, x6, x7, x8, x9, x10, x11, x12, x13, x14, x15] t fr) := heap_put h1 1 a1
  have h3 : (((w.setCell ⟨g, 0, none⟩ a0).setCell ⟨g, 1, none⟩ a1).setCell ⟨g, 2, none⟩ a2).heap[g]? = some (.cells #[a0, a1, a2, x3, x4, x5, x6, x7, x8, x9, x10, x11, x12, x13, x14, x15] t fr) := heap_put h2 2 a2
  have h4 : ((((w.setCell ⟨g, 0, none⟩ a0).setCell ⟨g, 1, none⟩ a1).setCell ⟨g, 2, none⟩ a2).setCell ⟨g, 3, none⟩ a3).heap[g]? = some (.cells #[a0, a1, a2, a3, x4, x5, x6, x7, x8, x9, x10, x11, x12, x13, x14, x15] t fr) := heap_put h3 3 a3
  have h5 : (((((w.setCell ⟨g, 0, none⟩ a0).setCell ⟨g, 1, none⟩ a1).setCell ⟨g, 2, none⟩ a2).setCell ⟨g, 3, none⟩ a3).setCell ⟨g, 4, none⟩ a4).heap[g]? = some (.cells #[a0, a1, a2, a3, a4, x5, x6, x7, x8, x9, x10, x11, x12, x13, x14, x15] t fr) := heap_put h4 4 a4
  have h6 : ((((((w.setCell ⟨g, 0, none⟩ a0).setCell ⟨g, 1, none⟩ a1).setCell ⟨g, 2, none⟩ a2).setCell ⟨g, 3, none⟩ a3).setCell ⟨g, 4, none⟩ a4).setCell ⟨g, 5, none⟩ a5).heap[g]? = some (.cells #[a0, a1, a2, a3, a4, a5, x6, x7, x8, x9, x10, x11, x12, x13, x14, x15] t fr) := heap_put h5 5 a5
  have h7 : (((((((w.setCell ⟨g, 0, none⟩ a0).setCell ⟨g, 1, none⟩ a1).setCell ⟨g, 2, none⟩ a2).setCell ⟨g, 3, none⟩ a3).setCell ⟨g, 4, none⟩ a4).setCell ⟨g, 5, none⟩ a5).setCell ⟨g, 6, none⟩ a6).heap[g]? = some (.cells #[a0, a1, a2, a3, a4, a5, a6, x7, x8, x9, x10, x11, x12, x13, x14, x15] t fr) := heap_put h6 6 a6
  have h8 : ((((((((w.setCell ⟨g, 0, none⟩ a0).setCell ⟨g, 1, none⟩ a1).setCell ⟨g, 2, none⟩ a2).setCell ⟨g, 3, none⟩ a3).setCell ⟨g, 4, none⟩ a4).setCell ⟨g, 5, none⟩ a5).setCell ⟨g, 6, none⟩ a6).setCell ⟨g, 7, none⟩ a7).heap[g]? = some (.cells #[a0, a1, a2, a3, a4, a5, a6, a7, x8, x9, x10, x11, x12, x13, x14, x15] t fr) := heap_put h7 7 a7
  have h9 : (((((((((w.setCell ⟨g, 0, none⟩ a0).setCell ⟨g, 1, none⟩ a1).setCell ⟨g, 2, none⟩ a2).setCell ⟨g, 3, none⟩ a3).setCell ⟨g, 4, none⟩ a4).setCell ⟨g, 5, none⟩ a5).setCell ⟨g, 6, none⟩ a6).setCell ⟨g, 7, none⟩ a7).setCell ⟨g, 8, none⟩ a8).heap[g]? = some (.cells #[a0, a1, a2, a3, a4, a5, a6, a7, a8, x9, x10, x11, x12, x13, x14, x15] t fr) := heap_put h8 8 a8
  have h10 : ((((((((((w.setCell ⟨g, 0, none⟩ a0).setCell ⟨g, 1, none⟩ a1).setCell ⟨g, 2, none⟩ a2).setCell ⟨g, 3, none⟩ a3).setCell ⟨g, 4, none⟩ a4).setCell ⟨g, 5, none⟩ a5).setCell ⟨g, 6, none⟩ a6).setCell ⟨g, 7, none⟩ a7).setCell ⟨g, 8, none⟩ a8).setCell ⟨g, 9, none⟩ a9).heap[g]? = some (.cells #[a0, a1, a2, a3, a4, a5, a6, a7, a8, a9, x10, x11, x12, x13, x14, x15] t fr) := heap_put h9 9 a9
  have h11 : (((((((((((w.setCell ⟨g, 0, none⟩ a0).setCell ⟨g, 1, none⟩ a1).setCell ⟨g, 2, none⟩ a2).setCell ⟨g, 3, none⟩ a3).setCell ⟨g, 4, none⟩ a4).setCell ⟨g, 5, none⟩ a5).setCell ⟨g, 6, none⟩ a6).setCell ⟨g, 7, none⟩ a7).setCell ⟨g, 8, none⟩ a8).setCell ⟨g, 9, none⟩ a9).setCell ⟨g, 10, none⟩ a10).heap[g]? = some (.cells #[a0, a1, a2, a3, a4, a5, a6, a7, a8, a9, a10, x11, x12, x13, x14, x15] t fr) := heap_put h10 10 a10
  have h12 : ((((((((((((w.setCell ⟨g, 0, none⟩ a0).setCell ⟨g, 1, none⟩ a1).setCell ⟨g, 2, none⟩ a2).setCell ⟨g, 3, none⟩ a3).setCell ⟨g, 4, none⟩ a4).setCell ⟨g, 5, none⟩ a5).setCell ⟨g, 6, none⟩ a6).setCell ⟨g, 7, none⟩ a7).setCell ⟨g, 8, none⟩ a8).setCell ⟨g, 9, none⟩ a9).setCell ⟨g, 10, none⟩ a10).setCell ⟨g, 11, none⟩ a11).heap[g]? = some (.cells #[a0, a1, a2, a3, a4, a5, a6, a7, a8, a9, a10, a11, x12, x13, x14, x15] t fr) := heap_put h11 11 a11
  have h13 : (((((((((((((w.setCell ⟨g, 0, none⟩ a0).setCell ⟨g, 1, none⟩ a1).setCell ⟨g, 2, none⟩ a2).setCell ⟨g, 3, none⟩ a3).setCell ⟨g, 4, none⟩ a4).setCell ⟨g, 5, none⟩ a5).setCell ⟨g, 6, none⟩ a6).setCell ⟨g, 7, none⟩ a7).setCell ⟨g, 8, none⟩ a8).setCell ⟨g, 9, none⟩ a9).setCell ⟨g, 10, none⟩ a10).setCell ⟨g, 11, none⟩ a11).setCell ⟨g, 12, none⟩ a12).heap[g]? = some (.cells #[a0, a1, a2, a3, a4, a5, a6, a7, a8, a9, a10, a11, a12, x13, x14, x15] t fr) := heap_put h12 12 a12
  have h14 : ((((((((((((((w.setCell ⟨g, 0, none⟩ a0).setCell ⟨g, 1, none⟩ a1).setCell ⟨g, 2, none⟩ a2).setCell ⟨g, 3, none⟩ a3).setCell ⟨g, 4, none⟩ a4).setCell ⟨g, 5, none⟩ a5).setCell ⟨g, 6, none⟩ a6).setCell ⟨g, 7, none⟩ a7).setCell ⟨g, 8, none⟩ a8).setCell ⟨g, 9, none⟩ a9).setCell ⟨g, 10, none⟩ a10).setCell ⟨g, 11, none⟩ a11).setCell ⟨g, 12, none⟩ a12).setCell ⟨g, 13, none⟩ a13).heap[g]? = some (.cells #[a0, a1, a2, a3, a4, a5, a6, a7, a8, a9, a10, a11, a12, a13, x14, x15] t fr) := heap_put h13 13 a13
  have h15 : (((((((((((((((w.setCell ⟨g, 0, none⟩ a0).setCell ⟨g, 1, none⟩ a1).setCell ⟨g, 2, none⟩ a2).setCell ⟨g, 3, none⟩ a3).setCell ⟨g, 4, none⟩ a4).setCell ⟨g, 5, none⟩ a5).setCell ⟨g, 6, none⟩ a6).setCell ⟨g, 7, none⟩ a7).setCell ⟨g, 8, none⟩ a8).setCell ⟨g, 9, none⟩ a9).setCell ⟨g, 10, none⟩ a10).setCell ⟨g, 11, none⟩ a11).setCell ⟨g, 12, none⟩ a12).setCell ⟨g, 13, none⟩ a13).setCell ⟨g, 14, none⟩ a14).heap[g]? = some (.cells #[a0, a1, a2, a3, a4, a5, a6, a7, a8, a9, a10, a11, a12, a13, a14, x15] t fr) := heap_put h14 14 a14
  have h16 : ((((((((((((((((w.setCell ⟨g, 0, none⟩ a0).setCell ⟨g, 1, none⟩ a1).setCell ⟨g, 2, none⟩ a2).setCell ⟨g, 3, none⟩ a3).setCell ⟨g, 4, none⟩ a4).setCell ⟨g, 5, none⟩ a5).setCell ⟨g, 6, none⟩ a6).setCell ⟨g, 7, none⟩ a7).setCell ⟨g, 8, none⟩ a8).setCell ⟨g, 9, none⟩ a9).setCell ⟨g, 10, none⟩ a10).setCell ⟨g, 11, none⟩ a11).setCell ⟨g, 12, none⟩ a12).setCell ⟨g, 13, none⟩ a13).setCell ⟨g, 14, none⟩ a14).setCell ⟨g, 15, none⟩ a15).heap[g]? = some (.cells #[a0, a1, a2, a3, a4, a5, a6, a7, a8, a9, a10, a11, a12, a13, a14, a15] t fr) := heap_put h15 15 a15
  exact h16
theorem chg16 (w : World) (g : Nat) (a0 a1 a2 a3 a4 a5 a6 a7 a8 a9 a10 a11 a12 a13 a14 a15 : Value) : Chg (fun k => k = g) w ((((((((((((((((w.setCell ⟨g, 0, none⟩ a0).setCell ⟨g, 1, none⟩ a1).setCell ⟨g, 2, none⟩ a2).setCell ⟨g, 3, none⟩ a3).setCell ⟨g, 4, none⟩ a4).setCell ⟨g, 5, none⟩ a5).setCell ⟨g, 6, none⟩ a6).setCell ⟨g, 7, none⟩ a7).setCell ⟨g, 8, none⟩ a8).setCell ⟨g, 9, none⟩ a9).setCell ⟨g, 10, none⟩ a10).setCell ⟨g, 11, none⟩ a11).setCell ⟨g, 12, none⟩ a12).setCell ⟨g, 13, none⟩ a13).setCell ⟨g, 14, none⟩ a14).setCell ⟨g, 15, none⟩ a15) := by
  have h0 := Chg.refl (fun k => k = g) w
  have h1 := h0.put ⟨g, 0, none⟩ a0 (.inl rfl)
  have h2 := h1.put ⟨g, 1, none⟩ a1 (.inl rfl)
  have h3 := h2.put ⟨g, 2, none⟩ a2 (.inl rfl)
  have h4 := h3.put ⟨g, 3, none⟩ a3 (.inl rfl)
  have h5 := h4.put ⟨g, 4, none⟩ a4 (.inl rfl)
  have h6 := h5.put ⟨g, 5, none⟩ a5 (.inl rfl)
  have h7 := h6.put ⟨g, 6, none⟩ a6 (.inl rfl)
  have h8 := h7.put ⟨g, 7, none⟩ a7 (.inl rfl)
  have h9 := h8.put ⟨g, 8, none⟩ a8 (.inl rfl)
  have h10 := h9.put ⟨g, 9, none⟩ a9 (.inl rfl)
  have h11 := h10.put ⟨g, 10, none⟩ a10 (.inl rfl)
  have h12 := h11.put ⟨g, 11, none⟩ a11 (.inl rfl)
  have h13 := h12.put ⟨g, 12, none⟩ a12 (.inl rfl)
  have h14 := h13.put ⟨g, 13, none⟩ a13 (.inl rfl)
  have h15 := h14.put ⟨g, 14, none⟩ a14 (.inl rfl)
  have h16 := h15.put ⟨g, 15, none⟩ a15 (.inl rfl)
  exact h16

set_option maxRecDepth 100000 in
set_option maxHeartbeats 4000000 in
theorem fail_any (resp : Bool) (g : Nat) (M : Nat) (F lv : Value) (n : Nat) (wh : Bool) (e1 : Nat) (q : Parts) (fv : Value) (e0 : Nat) (w : World) (hF : IsFn F) (h : w.heap[g]? = some (.cells (rc resp M F lv n wh e1 resp q fv) 97 (0, 0))) :
    Calls Tryd.prog 72 #[.pointer (some ⟨g, 0, none⟩), .int .i64 (e0 : Int)] w fun e w' => e = .returned (.tuple #[]) ∧ w'.heap[g]? = some (.cells (rc false M F (.slice none 0 0) 0 false e0 false .none (.slice none 0 0)) 97 (0, 0)) ∧ Chg (fun k => k = g) w w' := by
  obtain ⟨fn, fi, ca, rfl⟩ := hF
  have c0 := rc0 h
  have c1 := rc1 h
  have c2 := rc2 h
  have c3 := rc3 h
  have c4 := rc4 h
  have c5 := rc5 h
  have c6 := rc6 h
  have c7 := rc7 h
  have c8 := rc8 h
  have c9 := rc9 h
  have c10 := rc10 h
  have c11 := rc11 h
  have c12 := rc12 h
  have c13 := rc13 h
  have c14 := rc14 h
  have c15 := rc15 h
  have f0 := free h 0
  have f1 := free h 1
  have f2 := free h 2
  have f3 := free h 3
  have f4 := free h 4
  have f5 := free h 5
  have f6 := free h 6
  have f7 := free h 7
  have f8 := free h 8
  have f9 := free h 9
  have f10 := free h 10
  have f11 := free h 11
  have f12 := free h 12
  have f13 := free h 13
  have f14 := free h 14
  have f15 := free h 15
  have HB := Lib.hid h
  clear h
  go_enter Tryd.func72, Tryd.ntmps72
  go_wp2_with fail
  go_end0
  exact ⟨rfl, put16 HB.out _ _ _ _ _ _ _ _ _ _ _ _ _ _ _ _, chg16 _ _ _ _ _ _ _ _ _ _ _ _ _ _ _ _ _ _⟩
end Go.Proofs.YtoofdompafkddaaDoor.Hd
