/-
  What is done with a line that ended: requestLine, statusLine, the closure of opening: what each leaves. Condition: the table of token bytes.
-/
import Derived.Test.YtlnlihkljnkhiaaDoorHdRep
import Derived.Test.YtlnlihkljnkhiaaDoorLnSt
import Derived.Laws.EntriesVeiled
namespace Go.Proofs.YtlnlihkljnkhiaaDoor.Hd
open Go.RowKit Go.Proofs.YtlnlihkljnkhiaaDoor.Tk Go.Proofs.YtlnlihkljnkhiaaDoor.Fd Go.Proofs.YtlnlihkljnkhiaaDoor.Ln
set_option linter.unusedVariables false

section
variable {w : World} {g : Nat} {resp : Bool} {M : Nat} {F lv : Value} {n : Nat} {wh : Bool} {e : Nat} {rq : Bool} {q : Parts} {fv : Value}
theorem rc7 (h : w.heap[g]? = some (.cells (rc resp M F lv n wh e rq q fv) 64 (0, 0))) : w.cell? ⟨g, 7, none⟩ = some (.string (qA rq q)) := by rw [Lib.cell_of_heap h]; rfl
theorem rc8 (h : w.heap[g]? = some (.cells (rc resp M F lv n wh e rq q fv) 64 (0, 0))) : w.cell? ⟨g, 8, none⟩ = some (.string (qB rq q)) := by rw [Lib.cell_of_heap h]; rfl
theorem rc9 (h : w.heap[g]? = some (.cells (rc resp M F lv n wh e rq q fv) 64 (0, 0))) : w.cell? ⟨g, 9, none⟩ = some (.int .i64 (qM rq q)) := by rw [Lib.cell_of_heap h]; rfl
theorem rc10 (h : w.heap[g]? = some (.cells (rc resp M F lv n wh e rq q fv) 64 (0, 0))) : w.cell? ⟨g, 10, none⟩ = some (.slice none 0 0) := by rw [Lib.cell_of_heap h]; rfl
theorem rc11 (h : w.heap[g]? = some (.cells (rc resp M F lv n wh e rq q fv) 64 (0, 0))) : w.cell? ⟨g, 11, none⟩ = some (.int .i64 (sM rq q)) := by rw [Lib.cell_of_heap h]; rfl
theorem rc12 (h : w.heap[g]? = some (.cells (rc resp M F lv n wh e rq q fv) 64 (0, 0))) : w.cell? ⟨g, 12, none⟩ = some (.int .i64 (sC rq q)) := by rw [Lib.cell_of_heap h]; rfl
theorem rc13 (h : w.heap[g]? = some (.cells (rc resp M F lv n wh e rq q fv) 64 (0, 0))) : w.cell? ⟨g, 13, none⟩ = some (.string (sA rq q)) := by rw [Lib.cell_of_heap h]; rfl
theorem rc14 (h : w.heap[g]? = some (.cells (rc resp M F lv n wh e rq q fv) 64 (0, 0))) : w.cell? ⟨g, 14, none⟩ = some (.slice none 0 0) := by rw [Lib.cell_of_heap h]; rfl
end
theorem rc_putQ {w : World} {g : Nat} {M : Nat} {F lv : Value} {n : Nat} {q : Parts} {fv : Value} (h : w.heap[g]? = some (.cells (rc false M F lv n false 0 false q fv) 64 (0, 0))) (t : Parts) :
    ((((w.setCell ⟨g, 7, none⟩ (.string t.a)).setCell ⟨g, 8, none⟩ (.string t.b)).setCell ⟨g, 9, none⟩ (.int .i64 t.m)).setCell ⟨g, 10, none⟩ (.slice none 0 0)).heap[g]? = some (.cells (rc false M F lv n false 0 false t fv) 64 (0, 0)) :=
  heap_put (heap_put (heap_put (heap_put h 7 _) 8 _) 9 _) 10 _
theorem rc_putS {w : World} {g : Nat} {M : Nat} {F lv : Value} {n : Nat} {q : Parts} {fv : Value} (h : w.heap[g]? = some (.cells (rc true M F lv n false 0 true q fv) 64 (0, 0))) (t : Parts) :
    ((((w.setCell ⟨g, 11, none⟩ (.int .i64 t.m)).setCell ⟨g, 12, none⟩ (.int .i64 t.c)).setCell ⟨g, 13, none⟩ (.string t.a)).setCell ⟨g, 14, none⟩ (.slice none 0 0)).heap[g]? = some (.cells (rc true M F lv n false 0 true t fv) 64 (0, 0)) :=
  heap_put (heap_put (heap_put (heap_put h 11 _) 12 _) 13 _) 14 _
theorem rc_putF {w : World} {g : Nat} {resp : Bool} {M : Nat} {F lv : Value} {n : Nat} {wh : Bool} {e : Nat} {rq : Bool} {q : Parts} {fv : Value} (h : w.heap[g]? = some (.cells (rc resp M F lv n wh e rq q fv) 64 (0, 0))) (m : Nat) (G : Value) :
    ((w.setCell ⟨g, 1, none⟩ (.int .i64 (m : Int))).setCell ⟨g, 2, none⟩ G).heap[g]? = some (.cells (rc resp m G lv n wh e rq q fv) 64 (0, 0)) :=
  heap_put (heap_put h 1 _) 2 _

/-- A call that turned a reader's block alone. -/
def ClosPost (g : Nat) (cs : Array Value) (e0 : Nat) (w : World) (e : Ending) (w' : World) : Prop :=
  e = .returned (.int .i64 (e0 : Int)) ∧ w'.heap[g]? = some (.cells cs 64 (0, 0)) ∧ Chg (fun k => k = g) w w'

set_option maxRecDepth 100000 in
set_option maxHeartbeats 4000000 in
theorem requestLine_any (g : Nat) (M : Nat) (F lv : Value) (n : Nat) (q : Parts) (fv : Value) (t : ByteArray) (w : World) (h : w.heap[g]? = some (.cells (rc false M F lv n false 0 false q fv) 64 (0, 0))) (hT : Tab w) :
    Calls Tryd.prog 19 #[.pointer (some ⟨g, 0, none⟩), .string t] w (ClosPost g (rc false M F lv n false 0 false (reqOf t).1 fv) (reqOf t).2 w) := by
  have HV := Lib.hid (reqVal_of t)
  obtain ⟨R, hR⟩ : ∃ R, R = reqOf t := ⟨_, rfl⟩
  rw [← hR] at HV
  rw [← hR]
  have HB := Lib.hid h
  clear hR h
  go_enter Tryd.func19, Tryd.ntmps19
  go_wp2_with fail
  refine (request_any t _ hT).mono ?_
  rintro e w1 ⟨rfl, hb1⟩
  rw [HV.out]
  have hK := Bl.old hb1 (block_lt HB.out) HB.out
  have c7 := rc7 hK
  have c8 := rc8 hK
  have c9 := rc9 hK
  have c10 := rc10 hK
  have f7 := free hK 7
  have f8 := free hK 8
  have f9 := free hK 9
  have f10 := free hK 10
  have HK := Lib.hid (rc_putQ hK R.1)
  have HC := Lib.hid (Chg.of_below (O := fun k => k = g) hb1)
  clear hK hb1
  go_wp2_with fail
  go_ret
  exact ⟨rfl, HK.out, (((HC.out.put _ _ (.inl rfl)).put _ _ (.inl rfl)).put _ _ (.inl rfl)).put _ _ (.inl rfl)⟩

set_option maxRecDepth 100000 in
set_option maxHeartbeats 4000000 in
theorem statusLine_any (g : Nat) (M : Nat) (F lv : Value) (n : Nat) (q : Parts) (fv : Value) (t : ByteArray) (w : World) (h : w.heap[g]? = some (.cells (rc true M F lv n false 0 true q fv) 64 (0, 0))) :
    Calls Tryd.prog 20 #[.pointer (some ⟨g, 0, none⟩), .string t] w (ClosPost g (rc true M F lv n false 0 true (stOf t).1 fv) (stOf t).2 w) := by
  have HV := Lib.hid (stVal_of t)
  obtain ⟨R, hR⟩ : ∃ R, R = stOf t := ⟨_, rfl⟩
  rw [← hR] at HV
  rw [← hR]
  have HB := Lib.hid h
  clear hR h
  go_enter Tryd.func20, Tryd.ntmps20
  go_wp2_with fail
  refine (status_any t _).mono ?_
  rintro e w1 ⟨rfl, hb1⟩
  rw [HV.out]
  have hK := Bl.old hb1 (block_lt HB.out) HB.out
  have c11 := rc11 hK
  have c12 := rc12 hK
  have c13 := rc13 hK
  have c14 := rc14 hK
  have f11 := free hK 11
  have f12 := free hK 12
  have f13 := free hK 13
  have f14 := free hK 14
  have HK := Lib.hid (rc_putS hK R.1)
  have HC := Lib.hid (Chg.of_below (O := fun k => k = g) hb1)
  clear hK hb1
  go_wp2_with fail
  go_ret
  exact ⟨rfl, HK.out, (((HC.out.put _ _ (.inl rfl)).put _ _ (.inl rfl)).put _ _ (.inl rfl)).put _ _ (.inl rfl)⟩

theorem Tab.chg {O : Nat → Prop} {w w' : World} (h : Tab w) (hc : Chg O w w') (ho : ¬ O 0) : Tab w' := fun n hn => by
  rw [World.cell?_of_block (w := w) (hc.block 0 h.lt ho)]; exact h n hn
/-- The closure of opening at an empty line. -/
theorem opening_empty (g gb : Nat) (w : World) :
    Calls Tryd.prog 31 #[.pointer (some ⟨g, 0, none⟩), .string ⟨#[]⟩, .pointer (some ⟨gb, 0, none⟩)] w fun e w' => e = .returned (.int .i64 0) ∧ w = w' := by
  go_enter Tryd.func31, Tryd.ntmps31
  go_wp2_with fail
  go_ret
  exact ⟨rfl, rfl⟩
set_option maxRecDepth 100000 in
set_option maxHeartbeats 4000000 in
theorem opening_any (resp : Bool) (g gb : Nat) (M : Nat) (F lv : Value) (n : Nat) (q : Parts) (fv : Value) (t : ByteArray) (w : World) (h : w.heap[g]? = some (.cells (rc resp M F lv n false 0 resp q fv) 64 (0, 0)))
    (hx : w.heap[gb]? = some (.cells #[firstFn resp] 58 (0, 0))) (hT : Tab w) (hg : g ≠ 0) (ht : 0 < t.size) :
    Calls Tryd.prog 31 #[.pointer (some ⟨g, 0, none⟩), .string t, .pointer (some ⟨gb, 0, none⟩)] w
      (ClosPost g (rc resp 8192 (.func (.func 32) #[] #[]) lv n false 0 resp (firstOf resp t).1 fv) (firstOf resp t).2 w) := by
  have ht0 : t.toList.isEmpty = false := text_full ht
  have hxg : gb ≠ g := apart_of hx h (by decide)
  have c1 := rc1 h
  have c2 := rc2 h
  have f1 := free h 1
  have f2 := free h 2
  have hK : ((w.setCell ⟨g, 1, none⟩ (.int .i64 8192)).setCell ⟨g, 2, none⟩ (.func (.func 32) #[] #[])).heap[g]? = some (.cells (rc resp 8192 (.func (.func 32) #[] #[]) lv n false 0 resp q fv) 64 (0, 0)) := rc_putF h 8192 (.func (.func 32) #[] #[])
  have hC := ((Chg.refl (fun k => k = g) w).put ⟨g, 1, none⟩ (.int .i64 8192) (.inl rfl)).put ⟨g, 2, none⟩ (.func (.func 32) #[] #[]) (.inl rfl)
  have hX : ((w.setCell ⟨g, 1, none⟩ (.int .i64 8192)).setCell ⟨g, 2, none⟩ (.func (.func 32) #[] #[])).cell? ⟨gb, 0, none⟩ = some (firstFn resp) := by
    rw [Lib.cell_of_heap (hC.old hxg hx)]; rfl
  have HT := Lib.hid (Tab.chg hT hC (fun e => hg e.symm))
  have HK := Lib.hid hK
  have HC := Lib.hid hC
  clear hK hC hT hx h
  cases resp with
  | false =>
    unfold firstFn at hX
    simp only [Bool.false_eq_true, if_false] at hX
    go_enter Tryd.func31, Tryd.ntmps31
    go_wp2_with fail
    refine (requestLine_any g 8192 _ lv n q fv t _ HK.out HT.out).mono ?_
    rintro e w1 ⟨rfl, hb, hc⟩
    have HC2 := Lib.hid (HC.out.trans hc (fun i hi => .inl hi))
    clear hc hX
    go_wp2_with fail
    go_ret
    exact ⟨rfl, hb, HC2.out⟩
  | true =>
    unfold firstFn at hX
    simp only [if_true] at hX
    go_enter Tryd.func31, Tryd.ntmps31
    go_wp2_with fail
    refine (statusLine_any g 8192 _ lv n q fv t _ HK.out).mono ?_
    rintro e w1 ⟨rfl, hb, hc⟩
    have HC2 := Lib.hid (HC.out.trans hc (fun i hi => .inl hi))
    clear hc hX
    go_wp2_with fail
    go_ret
    exact ⟨rfl, hb, HC2.out⟩
end Go.Proofs.YtlnlihkljnkhiaaDoor.Hd
