/-
  Texts that the law's proof stands on, 4 of them in one file; each one's head says what it proves and under which condition.
-/
import Derived.Test.YtoofdompafkddaaDoorHeadFieldsP2
import Derived.Test.YtoofdompafkddaaDoorHeadFieldsP5
import Derived.Test.YtoofdompafkddaaDoorHeadFieldsP9
import Derived.Deep.RegionWith
import Derived.BigRegion
import Derived.OneCell
import Derived.Laws.Rows
import Derived.RegionTactic
import Derived.Test.YtoofdompafkddaaDoorHeadFieldsP4
/-
  In a seat that has token.Value, too: token.Is stands in TokIs. No condition.
-/

/-
  The closure of line.Request: what it returns, and what it stores. Conditions: at most 1024 bytes; the table of token bytes.
-/
namespace Go.Proofs.YtoofdompafkddaaDoor.Ln
open Go.RowKit Go.Proofs.YtoofdompafkddaaDoor.Tk

/-- Three cells that lie one behind the other. -/
structure C3 (g : Nat) (t0 t1 t2 : TypeId) (a b c : Value) (w : World) : Prop where
  h0 : w.heap[g]? = some (.cells #[a] t0 (0, 0))
  h1 : w.heap[g + 1]? = some (.cells #[b] t1 (0, 0))
  h2 : w.heap[g + 2]? = some (.cells #[c] t2 (0, 0))
theorem C3.put {g : Nat} {t0 t1 t2 : TypeId} {a b c : Value} {w : World} (h : C3 g t0 t1 t2 a b c w) (x y z : Value) :
    C3 g t0 t1 t2 x y z (((w.setCell ⟨g, 0, none⟩ x).setCell ⟨g + 1, 0, none⟩ y).setCell ⟨g + 2, 0, none⟩ z) := by
  have e1 : ∀ v : World, ∀ q : Value, v.heap[g]? = (v.setCell ⟨g + 1, 0, none⟩ q).heap[g]? := fun v q => (heap_setCell_other _ _ _ _ (by show g ≠ g + 1; omega)).symm
  refine ⟨?_, ?_, ?_⟩
  · rw [heap_setCell_other _ _ _ _ (by show g ≠ g + 2; omega), heap_setCell_other _ _ _ _ (by show g ≠ g + 1; omega)]; exact one_setCell h.h0
  · rw [heap_setCell_other _ _ _ _ (by show g + 1 ≠ g + 2; omega)]
    exact one_setCell (by rw [heap_setCell_other _ _ _ _ (by show g + 1 ≠ g; omega)]; exact h.h1)
  · exact one_setCell (by rw [heap_setCell_other _ _ _ _ (by show g + 2 ≠ g + 1; omega), heap_setCell_other _ _ _ _ (by show g + 2 ≠ g; omega)]; exact h.h2)

theorem C3.heap {g : Nat} {t0 t1 t2 : TypeId} {a b c : Value} {w W : World} (h : C3 g t0 t1 t2 a b c w) (e : W.heap = w.heap) : C3 g t0 t1 t2 a b c W := ⟨by rw [e]; exact h.h0, by rw [e]; exact h.h1, by rw [e]; exact h.h2⟩
def put3 (g : Nat) (w : World) (x y z : Value) : World := ((w.setCell ⟨g, 0, none⟩ x).setCell ⟨g + 1, 0, none⟩ y).setCell ⟨g + 2, 0, none⟩ z
theorem put3_below {g : Nat} {w0 w : World} (h : Below g w0 w) (x y z : Value) : Below g w0 (put3 g w x y z) :=
  ((h.setCell (p := ⟨g, 0, none⟩) (Nat.le_refl _) x).setCell (p := ⟨g + 1, 0, none⟩) (by show g ≤ g + 1; omega) y).setCell (p := ⟨g + 2, 0, none⟩) (by show g ≤ g + 2; omega) z
def ReqPost (g : Nat) (l : Bs) (w : World) (e : Ending) (w' : World) : Prop :=
  e = .returned (.bool (!reqOk l)) ∧ C3 g 9 9 3 (.string ⟨(fst l).toArray⟩) (.string ⟨(fst (rst l)).toArray⟩) (.int .i64 (minorOf (rst (rst l)))) w' ∧ Below g w w'

theorem cell_heap {w W : World} (e : W.heap = w.heap) (a : Addr) : W.cell? a = w.cell? a := by unfold World.cell?; rw [e]
theorem SB.heap {lo : Nat} {w W : World} {v : Value} {l : Bs} (h : SB lo w v l) (e : W.heap = w.heap) : SB lo W v l := by
  rcases h with ⟨b, off, cap, hv, hcap, hc, hlo⟩ | h
  · exact .inl ⟨b, off, cap, hv, hcap, fun j hj => by rw [cell_heap e]; exact hc j hj, hlo⟩
  · exact .inr h
theorem SB.set {lo : Nat} {w : World} {v : Value} {l : Bs} (h : SB lo w v l) (p : Addr) (x : Value) (hp : p.block < lo) : SB lo (w.setCell p x) v l := by
  rcases h with ⟨b, off, cap, hv, hcap, hc, hlo⟩ | h
  · refine .inl ⟨b, off, cap, hv, hcap, fun j hj => ?_, hlo⟩
    have e := hc j hj
    unfold World.cell? at e ⊢
    rw [heap_setCell_other _ _ _ _ (by show b ≠ p.block; omega)]
    exact e
  · exact .inr h
theorem tab_heap {w W : World} (h : Tab w) (e : W.heap = w.heap) : Tab W := fun n hn => by rw [cell_heap e]; exact h n hn
theorem tab_set {w : World} (h : Tab w) (p : Addr) (x : Value) (hp : 0 < p.block) : Tab (w.setCell p x) :=
  h.below (Below.setCell (Below.refl (0 + 1) w) (p := p) (by omega) x) (by omega)
theorem size_le {l : Bs} {n : Nat} (h : l.length ≤ n) : (⟨l.toArray⟩ : ByteArray).size ≤ n := by show l.toArray.size ≤ _; rw [List.size_toArray]; exact h

set_option maxHeartbeats 4000000 in
theorem reqClosure_any (g : Nat) (v : Value) (l : Bs) (w : World) (a b c : Value) (hl : l.length ≤ 1024) (hS : SB (g + 3) w v l) (hC : C3 g 9 9 3 a b c w) (hT : Tab w) (hg : 0 < g) :
    Calls Tryd.prog 87 #[v, .pointer (some ⟨g, 0, none⟩), .pointer (some ⟨g + 1, 0, none⟩), .pointer (some ⟨g + 2, 0, none⟩)] w (ReqPost g l w) := by
  have HS := Lib.hid hS
  have HT := Lib.hid hT
  have HC := Lib.hid hC
  clear hS hT hC
  go_enter Tryd.func87, Tryd.ntmps87
  go_wp2_with fail
  refine (cut_any (g + 3) v l _ hl HS.out).mono ?_
  rintro e w1 ⟨x1, y1, rfl, hx1, hy1, n1, hw1⟩
  have HX1 := Lib.hid hx1
  have HY1 := Lib.hid (show SB (g + 3) w1 y1 (rst l) from by rw [hw1]; exact hy1)
  have HW1 := Lib.hid hw1
  clear hx1 hy1 hw1
  go_wp2_with fail
  refine (cut_any (g + 3) y1 (rst l) _ (Nat.le_trans (rst_le l) hl) HY1.out).mono ?_
  rintro e w2 ⟨x2, y2, rfl, hx2, hy2, n2, hw2⟩
  have hw : w2.heap = w.heap := by rw [hw2, HW1.out]; rfl
  have HH := Lib.hid hw
  have HX := Lib.hid (HX1.out.heap hw)
  have HX2 := Lib.hid (hx2.heap (show w2.heap = w1.heap from by rw [hw2]; rfl))
  have HY2 := Lib.hid (hy2.heap (show w2.heap = w1.heap from by rw [hw2]; rfl))
  have hb1 : ∀ W : World, W.heap = w2.heap → (convert 22 9 x1).run Tryd.prog W = .ok (.string ⟨(fst l).toArray⟩) W := fun W e => run_back W (HX.out.heap e)
  have hb2 : ∀ W : World, W.heap = w2.heap → (convert 22 9 x2).run Tryd.prog W = .ok (.string ⟨(fst (rst l)).toArray⟩) W := fun W e => run_back W (HX2.out.heap e)
  have hb2s : ∀ (W : World) (x : Value), W.heap = (w2.setCell ⟨g, 0, none⟩ x).heap → (convert 22 9 x2).run Tryd.prog W = .ok (.string ⟨(fst (rst l)).toArray⟩) W := fun W x e => run_back W ((HX2.out.set ⟨g, 0, none⟩ x (by show g < g + 3; omega)).heap e)
  obtain ⟨A, hA⟩ : ∃ A : ByteArray, A = ⟨(fst l).toArray⟩ := ⟨_, rfl⟩
  obtain ⟨B, hB⟩ : ∃ B : ByteArray, B = ⟨(fst (rst l)).toArray⟩ := ⟨_, rfl⟩
  obtain ⟨M, hM⟩ : ∃ M : Int, M = minorOf (rst (rst l)) := ⟨_, rfl⟩
  have HA := Lib.hid hA
  have HB := Lib.hid hB
  have HM := Lib.hid hM
  have HSA := Lib.hid (show A.size ≤ maxLen from by rw [hA]; exact size_le (by unfold maxLen; have := fst_le l; omega))
  have HSB := Lib.hid (show B.size ≤ maxLen from by rw [hB]; exact size_le (by unfold maxLen; have := fst_le (rst l); have := rst_le l; omega))
  have HR := Lib.hid (show reqOk l = (isTok A.data.toList && isTgt B.data.toList && isMin M) from by rw [hA, hB, hM]; rfl)
  have c0 : w2.cell? ⟨g, 0, none⟩ = some a := by rw [cell_heap hw]; exact cell_of_one HC.out.h0
  have f0 : w2.frozen? ⟨g, 0, none⟩ = false := free_of_one (by rw [hw]; exact HC.out.h0)
  have c1 : w2.cell? ⟨g + 1, 0, none⟩ = some b := by rw [cell_heap hw]; exact cell_of_one HC.out.h1
  have f1 : w2.frozen? ⟨g + 1, 0, none⟩ = false := free_of_one (by rw [hw]; exact HC.out.h1)
  have c2 : w2.cell? ⟨g + 2, 0, none⟩ = some c := by rw [cell_heap hw]; exact cell_of_one HC.out.h2
  have f2 : w2.frozen? ⟨g + 2, 0, none⟩ = false := free_of_one (by rw [hw]; exact HC.out.h2)
  rw [← hA] at hb1
  rw [← hB] at hb2 hb2s
  have k1 := hb1 w2.drew rfl
  have k1m := fun m => hb1 (w2.drewN m) rfl
  have k2 := hb2 w2.drew rfl
  have k2m := fun m => hb2 (w2.drewN m) rfl
  have k2s := fun x => hb2s (w2.drew.setCell ⟨g, 0, none⟩ x) x rfl
  have k2t := fun x => hb2s (w2.setCell ⟨g, 0, none⟩ x).drew x rfl
  have k2sm := fun m x => hb2s ((w2.drewN m).setCell ⟨g, 0, none⟩ x) x rfl
  have k2tm := fun m x => hb2s ((w2.setCell ⟨g, 0, none⟩ x).drewN m) x rfl
  have s0 := Lib.hid HY2.out
  have s1 := Lib.hid fun x => HY2.out.set ⟨g, 0, none⟩ x (by show g < g + 3; omega)
  have s2 := Lib.hid fun x y => (HY2.out.set ⟨g, 0, none⟩ x (by show g < g + 3; omega)).set ⟨g + 1, 0, none⟩ y (by show g + 1 < g + 3; omega)
  have HTab := Lib.hid (show ∀ x y z, Tab (put3 g w2 x y z) from fun x y z => tab_set (tab_set (tab_set (tab_heap HT.out hw) ⟨g, 0, none⟩ x hg) ⟨g + 1, 0, none⟩ y (by show _ < g + 1; omega)) ⟨g + 2, 0, none⟩ z (by show _ < g + 2; omega))
  have HC3 := Lib.hid (show ∀ x y z, C3 g 9 9 3 x y z (put3 g w2 x y z) from fun x y z => (HC.out.heap hw).put x y z)
  have HBel := Lib.hid (show ∀ x y z, Below g w (put3 g w2 x y z) from fun x y z => put3_below (by rw [hw2, HW1.out]; exact Below.mk rfl rfl rfl (by exact Nat.le_refl _) (fun _ _ => rfl)) x y z)
  clear hb2s
  clear hb1 hb2
  clear hx2 hy2 hw2 hw hA hB hM HX1 HY1 HW1
  go_wp2_with fail
  go_region_with (first | (go_at_call 89; refine (readMinor_any (g + 3) y2 (rst (rst l)) _ (by first | exact s0.out.heap (by rfl) | exact (s1.out _).heap (by rfl) | exact (s2.out _ _).heap (by rfl))).mono ?_; rintro e w' ⟨rfl, m, rfl⟩; rw [← HM.out]))
  all_goals
    go_wp2_with fail
    refine (is_any A _ HSA.out (tab_heap (HTab.out _ _ _) (by rfl))).mono ?_
    rintro e w' ⟨rfl, rfl⟩
    cases h1 : isTok A.data.toList with
    | false =>
      have HV := Lib.hid (show reqOk l = false from by rw [HR.out, h1]; rfl)
      clear h1
      go_wp2_with fail
      go_ret
      exact ⟨by rw [HV.out]; rfl, by rw [← HA.out, ← HB.out, ← HM.out]; exact (HC3.out _ _ _).heap (by rfl), Below.mk (HBel.out (.string A) (.string B) (.int .i64 M)).os (HBel.out (.string A) (.string B) (.int .i64 M)).tape (HBel.out (.string A) (.string B) (.int .i64 M)).output (HBel.out (.string A) (.string B) (.int .i64 M)).size (HBel.out (.string A) (.string B) (.int .i64 M)).block⟩
    | true =>
      have HI1 := Lib.hid h1
      clear h1
      go_wp2_with fail
      refine (isTarget_any B _ HSB.out).mono ?_
      rintro e w' ⟨rfl, rfl⟩
      cases h2 : isTgt B.data.toList with
      | false =>
        have HV := Lib.hid (show reqOk l = false from by rw [HR.out, h2, HI1.out]; rfl)
        clear h2
        go_wp2_with fail
        go_ret
        exact ⟨by rw [HV.out]; rfl, by rw [← HA.out, ← HB.out, ← HM.out]; exact (HC3.out _ _ _).heap (by rfl), Below.mk (HBel.out (.string A) (.string B) (.int .i64 M)).os (HBel.out (.string A) (.string B) (.int .i64 M)).tape (HBel.out (.string A) (.string B) (.int .i64 M)).output (HBel.out (.string A) (.string B) (.int .i64 M)).size (HBel.out (.string A) (.string B) (.int .i64 M)).block⟩
      | true =>
        have HI2 := Lib.hid h2
        clear h2
        go_wp2_with fail
        refine (isMinor_any M _).mono ?_
        rintro e w' ⟨rfl, rfl⟩
        have HV := Lib.hid (show reqOk l = isMin M from by rw [HR.out, HI2.out, HI1.out]; rfl)
        go_wp2_with fail
        go_ret
        exact ⟨by rw [HV.out]; rfl, by rw [← HA.out, ← HB.out, ← HM.out]; exact (HC3.out _ _ _).heap (by rfl), Below.mk (HBel.out (.string A) (.string B) (.int .i64 M)).os (HBel.out (.string A) (.string B) (.int .i64 M)).tape (HBel.out (.string A) (.string B) (.int .i64 M)).output (HBel.out (.string A) (.string B) (.int .i64 M)).size (HBel.out (.string A) (.string B) (.int .i64 M)).block⟩
end Go.Proofs.YtoofdompafkddaaDoor.Ln
/-
  line.fault (with the closure of line.Request) and line.Request: what each returns. Condition: the table of token bytes.
-/
namespace Go.Proofs.YtoofdompafkddaaDoor.Ln
open Go.RowKit Go.Proofs.YtoofdompafkddaaDoor.Tk

theorem holds_new (w : World) (s : ByteArray) (cap : Nat) (t : TypeId) (fr : Nat × Nat) : Holds (w.alloc (.cells (bytesRow s cap) t fr)) w.heap.size 0 s.data.toList := by
  intro j hj
  rw [Nat.zero_add, World.cell?_alloc_mark, bytesRow_at s cap j (by simpa using hj)]
  simp
theorem sb_new (lo : Nat) (w : World) (s : ByteArray) (cap : Nat) (t : TypeId) (fr : Nat × Nat) (hcap : s.size ≤ cap) (hlo : lo ≤ w.heap.size) : SB lo (w.alloc (.cells (bytesRow s cap) t fr)) (.slice (some ⟨w.heap.size, 0, none⟩) s.size cap) s.data.toList :=
  .inl ⟨w.heap.size, 0, cap, by simp, by simpa using hcap, holds_new w s cap t fr, hlo⟩
theorem C3.lt {g : Nat} {t0 t1 t2 : TypeId} {a b c : Value} {w : World} (h : C3 g t0 t1 t2 a b c w) : g + 3 ≤ w.heap.size := (Array.getElem?_eq_some_iff.1 h.h2).1
theorem C3.alloc {g : Nat} {t0 t1 t2 : TypeId} {a b c : Value} {w : World} (h : C3 g t0 t1 t2 a b c w) (o : Obj) : C3 g t0 t1 t2 a b c (w.alloc o) := by
  have := h.lt
  refine ⟨?_, ?_, ?_⟩
  · show (w.heap.push o)[g]? = _; rw [Array.getElem?_push_lt (by omega)]; exact (Array.getElem?_eq_getElem (by omega)).symm.trans h.h0
  · show (w.heap.push o)[g + 1]? = _; rw [Array.getElem?_push_lt (by omega)]; exact (Array.getElem?_eq_getElem (by omega)).symm.trans h.h1
  · show (w.heap.push o)[g + 2]? = _; rw [Array.getElem?_push_lt (by omega)]; exact (Array.getElem?_eq_getElem (by omega)).symm.trans h.h2
theorem tab_alloc {w : World} (h : Tab w) (o : Obj) : Tab (w.alloc o) := h.below ((Below.refl w.heap.size w).alloc (Nat.le_refl _) o) h.lt

def FaultPost (g : Nat) (s : ByteArray) (w : World) (e : Ending) (w' : World) : Prop :=
  e = .returned (.int .i64 (if reqOk s.data.toList then 0 else 30)) ∧ C3 g 9 9 3 (.string ⟨(fst s.data.toList).toArray⟩) (.string ⟨(fst (rst s.data.toList)).toArray⟩) (.int .i64 (minorOf (rst (rst s.data.toList)))) w' ∧ Below g w w'

set_option maxHeartbeats 1000000 in
theorem fault_big (s : ByteArray) (f : FuncId) (caps : Array Value) (w : World) (hs : 1024 < s.size) :
    Calls Tryd.prog 93 #[.string s, .func (.func f) #[] caps] w fun e w' => e = .returned (.int .i64 3) ∧ w = w' := by
  go_enter Tryd.func93, Tryd.ntmps93
  go_wp2_with fail
  go_ret
  exact ⟨rfl, rfl⟩

set_option maxHeartbeats 1000000 in
theorem fault_req (g : Nat) (s : ByteArray) (w : World) (a b c : Value) (hs : ¬ 1024 < s.size) (hC : C3 g 9 9 3 a b c w) (hT : Tab w) (hg : 0 < g) :
    Calls Tryd.prog 93 #[.string s, .func (.func 87) #[] #[.pointer (some ⟨g, 0, none⟩), .pointer (some ⟨g + 1, 0, none⟩), .pointer (some ⟨g + 2, 0, none⟩)]] w (FaultPost g s w) := by
  have hconv := fun W : World => run_bytes_of_string (P := Tryd.prog) W 9 22 5 s Tryd.underlying9 Tryd.underlying22 Tryd.underlying5
  have HT := Lib.hid hT
  have HC := Lib.hid hC
  have hgw := hC.lt
  clear hT hC
  go_enter Tryd.func93, Tryd.ntmps93
  go_wp2_with fail
  refine (reqClosure_any g _ s.data.toList _ a b c (by simp; omega) ((sb_new (g + 3) w s _ _ _ (grownCap_ge _ _ _ _) (by omega)).heap (by rfl)) ((HC.out.alloc _).heap (by rfl)) (tab_heap (tab_alloc HT.out _) (by rfl)) hg).mono ?_
  rintro e w1 ⟨rfl, hc, hb⟩
  have HCC := Lib.hid hc
  have HBB := Lib.hid hb
  clear hc hb
  cases hr : reqOk s.data.toList with
  | true =>
    have HR := Lib.hid hr
    clear hr
    go_wp2_with fail
    go_ret
    exact ⟨by rw [HR.out]; rfl, HCC.out, (((Below.refl g w).alloc (by omega) _).drew.trans HBB.out)⟩
  | false =>
    have HR := Lib.hid hr
    clear hr
    go_wp2_with fail
    go_ret
    exact ⟨by rw [HR.out]; rfl, HCC.out, (((Below.refl g w).alloc (by omega) _).drew.trans HBB.out)⟩

theorem results3 {fn : Func} {p0 p1 p2 u : Tmp} (h : fn.results = #[.cell p0 9, .cell p1 9, .cell p2 3, .tmp u]) (tmps : Array Value) (w : World) (g : Nat) (a b c : Value)
    (hp0 : tmps.getD p0 undef = .pointer (some ⟨g, 0, none⟩)) (hp1 : tmps.getD p1 undef = .pointer (some ⟨g + 1, 0, none⟩)) (hp2 : tmps.getD p2 undef = .pointer (some ⟨g + 2, 0, none⟩)) (hC : C3 g 9 9 3 a b c w) :
    (results fn tmps).run Tryd.prog w = .ok (.tuple #[a, b, c, tmps.getD u undef]) w := by
  have c0 := cell_of_one hC.h0
  have c1 := cell_of_one hC.h1
  have c2 := cell_of_one hC.h2
  simp only [Array.getD_eq_getD_getElem?] at hp0 hp1 hp2
  simp [results, h, hp0, hp1, hp2, go_sem, c0, c1, c2]
theorem push_old (h : Array Obj) (o : Obj) (k : Nat) (hk : k < h.size) : (h.push o)[k]? = h[k]? := by rw [Array.getElem?_push_lt hk, Array.getElem?_eq_getElem hk]
theorem push_new (h : Array Obj) (o : Obj) : (h.push o)[h.size]? = some o := by simp
theorem c3_new (w : World) (t0 t1 t2 : TypeId) (a b c : Value) : C3 w.heap.size t0 t1 t2 a b c (((w.alloc (.cells #[a] t0)).alloc (.cells #[b] t1)).alloc (.cells #[c] t2)) := by
  refine ⟨?_, ?_, ?_⟩
  · show (((w.heap.push _).push _).push _)[w.heap.size]? = _
    rw [push_old _ _ _ (by simp; omega), push_old _ _ _ (by simp), push_new]
  · show (((w.heap.push _).push _).push _)[w.heap.size + 1]? = _
    rw [push_old _ _ _ (by simp)]
    have := push_new (w.heap.push (.cells #[a] t0)) (.cells #[b] t1)
    rwa [Array.size_push] at this
  · show (((w.heap.push _).push _).push _)[w.heap.size + 2]? = _
    have := push_new ((w.heap.push (.cells #[a] t0)).push (.cells #[b] t1)) (.cells #[c] t2)
    rwa [Array.size_push, Array.size_push] at this
theorem below_new (w : World) (x y z : Obj) : Below w.heap.size w (((w.alloc x).alloc y).alloc z) :=
  (((Below.refl _ _).alloc (Nat.le_refl _) _).alloc (by rw [World.size_alloc]; omega) _).alloc (by rw [World.size_alloc, World.size_alloc]; omega) _

set_option maxHeartbeats 4000000 in
theorem request_any (s : ByteArray) (w : World) (hT : Tab w) :
    Calls Tryd.prog 65 #[.string s] w fun e w' => e = .returned (reqVal s) ∧ Below w.heap.size w w' := by
  have HT := Lib.hid hT
  have hg := hT.lt
  clear hT
  by_cases hs : 1024 < s.size
  · have HV := Lib.hid (show reqVal s = .tuple #[.string ⟨#[]⟩, .string ⟨#[]⟩, .int .i64 0, .int .i64 3] from by unfold reqVal; rw [if_pos hs])
    go_enter Tryd.func65, Tryd.ntmps65
    go_wp2_with fail
    refine (fault_big s _ _ _ hs).mono ?_
    rintro e w' ⟨rfl, rfl⟩
    go_wp2_with fail
    refine bodyPost_ret (v := .tuple #[.string ⟨#[]⟩, .string ⟨#[]⟩, .int .i64 0, .int .i64 3]) (by simp [results, Tryd.results65, go_sem]) rfl ⟨by rw [HV.out], ?_⟩
    exact below_new w _ _ _
  · cases hr : reqOk s.data.toList with
    | true =>
      have HV := Lib.hid (show reqVal s = .tuple #[.string ⟨(fst s.data.toList).toArray⟩, .string ⟨(fst (rst s.data.toList)).toArray⟩, .int .i64 (minorOf (rst (rst s.data.toList))), .int .i64 0] from by unfold reqVal; rw [if_neg hs, if_pos hr])
      have HR := Lib.hid hr
      clear hr
      go_enter Tryd.func65, Tryd.ntmps65
      go_wp2_with fail
      refine (fault_req w.heap.size s _ _ _ _ hs (c3_new w _ _ _ _ _ _) (tab_alloc (tab_alloc (tab_alloc HT.out _) _) _) hg).mono ?_
      rintro e w1 ⟨rfl, hc, hb⟩
      rw [HR.out]
      have HCC := Lib.hid hc
      have HBB := Lib.hid hb
      have c0 := cell_of_one hc.h0
      have c1 := cell_of_one hc.h1
      have c2 := cell_of_one hc.h2
      have f0 := free_of_one hc.h0
      have f1 := free_of_one hc.h1
      have f2 := free_of_one hc.h2
      clear hc hb
      go_wp2_with fail
      go_region
      all_goals
        go_wp2_with fail
        refine bodyPost_ret (results3 rfl _ _ w.heap.size _ _ _ rfl rfl rfl ((HCC.out.put _ _ _).heap (by rfl))) rfl ⟨by rw [HV.out]; rfl, ?_⟩
        have h := put3_below (g := w.heap.size) ((below_new w _ _ _).trans HBB.out) (.string ⟨(fst s.data.toList).toArray⟩) (.string ⟨(fst (rst s.data.toList)).toArray⟩) (.int .i64 (minorOf (rst (rst s.data.toList))))
        exact Below.mk h.os h.tape h.output h.size h.block
    | false =>
      have HV := Lib.hid (show reqVal s = .tuple #[.string ⟨#[]⟩, .string ⟨#[]⟩, .int .i64 0, .int .i64 30] from by unfold reqVal; rw [if_neg hs, if_neg (by rw [hr]; simp)])
      have HR := Lib.hid hr
      clear hr
      go_enter Tryd.func65, Tryd.ntmps65
      go_wp2_with fail
      refine (fault_req w.heap.size s _ _ _ _ hs (c3_new w _ _ _ _ _ _) (tab_alloc (tab_alloc (tab_alloc HT.out _) _) _) hg).mono ?_
      rintro e w1 ⟨rfl, hc, hb⟩
      rw [HR.out]
      have HCC := Lib.hid hc
      have HBB := Lib.hid hb
      have c0 := cell_of_one hc.h0
      have c1 := cell_of_one hc.h1
      have c2 := cell_of_one hc.h2
      have f0 := free_of_one hc.h0
      have f1 := free_of_one hc.h1
      have f2 := free_of_one hc.h2
      clear hc hb
      go_wp2_with fail
      refine bodyPost_ret (results3 rfl _ _ w.heap.size _ _ _ rfl rfl rfl ((HCC.out.put _ _ _).heap (by rfl))) rfl ⟨by rw [HV.out]; rfl, ?_⟩
      exact put3_below (g := w.heap.size) ((below_new w _ _ _).trans HBB.out) _ _ _
end Go.Proofs.YtoofdompafkddaaDoor.Ln
/-
  The closure of line.Status: what it returns, and what it stores. Condition: at most 1024 bytes.
-/
namespace Go.Proofs.YtoofdompafkddaaDoor.Ln
open Go.RowKit Go.Proofs.YtoofdompafkddaaDoor.Tk

def StPost (g : Nat) (l : Bs) (w : World) (e : Ending) (w' : World) : Prop :=
  e = .returned (.bool (!stOk l)) ∧ C3 g 3 3 9 (.int .i64 (minorOf (fst l))) (.int .i64 (codeOf (fst (rst l)))) (.string ⟨(rst (rst l)).toArray⟩) w' ∧ Below g w w'

set_option maxHeartbeats 4000000 in
theorem stClosure_any (g : Nat) (v : Value) (l : Bs) (w : World) (a b c : Value) (hl : l.length ≤ 1024) (hS : SB (g + 3) w v l) (hC : C3 g 3 3 9 a b c w) :
    Calls Tryd.prog 94 #[v, .pointer (some ⟨g, 0, none⟩), .pointer (some ⟨g + 1, 0, none⟩), .pointer (some ⟨g + 2, 0, none⟩)] w (StPost g l w) := by
  have HS := Lib.hid hS
  have HC := Lib.hid hC
  clear hS hC
  go_enter Tryd.func94, Tryd.ntmps94
  go_wp2_with fail
  refine (cut_any (g + 3) v l _ hl HS.out).mono ?_
  rintro e w1 ⟨x1, y1, rfl, hx1, hy1, n1, hw1⟩
  have HX1 := Lib.hid hx1
  have HY1 := Lib.hid (show SB (g + 3) w1 y1 (rst l) from by rw [hw1]; exact hy1)
  have HW1 := Lib.hid hw1
  clear hx1 hy1 hw1
  go_wp2_with fail
  refine (cut_any (g + 3) y1 (rst l) _ (Nat.le_trans (rst_le l) hl) HY1.out).mono ?_
  rintro e w2 ⟨x2, y2, rfl, hx2, hy2, n2, hw2⟩
  have hw : w2.heap = w.heap := by rw [hw2, HW1.out]; rfl
  have HH := Lib.hid hw
  have HX := Lib.hid (HX1.out.heap hw)
  have HX2 := Lib.hid (hx2.heap (show w2.heap = w1.heap from by rw [hw2]; rfl))
  have HY2 := Lib.hid (hy2.heap (show w2.heap = w1.heap from by rw [hw2]; rfl))
  obtain ⟨M, hM⟩ : ∃ M : Int, M = minorOf (fst l) := ⟨_, rfl⟩
  obtain ⟨N, hN⟩ : ∃ N : Int, N = codeOf (fst (rst l)) := ⟨_, rfl⟩
  obtain ⟨A, hA⟩ : ∃ A : ByteArray, A = ⟨(rst (rst l)).toArray⟩ := ⟨_, rfl⟩
  have HA := Lib.hid hA
  have HN := Lib.hid hN
  have HM := Lib.hid hM
  have hb1 : ∀ W : World, W.heap = w2.heap → (convert 22 9 y2).run Tryd.prog W = .ok (.string A) W := fun W e => by rw [hA]; exact run_back W (HY2.out.heap e)
  have hb2 : ∀ (W : World) (x : Value), W.heap = (w2.setCell ⟨g, 0, none⟩ x).heap → (convert 22 9 y2).run Tryd.prog W = .ok (.string A) W := fun W x e => by rw [hA]; exact run_back W ((HY2.out.set ⟨g, 0, none⟩ x (by show g < g + 3; omega)).heap e)
  have hb3 : ∀ (W : World) (x y : Value), W.heap = ((w2.setCell ⟨g, 0, none⟩ x).setCell ⟨g + 1, 0, none⟩ y).heap → (convert 22 9 y2).run Tryd.prog W = .ok (.string A) W := fun W x y e => by rw [hA]; exact run_back W (((HY2.out.set ⟨g, 0, none⟩ x (by show g < g + 3; omega)).set ⟨g + 1, 0, none⟩ y (by show g + 1 < g + 3; omega)).heap e)
  have HSA := Lib.hid (show A.size ≤ maxLen from by rw [hA]; exact size_le (by unfold maxLen; have := rst_le l; have := rst_le (rst l); omega))
  have HR := Lib.hid (show stOk l = (isMin M && isCod N && isRsn A.data.toList) from by rw [hA, hN, hM]; rfl)
  have HL2 := Lib.hid (show (fst (rst l)).length ≤ 1024 from by have := fst_le (rst l); have := rst_le l; omega)
  have c0 : w2.cell? ⟨g, 0, none⟩ = some a := by rw [cell_heap hw]; exact cell_of_one HC.out.h0
  have f0 : w2.frozen? ⟨g, 0, none⟩ = false := free_of_one (by rw [hw]; exact HC.out.h0)
  have c1 : w2.cell? ⟨g + 1, 0, none⟩ = some b := by rw [cell_heap hw]; exact cell_of_one HC.out.h1
  have f1 : w2.frozen? ⟨g + 1, 0, none⟩ = false := free_of_one (by rw [hw]; exact HC.out.h1)
  have c2 : w2.cell? ⟨g + 2, 0, none⟩ = some c := by rw [cell_heap hw]; exact cell_of_one HC.out.h2
  have f2 : w2.frozen? ⟨g + 2, 0, none⟩ = false := free_of_one (by rw [hw]; exact HC.out.h2)
  have k1 := hb1 w2.drew rfl
  have k1m := fun m => hb1 (w2.drewN m) rfl
  have k2s := fun x => hb2 (w2.drew.setCell ⟨g, 0, none⟩ x) x rfl
  have k2t := fun x => hb2 (w2.setCell ⟨g, 0, none⟩ x).drew x rfl
  have k2sm := fun m x => hb2 ((w2.drewN m).setCell ⟨g, 0, none⟩ x) x rfl
  have k2tm := fun m x => hb2 ((w2.setCell ⟨g, 0, none⟩ x).drewN m) x rfl
  have k3s := fun x y => hb3 ((w2.drew.setCell ⟨g, 0, none⟩ x).setCell ⟨g + 1, 0, none⟩ y) x y rfl
  have k3t := fun x y => hb3 ((w2.setCell ⟨g, 0, none⟩ x).setCell ⟨g + 1, 0, none⟩ y).drew x y rfl
  have k3sm := fun m x y => hb3 (((w2.drewN m).setCell ⟨g, 0, none⟩ x).setCell ⟨g + 1, 0, none⟩ y) x y rfl
  have k3tm := fun m x y => hb3 (((w2.setCell ⟨g, 0, none⟩ x).setCell ⟨g + 1, 0, none⟩ y).drewN m) x y rfl
  have s0 := Lib.hid HX2.out
  have s1 := Lib.hid fun x => HX2.out.set ⟨g, 0, none⟩ x (by show g < g + 3; omega)
  have HC3 := Lib.hid (show ∀ x y z, C3 g 3 3 9 x y z (put3 g w2 x y z) from fun x y z => (HC.out.heap hw).put x y z)
  have HBel := Lib.hid (show ∀ x y z, Below g w (put3 g w2 x y z) from fun x y z => put3_below (by rw [hw2, HW1.out]; exact Below.mk rfl rfl rfl (by exact Nat.le_refl _) (fun _ _ => rfl)) x y z)
  clear hb1 hb2 hb3
  clear hx2 hy2 hw2 hw hA hN hM HX1 HY1 HW1
  go_wp2_with fail
  go_region_with (first
    | (go_at_call 89; refine (readMinor_any (g + 3) x1 (fst l) _ (HX.out.heap (by rfl))).mono ?_; rintro e w' ⟨rfl, m, rfl⟩; rw [← HM.out])
    | (go_at_call 95; refine (readCode_any (g + 3) x2 (fst (rst l)) _ HL2.out (by first | exact s0.out.heap (by rfl) | exact (s1.out _).heap (by rfl))).mono ?_; rintro e w' ⟨rfl, rfl⟩; rw [← HN.out]))
  all_goals
    go_wp2_with fail
    refine (isMinor_any M _).mono ?_
    rintro e w' ⟨rfl, rfl⟩
    cases h1 : isMin M with
    | false =>
      have HV := Lib.hid (show stOk l = false from by rw [HR.out, h1]; rfl)
      clear h1
      go_wp2_with fail
      go_ret
      exact ⟨by rw [HV.out]; rfl, by rw [← HA.out, ← HN.out, ← HM.out]; exact (HC3.out _ _ _).heap (by rfl), Below.mk (HBel.out (.int .i64 M) (.int .i64 N) (.string A)).os (HBel.out (.int .i64 M) (.int .i64 N) (.string A)).tape (HBel.out (.int .i64 M) (.int .i64 N) (.string A)).output (HBel.out (.int .i64 M) (.int .i64 N) (.string A)).size (HBel.out (.int .i64 M) (.int .i64 N) (.string A)).block⟩
    | true =>
      have HI1 := Lib.hid h1
      clear h1
      go_wp2_with fail
      refine (isCode_any N _).mono ?_
      rintro e w' ⟨rfl, rfl⟩
      cases h2 : isCod N with
      | false =>
        have HV := Lib.hid (show stOk l = false from by rw [HR.out, h2, HI1.out]; rfl)
        clear h2
        go_wp2_with fail
        go_ret
        exact ⟨by rw [HV.out]; rfl, by rw [← HA.out, ← HN.out, ← HM.out]; exact (HC3.out _ _ _).heap (by rfl), Below.mk (HBel.out (.int .i64 M) (.int .i64 N) (.string A)).os (HBel.out (.int .i64 M) (.int .i64 N) (.string A)).tape (HBel.out (.int .i64 M) (.int .i64 N) (.string A)).output (HBel.out (.int .i64 M) (.int .i64 N) (.string A)).size (HBel.out (.int .i64 M) (.int .i64 N) (.string A)).block⟩
      | true =>
        have HI2 := Lib.hid h2
        clear h2
        go_wp2_with fail
        refine (isReason_any A _ HSA.out).mono ?_
        rintro e w' ⟨rfl, rfl⟩
        have HV := Lib.hid (show stOk l = isRsn A.data.toList from by rw [HR.out, HI2.out, HI1.out]; rfl)
        go_wp2_with fail
        go_ret
        exact ⟨by rw [HV.out]; rfl, by rw [← HA.out, ← HN.out, ← HM.out]; exact (HC3.out _ _ _).heap (by rfl), Below.mk (HBel.out (.int .i64 M) (.int .i64 N) (.string A)).os (HBel.out (.int .i64 M) (.int .i64 N) (.string A)).tape (HBel.out (.int .i64 M) (.int .i64 N) (.string A)).output (HBel.out (.int .i64 M) (.int .i64 N) (.string A)).size (HBel.out (.int .i64 M) (.int .i64 N) (.string A)).block⟩

def FaultPostS (g : Nat) (s : ByteArray) (w : World) (e : Ending) (w' : World) : Prop :=
  e = .returned (.int .i64 (if stOk s.data.toList then 0 else 30)) ∧ C3 g 3 3 9 (.int .i64 (minorOf (fst s.data.toList))) (.int .i64 (codeOf (fst (rst s.data.toList)))) (.string ⟨(rst (rst s.data.toList)).toArray⟩) w' ∧ Below g w w'

set_option maxHeartbeats 1000000 in
theorem fault_st (g : Nat) (s : ByteArray) (w : World) (a b c : Value) (hs : ¬ 1024 < s.size) (hC : C3 g 3 3 9 a b c w) :
    Calls Tryd.prog 93 #[.string s, .func (.func 94) #[] #[.pointer (some ⟨g, 0, none⟩), .pointer (some ⟨g + 1, 0, none⟩), .pointer (some ⟨g + 2, 0, none⟩)]] w (FaultPostS g s w) := by
  have hconv := fun W : World => run_bytes_of_string (P := Tryd.prog) W 9 22 5 s Tryd.underlying9 Tryd.underlying22 Tryd.underlying5
  have HC := Lib.hid hC
  have hgw := hC.lt
  clear hC
  go_enter Tryd.func93, Tryd.ntmps93
  go_wp2_with fail
  refine (stClosure_any g _ s.data.toList _ a b c (by simp; omega) ((sb_new (g + 3) w s _ _ _ (grownCap_ge _ _ _ _) (by omega)).heap (by rfl)) ((HC.out.alloc _).heap (by rfl))).mono ?_
  rintro e w1 ⟨rfl, hc, hb⟩
  have HCC := Lib.hid hc
  have HBB := Lib.hid hb
  clear hc hb
  cases hr : stOk s.data.toList with
  | true =>
    have HR := Lib.hid hr
    clear hr
    go_wp2_with fail
    go_ret
    exact ⟨by rw [HR.out]; rfl, HCC.out, (((Below.refl g w).alloc (by omega) _).drew.trans HBB.out)⟩
  | false =>
    have HR := Lib.hid hr
    clear hr
    go_wp2_with fail
    go_ret
    exact ⟨by rw [HR.out]; rfl, HCC.out, (((Below.refl g w).alloc (by omega) _).drew.trans HBB.out)⟩

theorem results3s {fn : Func} {p0 p1 p2 u : Tmp} (h : fn.results = #[.cell p0 3, .cell p1 3, .cell p2 9, .tmp u]) (tmps : Array Value) (w : World) (g : Nat) (a b c : Value)
    (hp0 : tmps.getD p0 undef = .pointer (some ⟨g, 0, none⟩)) (hp1 : tmps.getD p1 undef = .pointer (some ⟨g + 1, 0, none⟩)) (hp2 : tmps.getD p2 undef = .pointer (some ⟨g + 2, 0, none⟩)) (hC : C3 g 3 3 9 a b c w) :
    (results fn tmps).run Tryd.prog w = .ok (.tuple #[a, b, c, tmps.getD u undef]) w := by
  have c0 := cell_of_one hC.h0
  have c1 := cell_of_one hC.h1
  have c2 := cell_of_one hC.h2
  simp only [Array.getD_eq_getD_getElem?] at hp0 hp1 hp2
  simp [results, h, hp0, hp1, hp2, go_sem, c0, c1, c2]

set_option maxHeartbeats 4000000 in
theorem status_any (s : ByteArray) (w : World) :
    Calls Tryd.prog 66 #[.string s] w fun e w' => e = .returned (stVal s) ∧ Below w.heap.size w w' := by
  by_cases hs : 1024 < s.size
  · have HV := Lib.hid (show stVal s = .tuple #[.int .i64 0, .int .i64 0, .string ⟨#[]⟩, .int .i64 3] from by unfold stVal; rw [if_pos hs])
    go_enter Tryd.func66, Tryd.ntmps66
    go_wp2_with fail
    refine (fault_big s _ _ _ hs).mono ?_
    rintro e w' ⟨rfl, rfl⟩
    go_wp2_with fail
    refine bodyPost_ret (v := .tuple #[.int .i64 0, .int .i64 0, .string ⟨#[]⟩, .int .i64 3]) (by simp [results, Tryd.results66, go_sem]) rfl ⟨by rw [HV.out], ?_⟩
    exact below_new w _ _ _
  · cases hr : stOk s.data.toList with
    | true =>
      have HV := Lib.hid (show stVal s = .tuple #[.int .i64 (minorOf (fst s.data.toList)), .int .i64 (codeOf (fst (rst s.data.toList))), .string ⟨(rst (rst s.data.toList)).toArray⟩, .int .i64 0] from by unfold stVal; rw [if_neg hs, if_pos hr])
      have HR := Lib.hid hr
      clear hr
      go_enter Tryd.func66, Tryd.ntmps66
      go_wp2_with fail
      refine (fault_st w.heap.size s _ _ _ _ hs (c3_new w _ _ _ _ _ _)).mono ?_
      rintro e w1 ⟨rfl, hc, hb⟩
      rw [HR.out]
      have HCC := Lib.hid hc
      have HBB := Lib.hid hb
      have c0 := cell_of_one hc.h0
      have c1 := cell_of_one hc.h1
      have c2 := cell_of_one hc.h2
      have f0 := free_of_one hc.h0
      have f1 := free_of_one hc.h1
      have f2 := free_of_one hc.h2
      clear hc hb
      go_wp2_with fail
      go_region
      all_goals
        go_wp2_with fail
        refine bodyPost_ret (results3s rfl _ _ w.heap.size _ _ _ rfl rfl rfl ((HCC.out.put _ _ _).heap (by rfl))) rfl ⟨by rw [HV.out]; rfl, ?_⟩
        have h := put3_below (g := w.heap.size) ((below_new w _ _ _).trans HBB.out) (.int .i64 (minorOf (fst s.data.toList))) (.int .i64 (codeOf (fst (rst s.data.toList)))) (.string ⟨(rst (rst s.data.toList)).toArray⟩)
        exact Below.mk h.os h.tape h.output h.size h.block
    | false =>
      have HV := Lib.hid (show stVal s = .tuple #[.int .i64 0, .int .i64 0, .string ⟨#[]⟩, .int .i64 30] from by unfold stVal; rw [if_neg hs, if_neg (by rw [hr]; simp)])
      have HR := Lib.hid hr
      clear hr
      go_enter Tryd.func66, Tryd.ntmps66
      go_wp2_with fail
      refine (fault_st w.heap.size s _ _ _ _ hs (c3_new w _ _ _ _ _ _)).mono ?_
      rintro e w1 ⟨rfl, hc, hb⟩
      rw [HR.out]
      have HCC := Lib.hid hc
      have HBB := Lib.hid hb
      have c0 := cell_of_one hc.h0
      have c1 := cell_of_one hc.h1
      have c2 := cell_of_one hc.h2
      have f0 := free_of_one hc.h0
      have f1 := free_of_one hc.h1
      have f2 := free_of_one hc.h2
      clear hc hb
      go_wp2_with fail
      refine bodyPost_ret (results3s rfl _ _ w.heap.size _ _ _ rfl rfl rfl ((HCC.out.put _ _ _).heap (by rfl))) rfl ⟨by rw [HV.out]; rfl, ?_⟩
      exact put3_below (g := w.heap.size) ((below_new w _ _ _).trans HBB.out) _ _ _
end Go.Proofs.YtoofdompafkddaaDoor.Ln
