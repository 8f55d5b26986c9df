/-
  The closure of line.Request: what it returns, and what it stores. Conditions: at most 1024 bytes; the table of token bytes.
-/
import Derived.Test.YtlnlihkljnkhiaaDoorLnRead
import Derived.Test.YtlnlihkljnkhiaaDoorLnIs
import Derived.Deep.RegionWith
import Derived.BigRegion
import Derived.OneCell
import Derived.Laws.Rows
namespace Go.Proofs.YtlnlihkljnkhiaaDoor.Ln
open Go.RowKit Go.Proofs.YtlnlihkljnkhiaaDoor.Tk

/-- Three cells that lie one behind the other. -/
structure C3 (g : Nat) (t0 t1 t2 : TypeId) (a b c : Value) (w : World) : Prop where
  h0 : w.heap[g]? = some (.cells #[a] t0 (0, 0))
  h1 : w.heap[g + 1]? = some (.cells #[b] t1 (0, 0))
  h2 : w.heap[g + 2]? = some (.cells #[c] t2 (0, 0))
theorem C3.put {g : Nat} {t0 t1 t2 : TypeId} {a b c : Value} {w : World} (h : C3 g t0 t1 t2 a b c w) (x y z : Value) :
    C3 g t0 t1 t2 x y z (((w.setCell ⟨g, 0, none⟩ x).setCell ⟨g + 1, 0, none⟩ y).setCell ⟨g + 2, 0, none⟩ z) := by
  have e1 : ∀ v : World, ∀ q : Value, v.heap[g]? = (v.setCell ⟨g + 1, 0, none⟩ q).heap[g]? := fun v q => (heap_setCell_other _ _ _ _ (by show g ≠ g + 1; omega)).symm
  refine ⟨?_, ?_, ?_⟩
  · rw [heap_setCell_other _ _ _ _ (by show g ≠ g + 2; omega), heap_setCell_other _ _ _ _ (by show g ≠ g + 1; omega)]; exact one_setCell h.h0
  · rw [heap_setCell_other _ _ _ _ (by show g + 1 ≠ g + 2; omega)]
    exact one_setCell (by rw [heap_setCell_other _ _ _ _ (by show g + 1 ≠ g; omega)]; exact h.h1)
  · exact one_setCell (by rw [heap_setCell_other _ _ _ _ (by show g + 2 ≠ g + 1; omega), heap_setCell_other _ _ _ _ (by show g + 2 ≠ g; omega)]; exact h.h2)

theorem C3.heap {g : Nat} {t0 t1 t2 : TypeId} {a b c : Value} {w W : World} (h : C3 g t0 t1 t2 a b c w) (e : W.heap = w.heap) : C3 g t0 t1 t2 a b c W := ⟨by rw [e]; exact h.h0, by rw [e]; exact h.h1, by rw [e]; exact h.h2⟩
def put3 (g : Nat) (w : World) (x y z : Value) : World := ((w.setCell ⟨g, 0, none⟩ x).setCell ⟨g + 1, 0, none⟩ y).setCell ⟨g + 2, 0, none⟩ z
theorem put3_below {g : Nat} {w0 w : World} (h : Below g w0 w) (x y z : Value) : Below g w0 (put3 g w x y z) :=
  ((h.setCell (p := ⟨g, 0, none⟩) (Nat.le_refl _) x).setCell (p := ⟨g + 1, 0, none⟩) (by show g ≤ g + 1; omega) y).setCell (p := ⟨g + 2, 0, none⟩) (by show g ≤ g + 2; omega) z
def ReqPost (g : Nat) (l : Bs) (w : World) (e : Ending) (w' : World) : Prop :=
  e = .returned (.bool (!reqOk l)) ∧ C3 g 9 9 3 (.string ⟨(fst l).toArray⟩) (.string ⟨(fst (rst l)).toArray⟩) (.int .i64 (minorOf (rst (rst l)))) w' ∧ Below g w w'

theorem cell_heap {w W : World} (e : W.heap = w.heap) (a : Addr) : W.cell? a = w.cell? a := by unfold World.cell?; rw [e]
theorem SB.heap {lo : Nat} {w W : World} {v : Value} {l : Bs} (h : SB lo w v l) (e : W.heap = w.heap) : SB lo W v l := by
  rcases h with ⟨b, off, cap, hv, hcap, hc, hlo⟩ | h
  · exact .inl ⟨b, off, cap, hv, hcap, fun j hj => by rw [cell_heap e]; exact hc j hj, hlo⟩
  · exact .inr h
theorem SB.set {lo : Nat} {w : World} {v : Value} {l : Bs} (h : SB lo w v l) (p : Addr) (x : Value) (hp : p.block < lo) : SB lo (w.setCell p x) v l := by
  rcases h with ⟨b, off, cap, hv, hcap, hc, hlo⟩ | h
  · refine .inl ⟨b, off, cap, hv, hcap, fun j hj => ?_, hlo⟩
    have e := hc j hj
    unfold World.cell? at e ⊢
    rw [heap_setCell_other _ _ _ _ (by show b ≠ p.block; omega)]
    exact e
  · exact .inr h
theorem tab_heap {w W : World} (h : Tab w) (e : W.heap = w.heap) : Tab W := fun n hn => by rw [cell_heap e]; exact h n hn
theorem tab_set {w : World} (h : Tab w) (p : Addr) (x : Value) (hp : 0 < p.block) : Tab (w.setCell p x) :=
  h.below (Below.setCell (Below.refl (0 + 1) w) (p := p) (by omega) x) (by omega)
theorem size_le {l : Bs} {n : Nat} (h : l.length ≤ n) : (⟨l.toArray⟩ : ByteArray).size ≤ n := by show l.toArray.size ≤ _; rw [List.size_toArray]; exact h

set_option maxHeartbeats 4000000 in
theorem reqClosure_any (g : Nat) (v : Value) (l : Bs) (w : World) (a b c : Value) (hl : l.length ≤ 1024) (hS : SB (g + 3) w v l) (hC : C3 g 9 9 3 a b c w) (hT : Tab w) (hg : 0 < g) :
    Calls Tryd.prog 40 #[v, .pointer (some ⟨g, 0, none⟩), .pointer (some ⟨g + 1, 0, none⟩), .pointer (some ⟨g + 2, 0, none⟩)] w (ReqPost g l w) := by
  have HS := Lib.hid hS
  have HT := Lib.hid hT
  have HC := Lib.hid hC
  clear hS hT hC
  go_enter Tryd.func40, Tryd.ntmps40
  go_wp2_with fail
  refine (cut_any (g + 3) v l _ hl HS.out).mono ?_
  rintro e w1 ⟨x1, y1, rfl, hx1, hy1, n1, hw1⟩
  have HX1 := Lib.hid hx1
  have HY1 := Lib.hid (show SB (g + 3) w1 y1 (rst l) from by rw [hw1]; exact hy1)
  have HW1 := Lib.hid hw1
  clear hx1 hy1 hw1
  go_wp2_with fail
  refine (cut_any (g + 3) y1 (rst l) _ (Nat.le_trans (rst_le l) hl) HY1.out).mono ?_
  rintro e w2 ⟨x2, y2, rfl, hx2, hy2, n2, hw2⟩
  have hw : w2.heap = w.heap := by rw [hw2, HW1.out]; rfl
  have HH := Lib.hid hw
  have HX := Lib.hid (HX1.out.heap hw)
  have HX2 := Lib.hid (hx2.heap (show w2.heap = w1.heap from by rw [hw2]; rfl))
  have HY2 := Lib.hid (hy2.heap (show w2.heap = w1.heap from by rw [hw2]; rfl))
  have hb1 : ∀ W : World, W.heap = w2.heap → (convert 22 9 x1).run Tryd.prog W = .ok (.string ⟨(fst l).toArray⟩) W := fun W e => run_back W (HX.out.heap e)
  have hb2 : ∀ W : World, W.heap = w2.heap → (convert 22 9 x2).run Tryd.prog W = .ok (.string ⟨(fst (rst l)).toArray⟩) W := fun W e => run_back W (HX2.out.heap e)
  have hb2s : ∀ (W : World) (x : Value), W.heap = (w2.setCell ⟨g, 0, none⟩ x).heap → (convert 22 9 x2).run Tryd.prog W = .ok (.string ⟨(fst (rst l)).toArray⟩) W := fun W x e => run_back W ((HX2.out.set ⟨g, 0, none⟩ x (by show g < g + 3; omega)).heap e)
  obtain ⟨A, hA⟩ : ∃ A : ByteArray, A = ⟨(fst l).toArray⟩ := ⟨_, rfl⟩
  obtain ⟨B, hB⟩ : ∃ B : ByteArray, B = ⟨(fst (rst l)).toArray⟩ := ⟨_, rfl⟩
  obtain ⟨M, hM⟩ : ∃ M : Int, M = minorOf (rst (rst l)) := ⟨_, rfl⟩
  have HA := Lib.hid hA
  have HB := Lib.hid hB
  have HM := Lib.hid hM
  have HSA := Lib.hid (show A.size ≤ maxLen from by rw [hA]; exact size_le (by unfold maxLen; have := fst_le l; omega))
  have HSB := Lib.hid (show B.size ≤ maxLen from by rw [hB]; exact size_le (by unfold maxLen; have := fst_le (rst l); have := rst_le l; omega))
  have HR := Lib.hid (show reqOk l = (isTok A.data.toList && isTgt B.data.toList && isMin M) from by rw [hA, hB, hM]; rfl)
  have c0 : w2.cell? ⟨g, 0, none⟩ = some a := by rw [cell_heap hw]; exact cell_of_one HC.out.h0
  have f0 : w2.frozen? ⟨g, 0, none⟩ = false := free_of_one (by rw [hw]; exact HC.out.h0)
  have c1 : w2.cell? ⟨g + 1, 0, none⟩ = some b := by rw [cell_heap hw]; exact cell_of_one HC.out.h1
  have f1 : w2.frozen? ⟨g + 1, 0, none⟩ = false := free_of_one (by rw [hw]; exact HC.out.h1)
  have c2 : w2.cell? ⟨g + 2, 0, none⟩ = some c := by rw [cell_heap hw]; exact cell_of_one HC.out.h2
  have f2 : w2.frozen? ⟨g + 2, 0, none⟩ = false := free_of_one (by rw [hw]; exact HC.out.h2)
  rw [← hA] at hb1
  rw [← hB] at hb2 hb2s
  have k1 := hb1 w2.drew rfl
  have k1m := fun m => hb1 (w2.drewN m) rfl
  have k2 := hb2 w2.drew rfl
  have k2m := fun m => hb2 (w2.drewN m) rfl
  have k2s := fun x => hb2s (w2.drew.setCell ⟨g, 0, none⟩ x) x rfl
  have k2t := fun x => hb2s (w2.setCell ⟨g, 0, none⟩ x).drew x rfl
  have k2sm := fun m x => hb2s ((w2.drewN m).setCell ⟨g, 0, none⟩ x) x rfl
  have k2tm := fun m x => hb2s ((w2.setCell ⟨g, 0, none⟩ x).drewN m) x rfl
  have s0 := Lib.hid HY2.out
  have s1 := Lib.hid fun x => HY2.out.set ⟨g, 0, none⟩ x (by show g < g + 3; omega)
  have s2 := Lib.hid fun x y => (HY2.out.set ⟨g, 0, none⟩ x (by show g < g + 3; omega)).set ⟨g + 1, 0, none⟩ y (by show g + 1 < g + 3; omega)
  have HTab := Lib.hid (show ∀ x y z, Tab (put3 g w2 x y z) from fun x y z => tab_set (tab_set (tab_set (tab_heap HT.out hw) ⟨g, 0, none⟩ x hg) ⟨g + 1, 0, none⟩ y (by show _ < g + 1; omega)) ⟨g + 2, 0, none⟩ z (by show _ < g + 2; omega))
  have HC3 := Lib.hid (show ∀ x y z, C3 g 9 9 3 x y z (put3 g w2 x y z) from fun x y z => (HC.out.heap hw).put x y z)
  have HBel := Lib.hid (show ∀ x y z, Below g w (put3 g w2 x y z) from fun x y z => put3_below (by rw [hw2, HW1.out]; exact Below.mk rfl rfl rfl (by exact Nat.le_refl _) (fun _ _ => rfl)) x y z)
  clear hb2s
  clear hb1 hb2
  clear hx2 hy2 hw2 hw hA hB hM HX1 HY1 HW1
  go_wp2_with fail
  go_region_with (first | (go_at_call 42; refine (readMinor_any (g + 3) y2 (rst (rst l)) _ (by first | exact s0.out.heap (by rfl) | exact (s1.out _).heap (by rfl) | exact (s2.out _ _).heap (by rfl))).mono ?_; rintro e w' ⟨rfl, m, rfl⟩; rw [← HM.out]))
  all_goals
    go_wp2_with fail
    refine (is_any A _ HSA.out (tab_heap (HTab.out _ _ _) (by rfl))).mono ?_
    rintro e w' ⟨rfl, rfl⟩
    cases h1 : isTok A.data.toList with
    | false =>
      have HV := Lib.hid (show reqOk l = false from by rw [HR.out, h1]; rfl)
      clear h1
      go_wp2_with fail
      go_ret
      exact ⟨by rw [HV.out]; rfl, by rw [← HA.out, ← HB.out, ← HM.out]; exact (HC3.out _ _ _).heap (by rfl), Below.mk (HBel.out (.string A) (.string B) (.int .i64 M)).os (HBel.out (.string A) (.string B) (.int .i64 M)).tape (HBel.out (.string A) (.string B) (.int .i64 M)).output (HBel.out (.string A) (.string B) (.int .i64 M)).size (HBel.out (.string A) (.string B) (.int .i64 M)).block⟩
    | true =>
      have HI1 := Lib.hid h1
      clear h1
      go_wp2_with fail
      refine (isTarget_any B _ HSB.out).mono ?_
      rintro e w' ⟨rfl, rfl⟩
      cases h2 : isTgt B.data.toList with
      | false =>
        have HV := Lib.hid (show reqOk l = false from by rw [HR.out, h2, HI1.out]; rfl)
        clear h2
        go_wp2_with fail
        go_ret
        exact ⟨by rw [HV.out]; rfl, by rw [← HA.out, ← HB.out, ← HM.out]; exact (HC3.out _ _ _).heap (by rfl), Below.mk (HBel.out (.string A) (.string B) (.int .i64 M)).os (HBel.out (.string A) (.string B) (.int .i64 M)).tape (HBel.out (.string A) (.string B) (.int .i64 M)).output (HBel.out (.string A) (.string B) (.int .i64 M)).size (HBel.out (.string A) (.string B) (.int .i64 M)).block⟩
      | true =>
        have HI2 := Lib.hid h2
        clear h2
        go_wp2_with fail
        refine (isMinor_any M _).mono ?_
        rintro e w' ⟨rfl, rfl⟩
        have HV := Lib.hid (show reqOk l = isMin M from by rw [HR.out, HI2.out, HI1.out]; rfl)
        go_wp2_with fail
        go_ret
        exact ⟨by rw [HV.out]; rfl, by rw [← HA.out, ← HB.out, ← HM.out]; exact (HC3.out _ _ _).heap (by rfl), Below.mk (HBel.out (.string A) (.string B) (.int .i64 M)).os (HBel.out (.string A) (.string B) (.int .i64 M)).tape (HBel.out (.string A) (.string B) (.int .i64 M)).output (HBel.out (.string A) (.string B) (.int .i64 M)).size (HBel.out (.string A) (.string B) (.int .i64 M)).block⟩
end Go.Proofs.YtlnlihkljnkhiaaDoor.Ln
