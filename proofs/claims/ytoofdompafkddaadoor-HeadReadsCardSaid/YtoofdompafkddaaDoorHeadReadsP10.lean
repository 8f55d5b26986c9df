/-
  Texts that the law's proof stands on, 4 of them in one file; each one's head says what it proves and under which condition.
-/
import Derived.Test.YtoofdompafkddaaDoorHeadReadsP9
import Derived.RegionTactic
import Derived.Test.YtoofdompafkddaaDoorHeadReadsP5
import Derived.Test.YtoofdompafkddaaDoorHeadReadsP8
import Derived.Laws.EntriesVeiled
import Derived.Deep.RegionHeld3
import Derived.Deep.AppendLies
/-
  line.fault (with the closure of line.Request) and line.Request: what each returns. Condition: the table of token bytes.
-/
namespace Go.Proofs.YtoofdompafkddaaDoor.Ln
open Go.RowKit Go.Proofs.YtoofdompafkddaaDoor.Tk

theorem holds_new (w : World) (s : ByteArray) (cap : Nat) (t : TypeId) (fr : Nat × Nat) : Holds (w.alloc (.cells (bytesRow s cap) t fr)) w.heap.size 0 s.data.toList := by
  intro j hj
  rw [Nat.zero_add, World.cell?_alloc_mark, bytesRow_at s cap j (by simpa using hj)]
  simp
theorem sb_new (lo : Nat) (w : World) (s : ByteArray) (cap : Nat) (t : TypeId) (fr : Nat × Nat) (hcap : s.size ≤ cap) (hlo : lo ≤ w.heap.size) : SB lo (w.alloc (.cells (bytesRow s cap) t fr)) (.slice (some ⟨w.heap.size, 0, none⟩) s.size cap) s.data.toList :=
  .inl ⟨w.heap.size, 0, cap, by simp, by simpa using hcap, holds_new w s cap t fr, hlo⟩
theorem C3.lt {g : Nat} {t0 t1 t2 : TypeId} {a b c : Value} {w : World} (h : C3 g t0 t1 t2 a b c w) : g + 3 ≤ w.heap.size := (Array.getElem?_eq_some_iff.1 h.h2).1
theorem C3.alloc {g : Nat} {t0 t1 t2 : TypeId} {a b c : Value} {w : World} (h : C3 g t0 t1 t2 a b c w) (o : Obj) : C3 g t0 t1 t2 a b c (w.alloc o) := by
  have := h.lt
  refine ⟨?_, ?_, ?_⟩
  · show (w.heap.push o)[g]? = _; rw [Array.getElem?_push_lt (by omega)]; exact (Array.getElem?_eq_getElem (by omega)).symm.trans h.h0
  · show (w.heap.push o)[g + 1]? = _; rw [Array.getElem?_push_lt (by omega)]; exact (Array.getElem?_eq_getElem (by omega)).symm.trans h.h1
  · show (w.heap.push o)[g + 2]? = _; rw [Array.getElem?_push_lt (by omega)]; exact (Array.getElem?_eq_getElem (by omega)).symm.trans h.h2
theorem tab_alloc {w : World} (h : Tab w) (o : Obj) : Tab (w.alloc o) := h.below ((Below.refl w.heap.size w).alloc (Nat.le_refl _) o) h.lt

def FaultPost (g : Nat) (s : ByteArray) (w : World) (e : Ending) (w' : World) : Prop :=
  e = .returned (.int .i64 (if reqOk s.data.toList then 0 else 30)) ∧ C3 g 9 9 3 (.string ⟨(fst s.data.toList).toArray⟩) (.string ⟨(fst (rst s.data.toList)).toArray⟩) (.int .i64 (minorOf (rst (rst s.data.toList)))) w' ∧ Below g w w'

set_option maxHeartbeats 1000000 in
theorem fault_big (s : ByteArray) (f : FuncId) (caps : Array Value) (w : World) (hs : 1024 < s.size) :
    Calls Tryd.prog 93 #[.string s, .func (.func f) #[] caps] w fun e w' => e = .returned (.int .i64 3) ∧ w = w' := by
  go_enter Tryd.func93, Tryd.ntmps93
  go_wp2_with fail
  go_ret
  exact ⟨rfl, rfl⟩

set_option maxHeartbeats 1000000 in
theorem fault_req (g : Nat) (s : ByteArray) (w : World) (a b c : Value) (hs : ¬ 1024 < s.size) (hC : C3 g 9 9 3 a b c w) (hT : Tab w) (hg : 0 < g) :
    Calls Tryd.prog 93 #[.string s, .func (.func 87) #[] #[.pointer (some ⟨g, 0, none⟩), .pointer (some ⟨g + 1, 0, none⟩), .pointer (some ⟨g + 2, 0, none⟩)]] w (FaultPost g s w) := by
  have hconv := fun W : World => run_bytes_of_string (P := Tryd.prog) W 9 22 5 s Tryd.underlying9 Tryd.underlying22 Tryd.underlying5
  have HT := Lib.hid hT
  have HC := Lib.hid hC
  have hgw := hC.lt
  clear hT hC
  go_enter Tryd.func93, Tryd.ntmps93
  go_wp2_with fail
  refine (reqClosure_any g _ s.data.toList _ a b c (by simp; omega) ((sb_new (g + 3) w s _ _ _ (grownCap_ge _ _ _ _) (by omega)).heap (by rfl)) ((HC.out.alloc _).heap (by rfl)) (tab_heap (tab_alloc HT.out _) (by rfl)) hg).mono ?_
  rintro e w1 ⟨rfl, hc, hb⟩
  have HCC := Lib.hid hc
  have HBB := Lib.hid hb
  clear hc hb
  cases hr : reqOk s.data.toList with
  | true =>
    have HR := Lib.hid hr
    clear hr
    go_wp2_with fail
    go_ret
    exact ⟨by rw [HR.out]; rfl, HCC.out, (((Below.refl g w).alloc (by omega) _).drew.trans HBB.out)⟩
  | false =>
    have HR := Lib.hid hr
    clear hr
    go_wp2_with fail
    go_ret
    exact ⟨by rw [HR.out]; rfl, HCC.out, (((Below.refl g w).alloc (by omega) _).drew.trans HBB.out)⟩

theorem results3 {fn : Func} {p0 p1 p2 u : Tmp} (h : fn.results = #[.cell p0 9, .cell p1 9, .cell p2 3, .tmp u]) (tmps : Array Value) (w : World) (g : Nat) (a b c : Value)
    (hp0 : tmps.getD p0 undef = .pointer (some ⟨g, 0, none⟩)) (hp1 : tmps.getD p1 undef = .pointer (some ⟨g + 1, 0, none⟩)) (hp2 : tmps.getD p2 undef = .pointer (some ⟨g + 2, 0, none⟩)) (hC : C3 g 9 9 3 a b c w) :
    (results fn tmps).run Tryd.prog w = .ok (.tuple #[a, b, c, tmps.getD u undef]) w := by
  have c0 := cell_of_one hC.h0
  have c1 := cell_of_one hC.h1
  have c2 := cell_of_one hC.h2
  simp only [Array.getD_eq_getD_getElem?] at hp0 hp1 hp2
  simp [results, h, hp0, hp1, hp2, go_sem, c0, c1, c2]
theorem push_old (h : Array Obj) (o : Obj) (k : Nat) (hk : k < h.size) : (h.push o)[k]? = h[k]? := by rw [Array.getElem?_push_lt hk, Array.getElem?_eq_getElem hk]
theorem push_new (h : Array Obj) (o : Obj) : (h.push o)[h.size]? = some o := by simp
theorem c3_new (w : World) (t0 t1 t2 : TypeId) (a b c : Value) : C3 w.heap.size t0 t1 t2 a b c (((w.alloc (.cells #[a] t0)).alloc (.cells #[b] t1)).alloc (.cells #[c] t2)) := by
  refine ⟨?_, ?_, ?_⟩
  · show (((w.heap.push _).push _).push _)[w.heap.size]? = _
    rw [push_old _ _ _ (by simp; omega), push_old _ _ _ (by simp), push_new]
  · show (((w.heap.push _).push _).push _)[w.heap.size + 1]? = _
    rw [push_old _ _ _ (by simp)]
    have := push_new (w.heap.push (.cells #[a] t0)) (.cells #[b] t1)
    rwa [Array.size_push] at this
  · show (((w.heap.push _).push _).push _)[w.heap.size + 2]? = _
    have := push_new ((w.heap.push (.cells #[a] t0)).push (.cells #[b] t1)) (.cells #[c] t2)
    rwa [Array.size_push, Array.size_push] at this
theorem below_new (w : World) (x y z : Obj) : Below w.heap.size w (((w.alloc x).alloc y).alloc z) :=
  (((Below.refl _ _).alloc (Nat.le_refl _) _).alloc (by rw [World.size_alloc]; omega) _).alloc (by rw [World.size_alloc, World.size_alloc]; omega) _

set_option maxHeartbeats 4000000 in
theorem request_any (s : ByteArray) (w : World) (hT : Tab w) :
    Calls Tryd.prog 65 #[.string s] w fun e w' => e = .returned (reqVal s) ∧ Below w.heap.size w w' := by
  have HT := Lib.hid hT
  have hg := hT.lt
  clear hT
  by_cases hs : 1024 < s.size
  · have HV := Lib.hid (show reqVal s = .tuple #[.string ⟨#[]⟩, .string ⟨#[]⟩, .int .i64 0, .int .i64 3] from by unfold reqVal; rw [if_pos hs])
    go_enter Tryd.func65, Tryd.ntmps65
    go_wp2_with fail
    refine (fault_big s _ _ _ hs).mono ?_
    rintro e w' ⟨rfl, rfl⟩
    go_wp2_with fail
    refine bodyPost_ret (v := .tuple #[.string ⟨#[]⟩, .string ⟨#[]⟩, .int .i64 0, .int .i64 3]) (by simp [results, Tryd.results65, go_sem]) rfl ⟨by rw [HV.out], ?_⟩
    exact below_new w _ _ _
  · cases hr : reqOk s.data.toList with
    | true =>
      have HV := Lib.hid (show reqVal s = .tuple #[.string ⟨(fst s.data.toList).toArray⟩, .string ⟨(fst (rst s.data.toList)).toArray⟩, .int .i64 (minorOf (rst (rst s.data.toList))), .int .i64 0] from by unfold reqVal; rw [if_neg hs, if_pos hr])
      have HR := Lib.hid hr
      clear hr
      go_enter Tryd.func65, Tryd.ntmps65
      go_wp2_with fail
      refine (fault_req w.heap.size s _ _ _ _ hs (c3_new w _ _ _ _ _ _) (tab_alloc (tab_alloc (tab_alloc HT.out _) _) _) hg).mono ?_
      rintro e w1 ⟨rfl, hc, hb⟩
      rw [HR.out]
      have HCC := Lib.hid hc
      have HBB := Lib.hid hb
      have c0 := cell_of_one hc.h0
      have c1 := cell_of_one hc.h1
      have c2 := cell_of_one hc.h2
      have f0 := free_of_one hc.h0
      have f1 := free_of_one hc.h1
      have f2 := free_of_one hc.h2
      clear hc hb
      go_wp2_with fail
      go_region
      all_goals
        go_wp2_with fail
        refine bodyPost_ret (results3 rfl _ _ w.heap.size _ _ _ rfl rfl rfl ((HCC.out.put _ _ _).heap (by rfl))) rfl ⟨by rw [HV.out]; rfl, ?_⟩
        have h := put3_below (g := w.heap.size) ((below_new w _ _ _).trans HBB.out) (.string ⟨(fst s.data.toList).toArray⟩) (.string ⟨(fst (rst s.data.toList)).toArray⟩) (.int .i64 (minorOf (rst (rst s.data.toList))))
        exact Below.mk h.os h.tape h.output h.size h.block
    | false =>
      have HV := Lib.hid (show reqVal s = .tuple #[.string ⟨#[]⟩, .string ⟨#[]⟩, .int .i64 0, .int .i64 30] from by unfold reqVal; rw [if_neg hs, if_neg (by rw [hr]; simp)])
      have HR := Lib.hid hr
      clear hr
      go_enter Tryd.func65, Tryd.ntmps65
      go_wp2_with fail
      refine (fault_req w.heap.size s _ _ _ _ hs (c3_new w _ _ _ _ _ _) (tab_alloc (tab_alloc (tab_alloc HT.out _) _) _) hg).mono ?_
      rintro e w1 ⟨rfl, hc, hb⟩
      rw [HR.out]
      have HCC := Lib.hid hc
      have HBB := Lib.hid hb
      have c0 := cell_of_one hc.h0
      have c1 := cell_of_one hc.h1
      have c2 := cell_of_one hc.h2
      have f0 := free_of_one hc.h0
      have f1 := free_of_one hc.h1
      have f2 := free_of_one hc.h2
      clear hc hb
      go_wp2_with fail
      refine bodyPost_ret (results3 rfl _ _ w.heap.size _ _ _ rfl rfl rfl ((HCC.out.put _ _ _).heap (by rfl))) rfl ⟨by rw [HV.out]; rfl, ?_⟩
      exact put3_below (g := w.heap.size) ((below_new w _ _ _).trans HBB.out) _ _ _
end Go.Proofs.YtoofdompafkddaaDoor.Ln
/-
  The closure of line.Status: what it returns, and what it stores. Condition: at most 1024 bytes.
-/
namespace Go.Proofs.YtoofdompafkddaaDoor.Ln
open Go.RowKit Go.Proofs.YtoofdompafkddaaDoor.Tk

def StPost (g : Nat) (l : Bs) (w : World) (e : Ending) (w' : World) : Prop :=
  e = .returned (.bool (!stOk l)) ∧ C3 g 3 3 9 (.int .i64 (minorOf (fst l))) (.int .i64 (codeOf (fst (rst l)))) (.string ⟨(rst (rst l)).toArray⟩) w' ∧ Below g w w'

set_option maxHeartbeats 4000000 in
theorem stClosure_any (g : Nat) (v : Value) (l : Bs) (w : World) (a b c : Value) (hl : l.length ≤ 1024) (hS : SB (g + 3) w v l) (hC : C3 g 3 3 9 a b c w) :
    Calls Tryd.prog 94 #[v, .pointer (some ⟨g, 0, none⟩), .pointer (some ⟨g + 1, 0, none⟩), .pointer (some ⟨g + 2, 0, none⟩)] w (StPost g l w) := by
  have HS := Lib.hid hS
  have HC := Lib.hid hC
  clear hS hC
  go_enter Tryd.func94, Tryd.ntmps94
  go_wp2_with fail
  refine (cut_any (g + 3) v l _ hl HS.out).mono ?_
  rintro e w1 ⟨x1, y1, rfl, hx1, hy1, n1, hw1⟩
  have HX1 := Lib.hid hx1
  have HY1 := Lib.hid (show SB (g + 3) w1 y1 (rst l) from by rw [hw1]; exact hy1)
  have HW1 := Lib.hid hw1
  clear hx1 hy1 hw1
  go_wp2_with fail
  refine (cut_any (g + 3) y1 (rst l) _ (Nat.le_trans (rst_le l) hl) HY1.out).mono ?_
  rintro e w2 ⟨x2, y2, rfl, hx2, hy2, n2, hw2⟩
  have hw : w2.heap = w.heap := by rw [hw2, HW1.out]; rfl
  have HH := Lib.hid hw
  have HX := Lib.hid (HX1.out.heap hw)
  have HX2 := Lib.hid (hx2.heap (show w2.heap = w1.heap from by rw [hw2]; rfl))
  have HY2 := Lib.hid (hy2.heap (show w2.heap = w1.heap from by rw [hw2]; rfl))
  obtain ⟨M, hM⟩ : ∃ M : Int, M = minorOf (fst l) := ⟨_, rfl⟩
  obtain ⟨N, hN⟩ : ∃ N : Int, N = codeOf (fst (rst l)) := ⟨_, rfl⟩
  obtain ⟨A, hA⟩ : ∃ A : ByteArray, A = ⟨(rst (rst l)).toArray⟩ := ⟨_, rfl⟩
  have HA := Lib.hid hA
  have HN := Lib.hid hN
  have HM := Lib.hid hM
  have hb1 : ∀ W : World, W.heap = w2.heap → (convert 22 9 y2).run Tryd.prog W = .ok (.string A) W := fun W e => by rw [hA]; exact run_back W (HY2.out.heap e)
  have hb2 : ∀ (W : World) (x : Value), W.heap = (w2.setCell ⟨g, 0, none⟩ x).heap → (convert 22 9 y2).run Tryd.prog W = .ok (.string A) W := fun W x e => by rw [hA]; exact run_back W ((HY2.out.set ⟨g, 0, none⟩ x (by show g < g + 3; omega)).heap e)
  have hb3 : ∀ (W : World) (x y : Value), W.heap = ((w2.setCell ⟨g, 0, none⟩ x).setCell ⟨g + 1, 0, none⟩ y).heap → (convert 22 9 y2).run Tryd.prog W = .ok (.string A) W := fun W x y e => by rw [hA]; exact run_back W (((HY2.out.set ⟨g, 0, none⟩ x (by show g < g + 3; omega)).set ⟨g + 1, 0, none⟩ y (by show g + 1 < g + 3; omega)).heap e)
  have HSA := Lib.hid (show A.size ≤ maxLen from by rw [hA]; exact size_le (by unfold maxLen; have := rst_le l; have := rst_le (rst l); omega))
  have HR := Lib.hid (show stOk l = (isMin M && isCod N && isRsn A.data.toList) from by rw [hA, hN, hM]; rfl)
  have HL2 := Lib.hid (show (fst (rst l)).length ≤ 1024 from by have := fst_le (rst l); have := rst_le l; omega)
  have c0 : w2.cell? ⟨g, 0, none⟩ = some a := by rw [cell_heap hw]; exact cell_of_one HC.out.h0
  have f0 : w2.frozen? ⟨g, 0, none⟩ = false := free_of_one (by rw [hw]; exact HC.out.h0)
  have c1 : w2.cell? ⟨g + 1, 0, none⟩ = some b := by rw [cell_heap hw]; exact cell_of_one HC.out.h1
  have f1 : w2.frozen? ⟨g + 1, 0, none⟩ = false := free_of_one (by rw [hw]; exact HC.out.h1)
  have c2 : w2.cell? ⟨g + 2, 0, none⟩ = some c := by rw [cell_heap hw]; exact cell_of_one HC.out.h2
  have f2 : w2.frozen? ⟨g + 2, 0, none⟩ = false := free_of_one (by rw [hw]; exact HC.out.h2)
  have k1 := hb1 w2.drew rfl
  have k1m := fun m => hb1 (w2.drewN m) rfl
  have k2s := fun x => hb2 (w2.drew.setCell ⟨g, 0, none⟩ x) x rfl
  have k2t := fun x => hb2 (w2.setCell ⟨g, 0, none⟩ x).drew x rfl
  have k2sm := fun m x => hb2 ((w2.drewN m).setCell ⟨g, 0, none⟩ x) x rfl
  have k2tm := fun m x => hb2 ((w2.setCell ⟨g, 0, none⟩ x).drewN m) x rfl
  have k3s := fun x y => hb3 ((w2.drew.setCell ⟨g, 0, none⟩ x).setCell ⟨g + 1, 0, none⟩ y) x y rfl
  have k3t := fun x y => hb3 ((w2.setCell ⟨g, 0, none⟩ x).setCell ⟨g + 1, 0, none⟩ y).drew x y rfl
  have k3sm := fun m x y => hb3 (((w2.drewN m).setCell ⟨g, 0, none⟩ x).setCell ⟨g + 1, 0, none⟩ y) x y rfl
  have k3tm := fun m x y => hb3 (((w2.setCell ⟨g, 0, none⟩ x).setCell ⟨g + 1, 0, none⟩ y).drewN m) x y rfl
  have s0 := Lib.hid HX2.out
  have s1 := Lib.hid fun x => HX2.out.set ⟨g, 0, none⟩ x (by show g < g + 3; omega)
  have HC3 := Lib.hid (show ∀ x y z, C3 g 3 3 9 x y z (put3 g w2 x y z) from fun x y z => (HC.out.heap hw).put x y z)
  have HBel := Lib.hid (show ∀ x y z, Below g w (put3 g w2 x y z) from fun x y z => put3_below (by rw [hw2, HW1.out]; exact Below.mk rfl rfl rfl (by exact Nat.le_refl _) (fun _ _ => rfl)) x y z)
  clear hb1 hb2 hb3
  clear hx2 hy2 hw2 hw hA hN hM HX1 HY1 HW1
  go_wp2_with fail
  go_region_with (first
    | (go_at_call 89; refine (readMinor_any (g + 3) x1 (fst l) _ (HX.out.heap (by rfl))).mono ?_; rintro e w' ⟨rfl, m, rfl⟩; rw [← HM.out])
    | (go_at_call 95; refine (readCode_any (g + 3) x2 (fst (rst l)) _ HL2.out (by first | exact s0.out.heap (by rfl) | exact (s1.out _).heap (by rfl))).mono ?_; rintro e w' ⟨rfl, rfl⟩; rw [← HN.out]))
  all_goals
    go_wp2_with fail
    refine (isMinor_any M _).mono ?_
    rintro e w' ⟨rfl, rfl⟩
    cases h1 : isMin M with
    | false =>
      have HV := Lib.hid (show stOk l = false from by rw [HR.out, h1]; rfl)
      clear h1
      go_wp2_with fail
      go_ret
      exact ⟨by rw [HV.out]; rfl, by rw [← HA.out, ← HN.out, ← HM.out]; exact (HC3.out _ _ _).heap (by rfl), Below.mk (HBel.out (.int .i64 M) (.int .i64 N) (.string A)).os (HBel.out (.int .i64 M) (.int .i64 N) (.string A)).tape (HBel.out (.int .i64 M) (.int .i64 N) (.string A)).output (HBel.out (.int .i64 M) (.int .i64 N) (.string A)).size (HBel.out (.int .i64 M) (.int .i64 N) (.string A)).block⟩
    | true =>
      have HI1 := Lib.hid h1
      clear h1
      go_wp2_with fail
      refine (isCode_any N _).mono ?_
      rintro e w' ⟨rfl, rfl⟩
      cases h2 : isCod N with
      | false =>
        have HV := Lib.hid (show stOk l = false from by rw [HR.out, h2, HI1.out]; rfl)
        clear h2
        go_wp2_with fail
        go_ret
        exact ⟨by rw [HV.out]; rfl, by rw [← HA.out, ← HN.out, ← HM.out]; exact (HC3.out _ _ _).heap (by rfl), Below.mk (HBel.out (.int .i64 M) (.int .i64 N) (.string A)).os (HBel.out (.int .i64 M) (.int .i64 N) (.string A)).tape (HBel.out (.int .i64 M) (.int .i64 N) (.string A)).output (HBel.out (.int .i64 M) (.int .i64 N) (.string A)).size (HBel.out (.int .i64 M) (.int .i64 N) (.string A)).block⟩
      | true =>
        have HI2 := Lib.hid h2
        clear h2
        go_wp2_with fail
        refine (isReason_any A _ HSA.out).mono ?_
        rintro e w' ⟨rfl, rfl⟩
        have HV := Lib.hid (show stOk l = isRsn A.data.toList from by rw [HR.out, HI2.out, HI1.out]; rfl)
        go_wp2_with fail
        go_ret
        exact ⟨by rw [HV.out]; rfl, by rw [← HA.out, ← HN.out, ← HM.out]; exact (HC3.out _ _ _).heap (by rfl), Below.mk (HBel.out (.int .i64 M) (.int .i64 N) (.string A)).os (HBel.out (.int .i64 M) (.int .i64 N) (.string A)).tape (HBel.out (.int .i64 M) (.int .i64 N) (.string A)).output (HBel.out (.int .i64 M) (.int .i64 N) (.string A)).size (HBel.out (.int .i64 M) (.int .i64 N) (.string A)).block⟩

def FaultPostS (g : Nat) (s : ByteArray) (w : World) (e : Ending) (w' : World) : Prop :=
  e = .returned (.int .i64 (if stOk s.data.toList then 0 else 30)) ∧ C3 g 3 3 9 (.int .i64 (minorOf (fst s.data.toList))) (.int .i64 (codeOf (fst (rst s.data.toList)))) (.string ⟨(rst (rst s.data.toList)).toArray⟩) w' ∧ Below g w w'

set_option maxHeartbeats 1000000 in
theorem fault_st (g : Nat) (s : ByteArray) (w : World) (a b c : Value) (hs : ¬ 1024 < s.size) (hC : C3 g 3 3 9 a b c w) :
    Calls Tryd.prog 93 #[.string s, .func (.func 94) #[] #[.pointer (some ⟨g, 0, none⟩), .pointer (some ⟨g + 1, 0, none⟩), .pointer (some ⟨g + 2, 0, none⟩)]] w (FaultPostS g s w) := by
  have hconv := fun W : World => run_bytes_of_string (P := Tryd.prog) W 9 22 5 s Tryd.underlying9 Tryd.underlying22 Tryd.underlying5
  have HC := Lib.hid hC
  have hgw := hC.lt
  clear hC
  go_enter Tryd.func93, Tryd.ntmps93
  go_wp2_with fail
  refine (stClosure_any g _ s.data.toList _ a b c (by simp; omega) ((sb_new (g + 3) w s _ _ _ (grownCap_ge _ _ _ _) (by omega)).heap (by rfl)) ((HC.out.alloc _).heap (by rfl))).mono ?_
  rintro e w1 ⟨rfl, hc, hb⟩
  have HCC := Lib.hid hc
  have HBB := Lib.hid hb
  clear hc hb
  cases hr : stOk s.data.toList with
  | true =>
    have HR := Lib.hid hr
    clear hr
    go_wp2_with fail
    go_ret
    exact ⟨by rw [HR.out]; rfl, HCC.out, (((Below.refl g w).alloc (by omega) _).drew.trans HBB.out)⟩
  | false =>
    have HR := Lib.hid hr
    clear hr
    go_wp2_with fail
    go_ret
    exact ⟨by rw [HR.out]; rfl, HCC.out, (((Below.refl g w).alloc (by omega) _).drew.trans HBB.out)⟩

theorem results3s {fn : Func} {p0 p1 p2 u : Tmp} (h : fn.results = #[.cell p0 3, .cell p1 3, .cell p2 9, .tmp u]) (tmps : Array Value) (w : World) (g : Nat) (a b c : Value)
    (hp0 : tmps.getD p0 undef = .pointer (some ⟨g, 0, none⟩)) (hp1 : tmps.getD p1 undef = .pointer (some ⟨g + 1, 0, none⟩)) (hp2 : tmps.getD p2 undef = .pointer (some ⟨g + 2, 0, none⟩)) (hC : C3 g 3 3 9 a b c w) :
    (results fn tmps).run Tryd.prog w = .ok (.tuple #[a, b, c, tmps.getD u undef]) w := by
  have c0 := cell_of_one hC.h0
  have c1 := cell_of_one hC.h1
  have c2 := cell_of_one hC.h2
  simp only [Array.getD_eq_getD_getElem?] at hp0 hp1 hp2
  simp [results, h, hp0, hp1, hp2, go_sem, c0, c1, c2]

set_option maxHeartbeats 4000000 in
theorem status_any (s : ByteArray) (w : World) :
    Calls Tryd.prog 66 #[.string s] w fun e w' => e = .returned (stVal s) ∧ Below w.heap.size w w' := by
  by_cases hs : 1024 < s.size
  · have HV := Lib.hid (show stVal s = .tuple #[.int .i64 0, .int .i64 0, .string ⟨#[]⟩, .int .i64 3] from by unfold stVal; rw [if_pos hs])
    go_enter Tryd.func66, Tryd.ntmps66
    go_wp2_with fail
    refine (fault_big s _ _ _ hs).mono ?_
    rintro e w' ⟨rfl, rfl⟩
    go_wp2_with fail
    refine bodyPost_ret (v := .tuple #[.int .i64 0, .int .i64 0, .string ⟨#[]⟩, .int .i64 3]) (by simp [results, Tryd.results66, go_sem]) rfl ⟨by rw [HV.out], ?_⟩
    exact below_new w _ _ _
  · cases hr : stOk s.data.toList with
    | true =>
      have HV := Lib.hid (show stVal s = .tuple #[.int .i64 (minorOf (fst s.data.toList)), .int .i64 (codeOf (fst (rst s.data.toList))), .string ⟨(rst (rst s.data.toList)).toArray⟩, .int .i64 0] from by unfold stVal; rw [if_neg hs, if_pos hr])
      have HR := Lib.hid hr
      clear hr
      go_enter Tryd.func66, Tryd.ntmps66
      go_wp2_with fail
      refine (fault_st w.heap.size s _ _ _ _ hs (c3_new w _ _ _ _ _ _)).mono ?_
      rintro e w1 ⟨rfl, hc, hb⟩
      rw [HR.out]
      have HCC := Lib.hid hc
      have HBB := Lib.hid hb
      have c0 := cell_of_one hc.h0
      have c1 := cell_of_one hc.h1
      have c2 := cell_of_one hc.h2
      have f0 := free_of_one hc.h0
      have f1 := free_of_one hc.h1
      have f2 := free_of_one hc.h2
      clear hc hb
      go_wp2_with fail
      go_region
      all_goals
        go_wp2_with fail
        refine bodyPost_ret (results3s rfl _ _ w.heap.size _ _ _ rfl rfl rfl ((HCC.out.put _ _ _).heap (by rfl))) rfl ⟨by rw [HV.out]; rfl, ?_⟩
        have h := put3_below (g := w.heap.size) ((below_new w _ _ _).trans HBB.out) (.int .i64 (minorOf (fst s.data.toList))) (.int .i64 (codeOf (fst (rst s.data.toList)))) (.string ⟨(rst (rst s.data.toList)).toArray⟩)
        exact Below.mk h.os h.tape h.output h.size h.block
    | false =>
      have HV := Lib.hid (show stVal s = .tuple #[.int .i64 0, .int .i64 0, .string ⟨#[]⟩, .int .i64 30] from by unfold stVal; rw [if_neg hs, if_neg (by rw [hr]; simp)])
      have HR := Lib.hid hr
      clear hr
      go_enter Tryd.func66, Tryd.ntmps66
      go_wp2_with fail
      refine (fault_st w.heap.size s _ _ _ _ hs (c3_new w _ _ _ _ _ _)).mono ?_
      rintro e w1 ⟨rfl, hc, hb⟩
      rw [HR.out]
      have HCC := Lib.hid hc
      have HBB := Lib.hid hb
      have c0 := cell_of_one hc.h0
      have c1 := cell_of_one hc.h1
      have c2 := cell_of_one hc.h2
      have f0 := free_of_one hc.h0
      have f1 := free_of_one hc.h1
      have f2 := free_of_one hc.h2
      clear hc hb
      go_wp2_with fail
      refine bodyPost_ret (results3s rfl _ _ w.heap.size _ _ _ rfl rfl rfl ((HCC.out.put _ _ _).heap (by rfl))) rfl ⟨by rw [HV.out]; rfl, ?_⟩
      exact put3_below (g := w.heap.size) ((below_new w _ _ _).trans HBB.out) _ _ _
end Go.Proofs.YtoofdompafkddaaDoor.Ln
/-
  What is done with a line that ended: requestLine, statusLine, the closure of opening: what each leaves. Condition: the table of token bytes.
-/
namespace Go.Proofs.YtoofdompafkddaaDoor.Hd
open Go.RowKit Go.Proofs.YtoofdompafkddaaDoor.Tk Go.Proofs.YtoofdompafkddaaDoor.Fd Go.Proofs.YtoofdompafkddaaDoor.Ln
set_option linter.unusedVariables false

section
variable {w : World} {g : Nat} {resp : Bool} {M : Nat} {F lv : Value} {n : Nat} {wh : Bool} {e : Nat} {rq : Bool} {q : Parts} {fv : Value}
theorem rc7 (h : w.heap[g]? = some (.cells (rc resp M F lv n wh e rq q fv) 97 (0, 0))) : w.cell? ⟨g, 7, none⟩ = some (.string (qA rq q)) := by rw [Lib.cell_of_heap h]; rfl
theorem rc8 (h : w.heap[g]? = some (.cells (rc resp M F lv n wh e rq q fv) 97 (0, 0))) : w.cell? ⟨g, 8, none⟩ = some (.string (qB rq q)) := by rw [Lib.cell_of_heap h]; rfl
theorem rc9 (h : w.heap[g]? = some (.cells (rc resp M F lv n wh e rq q fv) 97 (0, 0))) : w.cell? ⟨g, 9, none⟩ = some (.int .i64 (qM rq q)) := by rw [Lib.cell_of_heap h]; rfl
theorem rc10 (h : w.heap[g]? = some (.cells (rc resp M F lv n wh e rq q fv) 97 (0, 0))) : w.cell? ⟨g, 10, none⟩ = some (.slice none 0 0) := by rw [Lib.cell_of_heap h]; rfl
theorem rc11 (h : w.heap[g]? = some (.cells (rc resp M F lv n wh e rq q fv) 97 (0, 0))) : w.cell? ⟨g, 11, none⟩ = some (.int .i64 (sM rq q)) := by rw [Lib.cell_of_heap h]; rfl
theorem rc12 (h : w.heap[g]? = some (.cells (rc resp M F lv n wh e rq q fv) 97 (0, 0))) : w.cell? ⟨g, 12, none⟩ = some (.int .i64 (sC rq q)) := by rw [Lib.cell_of_heap h]; rfl
theorem rc13 (h : w.heap[g]? = some (.cells (rc resp M F lv n wh e rq q fv) 97 (0, 0))) : w.cell? ⟨g, 13, none⟩ = some (.string (sA rq q)) := by rw [Lib.cell_of_heap h]; rfl
theorem rc14 (h : w.heap[g]? = some (.cells (rc resp M F lv n wh e rq q fv) 97 (0, 0))) : w.cell? ⟨g, 14, none⟩ = some (.slice none 0 0) := by rw [Lib.cell_of_heap h]; rfl
end
theorem rc_putQ {w : World} {g : Nat} {M : Nat} {F lv : Value} {n : Nat} {q : Parts} {fv : Value} (h : w.heap[g]? = some (.cells (rc false M F lv n false 0 false q fv) 97 (0, 0))) (t : Parts) :
    ((((w.setCell ⟨g, 7, none⟩ (.string t.a)).setCell ⟨g, 8, none⟩ (.string t.b)).setCell ⟨g, 9, none⟩ (.int .i64 t.m)).setCell ⟨g, 10, none⟩ (.slice none 0 0)).heap[g]? = some (.cells (rc false M F lv n false 0 false t fv) 97 (0, 0)) :=
  heap_put (heap_put (heap_put (heap_put h 7 _) 8 _) 9 _) 10 _
theorem rc_putS {w : World} {g : Nat} {M : Nat} {F lv : Value} {n : Nat} {q : Parts} {fv : Value} (h : w.heap[g]? = some (.cells (rc true M F lv n false 0 true q fv) 97 (0, 0))) (t : Parts) :
    ((((w.setCell ⟨g, 11, none⟩ (.int .i64 t.m)).setCell ⟨g, 12, none⟩ (.int .i64 t.c)).setCell ⟨g, 13, none⟩ (.string t.a)).setCell ⟨g, 14, none⟩ (.slice none 0 0)).heap[g]? = some (.cells (rc true M F lv n false 0 true t fv) 97 (0, 0)) :=
  heap_put (heap_put (heap_put (heap_put h 11 _) 12 _) 13 _) 14 _
theorem rc_putF {w : World} {g : Nat} {resp : Bool} {M : Nat} {F lv : Value} {n : Nat} {wh : Bool} {e : Nat} {rq : Bool} {q : Parts} {fv : Value} (h : w.heap[g]? = some (.cells (rc resp M F lv n wh e rq q fv) 97 (0, 0))) (m : Nat) (G : Value) :
    ((w.setCell ⟨g, 1, none⟩ (.int .i64 (m : Int))).setCell ⟨g, 2, none⟩ G).heap[g]? = some (.cells (rc resp m G lv n wh e rq q fv) 97 (0, 0)) :=
  heap_put (heap_put h 1 _) 2 _

/-- A call that turned a reader's block alone. -/
def ClosPost (g : Nat) (cs : Array Value) (e0 : Nat) (w : World) (e : Ending) (w' : World) : Prop :=
  e = .returned (.int .i64 (e0 : Int)) ∧ w'.heap[g]? = some (.cells cs 97 (0, 0)) ∧ Chg (fun k => k = g) w w'

set_option maxRecDepth 100000 in
set_option maxHeartbeats 4000000 in
theorem requestLine_any (g : Nat) (M : Nat) (F lv : Value) (n : Nat) (q : Parts) (fv : Value) (t : ByteArray) (w : World) (h : w.heap[g]? = some (.cells (rc false M F lv n false 0 false q fv) 97 (0, 0))) (hT : Tab w) :
    Calls Tryd.prog 43 #[.pointer (some ⟨g, 0, none⟩), .string t] w (ClosPost g (rc false M F lv n false 0 false (reqOf t).1 fv) (reqOf t).2 w) := by
  have HV := Lib.hid (reqVal_of t)
  obtain ⟨R, hR⟩ : ∃ R, R = reqOf t := ⟨_, rfl⟩
  rw [← hR] at HV
  rw [← hR]
  have HB := Lib.hid h
  clear hR h
  go_enter Tryd.func43, Tryd.ntmps43
  go_wp2_with fail
  refine (request_any t _ hT).mono ?_
  rintro e w1 ⟨rfl, hb1⟩
  rw [HV.out]
  have hK := Bl.old hb1 (block_lt HB.out) HB.out
  have c7 := rc7 hK
  have c8 := rc8 hK
  have c9 := rc9 hK
  have c10 := rc10 hK
  have f7 := free hK 7
  have f8 := free hK 8
  have f9 := free hK 9
  have f10 := free hK 10
  have HK := Lib.hid (rc_putQ hK R.1)
  have HC := Lib.hid (Chg.of_below (O := fun k => k = g) hb1)
  clear hK hb1
  go_wp2_with fail
  go_ret
  exact ⟨rfl, HK.out, (((HC.out.put _ _ (.inl rfl)).put _ _ (.inl rfl)).put _ _ (.inl rfl)).put _ _ (.inl rfl)⟩

set_option maxRecDepth 100000 in
set_option maxHeartbeats 4000000 in
theorem statusLine_any (g : Nat) (M : Nat) (F lv : Value) (n : Nat) (q : Parts) (fv : Value) (t : ByteArray) (w : World) (h : w.heap[g]? = some (.cells (rc true M F lv n false 0 true q fv) 97 (0, 0))) :
    Calls Tryd.prog 44 #[.pointer (some ⟨g, 0, none⟩), .string t] w (ClosPost g (rc true M F lv n false 0 true (stOf t).1 fv) (stOf t).2 w) := by
  have HV := Lib.hid (stVal_of t)
  obtain ⟨R, hR⟩ : ∃ R, R = stOf t := ⟨_, rfl⟩
  rw [← hR] at HV
  rw [← hR]
  have HB := Lib.hid h
  clear hR h
  go_enter Tryd.func44, Tryd.ntmps44
  go_wp2_with fail
  refine (status_any t _).mono ?_
  rintro e w1 ⟨rfl, hb1⟩
  rw [HV.out]
  have hK := Bl.old hb1 (block_lt HB.out) HB.out
  have c11 := rc11 hK
  have c12 := rc12 hK
  have c13 := rc13 hK
  have c14 := rc14 hK
  have f11 := free hK 11
  have f12 := free hK 12
  have f13 := free hK 13
  have f14 := free hK 14
  have HK := Lib.hid (rc_putS hK R.1)
  have HC := Lib.hid (Chg.of_below (O := fun k => k = g) hb1)
  clear hK hb1
  go_wp2_with fail
  go_ret
  exact ⟨rfl, HK.out, (((HC.out.put _ _ (.inl rfl)).put _ _ (.inl rfl)).put _ _ (.inl rfl)).put _ _ (.inl rfl)⟩

theorem Tab.chg {O : Nat → Prop} {w w' : World} (h : Tab w) (hc : Chg O w w') (ho : ¬ O 0) : Tab w' := fun n hn => by
  rw [World.cell?_of_block (w := w) (hc.block 0 h.lt ho)]; exact h n hn
/-- The closure of opening at an empty line. -/
theorem opening_empty (g gb : Nat) (w : World) :
    Calls Tryd.prog 67 #[.pointer (some ⟨g, 0, none⟩), .string ⟨#[]⟩, .pointer (some ⟨gb, 0, none⟩)] w fun e w' => e = .returned (.int .i64 0) ∧ w = w' := by
  go_enter Tryd.func67, Tryd.ntmps67
  go_wp2_with fail
  go_ret
  exact ⟨rfl, rfl⟩
set_option maxRecDepth 100000 in
set_option maxHeartbeats 4000000 in
theorem opening_any (resp : Bool) (g gb : Nat) (M : Nat) (F lv : Value) (n : Nat) (q : Parts) (fv : Value) (t : ByteArray) (w : World) (h : w.heap[g]? = some (.cells (rc resp M F lv n false 0 resp q fv) 97 (0, 0)))
    (hx : w.heap[gb]? = some (.cells #[firstFn resp] 91 (0, 0))) (hT : Tab w) (hg : g ≠ 0) (ht : 0 < t.size) :
    Calls Tryd.prog 67 #[.pointer (some ⟨g, 0, none⟩), .string t, .pointer (some ⟨gb, 0, none⟩)] w
      (ClosPost g (rc resp 8192 (.func (.func 68) #[] #[]) lv n false 0 resp (firstOf resp t).1 fv) (firstOf resp t).2 w) := by
  have ht0 : t.toList.isEmpty = false := text_full ht
  have hxg : gb ≠ g := apart_of hx h (by decide)
  have c1 := rc1 h
  have c2 := rc2 h
  have f1 := free h 1
  have f2 := free h 2
  have hK : ((w.setCell ⟨g, 1, none⟩ (.int .i64 8192)).setCell ⟨g, 2, none⟩ (.func (.func 68) #[] #[])).heap[g]? = some (.cells (rc resp 8192 (.func (.func 68) #[] #[]) lv n false 0 resp q fv) 97 (0, 0)) := rc_putF h 8192 (.func (.func 68) #[] #[])
  have hC := ((Chg.refl (fun k => k = g) w).put ⟨g, 1, none⟩ (.int .i64 8192) (.inl rfl)).put ⟨g, 2, none⟩ (.func (.func 68) #[] #[]) (.inl rfl)
  have hX : ((w.setCell ⟨g, 1, none⟩ (.int .i64 8192)).setCell ⟨g, 2, none⟩ (.func (.func 68) #[] #[])).cell? ⟨gb, 0, none⟩ = some (firstFn resp) := by
    rw [Lib.cell_of_heap (hC.old hxg hx)]; rfl
  have HT := Lib.hid (Tab.chg hT hC (fun e => hg e.symm))
  have HK := Lib.hid hK
  have HC := Lib.hid hC
  clear hK hC hT hx h
  cases resp with
  | false =>
    unfold firstFn at hX
    simp only [Bool.false_eq_true, if_false] at hX
    go_enter Tryd.func67, Tryd.ntmps67
    go_wp2_with fail
    refine (requestLine_any g 8192 _ lv n q fv t _ HK.out HT.out).mono ?_
    rintro e w1 ⟨rfl, hb, hc⟩
    have HC2 := Lib.hid (HC.out.trans hc (fun i hi => .inl hi))
    clear hc hX
    go_wp2_with fail
    go_ret
    exact ⟨rfl, hb, HC2.out⟩
  | true =>
    unfold firstFn at hX
    simp only [if_true] at hX
    go_enter Tryd.func67, Tryd.ntmps67
    go_wp2_with fail
    refine (statusLine_any g 8192 _ lv n q fv t _ HK.out).mono ?_
    rintro e w1 ⟨rfl, hb, hc⟩
    have HC2 := Lib.hid (HC.out.trans hc (fun i hi => .inl hi))
    clear hc hX
    go_wp2_with fail
    go_ret
    exact ⟨rfl, hb, HC2.out⟩
end Go.Proofs.YtoofdompafkddaaDoor.Hd
/-
  A reader's fieldLine: what it leaves. Conditions: fields of at most 8192 bytes in all; the table of token bytes.
-/
namespace Go.Proofs.YtoofdompafkddaaDoor.Hd
open Go.RowKit Go.Proofs.YtoofdompafkddaaDoor.Tk Go.Proofs.YtoofdompafkddaaDoor.Fd
set_option linter.unusedVariables false

set_option maxRecDepth 100000 in
set_option maxHeartbeats 4000000 in
theorem field_empty (resp : Bool) (g : Nat) (M : Nat) (F lv : Value) (n : Nat) (q : Parts) (fv : Value) (w : World) (h : w.heap[g]? = some (.cells (rc resp M F lv n false 0 resp q fv) 97 (0, 0))) :
    Calls Tryd.prog 68 #[.pointer (some ⟨g, 0, none⟩), .string ⟨#[]⟩] w (ClosPost g (rc resp M F (.slice none 0 0) n true 0 resp q fv) 0 w) := by
  have c5 := rc5 h
  have c3 := rc3 h
  have f5 := free h 5
  have f3 := free h 3
  have HK := Lib.hid (rc_put3 (rc_put5 h true) (.slice none 0 0))
  clear h
  go_enter Tryd.func68, Tryd.ntmps68
  go_wp2_with fail
  go_ret
  exact ⟨rfl, HK.out, ((Chg.refl (fun k => k = g) w).put _ _ (.inl rfl)).put _ _ (.inl rfl)⟩
set_option maxHeartbeats 4000000 in
theorem field_full (resp : Bool) (g : Nat) (M : Nat) (F lv : Value) (n : Nat) (q : Parts) (a : Option Addr) (c : Nat) (t : ByteArray) (w : World) (h : w.heap[g]? = some (.cells (rc resp M F lv n false 0 resp q (.slice a 64 c)) 97 (0, 0))) (ht : 0 < t.size) :
    Calls Tryd.prog 68 #[.pointer (some ⟨g, 0, none⟩), .string t] w fun e w' => e = .returned (.int .i64 3) ∧ w = w' := by
  have ht0 : t.toList.isEmpty = false := text_full ht
  have c15 := rc15 h
  clear h
  go_enter Tryd.func68, Tryd.ntmps68
  go_wp2_with fail
  go_ret
  exact ⟨rfl, rfl⟩

theorem old2 {w : World} {k : Nat} {x o : Obj} (h : w.heap[k]? = some x) : (w.drew.alloc o).heap[k]? = some x := (old_block w.drew o (block_lt h)).trans h
def FieldPost (O : Nat → Prop) (resp : Bool) (g : Nat) (M : Nat) (F lv : Value) (n : Nat) (q : Parts) (fs : List Fl) (e0 : Nat) (w : World) (e : Ending) (w' : World) : Prop :=
  e = .returned (.int .i64 (e0 : Int)) ∧ (∃ fv, w'.heap[g]? = some (.cells (rc resp M F lv n false 0 resp q fv) 97 (0, 0)) ∧ OwnF w' 0 fv fs ∧ ∀ k, fv.ownBlock = some k → New O w k) ∧ Chg O w w'

set_option maxRecDepth 100000 in
set_option maxHeartbeats 4000000 in
theorem field_any (O : Nat → Prop) (resp : Bool) (g : Nat) (M : Nat) (F lv : Value) (n : Nat) (q : Parts) (fv : Value) (fs : List Fl) (t : ByteArray) (w : World) (h : w.heap[g]? = some (.cells (rc resp M F lv n false 0 resp q fv) 97 (0, 0)))
    (hf : OwnF w 0 fv fs) (hl : fs.length < 64) (og : O g) (of : ∀ k, fv.ownBlock = some k → O k) (hT : Tab w) (ht : 0 < t.size) (hts : t.size ≤ 70368744177664) :
    Calls Tryd.prog 68 #[.pointer (some ⟨g, 0, none⟩), .string t] w (FieldPost O resp g M F lv n q (fs ++ [(fldOf t).1]) (fldOf t).2 w) := by
  have ht0 : t.toList.isEmpty = false := text_full ht
  obtain ⟨i0, hi, hz0, hz1, hz2⟩ := info_parts infoField
  have HV := Lib.hid (parseVal_of t)
  obtain ⟨⟨⟨a, b⟩, e0⟩, hR⟩ : ∃ R, R = fldOf t := ⟨_, rfl⟩
  rw [← hR] at HV
  rw [← hR]
  have HB := Lib.hid h
  have HF := Lib.hid hf
  obtain ⟨fa, fc, hfv⟩ := hf.form
  subst hfv
  have c15 := rc15 h
  have h64 : ¬ ((fs.length : Int) = 64) := by omega
  clear hR h hf
  go_enter Tryd.func68, Tryd.ntmps68
  go_wp2_with fail
  refine (parse_any t _ hts hT).mono ?_
  rintro e w1 ⟨rfl, hb1⟩
  rw [HV.out]
  unfold FV
  have hK1 := Bl.old hb1 (block_lt HB.out) HB.out
  have hG1 := block_lt hK1
  have HF1 := Lib.hid (owns_kept HF.out hb1)
  have HC1 := Lib.hid (Chg.of_below (O := O) hb1)
  have HK2 := Lib.hid ((old_block w1 (.cells #[.string a, .string b] 56) hG1).trans hK1)
  have HN2 := Lib.hid (new_block w1 (.cells #[.string a, .string b] 56))
  clear c15 hb1 hK1
  go_wp2_with fail
  have HO2 := Lib.hid (owns_kept HF1.out ((Below.refl w1.heap.size w1).alloc (Nat.le_refl _) (.cells #[.string a, .string b] 56)))
  have HC2 := Lib.hid (HC1.out.alloc (.cells #[.string a, .string b] 56))
  obtain ⟨G, hG⟩ : ∃ G, G = w1.heap.size := ⟨_, rfl⟩
  rw [← hG] at HN2
  rw [← hG]
  obtain ⟨w2, hw2⟩ : ∃ w2, w2 = w1.alloc (.cells #[.string a, .string b] 56) := ⟨_, rfl⟩
  rw [← hw2] at HK2 HN2 HO2 HC2
  rw [← hw2]
  have hgw : g < w2.heap.size := block_lt HK2.out
  have hGw : G < w2.heap.size := block_lt HN2.out
  have hrg : some g ≠ (Value.slice fa fs.length fc).ownBlock := fun e => by obtain ⟨cu, hcu⟩ := row_type HO2.out e.symm; exact apart_of hcu HK2.out (by decide) rfl
  have hrG : some G ≠ (Value.slice fa fs.length fc).ownBlock := fun e => by
    have h1 := World.ownsRow.lt HF1.out G e.symm
    omega
  have hGg : G ≠ g := apart_of HN2.out HK2.out (by decide)
  have HO3 := Lib.hid (fun o => owns_kept HO2.out ((Below.refl w2.heap.size w2).drew.alloc (Nat.le_refl _) o))
  clear hG hw2 HF1 HC1 hG1
  have HK3 := Lib.hid (old2 (o := (.cells #[.string a, .string b] 56)) HK2.out)
  have c15 := rc15 HK2.out
  have c15' : (w2.alloc (.cells #[.string a, .string b] 56)).cell? ⟨g, 15, none⟩ = some (.slice fa fs.length fc) := rc15 (w := (w2.drew.alloc (.cells #[.string a, .string b] 56))) HK3.out
  have cG0 := two0 HN2.out
  have cG1 := two1 HN2.out
  go_region_law ((refine step_append_lies _ (by rfl) _ _ 27 (by rfl) 0 56 i0 (.agg #[.string ⟨#[]⟩, .string ⟨#[]⟩]) 2 32 Tryd.underlying27 hi hz0 hz1 hz2 rfl (by decide) _ _ _ (by rfl) (HO3.out _) ⟨w2.heap.size, 0, none⟩ 1 1 [.string a, .string b] (by rfl) rfl (news_at (new_block w2.drew _)) (one_cells a b) (by omega) (by unfold maxLen; omega) (by omega) (Nat.zero_le _) _ rfl ?_; intro g3 cap3 w3 hown3 hgrow hat3 hlt3; have hK4 := (hgrow.block g (by simp; omega) hrg).trans HK3.out; have d15 := rc15 hK4; have df := free hK4 15))
  all_goals
    go_wp2_with fail
    go_ret
    have hsz := HC2.out.size
    have hrow3 : OwnF w3 0 (.slice (some ⟨g3, 0, none⟩) (fs.length + 1) cap3) (fs ++ [(a, b)]) := by
      unfold OwnF; rw [flat_snoc, List.length_append]; exact hown3
    obtain ⟨cu, hcu⟩ := row_type hrow3 rfl
    have hgg : g3 ≠ g := apart_of hcu hK4 (by decide)
    refine ⟨rfl, ⟨_, rc_put15 hK4 _, row_same hrow3 fun k hk => ?_, fun k hk => ?_⟩, ?_⟩
    · injection hk with hk; subst hk; exact put_far rfl (by show g3 ≠ g; exact hgg)
    · injection hk with hk; subst hk
      rcases hat3 with h3 | h3
      · exact .inl (of _ h3)
      · refine .inr ?_
        show w.heap.size ≤ g3
        have : g3 = w2.heap.size + 1 := by simpa using h3
        omega
    · exact ((((HC2.out.drew).alloc _).grown hgrow (fun k hk => .inl (of k hk))).put _ _ (.inl og))
end Go.Proofs.YtoofdompafkddaaDoor.Hd
