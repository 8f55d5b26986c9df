/-
  Texts that the laws' proofs stand on, 10 of them in one file; each one's head says what it proves and under which condition.
-/
import Derived.Test.YtcolnidgembniaaGreatDoorMsAllP7
import Derived.RegionTactic
import Derived.Test.YtcolnidgembniaaGreatDoorMsAllP5
import Derived.Laws.EntriesVeiled
import Derived.Deep.RegionHeld3
import Derived.Deep.AppendLies
import Derived.Test.YtcolnidgembniaaGreatDoorMsAllP6
import Derived.Lib.SlBytesConst
import Derived.Test.YtcolnidgembniaaGreatDoorMsAllP3
/-
  line.fault (with the closure of line.Request) and line.Request: what each returns. Condition: the table of token bytes.
-/
namespace Go.Proofs.YtcolnidgembniaaGreatDoor.Ln
open Go.RowKit Go.Proofs.YtcolnidgembniaaGreatDoor.Tk

theorem holds_new (w : World) (s : ByteArray) (cap : Nat) (t : TypeId) (fr : Nat × Nat) : Holds (w.alloc (.cells (bytesRow s cap) t fr)) w.heap.size 0 s.data.toList := by
  intro j hj
  rw [Nat.zero_add, World.cell?_alloc_mark, bytesRow_at s cap j (by simpa using hj)]
  simp
theorem sb_new (lo : Nat) (w : World) (s : ByteArray) (cap : Nat) (t : TypeId) (fr : Nat × Nat) (hcap : s.size ≤ cap) (hlo : lo ≤ w.heap.size) : SB lo (w.alloc (.cells (bytesRow s cap) t fr)) (.slice (some ⟨w.heap.size, 0, none⟩) s.size cap) s.data.toList :=
  .inl ⟨w.heap.size, 0, cap, by simp, by simpa using hcap, holds_new w s cap t fr, hlo⟩
theorem C3.lt {g : Nat} {t0 t1 t2 : TypeId} {a b c : Value} {w : World} (h : C3 g t0 t1 t2 a b c w) : g + 3 ≤ w.heap.size := (Array.getElem?_eq_some_iff.1 h.h2).1
theorem C3.alloc {g : Nat} {t0 t1 t2 : TypeId} {a b c : Value} {w : World} (h : C3 g t0 t1 t2 a b c w) (o : Obj) : C3 g t0 t1 t2 a b c (w.alloc o) := by
  have := h.lt
  refine ⟨?_, ?_, ?_⟩
  · show (w.heap.push o)[g]? = _; rw [Array.getElem?_push_lt (by omega)]; exact (Array.getElem?_eq_getElem (by omega)).symm.trans h.h0
  · show (w.heap.push o)[g + 1]? = _; rw [Array.getElem?_push_lt (by omega)]; exact (Array.getElem?_eq_getElem (by omega)).symm.trans h.h1
  · show (w.heap.push o)[g + 2]? = _; rw [Array.getElem?_push_lt (by omega)]; exact (Array.getElem?_eq_getElem (by omega)).symm.trans h.h2
theorem tab_alloc {w : World} (h : Tab w) (o : Obj) : Tab (w.alloc o) := h.below ((Below.refl w.heap.size w).alloc (Nat.le_refl _) o) h.lt

def FaultPost (g : Nat) (s : ByteArray) (w : World) (e : Ending) (w' : World) : Prop :=
  e = .returned (.int .i64 (if reqOk s.data.toList then 0 else 30)) ∧ C3 g 9 9 3 (.string ⟨(fst s.data.toList).toArray⟩) (.string ⟨(fst (rst s.data.toList)).toArray⟩) (.int .i64 (minorOf (rst (rst s.data.toList)))) w' ∧ Below g w w'

set_option maxHeartbeats 1000000 in
theorem fault_big (s : ByteArray) (f : FuncId) (caps : Array Value) (w : World) (hs : 1024 < s.size) :
    Calls Tryz.prog 64 #[.string s, .func (.func f) #[] caps] w fun e w' => e = .returned (.int .i64 3) ∧ w = w' := by
  go_enter Tryz.func64, Tryz.ntmps64
  go_wp2_with fail
  go_ret
  exact ⟨rfl, rfl⟩

set_option maxHeartbeats 1000000 in
theorem fault_req (g : Nat) (s : ByteArray) (w : World) (a b c : Value) (hs : ¬ 1024 < s.size) (hC : C3 g 9 9 3 a b c w) (hT : Tab w) (hg : 0 < g) :
    Calls Tryz.prog 64 #[.string s, .func (.func 58) #[] #[.pointer (some ⟨g, 0, none⟩), .pointer (some ⟨g + 1, 0, none⟩), .pointer (some ⟨g + 2, 0, none⟩)]] w (FaultPost g s w) := by
  have hconv := fun W : World => run_bytes_of_string (P := Tryz.prog) W 9 22 5 s Tryz.underlying9 Tryz.underlying22 Tryz.underlying5
  have HT := Lib.hid hT
  have HC := Lib.hid hC
  have hgw := hC.lt
  clear hT hC
  go_enter Tryz.func64, Tryz.ntmps64
  go_wp2_with fail
  refine (reqClosure_any g _ s.data.toList _ a b c (by simp; omega) ((sb_new (g + 3) w s _ _ _ (grownCap_ge _ _ _ _) (by omega)).heap (by rfl)) ((HC.out.alloc _).heap (by rfl)) (tab_heap (tab_alloc HT.out _) (by rfl)) hg).mono ?_
  rintro e w1 ⟨rfl, hc, hb⟩
  have HCC := Lib.hid hc
  have HBB := Lib.hid hb
  clear hc hb
  cases hr : reqOk s.data.toList with
  | true =>
    have HR := Lib.hid hr
    clear hr
    go_wp2_with fail
    go_ret
    exact ⟨by rw [HR.out]; rfl, HCC.out, (((Below.refl g w).alloc (by omega) _).drew.trans HBB.out)⟩
  | false =>
    have HR := Lib.hid hr
    clear hr
    go_wp2_with fail
    go_ret
    exact ⟨by rw [HR.out]; rfl, HCC.out, (((Below.refl g w).alloc (by omega) _).drew.trans HBB.out)⟩

theorem results3 {fn : Func} {p0 p1 p2 u : Tmp} (h : fn.results = #[.cell p0 9, .cell p1 9, .cell p2 3, .tmp u]) (tmps : Array Value) (w : World) (g : Nat) (a b c : Value)
    (hp0 : tmps.getD p0 undef = .pointer (some ⟨g, 0, none⟩)) (hp1 : tmps.getD p1 undef = .pointer (some ⟨g + 1, 0, none⟩)) (hp2 : tmps.getD p2 undef = .pointer (some ⟨g + 2, 0, none⟩)) (hC : C3 g 9 9 3 a b c w) :
    (results fn tmps).run Tryz.prog w = .ok (.tuple #[a, b, c, tmps.getD u undef]) w := by
  have c0 := cell_of_one hC.h0
  have c1 := cell_of_one hC.h1
  have c2 := cell_of_one hC.h2
  simp only [Array.getD_eq_getD_getElem?] at hp0 hp1 hp2
  simp [results, h, hp0, hp1, hp2, go_sem, c0, c1, c2]
theorem push_old (h : Array Obj) (o : Obj) (k : Nat) (hk : k < h.size) : (h.push o)[k]? = h[k]? := by rw [Array.getElem?_push_lt hk, Array.getElem?_eq_getElem hk]
theorem push_new (h : Array Obj) (o : Obj) : (h.push o)[h.size]? = some o := by simp
theorem c3_new (w : World) (t0 t1 t2 : TypeId) (a b c : Value) : C3 w.heap.size t0 t1 t2 a b c (((w.alloc (.cells #[a] t0)).alloc (.cells #[b] t1)).alloc (.cells #[c] t2)) := by
  refine ⟨?_, ?_, ?_⟩
  · show (((w.heap.push _).push _).push _)[w.heap.size]? = _
    rw [push_old _ _ _ (by simp; omega), push_old _ _ _ (by simp), push_new]
  · show (((w.heap.push _).push _).push _)[w.heap.size + 1]? = _
    rw [push_old _ _ _ (by simp)]
    have := push_new (w.heap.push (.cells #[a] t0)) (.cells #[b] t1)
    rwa [Array.size_push] at this
  · show (((w.heap.push _).push _).push _)[w.heap.size + 2]? = _
    have := push_new ((w.heap.push (.cells #[a] t0)).push (.cells #[b] t1)) (.cells #[c] t2)
    rwa [Array.size_push, Array.size_push] at this
theorem below_new (w : World) (x y z : Obj) : Below w.heap.size w (((w.alloc x).alloc y).alloc z) :=
  (((Below.refl _ _).alloc (Nat.le_refl _) _).alloc (by rw [World.size_alloc]; omega) _).alloc (by rw [World.size_alloc, World.size_alloc]; omega) _

set_option maxHeartbeats 4000000 in
theorem request_any (s : ByteArray) (w : World) (hT : Tab w) :
    Calls Tryz.prog 39 #[.string s] w fun e w' => e = .returned (reqVal s) ∧ Below w.heap.size w w' := by
  have HT := Lib.hid hT
  have hg := hT.lt
  clear hT
  by_cases hs : 1024 < s.size
  · have HV := Lib.hid (show reqVal s = .tuple #[.string ⟨#[]⟩, .string ⟨#[]⟩, .int .i64 0, .int .i64 3] from by unfold reqVal; rw [if_pos hs])
    go_enter Tryz.func39, Tryz.ntmps39
    go_wp2_with fail
    refine (fault_big s _ _ _ hs).mono ?_
    rintro e w' ⟨rfl, rfl⟩
    go_wp2_with fail
    refine bodyPost_ret (v := .tuple #[.string ⟨#[]⟩, .string ⟨#[]⟩, .int .i64 0, .int .i64 3]) (by simp [results, Tryz.results39, go_sem]) rfl ⟨by rw [HV.out], ?_⟩
    exact below_new w _ _ _
  · cases hr : reqOk s.data.toList with
    | true =>
      have HV := Lib.hid (show reqVal s = .tuple #[.string ⟨(fst s.data.toList).toArray⟩, .string ⟨(fst (rst s.data.toList)).toArray⟩, .int .i64 (minorOf (rst (rst s.data.toList))), .int .i64 0] from by unfold reqVal; rw [if_neg hs, if_pos hr])
      have HR := Lib.hid hr
      clear hr
      go_enter Tryz.func39, Tryz.ntmps39
      go_wp2_with fail
      refine (fault_req w.heap.size s _ _ _ _ hs (c3_new w _ _ _ _ _ _) (tab_alloc (tab_alloc (tab_alloc HT.out _) _) _) hg).mono ?_
      rintro e w1 ⟨rfl, hc, hb⟩
      rw [HR.out]
      have HCC := Lib.hid hc
      have HBB := Lib.hid hb
      have c0 := cell_of_one hc.h0
      have c1 := cell_of_one hc.h1
      have c2 := cell_of_one hc.h2
      have f0 := free_of_one hc.h0
      have f1 := free_of_one hc.h1
      have f2 := free_of_one hc.h2
      clear hc hb
      go_wp2_with fail
      go_region
      all_goals
        go_wp2_with fail
        refine bodyPost_ret (results3 rfl _ _ w.heap.size _ _ _ rfl rfl rfl ((HCC.out.put _ _ _).heap (by rfl))) rfl ⟨by rw [HV.out]; rfl, ?_⟩
        have h := put3_below (g := w.heap.size) ((below_new w _ _ _).trans HBB.out) (.string ⟨(fst s.data.toList).toArray⟩) (.string ⟨(fst (rst s.data.toList)).toArray⟩) (.int .i64 (minorOf (rst (rst s.data.toList))))
        exact Below.mk h.os h.tape h.output h.size h.block
    | false =>
      have HV := Lib.hid (show reqVal s = .tuple #[.string ⟨#[]⟩, .string ⟨#[]⟩, .int .i64 0, .int .i64 30] from by unfold reqVal; rw [if_neg hs, if_neg (by rw [hr]; simp)])
      have HR := Lib.hid hr
      clear hr
      go_enter Tryz.func39, Tryz.ntmps39
      go_wp2_with fail
      refine (fault_req w.heap.size s _ _ _ _ hs (c3_new w _ _ _ _ _ _) (tab_alloc (tab_alloc (tab_alloc HT.out _) _) _) hg).mono ?_
      rintro e w1 ⟨rfl, hc, hb⟩
      rw [HR.out]
      have HCC := Lib.hid hc
      have HBB := Lib.hid hb
      have c0 := cell_of_one hc.h0
      have c1 := cell_of_one hc.h1
      have c2 := cell_of_one hc.h2
      have f0 := free_of_one hc.h0
      have f1 := free_of_one hc.h1
      have f2 := free_of_one hc.h2
      clear hc hb
      go_wp2_with fail
      refine bodyPost_ret (results3 rfl _ _ w.heap.size _ _ _ rfl rfl rfl ((HCC.out.put _ _ _).heap (by rfl))) rfl ⟨by rw [HV.out]; rfl, ?_⟩
      exact put3_below (g := w.heap.size) ((below_new w _ _ _).trans HBB.out) _ _ _
end Go.Proofs.YtcolnidgembniaaGreatDoor.Ln
/-
  The closure of line.Status: what it returns, and what it stores. Condition: at most 1024 bytes.
-/
namespace Go.Proofs.YtcolnidgembniaaGreatDoor.Ln
open Go.RowKit Go.Proofs.YtcolnidgembniaaGreatDoor.Tk

def StPost (g : Nat) (l : Bs) (w : World) (e : Ending) (w' : World) : Prop :=
  e = .returned (.bool (!stOk l)) ∧ C3 g 3 3 9 (.int .i64 (minorOf (fst l))) (.int .i64 (codeOf (fst (rst l)))) (.string ⟨(rst (rst l)).toArray⟩) w' ∧ Below g w w'

set_option maxHeartbeats 4000000 in
theorem stClosure_any (g : Nat) (v : Value) (l : Bs) (w : World) (a b c : Value) (hl : l.length ≤ 1024) (hS : SB (g + 3) w v l) (hC : C3 g 3 3 9 a b c w) :
    Calls Tryz.prog 65 #[v, .pointer (some ⟨g, 0, none⟩), .pointer (some ⟨g + 1, 0, none⟩), .pointer (some ⟨g + 2, 0, none⟩)] w (StPost g l w) := by
  have HS := Lib.hid hS
  have HC := Lib.hid hC
  clear hS hC
  go_enter Tryz.func65, Tryz.ntmps65
  go_wp2_with fail
  refine (cut_any (g + 3) v l _ hl HS.out).mono ?_
  rintro e w1 ⟨x1, y1, rfl, hx1, hy1, n1, hw1⟩
  have HX1 := Lib.hid hx1
  have HY1 := Lib.hid (show SB (g + 3) w1 y1 (rst l) from by rw [hw1]; exact hy1)
  have HW1 := Lib.hid hw1
  clear hx1 hy1 hw1
  go_wp2_with fail
  refine (cut_any (g + 3) y1 (rst l) _ (Nat.le_trans (rst_le l) hl) HY1.out).mono ?_
  rintro e w2 ⟨x2, y2, rfl, hx2, hy2, n2, hw2⟩
  have hw : w2.heap = w.heap := by rw [hw2, HW1.out]; rfl
  have HH := Lib.hid hw
  have HX := Lib.hid (HX1.out.heap hw)
  have HX2 := Lib.hid (hx2.heap (show w2.heap = w1.heap from by rw [hw2]; rfl))
  have HY2 := Lib.hid (hy2.heap (show w2.heap = w1.heap from by rw [hw2]; rfl))
  obtain ⟨M, hM⟩ : ∃ M : Int, M = minorOf (fst l) := ⟨_, rfl⟩
  obtain ⟨N, hN⟩ : ∃ N : Int, N = codeOf (fst (rst l)) := ⟨_, rfl⟩
  obtain ⟨A, hA⟩ : ∃ A : ByteArray, A = ⟨(rst (rst l)).toArray⟩ := ⟨_, rfl⟩
  have HA := Lib.hid hA
  have HN := Lib.hid hN
  have HM := Lib.hid hM
  have hb1 : ∀ W : World, W.heap = w2.heap → (convert 22 9 y2).run Tryz.prog W = .ok (.string A) W := fun W e => by rw [hA]; exact run_back W (HY2.out.heap e)
  have hb2 : ∀ (W : World) (x : Value), W.heap = (w2.setCell ⟨g, 0, none⟩ x).heap → (convert 22 9 y2).run Tryz.prog W = .ok (.string A) W := fun W x e => by rw [hA]; exact run_back W ((HY2.out.set ⟨g, 0, none⟩ x (by show g < g + 3; omega)).heap e)
  have hb3 : ∀ (W : World) (x y : Value), W.heap = ((w2.setCell ⟨g, 0, none⟩ x).setCell ⟨g + 1, 0, none⟩ y).heap → (convert 22 9 y2).run Tryz.prog W = .ok (.string A) W := fun W x y e => by rw [hA]; exact run_back W (((HY2.out.set ⟨g, 0, none⟩ x (by show g < g + 3; omega)).set ⟨g + 1, 0, none⟩ y (by show g + 1 < g + 3; omega)).heap e)
  have HSA := Lib.hid (show A.size ≤ maxLen from by rw [hA]; exact size_le (by unfold maxLen; have := rst_le l; have := rst_le (rst l); omega))
  have HR := Lib.hid (show stOk l = (isMin M && isCod N && isRsn A.data.toList) from by rw [hA, hN, hM]; rfl)
  have HL2 := Lib.hid (show (fst (rst l)).length ≤ 1024 from by have := fst_le (rst l); have := rst_le l; omega)
  have c0 : w2.cell? ⟨g, 0, none⟩ = some a := by rw [cell_heap hw]; exact cell_of_one HC.out.h0
  have f0 : w2.frozen? ⟨g, 0, none⟩ = false := free_of_one (by rw [hw]; exact HC.out.h0)
  have c1 : w2.cell? ⟨g + 1, 0, none⟩ = some b := by rw [cell_heap hw]; exact cell_of_one HC.out.h1
  have f1 : w2.frozen? ⟨g + 1, 0, none⟩ = false := free_of_one (by rw [hw]; exact HC.out.h1)
  have c2 : w2.cell? ⟨g + 2, 0, none⟩ = some c := by rw [cell_heap hw]; exact cell_of_one HC.out.h2
  have f2 : w2.frozen? ⟨g + 2, 0, none⟩ = false := free_of_one (by rw [hw]; exact HC.out.h2)
  have k1 := hb1 w2.drew rfl
  have k1m := fun m => hb1 (w2.drewN m) rfl
  have k2s := fun x => hb2 (w2.drew.setCell ⟨g, 0, none⟩ x) x rfl
  have k2t := fun x => hb2 (w2.setCell ⟨g, 0, none⟩ x).drew x rfl
  have k2sm := fun m x => hb2 ((w2.drewN m).setCell ⟨g, 0, none⟩ x) x rfl
  have k2tm := fun m x => hb2 ((w2.setCell ⟨g, 0, none⟩ x).drewN m) x rfl
  have k3s := fun x y => hb3 ((w2.drew.setCell ⟨g, 0, none⟩ x).setCell ⟨g + 1, 0, none⟩ y) x y rfl
  have k3t := fun x y => hb3 ((w2.setCell ⟨g, 0, none⟩ x).setCell ⟨g + 1, 0, none⟩ y).drew x y rfl
  have k3sm := fun m x y => hb3 (((w2.drewN m).setCell ⟨g, 0, none⟩ x).setCell ⟨g + 1, 0, none⟩ y) x y rfl
  have k3tm := fun m x y => hb3 (((w2.setCell ⟨g, 0, none⟩ x).setCell ⟨g + 1, 0, none⟩ y).drewN m) x y rfl
  have s0 := Lib.hid HX2.out
  have s1 := Lib.hid fun x => HX2.out.set ⟨g, 0, none⟩ x (by show g < g + 3; omega)
  have HC3 := Lib.hid (show ∀ x y z, C3 g 3 3 9 x y z (put3 g w2 x y z) from fun x y z => (HC.out.heap hw).put x y z)
  have HBel := Lib.hid (show ∀ x y z, Below g w (put3 g w2 x y z) from fun x y z => put3_below (by rw [hw2, HW1.out]; exact Below.mk rfl rfl rfl (by exact Nat.le_refl _) (fun _ _ => rfl)) x y z)
  clear hb1 hb2 hb3
  clear hx2 hy2 hw2 hw hA hN hM HX1 HY1 HW1
  go_wp2_with fail
  go_region_with (first
    | (go_at_call 60; refine (readMinor_any (g + 3) x1 (fst l) _ (HX.out.heap (by rfl))).mono ?_; rintro e w' ⟨rfl, m, rfl⟩; rw [← HM.out])
    | (go_at_call 66; refine (readCode_any (g + 3) x2 (fst (rst l)) _ HL2.out (by first | exact s0.out.heap (by rfl) | exact (s1.out _).heap (by rfl))).mono ?_; rintro e w' ⟨rfl, rfl⟩; rw [← HN.out]))
  all_goals
    go_wp2_with fail
    refine (isMinor_any M _).mono ?_
    rintro e w' ⟨rfl, rfl⟩
    cases h1 : isMin M with
    | false =>
      have HV := Lib.hid (show stOk l = false from by rw [HR.out, h1]; rfl)
      clear h1
      go_wp2_with fail
      go_ret
      exact ⟨by rw [HV.out]; rfl, by rw [← HA.out, ← HN.out, ← HM.out]; exact (HC3.out _ _ _).heap (by rfl), Below.mk (HBel.out (.int .i64 M) (.int .i64 N) (.string A)).os (HBel.out (.int .i64 M) (.int .i64 N) (.string A)).tape (HBel.out (.int .i64 M) (.int .i64 N) (.string A)).output (HBel.out (.int .i64 M) (.int .i64 N) (.string A)).size (HBel.out (.int .i64 M) (.int .i64 N) (.string A)).block⟩
    | true =>
      have HI1 := Lib.hid h1
      clear h1
      go_wp2_with fail
      refine (isCode_any N _).mono ?_
      rintro e w' ⟨rfl, rfl⟩
      cases h2 : isCod N with
      | false =>
        have HV := Lib.hid (show stOk l = false from by rw [HR.out, h2, HI1.out]; rfl)
        clear h2
        go_wp2_with fail
        go_ret
        exact ⟨by rw [HV.out]; rfl, by rw [← HA.out, ← HN.out, ← HM.out]; exact (HC3.out _ _ _).heap (by rfl), Below.mk (HBel.out (.int .i64 M) (.int .i64 N) (.string A)).os (HBel.out (.int .i64 M) (.int .i64 N) (.string A)).tape (HBel.out (.int .i64 M) (.int .i64 N) (.string A)).output (HBel.out (.int .i64 M) (.int .i64 N) (.string A)).size (HBel.out (.int .i64 M) (.int .i64 N) (.string A)).block⟩
      | true =>
        have HI2 := Lib.hid h2
        clear h2
        go_wp2_with fail
        refine (isReason_any A _ HSA.out).mono ?_
        rintro e w' ⟨rfl, rfl⟩
        have HV := Lib.hid (show stOk l = isRsn A.data.toList from by rw [HR.out, HI2.out, HI1.out]; rfl)
        go_wp2_with fail
        go_ret
        exact ⟨by rw [HV.out]; rfl, by rw [← HA.out, ← HN.out, ← HM.out]; exact (HC3.out _ _ _).heap (by rfl), Below.mk (HBel.out (.int .i64 M) (.int .i64 N) (.string A)).os (HBel.out (.int .i64 M) (.int .i64 N) (.string A)).tape (HBel.out (.int .i64 M) (.int .i64 N) (.string A)).output (HBel.out (.int .i64 M) (.int .i64 N) (.string A)).size (HBel.out (.int .i64 M) (.int .i64 N) (.string A)).block⟩

def FaultPostS (g : Nat) (s : ByteArray) (w : World) (e : Ending) (w' : World) : Prop :=
  e = .returned (.int .i64 (if stOk s.data.toList then 0 else 30)) ∧ C3 g 3 3 9 (.int .i64 (minorOf (fst s.data.toList))) (.int .i64 (codeOf (fst (rst s.data.toList)))) (.string ⟨(rst (rst s.data.toList)).toArray⟩) w' ∧ Below g w w'

set_option maxHeartbeats 1000000 in
theorem fault_st (g : Nat) (s : ByteArray) (w : World) (a b c : Value) (hs : ¬ 1024 < s.size) (hC : C3 g 3 3 9 a b c w) :
    Calls Tryz.prog 64 #[.string s, .func (.func 65) #[] #[.pointer (some ⟨g, 0, none⟩), .pointer (some ⟨g + 1, 0, none⟩), .pointer (some ⟨g + 2, 0, none⟩)]] w (FaultPostS g s w) := by
  have hconv := fun W : World => run_bytes_of_string (P := Tryz.prog) W 9 22 5 s Tryz.underlying9 Tryz.underlying22 Tryz.underlying5
  have HC := Lib.hid hC
  have hgw := hC.lt
  clear hC
  go_enter Tryz.func64, Tryz.ntmps64
  go_wp2_with fail
  refine (stClosure_any g _ s.data.toList _ a b c (by simp; omega) ((sb_new (g + 3) w s _ _ _ (grownCap_ge _ _ _ _) (by omega)).heap (by rfl)) ((HC.out.alloc _).heap (by rfl))).mono ?_
  rintro e w1 ⟨rfl, hc, hb⟩
  have HCC := Lib.hid hc
  have HBB := Lib.hid hb
  clear hc hb
  cases hr : stOk s.data.toList with
  | true =>
    have HR := Lib.hid hr
    clear hr
    go_wp2_with fail
    go_ret
    exact ⟨by rw [HR.out]; rfl, HCC.out, (((Below.refl g w).alloc (by omega) _).drew.trans HBB.out)⟩
  | false =>
    have HR := Lib.hid hr
    clear hr
    go_wp2_with fail
    go_ret
    exact ⟨by rw [HR.out]; rfl, HCC.out, (((Below.refl g w).alloc (by omega) _).drew.trans HBB.out)⟩

theorem results3s {fn : Func} {p0 p1 p2 u : Tmp} (h : fn.results = #[.cell p0 3, .cell p1 3, .cell p2 9, .tmp u]) (tmps : Array Value) (w : World) (g : Nat) (a b c : Value)
    (hp0 : tmps.getD p0 undef = .pointer (some ⟨g, 0, none⟩)) (hp1 : tmps.getD p1 undef = .pointer (some ⟨g + 1, 0, none⟩)) (hp2 : tmps.getD p2 undef = .pointer (some ⟨g + 2, 0, none⟩)) (hC : C3 g 3 3 9 a b c w) :
    (results fn tmps).run Tryz.prog w = .ok (.tuple #[a, b, c, tmps.getD u undef]) w := by
  have c0 := cell_of_one hC.h0
  have c1 := cell_of_one hC.h1
  have c2 := cell_of_one hC.h2
  simp only [Array.getD_eq_getD_getElem?] at hp0 hp1 hp2
  simp [results, h, hp0, hp1, hp2, go_sem, c0, c1, c2]

set_option maxHeartbeats 4000000 in
theorem status_any (s : ByteArray) (w : World) :
    Calls Tryz.prog 40 #[.string s] w fun e w' => e = .returned (stVal s) ∧ Below w.heap.size w w' := by
  by_cases hs : 1024 < s.size
  · have HV := Lib.hid (show stVal s = .tuple #[.int .i64 0, .int .i64 0, .string ⟨#[]⟩, .int .i64 3] from by unfold stVal; rw [if_pos hs])
    go_enter Tryz.func40, Tryz.ntmps40
    go_wp2_with fail
    refine (fault_big s _ _ _ hs).mono ?_
    rintro e w' ⟨rfl, rfl⟩
    go_wp2_with fail
    refine bodyPost_ret (v := .tuple #[.int .i64 0, .int .i64 0, .string ⟨#[]⟩, .int .i64 3]) (by simp [results, Tryz.results40, go_sem]) rfl ⟨by rw [HV.out], ?_⟩
    exact below_new w _ _ _
  · cases hr : stOk s.data.toList with
    | true =>
      have HV := Lib.hid (show stVal s = .tuple #[.int .i64 (minorOf (fst s.data.toList)), .int .i64 (codeOf (fst (rst s.data.toList))), .string ⟨(rst (rst s.data.toList)).toArray⟩, .int .i64 0] from by unfold stVal; rw [if_neg hs, if_pos hr])
      have HR := Lib.hid hr
      clear hr
      go_enter Tryz.func40, Tryz.ntmps40
      go_wp2_with fail
      refine (fault_st w.heap.size s _ _ _ _ hs (c3_new w _ _ _ _ _ _)).mono ?_
      rintro e w1 ⟨rfl, hc, hb⟩
      rw [HR.out]
      have HCC := Lib.hid hc
      have HBB := Lib.hid hb
      have c0 := cell_of_one hc.h0
      have c1 := cell_of_one hc.h1
      have c2 := cell_of_one hc.h2
      have f0 := free_of_one hc.h0
      have f1 := free_of_one hc.h1
      have f2 := free_of_one hc.h2
      clear hc hb
      go_wp2_with fail
      go_region
      all_goals
        go_wp2_with fail
        refine bodyPost_ret (results3s rfl _ _ w.heap.size _ _ _ rfl rfl rfl ((HCC.out.put _ _ _).heap (by rfl))) rfl ⟨by rw [HV.out]; rfl, ?_⟩
        have h := put3_below (g := w.heap.size) ((below_new w _ _ _).trans HBB.out) (.int .i64 (minorOf (fst s.data.toList))) (.int .i64 (codeOf (fst (rst s.data.toList)))) (.string ⟨(rst (rst s.data.toList)).toArray⟩)
        exact Below.mk h.os h.tape h.output h.size h.block
    | false =>
      have HV := Lib.hid (show stVal s = .tuple #[.int .i64 0, .int .i64 0, .string ⟨#[]⟩, .int .i64 30] from by unfold stVal; rw [if_neg hs, if_neg (by rw [hr]; simp)])
      have HR := Lib.hid hr
      clear hr
      go_enter Tryz.func40, Tryz.ntmps40
      go_wp2_with fail
      refine (fault_st w.heap.size s _ _ _ _ hs (c3_new w _ _ _ _ _ _)).mono ?_
      rintro e w1 ⟨rfl, hc, hb⟩
      rw [HR.out]
      have HCC := Lib.hid hc
      have HBB := Lib.hid hb
      have c0 := cell_of_one hc.h0
      have c1 := cell_of_one hc.h1
      have c2 := cell_of_one hc.h2
      have f0 := free_of_one hc.h0
      have f1 := free_of_one hc.h1
      have f2 := free_of_one hc.h2
      clear hc hb
      go_wp2_with fail
      refine bodyPost_ret (results3s rfl _ _ w.heap.size _ _ _ rfl rfl rfl ((HCC.out.put _ _ _).heap (by rfl))) rfl ⟨by rw [HV.out]; rfl, ?_⟩
      exact put3_below (g := w.heap.size) ((below_new w _ _ _).trans HBB.out) _ _ _
end Go.Proofs.YtcolnidgembniaaGreatDoor.Ln
/-
  What is done with a line that ended: requestLine, statusLine, the closure of opening: what each leaves. Condition: the table of token bytes.
-/
namespace Go.Proofs.YtcolnidgembniaaGreatDoor.Hd
open Go.RowKit Go.Proofs.YtcolnidgembniaaGreatDoor.Tk Go.Proofs.YtcolnidgembniaaGreatDoor.Fd Go.Proofs.YtcolnidgembniaaGreatDoor.Ln
set_option linter.unusedVariables false

section
variable {w : World} {g : Nat} {resp : Bool} {M : Nat} {F lv : Value} {n : Nat} {wh : Bool} {e : Nat} {rq : Bool} {q : Parts} {fv : Value}
theorem rc7 (h : w.heap[g]? = some (.cells (rc resp M F lv n wh e rq q fv) 76 (0, 0))) : w.cell? ⟨g, 7, none⟩ = some (.string (qA rq q)) := by rw [Lib.cell_of_heap h]; rfl
theorem rc8 (h : w.heap[g]? = some (.cells (rc resp M F lv n wh e rq q fv) 76 (0, 0))) : w.cell? ⟨g, 8, none⟩ = some (.string (qB rq q)) := by rw [Lib.cell_of_heap h]; rfl
theorem rc9 (h : w.heap[g]? = some (.cells (rc resp M F lv n wh e rq q fv) 76 (0, 0))) : w.cell? ⟨g, 9, none⟩ = some (.int .i64 (qM rq q)) := by rw [Lib.cell_of_heap h]; rfl
theorem rc10 (h : w.heap[g]? = some (.cells (rc resp M F lv n wh e rq q fv) 76 (0, 0))) : w.cell? ⟨g, 10, none⟩ = some (.slice none 0 0) := by rw [Lib.cell_of_heap h]; rfl
theorem rc11 (h : w.heap[g]? = some (.cells (rc resp M F lv n wh e rq q fv) 76 (0, 0))) : w.cell? ⟨g, 11, none⟩ = some (.int .i64 (sM rq q)) := by rw [Lib.cell_of_heap h]; rfl
theorem rc12 (h : w.heap[g]? = some (.cells (rc resp M F lv n wh e rq q fv) 76 (0, 0))) : w.cell? ⟨g, 12, none⟩ = some (.int .i64 (sC rq q)) := by rw [Lib.cell_of_heap h]; rfl
theorem rc13 (h : w.heap[g]? = some (.cells (rc resp M F lv n wh e rq q fv) 76 (0, 0))) : w.cell? ⟨g, 13, none⟩ = some (.string (sA rq q)) := by rw [Lib.cell_of_heap h]; rfl
theorem rc14 (h : w.heap[g]? = some (.cells (rc resp M F lv n wh e rq q fv) 76 (0, 0))) : w.cell? ⟨g, 14, none⟩ = some (.slice none 0 0) := by rw [Lib.cell_of_heap h]; rfl
end
theorem rc_putQ {w : World} {g : Nat} {M : Nat} {F lv : Value} {n : Nat} {q : Parts} {fv : Value} (h : w.heap[g]? = some (.cells (rc false M F lv n false 0 false q fv) 76 (0, 0))) (t : Parts) :
    ((((w.setCell ⟨g, 7, none⟩ (.string t.a)).setCell ⟨g, 8, none⟩ (.string t.b)).setCell ⟨g, 9, none⟩ (.int .i64 t.m)).setCell ⟨g, 10, none⟩ (.slice none 0 0)).heap[g]? = some (.cells (rc false M F lv n false 0 false t fv) 76 (0, 0)) :=
  heap_put (heap_put (heap_put (heap_put h 7 _) 8 _) 9 _) 10 _
theorem rc_putS {w : World} {g : Nat} {M : Nat} {F lv : Value} {n : Nat} {q : Parts} {fv : Value} (h : w.heap[g]? = some (.cells (rc true M F lv n false 0 true q fv) 76 (0, 0))) (t : Parts) :
    ((((w.setCell ⟨g, 11, none⟩ (.int .i64 t.m)).setCell ⟨g, 12, none⟩ (.int .i64 t.c)).setCell ⟨g, 13, none⟩ (.string t.a)).setCell ⟨g, 14, none⟩ (.slice none 0 0)).heap[g]? = some (.cells (rc true M F lv n false 0 true t fv) 76 (0, 0)) :=
  heap_put (heap_put (heap_put (heap_put h 11 _) 12 _) 13 _) 14 _
theorem rc_putF {w : World} {g : Nat} {resp : Bool} {M : Nat} {F lv : Value} {n : Nat} {wh : Bool} {e : Nat} {rq : Bool} {q : Parts} {fv : Value} (h : w.heap[g]? = some (.cells (rc resp M F lv n wh e rq q fv) 76 (0, 0))) (m : Nat) (G : Value) :
    ((w.setCell ⟨g, 1, none⟩ (.int .i64 (m : Int))).setCell ⟨g, 2, none⟩ G).heap[g]? = some (.cells (rc resp m G lv n wh e rq q fv) 76 (0, 0)) :=
  heap_put (heap_put h 1 _) 2 _

/-- A call that turned a reader's block alone. -/
def ClosPost (g : Nat) (cs : Array Value) (e0 : Nat) (w : World) (e : Ending) (w' : World) : Prop :=
  e = .returned (.int .i64 (e0 : Int)) ∧ w'.heap[g]? = some (.cells cs 76 (0, 0)) ∧ Chg (fun k => k = g) w w'

set_option maxRecDepth 100000 in
set_option maxHeartbeats 4000000 in
theorem requestLine_any (g : Nat) (M : Nat) (F lv : Value) (n : Nat) (q : Parts) (fv : Value) (t : ByteArray) (w : World) (h : w.heap[g]? = some (.cells (rc false M F lv n false 0 false q fv) 76 (0, 0))) (hT : Tab w) :
    Calls Tryz.prog 26 #[.pointer (some ⟨g, 0, none⟩), .string t] w (ClosPost g (rc false M F lv n false 0 false (reqOf t).1 fv) (reqOf t).2 w) := by
  have HV := Lib.hid (reqVal_of t)
  obtain ⟨R, hR⟩ : ∃ R, R = reqOf t := ⟨_, rfl⟩
  rw [← hR] at HV
  rw [← hR]
  have HB := Lib.hid h
  clear hR h
  go_enter Tryz.func26, Tryz.ntmps26
  go_wp2_with fail
  refine (request_any t _ hT).mono ?_
  rintro e w1 ⟨rfl, hb1⟩
  rw [HV.out]
  have hK := Bl.old hb1 (block_lt HB.out) HB.out
  have c7 := rc7 hK
  have c8 := rc8 hK
  have c9 := rc9 hK
  have c10 := rc10 hK
  have f7 := free hK 7
  have f8 := free hK 8
  have f9 := free hK 9
  have f10 := free hK 10
  have HK := Lib.hid (rc_putQ hK R.1)
  have HC := Lib.hid (Chg.of_below (O := fun k => k = g) hb1)
  clear hK hb1
  go_wp2_with fail
  go_ret
  exact ⟨rfl, HK.out, (((HC.out.put _ _ (.inl rfl)).put _ _ (.inl rfl)).put _ _ (.inl rfl)).put _ _ (.inl rfl)⟩

set_option maxRecDepth 100000 in
set_option maxHeartbeats 4000000 in
theorem statusLine_any (g : Nat) (M : Nat) (F lv : Value) (n : Nat) (q : Parts) (fv : Value) (t : ByteArray) (w : World) (h : w.heap[g]? = some (.cells (rc true M F lv n false 0 true q fv) 76 (0, 0))) :
    Calls Tryz.prog 27 #[.pointer (some ⟨g, 0, none⟩), .string t] w (ClosPost g (rc true M F lv n false 0 true (stOf t).1 fv) (stOf t).2 w) := by
  have HV := Lib.hid (stVal_of t)
  obtain ⟨R, hR⟩ : ∃ R, R = stOf t := ⟨_, rfl⟩
  rw [← hR] at HV
  rw [← hR]
  have HB := Lib.hid h
  clear hR h
  go_enter Tryz.func27, Tryz.ntmps27
  go_wp2_with fail
  refine (status_any t _).mono ?_
  rintro e w1 ⟨rfl, hb1⟩
  rw [HV.out]
  have hK := Bl.old hb1 (block_lt HB.out) HB.out
  have c11 := rc11 hK
  have c12 := rc12 hK
  have c13 := rc13 hK
  have c14 := rc14 hK
  have f11 := free hK 11
  have f12 := free hK 12
  have f13 := free hK 13
  have f14 := free hK 14
  have HK := Lib.hid (rc_putS hK R.1)
  have HC := Lib.hid (Chg.of_below (O := fun k => k = g) hb1)
  clear hK hb1
  go_wp2_with fail
  go_ret
  exact ⟨rfl, HK.out, (((HC.out.put _ _ (.inl rfl)).put _ _ (.inl rfl)).put _ _ (.inl rfl)).put _ _ (.inl rfl)⟩

theorem Tab.chg {O : Nat → Prop} {w w' : World} (h : Tab w) (hc : Chg O w w') (ho : ¬ O 0) : Tab w' := fun n hn => by
  rw [World.cell?_of_block (w := w) (hc.block 0 h.lt ho)]; exact h n hn
/-- The closure of opening at an empty line. -/
theorem opening_empty (g gb : Nat) (w : World) :
    Calls Tryz.prog 41 #[.pointer (some ⟨g, 0, none⟩), .string ⟨#[]⟩, .pointer (some ⟨gb, 0, none⟩)] w fun e w' => e = .returned (.int .i64 0) ∧ w = w' := by
  go_enter Tryz.func41, Tryz.ntmps41
  go_wp2_with fail
  go_ret
  exact ⟨rfl, rfl⟩
set_option maxRecDepth 100000 in
set_option maxHeartbeats 4000000 in
theorem opening_any (resp : Bool) (g gb : Nat) (M : Nat) (F lv : Value) (n : Nat) (q : Parts) (fv : Value) (t : ByteArray) (w : World) (h : w.heap[g]? = some (.cells (rc resp M F lv n false 0 resp q fv) 76 (0, 0)))
    (hx : w.heap[gb]? = some (.cells #[firstFn resp] 70 (0, 0))) (hT : Tab w) (hg : g ≠ 0) (ht : 0 < t.size) :
    Calls Tryz.prog 41 #[.pointer (some ⟨g, 0, none⟩), .string t, .pointer (some ⟨gb, 0, none⟩)] w
      (ClosPost g (rc resp 8192 (.func (.func 42) #[] #[]) lv n false 0 resp (firstOf resp t).1 fv) (firstOf resp t).2 w) := by
  have ht0 : t.toList.isEmpty = false := text_full ht
  have hxg : gb ≠ g := apart_of hx h (by decide)
  have c1 := rc1 h
  have c2 := rc2 h
  have f1 := free h 1
  have f2 := free h 2
  have hK : ((w.setCell ⟨g, 1, none⟩ (.int .i64 8192)).setCell ⟨g, 2, none⟩ (.func (.func 42) #[] #[])).heap[g]? = some (.cells (rc resp 8192 (.func (.func 42) #[] #[]) lv n false 0 resp q fv) 76 (0, 0)) := rc_putF h 8192 (.func (.func 42) #[] #[])
  have hC := ((Chg.refl (fun k => k = g) w).put ⟨g, 1, none⟩ (.int .i64 8192) (.inl rfl)).put ⟨g, 2, none⟩ (.func (.func 42) #[] #[]) (.inl rfl)
  have hX : ((w.setCell ⟨g, 1, none⟩ (.int .i64 8192)).setCell ⟨g, 2, none⟩ (.func (.func 42) #[] #[])).cell? ⟨gb, 0, none⟩ = some (firstFn resp) := by
    rw [Lib.cell_of_heap (hC.old hxg hx)]; rfl
  have HT := Lib.hid (Tab.chg hT hC (fun e => hg e.symm))
  have HK := Lib.hid hK
  have HC := Lib.hid hC
  clear hK hC hT hx h
  cases resp with
  | false =>
    unfold firstFn at hX
    simp only [Bool.false_eq_true, if_false] at hX
    go_enter Tryz.func41, Tryz.ntmps41
    go_wp2_with fail
    refine (requestLine_any g 8192 _ lv n q fv t _ HK.out HT.out).mono ?_
    rintro e w1 ⟨rfl, hb, hc⟩
    have HC2 := Lib.hid (HC.out.trans hc (fun i hi => .inl hi))
    clear hc hX
    go_wp2_with fail
    go_ret
    exact ⟨rfl, hb, HC2.out⟩
  | true =>
    unfold firstFn at hX
    simp only [if_true] at hX
    go_enter Tryz.func41, Tryz.ntmps41
    go_wp2_with fail
    refine (statusLine_any g 8192 _ lv n q fv t _ HK.out).mono ?_
    rintro e w1 ⟨rfl, hb, hc⟩
    have HC2 := Lib.hid (HC.out.trans hc (fun i hi => .inl hi))
    clear hc hX
    go_wp2_with fail
    go_ret
    exact ⟨rfl, hb, HC2.out⟩
end Go.Proofs.YtcolnidgembniaaGreatDoor.Hd
/-
  A reader's fieldLine: what it leaves. Conditions: fields of at most 8192 bytes in all; the table of token bytes.
-/
namespace Go.Proofs.YtcolnidgembniaaGreatDoor.Hd
open Go.RowKit Go.Proofs.YtcolnidgembniaaGreatDoor.Tk Go.Proofs.YtcolnidgembniaaGreatDoor.Fd
set_option linter.unusedVariables false

set_option maxRecDepth 100000 in
set_option maxHeartbeats 4000000 in
theorem field_empty (resp : Bool) (g : Nat) (M : Nat) (F lv : Value) (n : Nat) (q : Parts) (fv : Value) (w : World) (h : w.heap[g]? = some (.cells (rc resp M F lv n false 0 resp q fv) 76 (0, 0))) :
    Calls Tryz.prog 42 #[.pointer (some ⟨g, 0, none⟩), .string ⟨#[]⟩] w (ClosPost g (rc resp M F (.slice none 0 0) n true 0 resp q fv) 0 w) := by
  have c5 := rc5 h
  have c3 := rc3 h
  have f5 := free h 5
  have f3 := free h 3
  have HK := Lib.hid (rc_put3 (rc_put5 h true) (.slice none 0 0))
  clear h
  go_enter Tryz.func42, Tryz.ntmps42
  go_wp2_with fail
  go_ret
  exact ⟨rfl, HK.out, ((Chg.refl (fun k => k = g) w).put _ _ (.inl rfl)).put _ _ (.inl rfl)⟩
set_option maxHeartbeats 4000000 in
theorem field_full (resp : Bool) (g : Nat) (M : Nat) (F lv : Value) (n : Nat) (q : Parts) (a : Option Addr) (c : Nat) (t : ByteArray) (w : World) (h : w.heap[g]? = some (.cells (rc resp M F lv n false 0 resp q (.slice a 64 c)) 76 (0, 0))) (ht : 0 < t.size) :
    Calls Tryz.prog 42 #[.pointer (some ⟨g, 0, none⟩), .string t] w fun e w' => e = .returned (.int .i64 3) ∧ w = w' := by
  have ht0 : t.toList.isEmpty = false := text_full ht
  have c15 := rc15 h
  clear h
  go_enter Tryz.func42, Tryz.ntmps42
  go_wp2_with fail
  go_ret
  exact ⟨rfl, rfl⟩

theorem old2 {w : World} {k : Nat} {x o : Obj} (h : w.heap[k]? = some x) : (w.drew.alloc o).heap[k]? = some x := (old_block w.drew o (block_lt h)).trans h
def FieldPost (O : Nat → Prop) (resp : Bool) (g : Nat) (M : Nat) (F lv : Value) (n : Nat) (q : Parts) (fs : List Fl) (e0 : Nat) (w : World) (e : Ending) (w' : World) : Prop :=
  e = .returned (.int .i64 (e0 : Int)) ∧ (∃ fv, w'.heap[g]? = some (.cells (rc resp M F lv n false 0 resp q fv) 76 (0, 0)) ∧ OwnF w' 0 fv fs ∧ ∀ k, fv.ownBlock = some k → New O w k) ∧ Chg O w w'

set_option maxRecDepth 100000 in
set_option maxHeartbeats 4000000 in
theorem field_any (O : Nat → Prop) (resp : Bool) (g : Nat) (M : Nat) (F lv : Value) (n : Nat) (q : Parts) (fv : Value) (fs : List Fl) (t : ByteArray) (w : World) (h : w.heap[g]? = some (.cells (rc resp M F lv n false 0 resp q fv) 76 (0, 0)))
    (hf : OwnF w 0 fv fs) (hl : fs.length < 64) (og : O g) (of : ∀ k, fv.ownBlock = some k → O k) (hT : Tab w) (ht : 0 < t.size) (hts : t.size ≤ 70368744177664) :
    Calls Tryz.prog 42 #[.pointer (some ⟨g, 0, none⟩), .string t] w (FieldPost O resp g M F lv n q (fs ++ [(fldOf t).1]) (fldOf t).2 w) := by
  have ht0 : t.toList.isEmpty = false := text_full ht
  obtain ⟨i0, hi, hz0, hz1, hz2⟩ := info_parts infoField
  have HV := Lib.hid (parseVal_of t)
  obtain ⟨⟨⟨a, b⟩, e0⟩, hR⟩ : ∃ R, R = fldOf t := ⟨_, rfl⟩
  rw [← hR] at HV
  rw [← hR]
  have HB := Lib.hid h
  have HF := Lib.hid hf
  obtain ⟨fa, fc, hfv⟩ := hf.form
  subst hfv
  have c15 := rc15 h
  have h64 : ¬ ((fs.length : Int) = 64) := by omega
  clear hR h hf
  go_enter Tryz.func42, Tryz.ntmps42
  go_wp2_with fail
  refine (parse_any t _ hts hT).mono ?_
  rintro e w1 ⟨rfl, hb1⟩
  rw [HV.out]
  unfold FV
  have hK1 := Bl.old hb1 (block_lt HB.out) HB.out
  have hG1 := block_lt hK1
  have HF1 := Lib.hid (owns_kept HF.out hb1)
  have HC1 := Lib.hid (Chg.of_below (O := O) hb1)
  have HK2 := Lib.hid ((old_block w1 (.cells #[.string a, .string b] 80) hG1).trans hK1)
  have HN2 := Lib.hid (new_block w1 (.cells #[.string a, .string b] 80))
  clear c15 hb1 hK1
  go_wp2_with fail
  have HO2 := Lib.hid (owns_kept HF1.out ((Below.refl w1.heap.size w1).alloc (Nat.le_refl _) (.cells #[.string a, .string b] 80)))
  have HC2 := Lib.hid (HC1.out.alloc (.cells #[.string a, .string b] 80))
  obtain ⟨G, hG⟩ : ∃ G, G = w1.heap.size := ⟨_, rfl⟩
  rw [← hG] at HN2
  rw [← hG]
  obtain ⟨w2, hw2⟩ : ∃ w2, w2 = w1.alloc (.cells #[.string a, .string b] 80) := ⟨_, rfl⟩
  rw [← hw2] at HK2 HN2 HO2 HC2
  rw [← hw2]
  have hgw : g < w2.heap.size := block_lt HK2.out
  have hGw : G < w2.heap.size := block_lt HN2.out
  have hrg : some g ≠ (Value.slice fa fs.length fc).ownBlock := fun e => by obtain ⟨cu, hcu⟩ := row_type HO2.out e.symm; exact apart_of hcu HK2.out (by decide) rfl
  have hrG : some G ≠ (Value.slice fa fs.length fc).ownBlock := fun e => by
    have h1 := World.ownsRow.lt HF1.out G e.symm
    omega
  have hGg : G ≠ g := apart_of HN2.out HK2.out (by decide)
  have HO3 := Lib.hid (fun o => owns_kept HO2.out ((Below.refl w2.heap.size w2).drew.alloc (Nat.le_refl _) o))
  clear hG hw2 HF1 HC1 hG1
  have HK3 := Lib.hid (old2 (o := (.cells #[.string a, .string b] 80)) HK2.out)
  have c15 := rc15 HK2.out
  have c15' : (w2.alloc (.cells #[.string a, .string b] 80)).cell? ⟨g, 15, none⟩ = some (.slice fa fs.length fc) := rc15 (w := (w2.drew.alloc (.cells #[.string a, .string b] 80))) HK3.out
  have cG0 := two0 HN2.out
  have cG1 := two1 HN2.out
  go_region_law ((refine step_append_lies _ (by rfl) _ _ 23 (by rfl) 0 80 i0 (.agg #[.string ⟨#[]⟩, .string ⟨#[]⟩]) 2 32 Tryz.underlying23 hi hz0 hz1 hz2 rfl (by decide) _ _ _ (by rfl) (HO3.out _) ⟨w2.heap.size, 0, none⟩ 1 1 [.string a, .string b] (by rfl) rfl (news_at (new_block w2.drew _)) (one_cells a b) (by omega) (by unfold maxLen; omega) (by omega) (Nat.zero_le _) _ rfl ?_; intro g3 cap3 w3 hown3 hgrow hat3 hlt3; have hK4 := (hgrow.block g (by simp; omega) hrg).trans HK3.out; have d15 := rc15 hK4; have df := free hK4 15))
  all_goals
    go_wp2_with fail
    go_ret
    have hsz := HC2.out.size
    have hrow3 : OwnF w3 0 (.slice (some ⟨g3, 0, none⟩) (fs.length + 1) cap3) (fs ++ [(a, b)]) := by
      unfold OwnF; rw [flat_snoc, List.length_append]; exact hown3
    obtain ⟨cu, hcu⟩ := row_type hrow3 rfl
    have hgg : g3 ≠ g := apart_of hcu hK4 (by decide)
    refine ⟨rfl, ⟨_, rc_put15 hK4 _, row_same hrow3 fun k hk => ?_, fun k hk => ?_⟩, ?_⟩
    · injection hk with hk; subst hk; exact put_far rfl (by show g3 ≠ g; exact hgg)
    · injection hk with hk; subst hk
      rcases hat3 with h3 | h3
      · exact .inl (of _ h3)
      · refine .inr ?_
        show w.heap.size ≤ g3
        have : g3 = w2.heap.size + 1 := by simpa using h3
        omega
    · exact ((((HC2.out.drew).alloc _).grown hgrow (fun k hk => .inl (of k hk))).put _ _ (.inl og))
end Go.Proofs.YtcolnidgembniaaGreatDoor.Hd
/-
  bytes.TrimSuffix at a suffix of one byte; a reader's fail: what each leaves. No condition but what a slice can have.
-/
namespace Go.Proofs.YtcolnidgembniaaGreatDoor.Hd
open Go.RowKit Go.Proofs.YtcolnidgembniaaGreatDoor.Tk Go.Proofs.YtcolnidgembniaaGreatDoor.Fd
set_option linter.unusedVariables false

/-- All sixteen cells of a block, one behind the other. -/
theorem put16 {w : World} {g : Nat} {t : TypeId} {fr : Nat × Nat} {x0 x1 x2 x3 x4 x5 x6 x7 x8 x9 x10 x11 x12 x13 x14 x15 : Value} (h0 : w.heap[g]? = some (.cells #[x0, x1, x2, x3, x4, x5, x6, x7, x8, x9, x10, x11, x12, x13, x14, x15] t fr)) (a0 a1 a2 a3 a4 a5 a6 a7 a8 a9 a10 a11 a12 a13 a14 a15 : Value) :
    ((((((((((((((((w.setCell ⟨g, 0, none⟩ a0).setCell ⟨g, 1, none⟩ a1).setCell ⟨g, 2, none⟩ a2).setCell ⟨g, 3, none⟩ a3).setCell ⟨g, 4, none⟩ a4).setCell ⟨g, 5, none⟩ a5).setCell ⟨g, 6, none⟩ a6).setCell ⟨g, 7, none⟩ a7).setCell ⟨g, 8, none⟩ a8).setCell ⟨g, 9, none⟩ a9).setCell ⟨g, 10, none⟩ a10).setCell ⟨g, 11, none⟩ a11).setCell ⟨g, 12, none⟩ a12).setCell ⟨g, 13, none⟩ a13).setCell ⟨g, 14, none⟩ a14).setCell ⟨g, 15, none⟩ a15).heap[g]? = some (.cells #[a0, a1, a2, a3, a4, a5, a6, a7, a8, a9, a10, a11, a12, a13, a14, a15] t fr) := by
  have h1 : (w.setCell ⟨g, 0, none⟩ a0).heap[g]? = some (.cells #[a0, x1, x2, x3, x4, x5, x6, x7, x8, x9, x10, x11, x12, x13, x14, x15] t fr) := heap_put h0 0 a0
  have h2 : ((w.setCell ⟨g, 0, none⟩ a0).setCell ⟨g, 1, none⟩ a1).heap[g]? = some (.cells #[a0, a1, x2, x3, x4, x5, x6, x7, x8, x9, x10, x11, x12, x13, x14, x15] t fr) := heap_put h1 1 a1
  have h3 : (((w.setCell ⟨g, 0, none⟩ a0).setCell ⟨g, 1, none⟩ a1).setCell ⟨g, 2, none⟩ a2).heap[g]? = some (.cells #[a0, a1, a2, x3, x4, x5, x6, x7, x8, x9, x10, x11, x12, x13, x14, x15] t fr) := heap_put h2 2 a2
  have h4 : ((((w.setCell ⟨g, 0, none⟩ a0).setCell ⟨g, 1, none⟩ a1).setCell ⟨g, 2, none⟩ a2).setCell ⟨g, 3, none⟩ a3).heap[g]? = some (.cells #[a0, a1, a2, a3, x4, x5, x6, x7, x8, x9, x10, x11, x12, x13, x14, x15] t fr) := heap_put h3 3 a3
  have h5 : (((((w.setCell ⟨g, 0, none⟩ a0).setCell ⟨g, 1, none⟩ a1).setCell ⟨g, 2, none⟩ a2).setCell ⟨g, 3, none⟩ a3).setCell ⟨g, 4, none⟩ a4).heap[g]? = some (.cells #[a0, a1, a2, a3, a4, x5, x6, x7, x8, x9, x10, x11, x12, x13, x14, x15] t fr) := heap_put h4 4 a4
  have h6 : ((((((w.setCell ⟨g, 0, none⟩ a0).setCell ⟨g, 1, none⟩ a1).setCell ⟨g, 2, none⟩ a2).setCell ⟨g, 3, none⟩ a3).setCell ⟨g, 4, none⟩ a4).setCell ⟨g, 5, none⟩ a5).heap[g]? = some (.cells #[a0, a1, a2, a3, a4, a5, x6, x7, x8, x9, x10, x11, x12, x13, x14, x15] t fr) := heap_put h5 5 a5
  have h7 : (((((((w.setCell ⟨g, 0, none⟩ a0).setCell ⟨g, 1, none⟩ a1).setCell ⟨g, 2, none⟩ a2).setCell ⟨g, 3, none⟩ a3).setCell ⟨g, 4, none⟩ a4).setCell ⟨g, 5, none⟩ a5).setCell ⟨g, 6, none⟩ a6).heap[g]? = some (.cells #[a0, a1, a2, a3, a4, a5, a6, x7, x8, x9, x10, x11, x12, x13, x14, x15] t fr) := heap_put h6 6 a6
  have h8 : ((((((((w.setCell ⟨g, 0, none⟩ a0).setCell ⟨g, 1, none⟩ a1).setCell ⟨g, 2, none⟩ a2).setCell ⟨g, 3, none⟩ a3).setCell ⟨g, 4, none⟩ a4).setCell ⟨g, 5, none⟩ a5).setCell ⟨g, 6, none⟩ a6).setCell ⟨g, 7, none⟩ a7).heap[g]? = some (.cells #[a0, a1, a2, a3, a4, a5, a6, a7, x8, x9, x10, x11, x12, x13, x14, x15] t fr) := heap_put h7 7 a7
  have h9 : (((((((((w.setCell ⟨g, 0, none⟩ a0).setCell ⟨g, 1, none⟩ a1).setCell ⟨g, 2, none⟩ a2).setCell ⟨g, 3, none⟩ a3).setCell ⟨g, 4, none⟩ a4).setCell ⟨g, 5, none⟩ a5).setCell ⟨g, 6, none⟩ a6).setCell ⟨g, 7, none⟩ a7).setCell ⟨g, 8, none⟩ a8).heap[g]? = some (.cells #[a0, a1, a2, a3, a4, a5, a6, a7, a8, x9, x10, x11, x12, x13, x14, x15] t fr) := heap_put h8 8 a8
  have h10 : ((((((((((w.setCell ⟨g, 0, none⟩ a0).setCell ⟨g, 1, none⟩ a1).setCell ⟨g, 2, none⟩ a2).setCell ⟨g, 3, none⟩ a3).setCell ⟨g, 4, none⟩ a4).setCell ⟨g, 5, none⟩ a5).setCell ⟨g, 6, none⟩ a6).setCell ⟨g, 7, none⟩ a7).setCell ⟨g, 8, none⟩ a8).setCell ⟨g, 9, none⟩ a9).heap[g]? = some (.cells #[a0, a1, a2, a3, a4, a5, a6, a7, a8, a9, x10, x11, x12, x13, x14, x15] t fr) := heap_put h9 9 a9
  have h11 : (((((((((((w.setCell ⟨g, 0, none⟩ a0).setCell ⟨g, 1, none⟩ a1).setCell ⟨g, 2, none⟩ a2).setCell ⟨g, 3, none⟩ a3).setCell ⟨g, 4, none⟩ a4).setCell ⟨g, 5, none⟩ a5).setCell ⟨g, 6, none⟩ a6).setCell ⟨g, 7, none⟩ a7).setCell ⟨g, 8, none⟩ a8).setCell ⟨g, 9, none⟩ a9).setCell ⟨g, 10, none⟩ a10).heap[g]? = some (.cells #[a0, a1, a2, a3, a4, a5, a6, a7, a8, a9, a10, x11, x12, x13, x14, x15] t fr) := heap_put h10 10 a10
  have h12 : ((((((((((((w.setCell ⟨g, 0, none⟩ a0).setCell ⟨g, 1, none⟩ a1).setCell ⟨g, 2, none⟩ a2).setCell ⟨g, 3, none⟩ a3).setCell ⟨g, 4, none⟩ a4).setCell ⟨g, 5, none⟩ a5).setCell ⟨g, 6, none⟩ a6).setCell ⟨g, 7, none⟩ a7).setCell ⟨g, 8, none⟩ a8).setCell ⟨g, 9, none⟩ a9).setCell ⟨g, 10, none⟩ a10).setCell ⟨g, 11, none⟩ a11).heap[g]? = some (.cells #[a0, a1, a2, a3, a4, a5, a6, a7, a8, a9, a10, a11, x12, x13, x14, x15] t fr) := heap_put h11 11 a11
  have h13 : (((((((((((((w.setCell ⟨g, 0, none⟩ a0).setCell ⟨g, 1, none⟩ a1).setCell ⟨g, 2, none⟩ a2).setCell ⟨g, 3, none⟩ a3).setCell ⟨g, 4, none⟩ a4).setCell ⟨g, 5, none⟩ a5).setCell ⟨g, 6, none⟩ a6).setCell ⟨g, 7, none⟩ a7).setCell ⟨g, 8, none⟩ a8).setCell ⟨g, 9, none⟩ a9).setCell ⟨g, 10, none⟩ a10).setCell ⟨g, 11, none⟩ a11).setCell ⟨g, 12, none⟩ a12).heap[g]? = some (.cells #[a0, a1, a2, a3, a4, a5, a6, a7, a8, a9, a10, a11, a12, x13, x14, x15] t fr) := heap_put h12 12 a12
  have h14 : ((((((((((((((w.setCell ⟨g, 0, none⟩ a0).setCell ⟨g, 1, none⟩ a1).setCell ⟨g, 2, none⟩ a2).setCell ⟨g, 3, none⟩ a3).setCell ⟨g, 4, none⟩ a4).setCell ⟨g, 5, none⟩ a5).setCell ⟨g, 6, none⟩ a6).setCell ⟨g, 7, none⟩ a7).setCell ⟨g, 8, none⟩ a8).setCell ⟨g, 9, none⟩ a9).setCell ⟨g, 10, none⟩ a10).setCell ⟨g, 11, none⟩ a11).setCell ⟨g, 12, none⟩ a12).setCell ⟨g, 13, none⟩ a13).heap[g]? = some (.cells #[a0, a1, a2, a3, a4, a5, a6, a7, a8, a9, a10, a11, a12, a13, x14, x15] t fr) := heap_put h13 13 a13
  have h15 : (((((((((((((((w.setCell ⟨g, 0, none⟩ a0).setCell ⟨g, 1, none⟩ a1).setCell ⟨g, 2, none⟩ a2).setCell ⟨g, 3, none⟩ a3).setCell ⟨g, 4, none⟩ a4).setCell ⟨g, 5, none⟩ a5).setCell ⟨g, 6, none⟩ a6).setCell ⟨g, 7, none⟩ a7).setCell ⟨g, 8, none⟩ a8).setCell ⟨g, 9, none⟩ a9).setCell ⟨g, 10, none⟩ a10).setCell ⟨g, 11, none⟩ a11).setCell ⟨g, 12, none⟩ a12).setCell ⟨g, 13, none⟩ a13).setCell ⟨g, 14, none⟩ a14).heap[g]? = some (.cells #[a0, a1, a2, a3, a4, a5, a6, a7, a8, a9, a10, a11, a12, a13, a14, x15] t fr) := heap_put h14 14 a14
  have h16 : ((((((((((((((((w.setCell ⟨g, 0, none⟩ a0).setCell ⟨g, 1, none⟩ a1).setCell ⟨g, 2, none⟩ a2).setCell ⟨g, 3, none⟩ a3).setCell ⟨g, 4, none⟩ a4).setCell ⟨g, 5, none⟩ a5).setCell ⟨g, 6, none⟩ a6).setCell ⟨g, 7, none⟩ a7).setCell ⟨g, 8, none⟩ a8).setCell ⟨g, 9, none⟩ a9).setCell ⟨g, 10, none⟩ a10).setCell ⟨g, 11, none⟩ a11).setCell ⟨g, 12, none⟩ a12).setCell ⟨g, 13, none⟩ a13).setCell ⟨g, 14, none⟩ a14).setCell ⟨g, 15, none⟩ a15).heap[g]? = some (.cells #[a0, a1, a2, a3, a4, a5, a6, a7, a8, a9, a10, a11, a12, a13, a14, a15] t fr) := heap_put h15 15 a15
  exact h16
theorem chg16 (w : World) (g : Nat) (a0 a1 a2 a3 a4 a5 a6 a7 a8 a9 a10 a11 a12 a13 a14 a15 : Value) : Chg (fun k => k = g) w ((((((((((((((((w.setCell ⟨g, 0, none⟩ a0).setCell ⟨g, 1, none⟩ a1).setCell ⟨g, 2, none⟩ a2).setCell ⟨g, 3, none⟩ a3).setCell ⟨g, 4, none⟩ a4).setCell ⟨g, 5, none⟩ a5).setCell ⟨g, 6, none⟩ a6).setCell ⟨g, 7, none⟩ a7).setCell ⟨g, 8, none⟩ a8).setCell ⟨g, 9, none⟩ a9).setCell ⟨g, 10, none⟩ a10).setCell ⟨g, 11, none⟩ a11).setCell ⟨g, 12, none⟩ a12).setCell ⟨g, 13, none⟩ a13).setCell ⟨g, 14, none⟩ a14).setCell ⟨g, 15, none⟩ a15) := by
  have h0 := Chg.refl (fun k => k = g) w
  have h1 := h0.put ⟨g, 0, none⟩ a0 (.inl rfl)
  have h2 := h1.put ⟨g, 1, none⟩ a1 (.inl rfl)
  have h3 := h2.put ⟨g, 2, none⟩ a2 (.inl rfl)
  have h4 := h3.put ⟨g, 3, none⟩ a3 (.inl rfl)
  have h5 := h4.put ⟨g, 4, none⟩ a4 (.inl rfl)
  have h6 := h5.put ⟨g, 5, none⟩ a5 (.inl rfl)
  have h7 := h6.put ⟨g, 6, none⟩ a6 (.inl rfl)
  have h8 := h7.put ⟨g, 7, none⟩ a7 (.inl rfl)
  have h9 := h8.put ⟨g, 8, none⟩ a8 (.inl rfl)
  have h10 := h9.put ⟨g, 9, none⟩ a9 (.inl rfl)
  have h11 := h10.put ⟨g, 10, none⟩ a10 (.inl rfl)
  have h12 := h11.put ⟨g, 11, none⟩ a11 (.inl rfl)
  have h13 := h12.put ⟨g, 12, none⟩ a12 (.inl rfl)
  have h14 := h13.put ⟨g, 13, none⟩ a13 (.inl rfl)
  have h15 := h14.put ⟨g, 14, none⟩ a14 (.inl rfl)
  have h16 := h15.put ⟨g, 15, none⟩ a15 (.inl rfl)
  exact h16

set_option maxRecDepth 100000 in
set_option maxHeartbeats 4000000 in
theorem fail_any (resp : Bool) (g : Nat) (M : Nat) (F lv : Value) (n : Nat) (wh : Bool) (e1 : Nat) (q : Parts) (fv : Value) (e0 : Nat) (w : World) (hF : IsFn F) (h : w.heap[g]? = some (.cells (rc resp M F lv n wh e1 resp q fv) 76 (0, 0))) :
    Calls Tryz.prog 80 #[.pointer (some ⟨g, 0, none⟩), .int .i64 (e0 : Int)] w fun e w' => e = .returned (.tuple #[]) ∧ w'.heap[g]? = some (.cells (rc false M F (.slice none 0 0) 0 false e0 false .none (.slice none 0 0)) 76 (0, 0)) ∧ Chg (fun k => k = g) w w' := by
  obtain ⟨fn, fi, ca, rfl⟩ := hF
  have c0 := rc0 h
  have c1 := rc1 h
  have c2 := rc2 h
  have c3 := rc3 h
  have c4 := rc4 h
  have c5 := rc5 h
  have c6 := rc6 h
  have c7 := rc7 h
  have c8 := rc8 h
  have c9 := rc9 h
  have c10 := rc10 h
  have c11 := rc11 h
  have c12 := rc12 h
  have c13 := rc13 h
  have c14 := rc14 h
  have c15 := rc15 h
  have f0 := free h 0
  have f1 := free h 1
  have f2 := free h 2
  have f3 := free h 3
  have f4 := free h 4
  have f5 := free h 5
  have f6 := free h 6
  have f7 := free h 7
  have f8 := free h 8
  have f9 := free h 9
  have f10 := free h 10
  have f11 := free h 11
  have f12 := free h 12
  have f13 := free h 13
  have f14 := free h 14
  have f15 := free h 15
  have HB := Lib.hid h
  clear h
  go_enter Tryz.func80, Tryz.ntmps80
  go_wp2_with fail
  go_end0
  exact ⟨rfl, put16 HB.out _ _ _ _ _ _ _ _ _ _ _ _ _ _ _ _, chg16 _ _ _ _ _ _ _ _ _ _ _ _ _ _ _ _ _ _⟩
end Go.Proofs.YtcolnidgembniaaGreatDoor.Hd
/-
  A line that ended, by either function: where the reader stands then. Conditions: at most 8192 bytes; the table of token bytes.
-/
namespace Go.Proofs.YtcolnidgembniaaGreatDoor.Hd
open Go.RowKit Go.Proofs.YtcolnidgembniaaGreatDoor.Tk Go.Proofs.YtcolnidgembniaaGreatDoor.Fd
set_option linter.unusedVariables false

theorem On.kept {w w' : World} {O O' : Nat → Prop} {resp : Bool} {g gb : Nat} {lv fv : Value} {p : Option Parts} {l : Bs} {n : Nat} {fs : List Fl} (h : On w O resp g gb lv fv p l n fs) (hc : Chg O' w w') (hd : ∀ k, O k → ¬ O' k) : On w' O resp g gb lv fv p l n fs :=
  ⟨hc.old (hd _ h.og) h.blk, hc.old (hd _ h.ob) h.box, row_chg h.line hc h.ol hd, row_chg h.flds hc h.of hd, h.og, h.ob, h.ol, h.of⟩
theorem On.below {w w' : World} {O : Nat → Prop} {resp : Bool} {g gb : Nat} {lv fv : Value} {p : Option Parts} {l : Bs} {n : Nat} {fs : List Fl} (h : On w O resp g gb lv fv p l n fs) (hb : Below w.heap.size w w') : On w' O resp g gb lv fv p l n fs :=
  h.kept (O' := fun _ => False) (Chg.of_below hb) (fun _ _ hf => hf)
/-- A row cut to nothing. -/
theorem row_cut {w : World} {q n C : Nat} {l : Bs} (h : OwnB w (.slice (some ⟨q, 0, none⟩) n C) l) : OwnB w (.slice (some ⟨q, 0, none⟩) 0 C) [] := by
  refine ⟨by simp [bys], .inr ?_⟩
  rcases h.2 with ⟨hv, _⟩ | ⟨g, cap, cur, hv, hg, hh, hlc, hcm, hcs, htk⟩
  · cases hv
  · injection hv with h1 h2 h3
    injection h1 with h1
    injection h1 with h1
    subst h1 h3
    exact ⟨q, C, cur, rfl, hg, hh, Nat.zero_le _, hcm, hcs, by simp [bys]⟩
theorem On.cut {w : World} {O : Nat → Prop} {resp : Bool} {g gb q m C : Nat} {fv : Value} {p : Option Parts} {l : Bs} {n : Nat} {fs : List Fl} (h : On w O resp g gb (.slice (some ⟨q, 0, none⟩) m C) fv p l n fs) :
    On (w.setCell ⟨g, 3, none⟩ (.slice (some ⟨q, 0, none⟩) 0 C)) O resp g gb (.slice (some ⟨q, 0, none⟩) 0 C) fv p [] n fs := by
  have hxg : gb ≠ g := apart_of h.box h.blk (by decide)
  refine ⟨rc_put3 h.blk _, put_far h.box (by show gb ≠ g; exact hxg), row_same (row_cut h.line) fun k hk => ?_, row_same h.flds fun k hk => ?_, h.og, h.ob, h.ol, h.of⟩
  · obtain ⟨cu, hcu⟩ := row_type h.line (k := k) hk
    exact put_far rfl (by show k ≠ g; exact apart_of hcu h.blk (by decide))
  · obtain ⟨cu, hcu⟩ := row_type h.flds hk
    exact put_far rfl (by show k ≠ g; exact apart_of hcu h.blk (by decide))
theorem new_size {O : Nat → Prop} {a b : World} (hs : a.heap.size ≤ b.heap.size) (k : Nat) (h : New O b k) : New O a k := by
  rcases h with h | h
  · exact .inl h
  · exact .inr (by omega)

def LinePost (O : Nat → Prop) (resp : Bool) (g : Nat) (st : St) (w : World) (e : Ending) (w' : World) : Prop :=
  ∃ e0 : Nat, e = .returned (.int .i64 (e0 : Int)) ∧ Chg O w w' ∧
    ((e0 = 0 ∧ Rdr w' (New O w) resp g st) ∨ (e0 ≠ 0 ∧ st = .bad e0 ∧ ∃ M F lv n wh e1 q fv, IsFn F ∧ w'.heap[g]? = some (.cells (rc resp M F lv n wh e1 resp q fv) 76 (0, 0))))
theorem chg_one {O : Nat → Prop} {g : Nat} {w w' : World} (h : Chg (fun k => k = g) w w') (hg : O g) : Chg O w w' :=
  ⟨h.os, h.tape, h.output, h.size, fun k hk hn => h.block k hk (fun e => hn (e ▸ hg))⟩
theorem Chg.mono {O O' : Nat → Prop} {w w' : World} (h : Chg O' w w') (hO : ∀ k, O' k → O k) : Chg O w w' := ⟨h.os, h.tape, h.output, h.size, fun k hk hn => h.block k hk (fun e => hn (hO k e))⟩
theorem txt_pos {t : Bs} (h : t ≠ []) : 0 < (txt t).size := by rw [txt_size]; exact List.length_pos_iff.2 h
/-- A row of another type than the reader's stands. -/
theorem row_apart {w w' : World} {g : Nat} {cs : Array Value} {s e : TypeId} {base sz n : Nat} {v : Value} {xs : List Value} (hg : w.heap[g]? = some (.cells cs s (0, 0))) (hne : e ≠ s) (h : w.ownsRow base e sz v n xs) (hc : Chg (fun k => k = g) w w') :
    w'.ownsRow base e sz v n xs :=
  row_same h fun k hk => by
    obtain ⟨cu, hcu⟩ := row_type h hk
    exact hc.block k (block_lt hcu) (apart_of hcu hg hne)

theorem opening_line (O : Nat → Prop) (resp : Bool) (g gb : Nat) (lv fv : Value) (n : Nat) (fs : List Fl) (t : Bs) (w : World) (h : On w O resp g gb lv fv none [] n fs) (hT : Tab w) (ho : ¬ O 0) :
    Calls Tryz.prog 41 #[.pointer (some ⟨g, 0, none⟩), .string (txt t), .pointer (some ⟨gb, 0, none⟩)] w (LinePost O resp g (ended resp none n fs t) w) := by
  have hg : g ≠ 0 := fun e => ho (e ▸ h.og)
  by_cases ht : t = []
  · subst ht
    refine (opening_empty g gb w).mono ?_
    rintro e w' ⟨rfl, rfl⟩
    exact ⟨0, rfl, Chg.refl _ _, .inl ⟨rfl, Rdr.mono (s := .on none [] n fs) ⟨gb, lv, fv, h⟩ (fun k hk => .inl hk)⟩⟩
  · refine (opening_any resp g gb (most none) (fnOf gb none) lv n _ fv (txt t) w h.blk h.box hT hg (txt_pos ht)).mono ?_
    rintro e w' ⟨rfl, hb, hc⟩
    refine ⟨_, rfl, chg_one hc h.og, ?_⟩
    have he : ended resp none n fs t = if (firstOf resp (txt t)).2 = 0 then .on (some (firstOf resp (txt t)).1) [] n fs else .bad (firstOf resp (txt t)).2 := by
      show (if t = [] then _ else _) = _; rw [if_neg ht]
    rw [he]
    by_cases h0 : (firstOf resp (txt t)).2 = 0
    · rw [if_pos h0]
      have hxg : gb ≠ g := apart_of h.box h.blk (by decide)
      exact .inl ⟨h0, gb, lv, fv, hb, hc.old hxg h.box, row_apart h.blk (by decide) h.line hc, row_apart h.blk (by decide) h.flds hc, .inl h.og, .inl h.ob, fun k hk => .inl (h.ol k hk), fun k hk => .inl (h.of k hk)⟩
    · rw [if_neg h0]
      exact .inr ⟨h0, rfl, 8192, _, lv, n, false, 0, _, fv, ⟨_, _, _, rfl⟩, hb⟩

theorem field_line (O : Nat → Prop) (resp : Bool) (g gb : Nat) (lv fv : Value) (q : Parts) (n : Nat) (fs : List Fl) (t : Bs) (w : World) (h : On w O resp g gb lv fv (some q) [] n fs) (hT : Tab w) (ho : ¬ O 0)
    (hl : fs.length ≤ 64) (ht8 : t.length ≤ 8192) :
    Calls Tryz.prog 42 #[.pointer (some ⟨g, 0, none⟩), .string (txt t)] w (LinePost O resp g (ended resp (some q) n fs t) w) := by
  by_cases ht : t = []
  · subst ht
    refine (field_empty resp g 8192 (fnOf gb (some q)) lv n q fv w h.blk).mono ?_
    rintro e w' ⟨rfl, hb, hc⟩
    exact ⟨0, rfl, chg_one hc h.og, .inl ⟨rfl, 8192, fnOf gb (some q), _, n, fv, fnOf_is _ _, hb, row_apart h.blk (by decide) h.flds hc, .inl h.og, fun k hk => .inl (h.of k hk)⟩⟩
  · have he : ended resp (some q) n fs t = if fs.length = 64 then .bad 3 else if (fldOf (txt t)).2 = 0 then .on (some q) [] n (fs ++ [(fldOf (txt t)).1]) else .bad (fldOf (txt t)).2 := by
      show (if t = [] then _ else _) = _; rw [if_neg ht]
    rw [he]
    by_cases h64 : fs.length = 64
    · rw [if_pos h64]
      obtain ⟨a, c, hfv⟩ := OwnF.form h.flds
      subst hfv
      have hB := h.blk
      rw [h64] at hB
      rw [h64] at h
      refine (field_full resp g 8192 (fnOf gb (some q)) lv n q a c (txt t) w hB (txt_pos ht)).mono ?_
      rintro e w' ⟨rfl, rfl⟩
      exact ⟨3, rfl, Chg.refl _ _, .inr ⟨by omega, rfl, 8192, _, lv, n, false, 0, q, _, fnOf_is gb (some q), hB⟩⟩
    · rw [if_neg h64]
      refine (field_any (fun k => k = g ∨ fv.ownBlock = some k) resp g 8192 (fnOf gb (some q)) lv n q fv fs (txt t) w h.blk h.flds (by omega) (.inl rfl) (fun k hk => .inr hk) hT (txt_pos ht) (by rw [txt_size]; omega)).mono ?_
      rintro e w' ⟨rfl, ⟨fv', hb, hf, hn⟩, hc⟩
      have hO : ∀ k, (k = g ∨ fv.ownBlock = some k) → O k := fun k hk => by
        rcases hk with hk | hk
        · subst hk; exact h.og
        · exact h.of k hk
      refine ⟨_, rfl, Chg.mono hc hO, ?_⟩
      by_cases h0 : (fldOf (txt t)).2 = 0
      · rw [if_pos h0]
        refine .inl ⟨h0, gb, lv, fv', hb, hc.old (fun hk => ?_) h.box, row_same h.line (fun k hk => ?_), hf, .inl h.og, .inl h.ob, fun k hk => .inl (h.ol k hk), fun k hk => ?_⟩
        · rcases hk with hk | hk
          · exact apart_of h.box h.blk (by decide) hk
          · obtain ⟨cu, hcu⟩ := row_type h.flds hk; exact apart_of hcu h.box (by decide) rfl
        · obtain ⟨cu, hcu⟩ := row_type h.line hk
          refine hc.block k (block_lt hcu) (fun hk2 => ?_)
          rcases hk2 with hk2 | hk2
          · exact apart_of hcu h.blk (by decide) hk2
          · obtain ⟨cv, hcv⟩ := row_type h.flds hk2; exact apart_of hcv hcu (by decide) rfl
        · rcases hn k hk with h1 | h1
          · exact .inl (hO k h1)
          · exact .inr h1
      · rw [if_neg h0]
        exact .inr ⟨h0, rfl, 8192, _, lv, n, false, 0, q, fv', fnOf_is gb (some q), hb⟩
end Go.Proofs.YtcolnidgembniaaGreatDoor.Hd
/-
  A reader's end: what it leaves. Conditions: at most 8192 bytes; the table of token bytes.
-/
namespace Go.Proofs.YtcolnidgembniaaGreatDoor.Hd
open Go.RowKit Go.Proofs.YtcolnidgembniaaGreatDoor.Tk Go.Proofs.YtcolnidgembniaaGreatDoor.Fd
set_option linter.unusedVariables false

def EndPost (O : Nat → Prop) (resp : Bool) (g : Nat) (st : St) (w : World) (e : Ending) (w' : World) : Prop := e = .returned (.tuple #[]) ∧ Rdr w' (New O w) resp g st ∧ Chg O w w'
theorem own_take (l : Bs) : own l = l.take (own l).length := cutEnd_take 13 l
set_option maxRecDepth 100000 in
set_option maxHeartbeats 4000000 in
theorem end_none (O : Nat → Prop) (resp : Bool) (g gb : Nat) (lv fv : Value) (l : Bs) (n : Nat) (fs : List Fl) (w : World) (h : On w O resp g gb lv fv none (l ++ [10]) n fs) (hT : Tab w) (ho : ¬ O 0) :
    Calls Tryz.prog 79 #[.pointer (some ⟨g, 0, none⟩)] w (EndPost O resp g (ended resp none n fs (own l)) w) := by
  rcases h.line.2 with ⟨_, h0⟩ | ⟨q, C, cur, hv, _, hh, hlc, hcm, hcs, htk⟩
  · simp at h0
  have hl1 : (l ++ [10]).length = l.length + 1 := by simp
  rw [hl1] at hv hlc
  subst hv
  have HO := Lib.hid h
  have hB := h.blk
  have hL := h.line
  have hqg : q ≠ g := apart_of hh hB (by decide)
  have hLh : Holds w q 0 (l ++ [10]) := OwnB.holds hL (by rw [hl1])
  have hqw := block_lt hh
  have c2 := rc2 hB
  have c3 := rc3 hB
  have f3 := free hB 3
  unfold fnOf at c2
  clear h htk hcs hh
  have HB := Lib.hid hB
  have HH := Lib.hid hLh
  clear hB hL hLh
  have kc := fun (w : World) (C : Array Value) (n c : Nat) => Lib.run_convert_bytes_const (P := Tryz.prog) w 22 5 C n c Tryz.underlying22 Tryz.underlying5
  have HC1 := Lib.hid (cutEnd_snoc 10 l)
  have HC2 := Lib.hid (show (cutEnd 13 l) = own l from rfl)
  have hol := own_length l
  have hconv := fun (W : World) (h : Holds W q 0 (own l)) => Tk.run_back (P := Tryz.prog) W 22 9 5 q 0 C (own l) Tryz.underlying22 Tryz.underlying5 Tryz.underlying9 h
  have HV := Lib.hid hconv
  obtain ⟨w1, hw1⟩ : ∃ w1, w1 = w.alloc (.cells #[.int .u8 10] 5 (1, 2)) := ⟨_, rfl⟩
  have hb1 : Below w.heap.size w w1 := by rw [hw1]; exact (Below.refl _ _).alloc (Nat.le_refl _) _
  have HN1 := Lib.hid (show w1.heap[w.heap.size]? = some (.cells #[.int .u8 10] 5 (1, 2)) from by rw [hw1]; exact new_block _ _)
  obtain ⟨w2, hw2⟩ : ∃ w2, w2 = w1.alloc (.cells #[.int .u8 13] 5 (1, 2)) := ⟨_, rfl⟩
  have hb2 : Below w1.heap.size w1 w2 := by rw [hw2]; exact (Below.refl _ _).alloc (Nat.le_refl _) _
  have HN2 := Lib.hid (show w2.heap[w1.heap.size]? = some (.cells #[.int .u8 13] 5 (1, 2)) from by rw [hw2]; exact new_block _ _)
  have HX1 := Lib.hid (holds_below HH.out hb1 hqw)
  have HX2 := Lib.hid (holds_below HX1.out hb2 (by have := hb1.size; omega))
  have HB1 := Bl.old hb1 (block_lt HB.out) HB.out
  have HB2 := Bl.old hb2 (block_lt HB1) HB1
  have HBB := Lib.hid (Bl.next hb1 hb2)
  have HO2 := Lib.hid (HO.out.below (Bl.next hb1 hb2))
  have HO3 := Lib.hid HO2.out.cut
  have hs2 : w.heap.size ≤ w2.heap.size := (Bl.next hb1 hb2).size
  have HC3 := Lib.hid ((Chg.of_below (O := O) (Bl.next hb1 hb2)).put ⟨g, 3, none⟩ (.slice (some ⟨q, 0, none⟩) 0 C) (.inl HO.out.og))
  have HT3 := Lib.hid (Tab.chg hT HC3.out ho)
  have HW1 := Lib.hid hw1
  have HW2 := Lib.hid hw2
  have HCV := Lib.hid (HV.out w2 (by rw [own_take]; exact Holds_take (l := l) (by have := Holds_take HX2.out l.length; rwa [List.take_left] at this) _))
  clear hw1 hw2 hb1 hb2 HB1 HV hconv
  go_enter Tryz.func79, Tryz.ntmps79
  go_wp2_with fail
  rw [← hl1, ← HW1.out]
  refine (trimsuf_any q 0 C (l ++ [10]) w.heap.size 10 _ (by rw [hl1]; exact hlc) hcm HX1.out (by rw [Lib.cell_of_heap HN1.out]; rfl)).mono ?_
  rintro e x1 ⟨rfl, rfl⟩
  rw [HC1.out]
  clear c2 c3 f3
  go_wp2_with fail
  rw [← HW2.out]
  refine (trimsuf_any q 0 C l w1.heap.size 13 _ (by omega) hcm (by have := Holds_take HX2.out l.length; rwa [List.take_left] at this) (by rw [Lib.cell_of_heap HN2.out]; rfl)).mono ?_
  rintro e x2 ⟨rfl, rfl⟩
  rw [HC2.out]
  have hcv := HCV.out
  have c2 := rc2 HB2
  have c3 := rc3 HB2
  have f3 := free HB2 3
  unfold fnOf at c2
  go_wp2_with fail
  refine (opening_line O resp g gb _ fv n fs (own l) _ HO3.out HT3.out ho).mono ?_
  rintro e w4 ⟨e0, rfl, hc4, hR⟩
  have hs4 : w.heap.size ≤ (w2.setCell ⟨g, 3, none⟩ (.slice (some ⟨q, 0, none⟩) 0 C)).heap.size := by simpa [World.setCell] using hs2
  have HC4 := Lib.hid (HC3.out.trans hc4 (fun k hk => .inl hk))
  rcases hR with ⟨h0, hR⟩ | ⟨h0, hst, M, F, lv', n', wh, e1, q', fv', hF, hblk⟩
  · subst h0
    have HR := Lib.hid (hR.mono (new_size hs4))
    clear hR hc4 hcv c2 c3 f3 HB2
    go_wp2_with fail
    go_end0
    exact ⟨rfl, HR.out, HC4.out⟩
  · have HS := Lib.hid hst
    have HK := Lib.hid hblk
    have hn0 : ((e0 : Int) != 0) = true := by rw [bne_iff_ne]; omega
    clear hst hc4 hcv c2 c3 f3 HB2 hblk
    go_wp2_with fail
    refine (fail_any resp g M F lv' n' wh e1 q' fv' e0 _ hF HK.out).mono ?_
    rintro e w5 ⟨rfl, hb5, hc5⟩
    have HC5 := Lib.hid (HC4.out.trans hc5 (fun k hk => .inl (hk ▸ HO.out.og)))
    have HB5 := Lib.hid hb5
    clear hc5 hb5
    go_wp2_with fail
    go_end0
    exact ⟨rfl, by rw [HS.out]; exact ⟨M, F, hF, HB5.out, .inl HO.out.og⟩, HC5.out⟩
set_option maxRecDepth 100000 in
set_option maxHeartbeats 4000000 in
theorem end_some (O : Nat → Prop) (resp : Bool) (qq : Parts) (g gb : Nat) (lv fv : Value) (l : Bs) (n : Nat) (fs : List Fl) (w : World) (h : On w O resp g gb lv fv (some qq) (l ++ [10]) n fs) (hT : Tab w) (ho : ¬ O 0) (hl64 : fs.length ≤ 64) (hl8 : l.length ≤ 8192) :
    Calls Tryz.prog 79 #[.pointer (some ⟨g, 0, none⟩)] w (EndPost O resp g (ended resp (some qq) n fs (own l)) w) := by
  rcases h.line.2 with ⟨_, h0⟩ | ⟨q, C, cur, hv, _, hh, hlc, hcm, hcs, htk⟩
  · simp at h0
  have hl1 : (l ++ [10]).length = l.length + 1 := by simp
  rw [hl1] at hv hlc
  subst hv
  have HO := Lib.hid h
  have hB := h.blk
  have hL := h.line
  have hqg : q ≠ g := apart_of hh hB (by decide)
  have hLh : Holds w q 0 (l ++ [10]) := OwnB.holds hL (by rw [hl1])
  have hqw := block_lt hh
  have c2 := rc2 hB
  have c3 := rc3 hB
  have f3 := free hB 3
  unfold fnOf at c2
  clear h htk hcs hh
  have HB := Lib.hid hB
  have HH := Lib.hid hLh
  clear hB hL hLh
  have kc := fun (w : World) (C : Array Value) (n c : Nat) => Lib.run_convert_bytes_const (P := Tryz.prog) w 22 5 C n c Tryz.underlying22 Tryz.underlying5
  have HC1 := Lib.hid (cutEnd_snoc 10 l)
  have HC2 := Lib.hid (show (cutEnd 13 l) = own l from rfl)
  have hol := own_length l
  have hconv := fun (W : World) (h : Holds W q 0 (own l)) => Tk.run_back (P := Tryz.prog) W 22 9 5 q 0 C (own l) Tryz.underlying22 Tryz.underlying5 Tryz.underlying9 h
  have HV := Lib.hid hconv
  obtain ⟨w1, hw1⟩ : ∃ w1, w1 = w.alloc (.cells #[.int .u8 10] 5 (1, 2)) := ⟨_, rfl⟩
  have hb1 : Below w.heap.size w w1 := by rw [hw1]; exact (Below.refl _ _).alloc (Nat.le_refl _) _
  have HN1 := Lib.hid (show w1.heap[w.heap.size]? = some (.cells #[.int .u8 10] 5 (1, 2)) from by rw [hw1]; exact new_block _ _)
  obtain ⟨w2, hw2⟩ : ∃ w2, w2 = w1.alloc (.cells #[.int .u8 13] 5 (1, 2)) := ⟨_, rfl⟩
  have hb2 : Below w1.heap.size w1 w2 := by rw [hw2]; exact (Below.refl _ _).alloc (Nat.le_refl _) _
  have HN2 := Lib.hid (show w2.heap[w1.heap.size]? = some (.cells #[.int .u8 13] 5 (1, 2)) from by rw [hw2]; exact new_block _ _)
  have HX1 := Lib.hid (holds_below HH.out hb1 hqw)
  have HX2 := Lib.hid (holds_below HX1.out hb2 (by have := hb1.size; omega))
  have HB1 := Bl.old hb1 (block_lt HB.out) HB.out
  have HB2 := Bl.old hb2 (block_lt HB1) HB1
  have HBB := Lib.hid (Bl.next hb1 hb2)
  have HO2 := Lib.hid (HO.out.below (Bl.next hb1 hb2))
  have HO3 := Lib.hid HO2.out.cut
  have hs2 : w.heap.size ≤ w2.heap.size := (Bl.next hb1 hb2).size
  have HC3 := Lib.hid ((Chg.of_below (O := O) (Bl.next hb1 hb2)).put ⟨g, 3, none⟩ (.slice (some ⟨q, 0, none⟩) 0 C) (.inl HO.out.og))
  have HT3 := Lib.hid (Tab.chg hT HC3.out ho)
  have HW1 := Lib.hid hw1
  have HW2 := Lib.hid hw2
  have HCV := Lib.hid (HV.out w2 (by rw [own_take]; exact Holds_take (l := l) (by have := Holds_take HX2.out l.length; rwa [List.take_left] at this) _))
  clear hw1 hw2 hb1 hb2 HB1 HV hconv
  go_enter Tryz.func79, Tryz.ntmps79
  go_wp2_with fail
  rw [← hl1, ← HW1.out]
  refine (trimsuf_any q 0 C (l ++ [10]) w.heap.size 10 _ (by rw [hl1]; exact hlc) hcm HX1.out (by rw [Lib.cell_of_heap HN1.out]; rfl)).mono ?_
  rintro e x1 ⟨rfl, rfl⟩
  rw [HC1.out]
  clear c2 c3 f3
  go_wp2_with fail
  rw [← HW2.out]
  refine (trimsuf_any q 0 C l w1.heap.size 13 _ (by omega) hcm (by have := Holds_take HX2.out l.length; rwa [List.take_left] at this) (by rw [Lib.cell_of_heap HN2.out]; rfl)).mono ?_
  rintro e x2 ⟨rfl, rfl⟩
  rw [HC2.out]
  have hcv := HCV.out
  have c2 := rc2 HB2
  have c3 := rc3 HB2
  have f3 := free HB2 3
  unfold fnOf at c2
  go_wp2_with fail
  refine (field_line O resp g gb _ fv qq n fs (own l) _ HO3.out HT3.out ho hl64 (by omega)).mono ?_
  rintro e w4 ⟨e0, rfl, hc4, hR⟩
  have hs4 : w.heap.size ≤ (w2.setCell ⟨g, 3, none⟩ (.slice (some ⟨q, 0, none⟩) 0 C)).heap.size := by simpa [World.setCell] using hs2
  have HC4 := Lib.hid (HC3.out.trans hc4 (fun k hk => .inl hk))
  rcases hR with ⟨h0, hR⟩ | ⟨h0, hst, M, F, lv', n', wh, e1, q', fv', hF, hblk⟩
  · subst h0
    have HR := Lib.hid (hR.mono (new_size hs4))
    clear hR hc4 hcv c2 c3 f3 HB2
    go_wp2_with fail
    go_end0
    exact ⟨rfl, HR.out, HC4.out⟩
  · have HS := Lib.hid hst
    have HK := Lib.hid hblk
    have hn0 : ((e0 : Int) != 0) = true := by rw [bne_iff_ne]; omega
    clear hst hc4 hcv c2 c3 f3 HB2 hblk
    go_wp2_with fail
    refine (fail_any resp g M F lv' n' wh e1 q' fv' e0 _ hF HK.out).mono ?_
    rintro e w5 ⟨rfl, hb5, hc5⟩
    have HC5 := Lib.hid (HC4.out.trans hc5 (fun k hk => .inl (hk ▸ HO.out.og)))
    have HB5 := Lib.hid hb5
    clear hc5 hb5
    go_wp2_with fail
    go_end0
    exact ⟨rfl, by rw [HS.out]; exact ⟨M, F, hF, HB5.out, .inl HO.out.og⟩, HC5.out⟩
theorem end_any (O : Nat → Prop) (resp : Bool) (g gb : Nat) (lv fv : Value) (p : Option Parts) (l : Bs) (n : Nat) (fs : List Fl) (w : World) (h : On w O resp g gb lv fv p (l ++ [10]) n fs) (hT : Tab w) (ho : ¬ O 0) (hl64 : fs.length ≤ 64) (hl8 : l.length ≤ 8192) :
    Calls Tryz.prog 79 #[.pointer (some ⟨g, 0, none⟩)] w (EndPost O resp g (ended resp p n fs (own l)) w) := by
  cases p with
  | none => exact end_none O resp g gb lv fv l n fs w h hT ho
  | some qq => exact end_some O resp qq g gb lv fv l n fs w h hT ho hl64 hl8
end Go.Proofs.YtcolnidgembniaaGreatDoor.Hd
/-
  Where a line ends; bytes.IndexByte at a byte 10; a whole step of a reader. No condition but what a slice can have.
-/
namespace Go.Proofs.YtcolnidgembniaaGreatDoor.Hd
open Go.RowKit Go.Proofs.YtcolnidgembniaaGreatDoor.Tk Go.Proofs.YtcolnidgembniaaGreatDoor.Fd
set_option linter.unusedVariables false

/-- What a step took, and where the reader stands then: the rest is read from there. -/
def Took (resp : Bool) (s : St) (b : Bs) (k : Nat) (st : St) : Prop := 0 < k ∧ k ≤ b.length ∧ run resp s b = (k + (run resp st (b.drop k)).1, (run resp st (b.drop k)).2) ∧ (Good s → Good st)
theorem took_line {resp : Bool} {b : Bs} {p : Option Parts} {l : Bs} {n i : Nat} {fs : List Fl} (hi : i < b.length) (hb : b = b.take i ++ 10 :: b.drop (i + 1)) (h10 : ∀ c ∈ b.take i, c ≠ 10) (hr : i < room p l n) :
    Took resp (.on p l n fs) b (i + 1) (ended resp p (n + (i + 1)) fs (own (l ++ b.take i))) := by
  have hl : (b.take i).length = i := by rw [List.length_take]; omega
  have := run_line (resp := resp) (fs := fs) (r := b.drop (i + 1)) h10 (by rw [hl]; exact hr)
  rw [← hb, hl] at this
  refine ⟨by omega, by omega, this, fun hg => ?_⟩
  have h2 := run_line (resp := resp) (fs := fs) (r := []) h10 (by rw [hl]; exact hr)
  have h3 := good_run resp (b.take i ++ [10]) hg
  rw [h2, run_nil, hl] at h3
  exact h3
theorem took_big {resp : Bool} {b : Bs} {p : Option Parts} {l : Bs} {n : Nat} {fs : List Fl} (h10 : ∀ c ∈ b.take (room p l n), c ≠ 10) (hr : room p l n < b.length) : Took resp (.on p l n fs) b (room p l n + 1) (.bad 3) := by
  refine ⟨by omega, by omega, ?_, fun _ => .inl rfl⟩
  rw [run_big h10 hr, run_over (s := .bad 3) rfl]; rfl
theorem took_part {resp : Bool} {b : Bs} {p : Option Parts} {l : Bs} {n : Nat} {fs : List Fl} (hb : 0 < b.length) (h10 : ∀ c ∈ b, c ≠ 10) (hr : b.length ≤ room p l n) : Took resp (.on p l n fs) b b.length (.on p (l ++ b) (n + b.length) fs) := by
  refine ⟨hb, Nat.le_refl _, ?_, fun hg => ?_⟩
  · rw [run_part h10 hr, List.drop_length, run_nil]; rfl
  · have h3 := good_run resp b hg
    rw [run_part h10 hr] at h3
    exact h3
end Go.Proofs.YtcolnidgembniaaGreatDoor.Hd
/-
  slices.Grow at bytes, and a reader's keep: what each leaves. Condition: at most 2^40 bytes.
-/
namespace Go.Proofs.YtcolnidgembniaaGreatDoor.Hd
open Go.RowKit Go.Proofs.YtcolnidgembniaaGreatDoor.Tk Go.Proofs.YtcolnidgembniaaGreatDoor.Fd
set_option linter.unusedVariables false

def KeepPost (O : Nat → Prop) (resp : Bool) (g gb : Nat) (fv : Value) (p : Option Parts) (l : Bs) (n : Nat) (fs : List Fl) (w : World) (e : Ending) (w' : World) : Prop :=
  e = .returned (.tuple #[]) ∧ (∃ lv, On w' (New O w) resp g gb lv fv p l n fs) ∧ Chg O w w'

set_option maxRecDepth 100000 in
set_option maxHeartbeats 4000000 in
theorem keep_any (O : Nat → Prop) (resp : Bool) (g gb : Nat) (lv fv : Value) (p : Option Parts) (l : Bs) (n : Nat) (fs : List Fl) (v : Value) (b : Bs) (w : World)
    (h : On w O resp g gb lv fv p l n fs) (hv : Byts w v b) (ho : ∀ k, v.ownBlock = some k → ¬ O k) (hb : 0 < b.length) (hl : l.length + b.length ≤ 1099511627776) (hn : n + b.length ≤ 1099511627776) :
    Calls Tryz.prog 78 #[.pointer (some ⟨g, 0, none⟩), v] w (KeepPost O resp g gb fv p (l ++ b) (n + b.length) fs w) := by
  rcases hv with ⟨rfl, _⟩ | ⟨B, off, cap, rfl, hcap, hcm, hB, hh⟩
  · simp at hb
  have hOB : ¬ O B := ho B rfl
  have HO := Lib.hid h
  have HH := Lib.hid hh
  obtain ⟨a, c, hls⟩ := h.line.shape
  subst hls
  have c3 := rc3 h.blk
  clear h hh ho
  go_enter Tryz.func78, Tryz.ntmps78
  go_wp2_with fail
  refine (grow_any _ l b.length _ HO.out.line hb hl).mono ?_
  rintro e w1 ⟨q, C, cur, rfl, hrow, hb1, hq⟩
  have HR := Lib.hid hrow
  have hK1 := Bl.old hb1 (block_lt HO.out.blk) HO.out.blk
  have hqg : q ≠ g := apart_of hrow.blk hK1 (by decide)
  have hBg : B ≠ g := fun e => hOB (e ▸ HO.out.og)
  have hBq : B ≠ q := fun e => by
    rcases hq with hq | hq
    · exact hOB (e ▸ HO.out.ol q hq)
    · omega
  have hCr := hrow.room
  have hCm := hrow.cap
  unfold maxLen at hCm
  have hC0 : ¬ C = l.length := by omega
  have d3 := rc3 hK1
  have d4 := rc4 hK1
  have f3 := free hK1 3
  have f4 := free hK1 4
  have HN := Lib.hid (holds_below HH.out hb1 hB)
  clear c3
  have HQ := Lib.hid (show ∀ x, (w1.setCell ⟨g, 3, none⟩ x).heap[q]? = some (.cells cur 5 (0, 0)) from fun x => put_far hrow.blk (by show q ≠ g; exact hqg))
  have HSrc := Lib.hid (show ∀ x j u, (bys b)[j]? = some u → (w1.setCell ⟨g, 3, none⟩ x).cell? ((⟨B, off, none⟩ : Addr).add j) = some u from fun x j u hu => by
    have hj : j < b.length := by have := (List.getElem?_eq_some_iff.1 hu).1; rwa [bys_length] at this
    rw [bys_at b j hj] at hu
    rw [Addr.add_lit, World.cell?_of_block (w := w1) (put_far rfl (by show B ≠ g; exact hBg)), HN.out j hj]
    exact hu)
  have HB1 := Lib.hid hb1
  have HNq := Lib.hid (show New O w q from by
    rcases hq with hq | hq
    · exact .inl (HO.out.ol q hq)
    · exact .inr (by omega))
  have HR1 := Lib.hid (row_chg HO.out.flds (Chg.of_below (O := fun _ => False) hb1) HO.out.of (fun _ _ h => h))
  have HX1 := Lib.hid (Bl.old hb1 (block_lt HO.out.box) HO.out.box)
  have HK1 := Lib.hid hK1
  clear hrow hb1 hq
  have HP := Lib.hid (show ∀ x, (w1.setCell ⟨g, 3, none⟩ x).heap[g]? = _ from fun x => rc_put3 hK1 x)
  clear d4 f4 hK1
  go_wp2_with ((with_reducible show wpList _ _ _ (⟨some 32, _, _, _, _, _⟩ :: _) _ _); refine wpList_copy_own rfl (.tmp 30) (.tmp 31) 22 22 rfl 5 Tryz.underlying22 infoByte q l.length b.length (C - l.length) ⟨B, off, none⟩ b.length cap (by rfl) (by rfl) cur 5 (HQ.out _) (bys b) (by rw [bys_length]; simp) (HSrc.out _) (by rw [bys_length]; have := HR.out.size; omega) (bys_one b) ?_; obtain ⟨W2, hW2⟩ : ∃ W2, W2 = (w1.setCell ⟨g, 3, none⟩ (.slice (some ⟨q, 0, none⟩) (l.length + b.length) C)).setRow q (cur.toList.take l.length ++ (bys b ++ cur.toList.drop (l.length + (bys b).length))).toArray := ⟨_, rfl⟩; rw [← hW2]; have hK2 := row_far (g := q) (cs := (cur.toList.take l.length ++ (bys b ++ cur.toList.drop (l.length + (bys b).length))).toArray) (HP.out (.slice (some ⟨q, 0, none⟩) (l.length + b.length) C)) (Ne.symm hqg); rw [← hW2] at hK2; have d4 := rc4 hK2; have f4 := free hK2 4; have HW2 := Lib.hid hW2; clear hW2 d3 f3)
  go_end0
  have hK3 := rc_put4 hK2 (n + b.length)
  have hxg : gb ≠ g := apart_of HX1.out HK1.out (by decide)
  have hxq : gb ≠ q := apart_of HX1.out HR.out.blk (by decide)
  have hfg : ∀ k, fv.ownBlock = some k → k ≠ g := fun k hk => by obtain ⟨cu, hcu⟩ := row_type HR1.out hk; exact apart_of hcu HK1.out (by decide)
  have hfq : ∀ k, fv.ownBlock = some k → k ≠ q := fun k hk => by obtain ⟨cu, hcu⟩ := row_type HR1.out hk; exact apart_of hcu HR.out.blk (by decide)
  refine ⟨rfl, ⟨.slice (some ⟨q, 0, none⟩) (l.length + b.length) C, hK3, ?_, ?_, ?_, .inl HO.out.og, .inl HO.out.ob, fun k hk => ?_, fun k hk => .inl (HO.out.of k hk)⟩, ?_⟩
  · rw [HW2.out]
    exact put_far (row_far (put_far HX1.out (by show gb ≠ g; exact hxg)) hxq) (by show gb ≠ g; exact hxg)
  · rw [HW2.out]
    have hr := RowB.owns (b := b) (w := w1.setCell ⟨g, 3, none⟩ (.slice (some ⟨q, 0, none⟩) (l.length + b.length) C)) ⟨HQ.out _, HR.out.size, HR.out.cap, HR.out.room, HR.out.here⟩
    rw [List.length_append] at hr
    exact row_same hr fun k hk => by injection hk with hk; subst hk; exact put_far rfl (by show q ≠ g; exact hqg)
  · rw [HW2.out]
    exact row_same HR1.out fun k hk => put_far (row_far (put_far rfl (by show k ≠ g; exact hfg k hk)) (hfq k hk)) (by show k ≠ g; exact hfg k hk)
  · injection hk with hk; subst hk; exact HNq.out
  · rw [HW2.out]
    exact (((Chg.of_below HB1.out).put _ _ (.inl HO.out.og)).row q _ HNq.out).put _ _ (.inl HO.out.og)
end Go.Proofs.YtcolnidgembniaaGreatDoor.Hd
/-
  A reader's take: what it leaves. Condition: the table of token bytes.
-/
namespace Go.Proofs.YtcolnidgembniaaGreatDoor.Hd
open Go.RowKit Go.Proofs.YtcolnidgembniaaGreatDoor.Tk Go.Proofs.YtcolnidgembniaaGreatDoor.Fd
set_option linter.unusedVariables false

def TakePost (O : Nat → Prop) (resp : Bool) (g : Nat) (s : St) (b : Bs) (w : World) (e : Ending) (w' : World) : Prop :=
  ∃ k st, e = .returned (.int .i64 (k : Nat)) ∧ Took resp s b k st ∧ Rdr w' (New O w) resp g st ∧ Chg O w w'

set_option maxRecDepth 100000 in
set_option maxHeartbeats 8000000 in
theorem take_line (O : Nat → Prop) (resp : Bool) (g gb : Nat) (a : Option Addr) (c : Nat) (fv : Value) (p : Option Parts) (l : Bs) (n : Nat) (fs : List Fl) (B off cap : Nat) (b : Bs) (w : World)
    (h : On w O resp g gb (.slice a l.length c) fv p l n fs) (hG : Good (.on p l n fs)) (hcap : b.length ≤ cap) (hcm : cap ≤ maxLen) (hB : B < w.heap.size) (hh : Holds w B off b) (hOB : ¬ O B) (hb : 0 < b.length) (hT : Tab w) (ho : ¬ O 0)
    (hA : nl (b.take (min b.length (room p l n))) < min b.length (room p l n)) :
    Calls Tryz.prog 47 #[.pointer (some ⟨g, 0, none⟩), .slice (some ⟨B, off, none⟩) b.length cap] w (TakePost O resp g (.on p l n fs) b w) := by
  have HO := Lib.hid (h.below ((Below.refl w.heap.size w).drew))
  have HH := Lib.hid hh
  obtain ⟨h1, h2, h3, h4, h5, h6⟩ := hG
  have c1 := rc1 h.blk
  have c3 := rc3 h.blk
  have c4 := rc4 h.blk
  have HCw := Lib.hid ((Chg.refl O w).drew)
  have HTw := Lib.hid (show Tab w.drew from hT)
  have htl := hT.lt
  obtain ⟨M, hM⟩ : ∃ M, M = most p := ⟨_, rfl⟩
  have hM2 : M ≤ 8192 := by rw [hM]; unfold most; split <;> omega
  rw [← hM] at c1 h3
  obtain ⟨R, hR⟩ : ∃ R, R = room p l n := ⟨_, rfl⟩
  have hRm : R = min (8192 - n) (M - l.length) := by rw [hR, hM]; rfl
  have hmin : min (IntKind.i64.wrap (8192 - (n : Int))) (IntKind.i64.wrap ((M : Int) - (l.length : Int))) = (R : Int) := by
    rw [IntWalk.i64_in _ (by omega), IntWalk.i64_in _ (by omega)]; omega
  have HMN := Lib.hid hmin
  have HRR := Lib.hid hR
  have hr1 : n + R ≤ 8192 := by omega
  obtain ⟨m, hm⟩ : ∃ m, m = min b.length R := ⟨_, rfl⟩
  have hml : (b.take m).length = m := by rw [List.length_take]; omega
  have hmn : min (b.length : Int) (R : Int) = (m : Int) := by omega
  have hmb : m ≤ b.length := by omega
  have hmr : m ≤ R := by omega
  have HMm := Lib.hid hm
  have HI := Lib.hid (fun (W : World) (hW : Holds W B off b) => (show Calls Tryz.prog 77 #[.slice (some ⟨B, off, none⟩) m cap, .int .u8 10] W fun e w' => e = .returned (.int .i64 (Lib.indexByte (b.take m) 10)) ∧ W = w' from by
    have := idx10_any B off cap (b.take m) W (Holds_take hW m)
    rwa [hml] at this))
  rw [← hR, ← hm] at hA
  clear h hh hM hR hRm h6 hmin hm
  unfold maxLen at hcm
  obtain ⟨s1, s2, s3, s4⟩ := nl_split (b := b) (m := m) (by rw [hml]; exact hA)
  have HX := Lib.hid (show Lib.indexByte (b.take m) 10 = (nl (b.take m) : Int) from by rw [nl_index, hml, if_pos hA])
  obtain ⟨i, hi⟩ : ∃ i, i = nl (b.take m) := ⟨_, rfl⟩
  rw [← hi] at HX s1 s2 s3 s4
  have HS1 := Lib.hid s1
  have HS2 := Lib.hid s2
  have HT1 := Lib.hid (show b.take (i + 1) = b.take i ++ [10] from by
    have e : b[i] = 10 := by
      have := congrArg (fun x => x[i]?) s1
      simp only [List.getElem?_eq_getElem s4] at this
      rw [List.getElem?_append_right (by rw [List.length_take]; omega), List.length_take, show i - min i b.length = 0 from by omega] at this
      simpa using this
    rw [List.take_succ_eq_append_getElem s4, e])
  have hil : (b.take (i + 1)).length = i + 1 := by rw [List.length_take]; omega
  have HIL := Lib.hid hil
  clear hi hA s1 s2 hil
  go_enter Tryz.func47, Tryz.ntmps47
  go_wp2_with fail
  go_region_held3 (fun W => W.cell? ⟨g, 4, none⟩ = some (.int .i64 (n : Int)) ∧ W.cell? ⟨g, 1, none⟩ = some (.int .i64 (M : Int)) ∧ W.cell? ⟨g, 3, none⟩ = some (.slice a l.length c)) (exact ⟨c4, c1, c3⟩) (fail)
  rw [HMN.out]
  obtain ⟨W, hW⟩ : ∃ W, W = w.drew := ⟨_, rfl⟩
  have hsz : w.heap.size = W.heap.size := by rw [hW]; rfl
  rw [← hW] at HO HCw HTw
  have HHW := Lib.hid (show Holds W B off b from by rw [hW]; exact HH.out)
  rw [← hW]
  clear hW c1 c3 c4
  go_wp2_with fail
  refine (HI.out W HHW.out).mono ?_
  rintro e w0 ⟨rfl, rfl⟩
  rw [HX.out]
  clear hmn
  go_wp2_with fail
  refine (keep_any O resp g gb _ fv p l n fs _ (b.take (i + 1)) _ HO.out (.inr ⟨B, off, cap, by rw [HIL.out], by rw [HIL.out]; omega, by unfold maxLen; omega, by omega, Holds_take HHW.out _⟩) (fun k hk => by injection hk with hk; subst hk; exact hOB) (by rw [HIL.out]; omega) (by rw [HIL.out]; omega) (by rw [HIL.out]; omega)).mono ?_
  rintro e w1 ⟨rfl, ⟨lv1, hO1⟩, hc1⟩
  rw [HIL.out, HT1.out, ← List.append_assoc] at hO1
  have HO1 := Lib.hid hO1
  have HC1 := Lib.hid hc1
  have hs1 := hc1.size
  have hnt : ¬ New O W 0 := fun hn => by
    rcases hn with hn | hn
    · exact ho hn
    · omega
  have HTc := Lib.hid (Tab.chg HTw.out hc1 ho)
  clear hO1 hc1
  go_wp2_with fail
  refine (end_any (New O W) resp g gb lv1 fv p (l ++ b.take i) (n + (i + 1)) fs _ HO1.out HTc.out hnt h4 (by rw [List.length_append, List.length_take]; omega)).mono ?_
  rintro e w2 ⟨rfl, hR2, hc2⟩
  have HR2 := Lib.hid (hR2.mono (new_new hs1))
  have HC2 := Lib.hid (HC1.out.again hc2)
  clear hR2 hc2
  go_wp2_with fail
  go_ret
  exact ⟨i + 1, _, rfl, took_line s4 HS1.out HS2.out (by rw [← HRR.out]; omega), HR2.out.mono (new_size (by omega)), HCw.out.trans HC2.out (fun k hk => .inl hk)⟩
set_option maxRecDepth 100000 in
set_option maxHeartbeats 8000000 in
theorem take_big (O : Nat → Prop) (resp : Bool) (g gb : Nat) (a : Option Addr) (c : Nat) (fv : Value) (p : Option Parts) (l : Bs) (n : Nat) (fs : List Fl) (B off cap : Nat) (b : Bs) (w : World)
    (h : On w O resp g gb (.slice a l.length c) fv p l n fs) (hG : Good (.on p l n fs)) (hcap : b.length ≤ cap) (hcm : cap ≤ maxLen) (hB : B < w.heap.size) (hh : Holds w B off b) (hOB : ¬ O B) (hb : 0 < b.length) (hT : Tab w) (ho : ¬ O 0)
    (hA : ¬ nl (b.take (min b.length (room p l n))) < min b.length (room p l n)) (hbig : room p l n < b.length) :
    Calls Tryz.prog 47 #[.pointer (some ⟨g, 0, none⟩), .slice (some ⟨B, off, none⟩) b.length cap] w (TakePost O resp g (.on p l n fs) b w) := by
  have HO := Lib.hid (h.below ((Below.refl w.heap.size w).drew))
  have HH := Lib.hid hh
  obtain ⟨h1, h2, h3, h4, h5, h6⟩ := hG
  have c1 := rc1 h.blk
  have c3 := rc3 h.blk
  have c4 := rc4 h.blk
  have HCw := Lib.hid ((Chg.refl O w).drew)
  have HTw := Lib.hid (show Tab w.drew from hT)
  have htl := hT.lt
  obtain ⟨M, hM⟩ : ∃ M, M = most p := ⟨_, rfl⟩
  have hM2 : M ≤ 8192 := by rw [hM]; unfold most; split <;> omega
  rw [← hM] at c1 h3
  obtain ⟨R, hR⟩ : ∃ R, R = room p l n := ⟨_, rfl⟩
  have hRm : R = min (8192 - n) (M - l.length) := by rw [hR, hM]; rfl
  have hmin : min (IntKind.i64.wrap (8192 - (n : Int))) (IntKind.i64.wrap ((M : Int) - (l.length : Int))) = (R : Int) := by
    rw [IntWalk.i64_in _ (by omega), IntWalk.i64_in _ (by omega)]; omega
  have HMN := Lib.hid hmin
  have HRR := Lib.hid hR
  have hr1 : n + R ≤ 8192 := by omega
  obtain ⟨m, hm⟩ : ∃ m, m = min b.length R := ⟨_, rfl⟩
  have hml : (b.take m).length = m := by rw [List.length_take]; omega
  have hmn : min (b.length : Int) (R : Int) = (m : Int) := by omega
  have hmb : m ≤ b.length := by omega
  have hmr : m ≤ R := by omega
  have HMm := Lib.hid hm
  have HI := Lib.hid (fun (W : World) (hW : Holds W B off b) => (show Calls Tryz.prog 77 #[.slice (some ⟨B, off, none⟩) m cap, .int .u8 10] W fun e w' => e = .returned (.int .i64 (Lib.indexByte (b.take m) 10)) ∧ W = w' from by
    have := idx10_any B off cap (b.take m) W (Holds_take hW m)
    rwa [hml] at this))
  rw [← hR, ← hm] at hA
  rw [← hR] at hbig
  clear h hh hM hR hRm h6 hmin hm
  unfold maxLen at hcm
  have HX := Lib.hid (show Lib.indexByte (b.take m) 10 = -1 from by rw [nl_index, hml, if_neg hA])
  have HN0 := Lib.hid (nl_none (l := b.take m) (by rw [hml]; exact hA))
  clear hA
  go_enter Tryz.func47, Tryz.ntmps47
  go_wp2_with fail
  go_region_held3 (fun W => W.cell? ⟨g, 4, none⟩ = some (.int .i64 (n : Int)) ∧ W.cell? ⟨g, 1, none⟩ = some (.int .i64 (M : Int)) ∧ W.cell? ⟨g, 3, none⟩ = some (.slice a l.length c)) (exact ⟨c4, c1, c3⟩) (fail)
  rw [HMN.out]
  obtain ⟨W, hW⟩ : ∃ W, W = w.drew := ⟨_, rfl⟩
  have hsz : w.heap.size = W.heap.size := by rw [hW]; rfl
  rw [← hW] at HO HCw HTw
  have HHW := Lib.hid (show Holds W B off b from by rw [hW]; exact HH.out)
  rw [← hW]
  clear hW c1 c3 c4
  go_wp2_with fail
  refine (HI.out W HHW.out).mono ?_
  rintro e w0 ⟨rfl, rfl⟩
  rw [HX.out]
  clear hmn
  have hK := HO.out.blk
  go_wp2_with fail
  refine (fail_any resp g _ _ _ n false 0 _ fv 3 _ (fnOf_is gb p) HO.out.blk).mono ?_
  rintro e w1 ⟨rfl, hb1, hc1⟩
  have HB1 := Lib.hid hb1
  have HC1 := Lib.hid (HCw.out.trans hc1 (fun k hk => .inl (hk ▸ HO.out.og)))
  clear hb1 hc1 hK
  go_wp2_with fail
  go_ret
  refine ⟨R + 1, .bad 3, rfl, ?_, ⟨_, _, fnOf_is gb p, HB1.out, .inl HO.out.og⟩, HC1.out⟩
  have := took_big (resp := resp) (b := b) (p := p) (l := l) (n := n) (fs := fs) (by rw [← HRR.out]; have := HN0.out; rwa [show m = R from by have := HMm.out; omega] at this) (by rw [← HRR.out]; exact hbig)
  rwa [← HRR.out] at this
set_option maxRecDepth 100000 in
set_option maxHeartbeats 8000000 in
theorem take_part (O : Nat → Prop) (resp : Bool) (g gb : Nat) (a : Option Addr) (c : Nat) (fv : Value) (p : Option Parts) (l : Bs) (n : Nat) (fs : List Fl) (B off cap : Nat) (b : Bs) (w : World)
    (h : On w O resp g gb (.slice a l.length c) fv p l n fs) (hG : Good (.on p l n fs)) (hcap : b.length ≤ cap) (hcm : cap ≤ maxLen) (hB : B < w.heap.size) (hh : Holds w B off b) (hOB : ¬ O B) (hb : 0 < b.length) (hT : Tab w) (ho : ¬ O 0)
    (hA : ¬ nl (b.take (min b.length (room p l n))) < min b.length (room p l n)) (hbig : b.length ≤ room p l n) :
    Calls Tryz.prog 47 #[.pointer (some ⟨g, 0, none⟩), .slice (some ⟨B, off, none⟩) b.length cap] w (TakePost O resp g (.on p l n fs) b w) := by
  have HO := Lib.hid (h.below ((Below.refl w.heap.size w).drew))
  have HH := Lib.hid hh
  obtain ⟨h1, h2, h3, h4, h5, h6⟩ := hG
  have c1 := rc1 h.blk
  have c3 := rc3 h.blk
  have c4 := rc4 h.blk
  have HCw := Lib.hid ((Chg.refl O w).drew)
  have HTw := Lib.hid (show Tab w.drew from hT)
  have htl := hT.lt
  obtain ⟨M, hM⟩ : ∃ M, M = most p := ⟨_, rfl⟩
  have hM2 : M ≤ 8192 := by rw [hM]; unfold most; split <;> omega
  rw [← hM] at c1 h3
  obtain ⟨R, hR⟩ : ∃ R, R = room p l n := ⟨_, rfl⟩
  have hRm : R = min (8192 - n) (M - l.length) := by rw [hR, hM]; rfl
  have hmin : min (IntKind.i64.wrap (8192 - (n : Int))) (IntKind.i64.wrap ((M : Int) - (l.length : Int))) = (R : Int) := by
    rw [IntWalk.i64_in _ (by omega), IntWalk.i64_in _ (by omega)]; omega
  have HMN := Lib.hid hmin
  have HRR := Lib.hid hR
  have hr1 : n + R ≤ 8192 := by omega
  obtain ⟨m, hm⟩ : ∃ m, m = min b.length R := ⟨_, rfl⟩
  have hml : (b.take m).length = m := by rw [List.length_take]; omega
  have hmn : min (b.length : Int) (R : Int) = (m : Int) := by omega
  have hmb : m ≤ b.length := by omega
  have hmr : m ≤ R := by omega
  have HMm := Lib.hid hm
  have HI := Lib.hid (fun (W : World) (hW : Holds W B off b) => (show Calls Tryz.prog 77 #[.slice (some ⟨B, off, none⟩) m cap, .int .u8 10] W fun e w' => e = .returned (.int .i64 (Lib.indexByte (b.take m) 10)) ∧ W = w' from by
    have := idx10_any B off cap (b.take m) W (Holds_take hW m)
    rwa [hml] at this))
  rw [← hR, ← hm] at hA
  rw [← hR] at hbig
  clear h hh hM hR hRm h6 hmin hm
  unfold maxLen at hcm
  have HX := Lib.hid (show Lib.indexByte (b.take m) 10 = -1 from by rw [nl_index, hml, if_neg hA])
  have HN0 := Lib.hid (nl_none (l := b.take m) (by rw [hml]; exact hA))
  clear hA
  go_enter Tryz.func47, Tryz.ntmps47
  go_wp2_with fail
  go_region_held3 (fun W => W.cell? ⟨g, 4, none⟩ = some (.int .i64 (n : Int)) ∧ W.cell? ⟨g, 1, none⟩ = some (.int .i64 (M : Int)) ∧ W.cell? ⟨g, 3, none⟩ = some (.slice a l.length c)) (exact ⟨c4, c1, c3⟩) (fail)
  rw [HMN.out]
  obtain ⟨W, hW⟩ : ∃ W, W = w.drew := ⟨_, rfl⟩
  have hsz : w.heap.size = W.heap.size := by rw [hW]; rfl
  rw [← hW] at HO HCw HTw
  have HHW := Lib.hid (show Holds W B off b from by rw [hW]; exact HH.out)
  rw [← hW]
  clear hW c1 c3 c4
  go_wp2_with fail
  refine (HI.out W HHW.out).mono ?_
  rintro e w0 ⟨rfl, rfl⟩
  rw [HX.out]
  clear hmn
  go_wp2_with fail
  refine (keep_any O resp g gb _ fv p l n fs _ b _ HO.out (.inr ⟨B, off, cap, rfl, hcap, by unfold maxLen; omega, by omega, HHW.out⟩) (fun k hk => by injection hk with hk; subst hk; exact hOB) hb (by omega) (by omega)).mono ?_
  rintro e w1 ⟨rfl, ⟨lv1, hO1⟩, hc1⟩
  have HO1 := Lib.hid hO1
  have HC1 := Lib.hid (HCw.out.trans hc1 (fun k hk => .inl hk))
  clear hO1 hc1
  go_wp2_with fail
  go_ret
  refine ⟨b.length, .on p (l ++ b) (n + b.length) fs, rfl, ?_, Rdr.mono (s := .on p (l ++ b) (n + b.length) fs) ⟨gb, lv1, fv, HO1.out⟩ (new_size (by omega)), HC1.out⟩
  exact took_part hb (by have := HN0.out; rwa [show m = b.length from by have := HMm.out; omega, List.take_length] at this) (by rw [← HRR.out]; exact hbig)
theorem take_any (O : Nat → Prop) (resp : Bool) (g gb : Nat) (lv fv : Value) (p : Option Parts) (l : Bs) (n : Nat) (fs : List Fl) (v : Value) (b : Bs) (w : World)
    (h : On w O resp g gb lv fv p l n fs) (hG : Good (.on p l n fs)) (hv : Byts w v b) (hvo : ∀ k, v.ownBlock = some k → ¬ O k) (hb : 0 < b.length) (hT : Tab w) (ho : ¬ O 0) :
    Calls Tryz.prog 47 #[.pointer (some ⟨g, 0, none⟩), v] w (TakePost O resp g (.on p l n fs) b w) := by
  rcases hv with ⟨rfl, _⟩ | ⟨B, off, cap, rfl, hcap, hcm, hB, hh⟩
  · simp at hb
  obtain ⟨a, c, hls⟩ := h.line.shape
  subst hls
  by_cases hA : nl (b.take (min b.length (room p l n))) < min b.length (room p l n)
  · exact take_line O resp g gb a c fv p l n fs B off cap b w h hG hcap hcm hB hh (hvo B rfl) hb hT ho hA
  · by_cases hbig : room p l n < b.length
    · exact take_big O resp g gb a c fv p l n fs B off cap b w h hG hcap hcm hB hh (hvo B rfl) hb hT ho hA hbig
    · exact take_part O resp g gb a c fv p l n fs B off cap b w h hG hcap hcm hB hh (hvo B rfl) hb hT ho hA (by omega)
end Go.Proofs.YtcolnidgembniaaGreatDoor.Hd
