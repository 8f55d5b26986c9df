/-
  line.fault (with the closure of line.Request) and line.Request: what each returns. Condition: the table of token bytes.
-/
import Derived.Test.YtlnlihkljnkhiaaDoorLnReq
import Derived.RegionTactic
import Derived.Test.YtlnlihkljnkhiaaDoorLnVal
namespace Go.Proofs.YtlnlihkljnkhiaaDoor.Ln
open Go.RowKit Go.Proofs.YtlnlihkljnkhiaaDoor.Tk

theorem holds_new (w : World) (s : ByteArray) (cap : Nat) (t : TypeId) (fr : Nat × Nat) : Holds (w.alloc (.cells (bytesRow s cap) t fr)) w.heap.size 0 s.data.toList := by
  intro j hj
  rw [Nat.zero_add, World.cell?_alloc_mark, bytesRow_at s cap j (by simpa using hj)]
  simp
theorem sb_new (lo : Nat) (w : World) (s : ByteArray) (cap : Nat) (t : TypeId) (fr : Nat × Nat) (hcap : s.size ≤ cap) (hlo : lo ≤ w.heap.size) : SB lo (w.alloc (.cells (bytesRow s cap) t fr)) (.slice (some ⟨w.heap.size, 0, none⟩) s.size cap) s.data.toList :=
  .inl ⟨w.heap.size, 0, cap, by simp, by simpa using hcap, holds_new w s cap t fr, hlo⟩
theorem C3.lt {g : Nat} {t0 t1 t2 : TypeId} {a b c : Value} {w : World} (h : C3 g t0 t1 t2 a b c w) : g + 3 ≤ w.heap.size := (Array.getElem?_eq_some_iff.1 h.h2).1
theorem C3.alloc {g : Nat} {t0 t1 t2 : TypeId} {a b c : Value} {w : World} (h : C3 g t0 t1 t2 a b c w) (o : Obj) : C3 g t0 t1 t2 a b c (w.alloc o) := by
  have := h.lt
  refine ⟨?_, ?_, ?_⟩
  · show (w.heap.push o)[g]? = _; rw [Array.getElem?_push_lt (by omega)]; exact (Array.getElem?_eq_getElem (by omega)).symm.trans h.h0
  · show (w.heap.push o)[g + 1]? = _; rw [Array.getElem?_push_lt (by omega)]; exact (Array.getElem?_eq_getElem (by omega)).symm.trans h.h1
  · show (w.heap.push o)[g + 2]? = _; rw [Array.getElem?_push_lt (by omega)]; exact (Array.getElem?_eq_getElem (by omega)).symm.trans h.h2
theorem tab_alloc {w : World} (h : Tab w) (o : Obj) : Tab (w.alloc o) := h.below ((Below.refl w.heap.size w).alloc (Nat.le_refl _) o) h.lt

def FaultPost (g : Nat) (s : ByteArray) (w : World) (e : Ending) (w' : World) : Prop :=
  e = .returned (.int .i64 (if reqOk s.data.toList then 0 else 30)) ∧ C3 g 9 9 3 (.string ⟨(fst s.data.toList).toArray⟩) (.string ⟨(fst (rst s.data.toList)).toArray⟩) (.int .i64 (minorOf (rst (rst s.data.toList)))) w' ∧ Below g w w'

set_option maxHeartbeats 1000000 in
theorem fault_big (s : ByteArray) (f : FuncId) (caps : Array Value) (w : World) (hs : 1024 < s.size) :
    Calls Tryd.prog 46 #[.string s, .func (.func f) #[] caps] w fun e w' => e = .returned (.int .i64 3) ∧ w = w' := by
  go_enter Tryd.func46, Tryd.ntmps46
  go_wp2_with fail
  go_ret
  exact ⟨rfl, rfl⟩

set_option maxHeartbeats 1000000 in
theorem fault_req (g : Nat) (s : ByteArray) (w : World) (a b c : Value) (hs : ¬ 1024 < s.size) (hC : C3 g 9 9 3 a b c w) (hT : Tab w) (hg : 0 < g) :
    Calls Tryd.prog 46 #[.string s, .func (.func 40) #[] #[.pointer (some ⟨g, 0, none⟩), .pointer (some ⟨g + 1, 0, none⟩), .pointer (some ⟨g + 2, 0, none⟩)]] w (FaultPost g s w) := by
  have hconv := fun W : World => run_bytes_of_string (P := Tryd.prog) W 9 22 5 s Tryd.underlying9 Tryd.underlying22 Tryd.underlying5
  have HT := Lib.hid hT
  have HC := Lib.hid hC
  have hgw := hC.lt
  clear hT hC
  go_enter Tryd.func46, Tryd.ntmps46
  go_wp2_with fail
  refine (reqClosure_any g _ s.data.toList _ a b c (by simp; omega) ((sb_new (g + 3) w s _ _ _ (grownCap_ge _ _ _ _) (by omega)).heap (by rfl)) ((HC.out.alloc _).heap (by rfl)) (tab_heap (tab_alloc HT.out _) (by rfl)) hg).mono ?_
  rintro e w1 ⟨rfl, hc, hb⟩
  have HCC := Lib.hid hc
  have HBB := Lib.hid hb
  clear hc hb
  cases hr : reqOk s.data.toList with
  | true =>
    have HR := Lib.hid hr
    clear hr
    go_wp2_with fail
    go_ret
    exact ⟨by rw [HR.out]; rfl, HCC.out, (((Below.refl g w).alloc (by omega) _).drew.trans HBB.out)⟩
  | false =>
    have HR := Lib.hid hr
    clear hr
    go_wp2_with fail
    go_ret
    exact ⟨by rw [HR.out]; rfl, HCC.out, (((Below.refl g w).alloc (by omega) _).drew.trans HBB.out)⟩

theorem results3 {fn : Func} {p0 p1 p2 u : Tmp} (h : fn.results = #[.cell p0 9, .cell p1 9, .cell p2 3, .tmp u]) (tmps : Array Value) (w : World) (g : Nat) (a b c : Value)
    (hp0 : tmps.getD p0 undef = .pointer (some ⟨g, 0, none⟩)) (hp1 : tmps.getD p1 undef = .pointer (some ⟨g + 1, 0, none⟩)) (hp2 : tmps.getD p2 undef = .pointer (some ⟨g + 2, 0, none⟩)) (hC : C3 g 9 9 3 a b c w) :
    (results fn tmps).run Tryd.prog w = .ok (.tuple #[a, b, c, tmps.getD u undef]) w := by
  have c0 := cell_of_one hC.h0
  have c1 := cell_of_one hC.h1
  have c2 := cell_of_one hC.h2
  simp only [Array.getD_eq_getD_getElem?] at hp0 hp1 hp2
  simp [results, h, hp0, hp1, hp2, go_sem, c0, c1, c2]
theorem push_old (h : Array Obj) (o : Obj) (k : Nat) (hk : k < h.size) : (h.push o)[k]? = h[k]? := by rw [Array.getElem?_push_lt hk, Array.getElem?_eq_getElem hk]
theorem push_new (h : Array Obj) (o : Obj) : (h.push o)[h.size]? = some o := by simp
theorem c3_new (w : World) (t0 t1 t2 : TypeId) (a b c : Value) : C3 w.heap.size t0 t1 t2 a b c (((w.alloc (.cells #[a] t0)).alloc (.cells #[b] t1)).alloc (.cells #[c] t2)) := by
  refine ⟨?_, ?_, ?_⟩
  · show (((w.heap.push _).push _).push _)[w.heap.size]? = _
    rw [push_old _ _ _ (by simp; omega), push_old _ _ _ (by simp), push_new]
  · show (((w.heap.push _).push _).push _)[w.heap.size + 1]? = _
    rw [push_old _ _ _ (by simp)]
    have := push_new (w.heap.push (.cells #[a] t0)) (.cells #[b] t1)
    rwa [Array.size_push] at this
  · show (((w.heap.push _).push _).push _)[w.heap.size + 2]? = _
    have := push_new ((w.heap.push (.cells #[a] t0)).push (.cells #[b] t1)) (.cells #[c] t2)
    rwa [Array.size_push, Array.size_push] at this
theorem below_new (w : World) (x y z : Obj) : Below w.heap.size w (((w.alloc x).alloc y).alloc z) :=
  (((Below.refl _ _).alloc (Nat.le_refl _) _).alloc (by rw [World.size_alloc]; omega) _).alloc (by rw [World.size_alloc, World.size_alloc]; omega) _

set_option maxHeartbeats 4000000 in
theorem request_any (s : ByteArray) (w : World) (hT : Tab w) :
    Calls Tryd.prog 29 #[.string s] w fun e w' => e = .returned (reqVal s) ∧ Below w.heap.size w w' := by
  have HT := Lib.hid hT
  have hg := hT.lt
  clear hT
  by_cases hs : 1024 < s.size
  · have HV := Lib.hid (show reqVal s = .tuple #[.string ⟨#[]⟩, .string ⟨#[]⟩, .int .i64 0, .int .i64 3] from by unfold reqVal; rw [if_pos hs])
    go_enter Tryd.func29, Tryd.ntmps29
    go_wp2_with fail
    refine (fault_big s _ _ _ hs).mono ?_
    rintro e w' ⟨rfl, rfl⟩
    go_wp2_with fail
    refine bodyPost_ret (v := .tuple #[.string ⟨#[]⟩, .string ⟨#[]⟩, .int .i64 0, .int .i64 3]) (by simp [results, Tryd.results29, go_sem]) rfl ⟨by rw [HV.out], ?_⟩
    exact below_new w _ _ _
  · cases hr : reqOk s.data.toList with
    | true =>
      have HV := Lib.hid (show reqVal s = .tuple #[.string ⟨(fst s.data.toList).toArray⟩, .string ⟨(fst (rst s.data.toList)).toArray⟩, .int .i64 (minorOf (rst (rst s.data.toList))), .int .i64 0] from by unfold reqVal; rw [if_neg hs, if_pos hr])
      have HR := Lib.hid hr
      clear hr
      go_enter Tryd.func29, Tryd.ntmps29
      go_wp2_with fail
      refine (fault_req w.heap.size s _ _ _ _ hs (c3_new w _ _ _ _ _ _) (tab_alloc (tab_alloc (tab_alloc HT.out _) _) _) hg).mono ?_
      rintro e w1 ⟨rfl, hc, hb⟩
      rw [HR.out]
      have HCC := Lib.hid hc
      have HBB := Lib.hid hb
      have c0 := cell_of_one hc.h0
      have c1 := cell_of_one hc.h1
      have c2 := cell_of_one hc.h2
      have f0 := free_of_one hc.h0
      have f1 := free_of_one hc.h1
      have f2 := free_of_one hc.h2
      clear hc hb
      go_wp2_with fail
      go_region
      all_goals
        go_wp2_with fail
        refine bodyPost_ret (results3 rfl _ _ w.heap.size _ _ _ rfl rfl rfl ((HCC.out.put _ _ _).heap (by rfl))) rfl ⟨by rw [HV.out]; rfl, ?_⟩
        have h := put3_below (g := w.heap.size) ((below_new w _ _ _).trans HBB.out) (.string ⟨(fst s.data.toList).toArray⟩) (.string ⟨(fst (rst s.data.toList)).toArray⟩) (.int .i64 (minorOf (rst (rst s.data.toList))))
        exact Below.mk h.os h.tape h.output h.size h.block
    | false =>
      have HV := Lib.hid (show reqVal s = .tuple #[.string ⟨#[]⟩, .string ⟨#[]⟩, .int .i64 0, .int .i64 30] from by unfold reqVal; rw [if_neg hs, if_neg (by rw [hr]; simp)])
      have HR := Lib.hid hr
      clear hr
      go_enter Tryd.func29, Tryd.ntmps29
      go_wp2_with fail
      refine (fault_req w.heap.size s _ _ _ _ hs (c3_new w _ _ _ _ _ _) (tab_alloc (tab_alloc (tab_alloc HT.out _) _) _) hg).mono ?_
      rintro e w1 ⟨rfl, hc, hb⟩
      rw [HR.out]
      have HCC := Lib.hid hc
      have HBB := Lib.hid hb
      have c0 := cell_of_one hc.h0
      have c1 := cell_of_one hc.h1
      have c2 := cell_of_one hc.h2
      have f0 := free_of_one hc.h0
      have f1 := free_of_one hc.h1
      have f2 := free_of_one hc.h2
      clear hc hb
      go_wp2_with fail
      refine bodyPost_ret (results3 rfl _ _ w.heap.size _ _ _ rfl rfl rfl ((HCC.out.put _ _ _).heap (by rfl))) rfl ⟨by rw [HV.out]; rfl, ?_⟩
      exact put3_below (g := w.heap.size) ((below_new w _ _ _).trans HBB.out) _ _ _
end Go.Proofs.YtlnlihkljnkhiaaDoor.Ln
