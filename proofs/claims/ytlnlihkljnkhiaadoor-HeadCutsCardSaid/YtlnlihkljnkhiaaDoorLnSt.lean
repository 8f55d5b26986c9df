/-
  The closure of line.Status: what it returns, and what it stores. Condition: at most 1024 bytes.
-/
import Derived.Test.YtlnlihkljnkhiaaDoorLnRequest
namespace Go.Proofs.YtlnlihkljnkhiaaDoor.Ln
open Go.RowKit Go.Proofs.YtlnlihkljnkhiaaDoor.Tk

def StPost (g : Nat) (l : Bs) (w : World) (e : Ending) (w' : World) : Prop :=
  e = .returned (.bool (!stOk l)) ∧ C3 g 3 3 9 (.int .i64 (minorOf (fst l))) (.int .i64 (codeOf (fst (rst l)))) (.string ⟨(rst (rst l)).toArray⟩) w' ∧ Below g w w'

set_option maxHeartbeats 4000000 in
theorem stClosure_any (g : Nat) (v : Value) (l : Bs) (w : World) (a b c : Value) (hl : l.length ≤ 1024) (hS : SB (g + 3) w v l) (hC : C3 g 3 3 9 a b c w) :
    Calls Tryd.prog 47 #[v, .pointer (some ⟨g, 0, none⟩), .pointer (some ⟨g + 1, 0, none⟩), .pointer (some ⟨g + 2, 0, none⟩)] w (StPost g l w) := by
  have HS := Lib.hid hS
  have HC := Lib.hid hC
  clear hS hC
  go_enter Tryd.func47, Tryd.ntmps47
  go_wp2_with fail
  refine (cut_any (g + 3) v l _ hl HS.out).mono ?_
  rintro e w1 ⟨x1, y1, rfl, hx1, hy1, n1, hw1⟩
  have HX1 := Lib.hid hx1
  have HY1 := Lib.hid (show SB (g + 3) w1 y1 (rst l) from by rw [hw1]; exact hy1)
  have HW1 := Lib.hid hw1
  clear hx1 hy1 hw1
  go_wp2_with fail
  refine (cut_any (g + 3) y1 (rst l) _ (Nat.le_trans (rst_le l) hl) HY1.out).mono ?_
  rintro e w2 ⟨x2, y2, rfl, hx2, hy2, n2, hw2⟩
  have hw : w2.heap = w.heap := by rw [hw2, HW1.out]; rfl
  have HH := Lib.hid hw
  have HX := Lib.hid (HX1.out.heap hw)
  have HX2 := Lib.hid (hx2.heap (show w2.heap = w1.heap from by rw [hw2]; rfl))
  have HY2 := Lib.hid (hy2.heap (show w2.heap = w1.heap from by rw [hw2]; rfl))
  obtain ⟨M, hM⟩ : ∃ M : Int, M = minorOf (fst l) := ⟨_, rfl⟩
  obtain ⟨N, hN⟩ : ∃ N : Int, N = codeOf (fst (rst l)) := ⟨_, rfl⟩
  obtain ⟨A, hA⟩ : ∃ A : ByteArray, A = ⟨(rst (rst l)).toArray⟩ := ⟨_, rfl⟩
  have HA := Lib.hid hA
  have HN := Lib.hid hN
  have HM := Lib.hid hM
  have hb1 : ∀ W : World, W.heap = w2.heap → (convert 22 9 y2).run Tryd.prog W = .ok (.string A) W := fun W e => by rw [hA]; exact run_back W (HY2.out.heap e)
  have hb2 : ∀ (W : World) (x : Value), W.heap = (w2.setCell ⟨g, 0, none⟩ x).heap → (convert 22 9 y2).run Tryd.prog W = .ok (.string A) W := fun W x e => by rw [hA]; exact run_back W ((HY2.out.set ⟨g, 0, none⟩ x (by show g < g + 3; omega)).heap e)
  have hb3 : ∀ (W : World) (x y : Value), W.heap = ((w2.setCell ⟨g, 0, none⟩ x).setCell ⟨g + 1, 0, none⟩ y).heap → (convert 22 9 y2).run Tryd.prog W = .ok (.string A) W := fun W x y e => by rw [hA]; exact run_back W (((HY2.out.set ⟨g, 0, none⟩ x (by show g < g + 3; omega)).set ⟨g + 1, 0, none⟩ y (by show g + 1 < g + 3; omega)).heap e)
  have HSA := Lib.hid (show A.size ≤ maxLen from by rw [hA]; exact size_le (by unfold maxLen; have := rst_le l; have := rst_le (rst l); omega))
  have HR := Lib.hid (show stOk l = (isMin M && isCod N && isRsn A.data.toList) from by rw [hA, hN, hM]; rfl)
  have HL2 := Lib.hid (show (fst (rst l)).length ≤ 1024 from by have := fst_le (rst l); have := rst_le l; omega)
  have c0 : w2.cell? ⟨g, 0, none⟩ = some a := by rw [cell_heap hw]; exact cell_of_one HC.out.h0
  have f0 : w2.frozen? ⟨g, 0, none⟩ = false := free_of_one (by rw [hw]; exact HC.out.h0)
  have c1 : w2.cell? ⟨g + 1, 0, none⟩ = some b := by rw [cell_heap hw]; exact cell_of_one HC.out.h1
  have f1 : w2.frozen? ⟨g + 1, 0, none⟩ = false := free_of_one (by rw [hw]; exact HC.out.h1)
  have c2 : w2.cell? ⟨g + 2, 0, none⟩ = some c := by rw [cell_heap hw]; exact cell_of_one HC.out.h2
  have f2 : w2.frozen? ⟨g + 2, 0, none⟩ = false := free_of_one (by rw [hw]; exact HC.out.h2)
  have k1 := hb1 w2.drew rfl
  have k1m := fun m => hb1 (w2.drewN m) rfl
  have k2s := fun x => hb2 (w2.drew.setCell ⟨g, 0, none⟩ x) x rfl
  have k2t := fun x => hb2 (w2.setCell ⟨g, 0, none⟩ x).drew x rfl
  have k2sm := fun m x => hb2 ((w2.drewN m).setCell ⟨g, 0, none⟩ x) x rfl
  have k2tm := fun m x => hb2 ((w2.setCell ⟨g, 0, none⟩ x).drewN m) x rfl
  have k3s := fun x y => hb3 ((w2.drew.setCell ⟨g, 0, none⟩ x).setCell ⟨g + 1, 0, none⟩ y) x y rfl
  have k3t := fun x y => hb3 ((w2.setCell ⟨g, 0, none⟩ x).setCell ⟨g + 1, 0, none⟩ y).drew x y rfl
  have k3sm := fun m x y => hb3 (((w2.drewN m).setCell ⟨g, 0, none⟩ x).setCell ⟨g + 1, 0, none⟩ y) x y rfl
  have k3tm := fun m x y => hb3 (((w2.setCell ⟨g, 0, none⟩ x).setCell ⟨g + 1, 0, none⟩ y).drewN m) x y rfl
  have s0 := Lib.hid HX2.out
  have s1 := Lib.hid fun x => HX2.out.set ⟨g, 0, none⟩ x (by show g < g + 3; omega)
  have HC3 := Lib.hid (show ∀ x y z, C3 g 3 3 9 x y z (put3 g w2 x y z) from fun x y z => (HC.out.heap hw).put x y z)
  have HBel := Lib.hid (show ∀ x y z, Below g w (put3 g w2 x y z) from fun x y z => put3_below (by rw [hw2, HW1.out]; exact Below.mk rfl rfl rfl (by exact Nat.le_refl _) (fun _ _ => rfl)) x y z)
  clear hb1 hb2 hb3
  clear hx2 hy2 hw2 hw hA hN hM HX1 HY1 HW1
  go_wp2_with fail
  go_region_with (first
    | (go_at_call 42; refine (readMinor_any (g + 3) x1 (fst l) _ (HX.out.heap (by rfl))).mono ?_; rintro e w' ⟨rfl, m, rfl⟩; rw [← HM.out])
    | (go_at_call 48; refine (readCode_any (g + 3) x2 (fst (rst l)) _ HL2.out (by first | exact s0.out.heap (by rfl) | exact (s1.out _).heap (by rfl))).mono ?_; rintro e w' ⟨rfl, rfl⟩; rw [← HN.out]))
  all_goals
    go_wp2_with fail
    refine (isMinor_any M _).mono ?_
    rintro e w' ⟨rfl, rfl⟩
    cases h1 : isMin M with
    | false =>
      have HV := Lib.hid (show stOk l = false from by rw [HR.out, h1]; rfl)
      clear h1
      go_wp2_with fail
      go_ret
      exact ⟨by rw [HV.out]; rfl, by rw [← HA.out, ← HN.out, ← HM.out]; exact (HC3.out _ _ _).heap (by rfl), Below.mk (HBel.out (.int .i64 M) (.int .i64 N) (.string A)).os (HBel.out (.int .i64 M) (.int .i64 N) (.string A)).tape (HBel.out (.int .i64 M) (.int .i64 N) (.string A)).output (HBel.out (.int .i64 M) (.int .i64 N) (.string A)).size (HBel.out (.int .i64 M) (.int .i64 N) (.string A)).block⟩
    | true =>
      have HI1 := Lib.hid h1
      clear h1
      go_wp2_with fail
      refine (isCode_any N _).mono ?_
      rintro e w' ⟨rfl, rfl⟩
      cases h2 : isCod N with
      | false =>
        have HV := Lib.hid (show stOk l = false from by rw [HR.out, h2, HI1.out]; rfl)
        clear h2
        go_wp2_with fail
        go_ret
        exact ⟨by rw [HV.out]; rfl, by rw [← HA.out, ← HN.out, ← HM.out]; exact (HC3.out _ _ _).heap (by rfl), Below.mk (HBel.out (.int .i64 M) (.int .i64 N) (.string A)).os (HBel.out (.int .i64 M) (.int .i64 N) (.string A)).tape (HBel.out (.int .i64 M) (.int .i64 N) (.string A)).output (HBel.out (.int .i64 M) (.int .i64 N) (.string A)).size (HBel.out (.int .i64 M) (.int .i64 N) (.string A)).block⟩
      | true =>
        have HI2 := Lib.hid h2
        clear h2
        go_wp2_with fail
        refine (isReason_any A _ HSA.out).mono ?_
        rintro e w' ⟨rfl, rfl⟩
        have HV := Lib.hid (show stOk l = isRsn A.data.toList from by rw [HR.out, HI2.out, HI1.out]; rfl)
        go_wp2_with fail
        go_ret
        exact ⟨by rw [HV.out]; rfl, by rw [← HA.out, ← HN.out, ← HM.out]; exact (HC3.out _ _ _).heap (by rfl), Below.mk (HBel.out (.int .i64 M) (.int .i64 N) (.string A)).os (HBel.out (.int .i64 M) (.int .i64 N) (.string A)).tape (HBel.out (.int .i64 M) (.int .i64 N) (.string A)).output (HBel.out (.int .i64 M) (.int .i64 N) (.string A)).size (HBel.out (.int .i64 M) (.int .i64 N) (.string A)).block⟩

def FaultPostS (g : Nat) (s : ByteArray) (w : World) (e : Ending) (w' : World) : Prop :=
  e = .returned (.int .i64 (if stOk s.data.toList then 0 else 30)) ∧ C3 g 3 3 9 (.int .i64 (minorOf (fst s.data.toList))) (.int .i64 (codeOf (fst (rst s.data.toList)))) (.string ⟨(rst (rst s.data.toList)).toArray⟩) w' ∧ Below g w w'

set_option maxHeartbeats 1000000 in
theorem fault_st (g : Nat) (s : ByteArray) (w : World) (a b c : Value) (hs : ¬ 1024 < s.size) (hC : C3 g 3 3 9 a b c w) :
    Calls Tryd.prog 46 #[.string s, .func (.func 47) #[] #[.pointer (some ⟨g, 0, none⟩), .pointer (some ⟨g + 1, 0, none⟩), .pointer (some ⟨g + 2, 0, none⟩)]] w (FaultPostS g s w) := by
  have hconv := fun W : World => run_bytes_of_string (P := Tryd.prog) W 9 22 5 s Tryd.underlying9 Tryd.underlying22 Tryd.underlying5
  have HC := Lib.hid hC
  have hgw := hC.lt
  clear hC
  go_enter Tryd.func46, Tryd.ntmps46
  go_wp2_with fail
  refine (stClosure_any g _ s.data.toList _ a b c (by simp; omega) ((sb_new (g + 3) w s _ _ _ (grownCap_ge _ _ _ _) (by omega)).heap (by rfl)) ((HC.out.alloc _).heap (by rfl))).mono ?_
  rintro e w1 ⟨rfl, hc, hb⟩
  have HCC := Lib.hid hc
  have HBB := Lib.hid hb
  clear hc hb
  cases hr : stOk s.data.toList with
  | true =>
    have HR := Lib.hid hr
    clear hr
    go_wp2_with fail
    go_ret
    exact ⟨by rw [HR.out]; rfl, HCC.out, (((Below.refl g w).alloc (by omega) _).drew.trans HBB.out)⟩
  | false =>
    have HR := Lib.hid hr
    clear hr
    go_wp2_with fail
    go_ret
    exact ⟨by rw [HR.out]; rfl, HCC.out, (((Below.refl g w).alloc (by omega) _).drew.trans HBB.out)⟩

theorem results3s {fn : Func} {p0 p1 p2 u : Tmp} (h : fn.results = #[.cell p0 3, .cell p1 3, .cell p2 9, .tmp u]) (tmps : Array Value) (w : World) (g : Nat) (a b c : Value)
    (hp0 : tmps.getD p0 undef = .pointer (some ⟨g, 0, none⟩)) (hp1 : tmps.getD p1 undef = .pointer (some ⟨g + 1, 0, none⟩)) (hp2 : tmps.getD p2 undef = .pointer (some ⟨g + 2, 0, none⟩)) (hC : C3 g 3 3 9 a b c w) :
    (results fn tmps).run Tryd.prog w = .ok (.tuple #[a, b, c, tmps.getD u undef]) w := by
  have c0 := cell_of_one hC.h0
  have c1 := cell_of_one hC.h1
  have c2 := cell_of_one hC.h2
  simp only [Array.getD_eq_getD_getElem?] at hp0 hp1 hp2
  simp [results, h, hp0, hp1, hp2, go_sem, c0, c1, c2]

set_option maxHeartbeats 4000000 in
theorem status_any (s : ByteArray) (w : World) :
    Calls Tryd.prog 30 #[.string s] w fun e w' => e = .returned (stVal s) ∧ Below w.heap.size w w' := by
  by_cases hs : 1024 < s.size
  · have HV := Lib.hid (show stVal s = .tuple #[.int .i64 0, .int .i64 0, .string ⟨#[]⟩, .int .i64 3] from by unfold stVal; rw [if_pos hs])
    go_enter Tryd.func30, Tryd.ntmps30
    go_wp2_with fail
    refine (fault_big s _ _ _ hs).mono ?_
    rintro e w' ⟨rfl, rfl⟩
    go_wp2_with fail
    refine bodyPost_ret (v := .tuple #[.int .i64 0, .int .i64 0, .string ⟨#[]⟩, .int .i64 3]) (by simp [results, Tryd.results30, go_sem]) rfl ⟨by rw [HV.out], ?_⟩
    exact below_new w _ _ _
  · cases hr : stOk s.data.toList with
    | true =>
      have HV := Lib.hid (show stVal s = .tuple #[.int .i64 (minorOf (fst s.data.toList)), .int .i64 (codeOf (fst (rst s.data.toList))), .string ⟨(rst (rst s.data.toList)).toArray⟩, .int .i64 0] from by unfold stVal; rw [if_neg hs, if_pos hr])
      have HR := Lib.hid hr
      clear hr
      go_enter Tryd.func30, Tryd.ntmps30
      go_wp2_with fail
      refine (fault_st w.heap.size s _ _ _ _ hs (c3_new w _ _ _ _ _ _)).mono ?_
      rintro e w1 ⟨rfl, hc, hb⟩
      rw [HR.out]
      have HCC := Lib.hid hc
      have HBB := Lib.hid hb
      have c0 := cell_of_one hc.h0
      have c1 := cell_of_one hc.h1
      have c2 := cell_of_one hc.h2
      have f0 := free_of_one hc.h0
      have f1 := free_of_one hc.h1
      have f2 := free_of_one hc.h2
      clear hc hb
      go_wp2_with fail
      go_region
      all_goals
        go_wp2_with fail
        refine bodyPost_ret (results3s rfl _ _ w.heap.size _ _ _ rfl rfl rfl ((HCC.out.put _ _ _).heap (by rfl))) rfl ⟨by rw [HV.out]; rfl, ?_⟩
        have h := put3_below (g := w.heap.size) ((below_new w _ _ _).trans HBB.out) (.int .i64 (minorOf (fst s.data.toList))) (.int .i64 (codeOf (fst (rst s.data.toList)))) (.string ⟨(rst (rst s.data.toList)).toArray⟩)
        exact Below.mk h.os h.tape h.output h.size h.block
    | false =>
      have HV := Lib.hid (show stVal s = .tuple #[.int .i64 0, .int .i64 0, .string ⟨#[]⟩, .int .i64 30] from by unfold stVal; rw [if_neg hs, if_neg (by rw [hr]; simp)])
      have HR := Lib.hid hr
      clear hr
      go_enter Tryd.func30, Tryd.ntmps30
      go_wp2_with fail
      refine (fault_st w.heap.size s _ _ _ _ hs (c3_new w _ _ _ _ _ _)).mono ?_
      rintro e w1 ⟨rfl, hc, hb⟩
      rw [HR.out]
      have HCC := Lib.hid hc
      have HBB := Lib.hid hb
      have c0 := cell_of_one hc.h0
      have c1 := cell_of_one hc.h1
      have c2 := cell_of_one hc.h2
      have f0 := free_of_one hc.h0
      have f1 := free_of_one hc.h1
      have f2 := free_of_one hc.h2
      clear hc hb
      go_wp2_with fail
      refine bodyPost_ret (results3s rfl _ _ w.heap.size _ _ _ rfl rfl rfl ((HCC.out.put _ _ _).heap (by rfl))) rfl ⟨by rw [HV.out]; rfl, ?_⟩
      exact put3_below (g := w.heap.size) ((below_new w _ _ _).trans HBB.out) _ _ _
end Go.Proofs.YtlnlihkljnkhiaaDoor.Ln
