/-
  LineBack: for every two texts and two numbers, of at most 1048576 letters in all, the call returns true.
  Conditions: at most 1048576 values and letters in all; the listed tables hold what the program's text lays (the card ties them).
-/
import Derived.Test.YtldlhnppinodbaaDoorTabs
import Derived.Test.YtldlhnppinodbaaDoorLnBackMath
import Derived.WideKeyPair
namespace Go.Proofs.YtldlhnppinodbaaDoor.lineBack
open Go.ChangeShapes Go.WideShapes Go.ChangeAt Go.RowKit
open Go.ChangeMaps (open_string shut_string)
set_option linter.unusedVariables false

theorem arr2 : WideMaps.ArrKey Tryd.prog 33 3 2 := ⟨Tryd.underlying33, by kernel_rfl, by kernel_rfl, by kernel_rfl⟩
theorem wf_bd {a : Int} (h : (Lit.int .i64 a).wf = true) : -9223372036854775808 ≤ a ∧ a ≤ 9223372036854775807 := by
  simpa [Lit.wf, IntKind.min, IntKind.max, IntKind.signed, IntKind.bits] using h
/-- What the walk carries along: the boxed numbers, and that nothing elder has changed. -/
structure Kept (w : World) (n c : Int) (x : World) : Prop where
  e0 : x.cell? ⟨w.heap.size, 0, none⟩ = some (.int .i64 n)
  e1 : x.cell? ⟨w.heap.size, 1, none⟩ = some (.int .i64 c)
  bel : Below w.heap.size w x
theorem Kept.more {w x y : World} {n c : Int} (h : Kept w n c x) (hb : Below x.heap.size x y) : Kept w n c y :=
  have z : w.heap.size < x.heap.size := World.block_lt_of_cell? x _ h.e0
  ⟨by rw [hb.cell (p := ⟨w.heap.size, 0, none⟩) z]; exact h.e0, by rw [hb.cell (p := ⟨w.heap.size, 1, none⟩) z]; exact h.e1, h.bel.trans (hb.mono h.bel.size)⟩
theorem kept_box (w : World) (n c : Int) (t : TypeId) : Kept w n c (w.alloc (.cells #[.int .i64 n, .int .i64 c] t)) := ⟨by simp, by simp, (Below.refl _ _).alloc (Nat.le_refl _) _⟩

set_option maxHeartbeats 2000000 in
theorem way111 (a0 : ByteArray) (s0 : a0.size ≤ 1048576) (a1 : ByteArray) (s1 : a1.size ≤ 1048576) (n c : Int) (n0 : -9223372036854775808 ≤ n) (n1 : n ≤ 9223372036854775807) (c0 : -9223372036854775808 ≤ c) (c1 : c ≤ 9223372036854775807) (w : World) (HE : Hid (Ln.Env w)) (J : ByteArray) (HR : Hid (Ln.reqLineVal a0 a1 n = .tuple #[.string J, .int .i64 0])) (HJ : Hid (Ln.reqVal J = .tuple #[.string a0, .string a1, .int .i64 n, .int .i64 0])) (L : ByteArray) (HS : Hid (Ln.stLineVal n c a1 = .tuple #[.string L, .int .i64 0])) (HL : Hid (Ln.stVal L = .tuple #[.int .i64 n, .int .i64 c, .string a1, .int .i64 0])) (X Y : ByteArray) (m : Int) (HQ : Hid (Ln.reqVal a0 = .tuple #[.string X, .string Y, .int .i64 m, .int .i64 0])) (sX : X.size ≤ 1048576) (sY : Y.size ≤ 1048576) (m0 : -9223372036854775808 ≤ m) (m1 : m ≤ 9223372036854775807) (HXY : Hid (Ln.reqLineVal X Y m = .tuple #[.string a0, .int .i64 0])) :
    Calls Tryd.prog 5 #[.string a0, .string a1, .agg #[.int .i64 n, .int .i64 c]] w fun e w' => e = .returned (.bool true) ∧ Below w.heap.size w w' := by
  have t01 : (!(a0.toList == a0.toList)) = false := by simp
  have t02 : (!(a1.toList == a1.toList)) = false := by simp
  have t03 : (n != n) = false := by simp
  have t04 : (c != c) = false := by simp
  have t05 : (a0.toList == a0.toList) = true := by simp
  go_enter Tryd.func5, Tryd.ntmps5
  go_wp2_with fail
  refine (Ln.requestLine_any a0 a1 n _ s0 s1 n0 n1 (HE.out.below (kept_box w n c 33).bel (Nat.le_refl _))).mono ?_
  rintro e x1 ⟨rfl, hb1⟩
  rw [HR.out]
  have K := (kept_box w n c 33).more hb1
  have e0 := K.e0
  have e1 := K.e1
  have HK := Lib.hid K
  clear hb1 K
  go_wp2_with fail
  refine (Ln.request_any J _ (HE.out.below HK.out.bel (Nat.le_refl _)).tab).mono ?_
  rintro e x2 ⟨rfl, hb2⟩
  rw [HJ.out]
  have K2 := HK.out.more hb2
  clear e0 e1
  have e0 := K2.e0
  have e1 := K2.e1
  have HK2 := Lib.hid K2
  clear hb2 K2 HK
  go_wp2_with fail
  refine (Ln.statusLine_any n c a1 _ s1 n0 n1 c0 c1 (HE.out.below HK2.out.bel (Nat.le_refl _))).mono ?_
  rintro e x3 ⟨rfl, hb3⟩
  rw [HS.out]
  have K3 := HK2.out.more hb3
  clear e0 e1
  have e0 := K3.e0
  have e1 := K3.e1
  have HK3 := Lib.hid K3
  clear hb3 K3
  go_wp2_with fail
  refine (Ln.status_any L _).mono ?_
  rintro e x4 ⟨rfl, hb4⟩
  rw [HL.out]
  have K4 := HK3.out.more hb4
  clear e0 e1
  have e0 := K4.e0
  have e1 := K4.e1
  have HK4 := Lib.hid K4
  clear hb4 K4
  go_wp2_with fail
  refine (Ln.request_any a0 _ (HE.out.below HK4.out.bel (Nat.le_refl _)).tab).mono ?_
  rintro e x5 ⟨rfl, hb5⟩
  rw [HQ.out]
  have HK5 := Lib.hid (HK4.out.more hb5)
  clear hb5 e0 e1
  go_wp2_with fail
  refine (Ln.requestLine_any X Y m _ sX sY m0 m1 (HE.out.below HK5.out.bel (Nat.le_refl _))).mono ?_
  rintro e x6 ⟨rfl, hb6⟩
  rw [HXY.out]
  have hB := (HK5.out.more hb6).bel
  clear hb6
  go_wp2_with fail
  go_ret
  exact ⟨rfl, hB⟩

set_option maxHeartbeats 2000000 in
theorem way110 (a0 : ByteArray) (s0 : a0.size ≤ 1048576) (a1 : ByteArray) (s1 : a1.size ≤ 1048576) (n c : Int) (n0 : -9223372036854775808 ≤ n) (n1 : n ≤ 9223372036854775807) (c0 : -9223372036854775808 ≤ c) (c1 : c ≤ 9223372036854775807) (w : World) (HE : Hid (Ln.Env w)) (J : ByteArray) (HR : Hid (Ln.reqLineVal a0 a1 n = .tuple #[.string J, .int .i64 0])) (HJ : Hid (Ln.reqVal J = .tuple #[.string a0, .string a1, .int .i64 n, .int .i64 0])) (L : ByteArray) (HS : Hid (Ln.stLineVal n c a1 = .tuple #[.string L, .int .i64 0])) (HL : Hid (Ln.stVal L = .tuple #[.int .i64 n, .int .i64 c, .string a1, .int .i64 0])) (d3 : Int) (HQ : Hid (Ln.reqVal a0 = .tuple #[.string ⟨#[]⟩, .string ⟨#[]⟩, .int .i64 0, .int .i64 d3])) (t3 : (d3 == 0) = false) :
    Calls Tryd.prog 5 #[.string a0, .string a1, .agg #[.int .i64 n, .int .i64 c]] w fun e w' => e = .returned (.bool true) ∧ Below w.heap.size w w' := by
  have t01 : (!(a0.toList == a0.toList)) = false := by simp
  have t02 : (!(a1.toList == a1.toList)) = false := by simp
  have t03 : (n != n) = false := by simp
  have t04 : (c != c) = false := by simp
  have t05 : (a0.toList == a0.toList) = true := by simp
  go_enter Tryd.func5, Tryd.ntmps5
  go_wp2_with fail
  refine (Ln.requestLine_any a0 a1 n _ s0 s1 n0 n1 (HE.out.below (kept_box w n c 33).bel (Nat.le_refl _))).mono ?_
  rintro e x1 ⟨rfl, hb1⟩
  rw [HR.out]
  have K := (kept_box w n c 33).more hb1
  have e0 := K.e0
  have e1 := K.e1
  have HK := Lib.hid K
  clear hb1 K
  go_wp2_with fail
  refine (Ln.request_any J _ (HE.out.below HK.out.bel (Nat.le_refl _)).tab).mono ?_
  rintro e x2 ⟨rfl, hb2⟩
  rw [HJ.out]
  have K2 := HK.out.more hb2
  clear e0 e1
  have e0 := K2.e0
  have e1 := K2.e1
  have HK2 := Lib.hid K2
  clear hb2 K2 HK
  go_wp2_with fail
  refine (Ln.statusLine_any n c a1 _ s1 n0 n1 c0 c1 (HE.out.below HK2.out.bel (Nat.le_refl _))).mono ?_
  rintro e x3 ⟨rfl, hb3⟩
  rw [HS.out]
  have K3 := HK2.out.more hb3
  clear e0 e1
  have e0 := K3.e0
  have e1 := K3.e1
  have HK3 := Lib.hid K3
  clear hb3 K3
  go_wp2_with fail
  refine (Ln.status_any L _).mono ?_
  rintro e x4 ⟨rfl, hb4⟩
  rw [HL.out]
  have K4 := HK3.out.more hb4
  clear e0 e1
  have e0 := K4.e0
  have e1 := K4.e1
  have HK4 := Lib.hid K4
  clear hb4 K4
  go_wp2_with fail
  refine (Ln.request_any a0 _ (HE.out.below HK4.out.bel (Nat.le_refl _)).tab).mono ?_
  rintro e x5 ⟨rfl, hb5⟩
  rw [HQ.out]
  have HK5 := Lib.hid (HK4.out.more hb5)
  clear hb5 e0 e1
  go_wp2_with fail
  refine (Ln.request_any _ _ (HE.out.below HK5.out.bel (Nat.le_refl _)).tab).mono ?_
  rintro e x6 ⟨rfl, hb6⟩
  rw [Ln.get_line]
  have hB := (HK5.out.more hb6).bel
  clear hb6
  go_wp2_with fail
  go_ret
  exact ⟨rfl, hB⟩

set_option maxHeartbeats 2000000 in
theorem way101 (a0 : ByteArray) (s0 : a0.size ≤ 1048576) (a1 : ByteArray) (s1 : a1.size ≤ 1048576) (n c : Int) (n0 : -9223372036854775808 ≤ n) (n1 : n ≤ 9223372036854775807) (c0 : -9223372036854775808 ≤ c) (c1 : c ≤ 9223372036854775807) (w : World) (HE : Hid (Ln.Env w)) (J : ByteArray) (HR : Hid (Ln.reqLineVal a0 a1 n = .tuple #[.string J, .int .i64 0])) (HJ : Hid (Ln.reqVal J = .tuple #[.string a0, .string a1, .int .i64 n, .int .i64 0])) (d2 : Int) (HS : Hid (Ln.stLineVal n c a1 = .tuple #[.string ⟨#[]⟩, .int .i64 d2])) (t2 : (d2 == 0) = false) (X Y : ByteArray) (m : Int) (HQ : Hid (Ln.reqVal a0 = .tuple #[.string X, .string Y, .int .i64 m, .int .i64 0])) (sX : X.size ≤ 1048576) (sY : Y.size ≤ 1048576) (m0 : -9223372036854775808 ≤ m) (m1 : m ≤ 9223372036854775807) (HXY : Hid (Ln.reqLineVal X Y m = .tuple #[.string a0, .int .i64 0])) :
    Calls Tryd.prog 5 #[.string a0, .string a1, .agg #[.int .i64 n, .int .i64 c]] w fun e w' => e = .returned (.bool true) ∧ Below w.heap.size w w' := by
  have t01 : (!(a0.toList == a0.toList)) = false := by simp
  have t02 : (!(a1.toList == a1.toList)) = false := by simp
  have t03 : (n != n) = false := by simp
  have t04 : (c != c) = false := by simp
  have t05 : (a0.toList == a0.toList) = true := by simp
  go_enter Tryd.func5, Tryd.ntmps5
  go_wp2_with fail
  refine (Ln.requestLine_any a0 a1 n _ s0 s1 n0 n1 (HE.out.below (kept_box w n c 33).bel (Nat.le_refl _))).mono ?_
  rintro e x1 ⟨rfl, hb1⟩
  rw [HR.out]
  have K := (kept_box w n c 33).more hb1
  have e0 := K.e0
  have e1 := K.e1
  have HK := Lib.hid K
  clear hb1 K
  go_wp2_with fail
  refine (Ln.request_any J _ (HE.out.below HK.out.bel (Nat.le_refl _)).tab).mono ?_
  rintro e x2 ⟨rfl, hb2⟩
  rw [HJ.out]
  have K2 := HK.out.more hb2
  clear e0 e1
  have e0 := K2.e0
  have e1 := K2.e1
  have HK2 := Lib.hid K2
  clear hb2 K2 HK
  go_wp2_with fail
  refine (Ln.statusLine_any n c a1 _ s1 n0 n1 c0 c1 (HE.out.below HK2.out.bel (Nat.le_refl _))).mono ?_
  rintro e x3 ⟨rfl, hb3⟩
  rw [HS.out]
  have K3 := HK2.out.more hb3
  clear e0 e1
  have e0 := K3.e0
  have e1 := K3.e1
  have HK3 := Lib.hid K3
  clear hb3 K3
  go_wp2_with fail
  have HK4 := HK3
  refine (Ln.request_any a0 _ (HE.out.below HK4.out.bel (Nat.le_refl _)).tab).mono ?_
  rintro e x5 ⟨rfl, hb5⟩
  rw [HQ.out]
  have HK5 := Lib.hid (HK4.out.more hb5)
  clear hb5 e0 e1
  go_wp2_with fail
  refine (Ln.requestLine_any X Y m _ sX sY m0 m1 (HE.out.below HK5.out.bel (Nat.le_refl _))).mono ?_
  rintro e x6 ⟨rfl, hb6⟩
  rw [HXY.out]
  have hB := (HK5.out.more hb6).bel
  clear hb6
  go_wp2_with fail
  go_ret
  exact ⟨rfl, hB⟩

set_option maxHeartbeats 2000000 in
theorem way100 (a0 : ByteArray) (s0 : a0.size ≤ 1048576) (a1 : ByteArray) (s1 : a1.size ≤ 1048576) (n c : Int) (n0 : -9223372036854775808 ≤ n) (n1 : n ≤ 9223372036854775807) (c0 : -9223372036854775808 ≤ c) (c1 : c ≤ 9223372036854775807) (w : World) (HE : Hid (Ln.Env w)) (J : ByteArray) (HR : Hid (Ln.reqLineVal a0 a1 n = .tuple #[.string J, .int .i64 0])) (HJ : Hid (Ln.reqVal J = .tuple #[.string a0, .string a1, .int .i64 n, .int .i64 0])) (d2 : Int) (HS : Hid (Ln.stLineVal n c a1 = .tuple #[.string ⟨#[]⟩, .int .i64 d2])) (t2 : (d2 == 0) = false) (d3 : Int) (HQ : Hid (Ln.reqVal a0 = .tuple #[.string ⟨#[]⟩, .string ⟨#[]⟩, .int .i64 0, .int .i64 d3])) (t3 : (d3 == 0) = false) :
    Calls Tryd.prog 5 #[.string a0, .string a1, .agg #[.int .i64 n, .int .i64 c]] w fun e w' => e = .returned (.bool true) ∧ Below w.heap.size w w' := by
  have t01 : (!(a0.toList == a0.toList)) = false := by simp
  have t02 : (!(a1.toList == a1.toList)) = false := by simp
  have t03 : (n != n) = false := by simp
  have t04 : (c != c) = false := by simp
  have t05 : (a0.toList == a0.toList) = true := by simp
  go_enter Tryd.func5, Tryd.ntmps5
  go_wp2_with fail
  refine (Ln.requestLine_any a0 a1 n _ s0 s1 n0 n1 (HE.out.below (kept_box w n c 33).bel (Nat.le_refl _))).mono ?_
  rintro e x1 ⟨rfl, hb1⟩
  rw [HR.out]
  have K := (kept_box w n c 33).more hb1
  have e0 := K.e0
  have e1 := K.e1
  have HK := Lib.hid K
  clear hb1 K
  go_wp2_with fail
  refine (Ln.request_any J _ (HE.out.below HK.out.bel (Nat.le_refl _)).tab).mono ?_
  rintro e x2 ⟨rfl, hb2⟩
  rw [HJ.out]
  have K2 := HK.out.more hb2
  clear e0 e1
  have e0 := K2.e0
  have e1 := K2.e1
  have HK2 := Lib.hid K2
  clear hb2 K2 HK
  go_wp2_with fail
  refine (Ln.statusLine_any n c a1 _ s1 n0 n1 c0 c1 (HE.out.below HK2.out.bel (Nat.le_refl _))).mono ?_
  rintro e x3 ⟨rfl, hb3⟩
  rw [HS.out]
  have K3 := HK2.out.more hb3
  clear e0 e1
  have e0 := K3.e0
  have e1 := K3.e1
  have HK3 := Lib.hid K3
  clear hb3 K3
  go_wp2_with fail
  have HK4 := HK3
  refine (Ln.request_any a0 _ (HE.out.below HK4.out.bel (Nat.le_refl _)).tab).mono ?_
  rintro e x5 ⟨rfl, hb5⟩
  rw [HQ.out]
  have HK5 := Lib.hid (HK4.out.more hb5)
  clear hb5 e0 e1
  go_wp2_with fail
  refine (Ln.request_any _ _ (HE.out.below HK5.out.bel (Nat.le_refl _)).tab).mono ?_
  rintro e x6 ⟨rfl, hb6⟩
  rw [Ln.get_line]
  have hB := (HK5.out.more hb6).bel
  clear hb6
  go_wp2_with fail
  go_ret
  exact ⟨rfl, hB⟩

set_option maxHeartbeats 2000000 in
theorem way011 (a0 : ByteArray) (s0 : a0.size ≤ 1048576) (a1 : ByteArray) (s1 : a1.size ≤ 1048576) (n c : Int) (n0 : -9223372036854775808 ≤ n) (n1 : n ≤ 9223372036854775807) (c0 : -9223372036854775808 ≤ c) (c1 : c ≤ 9223372036854775807) (w : World) (HE : Hid (Ln.Env w)) (d1 : Int) (HR : Hid (Ln.reqLineVal a0 a1 n = .tuple #[.string ⟨#[]⟩, .int .i64 d1])) (t1 : (d1 == 0) = false) (L : ByteArray) (HS : Hid (Ln.stLineVal n c a1 = .tuple #[.string L, .int .i64 0])) (HL : Hid (Ln.stVal L = .tuple #[.int .i64 n, .int .i64 c, .string a1, .int .i64 0])) (X Y : ByteArray) (m : Int) (HQ : Hid (Ln.reqVal a0 = .tuple #[.string X, .string Y, .int .i64 m, .int .i64 0])) (sX : X.size ≤ 1048576) (sY : Y.size ≤ 1048576) (m0 : -9223372036854775808 ≤ m) (m1 : m ≤ 9223372036854775807) (HXY : Hid (Ln.reqLineVal X Y m = .tuple #[.string a0, .int .i64 0])) :
    Calls Tryd.prog 5 #[.string a0, .string a1, .agg #[.int .i64 n, .int .i64 c]] w fun e w' => e = .returned (.bool true) ∧ Below w.heap.size w w' := by
  have t01 : (!(a0.toList == a0.toList)) = false := by simp
  have t02 : (!(a1.toList == a1.toList)) = false := by simp
  have t03 : (n != n) = false := by simp
  have t04 : (c != c) = false := by simp
  have t05 : (a0.toList == a0.toList) = true := by simp
  go_enter Tryd.func5, Tryd.ntmps5
  go_wp2_with fail
  refine (Ln.requestLine_any a0 a1 n _ s0 s1 n0 n1 (HE.out.below (kept_box w n c 33).bel (Nat.le_refl _))).mono ?_
  rintro e x1 ⟨rfl, hb1⟩
  rw [HR.out]
  have K := (kept_box w n c 33).more hb1
  have e0 := K.e0
  have e1 := K.e1
  have HK := Lib.hid K
  clear hb1 K
  go_wp2_with fail
  have HK2 := HK
  refine (Ln.statusLine_any n c a1 _ s1 n0 n1 c0 c1 (HE.out.below HK2.out.bel (Nat.le_refl _))).mono ?_
  rintro e x3 ⟨rfl, hb3⟩
  rw [HS.out]
  have K3 := HK2.out.more hb3
  clear e0 e1
  have e0 := K3.e0
  have e1 := K3.e1
  have HK3 := Lib.hid K3
  clear hb3 K3
  go_wp2_with fail
  refine (Ln.status_any L _).mono ?_
  rintro e x4 ⟨rfl, hb4⟩
  rw [HL.out]
  have K4 := HK3.out.more hb4
  clear e0 e1
  have e0 := K4.e0
  have e1 := K4.e1
  have HK4 := Lib.hid K4
  clear hb4 K4
  go_wp2_with fail
  refine (Ln.request_any a0 _ (HE.out.below HK4.out.bel (Nat.le_refl _)).tab).mono ?_
  rintro e x5 ⟨rfl, hb5⟩
  rw [HQ.out]
  have HK5 := Lib.hid (HK4.out.more hb5)
  clear hb5 e0 e1
  go_wp2_with fail
  refine (Ln.requestLine_any X Y m _ sX sY m0 m1 (HE.out.below HK5.out.bel (Nat.le_refl _))).mono ?_
  rintro e x6 ⟨rfl, hb6⟩
  rw [HXY.out]
  have hB := (HK5.out.more hb6).bel
  clear hb6
  go_wp2_with fail
  go_ret
  exact ⟨rfl, hB⟩

set_option maxHeartbeats 2000000 in
theorem way010 (a0 : ByteArray) (s0 : a0.size ≤ 1048576) (a1 : ByteArray) (s1 : a1.size ≤ 1048576) (n c : Int) (n0 : -9223372036854775808 ≤ n) (n1 : n ≤ 9223372036854775807) (c0 : -9223372036854775808 ≤ c) (c1 : c ≤ 9223372036854775807) (w : World) (HE : Hid (Ln.Env w)) (d1 : Int) (HR : Hid (Ln.reqLineVal a0 a1 n = .tuple #[.string ⟨#[]⟩, .int .i64 d1])) (t1 : (d1 == 0) = false) (L : ByteArray) (HS : Hid (Ln.stLineVal n c a1 = .tuple #[.string L, .int .i64 0])) (HL : Hid (Ln.stVal L = .tuple #[.int .i64 n, .int .i64 c, .string a1, .int .i64 0])) (d3 : Int) (HQ : Hid (Ln.reqVal a0 = .tuple #[.string ⟨#[]⟩, .string ⟨#[]⟩, .int .i64 0, .int .i64 d3])) (t3 : (d3 == 0) = false) :
    Calls Tryd.prog 5 #[.string a0, .string a1, .agg #[.int .i64 n, .int .i64 c]] w fun e w' => e = .returned (.bool true) ∧ Below w.heap.size w w' := by
  have t01 : (!(a0.toList == a0.toList)) = false := by simp
  have t02 : (!(a1.toList == a1.toList)) = false := by simp
  have t03 : (n != n) = false := by simp
  have t04 : (c != c) = false := by simp
  have t05 : (a0.toList == a0.toList) = true := by simp
  go_enter Tryd.func5, Tryd.ntmps5
  go_wp2_with fail
  refine (Ln.requestLine_any a0 a1 n _ s0 s1 n0 n1 (HE.out.below (kept_box w n c 33).bel (Nat.le_refl _))).mono ?_
  rintro e x1 ⟨rfl, hb1⟩
  rw [HR.out]
  have K := (kept_box w n c 33).more hb1
  have e0 := K.e0
  have e1 := K.e1
  have HK := Lib.hid K
  clear hb1 K
  go_wp2_with fail
  have HK2 := HK
  refine (Ln.statusLine_any n c a1 _ s1 n0 n1 c0 c1 (HE.out.below HK2.out.bel (Nat.le_refl _))).mono ?_
  rintro e x3 ⟨rfl, hb3⟩
  rw [HS.out]
  have K3 := HK2.out.more hb3
  clear e0 e1
  have e0 := K3.e0
  have e1 := K3.e1
  have HK3 := Lib.hid K3
  clear hb3 K3
  go_wp2_with fail
  refine (Ln.status_any L _).mono ?_
  rintro e x4 ⟨rfl, hb4⟩
  rw [HL.out]
  have K4 := HK3.out.more hb4
  clear e0 e1
  have e0 := K4.e0
  have e1 := K4.e1
  have HK4 := Lib.hid K4
  clear hb4 K4
  go_wp2_with fail
  refine (Ln.request_any a0 _ (HE.out.below HK4.out.bel (Nat.le_refl _)).tab).mono ?_
  rintro e x5 ⟨rfl, hb5⟩
  rw [HQ.out]
  have HK5 := Lib.hid (HK4.out.more hb5)
  clear hb5 e0 e1
  go_wp2_with fail
  refine (Ln.request_any _ _ (HE.out.below HK5.out.bel (Nat.le_refl _)).tab).mono ?_
  rintro e x6 ⟨rfl, hb6⟩
  rw [Ln.get_line]
  have hB := (HK5.out.more hb6).bel
  clear hb6
  go_wp2_with fail
  go_ret
  exact ⟨rfl, hB⟩

set_option maxHeartbeats 2000000 in
theorem way001 (a0 : ByteArray) (s0 : a0.size ≤ 1048576) (a1 : ByteArray) (s1 : a1.size ≤ 1048576) (n c : Int) (n0 : -9223372036854775808 ≤ n) (n1 : n ≤ 9223372036854775807) (c0 : -9223372036854775808 ≤ c) (c1 : c ≤ 9223372036854775807) (w : World) (HE : Hid (Ln.Env w)) (d1 : Int) (HR : Hid (Ln.reqLineVal a0 a1 n = .tuple #[.string ⟨#[]⟩, .int .i64 d1])) (t1 : (d1 == 0) = false) (d2 : Int) (HS : Hid (Ln.stLineVal n c a1 = .tuple #[.string ⟨#[]⟩, .int .i64 d2])) (t2 : (d2 == 0) = false) (X Y : ByteArray) (m : Int) (HQ : Hid (Ln.reqVal a0 = .tuple #[.string X, .string Y, .int .i64 m, .int .i64 0])) (sX : X.size ≤ 1048576) (sY : Y.size ≤ 1048576) (m0 : -9223372036854775808 ≤ m) (m1 : m ≤ 9223372036854775807) (HXY : Hid (Ln.reqLineVal X Y m = .tuple #[.string a0, .int .i64 0])) :
    Calls Tryd.prog 5 #[.string a0, .string a1, .agg #[.int .i64 n, .int .i64 c]] w fun e w' => e = .returned (.bool true) ∧ Below w.heap.size w w' := by
  have t01 : (!(a0.toList == a0.toList)) = false := by simp
  have t02 : (!(a1.toList == a1.toList)) = false := by simp
  have t03 : (n != n) = false := by simp
  have t04 : (c != c) = false := by simp
  have t05 : (a0.toList == a0.toList) = true := by simp
  go_enter Tryd.func5, Tryd.ntmps5
  go_wp2_with fail
  refine (Ln.requestLine_any a0 a1 n _ s0 s1 n0 n1 (HE.out.below (kept_box w n c 33).bel (Nat.le_refl _))).mono ?_
  rintro e x1 ⟨rfl, hb1⟩
  rw [HR.out]
  have K := (kept_box w n c 33).more hb1
  have e0 := K.e0
  have e1 := K.e1
  have HK := Lib.hid K
  clear hb1 K
  go_wp2_with fail
  have HK2 := HK
  refine (Ln.statusLine_any n c a1 _ s1 n0 n1 c0 c1 (HE.out.below HK2.out.bel (Nat.le_refl _))).mono ?_
  rintro e x3 ⟨rfl, hb3⟩
  rw [HS.out]
  have K3 := HK2.out.more hb3
  clear e0 e1
  have e0 := K3.e0
  have e1 := K3.e1
  have HK3 := Lib.hid K3
  clear hb3 K3
  go_wp2_with fail
  have HK4 := HK3
  refine (Ln.request_any a0 _ (HE.out.below HK4.out.bel (Nat.le_refl _)).tab).mono ?_
  rintro e x5 ⟨rfl, hb5⟩
  rw [HQ.out]
  have HK5 := Lib.hid (HK4.out.more hb5)
  clear hb5 e0 e1
  go_wp2_with fail
  refine (Ln.requestLine_any X Y m _ sX sY m0 m1 (HE.out.below HK5.out.bel (Nat.le_refl _))).mono ?_
  rintro e x6 ⟨rfl, hb6⟩
  rw [HXY.out]
  have hB := (HK5.out.more hb6).bel
  clear hb6
  go_wp2_with fail
  go_ret
  exact ⟨rfl, hB⟩

set_option maxHeartbeats 2000000 in
theorem way000 (a0 : ByteArray) (s0 : a0.size ≤ 1048576) (a1 : ByteArray) (s1 : a1.size ≤ 1048576) (n c : Int) (n0 : -9223372036854775808 ≤ n) (n1 : n ≤ 9223372036854775807) (c0 : -9223372036854775808 ≤ c) (c1 : c ≤ 9223372036854775807) (w : World) (HE : Hid (Ln.Env w)) (d1 : Int) (HR : Hid (Ln.reqLineVal a0 a1 n = .tuple #[.string ⟨#[]⟩, .int .i64 d1])) (t1 : (d1 == 0) = false) (d2 : Int) (HS : Hid (Ln.stLineVal n c a1 = .tuple #[.string ⟨#[]⟩, .int .i64 d2])) (t2 : (d2 == 0) = false) (d3 : Int) (HQ : Hid (Ln.reqVal a0 = .tuple #[.string ⟨#[]⟩, .string ⟨#[]⟩, .int .i64 0, .int .i64 d3])) (t3 : (d3 == 0) = false) :
    Calls Tryd.prog 5 #[.string a0, .string a1, .agg #[.int .i64 n, .int .i64 c]] w fun e w' => e = .returned (.bool true) ∧ Below w.heap.size w w' := by
  have t01 : (!(a0.toList == a0.toList)) = false := by simp
  have t02 : (!(a1.toList == a1.toList)) = false := by simp
  have t03 : (n != n) = false := by simp
  have t04 : (c != c) = false := by simp
  have t05 : (a0.toList == a0.toList) = true := by simp
  go_enter Tryd.func5, Tryd.ntmps5
  go_wp2_with fail
  refine (Ln.requestLine_any a0 a1 n _ s0 s1 n0 n1 (HE.out.below (kept_box w n c 33).bel (Nat.le_refl _))).mono ?_
  rintro e x1 ⟨rfl, hb1⟩
  rw [HR.out]
  have K := (kept_box w n c 33).more hb1
  have e0 := K.e0
  have e1 := K.e1
  have HK := Lib.hid K
  clear hb1 K
  go_wp2_with fail
  have HK2 := HK
  refine (Ln.statusLine_any n c a1 _ s1 n0 n1 c0 c1 (HE.out.below HK2.out.bel (Nat.le_refl _))).mono ?_
  rintro e x3 ⟨rfl, hb3⟩
  rw [HS.out]
  have K3 := HK2.out.more hb3
  clear e0 e1
  have e0 := K3.e0
  have e1 := K3.e1
  have HK3 := Lib.hid K3
  clear hb3 K3
  go_wp2_with fail
  have HK4 := HK3
  refine (Ln.request_any a0 _ (HE.out.below HK4.out.bel (Nat.le_refl _)).tab).mono ?_
  rintro e x5 ⟨rfl, hb5⟩
  rw [HQ.out]
  have HK5 := Lib.hid (HK4.out.more hb5)
  clear hb5 e0 e1
  go_wp2_with fail
  refine (Ln.request_any _ _ (HE.out.below HK5.out.bel (Nat.le_refl _)).tab).mono ?_
  rintro e x6 ⟨rfl, hb6⟩
  rw [Ln.get_line]
  have hB := (HK5.out.more hb6).bel
  clear hb6
  go_wp2_with fail
  go_ret
  exact ⟨rfl, hB⟩

theorem walk (a0 : ByteArray) (s0 : a0.size ≤ 1048576) (a1 : ByteArray) (s1 : a1.size ≤ 1048576) (n c : Int) (w2 : (Lit.int .i64 n).wf = true) (u2 : (Lit.int .i64 c).wf = true) (w : World) (hT : Tk.Tab w) (hP : Tb.P10 w) :
    Calls Tryd.prog 5 #[.string a0, .string a1, .agg #[.int .i64 n, .int .i64 c]] w fun e w' => e = .returned (.bool true) ∧ Below w.heap.size w w' := by
  have HE := Lib.hid (show Ln.Env w from ⟨hT, hP⟩)
  obtain ⟨n0, n1⟩ := wf_bd w2
  obtain ⟨c0, c1⟩ := wf_bd u2
  have z : ∀ d : Int, 2 ≤ d → (d == 0) = false := fun d h => by rw [beq_eq_false_iff_ne]; omega
  rcases Ln.line_cases a0 a1 n with ⟨b1, z1, h1⟩ | ⟨d1, h1, k1, _⟩
  · have j1 := Ln.back_req b1 z1
    rcases Ln.st_cases n c a1 with ⟨b2, z2, h2⟩ | ⟨d2, h2, k2, _⟩
    · have j2 := Ln.back_st b2 z2
      rcases Ln.req_cases a0 with ⟨X, Y, m, h3, sX, sY, m0, m1, j3⟩ | ⟨d3, h3, k3, _⟩
      · exact way111 a0 s0 a1 s1 n c n0 n1 c0 c1 w HE _ h1 j1 _ h2 j2 X Y m h3 sX sY m0 m1 j3
      · exact way110 a0 s0 a1 s1 n c n0 n1 c0 c1 w HE _ h1 j1 _ h2 j2 d3 h3 (z d3 k3)
    · rcases Ln.req_cases a0 with ⟨X, Y, m, h3, sX, sY, m0, m1, j3⟩ | ⟨d3, h3, k3, _⟩
      · exact way101 a0 s0 a1 s1 n c n0 n1 c0 c1 w HE _ h1 j1 d2 h2 (z d2 k2) X Y m h3 sX sY m0 m1 j3
      · exact way100 a0 s0 a1 s1 n c n0 n1 c0 c1 w HE _ h1 j1 d2 h2 (z d2 k2) d3 h3 (z d3 k3)
  · rcases Ln.st_cases n c a1 with ⟨b2, z2, h2⟩ | ⟨d2, h2, k2, _⟩
    · have j2 := Ln.back_st b2 z2
      rcases Ln.req_cases a0 with ⟨X, Y, m, h3, sX, sY, m0, m1, j3⟩ | ⟨d3, h3, k3, _⟩
      · exact way011 a0 s0 a1 s1 n c n0 n1 c0 c1 w HE d1 h1 (z d1 k1) _ h2 j2 X Y m h3 sX sY m0 m1 j3
      · exact way010 a0 s0 a1 s1 n c n0 n1 c0 c1 w HE d1 h1 (z d1 k1) _ h2 j2 d3 h3 (z d3 k3)
    · rcases Ln.req_cases a0 with ⟨X, Y, m, h3, sX, sY, m0, m1, j3⟩ | ⟨d3, h3, k3, _⟩
      · exact way001 a0 s0 a1 s1 n c n0 n1 c0 c1 w HE d1 h1 (z d1 k1) d2 h2 (z d2 k2) X Y m h3 sX sY m0 m1 j3
      · exact way000 a0 s0 a1 s1 n c n0 n1 c0 c1 w HE d1 h1 (z d1 k1) d2 h2 (z d2 k2) d3 h3 (z d3 k3)


theorem contract (H : Type) (enc : TypeId × Value → H) (W : World) (base : Nat) (args : Array Value) (ds gs : List (DataW H)) (before : List MemPlace)
    (hval : ∀ (j : Nat) t v, Tryd.f5.params[j]? = some t → args[j]? = some v → Value.okWide Tryd.prog W .any base t v)
    (hW : DataW.Whole enc Tryd.prog Tryd.f5.params.toList Rows.lineBackSpec.vars false W args.toList ds gs before) (hk : Rows.uptoSmall H (ds ++ gs) = true) (hL : laidMetH Tryd.prog Rows.lineBackUptoRow.laid W) :
    Calls Tryd.prog 5 args W fun e W' => ∃ v, e = .returned v ∧ Rows.lineBackSpec.post enc Tryd.prog Tryd.f5 false true false false W args v W' := by
  have hW' := hW
  obtain ⟨p, q, hA0, hV, rfl, hfz, hnd⟩ := hW
  have hA : DataW.TrodAll enc Tryd.prog W 0 (fun _ => true) true Tryd.f5.params.toList args.toList ds p := hA0
  rw [Tryd.params5] at hA hval
  obtain ⟨v0, vs0, d0, ds0, p0, q0, hargs, rfl, rfl, h0, r0⟩ := trodAll_cons hA
  obtain ⟨v1, vs1, d1, ds1, p1, q1, rfl, rfl, rfl, h1, r1⟩ := trodAll_cons r0
  obtain ⟨v2, vs2, d2, ds2, p2, q2, rfl, rfl, rfl, h2, r2⟩ := trodAll_cons r1
  obtain ⟨rfl, rfl, rfl⟩ := trodAll_nil r2
  obtain rfl : args = #[v0, v1, v2] := by cases args; simp_all
  obtain ⟨rfl, rfl⟩ := trodVars_none hV
  obtain ⟨a0, rfl, rfl, rfl, w0⟩ := open_string Tryd.underlying9 (hval 0 9 v0 rfl rfl) h0
  obtain ⟨a1, rfl, rfl, rfl, w1⟩ := open_string Tryd.underlying9 (hval 1 9 v1 rfl rfl) h1
  obtain ⟨a2, b2, rfl, rfl, rfl, w2, u2⟩ := WideMaps.open_pair arr2 Tryd.underlying3 (hval 2 33 v2 rfl rfl) h2
  have hb := of_decide_eq_true hk
  simp only [List.append_nil, Rows.uptoBulkAll, Rows.uptoBulk, Array.length_toList] at hb
  have s0 : a0.size ≤ 1048576 := by have e : a0.data.size = a0.size := rfl; omega
  have s1 : a1.size ≤ 1048576 := by have e : a1.data.size = a1.size := rfl; omega
  clear hA0
  simp only [List.append_nil] at hW'
  refine (walk a0 s0 a1 s1 a2 b2 w2 u2 W (Tb.tok_of_head (Tb.tail (Tb.tail (Tb.tail hL)))) (Tb.p10_of_head (Tb.tail (Tb.tail hL)))).mono fun e W' ⟨he, bel⟩ => ?_
  subst he
  exact ⟨_, rfl, _, _, _, [], _, [], hW', trodAll_mk1 (shut_bool Tryd.underlying4 _), (trodAll_cons_mk (shut_string Tryd.underlying9 w0) (trodAll_cons_mk (shut_string Tryd.underlying9 w1) (trodAll_cons_mk (WideMaps.shut_pair arr2 Tryd.underlying3 w2 u2) trodAll_mk0))), rfl, bel.frame _, fun h => by cases h⟩

theorem laid_met (os : Os) : laidMet Tryd.prog Rows.lineBackUptoRow.laid ((Tb.laidWorld os).forCall (fun _ _ => 0) ⟨#[], #[.string ByteArray.empty, .string ByteArray.empty, .agg #[.int .i64 0, .int .i64 0]], []⟩).memory :=
  laidMet_of_run' 8 (by kernel_rfl) (by kernel_rfl)
theorem reads (os : Os) {H : Type} (enc : TypeId × Value → H) : ∃ places, DataW.whole enc Tryd.prog ((Tb.laidWorld os).forCall (fun _ _ => 0) ⟨#[], #[.string ByteArray.empty, .string ByteArray.empty, .agg #[.int .i64 0, .int .i64 0]], []⟩).memory Tryd.f5.params.toList Rows.lineBackSpec.vars false (#[.string ByteArray.empty, .string ByteArray.empty, .agg #[.int .i64 0, .int .i64 0]] : Array Value).toList 8 = some ([.lit (.string []), .lit (.string []), .agg [.lit (.int .i64 0), .lit (.int .i64 0)]], [], places) :=
  ⟨[], by kernel_rfl⟩

set_option maxRecDepth 100000 in
theorem lifted (os : Os) (started : os.Started) (H : Type) (enc : TypeId × Value → H) (F : Stop.Interp) :
    ReturnsInHanded {} Tryd.checked os 5 .any ((Rows.OpenSpec.upto Rows.lineBackSpec).preRow enc Tryd.prog Tryd.f5 Rows.lineBackUptoRow.domain false Rows.lineBackUptoRow.laid) (((Rows.OpenSpec.upto Rows.lineBackSpec).at F).post enc Tryd.prog Tryd.f5 false true false false) := by
  obtain ⟨places, hx⟩ := reads os enc
  refine returnsInHanded_of_row (C := Tryd.checked) (s := Rows.OpenSpec.upto Rows.lineBackSpec) Tb.own started (by kernel_rfl) Tryd.func5
    (witness_row_at (enc := enc) (C := Tryd.checked) false (Tb.laidWorld os) #[.string ByteArray.empty, .string ByteArray.empty, .agg #[.int .i64 0, .int .i64 0]] rfl (by kernel_rfl) (by kernel_rfl) (by kernel_rfl)
      (OpenSpec.preRow_of_cond 8 hx (by kernel_rfl) (fun k hk => by cases hk; kernel_rfl) (by kernel_rfl) (laid_met os))) ?_
  intro W base args ds gs before hval hW _ hcond _ hL _ _
  exact contract H enc W base args ds gs before hval hW (hcond _ rfl) hL

theorem said : Rows.LineBackUptoSaid :=
  OpenClaim.holds_of_cond 5 Tryd.f5 rfl rfl rfl rfl rfl rfl rfl ⟨rfl, rfl, rfl, rfl, rfl⟩ rfl rfl rfl rfl rfl (by kernel_rfl) Tryd.func5 (by kernel_rfl)
    (of_decide_eq_true (by kernel_rfl)) (by unfold Func.isWrapper; first | (rw [if_pos (by decide +kernel)]; kernel_rfl) | (rw [if_neg (by decide +kernel)]; exact ⟨rfl, rfl⟩))
    (fun os started H enc _ F => by rw [OpenClaim.pre_eq_preRow]; exact lifted os started H enc F)

theorem plain (f : FuncId) (fn : Func) (hf : Tryd.pinned.checked.prog.funcNamed "gatepost/gatepostlaw03.LineBack" = some f) (hfn : Tryd.pinned.checked.prog.funcs[f]? = some fn) :
    false = Tryd.pinned.checked.prog.looks [] ∧ ∀ (j : Nat) t, fn.params[j]? = some t → Tryd.pinned.checked.prog.wantsStandIn t = false := by
  obtain rfl : f = 5 := Option.some.inj ((show Tryd.prog.funcNamed "gatepost/gatepostlaw03.LineBack" = some 5 by kernel_rfl).symm.trans hf) |>.symm
  obtain rfl : fn = Tryd.f5 := (Option.some.inj (Tryd.func5.symm.trans hfn)).symm
  refine ⟨by kernel_rfl, fun j t ht => ?_⟩
  rw [Tryd.params5] at ht
  have hm := Array.mem_of_getElem? ht
  simp at hm
  rcases hm with rfl | rfl
  · exact (show Tryd.prog.wantsStandIn 9 = false by kernel_rfl)
  · exact (show Tryd.prog.wantsStandIn 33 = false by kernel_rfl)

theorem card : Rows.LineBackUptoCardSaid :=
  Claim7.holds_tied_plain_at .later [] _ _ _ _ said (fun _ h => by cases h) (by kernel_rfl) (fun _ h => by cases h) lineBackUpto_row_tie rfl ⟨rfl, rfl⟩ (by kernel_rfl) rfl plain (by kernel_rfl)
end Go.Proofs.YtldlhnppinodbaaDoor.lineBack
