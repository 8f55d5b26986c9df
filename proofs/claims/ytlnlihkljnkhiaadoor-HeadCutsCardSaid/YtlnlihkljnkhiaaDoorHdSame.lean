/-
  gatepostref05's SameRequest and SameResponse at two heads of the same parts and fields: true.
-/
import Derived.Test.YtlnlihkljnkhiaaDoorFdSame
import Derived.Test.YtlnlihkljnkhiaaDoorHdMath
namespace Go.Proofs.YtlnlihkljnkhiaaDoor.Hd
open Go.RowKit Go.Proofs.YtlnlihkljnkhiaaDoor.Tk Go.Proofs.YtlnlihkljnkhiaaDoor.Fd
set_option linter.unusedVariables false

set_option maxRecDepth 100000 in
set_option maxHeartbeats 2000000 in
theorem sameReq_any (H : Parts × List Fl × Nat) (v u : Value) (w : World) (hv : Flds w v H.2.1) (hu : Flds w u H.2.1) (hl : H.2.1.length ≤ 1099511627776) :
    Calls Tryd.prog 16 #[.agg #[.string H.1.a, .string H.1.b, .int .i64 H.1.m, v], .agg #[.string H.1.a, .string H.1.b, .int .i64 H.1.m, u]] w fun e w' => e = .returned (.bool true) ∧ Below w.heap.size w w' := by
  obtain ⟨q, fs, er⟩ := H
  have HV := Lib.hid hv
  have HU := Lib.hid hu
  obtain ⟨va, vc, hv1⟩ := hv.shape
  obtain ⟨ua, uc, hu1⟩ := hu.shape
  obtain ⟨x, hx⟩ : ∃ x, x = q.a := ⟨_, rfl⟩
  obtain ⟨y, hy⟩ : ∃ y, y = q.b := ⟨_, rfl⟩
  obtain ⟨m, hm⟩ : ∃ m, m = q.m := ⟨_, rfl⟩
  obtain ⟨c, hc⟩ : ∃ c, c = q.c := ⟨_, rfl⟩
  simp only [← hx, ← hy, ← hm]
  have e1 : (x.toList == x.toList) = true := by simp
  have e2 : (y.toList == y.toList) = true := by simp
  have e3 : (m == m) = true := by simp
  have e4 : (c == c) = true := by simp
  have HB := Lib.hid (fun (o1 o2 : Obj) => ((Below.refl w.heap.size w).alloc (Nat.le_refl _) o1).alloc (by simp) o2)
  have HN := Lib.hid (fun (o1 o2 : Obj) (n : Nat) => (show Below w.heap.size w (((w.alloc o1).alloc o2).drewN n) from ⟨(HB.out o1 o2).os, (HB.out o1 o2).tape, (HB.out o1 o2).output, (HB.out o1 o2).size, (HB.out o1 o2).block⟩))
  subst hv1 hu1
  clear hv hu hx hy hm hc
  go_enter Tryd.func16, Tryd.ntmps16
  go_wp2_with fail
  refine (sameL_any _ _ fs _ (HV.out.below (HB.out _ _) (Nat.le_refl _)) (HU.out.below (HB.out _ _) (Nat.le_refl _)) hl).mono ?_
  rintro e w' ⟨rfl, n, rfl⟩
  go_wp2_with fail
  go_ret
  exact ⟨rfl, HN.out _ _ _⟩
set_option maxRecDepth 100000 in
set_option maxHeartbeats 2000000 in
theorem sameRes_any (H : Parts × List Fl × Nat) (v u : Value) (w : World) (hv : Flds w v H.2.1) (hu : Flds w u H.2.1) (hl : H.2.1.length ≤ 1099511627776) :
    Calls Tryd.prog 17 #[.agg #[.int .i64 H.1.m, .int .i64 H.1.c, .string H.1.a, v], .agg #[.int .i64 H.1.m, .int .i64 H.1.c, .string H.1.a, u]] w fun e w' => e = .returned (.bool true) ∧ Below w.heap.size w w' := by
  obtain ⟨q, fs, er⟩ := H
  have HV := Lib.hid hv
  have HU := Lib.hid hu
  obtain ⟨va, vc, hv1⟩ := hv.shape
  obtain ⟨ua, uc, hu1⟩ := hu.shape
  obtain ⟨x, hx⟩ : ∃ x, x = q.a := ⟨_, rfl⟩
  obtain ⟨y, hy⟩ : ∃ y, y = q.b := ⟨_, rfl⟩
  obtain ⟨m, hm⟩ : ∃ m, m = q.m := ⟨_, rfl⟩
  obtain ⟨c, hc⟩ : ∃ c, c = q.c := ⟨_, rfl⟩
  simp only [← hx, ← hm, ← hc]
  have e1 : (x.toList == x.toList) = true := by simp
  have e2 : (y.toList == y.toList) = true := by simp
  have e3 : (m == m) = true := by simp
  have e4 : (c == c) = true := by simp
  have HB := Lib.hid (fun (o1 o2 : Obj) => ((Below.refl w.heap.size w).alloc (Nat.le_refl _) o1).alloc (by simp) o2)
  have HN := Lib.hid (fun (o1 o2 : Obj) (n : Nat) => (show Below w.heap.size w (((w.alloc o1).alloc o2).drewN n) from ⟨(HB.out o1 o2).os, (HB.out o1 o2).tape, (HB.out o1 o2).output, (HB.out o1 o2).size, (HB.out o1 o2).block⟩))
  subst hv1 hu1
  clear hv hu hx hy hm hc
  go_enter Tryd.func17, Tryd.ntmps17
  go_wp2_with fail
  refine (sameL_any _ _ fs _ (HV.out.below (HB.out _ _) (Nat.le_refl _)) (HU.out.below (HB.out _ _) (Nat.le_refl _)) hl).mono ?_
  rintro e w' ⟨rfl, n, rfl⟩
  go_wp2_with fail
  go_ret
  exact ⟨rfl, HN.out _ _ _⟩
end Go.Proofs.YtlnlihkljnkhiaaDoor.Hd
