/-
  SpanKeeps: for every list of spans, every span and every place the call returns true.
  Conditions: none.
-/
import Derived.Test.YtifceaffglomaaaRows
import Derived.Test.YtifceaffglomaaaSpGot
import Derived.Test.YtifceaffglomaaaSpOpen
import Derived.Deep.DeepCutAuto
import Derived.WalkKit
import Derived.WalkLawsBesides
import Derived.ProofKit
import Derived.OpenShut
import Derived.ShutString
import Derived.SizedLaws
import Derived.Carry
import Derived.Below
import Derived.Outline
import Derived.Lib.Hide
namespace Go.Proofs.Ytifceaffglomaaa.spanKeeps
open Go.ChangeShapes Go.WideShapes Go.ChangeAt Go.RowKit
open Go.ChangeMaps (open_string shut_string)
set_option linter.unusedVariables false

theorem own : ownKnob Try.prog.godebug = none := by kernel_rfl
theorem laidOut : laidOutB Try.prog = true := by kernel_rfl

open Go.Proofs.Ytifceaffglomaaa.Fd Go.Proofs.Ytifceaffglomaaa.Sn
set_option maxRecDepth 100000 in
set_option maxHeartbeats 16000000 in
theorem walk (v0 : Value) (l : List Sp) (x y : Int) (z : Int) (wz : (Lit.int .i64 z).wf = true) (w : World) (f0 : Spans w v0 l) (l0 : l.length ≤ 9223372036854775807) :
    Calls Try.prog 6 #[v0, .agg #[.int .i64 x, .int .i64 y], .int .i64 z] w fun e w' => e = .returned (.bool true) ∧ Below w.heap.size w w' := by
  obtain ⟨va, vc, rfl⟩ := f0.shape
  have G := Lib.hid (((Got.start (w := w)).add f0).new x y)
  have HL := Lib.hid l0
  clear f0 l0 wz
  go_enter Try.func6, Try.ntmps6
  have G1 := Lib.hid (G.out.lit 5 6)
  go_wp2_with fail
  refine (remove_any _ [(5, 6)] 5 6 _ (G1.out.sp (by simp)) (by decide)).mono ?_
  rintro e w1 ⟨v1, rfl, h1, hb⟩
  rw [rem56.2] at h1
  rw [rem56.1]
  obtain ⟨a1, c1, rfl⟩ := h1.shape
  have G2 := Lib.hid ((G.out.more ((Below.refl _ _).alloc (Nat.le_refl _) (.cells #[.int .i64 5, .int .i64 6] 24))).more hb)
  have G3 := Lib.hid (G2.out.lit 5 6)
  clear hb h1 G1 G
  go_wp2_with fail
  refine (size_any _ [(5, 6)] _ (G3.out.sp (by simp)) (by decide)).mono ?_
  rintro e w2 ⟨rfl, hb⟩
  rw [size56]
  have G := Lib.hid ((G2.out.more ((Below.refl _ _).alloc (Nat.le_refl _) (.cells #[.int .i64 5, .int .i64 6] 24))).more hb)
  clear hb G2 G3
  have c0 := G.out.c0 (g := w.heap.size) (x := x) (y := y) (by simp)
  have c1' := G.out.c1 (g := w.heap.size) (x := x) (y := y) (by simp)
  have HOW := Lib.hid (show ∀ b : Bool, (x ≤ z ∧ z < y ↔ b = true) → b = Sn.own (x, y) z from fun b hb => by rw [Bool.eq_iff_iff, own_iff]; exact hb.symm)
  go_upto_region 4 with fail
  go_cut [9] (fun s9 wx => s9 = .bool (Sn.own (x, y) z) ∧ w2 = wx)
  case first =>
    by_cases h1 : x ≤ z
    · by_cases h2 : z < y
      · have HE := Lib.hid (HOW.out true ⟨fun _ => rfl, fun _ => ⟨h1, h2⟩⟩)
        go_wp2_with fail
        go_meet
        exact ⟨by rw [← HE.out], rfl⟩
      · have HE := Lib.hid (HOW.out false ⟨fun h => absurd h.2 h2, fun h => by cases h⟩)
        go_wp2_with fail
        go_meet
        exact ⟨by rw [← HE.out], rfl⟩
    · have HE := Lib.hid (HOW.out false ⟨fun h => absurd h.1 h1, fun h => by cases h⟩)
      go_wp2_with fail
      go_meet
      exact ⟨by rw [← HE.out], rfl⟩
  case rest =>
    obtain ⟨rfl, rfl⟩ := hcut
    cases hm : memB l z <;> cases hw : Sn.own (x, y) z
    all_goals
      have HM := Lib.hid hm
      have HW := Lib.hid hw
      clear hm hw
      go_wp2_with fail
      refine (add_any _ l x y _ (G.out.sp (by simp)) HL.out).mono ?_
      rintro e w3 ⟨v3, rfl, h3, hb⟩
      rcases err_ways (okB l (x, y)) (addOf l (x, y)) with ⟨he, hok, hn, ht⟩ | ⟨he, ht⟩
      · rw [he]
        rw [ht] at h3
        obtain ⟨k1, k2, k3⟩ := add_keeps hok hn
        have K1 := Lib.hid k1
        have K2 := Lib.hid k2
        have K3 := Lib.hid (k3 z)
        obtain ⟨a3, c3, rfl⟩ := h3.shape
        have G3 := Lib.hid ((G.out.more hb).add h3)
        have hbd : (addOf l (x, y)).length ≤ 9223372036854775807 := by omega
        clear he ht k1 k2 k3 hb h3 hok c0 c1' hn
        go_wp2_with fail
        refine (valid_any _ (addOf l (x, y)) _ (G3.out.sp (by simp)) hbd).mono ?_
        rintro e w4 ⟨rfl, hb⟩
        rw [K1.out]
        have G4 := Lib.hid (G3.out.more hb)
        have c0 := G4.out.c0 (g := w.heap.size) (x := x) (y := y) (by simp)
        have c1' := G4.out.c1 (g := w.heap.size) (x := x) (y := y) (by simp)
        clear hb G3
        go_wp2_with fail
        refine (has_any _ (addOf l (x, y)) x y _ (G4.out.sp (by simp)) hbd).mono ?_
        rintro e w5 ⟨rfl, hb⟩
        rw [K2.out]
        have G5 := Lib.hid (G4.out.more hb)
        clear hb G4 c0 c1'
        have c0 := G5.out.c0 (g := w.heap.size) (x := x) (y := y) (by simp)
        have c1' := G5.out.c1 (g := w.heap.size) (x := x) (y := y) (by simp)
        go_wp2_with fail
        refine (inside_any _ (addOf l (x, y)) z _ (G5.out.sp (by simp)) hbd).mono ?_
        rintro e w6 ⟨rfl, rfl⟩
        rw [K3.out, HM.out, HW.out]
        go_wp2_with fail
        refine (inside_any _ l z _ (G5.out.sp (by simp)) HL.out).mono ?_
        rintro e w6 ⟨rfl, rfl⟩
        rw [HM.out]
        clear K1 K2 K3 hbd
        go_wp2_with fail
        refine (remove_any _ l x y _ (G5.out.sp (by simp)) HL.out).mono ?_
        rintro e w6 ⟨v6, rfl, h6, hb⟩
        rcases err_ways (okB l (x, y)) (remOf l (x, y)) with ⟨he, hok, hn, ht⟩ | ⟨he, ht⟩
        · rw [he]
          rw [ht] at h6
          obtain ⟨k1, k2, k3⟩ := rem_keeps hok hn
          have K1 := Lib.hid k1
          have K2 := Lib.hid k2
          have K3 := Lib.hid (k3 z)
          obtain ⟨a6, c6, rfl⟩ := h6.shape
          have G6 := Lib.hid ((G5.out.more hb).add h6)
          have hbd : (remOf l (x, y)).length ≤ 9223372036854775807 := by omega
          clear he ht k1 k2 k3 hb h6 hok c0 c1' hn
          go_wp2_with fail
          refine (valid_any _ (remOf l (x, y)) _ (G6.out.sp (by simp)) hbd).mono ?_
          rintro e w7 ⟨rfl, hb⟩
          rw [K1.out]
          have G7 := Lib.hid (G6.out.more hb)
          have c0 := G7.out.c0 (g := w.heap.size) (x := x) (y := y) (by simp)
          have c1' := G7.out.c1 (g := w.heap.size) (x := x) (y := y) (by simp)
          clear hb G6
          go_wp2_with fail
          refine (cut_any _ (remOf l (x, y)) x y _ (G7.out.sp (by simp)) hbd).mono ?_
          rintro e w8 ⟨v8, rfl, h8, hb⟩
          rw [K2.out] at h8
          obtain ⟨a8, c8, rfl⟩ := h8.shape
          have G8 := Lib.hid (G7.out.more hb)
          clear hb h8 c0 c1' G7
          go_wp2_with fail
          refine (inside_any _ (remOf l (x, y)) z _ (G8.out.sp (by simp)) hbd).mono ?_
          rintro e w9 ⟨rfl, rfl⟩
          rw [K3.out, HM.out, HW.out]
          go_wp2_with fail
          refine (inside_any _ l z _ (G8.out.sp (by simp)) HL.out).mono ?_
          rintro e w9 ⟨rfl, rfl⟩
          rw [HM.out]
          go_wp2_with fail
          go_ret
          exact ⟨rfl, G8.out.bel⟩
        · have hz : errOf (okB l (x, y)) (remOf l (x, y)) ≠ 0 := by rcases he with ⟨h, _⟩ | ⟨h, _⟩ <;> rw [h] <;> decide
          generalize errOf (okB l (x, y)) (remOf l (x, y)) = n at hz
          have hzb : (n == 0) = false := by rw [beq_eq_false_iff_ne]; exact hz
          have G6 := Lib.hid (G5.out.more hb)
          clear he ht hb h6
          go_wp2_with fail
          go_ret
          exact ⟨rfl, G6.out.bel⟩
      · have hz : errOf (okB l (x, y)) (addOf l (x, y)) ≠ 0 := by rcases he with ⟨h, _⟩ | ⟨h, _⟩ <;> rw [h] <;> decide
        generalize errOf (okB l (x, y)) (addOf l (x, y)) = n at hz
        have hzb : (n == 0) = false := by rw [beq_eq_false_iff_ne]; exact hz
        have G5 := Lib.hid (G.out.more hb)
        clear c0 c1'
        have c0 := G5.out.c0 (g := w.heap.size) (x := x) (y := y) (by simp)
        have c1' := G5.out.c1 (g := w.heap.size) (x := x) (y := y) (by simp)
        clear he ht hb h3 G
        go_wp2_with fail
        refine (remove_any _ l x y _ (G5.out.sp (by simp)) HL.out).mono ?_
        rintro e w6 ⟨v6, rfl, h6, hb⟩
        rcases err_ways (okB l (x, y)) (remOf l (x, y)) with ⟨he, hok, hn, ht⟩ | ⟨he, ht⟩
        · rw [he]
          rw [ht] at h6
          obtain ⟨k1, k2, k3⟩ := rem_keeps hok hn
          have K1 := Lib.hid k1
          have K2 := Lib.hid k2
          have K3 := Lib.hid (k3 z)
          obtain ⟨a6, c6, rfl⟩ := h6.shape
          have G6 := Lib.hid ((G5.out.more hb).add h6)
          have hbd : (remOf l (x, y)).length ≤ 9223372036854775807 := by omega
          clear he ht k1 k2 k3 hb h6 hok c0 c1' hn
          go_wp2_with fail
          refine (valid_any _ (remOf l (x, y)) _ (G6.out.sp (by simp)) hbd).mono ?_
          rintro e w7 ⟨rfl, hb⟩
          rw [K1.out]
          have G7 := Lib.hid (G6.out.more hb)
          have c0 := G7.out.c0 (g := w.heap.size) (x := x) (y := y) (by simp)
          have c1' := G7.out.c1 (g := w.heap.size) (x := x) (y := y) (by simp)
          clear hb G6
          go_wp2_with fail
          refine (cut_any _ (remOf l (x, y)) x y _ (G7.out.sp (by simp)) hbd).mono ?_
          rintro e w8 ⟨v8, rfl, h8, hb⟩
          rw [K2.out] at h8
          obtain ⟨a8, c8, rfl⟩ := h8.shape
          have G8 := Lib.hid (G7.out.more hb)
          clear hb h8 c0 c1' G7
          go_wp2_with fail
          refine (inside_any _ (remOf l (x, y)) z _ (G8.out.sp (by simp)) hbd).mono ?_
          rintro e w9 ⟨rfl, rfl⟩
          rw [K3.out, HM.out, HW.out]
          go_wp2_with fail
          refine (inside_any _ l z _ (G8.out.sp (by simp)) HL.out).mono ?_
          rintro e w9 ⟨rfl, rfl⟩
          rw [HM.out]
          go_wp2_with fail
          go_ret
          exact ⟨rfl, G8.out.bel⟩
        · have hz : errOf (okB l (x, y)) (remOf l (x, y)) ≠ 0 := by rcases he with ⟨h, _⟩ | ⟨h, _⟩ <;> rw [h] <;> decide
          generalize errOf (okB l (x, y)) (remOf l (x, y)) = n at hz
          have hzb : (n == 0) = false := by rw [beq_eq_false_iff_ne]; exact hz
          have G6 := Lib.hid (G5.out.more hb)
          clear he ht hb h6
          go_wp2_with fail
          go_ret
          exact ⟨rfl, G6.out.bel⟩

set_option maxRecDepth 100000 in
theorem lifted (os : Os) (started : os.Started) (H : Type) (enc : TypeId × Value → H) :
    ReturnsInHanded {} Try.checked os 6 .any (Rows.spanKeepsSpec.pre6 enc Try.prog Try.f6 Rows.spanKeepsRow.domain false) (Rows.spanKeepsSpec.post enc Try.prog Try.f6 false true false false) := by
  refine returnsInHanded_of_change_sized (C := Try.checked) own started (by kernel_rfl) Try.func6
    (ChangeSpec.witness6 (enc := enc) (C := Try.checked) false ⟨#[], #[.slice none 0 0, .agg #[.int .i64 0, .int .i64 0], .int .i64 0], []⟩ 8 (by kernel_rfl) (by kernel_rfl) (by kernel_rfl) (by kernel_rfl)) ?_
  intro W base args ds gs before hval0 hW hcnd hsz _
  have hval : ∀ (j : Nat) t v, Try.f6.params[j]? = some t → args[j]? = some v → Value.okWide Try.prog W .any base t v := hval0
  have hW' := hW
  obtain ⟨p, q, hA0, hV, rfl, hfz, hnd⟩ := hW
  have hA : DataW.TrodAll enc Try.prog W 0 (fun _ => true) true Try.f6.params.toList args.toList ds p := hA0
  rw [Try.params6] at hA hval hsz
  obtain ⟨v0, vs0, d0, ds0, p0, q0, hargs, rfl, rfl, h0, r0⟩ := trodAll_cons hA
  obtain ⟨v1, vs1, d1, ds1, p1, q1, rfl, rfl, rfl, h1, r1⟩ := trodAll_cons r0
  obtain ⟨v2, vs2, d2, ds2, p2, q2, rfl, rfl, rfl, h2, r2⟩ := trodAll_cons r1
  obtain ⟨rfl, rfl, rfl⟩ := trodAll_nil r2
  obtain rfl : args = #[v0, v1, v2] := by cases args; simp_all
  obtain ⟨rfl, rfl⟩ := trodVars_none hV
  have k0 := h0
  have lt0 : ∀ x ∈ p0, x.block < W.heap.size := by obtain ⟨m, hm⟩ := k0; exact DataW.trod_lt m _ _ _ hm
  obtain ⟨ls0, f0, l0⟩ := Sn.open_spans (hval 0 22 v0 rfl rfl) h0
  have k1 := h1
  have lt1 : ∀ x ∈ p1, x.block < W.heap.size := by obtain ⟨m, hm⟩ := k1; exact DataW.trod_lt m _ _ _ hm
  obtain ⟨⟨x1, y1⟩, rfl⟩ := Sn.open_span (hval 1 24 v1 rfl rfl) h1
  obtain ⟨a2, rfl, rfl, rfl, w2⟩ := open_int Try.underlying3 (hval 2 3 v2 rfl rfl) h2
  clear hA0 hval0
  simp only [List.append_nil] at hW'
  refine (walk v0 ls0 x1 y1 a2 w2 W f0 l0).mono fun e W' ⟨he, bel⟩ => ?_
  subst he
  exact ⟨_, rfl, _, _, _, [], _, [], hW', trodAll_mk1 (shut_bool Try.underlying4 _), (trodAll_cons_mk (Below.trod laidOut (by kernel_rfl) (of_decide_eq_true (by kernel_rfl)) k0 bel lt0) (trodAll_cons_mk (Below.trod laidOut (by kernel_rfl) (of_decide_eq_true (by kernel_rfl)) k1 bel lt1) (trodAll_cons_mk (shut_int Try.underlying3 w2) trodAll_mk0))), rfl, bel.frame _, fun h => by cases h⟩

theorem over : Rows.spanKeepsRow.holds Try.pinned (OpenSpec.ofChange Rows.spanKeepsSpec) :=
  OpenClaim.holds_of_wide 6 Try.f6 rfl rfl rfl rfl rfl rfl rfl ⟨rfl, rfl, rfl, rfl, rfl⟩ rfl rfl rfl rfl rfl (by kernel_rfl) Try.func6 (by kernel_rfl)
    (of_decide_eq_true (by kernel_rfl)) (by unfold Func.isWrapper; first | (rw [if_pos (by decide +kernel)]; kernel_rfl) | (rw [if_neg (by decide +kernel)]; exact ⟨rfl, rfl⟩))
    (fun os started H enc _ => lifted os started H enc)

theorem proved : Rows.SpanKeepsSaid := over
end Go.Proofs.Ytifceaffglomaaa.spanKeeps
