/-
  RangesTells: RangesTells: any text, any range, any length: the program's answers are the reference's.
  Conditions: none.
-/
import Derived.Test.YthhnpdihgoiccaaRows
import Derived.Test.YthhnpdihgoiccaaRnRefPick
import Derived.Test.YthhnpdihgoiccaaRnOpen
import Derived.Test.YthhnpdihgoiccaaRnKp
import Derived.Deep.DeepCutAuto
import Derived.Deep.RegionHeld3
import Derived.WalkKit
import Derived.WalkLawsBesides
import Derived.ProofKit
import Derived.OpenShut
import Derived.ShutString
import Derived.SizedLaws
import Derived.Carry
import Derived.Below
import Derived.Outline
import Derived.Lib.Hide
namespace Go.Proofs.Ythhnpdihgoiccaa.rangesTells
open Go.ChangeShapes Go.WideShapes Go.ChangeAt Go.RowKit
open Go.ChangeMaps (open_string shut_string)
set_option linter.unusedVariables false

theorem own : ownKnob Try.prog.godebug = none := by kernel_rfl
theorem laidOut : laidOutB Try.prog = true := by kernel_rfl

open Go.Proofs.Ythhnpdihgoiccaa.Fd Go.Proofs.Ythhnpdihgoiccaa.Sn Go.Proofs.Ythhnpdihgoiccaa.Rn Go.Proofs.Ythhnpdihgoiccaa.Rm
theorem res_form (o : Option Rm.W) : ∃ qx qy b, resV o = .tuple #[.agg #[.int .i64 qx, .int .i64 qy], .bool b] := by
  cases o with
  | none => exact ⟨_, _, _, rfl⟩
  | some q => exact ⟨_, _, _, rfl⟩
theorem pick_form (q : Rm.W × Int) : ∃ qx qy n, pickV q = .tuple #[.agg #[.int .i64 qx, .int .i64 qy], .int .i64 n] := ⟨_, _, _, rfl⟩
theorem parse_one : parseR (⟨#[98, 121, 116, 101, 115, 61, 48, 45, 49]⟩ : ByteArray).data.toList = some [(0, 1)] := by decide +kernel
theorem pick_one : Rm.pick (⟨#[98, 121, 116, 101, 115, 61, 48, 45, 49]⟩ : ByteArray).data.toList 10 = ((0, 2), 1) := by decide +kernel
set_option maxRecDepth 100000 in
set_option maxHeartbeats 16000000 in
theorem walk (s : ByteArray) (hs : s.size ≤ reachBytes) (x y : Int) (long : Int) (wz : (Lit.int .i64 long).wf = true) (w : World) :
    Calls Try.prog 3 #[.string s, .agg #[.int .i64 x, .int .i64 y], .int .i64 long] w fun e w' => e = .returned (.bool true) ∧ Below w.heap.size w w' := by
  have hb0 := (Below.refl w.heap.size w).alloc (Nat.le_refl _) (.cells #[.int .i64 x, .int .i64 y] 23)
  have hk0 := new_block w (.cells #[.int .i64 x, .int .i64 y] 23)
  clear wz hs
  by_cases h1000 : 1000 < s.size
  · go_enter Try.func3, Try.ntmps3
    go_wp2_with fail
    go_ret
    exact ⟨rfl, hb0⟩
  · have hz : s.size ≤ 1073741824 := by omega
    have HSZ := Lib.hid hz
    have h1000 : (s.size : Int) ≤ 1000 := by omega
    go_enter Try.func3, Try.ntmps3
    go_wp2_with fail
    refine (parse_any s _ HSZ.out).mono ?_
    rintro e w1 ⟨v1, rfl, hv1, hb1⟩
    have hk1 := Bl.old hb1 (block_lt hk0) hk0
    have hB1 := Bl.next hb0 hb1
    clear hb1 hk0 hb0
    obtain ⟨a1, c1, rfl⟩ := hv1.shape
    go_wp2_with fail
    refine (refParse_any s _ HSZ.out).mono ?_
    rintro e w2 ⟨v2, rfl, hv2, hb2⟩
    have hk2 := Bl.old hb2 (block_lt hk1) hk1
    have hB2 := Bl.next hB1 hb2
    have hv1 := hv1.next hb2
    clear hb2 hk1 hB1
    obtain ⟨a2, c2, rfl⟩ := hv2.shape
    have hlen : ((parseR s.data.toList).getD []).length ≤ 32 := by
      cases h : parseR s.data.toList with
      | none => simp
      | some L => exact parse_len h
    generalize (parseR s.data.toList).getD [] = L at hv1 hv2 hlen ⊢
    generalize (parseR s.data.toList).isSome = ok
    have H1 := Lib.hid hv1
    have H2 := Lib.hid hv2
    have HK := Lib.hid hk2
    have HB := Lib.hid hB2
    clear hv1 hv2 hk2 hB2
    have i32 : (L.length : Int) ≤ 32 := by omega
    go_wp2_with fail
    go_loopw [11] (fun v wr => ∃ k : Nat, k ≤ L.length ∧ v = .int .i64 (k : Int) ∧ Below w2.heap.size w2 wr) (fun v _ => L.length - (intOf v).toNat)
    case atStart => exact ⟨0, Nat.zero_le _, rfl, Below.refl _ _⟩
    case round =>
      obtain ⟨k, hk, rfl, hbw⟩ := hrel
      replace H1 := Lib.hid (H1.out.next hbw)
      replace H2 := Lib.hid (H2.out.next hbw)
      replace HK := Lib.hid (Bl.old hbw (block_lt HK.out) HK.out)
      replace HB := Lib.hid (Bl.next HB.out hbw)
      have HW := Lib.hid hbw
      clear hbw
      by_cases hlt : k < L.length
      · obtain ⟨b1, o1, rfl, p0, p1⟩ : ∃ b off, a1 = some ⟨b, off, none⟩ ∧ wr.cell? ⟨b, off + k * 2, none⟩ = some (.int .i64 L[k].1) ∧ wr.cell? ⟨b, off + k * 2 + 1, none⟩ = some (.int .i64 L[k].2) := by
          rcases H1.out with ⟨h, _⟩ | ⟨b, off, cap', he, _, _, hb, hs⟩
          · rw [h] at hlt; simp at hlt
          · injection he with e1 e2 e3
            exact ⟨b, off, e1, (hs k hlt).1, (hs k hlt).2⟩
        obtain ⟨b2, o2, rfl, q0, q1⟩ : ∃ b off, a2 = some ⟨b, off, none⟩ ∧ wr.cell? ⟨b, off + k * 2, none⟩ = some (.int .i64 L[k].1) ∧ wr.cell? ⟨b, off + k * 2 + 1, none⟩ = some (.int .i64 L[k].2) := by
          rcases H2.out with ⟨h, _⟩ | ⟨b, off, cap', he, _, _, hb, hs⟩
          · rw [h] at hlt; simp at hlt
          · injection he with e1 e2 e3
            exact ⟨b, off, e1, (hs k hlt).1, (hs k hlt).2⟩
        generalize L[k].1 = px at p0 q0
        generalize L[k].2 = py at p1 q1
        go_upto_region 10 with fail
        go_quiet (fail)
        go_wp2_with fail
        go_roundw
        case rel => exact ⟨k + 1, by omega, by go_num, Bl.drewN HW.out _⟩
        case measure => simp [intOf]; omega
      · clear H1 H2
        have HKp := Lib.hid (show Kp w [(w.heap.size, (x, y), 23)] wr from ⟨HB.out, fun p hp => by rcases List.mem_cons.1 hp with rfl | hp <;> first | exact HK.out | cases hp⟩)
        have c0 := two0 HK.out
        have c1 := two1 HK.out
        clear HK HB
        obtain ⟨ax, ay, ab, hR⟩ := res_form (Rm.resolve (x, y) long)
        obtain ⟨ex, ey, en, hP⟩ := pick_form (Rm.pick s.data.toList long)
        have H1 := Lib.hid (show ∀ V : World, Calls Try.prog 8 #[.agg #[.int .i64 x, .int .i64 y], .int .i64 long] V fun e w' => e = .returned (.tuple #[.agg #[.int .i64 ax, .int .i64 ay], .bool ab]) ∧ Below V.heap.size V w' from fun V => by rw [← hR]; exact resolve_any x y long V)
        have H2 := Lib.hid (show ∀ V : World, Calls Try.prog 9 #[.agg #[.int .i64 x, .int .i64 y], .int .i64 long] V fun e w' => e = .returned (.tuple #[.agg #[.int .i64 ax, .int .i64 ay], .bool ab]) ∧ Below V.heap.size V w' from fun V => by rw [← hR]; exact refResolve_any x y long V)
        have H3 := Lib.hid (show ∀ V : World, Calls Try.prog 10 #[.string s, .int .i64 long] V fun e w' => e = .returned (.tuple #[.agg #[.int .i64 ex, .int .i64 ey], .int .i64 en]) ∧ Below V.heap.size V w' from fun V => by rw [← hP]; exact pick_any s long V hz)
        have H4 := Lib.hid (show ∀ V : World, Calls Try.prog 11 #[.string s, .int .i64 long] V fun e w' => e = .returned (.tuple #[.agg #[.int .i64 ex, .int .i64 ey], .int .i64 en]) ∧ Below V.heap.size V w' from fun V => by rw [← hP]; exact refPick_any s long V hz)
        have H5 := Lib.hid (show ∀ V : World, Calls Try.prog 10 #[.string ⟨#[98, 121, 116, 101, 115, 61, 48, 45, 49]⟩, .int .i64 10] V fun e w' => e = .returned (.tuple #[.agg #[.int .i64 0, .int .i64 2], .int .i64 1]) ∧ Below V.heap.size V w' from fun V => by
          have h := pick_any ⟨#[98, 121, 116, 101, 115, 61, 48, 45, 49]⟩ 10 V (by decide)
          rw [pick_one] at h
          exact h)
        clear hR hP
        go_wp2_with fail
        refine (H1.out _).mono ?_
        rintro e w3 ⟨rfl, hb⟩
        have K3 := Lib.hid (HKp.out.more hb)
        have c0 := K3.out.c0 (g := w.heap.size) (x := x) (y := y) (t := 23) (by simp)
        have c1 := K3.out.c1 (g := w.heap.size) (x := x) (y := y) (t := 23) (by simp)
        have K4 := Lib.hid (K3.out.new ax ay 31)
        have d0 := K4.out.c0 (g := w.heap.size) (x := x) (y := y) (t := 23) (by simp)
        have d1 := K4.out.c1 (g := w.heap.size) (x := x) (y := y) (t := 23) (by simp)
        clear hb HKp
        go_wp2_with fail
        refine (H2.out _).mono ?_
        rintro e w4 ⟨rfl, hb⟩
        have K5 := Lib.hid ((K4.out.more hb).new ax ay 31)
        clear hb K3 K4 c0 c1 d0 d1
        go_wp2_with fail
        refine (H3.out _).mono ?_
        rintro e w5 ⟨rfl, hb⟩
        have K6 := Lib.hid ((K5.out.more hb).new ex ey 31)
        clear hb K5
        go_wp2_with fail
        refine (H4.out _).mono ?_
        rintro e w6 ⟨rfl, hb⟩
        have K7 := Lib.hid ((K6.out.more hb).new ex ey 31)
        clear hb K6
        go_wp2_with fail
        refine (H5.out _).mono ?_
        rintro e w7 ⟨rfl, hb⟩
        have K8 := Lib.hid ((K7.out.more hb).new 0 2 31)
        clear hb K7
        have a0 := K8.out.c0 (g := w3.heap.size) (x := ax) (y := ay) (t := 31) (by simp)
        have a1 := K8.out.c1 (g := w3.heap.size) (x := ax) (y := ay) (t := 31) (by simp)
        have b0 := K8.out.c0 (g := w4.heap.size) (x := ax) (y := ay) (t := 31) (by simp)
        have b1 := K8.out.c1 (g := w4.heap.size) (x := ax) (y := ay) (t := 31) (by simp)
        have e0 := K8.out.c0 (g := w5.heap.size) (x := ex) (y := ey) (t := 31) (by simp)
        have e1 := K8.out.c1 (g := w5.heap.size) (x := ex) (y := ey) (t := 31) (by simp)
        have f0 := K8.out.c0 (g := w6.heap.size) (x := ex) (y := ey) (t := 31) (by simp)
        have f1 := K8.out.c1 (g := w6.heap.size) (x := ex) (y := ey) (t := 31) (by simp)
        go_wp2_with fail
        go_ret
        exact ⟨by simp, K8.out.bel⟩

set_option maxRecDepth 100000 in
theorem lifted (os : Os) (started : os.Started) (H : Type) (enc : TypeId × Value → H) :
    ReturnsInHanded {} Try.checked os 3 .any (Rows.rangesTellsSpec.pre6 enc Try.prog Try.f3 Rows.rangesTellsRow.domain false) (Rows.rangesTellsSpec.post enc Try.prog Try.f3 false true false false) := by
  refine returnsInHanded_of_change_sized (C := Try.checked) own started (by kernel_rfl) Try.func3
    (ChangeSpec.witness6 (enc := enc) (C := Try.checked) false ⟨#[], #[.string ByteArray.empty, .agg #[.int .i64 0, .int .i64 0], .int .i64 0], []⟩ 8 (by kernel_rfl) (by kernel_rfl) (by kernel_rfl) (by kernel_rfl)) ?_
  intro W base args ds gs before hval0 hW hcnd hsz _
  have hval : ∀ (j : Nat) t v, Try.f3.params[j]? = some t → args[j]? = some v → Value.okWide Try.prog W .any base t v := hval0
  have hW' := hW
  obtain ⟨p, q, hA0, hV, rfl, hfz, hnd⟩ := hW
  have hA : DataW.TrodAll enc Try.prog W 0 (fun _ => true) true Try.f3.params.toList args.toList ds p := hA0
  rw [Try.params3] at hA hval hsz
  obtain ⟨v0, vs0, d0, ds0, p0, q0, hargs, rfl, rfl, h0, r0⟩ := trodAll_cons hA
  obtain ⟨v1, vs1, d1, ds1, p1, q1, rfl, rfl, rfl, h1, r1⟩ := trodAll_cons r0
  obtain ⟨v2, vs2, d2, ds2, p2, q2, rfl, rfl, rfl, h2, r2⟩ := trodAll_cons r1
  obtain ⟨rfl, rfl, rfl⟩ := trodAll_nil r2
  have hw0 : ∀ n ∈ d0.weights Try.prog 9, n ≤ reachBytes := fun n hn => by simpa using List.all_eq_true.1 hsz n (DataW.weights_mem_each (j := 0) (t := 9) (d := d0) rfl rfl _ hn)
  obtain rfl : args = #[v0, v1, v2] := by cases args; simp_all
  obtain ⟨rfl, rfl⟩ := trodVars_none hV
  obtain ⟨a0, rfl, rfl, rfl, w0⟩ := open_string Try.underlying9 (hval 0 9 v0 rfl rfl) h0
  have s0 : a0.size ≤ reachBytes := by simpa [DataW.weights] using hw0
  have k1 := h1
  have lt1 : ∀ x ∈ p1, x.block < W.heap.size := by obtain ⟨m, hm⟩ := k1; exact DataW.trod_lt m _ _ _ hm
  obtain ⟨⟨x1, y1⟩, rfl⟩ := Rn.open_want (hval 1 23 v1 rfl rfl) h1
  obtain ⟨a2, rfl, rfl, rfl, w2⟩ := open_int Try.underlying3 (hval 2 3 v2 rfl rfl) h2
  clear hA0 hval0
  simp only [List.append_nil] at hW'
  refine (walk a0 s0 x1 y1 a2 w2 W).mono fun e W' ⟨he, bel⟩ => ?_
  subst he
  exact ⟨_, rfl, _, _, _, [], _, [], hW', trodAll_mk1 (shut_bool Try.underlying4 _), (trodAll_cons_mk (shut_string Try.underlying9 w0) (trodAll_cons_mk (Below.trod laidOut (by kernel_rfl) (of_decide_eq_true (by kernel_rfl)) k1 bel lt1) (trodAll_cons_mk (shut_int Try.underlying3 w2) trodAll_mk0))), rfl, bel.frame _, fun h => by cases h⟩

theorem over : Rows.rangesTellsRow.holds Try.pinned (OpenSpec.ofChange Rows.rangesTellsSpec) :=
  OpenClaim.holds_of_wide 3 Try.f3 rfl rfl rfl rfl rfl rfl rfl ⟨rfl, rfl, rfl, rfl, rfl⟩ rfl rfl rfl rfl rfl (by kernel_rfl) Try.func3 (by kernel_rfl)
    (of_decide_eq_true (by kernel_rfl)) (by unfold Func.isWrapper; first | (rw [if_pos (by decide +kernel)]; kernel_rfl) | (rw [if_neg (by decide +kernel)]; exact ⟨rfl, rfl⟩))
    (fun os started H enc _ => lifted os started H enc)

theorem proved : Rows.RangesTellsSaid := over
end Go.Proofs.Ythhnpdihgoiccaa.rangesTells
