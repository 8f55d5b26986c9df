/-
  FreshAsks: what a request asks for makes a response no fresher, but by max-stale; max-age=0 and no-cache ask for it anew.
  Conditions: the listed tables hold what the program's text lays (the card ties them).
-/
import Derived.Deep.DeepCutAuto
import Derived.Deep.RegionWith
import Derived.Test.YtbignmccpbccoaaDoorTabs
import Derived.Test.YtbignmccpbccoaaDoorApMeta
import Derived.SizedLaws
import Derived.Carry
import Derived.Test.YtbignmccpbccoaaDoorFhLaw
import Derived.WideKeyPair
namespace Go.Proofs.YtbignmccpbccoaaDoor.freshAsks
open Go.ChangeShapes Go.WideShapes Go.ChangeAt Go.RowKit
open Go.ChangeMaps (open_string shut_string)
set_option linter.unusedVariables false

open Go.Proofs.YtbignmccpbccoaaDoor.Fd Go.Proofs.YtbignmccpbccoaaDoor.Ct Go.Proofs.YtbignmccpbccoaaDoor.Fh
set_option maxRecDepth 100000 in
set_option maxHeartbeats 16000000 in
theorem walk (m : Mta) (ok0 : MetOk m) (r : Con) (ok1 : ConOk r) (now : Int) (w2 : (Lit.int .i64 now).wf = true) (w : World) (hC : Fh.Codes w) :
    Calls Tryd.prog 5 #[.agg (mcells m), .agg (cells r), .int .i64 now] w fun e w' => e = .returned (.bool true) ∧ Below w.heap.size w w' := by
  have HC := Lib.hid hC
  have hg := hC.lt
  obtain ⟨cs, hcs⟩ : ∃ cs : Con, cs = { r with ms := -1 } := ⟨_, rfl⟩
  obtain ⟨cn, hcn⟩ : ∃ cn : Con, cn = { cplain with nc := true } := ⟨_, rfl⟩
  obtain ⟨cz, hcz⟩ : ∃ cz : Con, cz = { cplain with ag := 0 } := ⟨_, rfl⟩
  obtain ⟨ca, hca⟩ : ∃ ca : Con, ca = { cplain with ms := 2147483648 } := ⟨_, rfl⟩
  have s1 : (cells r).setIfInBounds 12 (.int .i64 (-1)) = cells cs := by rw [hcs]; rfl
  have q12 : (cells r)[12]? = some (.int .i64 r.ms) := rfl
  have q1 : (cells cplain)[1]? = some (.bool false) := rfl
  have q7 : (cells cplain)[7]? = some (.int .i64 (-1)) := rfl
  have q13 : (cells cplain)[12]? = some (.int .i64 (-1)) := rfl
  have s2 : (cells cplain).setIfInBounds 1 (.bool true) = cells cn := by rw [hcn]; rfl
  have s3 : (cells cplain).setIfInBounds 7 (.int .i64 0) = cells cz := by rw [hcz]; rfl
  have s4 : (cells cplain).setIfInBounds 12 (.int .i64 2147483648) = cells ca := by rw [hca]; rfl
  have bA := ageOf_bd m now
  have bL := lifeOf_bd m
  obtain ⟨A, hA⟩ : ∃ A, ageOf m now = A := ⟨_, rfl⟩
  obtain ⟨xa, hxa⟩ : ∃ x, stateOf m cplain now = x := ⟨_, rfl⟩
  obtain ⟨xb, hxb⟩ : ∃ x, stateOf m cs now = x := ⟨_, rfl⟩
  obtain ⟨xd, hxd⟩ : ∃ x, stateOf m cz now = x := ⟨_, rfl⟩
  obtain ⟨xe, hxe⟩ : ∃ x, stateOf m ca now = x := ⟨_, rfl⟩
  have f1 : xa ≤ xb := by rw [← hxa, ← hxb]; exact state_strict plain_is (by rw [hcs]) _ _
  have f2 : stateOf m cn now = 2 := state_none (by rw [hcn]) _ _
  have f3 : xd = 2 ∨ A = 0 := by rw [← hxd, ← hA]; exact state_zero (by rw [hcz]) _ _ bA.1
  have f4 : xe = 0 ∨ xe = 2 := by rw [← hxe]; exact state_any (by rw [hca]; rfl) (by rw [hca]; rfl) (by rw [hca]; rfl) (by rw [hca]; rfl) _ _ bA.2 bL.1
  have d1 : decide (xb < xa) = false := by simp; omega
  have F3 := Lib.hid f3
  have F4 := Lib.hid f4
  have HA := Lib.hid hA
  have HXA := Lib.hid hxa
  have HXB := Lib.hid hxb
  have HXN := Lib.hid f2
  have HXD := Lib.hid hxd
  have HXE := Lib.hid hxe
  obtain ⟨Z, N, hZ⟩ := size_met
  have z1 := hZ.is
  have z2 := hZ.run
  have HN := Lib.hid hZ.num
  obtain ⟨Z', M, hZ'⟩ := size_con
  have y1 := hZ'.is
  have y2 := hZ'.run
  have HM := Lib.hid hZ'.num
  have y5 : ¬ M = 0 := by rw [hZ'.num]; decide
  have e0 : (#[.bool false, .bool false, .bool false, .bool false, .bool false, .bool false, .bool false, .int .i64 (-1), .int .i64 0, .int .i64 0, .int .i64 0, .int .i64 (-1), .int .i64 (-1)] : Array Value) = cells cplain := rfl
  have n1 : (cells cplain).size = M := hZ'.num ▸ rfl
  have n2 : (cells r).size = M := hZ'.num ▸ rfl
  have p1 := put_con_at ((w.alloc (.cells (mcells m) 25)).alloc (.cells (cells r) 23)) (w.heap.size + 2) (by simp) #[.bool false, .bool false, .bool false, .bool false, .bool false, .bool false, .bool false, .int .i64 0, .int .i64 0, .int .i64 0, .int .i64 0, .int .i64 0, .int .i64 0] rfl cplain
  have p2 := put_con_at (((w.alloc (.cells (mcells m) 25)).alloc (.cells (cells r) 23)).alloc (.cells (cells cplain) 23)) (w.heap.size + 3) (by simp) #[.bool false, .bool false, .bool false, .bool false, .bool false, .bool false, .bool false, .int .i64 0, .int .i64 0, .int .i64 0, .int .i64 0, .int .i64 0, .int .i64 0] rfl r
  have l1 := conAt_load (((((has_new w).addM m).addC r).addC cplain).c (g := w.heap.size + 1) (r := r) (by simp)) hZ'.num
  have H := Lib.hid ((((((has_new w).addM m).addC r).addC cplain).addC cs).cast (l' := [(w.heap.size, m)]) (k' := [(w.heap.size + 3, cs), (w.heap.size + 2, cplain), (w.heap.size + 1, r)]) (by simp) (by simp))
  clear hC hcs hcn hcz hca bA bL hA hxa hxb hxd hxe f1 f2 f3 f4 hZ hZ' ok0 ok1 w2
  go_enter Tryd.func5, Tryd.ntmps5
  go_upto_region 4 with fail
  clear p1 p2 l1 e0 s1 n2 q12
  replace H := Lib.hid H.out.drew
  go_region_held3 (fun W => (loadCellsFrom ⟨w.heap.size, 0, none⟩ 0 N #[]).run Tryd.prog W = .ok (mcells m) W ∧ (loadCellsFrom ⟨w.heap.size + 2, 0, none⟩ 0 M #[]).run Tryd.prog W = .ok (cells cplain) W ∧ (loadCellsFrom ⟨w.heap.size + 3, 0, none⟩ 0 M #[]).run Tryd.prog W = .ok (cells cs) W ∧ Has w [(w.heap.size, m)] [(w.heap.size + 3, cs), (w.heap.size + 2, cplain), (w.heap.size + 1, r)] W)
    (exact ld_law H.out (by simp) (by simp) (by simp) HN.out HM.out)
    ((go_at_call 12; refine (goState_any m _ now _ (HC.out.below H.out.bel hg)).mono ?_; rintro e w1 ⟨rfl, hb⟩; (first | rw [HXA.out] | rw [HXB.out]); replace H := Lib.hid (H.out.more hb); clear hb))
  go_upto_region 7 with (go_at_call 14; refine (heur_any _ _ (HC.out.below H.out.bel hg)).mono ?_; rintro e w1 ⟨rfl, rfl⟩; rw [show heurOf 301 = true from rfl])
  have p3 := put_con_at w1 w1.heap.size rfl #[.bool false, .bool false, .bool false, .bool false, .bool false, .bool false, .bool false, .int .i64 0, .int .i64 0, .int .i64 0, .int .i64 0, .int .i64 0, .int .i64 0] rfl cplain
  have p4 := put_con_at (w1.alloc (.cells (cells cn) 23)) (w1.heap.size + 1) (by simp) #[.bool false, .bool false, .bool false, .bool false, .bool false, .bool false, .bool false, .int .i64 0, .int .i64 0, .int .i64 0, .int .i64 0, .int .i64 0, .int .i64 0] rfl cplain
  have l2 := conAt_load (H.out.c (g := w.heap.size + 2) (r := cplain) (by simp)) HM.out
  have l3 := conAt_load ((H.out.addC cn).c (g := w.heap.size + 2) (r := cplain) (by simp)) HM.out
  have H2 := Lib.hid (((H.out.addC cn).addC cz).cast (l' := [(w.heap.size, m)]) (k' := [(w1.heap.size + 1, cz), (w1.heap.size, cn), (w.heap.size + 3, cs), (w.heap.size + 2, cplain), (w.heap.size + 1, r)]) rfl (by simp))
  clear H
  go_upto_region 11 with fail
  clear l2 l3 p3 p4 s2 s3 q1 q7
  replace H2 := Lib.hid H2.out.drew
  go_region_held3 (fun W => (loadCellsFrom ⟨w.heap.size, 0, none⟩ 0 N #[]).run Tryd.prog W = .ok (mcells m) W ∧ (loadCellsFrom ⟨w1.heap.size, 0, none⟩ 0 M #[]).run Tryd.prog W = .ok (cells cn) W ∧ (loadCellsFrom ⟨w1.heap.size + 1, 0, none⟩ 0 M #[]).run Tryd.prog W = .ok (cells cz) W ∧ Has w [(w.heap.size, m)] [(w1.heap.size + 1, cz), (w1.heap.size, cn), (w.heap.size + 3, cs), (w.heap.size + 2, cplain), (w.heap.size + 1, r)] W)
    (exact ld_law H2.out (by simp) (by simp) (by simp) HN.out HM.out)
    ((go_at_call 12; refine (goState_any m _ now _ (HC.out.below H2.out.bel hg)).mono ?_; rintro e w2 ⟨rfl, hb⟩; (first | rw [HXN.out] | rw [HXD.out]); replace H2 := Lib.hid (H2.out.more hb); clear hb))
  have p5 := put_con_at w2 w2.heap.size rfl #[.bool false, .bool false, .bool false, .bool false, .bool false, .bool false, .bool false, .int .i64 0, .int .i64 0, .int .i64 0, .int .i64 0, .int .i64 0, .int .i64 0] rfl cplain
  have l4 := conAt_load (H2.out.c (g := w.heap.size + 2) (r := cplain) (by simp)) HM.out
  have H3 := Lib.hid (H2.out.addC ca)
  clear H2
  go_upto_region 14 with fail
  clear p5 l4 s4 q13
  have l5 := (H3.out.m (g := w.heap.size) (m := m) (by simp)).load HN.out
  have l6 := conAt_load (H3.out.c (g := w2.heap.size) (r := ca) (by simp)) HM.out
  go_wp2_with fail
  refine (goState_any m _ now _ (HC.out.below H3.out.bel hg)).mono ?_
  rintro e w3 ⟨rfl, hb⟩
  rw [HXE.out]
  replace H3 := Lib.hid (H3.out.more hb)
  clear hb l5 l6
  have l7 := (H3.out.m (g := w.heap.size) (m := m) (by simp)).load HN.out
  have HA2 := Lib.hid (show ¬ xd = 2 → A = 0 from fun h => F3.out.resolve_left h)
  by_cases e2 : xd = 2
  · have t1 : (xd == 2) = true := beq_iff_eq.2 e2
    clear e2
    rcases F4.out with rfl | rfl
    all_goals
      go_wp2_with fail
      go_ret
      exact ⟨rfl, H3.out.bel⟩
  · have t1 : (xd == 2) = false := beq_eq_false_iff_ne.2 e2
    have HAZ := Lib.hid (HA2.out e2)
    clear e2
    rcases F4.out with rfl | rfl
    all_goals
      go_wp2_with fail
      refine (age_any m now _).mono ?_
      rintro e w4 ⟨rfl, hb⟩
      rw [HA.out, HAZ.out]
      have H4 := Lib.hid (H3.out.more hb)
      clear hb
      go_wp2_with fail
      go_ret
      exact ⟨rfl, H4.out.bel⟩

set_option maxHeartbeats 2000000 in
set_option maxRecDepth 100000 in
theorem contract (H : Type) (enc : TypeId × Value → H) (W : World) (base : Nat) (args : Array Value) (ds gs : List (DataW H)) (before : List MemPlace)
    (hval : ∀ (j : Nat) t v, Tryd.f5.params[j]? = some t → args[j]? = some v → Value.okWide Tryd.prog W .any base t v)
    (hW : DataW.Whole enc Tryd.prog Tryd.f5.params.toList Rows.freshAsksSpec.vars false W args.toList ds gs before) (ts : List TypeId) (hsz : (DataW.weightsEach Tryd.prog (Tryd.f5.params.toList ++ ts) (ds ++ gs)).all (· ≤ reachBytes) = true) (hL : laidMetH Tryd.prog Rows.freshAsksRow.laid W) :
    Calls Tryd.prog 5 args W fun e W' => ∃ v, e = .returned v ∧ Rows.freshAsksSpec.post enc Tryd.prog Tryd.f5 false true false false W args v W' := by
  have hW' := hW
  obtain ⟨p, q, hA0, hV, rfl, hfz, hnd⟩ := hW
  have hA : DataW.TrodAll enc Tryd.prog W 0 (fun _ => true) true Tryd.f5.params.toList args.toList ds p := hA0
  rw [Tryd.params5] at hA hval hsz
  obtain ⟨v0, vs0, d0, ds0, p0, q0, hargs, rfl, rfl, h0, r0⟩ := trodAll_cons hA
  obtain ⟨v1, vs1, d1, ds1, p1, q1, rfl, rfl, rfl, h1, r1⟩ := trodAll_cons r0
  obtain ⟨v2, vs2, d2, ds2, p2, q2, rfl, rfl, rfl, h2, r2⟩ := trodAll_cons r1
  obtain ⟨rfl, rfl, rfl⟩ := trodAll_nil r2
  obtain rfl : args = #[v0, v1, v2] := by cases args; simp_all
  obtain ⟨rfl, rfl⟩ := trodVars_none hV
  have k0 := h0
  have lt0 : ∀ x ∈ p0, x.block < W.heap.size := by obtain ⟨m, hm⟩ := k0; exact DataW.trod_lt m _ _ _ hm
  obtain ⟨c0, rfl, ok0⟩ := Ct.open_met (hval 0 25 v0 rfl rfl) h0
  have k1 := h1
  have lt1 : ∀ x ∈ p1, x.block < W.heap.size := by obtain ⟨m, hm⟩ := k1; exact DataW.trod_lt m _ _ _ hm
  obtain ⟨c1, rfl, ok1⟩ := Ct.open_con (hval 1 23 v1 rfl rfl) h1
  obtain ⟨a2, rfl, rfl, rfl, w2⟩ := open_int Tryd.underlying3 (hval 2 3 v2 rfl rfl) h2
  clear hA0
  simp only [List.append_nil] at hW'
  refine (walk c0 ok0 c1 ok1 a2 w2 W (Tb.kept_of_head hL)).mono fun e W' ⟨he, bel⟩ => ?_
  subst he
  exact ⟨_, rfl, _, _, _, [], _, [], hW', trodAll_mk1 (shut_bool Tryd.underlying4 _), (trodAll_cons_mk (Below.trod Tb.laidOut (by kernel_rfl) (of_decide_eq_true (by kernel_rfl)) k0 bel lt0) (trodAll_cons_mk (Below.trod Tb.laidOut (by kernel_rfl) (of_decide_eq_true (by kernel_rfl)) k1 bel lt1) (trodAll_cons_mk (shut_int Tryd.underlying3 w2) trodAll_mk0))), rfl, bel.frame _, fun h => by cases h⟩

theorem laid_met (os : Os) : laidMet Tryd.prog Rows.freshAsksRow.laid ((Tb.laidWorld os).forCall (fun _ _ => 0) ⟨#[], #[.agg #[.int .i64 0, .bool false, .bool false, .bool false, .bool false, .bool false, .bool false, .bool false, .int .i64 0, .int .i64 0, .int .i64 0, .int .i64 0, .int .i64 0, .int .i64 0, .int .i64 0, .int .i64 0, .int .i64 0, .int .i64 0, .int .i64 0, .int .i64 0, .string ByteArray.empty], .agg #[.bool false, .bool false, .bool false, .bool false, .bool false, .bool false, .bool false, .int .i64 0, .int .i64 0, .int .i64 0, .int .i64 0, .int .i64 0, .int .i64 0], .int .i64 0], []⟩).memory :=
  laidMet_of_run' 8 (by kernel_rfl) (by kernel_rfl)
theorem reads (os : Os) {H : Type} (enc : TypeId × Value → H) : ∃ places, DataW.whole enc Tryd.prog ((Tb.laidWorld os).forCall (fun _ _ => 0) ⟨#[], #[.agg #[.int .i64 0, .bool false, .bool false, .bool false, .bool false, .bool false, .bool false, .bool false, .int .i64 0, .int .i64 0, .int .i64 0, .int .i64 0, .int .i64 0, .int .i64 0, .int .i64 0, .int .i64 0, .int .i64 0, .int .i64 0, .int .i64 0, .int .i64 0, .string ByteArray.empty], .agg #[.bool false, .bool false, .bool false, .bool false, .bool false, .bool false, .bool false, .int .i64 0, .int .i64 0, .int .i64 0, .int .i64 0, .int .i64 0, .int .i64 0], .int .i64 0], []⟩).memory Tryd.f5.params.toList Rows.freshAsksSpec.vars false (#[.agg #[.int .i64 0, .bool false, .bool false, .bool false, .bool false, .bool false, .bool false, .bool false, .int .i64 0, .int .i64 0, .int .i64 0, .int .i64 0, .int .i64 0, .int .i64 0, .int .i64 0, .int .i64 0, .int .i64 0, .int .i64 0, .int .i64 0, .int .i64 0, .string ByteArray.empty], .agg #[.bool false, .bool false, .bool false, .bool false, .bool false, .bool false, .bool false, .int .i64 0, .int .i64 0, .int .i64 0, .int .i64 0, .int .i64 0, .int .i64 0], .int .i64 0] : Array Value).toList 8 = some ([.agg [.lit (.int .i64 0), .agg [.lit (.bool false), .lit (.bool false), .lit (.bool false), .lit (.bool false), .lit (.bool false), .lit (.bool false), .lit (.bool false), .lit (.int .i64 0), .lit (.int .i64 0), .lit (.int .i64 0), .lit (.int .i64 0), .lit (.int .i64 0), .lit (.int .i64 0)], .lit (.int .i64 0), .lit (.int .i64 0), .lit (.int .i64 0), .lit (.int .i64 0), .lit (.int .i64 0), .lit (.int .i64 0), .lit (.string [])], .agg [.lit (.bool false), .lit (.bool false), .lit (.bool false), .lit (.bool false), .lit (.bool false), .lit (.bool false), .lit (.bool false), .lit (.int .i64 0), .lit (.int .i64 0), .lit (.int .i64 0), .lit (.int .i64 0), .lit (.int .i64 0), .lit (.int .i64 0)], .lit (.int .i64 0)], [], places) :=
  ⟨[], by kernel_rfl⟩

set_option maxRecDepth 100000 in
theorem lifted (os : Os) (started : os.Started) (H : Type) (enc : TypeId × Value → H) (F : Stop.Interp) :
    ReturnsInHanded {} Tryd.checked os 5 .any ((OpenSpec.ofChange Rows.freshAsksSpec).preRow enc Tryd.prog Tryd.f5 Rows.freshAsksRow.domain false Rows.freshAsksRow.laid) (((OpenSpec.ofChange Rows.freshAsksSpec).at F).post enc Tryd.prog Tryd.f5 false true false false) := by
  obtain ⟨places, hx⟩ := reads os enc
  refine returnsInHanded_of_row (C := Tryd.checked) (s := OpenSpec.ofChange Rows.freshAsksSpec) Tb.own started (by kernel_rfl) Tryd.func5
    (witness_row_at (enc := enc) (C := Tryd.checked) false (Tb.laidWorld os) #[.agg #[.int .i64 0, .bool false, .bool false, .bool false, .bool false, .bool false, .bool false, .bool false, .int .i64 0, .int .i64 0, .int .i64 0, .int .i64 0, .int .i64 0, .int .i64 0, .int .i64 0, .int .i64 0, .int .i64 0, .int .i64 0, .int .i64 0, .int .i64 0, .string ByteArray.empty], .agg #[.bool false, .bool false, .bool false, .bool false, .bool false, .bool false, .bool false, .int .i64 0, .int .i64 0, .int .i64 0, .int .i64 0, .int .i64 0, .int .i64 0], .int .i64 0] rfl (by kernel_rfl) (by kernel_rfl) (by kernel_rfl)
      (OpenSpec.preRow_of_cond 8 hx (by kernel_rfl) (fun k hk => by cases hk) (by kernel_rfl) (laid_met os))) ?_
  intro W base args ds gs before hval hW _ _ hsz hL _ _
  exact contract H enc W base args ds gs before hval hW _ hsz hL

theorem said : Rows.FreshAsksSaid :=
  OpenClaim.holds_of_cond 5 Tryd.f5 rfl rfl rfl rfl rfl rfl rfl ⟨rfl, rfl, rfl, rfl, rfl⟩ rfl rfl rfl rfl rfl (by kernel_rfl) Tryd.func5 (by kernel_rfl)
    (of_decide_eq_true (by kernel_rfl)) (by unfold Func.isWrapper; first | (rw [if_pos (by decide +kernel)]; kernel_rfl) | (rw [if_neg (by decide +kernel)]; exact ⟨rfl, rfl⟩))
    (fun os started H enc _ F => by rw [OpenClaim.pre_eq_preRow]; exact lifted os started H enc F)

set_option maxRecDepth 100000 in
theorem plain (f : FuncId) (fn : Func) (hf : Tryd.pinned.checked.prog.funcNamed "gatepost/gatepostlaw09.FreshAsks" = some f) (hfn : Tryd.pinned.checked.prog.funcs[f]? = some fn) :
    false = Tryd.pinned.checked.prog.looks [] ∧ ∀ (j : Nat) t, fn.params[j]? = some t → Tryd.pinned.checked.prog.wantsStandIn t = false := by
  obtain rfl : f = 5 := Option.some.inj ((show Tryd.prog.funcNamed "gatepost/gatepostlaw09.FreshAsks" = some 5 by kernel_rfl).symm.trans hf) |>.symm
  obtain rfl : fn = Tryd.f5 := (Option.some.inj (Tryd.func5.symm.trans hfn)).symm
  refine ⟨by kernel_rfl, fun j t ht => ?_⟩
  rw [Tryd.params5] at ht
  have hm := Array.mem_of_getElem? ht
  simp at hm
  rcases hm with rfl | rfl | rfl
  · exact (show Tryd.prog.wantsStandIn 25 = false by kernel_rfl)
  · exact (show Tryd.prog.wantsStandIn 23 = false by kernel_rfl)
  · exact (show Tryd.prog.wantsStandIn 3 = false by kernel_rfl)

theorem card : Rows.FreshAsksCardSaid :=
  Claim7.holds_tied_plain_at .later [] _ _ _ _ said (fun _ h => by cases h) (by kernel_rfl) (fun _ h => by cases h) freshAsks_row_tie rfl ⟨rfl, rfl⟩ (by kernel_rfl) rfl plain (by kernel_rfl)
end Go.Proofs.YtbignmccpbccoaaDoor.freshAsks
