/-
  FreshAges: a greater Age field, or a longer time between asking and getting, makes a response no younger; a second that is not told counts for nothing.
  Conditions: the listed tables hold what the program's text lays (the card ties them).
-/
import Derived.Deep.DeepCutAuto
import Derived.Deep.RegionWith
import Derived.Test.YtbignmccpbccoaaDoorTabs
import Derived.Test.YtbignmccpbccoaaDoorApMeta
import Derived.SizedLaws
import Derived.Carry
import Derived.Test.YtbignmccpbccoaaDoorFhLaw
import Derived.WideKeyPair
namespace Go.Proofs.YtbignmccpbccoaaDoor.freshAges
open Go.ChangeShapes Go.WideShapes Go.ChangeAt Go.RowKit
open Go.ChangeMaps (open_string shut_string)
set_option linter.unusedVariables false

open Go.Proofs.YtbignmccpbccoaaDoor.Fd Go.Proofs.YtbignmccpbccoaaDoor.Ct Go.Proofs.YtbignmccpbccoaaDoor.Fh
theorem two_law {w : World} {g g1 g2 : Nat} {m ma mb : Mta} {W : World} (h : Has w [(g2, mb), (g1, ma), (g, m)] [] W) {N : Nat} (hN : N = 21) :
    (loadCellsFrom ⟨g1, 0, none⟩ 0 N #[]).run Tryd.prog W = .ok (mcells ma) W ∧ (loadCellsFrom ⟨g2, 0, none⟩ 0 N #[]).run Tryd.prog W = .ok (mcells mb) W ∧ Has w [(g2, mb), (g1, ma), (g, m)] [] W :=
  ⟨(h.m (g := g1) (m := ma) (by simp)).load hN, (h.m (g := g2) (m := mb) (by simp)).load hN, h⟩
def mnone : Mta := ⟨0, ⟨false, false, false, false, false, false, false, 0, 0, 0, 0, 0, 0⟩, -1, -1, -1, -1, -1, -1, ByteArray.empty⟩
theorem age_none (now : Int) : ageOf mnone now = 0 := by
  have h : lessT now (-1) = 0 := by unfold lessT; rw [if_pos (.inr (.inl (by decide)))]
  show atMost ((if toldT (-1) + lessT (-1) (-1) < lessT (-1) (-1) then lessT (-1) (-1) else toldT (-1) + lessT (-1) (-1)) + lessT now (-1)) mostA = 0
  rw [h]; rfl
def msome : Mta := { { { mnone with got := 100 } with ask := 90 } with age := 7 }
theorem age_some (q : Int) (h0 : 0 ≤ q) (h1 : q ≤ 65535) : ageOf msome (100 + q) = 17 + q := by
  have h : lessT (100 + q) 100 = q := by rw [lessT_small (by omega) (by decide) (by unfold mostT; omega) (by omega)]; omega
  show atMost ((if toldT 7 + lessT 100 90 < lessT 100 (-1) then lessT 100 (-1) else toldT 7 + lessT 100 90) + lessT (100 + q) 100) mostA = 17 + q
  rw [h, show toldT 7 = 7 from rfl, show lessT 100 90 = 10 from rfl, show lessT 100 (-1) = 0 from rfl]
  unfold atMost mostA
  (repeat' split) <;> omega
theorem age_some' : ageOf msome (-1) = 17 := rfl
theorem mask2 (a : Int) (m : Nat) (hm : m < 9223372036854775808) : 0 ≤ bits .and .i64 a (m : Int) ∧ bits .and .i64 a (m : Int) ≤ (m : Int) := by
  have h1 : (BitVec.ofInt 64 a &&& BitVec.ofInt 64 (m : Int)).toNat ≤ m := by
    rw [BitVec.toNat_and, BitVec.ofInt_natCast, BitVec.toNat_ofNat]
    exact Nat.le_trans Nat.and_le_right (Nat.mod_le _ _)
  have h2 : bits .and .i64 a (m : Int) = IntKind.i64.wrap ((BitVec.ofInt 64 a &&& BitVec.ofInt 64 (m : Int)).toNat : Int) := rfl
  rw [h2, IntKind.wrap_i64]
  omega
set_option maxRecDepth 100000 in
set_option maxHeartbeats 16000000 in
theorem walk (m : Mta) (ok0 : MetOk m) (now : Int) (w1 : (Lit.int .i64 now).wf = true) (more : Int) (w2 : (Lit.int .i64 more).wf = true) (w : World) (hC : Fh.Codes w) :
    Calls Tryd.prog 7 #[.agg (mcells m), .int .i64 now, .int .i64 more] w fun e w' => e = .returned (.bool true) ∧ Below w.heap.size w w' := by
  have HC := Lib.hid hC
  have hg := hC.lt
  obtain ⟨p, hp⟩ : ∃ p, bits .and .i64 m.age 1048575 = p := ⟨_, rfl⟩
  obtain ⟨q, hq⟩ : ∃ q, bits .and .i64 more 65535 = q := ⟨_, rfl⟩
  have bp : 0 ≤ p ∧ p ≤ 1048575 := by rw [← hp]; exact mask2 m.age 1048575 (by decide)
  have bq : 0 ≤ q ∧ q ≤ 65535 := by rw [← hq]; exact mask2 more 65535 (by decide)
  obtain ⟨ma, hma⟩ : ∃ ma : Mta, ma = { m with age := p + q } := ⟨_, rfl⟩
  obtain ⟨mb, hmb⟩ : ∃ mb : Mta, mb = { m with age := p } := ⟨_, rfl⟩
  have s1 : (mcells m).setIfInBounds 17 (.int .i64 (p + q)) = mcells ma := by rw [hma]; exact set_age m _
  have s2 : (mcells m).setIfInBounds 17 (.int .i64 p) = mcells mb := by rw [hmb]; exact set_age m _
  obtain ⟨X, hX⟩ : ∃ X, ageOf ma now = X := ⟨_, rfl⟩
  obtain ⟨Y, hY⟩ : ∃ Y, ageOf mb now = Y := ⟨_, rfl⟩
  have hXY : Y ≤ X := by rw [← hX, ← hY, hma, hmb]; exact age_more m p (p + q) now (by omega)
  have dXY : decide (X < Y) = false := by simp; omega
  have q17 : (mcells m)[17]? = some (.int .i64 m.age) := rfl
  have HX := Lib.hid hX
  have HY := Lib.hid hY
  obtain ⟨Z, N, hZ⟩ := size_met
  have HZ := Lib.hid hZ
  have z1 := hZ.is
  have z2 := hZ.run
  have z3 := hZ.num
  have l0 := (((has_new w).addM m).m (g := w.heap.size) (m := m) (by simp)).load hZ.num
  have l2 := ((((has_new w).addM m).addM ma).m (g := w.heap.size) (m := m) (by simp)).load hZ.num
  have H := Lib.hid (((((has_new w).addM m).addM ma).addM mb).cast (l' := [(w.heap.size + 2, mb), (w.heap.size + 1, ma), (w.heap.size, m)]) (by simp) rfl)
  have p1 := put_met_at (w.alloc (.cells (mcells m) 25)) (w.heap.size + 1) (by simp) #[.int .i64 0, .bool false, .bool false, .bool false, .bool false, .bool false, .bool false, .bool false, .int .i64 0, .int .i64 0, .int .i64 0, .int .i64 0, .int .i64 0, .int .i64 0, .int .i64 0, .int .i64 0, .int .i64 0, .int .i64 0, .int .i64 0, .int .i64 0, .string ⟨#[]⟩] rfl m
  have p2 := put_met_at ((w.alloc (.cells (mcells m) 25)).alloc (.cells (mcells ma) 25)) (w.heap.size + 2) (by simp) #[.int .i64 0, .bool false, .bool false, .bool false, .bool false, .bool false, .bool false, .bool false, .int .i64 0, .int .i64 0, .int .i64 0, .int .i64 0, .int .i64 0, .int .i64 0, .int .i64 0, .int .i64 0, .int .i64 0, .int .i64 0, .int .i64 0, .int .i64 0, .string ⟨#[]⟩] rfl m
  have n1 : (mcells m).size = N := hZ.num ▸ rfl
  have HN := Lib.hid hZ.num
  have e0 : (#[.int .i64 0, .bool false, .bool false, .bool false, .bool false, .bool false, .bool false, .bool false, .int .i64 0, .int .i64 0, .int .i64 0, .int .i64 0, .int .i64 0, .int .i64 0, .int .i64 (-1), .int .i64 (-1), .int .i64 (-1), .int .i64 (-1), .int .i64 (-1), .int .i64 (-1), .string ⟨#[]⟩] : Array Value) = mcells mnone := rfl
  have p3 := fun W : World => put_met_at W W.heap.size rfl #[.int .i64 0, .bool false, .bool false, .bool false, .bool false, .bool false, .bool false, .bool false, .int .i64 0, .int .i64 0, .int .i64 0, .int .i64 0, .int .i64 0, .int .i64 0, .int .i64 0, .int .i64 0, .int .i64 0, .int .i64 0, .int .i64 0, .int .i64 0, .string ⟨#[]⟩] rfl mnone
  have p4 := fun (W : World) => put_met_at (W.alloc (.cells (mcells mnone) 25)) (W.heap.size + 1) (by simp) #[.int .i64 0, .bool false, .bool false, .bool false, .bool false, .bool false, .bool false, .bool false, .int .i64 0, .int .i64 0, .int .i64 0, .int .i64 0, .int .i64 0, .int .i64 0, .int .i64 0, .int .i64 0, .int .i64 0, .int .i64 0, .int .i64 0, .int .i64 0, .string ⟨#[]⟩] rfl mnone
  clear hC hma hmb hX hY hZ ok0 w1 w2 z3 HZ
  go_enter Tryd.func7, Tryd.ntmps7
  go_upto_region 6 with fail
  clear l0 l2 p1 p2 s1 s2 q17 hp hq
  replace H := Lib.hid H.out.drew
  go_region_held3 (fun W => (loadCellsFrom ⟨w.heap.size + 1, 0, none⟩ 0 N #[]).run Tryd.prog W = .ok (mcells ma) W ∧ (loadCellsFrom ⟨w.heap.size + 2, 0, none⟩ 0 N #[]).run Tryd.prog W = .ok (mcells mb) W ∧ Has w [(w.heap.size + 2, mb), (w.heap.size + 1, ma), (w.heap.size, m)] [] W)
    (exact two_law H.out HN.out) (first
    | (go_at_call 8; refine (age_any _ now _).mono ?_; rintro e w1 ⟨rfl, hb⟩; (first | rw [HX.out] | rw [HY.out]); replace H := Lib.hid (H.out.more hb); clear hb)
    | (go_at_call 14; refine (heur_any _ _ (HC.out.below H.out.bel hg)).mono ?_; rintro e w1 ⟨rfl, rfl⟩; rw [show heurOf 206 = true from rfl]))
  go_upto_region 9 with fail
  have H4 := Lib.hid (H.out.addM mnone)
  have l3 := (H4.out.m (g := w1.heap.size) (m := mnone) (by simp)).load HN.out
  have n2 : (mcells mnone).size = N := HN.out ▸ rfl
  have s3 : (mcells mnone).setIfInBounds 19 (.int .i64 100) = mcells { mnone with got := 100 } := rfl
  have s4 : (mcells { mnone with got := 100 }).setIfInBounds 18 (.int .i64 90) = mcells { { mnone with got := 100 } with ask := 90 } := rfl
  have s5 : (mcells { { mnone with got := 100 } with ask := 90 }).setIfInBounds 17 (.int .i64 7) = mcells msome := rfl
  have H5 := Lib.hid ((H4.out.addM msome).cast (l' := [(w1.heap.size + 1, msome), (w1.heap.size, mnone), (w.heap.size + 2, mb), (w.heap.size + 1, ma), (w.heap.size, m)]) (by simp) rfl)
  go_upto_region 11 with fail
  have l4 := (H5.out.m (g := w1.heap.size) (m := mnone) (by simp)).load HN.out
  clear l3 p3 p4 s3 s4 s5 e0
  go_wp2_with fail
  refine (age_any mnone now _).mono ?_
  rintro e w2 ⟨rfl, hb⟩
  rw [age_none]
  have H6 := Lib.hid (H5.out.more hb)
  have l5 := (H6.out.m (g := w1.heap.size + 1) (m := msome) (by simp)).load HN.out
  clear l4 hb
  go_wp2_with fail
  refine (age_any msome _ _).mono ?_
  rintro e w3 ⟨rfl, hb⟩
  rw [age_some q bq.1 bq.2]
  have H7 := Lib.hid (H6.out.more hb)
  have l6 := (H7.out.m (g := w1.heap.size + 1) (m := msome) (by simp)).load HN.out
  clear l5 hb
  go_wp2_with fail
  refine (age_any msome _ _).mono ?_
  rintro e w4 ⟨rfl, hb⟩
  rw [age_some']
  have H8 := Lib.hid (H7.out.more hb)
  clear l6 hb
  go_wp2_with fail
  go_ret
  exact ⟨rfl, H8.out.bel⟩

set_option maxHeartbeats 2000000 in
set_option maxRecDepth 100000 in
theorem contract (H : Type) (enc : TypeId × Value → H) (W : World) (base : Nat) (args : Array Value) (ds gs : List (DataW H)) (before : List MemPlace)
    (hval : ∀ (j : Nat) t v, Tryd.f7.params[j]? = some t → args[j]? = some v → Value.okWide Tryd.prog W .any base t v)
    (hW : DataW.Whole enc Tryd.prog Tryd.f7.params.toList Rows.freshAgesSpec.vars false W args.toList ds gs before) (ts : List TypeId) (hsz : (DataW.weightsEach Tryd.prog (Tryd.f7.params.toList ++ ts) (ds ++ gs)).all (· ≤ reachBytes) = true) (hL : laidMetH Tryd.prog Rows.freshAgesRow.laid W) :
    Calls Tryd.prog 7 args W fun e W' => ∃ v, e = .returned v ∧ Rows.freshAgesSpec.post enc Tryd.prog Tryd.f7 false true false false W args v W' := by
  have hW' := hW
  obtain ⟨p, q, hA0, hV, rfl, hfz, hnd⟩ := hW
  have hA : DataW.TrodAll enc Tryd.prog W 0 (fun _ => true) true Tryd.f7.params.toList args.toList ds p := hA0
  rw [Tryd.params7] at hA hval hsz
  obtain ⟨v0, vs0, d0, ds0, p0, q0, hargs, rfl, rfl, h0, r0⟩ := trodAll_cons hA
  obtain ⟨v1, vs1, d1, ds1, p1, q1, rfl, rfl, rfl, h1, r1⟩ := trodAll_cons r0
  obtain ⟨v2, vs2, d2, ds2, p2, q2, rfl, rfl, rfl, h2, r2⟩ := trodAll_cons r1
  obtain ⟨rfl, rfl, rfl⟩ := trodAll_nil r2
  obtain rfl : args = #[v0, v1, v2] := by cases args; simp_all
  obtain ⟨rfl, rfl⟩ := trodVars_none hV
  have k0 := h0
  have lt0 : ∀ x ∈ p0, x.block < W.heap.size := by obtain ⟨m, hm⟩ := k0; exact DataW.trod_lt m _ _ _ hm
  obtain ⟨c0, rfl, ok0⟩ := Ct.open_met (hval 0 25 v0 rfl rfl) h0
  obtain ⟨a1, rfl, rfl, rfl, w1⟩ := open_int Tryd.underlying3 (hval 1 3 v1 rfl rfl) h1
  obtain ⟨a2, rfl, rfl, rfl, w2⟩ := open_int Tryd.underlying3 (hval 2 3 v2 rfl rfl) h2
  clear hA0
  simp only [List.append_nil] at hW'
  refine (walk c0 ok0 a1 w1 a2 w2 W (Tb.kept_of_head hL)).mono fun e W' ⟨he, bel⟩ => ?_
  subst he
  exact ⟨_, rfl, _, _, _, [], _, [], hW', trodAll_mk1 (shut_bool Tryd.underlying4 _), (trodAll_cons_mk (Below.trod Tb.laidOut (by kernel_rfl) (of_decide_eq_true (by kernel_rfl)) k0 bel lt0) (trodAll_cons_mk (shut_int Tryd.underlying3 w1) (trodAll_cons_mk (shut_int Tryd.underlying3 w2) trodAll_mk0))), rfl, bel.frame _, fun h => by cases h⟩

theorem laid_met (os : Os) : laidMet Tryd.prog Rows.freshAgesRow.laid ((Tb.laidWorld os).forCall (fun _ _ => 0) ⟨#[], #[.agg #[.int .i64 0, .bool false, .bool false, .bool false, .bool false, .bool false, .bool false, .bool false, .int .i64 0, .int .i64 0, .int .i64 0, .int .i64 0, .int .i64 0, .int .i64 0, .int .i64 0, .int .i64 0, .int .i64 0, .int .i64 0, .int .i64 0, .int .i64 0, .string ByteArray.empty], .int .i64 0, .int .i64 0], []⟩).memory :=
  laidMet_of_run' 8 (by kernel_rfl) (by kernel_rfl)
theorem reads (os : Os) {H : Type} (enc : TypeId × Value → H) : ∃ places, DataW.whole enc Tryd.prog ((Tb.laidWorld os).forCall (fun _ _ => 0) ⟨#[], #[.agg #[.int .i64 0, .bool false, .bool false, .bool false, .bool false, .bool false, .bool false, .bool false, .int .i64 0, .int .i64 0, .int .i64 0, .int .i64 0, .int .i64 0, .int .i64 0, .int .i64 0, .int .i64 0, .int .i64 0, .int .i64 0, .int .i64 0, .int .i64 0, .string ByteArray.empty], .int .i64 0, .int .i64 0], []⟩).memory Tryd.f7.params.toList Rows.freshAgesSpec.vars false (#[.agg #[.int .i64 0, .bool false, .bool false, .bool false, .bool false, .bool false, .bool false, .bool false, .int .i64 0, .int .i64 0, .int .i64 0, .int .i64 0, .int .i64 0, .int .i64 0, .int .i64 0, .int .i64 0, .int .i64 0, .int .i64 0, .int .i64 0, .int .i64 0, .string ByteArray.empty], .int .i64 0, .int .i64 0] : Array Value).toList 8 = some ([.agg [.lit (.int .i64 0), .agg [.lit (.bool false), .lit (.bool false), .lit (.bool false), .lit (.bool false), .lit (.bool false), .lit (.bool false), .lit (.bool false), .lit (.int .i64 0), .lit (.int .i64 0), .lit (.int .i64 0), .lit (.int .i64 0), .lit (.int .i64 0), .lit (.int .i64 0)], .lit (.int .i64 0), .lit (.int .i64 0), .lit (.int .i64 0), .lit (.int .i64 0), .lit (.int .i64 0), .lit (.int .i64 0), .lit (.string [])], .lit (.int .i64 0), .lit (.int .i64 0)], [], places) :=
  ⟨[], by kernel_rfl⟩

set_option maxRecDepth 100000 in
theorem lifted (os : Os) (started : os.Started) (H : Type) (enc : TypeId × Value → H) (F : Stop.Interp) :
    ReturnsInHanded {} Tryd.checked os 7 .any ((OpenSpec.ofChange Rows.freshAgesSpec).preRow enc Tryd.prog Tryd.f7 Rows.freshAgesRow.domain false Rows.freshAgesRow.laid) (((OpenSpec.ofChange Rows.freshAgesSpec).at F).post enc Tryd.prog Tryd.f7 false true false false) := by
  obtain ⟨places, hx⟩ := reads os enc
  refine returnsInHanded_of_row (C := Tryd.checked) (s := OpenSpec.ofChange Rows.freshAgesSpec) Tb.own started (by kernel_rfl) Tryd.func7
    (witness_row_at (enc := enc) (C := Tryd.checked) false (Tb.laidWorld os) #[.agg #[.int .i64 0, .bool false, .bool false, .bool false, .bool false, .bool false, .bool false, .bool false, .int .i64 0, .int .i64 0, .int .i64 0, .int .i64 0, .int .i64 0, .int .i64 0, .int .i64 0, .int .i64 0, .int .i64 0, .int .i64 0, .int .i64 0, .int .i64 0, .string ByteArray.empty], .int .i64 0, .int .i64 0] rfl (by kernel_rfl) (by kernel_rfl) (by kernel_rfl)
      (OpenSpec.preRow_of_cond 8 hx (by kernel_rfl) (fun k hk => by cases hk) (by kernel_rfl) (laid_met os))) ?_
  intro W base args ds gs before hval hW _ _ hsz hL _ _
  exact contract H enc W base args ds gs before hval hW _ hsz hL

theorem said : Rows.FreshAgesSaid :=
  OpenClaim.holds_of_cond 7 Tryd.f7 rfl rfl rfl rfl rfl rfl rfl ⟨rfl, rfl, rfl, rfl, rfl⟩ rfl rfl rfl rfl rfl (by kernel_rfl) Tryd.func7 (by kernel_rfl)
    (of_decide_eq_true (by kernel_rfl)) (by unfold Func.isWrapper; first | (rw [if_pos (by decide +kernel)]; kernel_rfl) | (rw [if_neg (by decide +kernel)]; exact ⟨rfl, rfl⟩))
    (fun os started H enc _ F => by rw [OpenClaim.pre_eq_preRow]; exact lifted os started H enc F)

set_option maxRecDepth 100000 in
theorem plain (f : FuncId) (fn : Func) (hf : Tryd.pinned.checked.prog.funcNamed "gatepost/gatepostlaw09.FreshAges" = some f) (hfn : Tryd.pinned.checked.prog.funcs[f]? = some fn) :
    false = Tryd.pinned.checked.prog.looks [] ∧ ∀ (j : Nat) t, fn.params[j]? = some t → Tryd.pinned.checked.prog.wantsStandIn t = false := by
  obtain rfl : f = 7 := Option.some.inj ((show Tryd.prog.funcNamed "gatepost/gatepostlaw09.FreshAges" = some 7 by kernel_rfl).symm.trans hf) |>.symm
  obtain rfl : fn = Tryd.f7 := (Option.some.inj (Tryd.func7.symm.trans hfn)).symm
  refine ⟨by kernel_rfl, fun j t ht => ?_⟩
  rw [Tryd.params7] at ht
  have hm := Array.mem_of_getElem? ht
  simp at hm
  rcases hm with rfl | rfl
  · exact (show Tryd.prog.wantsStandIn 25 = false by kernel_rfl)
  · exact (show Tryd.prog.wantsStandIn 3 = false by kernel_rfl)

theorem card : Rows.FreshAgesCardSaid :=
  Claim7.holds_tied_plain_at .later [] _ _ _ _ said (fun _ h => by cases h) (by kernel_rfl) (fun _ h => by cases h) freshAges_row_tie rfl ⟨rfl, rfl⟩ (by kernel_rfl) rfl plain (by kernel_rfl)
end Go.Proofs.YtbignmccpbccoaaDoor.freshAges
