/-
  FreshTells: any response has the document's age, lifetime and state, for any request, at any second.
  Conditions: the listed tables hold what the program's text lays (the card ties them).
-/
import Derived.Deep.DeepCutAuto
import Derived.Deep.RegionWith
import Derived.Test.YtbignmccpbccoaaDoorTabs
import Derived.Test.YtbignmccpbccoaaDoorApMeta
import Derived.SizedLaws
import Derived.Carry
import Derived.Test.YtbignmccpbccoaaDoorFhRef3
import Derived.WideKeyPair
namespace Go.Proofs.YtbignmccpbccoaaDoor.freshTells
open Go.ChangeShapes Go.WideShapes Go.ChangeAt Go.RowKit
open Go.ChangeMaps (open_string shut_string)
set_option linter.unusedVariables false

open Go.Proofs.YtbignmccpbccoaaDoor.Fd Go.Proofs.YtbignmccpbccoaaDoor.Ct Go.Proofs.YtbignmccpbccoaaDoor.Fh
theorem mc_law {w : World} {g : Nat} {m : Mta} {k : Nat} {r : Con} {W : World} (h : MC w g m k r W) {N M : Nat} (hN : N = 21) (hM : M = 13) :
    (loadCellsFrom ⟨g, 0, none⟩ 0 N #[]).run Tryd.prog W = .ok (mcells m) W ∧ (loadCellsFrom ⟨k, 0, none⟩ 0 M #[]).run Tryd.prog W = .ok (cells r) W ∧ W.cell? ⟨g, 0, none⟩ = some (.int .i64 m.code) ∧ MC w g m k r W := ⟨h.met.load hN, conAt_load h.con hM, h.met.code, h⟩
set_option maxRecDepth 100000 in
set_option maxHeartbeats 16000000 in
theorem walk (m : Mta) (ok0 : MetOk m) (r : Con) (ok1 : ConOk r) (now : Int) (w2 : (Lit.int .i64 now).wf = true) (w : World) (hC : Fh.Codes w) :
    Calls Tryd.prog 3 #[.agg (mcells m), .agg (cells r), .int .i64 now] w fun e w' => e = .returned (.bool true) ∧ Below w.heap.size w w' := by
  have HC := Lib.hid hC
  have hg := hC.lt
  have HM := Lib.hid (mc_new w m r)
  obtain ⟨A, hA⟩ : ∃ A, ageOf m now = A := ⟨_, rfl⟩
  obtain ⟨L, hL⟩ : ∃ L, lifeOf m = L := ⟨_, rfl⟩
  obtain ⟨S, hS⟩ : ∃ S, stateOf m r now = S := ⟨_, rfl⟩
  obtain ⟨H, hH⟩ : ∃ H, heurOf m.code = H := ⟨_, rfl⟩
  have HA := Lib.hid hA
  have HL := Lib.hid hL
  have HS := Lib.hid hS
  have HH := Lib.hid hH
  obtain ⟨Z, N, hZ⟩ := size_met
  have z1 := hZ.is
  have z2 := hZ.run
  have HN := Lib.hid hZ.num
  obtain ⟨Z', N', hZ'⟩ := size_con
  have y1 := hZ'.is
  have y2 := hZ'.run
  have HN' := Lib.hid hZ'.num
  have y5 : ¬ N' = 0 := by rw [hZ'.num]; decide
  clear hC hA hL hS hH hZ hZ' ok0 ok1 w2
  unfold mcells cells at HM
  unfold mcells cells
  go_enter Tryd.func3, Tryd.ntmps3
  go_wp2_with fail
  replace HM := Lib.hid HM.out.drew
  go_region_held3 (fun W => (loadCellsFrom ⟨w.heap.size, 0, none⟩ 0 N #[]).run Tryd.prog W = .ok (mcells m) W ∧ (loadCellsFrom ⟨w.heap.size + 1, 0, none⟩ 0 N' #[]).run Tryd.prog W = .ok (cells r) W ∧ W.cell? ⟨w.heap.size, 0, none⟩ = some (.int .i64 m.code) ∧ MC w w.heap.size m (w.heap.size + 1) r W)
    (exact mc_law HM.out HN.out HN'.out) (first
    | (go_at_call 8; refine (age_any m now _).mono ?_; rintro e w1 ⟨rfl, hb⟩; rw [HA.out]; replace HM := Lib.hid (HM.out.more hb); clear hb)
    | (go_at_call 9; refine (rage_any m now _).mono ?_; rintro e w1 ⟨rfl, hb⟩; rw [HA.out]; replace HM := Lib.hid (HM.out.more hb); clear hb)
    | (go_at_call 10; refine (life_any m _ (HC.out.below HM.out.bel hg)).mono ?_; rintro e w1 ⟨rfl, hb⟩; rw [HL.out]; replace HM := Lib.hid (HM.out.more hb); clear hb)
    | (go_at_call 11; refine (rlife_any m _).mono ?_; rintro e w1 ⟨rfl, hb⟩; rw [HL.out]; replace HM := Lib.hid (HM.out.more hb); clear hb)
    | (go_at_call 12; refine (goState_any m r now _ (HC.out.below HM.out.bel hg)).mono ?_; rintro e w1 ⟨rfl, hb⟩; rw [HS.out]; replace HM := Lib.hid (HM.out.more hb); clear hb)
    | (go_at_call 13; refine (rstate_any m r now _).mono ?_; rintro e w1 ⟨rfl, hb⟩; rw [HS.out]; replace HM := Lib.hid (HM.out.more hb); clear hb)
    | (go_at_call 14; refine (heur_any _ _ (HC.out.below HM.out.bel hg)).mono ?_; rintro e w1 ⟨rfl, rfl⟩; first | rw [HH.out] | rw [show heurOf 404 = true from rfl])
    | (go_at_call 15; refine (rheur_any _ _).mono ?_; rintro e w1 ⟨rfl, rfl⟩; rw [HH.out]))
  all_goals
    clear z1 z2 y1 y2 y5
    go_wp2_with fail
    go_ret
    exact ⟨rfl, HM.out.bel⟩

set_option maxHeartbeats 2000000 in
set_option maxRecDepth 100000 in
theorem contract (H : Type) (enc : TypeId × Value → H) (W : World) (base : Nat) (args : Array Value) (ds gs : List (DataW H)) (before : List MemPlace)
    (hval : ∀ (j : Nat) t v, Tryd.f3.params[j]? = some t → args[j]? = some v → Value.okWide Tryd.prog W .any base t v)
    (hW : DataW.Whole enc Tryd.prog Tryd.f3.params.toList Rows.freshTellsSpec.vars false W args.toList ds gs before) (ts : List TypeId) (hsz : (DataW.weightsEach Tryd.prog (Tryd.f3.params.toList ++ ts) (ds ++ gs)).all (· ≤ reachBytes) = true) (hL : laidMetH Tryd.prog Rows.freshTellsRow.laid W) :
    Calls Tryd.prog 3 args W fun e W' => ∃ v, e = .returned v ∧ Rows.freshTellsSpec.post enc Tryd.prog Tryd.f3 false true false false W args v W' := by
  have hW' := hW
  obtain ⟨p, q, hA0, hV, rfl, hfz, hnd⟩ := hW
  have hA : DataW.TrodAll enc Tryd.prog W 0 (fun _ => true) true Tryd.f3.params.toList args.toList ds p := hA0
  rw [Tryd.params3] at hA hval hsz
  obtain ⟨v0, vs0, d0, ds0, p0, q0, hargs, rfl, rfl, h0, r0⟩ := trodAll_cons hA
  obtain ⟨v1, vs1, d1, ds1, p1, q1, rfl, rfl, rfl, h1, r1⟩ := trodAll_cons r0
  obtain ⟨v2, vs2, d2, ds2, p2, q2, rfl, rfl, rfl, h2, r2⟩ := trodAll_cons r1
  obtain ⟨rfl, rfl, rfl⟩ := trodAll_nil r2
  obtain rfl : args = #[v0, v1, v2] := by cases args; simp_all
  obtain ⟨rfl, rfl⟩ := trodVars_none hV
  have k0 := h0
  have lt0 : ∀ x ∈ p0, x.block < W.heap.size := by obtain ⟨m, hm⟩ := k0; exact DataW.trod_lt m _ _ _ hm
  obtain ⟨c0, rfl, ok0⟩ := Ct.open_met (hval 0 25 v0 rfl rfl) h0
  have k1 := h1
  have lt1 : ∀ x ∈ p1, x.block < W.heap.size := by obtain ⟨m, hm⟩ := k1; exact DataW.trod_lt m _ _ _ hm
  obtain ⟨c1, rfl, ok1⟩ := Ct.open_con (hval 1 23 v1 rfl rfl) h1
  obtain ⟨a2, rfl, rfl, rfl, w2⟩ := open_int Tryd.underlying3 (hval 2 3 v2 rfl rfl) h2
  clear hA0
  simp only [List.append_nil] at hW'
  refine (walk c0 ok0 c1 ok1 a2 w2 W (Tb.kept_of_head hL)).mono fun e W' ⟨he, bel⟩ => ?_
  subst he
  exact ⟨_, rfl, _, _, _, [], _, [], hW', trodAll_mk1 (shut_bool Tryd.underlying4 _), (trodAll_cons_mk (Below.trod Tb.laidOut (by kernel_rfl) (of_decide_eq_true (by kernel_rfl)) k0 bel lt0) (trodAll_cons_mk (Below.trod Tb.laidOut (by kernel_rfl) (of_decide_eq_true (by kernel_rfl)) k1 bel lt1) (trodAll_cons_mk (shut_int Tryd.underlying3 w2) trodAll_mk0))), rfl, bel.frame _, fun h => by cases h⟩

theorem laid_met (os : Os) : laidMet Tryd.prog Rows.freshTellsRow.laid ((Tb.laidWorld os).forCall (fun _ _ => 0) ⟨#[], #[.agg #[.int .i64 0, .bool false, .bool false, .bool false, .bool false, .bool false, .bool false, .bool false, .int .i64 0, .int .i64 0, .int .i64 0, .int .i64 0, .int .i64 0, .int .i64 0, .int .i64 0, .int .i64 0, .int .i64 0, .int .i64 0, .int .i64 0, .int .i64 0, .string ByteArray.empty], .agg #[.bool false, .bool false, .bool false, .bool false, .bool false, .bool false, .bool false, .int .i64 0, .int .i64 0, .int .i64 0, .int .i64 0, .int .i64 0, .int .i64 0], .int .i64 0], []⟩).memory :=
  laidMet_of_run' 8 (by kernel_rfl) (by kernel_rfl)
theorem reads (os : Os) {H : Type} (enc : TypeId × Value → H) : ∃ places, DataW.whole enc Tryd.prog ((Tb.laidWorld os).forCall (fun _ _ => 0) ⟨#[], #[.agg #[.int .i64 0, .bool false, .bool false, .bool false, .bool false, .bool false, .bool false, .bool false, .int .i64 0, .int .i64 0, .int .i64 0, .int .i64 0, .int .i64 0, .int .i64 0, .int .i64 0, .int .i64 0, .int .i64 0, .int .i64 0, .int .i64 0, .int .i64 0, .string ByteArray.empty], .agg #[.bool false, .bool false, .bool false, .bool false, .bool false, .bool false, .bool false, .int .i64 0, .int .i64 0, .int .i64 0, .int .i64 0, .int .i64 0, .int .i64 0], .int .i64 0], []⟩).memory Tryd.f3.params.toList Rows.freshTellsSpec.vars false (#[.agg #[.int .i64 0, .bool false, .bool false, .bool false, .bool false, .bool false, .bool false, .bool false, .int .i64 0, .int .i64 0, .int .i64 0, .int .i64 0, .int .i64 0, .int .i64 0, .int .i64 0, .int .i64 0, .int .i64 0, .int .i64 0, .int .i64 0, .int .i64 0, .string ByteArray.empty], .agg #[.bool false, .bool false, .bool false, .bool false, .bool false, .bool false, .bool false, .int .i64 0, .int .i64 0, .int .i64 0, .int .i64 0, .int .i64 0, .int .i64 0], .int .i64 0] : Array Value).toList 8 = some ([.agg [.lit (.int .i64 0), .agg [.lit (.bool false), .lit (.bool false), .lit (.bool false), .lit (.bool false), .lit (.bool false), .lit (.bool false), .lit (.bool false), .lit (.int .i64 0), .lit (.int .i64 0), .lit (.int .i64 0), .lit (.int .i64 0), .lit (.int .i64 0), .lit (.int .i64 0)], .lit (.int .i64 0), .lit (.int .i64 0), .lit (.int .i64 0), .lit (.int .i64 0), .lit (.int .i64 0), .lit (.int .i64 0), .lit (.string [])], .agg [.lit (.bool false), .lit (.bool false), .lit (.bool false), .lit (.bool false), .lit (.bool false), .lit (.bool false), .lit (.bool false), .lit (.int .i64 0), .lit (.int .i64 0), .lit (.int .i64 0), .lit (.int .i64 0), .lit (.int .i64 0), .lit (.int .i64 0)], .lit (.int .i64 0)], [], places) :=
  ⟨[], by kernel_rfl⟩

set_option maxRecDepth 100000 in
theorem lifted (os : Os) (started : os.Started) (H : Type) (enc : TypeId × Value → H) (F : Stop.Interp) :
    ReturnsInHanded {} Tryd.checked os 3 .any ((OpenSpec.ofChange Rows.freshTellsSpec).preRow enc Tryd.prog Tryd.f3 Rows.freshTellsRow.domain false Rows.freshTellsRow.laid) (((OpenSpec.ofChange Rows.freshTellsSpec).at F).post enc Tryd.prog Tryd.f3 false true false false) := by
  obtain ⟨places, hx⟩ := reads os enc
  refine returnsInHanded_of_row (C := Tryd.checked) (s := OpenSpec.ofChange Rows.freshTellsSpec) Tb.own started (by kernel_rfl) Tryd.func3
    (witness_row_at (enc := enc) (C := Tryd.checked) false (Tb.laidWorld os) #[.agg #[.int .i64 0, .bool false, .bool false, .bool false, .bool false, .bool false, .bool false, .bool false, .int .i64 0, .int .i64 0, .int .i64 0, .int .i64 0, .int .i64 0, .int .i64 0, .int .i64 0, .int .i64 0, .int .i64 0, .int .i64 0, .int .i64 0, .int .i64 0, .string ByteArray.empty], .agg #[.bool false, .bool false, .bool false, .bool false, .bool false, .bool false, .bool false, .int .i64 0, .int .i64 0, .int .i64 0, .int .i64 0, .int .i64 0, .int .i64 0], .int .i64 0] rfl (by kernel_rfl) (by kernel_rfl) (by kernel_rfl)
      (OpenSpec.preRow_of_cond 8 hx (by kernel_rfl) (fun k hk => by cases hk) (by kernel_rfl) (laid_met os))) ?_
  intro W base args ds gs before hval hW _ _ hsz hL _ _
  exact contract H enc W base args ds gs before hval hW _ hsz hL

theorem said : Rows.FreshTellsSaid :=
  OpenClaim.holds_of_cond 3 Tryd.f3 rfl rfl rfl rfl rfl rfl rfl ⟨rfl, rfl, rfl, rfl, rfl⟩ rfl rfl rfl rfl rfl (by kernel_rfl) Tryd.func3 (by kernel_rfl)
    (of_decide_eq_true (by kernel_rfl)) (by unfold Func.isWrapper; first | (rw [if_pos (by decide +kernel)]; kernel_rfl) | (rw [if_neg (by decide +kernel)]; exact ⟨rfl, rfl⟩))
    (fun os started H enc _ F => by rw [OpenClaim.pre_eq_preRow]; exact lifted os started H enc F)

set_option maxRecDepth 100000 in
theorem plain (f : FuncId) (fn : Func) (hf : Tryd.pinned.checked.prog.funcNamed "gatepost/gatepostlaw09.FreshTells" = some f) (hfn : Tryd.pinned.checked.prog.funcs[f]? = some fn) :
    false = Tryd.pinned.checked.prog.looks [] ∧ ∀ (j : Nat) t, fn.params[j]? = some t → Tryd.pinned.checked.prog.wantsStandIn t = false := by
  obtain rfl : f = 3 := Option.some.inj ((show Tryd.prog.funcNamed "gatepost/gatepostlaw09.FreshTells" = some 3 by kernel_rfl).symm.trans hf) |>.symm
  obtain rfl : fn = Tryd.f3 := (Option.some.inj (Tryd.func3.symm.trans hfn)).symm
  refine ⟨by kernel_rfl, fun j t ht => ?_⟩
  rw [Tryd.params3] at ht
  have hm := Array.mem_of_getElem? ht
  simp at hm
  rcases hm with rfl | rfl | rfl
  · exact (show Tryd.prog.wantsStandIn 25 = false by kernel_rfl)
  · exact (show Tryd.prog.wantsStandIn 23 = false by kernel_rfl)
  · exact (show Tryd.prog.wantsStandIn 3 = false by kernel_rfl)

theorem card : Rows.FreshTellsCardSaid :=
  Claim7.holds_tied_plain_at .later [] _ _ _ _ said (fun _ h => by cases h) (by kernel_rfl) (fun _ h => by cases h) freshTells_row_tie rfl ⟨rfl, rfl⟩ (by kernel_rfl) rfl plain (by kernel_rfl)
end Go.Proofs.YtbignmccpbccoaaDoor.freshTells
