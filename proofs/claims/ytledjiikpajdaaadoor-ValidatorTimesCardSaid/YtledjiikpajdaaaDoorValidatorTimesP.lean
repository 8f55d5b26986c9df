/-
  ValidatorTimes: ValidatorTimes: the card, tied to the tables' text.
  Conditions: the listed tables hold what the program's text lays (the card ties them).
-/
import Derived.Deep.DeepCutAuto
import Derived.Deep.RegionWith
import Derived.Test.YtledjiikpajdaaaDoorVtAllP2
import Derived.SizedLaws
import Derived.Carry
import Derived.Test.YtledjiikpajdaaaDoorVtAllP17
import Derived.Test.YtledjiikpajdaaaDoorVtAllP18
import Derived.Test.YtledjiikpajdaaaDoorVtAllP20
import Derived.WideKeyPair
namespace Go.Proofs.YtledjiikpajdaaaDoor.validatorTimes
open Go.ChangeShapes Go.WideShapes Go.ChangeAt Go.RowKit
open Go.ChangeMaps (open_string shut_string)
set_option linter.unusedVariables false

open Go.Proofs.YtledjiikpajdaaaDoor.Tk Go.Proofs.YtledjiikpajdaaaDoor.Fd Go.Proofs.YtledjiikpajdaaaDoor.Hd Go.Proofs.YtledjiikpajdaaaDoor.Ct Go.Proofs.YtledjiikpajdaaaDoor.Fh Go.Proofs.YtledjiikpajdaaaDoor.Vd Go.Proofs.YtledjiikpajdaaaDoor.Dt
def m0 (at_ : Int) : Mta := ⟨0, ⟨false, false, false, false, false, false, false, 0, 0, 0, 0, 0, 0⟩, 0, 0, at_, 0, 0, 0, ⟨#[]⟩⟩
/-- The Meta in memory, and what stays. -/
structure MW (w : World) (m : Mta) (W : World) : Prop where
  met : MetAt W w.heap.size m
  bel : Below w.heap.size w W
theorem MW.more {w W W' : World} {m : Mta} (h : MW w m W) (hb : Below W.heap.size W W') : MW w m W' := ⟨Bl.old hb (block_lt h.met) h.met, Bl.next h.bel hb⟩
theorem below_alloc (W : World) (o : Obj) : Below W.heap.size W (W.alloc o) := (Below.refl _ _).alloc (Nat.le_refl _) o
theorem mask32 (a : Int) : 0 ≤ bits .and .i64 a 4294967295 ∧ bits .and .i64 a 4294967295 ≤ 4294967295 := by
  have h1 : (BitVec.ofInt 64 a &&& BitVec.ofInt 64 (4294967295 : Int)).toNat ≤ 4294967295 := by
    rw [BitVec.toNat_and, show (4294967295 : Int) = ((4294967295 : Nat) : Int) from rfl, BitVec.ofInt_natCast, BitVec.toNat_ofNat]
    exact Nat.le_trans Nat.and_le_right (Nat.mod_le _ _)
  have h2 : bits .and .i64 a 4294967295 = IntKind.i64.wrap ((BitVec.ofInt 64 a &&& BitVec.ofInt 64 (4294967295 : Int)).toNat : Int) := rfl
  rw [h2, IntKind.wrap_i64]
  omega
theorem flds_one (W : World) (x y : ByteArray) : Flds (W.alloc (.cells #[.string x, .string y] 35)) (.slice (some ⟨W.heap.size, 0, none⟩) 1 1) [(x, y)] :=
  .inr ⟨W.heap.size, 0, 1, rfl, by simp, fun j hj => by
    obtain rfl : j = 0 := by simpa using hj
    exact ⟨two0 (new_block _ _), two1 (new_block _ _)⟩⟩
theorem flds_two (W : World) (x y z u : ByteArray) : Flds (W.alloc (.cells #[.string x, .string y, .string z, .string u] 35)) (.slice (some ⟨W.heap.size, 0, none⟩) 2 2) [(x, y), (z, u)] :=
  .inr ⟨W.heap.size, 0, 2, rfl, by simp, fun j hj => by
    have hj2 : j < 2 := by simpa using hj
    have h := new_block W (.cells #[.string x, .string y, .string z, .string u] 35)
    rcases (show j = 0 ∨ j = 1 by omega) with rfl | rfl
    · exact ⟨by rw [Lib.cell_of_heap h]; rfl, by rw [Lib.cell_of_heap h]; rfl⟩
    · exact ⟨by rw [Lib.cell_of_heap h]; rfl, by rw [Lib.cell_of_heap h]; rfl⟩⟩
theorem app_date (T : ByteArray) {at_ since : Int} (hT : Dp.parseD T.data.toList = (since, true)) : appOf [(ifrU, T), (rngU, xB)] [] at_ = (at_ == since) := by
  have h1 : ∀ v : ByteArray, has rngL (ifrU, v) = false := fun v => (show alike ifrU.data.toList rngL = false from by decide +kernel)
  have h2 : ∀ v : ByteArray, has ifrL (ifrU, v) = true := fun v => (show alike ifrU.data.toList ifrL = true from by decide +kernel)
  have h3 : has rngL (rngU, xB) = true := by decide +kernel
  have h4 : has ifrL (rngU, xB) = false := by decide +kernel
  have e1 : getN [(ifrU, T), (rngU, xB)] rngL = 1 := by unfold getN sel; simp [h1, h3]
  have e2 : getN [(ifrU, T), (rngU, xB)] ifrL = 1 := by unfold getN sel; simp [h2, h4]
  have e3 : getT [(ifrU, T), (rngU, xB)] ifrL = T.data.toList := by unfold getT sel; simp [h2, h4, joinC]
  unfold appOf
  rw [e1, e2, e3]
  unfold dateIs
  rw [hT, show parseTag [] = none from by decide, like_none]
  by_cases h : at_ = since
  · subst h; simp
  · have h' : ¬ since = at_ := fun e => h e.symm
    simp [h, h']
theorem app_bare (at_ : Int) : appOf [(rngU, xB)] [] at_ = true := by
  have e1 : getN [(rngU, xB)] rngL = 1 := by decide +kernel
  have e2 : getN [(rngU, xB)] ifrL = 0 := by decide +kernel
  unfold appOf
  rw [e1, e2]
  rfl
set_option maxRecDepth 100000 in
set_option maxHeartbeats 16000000 in
theorem walk_at (a0 a1 at_ since : Int) (w : World) (hE : DateEnv w) (h0 : bits .and .i64 a0 4294967295 = at_) (h1 : bits .and .i64 a1 4294967295 = since) (r0 : 0 ≤ at_) (r1 : at_ ≤ 4294967295) (r2 : 0 ≤ since) (r3 : since ≤ 4294967295) :
    Calls Tryd.prog 4 #[.int .i64 a0, .int .i64 a1] w fun e w' => e = .returned (.bool true) ∧ Below w.heap.size w w' := by
  have HE := Lib.hid hE
  clear hE
  obtain ⟨m, hm⟩ : ∃ m, m = m0 at_ := ⟨_, rfl⟩
  have hmod : m.mod = at_ := by rw [hm]; rfl
  have hmt : m.tag = ⟨#[]⟩ := by rw [hm]; rfl
  have e0 : #[.int .i64 0, .bool false, .bool false, .bool false, .bool false, .bool false, .bool false, .bool false, .int .i64 0, .int .i64 0, .int .i64 0, .int .i64 0, .int .i64 0, .int .i64 0, .int .i64 0, .int .i64 0, .int .i64 at_, .int .i64 0, .int .i64 0, .int .i64 0, .string ⟨#[]⟩] = mcells m := by rw [hm]; rfl
  have h0m : 0 ≤ m.mod := by omega
  have h1m : m.mod ≤ 253402300799 := by omega
  have R1 := Lib.hid (fun (T : ByteArray) (h : dateP T.data.toList = some since) => (show unchangedOf dateP (⟨#[71, 69, 84]⟩ : ByteArray).data.toList [(imsU, T)] m.tag.data.toList m.mod = decide (at_ ≤ since) from by rw [hmod, hmt]; exact times_since dateP T r0 h))
  have R2 := Lib.hid (fun (T : ByteArray) => (show unchangedOf dateP (⟨#[71, 69, 84]⟩ : ByteArray).data.toList [(imsU, T), (inmU, xV)] m.tag.data.toList m.mod = false from by rw [hmod, hmt]; exact times_tag dateP T at_))
  have R3 := Lib.hid (fun (T : ByteArray) (h : Dp.parseD T.data.toList = (since, true)) => (show appOf [(ifrU, T), (rngU, xB)] m.tag.data.toList m.mod = (at_ == since) from by rw [hmod, hmt]; exact app_date T h))
  have R4 := Lib.hid (show appOf [(rngU, xB)] m.tag.data.toList m.mod = true from by rw [hmod, hmt]; exact app_bare at_)
  obtain ⟨Z, N, hZ⟩ := size_met
  have z1 := hZ.is
  have z2 := hZ.run
  have HN := Lib.hid hZ.num
  have n2 : (mcells m).size = N := hZ.num ▸ rfl
  have p0 := put_met_at w w.heap.size rfl #[.int .i64 0, .bool false, .bool false, .bool false, .bool false, .bool false, .bool false, .bool false, .int .i64 0, .int .i64 0, .int .i64 0, .int .i64 0, .int .i64 0, .int .i64 0, .int .i64 0, .int .i64 0, .int .i64 0, .int .i64 0, .int .i64 0, .int .i64 0, .string ⟨#[]⟩] rfl m
  have H0 := Lib.hid (show MW w m (w.alloc (.cells (mcells m) 28)) from ⟨new_block _ _, below_alloc _ _⟩)
  have HMT := Lib.hid hmt
  clear hZ hm hmod
  go_enter Tryd.func4, Tryd.ntmps4
  go_wp2_with fail
  refine (Dp.rformat_in since _ r2 (by omega)).mono ?_
  rintro e w1 ⟨⟨y, k, d, rfl, hv, hd⟩, hb1⟩
  have H1 := Lib.hid (H0.out.more hb1)
  have HT := Lib.hid (parseD_form1 hv hd)
  have HTs := Lib.hid (show (Dp.B (Dp.form1 ((since / 86400 + 3) % 7).toNat y.toNat k d.toNat (since % 86400).toNat)).size = 29 from by
    obtain ⟨p1, p2, p3, p4⟩ := Dp.small_parts (sec := since) hv
    rw [Dp.B_size, Dp.form1_length _ _ _ _ _ p1 hv.k1])
  replace HT := Lib.hid (show Dp.parseD (Dp.B (Dp.form1 ((since / 86400 + 3) % 7).toNat y.toNat k d.toNat (since % 86400).toNat)).data.toList = (since, true) from by rw [Dp.B_list]; exact HT.out)
  clear hv hd hb1 p0 e0 H0
  generalize Dp.B (Dp.form1 ((since / 86400 + 3) % 7).toNat y.toNat k d.toNat (since % 86400).toNat) = T at HT HTs ⊢
  have hTs := HTs.out
  have HD := Lib.hid (show dateP T.data.toList = some since from by unfold dateP; rw [HT.out]; rfl)
  have l2 := (H1.out.more (below_alloc w1 (.cells #[.string ⟨#[73, 102, 45, 77, 111, 100, 105, 102, 105, 101, 100, 45, 83, 105, 110, 99, 101]⟩, .string T] 35))).met.load HN.out
  have F2 := Lib.hid (flds_one w1 (⟨#[73, 102, 45, 77, 111, 100, 105, 102, 105, 101, 100, 45, 83, 105, 110, 99, 101]⟩) T)
  have D2 := Lib.hid (HE.out.below (H1.out.bel.alloc H1.out.bel.size (.cells #[.string ⟨#[73, 102, 45, 77, 111, 100, 105, 102, 105, 101, 100, 45, 83, 105, 110, 99, 101]⟩, .string T] 35)) (Nat.le_refl _))
  go_wp2_with fail
  refine (unchanged_in ⟨#[71, 69, 84]⟩ ⟨#[]⟩ 0 (.slice (some ⟨w1.heap.size, 0, none⟩) 1 1) [(imsU, T)] m _ F2.out (by simp only [tot, List.map_cons, List.map_nil, List.sum_cons, List.sum_nil, hTs]; decide) (by rw [hmt]; decide) h0m h1m D2.out).mono ?_
  rintro e w2 ⟨rfl, hb⟩
  rw [R1.out T HD.out]
  have H2 := Lib.hid ((H1.out.more (below_alloc w1 (.cells #[.string ⟨#[73, 102, 45, 77, 111, 100, 105, 102, 105, 101, 100, 45, 83, 105, 110, 99, 101]⟩, .string T] 35))).more hb)
  clear l2 hb F2 D2 H1
  have l3 := (H2.out.more (below_alloc w2 (.cells #[.string ⟨#[73, 102, 45, 77, 111, 100, 105, 102, 105, 101, 100, 45, 83, 105, 110, 99, 101]⟩, .string T, .string ⟨#[73, 102, 45, 78, 111, 110, 101, 45, 77, 97, 116, 99, 104]⟩, .string ⟨#[34, 120, 34]⟩] 35))).met.load HN.out
  have F3 := Lib.hid (flds_two w2 (⟨#[73, 102, 45, 77, 111, 100, 105, 102, 105, 101, 100, 45, 83, 105, 110, 99, 101]⟩) T (⟨#[73, 102, 45, 78, 111, 110, 101, 45, 77, 97, 116, 99, 104]⟩) (⟨#[34, 120, 34]⟩))
  have D3 := Lib.hid (HE.out.below (H2.out.bel.alloc H2.out.bel.size (.cells #[.string ⟨#[73, 102, 45, 77, 111, 100, 105, 102, 105, 101, 100, 45, 83, 105, 110, 99, 101]⟩, .string T, .string ⟨#[73, 102, 45, 78, 111, 110, 101, 45, 77, 97, 116, 99, 104]⟩, .string ⟨#[34, 120, 34]⟩] 35)) (Nat.le_refl _))
  go_wp2_with fail
  refine (unchanged_in ⟨#[71, 69, 84]⟩ ⟨#[]⟩ 0 (.slice (some ⟨w2.heap.size, 0, none⟩) 2 2) [(imsU, T), (inmU, xV)] m _ F3.out (by simp only [tot, List.map_cons, List.map_nil, List.sum_cons, List.sum_nil, hTs]; decide) (by rw [hmt]; decide) h0m h1m D3.out).mono ?_
  rintro e w3 ⟨rfl, hb⟩
  rw [R2.out T]
  have H3 := Lib.hid ((H2.out.more (below_alloc w2 (.cells #[.string ⟨#[73, 102, 45, 77, 111, 100, 105, 102, 105, 101, 100, 45, 83, 105, 110, 99, 101]⟩, .string T, .string ⟨#[73, 102, 45, 78, 111, 110, 101, 45, 77, 97, 116, 99, 104]⟩, .string ⟨#[34, 120, 34]⟩] 35))).more hb)
  clear l3 hb F3 D3 H2
  have l4 := (H3.out.more (below_alloc w3 (.cells #[.string ⟨#[73, 102, 45, 82, 97, 110, 103, 101]⟩, .string T, .string ⟨#[82, 97, 110, 103, 101]⟩, .string ⟨#[120]⟩] 35))).met.load HN.out
  have F4 := Lib.hid (flds_two w3 (⟨#[73, 102, 45, 82, 97, 110, 103, 101]⟩) T (⟨#[82, 97, 110, 103, 101]⟩) (⟨#[120]⟩))
  have D4 := Lib.hid (HE.out.below (H3.out.bel.alloc H3.out.bel.size (.cells #[.string ⟨#[73, 102, 45, 82, 97, 110, 103, 101]⟩, .string T, .string ⟨#[82, 97, 110, 103, 101]⟩, .string ⟨#[120]⟩] 35)) (Nat.le_refl _))
  go_wp2_with fail
  refine (applies_get ⟨#[]⟩ 0 (.slice (some ⟨w3.heap.size, 0, none⟩) 2 2) [(ifrU, T), (rngU, xB)] m _ F4.out (by simp only [tot, List.map_cons, List.map_nil, List.sum_cons, List.sum_nil, hTs]; decide) (by rw [hmt]; decide) D4.out).mono ?_
  rintro e w4 ⟨rfl, hb⟩
  rw [R3.out T HT.out]
  have H4 := Lib.hid ((H3.out.more (below_alloc w3 (.cells #[.string ⟨#[73, 102, 45, 82, 97, 110, 103, 101]⟩, .string T, .string ⟨#[82, 97, 110, 103, 101]⟩, .string ⟨#[120]⟩] 35))).more hb)
  clear l4 hb F4 D4 H3
  have l5 := (H4.out.more (below_alloc w4 (.cells #[.string ⟨#[82, 97, 110, 103, 101]⟩, .string ⟨#[120]⟩] 35))).met.load HN.out
  have F5 := Lib.hid (flds_one w4 (⟨#[82, 97, 110, 103, 101]⟩) (⟨#[120]⟩))
  have D5 := Lib.hid (HE.out.below (H4.out.bel.alloc H4.out.bel.size (.cells #[.string ⟨#[82, 97, 110, 103, 101]⟩, .string ⟨#[120]⟩] 35)) (Nat.le_refl _))
  go_wp2_with fail
  refine (applies_get ⟨#[]⟩ 0 (.slice (some ⟨w4.heap.size, 0, none⟩) 1 1) [(rngU, xB)] m _ F5.out (by decide) (by rw [hmt]; decide) D5.out).mono ?_
  rintro e w5 ⟨rfl, hb⟩
  rw [R4.out]
  have H5 := Lib.hid ((H4.out.more (below_alloc w4 (.cells #[.string ⟨#[82, 97, 110, 103, 101]⟩, .string ⟨#[120]⟩] 35))).more hb)
  clear l5 hb F5 D5 H4
  clear z1 z2 n2
  go_wp2_with fail
  go_ret
  exact ⟨by simp, H5.out.bel⟩
theorem walk (a0 : Int) (w0 : (Lit.int .i64 a0).wf = true) (a1 : Int) (w1 : (Lit.int .i64 a1).wf = true) (w : World) (hP : Tb.P10 w) (hmd : Dp.MD w) (hwd : Dp.WD w) (hmn : Dp.MN w) (hfm : Dp.FM w) :
    Calls Tryd.prog 4 #[.int .i64 a0, .int .i64 a1] w fun e w' => e = .returned (.bool true) ∧ Below w.heap.size w w' :=
  walk_at a0 a1 _ _ w ⟨⟨hmd, hwd, hmn⟩, hfm, hP⟩ rfl rfl (mask32 a0).1 (mask32 a0).2 (mask32 a1).1 (mask32 a1).2

set_option maxHeartbeats 2000000 in
set_option maxRecDepth 100000 in
theorem contract (H : Type) (enc : TypeId × Value → H) (W : World) (base : Nat) (args : Array Value) (ds gs : List (DataW H)) (before : List MemPlace)
    (hval : ∀ (j : Nat) t v, Tryd.f4.params[j]? = some t → args[j]? = some v → Value.okWide Tryd.prog W .any base t v)
    (hW : DataW.Whole enc Tryd.prog Tryd.f4.params.toList Rows.validatorTimesSpec.vars false W args.toList ds gs before) (ts : List TypeId) (hsz : (DataW.weightsEach Tryd.prog (Tryd.f4.params.toList ++ ts) (ds ++ gs)).all (· ≤ reachBytes) = true) (hL : laidMetH Tryd.prog Rows.validatorTimesRow.laid W) :
    Calls Tryd.prog 4 args W fun e W' => ∃ v, e = .returned v ∧ Rows.validatorTimesSpec.post enc Tryd.prog Tryd.f4 false true false false W args v W' := by
  have hW' := hW
  obtain ⟨p, q, hA0, hV, rfl, hfz, hnd⟩ := hW
  have hA : DataW.TrodAll enc Tryd.prog W 0 (fun _ => true) true Tryd.f4.params.toList args.toList ds p := hA0
  rw [Tryd.params4] at hA hval hsz
  obtain ⟨v0, vs0, d0, ds0, p0, q0, hargs, rfl, rfl, h0, r0⟩ := trodAll_cons hA
  obtain ⟨v1, vs1, d1, ds1, p1, q1, rfl, rfl, rfl, h1, r1⟩ := trodAll_cons r0
  obtain ⟨rfl, rfl, rfl⟩ := trodAll_nil r1
  obtain rfl : args = #[v0, v1] := by cases args; simp_all
  obtain ⟨rfl, rfl⟩ := trodVars_none hV
  obtain ⟨a0, rfl, rfl, rfl, w0⟩ := open_int Tryd.underlying3 (hval 0 3 v0 rfl rfl) h0
  obtain ⟨a1, rfl, rfl, rfl, w1⟩ := open_int Tryd.underlying3 (hval 1 3 v1 rfl rfl) h1
  clear hA0
  simp only [List.append_nil] at hW'
  refine (walk a0 w0 a1 w1 W (Tb.p10_of_head (Tb.tail (Tb.tail hL))) (Tb.md_of_head (Tb.tail (Tb.tail (Tb.tail (Tb.tail (Tb.tail hL)))))) (Tb.wd_of_head (Tb.tail (Tb.tail (Tb.tail hL)))) (Tb.mn_of_head (Tb.tail (Tb.tail (Tb.tail (Tb.tail hL))))) (Tb.fm_of_head (Tb.tail (Tb.tail (Tb.tail (Tb.tail (Tb.tail (Tb.tail hL)))))))).mono fun e W' ⟨he, bel⟩ => ?_
  subst he
  exact ⟨_, rfl, _, _, _, [], _, [], hW', trodAll_mk1 (shut_bool Tryd.underlying4 _), (trodAll_cons_mk (shut_int Tryd.underlying3 w0) (trodAll_cons_mk (shut_int Tryd.underlying3 w1) trodAll_mk0)), rfl, bel.frame _, fun h => by cases h⟩

theorem laid_met (os : Os) : laidMet Tryd.prog Rows.validatorTimesRow.laid ((Tb.laidWorld os).forCall (fun _ _ => 0) ⟨#[], #[.int .i64 0, .int .i64 0], []⟩).memory :=
  laidMet_of_run' 8 (by kernel_rfl) (by kernel_rfl)
theorem reads (os : Os) {H : Type} (enc : TypeId × Value → H) : ∃ places, DataW.whole enc Tryd.prog ((Tb.laidWorld os).forCall (fun _ _ => 0) ⟨#[], #[.int .i64 0, .int .i64 0], []⟩).memory Tryd.f4.params.toList Rows.validatorTimesSpec.vars false (#[.int .i64 0, .int .i64 0] : Array Value).toList 8 = some ([.lit (.int .i64 0), .lit (.int .i64 0)], [], places) :=
  ⟨[], by kernel_rfl⟩

set_option maxRecDepth 100000 in
theorem lifted (os : Os) (started : os.Started) (H : Type) (enc : TypeId × Value → H) (F : Stop.Interp) :
    ReturnsInHanded {} Tryd.checked os 4 .any ((OpenSpec.ofChange Rows.validatorTimesSpec).preRow enc Tryd.prog Tryd.f4 Rows.validatorTimesRow.domain false Rows.validatorTimesRow.laid) (((OpenSpec.ofChange Rows.validatorTimesSpec).at F).post enc Tryd.prog Tryd.f4 false true false false) := by
  obtain ⟨places, hx⟩ := reads os enc
  refine returnsInHanded_of_row (C := Tryd.checked) (s := OpenSpec.ofChange Rows.validatorTimesSpec) Tb.own started (by kernel_rfl) Tryd.func4
    (witness_row_at (enc := enc) (C := Tryd.checked) false (Tb.laidWorld os) #[.int .i64 0, .int .i64 0] rfl (by kernel_rfl) (by kernel_rfl) (by kernel_rfl)
      (OpenSpec.preRow_of_cond 8 hx (by kernel_rfl) (fun k hk => by cases hk) (by kernel_rfl) (laid_met os))) ?_
  intro W base args ds gs before hval hW _ _ hsz hL _ _
  exact contract H enc W base args ds gs before hval hW _ hsz hL

theorem said : Rows.ValidatorTimesSaid :=
  OpenClaim.holds_of_cond 4 Tryd.f4 rfl rfl rfl rfl rfl rfl rfl ⟨rfl, rfl, rfl, rfl, rfl⟩ rfl rfl rfl rfl rfl (by kernel_rfl) Tryd.func4 (by kernel_rfl)
    (of_decide_eq_true (by kernel_rfl)) (by unfold Func.isWrapper; first | (rw [if_pos (by decide +kernel)]; kernel_rfl) | (rw [if_neg (by decide +kernel)]; exact ⟨rfl, rfl⟩))
    (fun os started H enc _ F => by rw [OpenClaim.pre_eq_preRow]; exact lifted os started H enc F)

set_option maxRecDepth 100000 in
theorem plain (f : FuncId) (fn : Func) (hf : Tryd.pinned.checked.prog.funcNamed "gatepost/gatepostlaw12.ValidatorTimes" = some f) (hfn : Tryd.pinned.checked.prog.funcs[f]? = some fn) :
    false = Tryd.pinned.checked.prog.looks [] ∧ ∀ (j : Nat) t, fn.params[j]? = some t → Tryd.pinned.checked.prog.wantsStandIn t = false := by
  obtain rfl : f = 4 := Option.some.inj ((show Tryd.prog.funcNamed "gatepost/gatepostlaw12.ValidatorTimes" = some 4 by kernel_rfl).symm.trans hf) |>.symm
  obtain rfl : fn = Tryd.f4 := (Option.some.inj (Tryd.func4.symm.trans hfn)).symm
  refine ⟨by kernel_rfl, fun j t ht => ?_⟩
  rw [Tryd.params4] at ht
  have hm := Array.mem_of_getElem? ht
  simp at hm
  subst hm
  exact (show Tryd.prog.wantsStandIn 3 = false by kernel_rfl)

theorem card : Rows.ValidatorTimesCardSaid :=
  Claim7.holds_tied_plain_at .later [] _ _ _ _ said (fun _ h => by cases h) (by kernel_rfl) (fun _ h => by cases h) validatorTimes_row_tie rfl ⟨rfl, rfl⟩ (by kernel_rfl) rfl plain (by kernel_rfl)
end Go.Proofs.YtledjiikpajdaaaDoor.validatorTimes
