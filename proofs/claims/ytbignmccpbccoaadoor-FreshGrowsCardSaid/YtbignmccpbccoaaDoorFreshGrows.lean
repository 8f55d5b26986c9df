/-
  FreshGrows: a response grows older by a second each second; one that must be asked for anew does not become fresh by time alone; one that is fresh becomes stale just when its age comes to its lifetime.
  Conditions: the listed tables hold what the program's text lays (the card ties them).
-/
import Derived.Deep.DeepCutAuto
import Derived.Deep.RegionWith
import Derived.Test.YtbignmccpbccoaaDoorTabs
import Derived.Test.YtbignmccpbccoaaDoorApMeta
import Derived.SizedLaws
import Derived.Carry
import Derived.Test.YtbignmccpbccoaaDoorFhLaw
import Derived.WideKeyPair
namespace Go.Proofs.YtbignmccpbccoaaDoor.freshGrows
open Go.ChangeShapes Go.WideShapes Go.ChangeAt Go.RowKit
open Go.ChangeMaps (open_string shut_string)
set_option linter.unusedVariables false

theorem arr2 : WideMaps.ArrKey Tryd.prog 31 3 2 := ⟨Tryd.underlying31, by kernel_rfl, by kernel_rfl, by kernel_rfl⟩
open Go.Proofs.YtbignmccpbccoaaDoor.Fd Go.Proofs.YtbignmccpbccoaaDoor.Ct Go.Proofs.YtbignmccpbccoaaDoor.Fh
theorem mask2 (a : Int) (m : Nat) (hm : m < 9223372036854775808) : 0 ≤ bits .and .i64 a (m : Int) ∧ bits .and .i64 a (m : Int) ≤ (m : Int) := by
  have h1 : (BitVec.ofInt 64 a &&& BitVec.ofInt 64 (m : Int)).toNat ≤ m := by
    rw [BitVec.toNat_and, BitVec.ofInt_natCast, BitVec.toNat_ofNat]
    exact Nat.le_trans Nat.and_le_right (Nat.mod_le _ _)
  have h2 : bits .and .i64 a (m : Int) = IntKind.i64.wrap ((BitVec.ofInt 64 a &&& BitVec.ofInt 64 (m : Int)).toNat : Int) := rfl
  rw [h2, IntKind.wrap_i64]
  omega
/-- Two numbers in a block. -/
def PairAt (w : World) (g : Nat) (a b : Int) : Prop := w.heap[g]? = some (.cells #[.int .i64 a, .int .i64 b] 31 (0, 0))
/-- A Meta whose seconds are small, and two numbers, in memory. -/
def Small (w : World) (a b : Int) (wx : World) : Prop := ∃ m1 : Mta, 0 ≤ m1.got ∧ m1.got ≤ 1073741824 ∧ m1.age ≤ 536870912 ∧ Has w [(w.heap.size, m1)] [] wx ∧ PairAt wx (w.heap.size + 1) a b
/-- Is a second too great? -/
def great (m : Mta) : Bool := decide (m.got < 0) || decide (1073741824 < m.got) || decide (536870912 < m.age) || decide (1073741824 < m.date) || decide (1073741824 < m.ask)
theorem great_no {m : Mta} (h : great m = false) : 0 ≤ m.got ∧ m.got ≤ 1073741824 ∧ m.age ≤ 536870912 := by
  unfold great at h
  simp only [Bool.or_eq_false_iff, decide_eq_false_iff_not] at h
  omega
theorem small_of (m : Mta) (a b : Int) (w : World) (h1 : 0 ≤ m.got) (h2 : m.got ≤ 1073741824) (h3 : m.age ≤ 536870912) : Small w a b ((w.alloc (.cells (mcells m) 25)).alloc (.cells #[.int .i64 a, .int .i64 b] 31)) := by
  have hb : Below (w.alloc (.cells (mcells m) 25)).heap.size (w.alloc (.cells (mcells m) 25)) ((w.alloc (.cells (mcells m) 25)).alloc (.cells #[.int .i64 a, .int .i64 b] 31)) := (Below.refl _ _).alloc (Nat.le_refl _) _
  exact ⟨m, h1, h2, h3, ((has_new w).addM m).more hb, new_block' _ _ (by simp)⟩
theorem cut_down (m : Mta) (x y z u : Int) : ((((mcells m).setIfInBounds 19 (.int .i64 x)).setIfInBounds 17 (.int .i64 y)).setIfInBounds 14 (.int .i64 z)).setIfInBounds 18 (.int .i64 u) = mcells { m with got := x, age := y, date := z, ask := u } := rfl
theorem small_cut (m : Mta) (a b x y z u : Int) (w : World) (bx : 0 ≤ x ∧ x ≤ 65535) (hy : y ≤ 255) : Small w a b ((w.alloc (.cells (((((mcells m).setIfInBounds 19 (.int .i64 x)).setIfInBounds 17 (.int .i64 y)).setIfInBounds 14 (.int .i64 z)).setIfInBounds 18 (.int .i64 u)) 25)).alloc (.cells #[.int .i64 a, .int .i64 b] 31)) := by
  rw [cut_down]
  exact small_of _ a b w bx.1 (by show x ≤ _; omega) (by show y ≤ _; omega)
theorem has_drewN {w : World} {l : List (Nat × Mta)} {k : List (Nat × Con)} {W : World} (h : Has w l k W) (n : Nat) : Has w l k (W.drewN n) := ⟨h.mets, h.cons, Bl.drewN h.bel n⟩
theorem gl_law {w : World} {l : List (Nat × Mta)} {k : List (Nat × Con)} {W : World} (h : Has w l k W) {g : Nat} {m : Mta} (hm : (g, m) ∈ l) {a : Nat} {c : Con} (h1 : (a, c) ∈ k) {N M : Nat} (hN : N = 21) (hM : M = 13) :
    (loadCellsFrom ⟨g, 0, none⟩ 0 N #[]).run Tryd.prog W = .ok (mcells m) W ∧ (loadCellsFrom ⟨a, 0, none⟩ 0 M #[]).run Tryd.prog W = .ok (cells c) W ∧ Has w l k W := ⟨(h.m hm).load hN, conAt_load (h.c h1) hM, h⟩
set_option maxRecDepth 100000 in
set_option maxHeartbeats 16000000 in
theorem walk (m : Mta) (ok0 : MetOk m) (by0 by1 : Int) (w1 : (Lit.int .i64 by0).wf = true) (u1 : (Lit.int .i64 by1).wf = true) (w : World) (hC : Fh.Codes w) :
    Calls Tryd.prog 4 #[.agg (mcells m), .agg #[.int .i64 by0, .int .i64 by1]] w fun e w' => e = .returned (.bool true) ∧ Below w.heap.size w w' := by
  have HC := Lib.hid hC
  have hg := hC.lt
  have H0 := Lib.hid ((has_new w).addM m)
  have q14 : (mcells m)[14]? = some (.int .i64 m.date) := rfl
  have q17 : (mcells m)[17]? = some (.int .i64 m.age) := rfl
  have q18 : (mcells m)[18]? = some (.int .i64 m.ask) := rfl
  have q19 : (mcells m)[19]? = some (.int .i64 m.got) := rfl
  clear hC ok0 w1 u1
  go_enter Tryd.func4, Tryd.ntmps4
  go_upto_region 1 with fail
  go_cut [35] (fun s wx => s = .bool (great m) ∧ (w.alloc (.cells (mcells m) 25)).alloc (.cells #[.int .i64 by0, .int .i64 by1] 31) = wx)
  case first =>
    by_cases h1 : m.got < 0
    · have HG := Lib.hid (show great m = true from by unfold great; simp [h1])
      go_wp2_with fail
      go_meet
      exact ⟨by rw [HG.out], rfl⟩
    · by_cases h2 : 1073741824 < m.got
      · have HG := Lib.hid (show great m = true from by unfold great; simp [h2])
        go_wp2_with fail
        go_meet
        exact ⟨by rw [HG.out], rfl⟩
      · by_cases h3 : 536870912 < m.age
        · have HG := Lib.hid (show great m = true from by unfold great; simp [h3])
          go_wp2_with fail
          go_meet
          exact ⟨by rw [HG.out], rfl⟩
        · by_cases h4 : 1073741824 < m.date
          · have HG := Lib.hid (show great m = true from by unfold great; simp [h4])
            go_wp2_with fail
            go_meet
            exact ⟨by rw [HG.out], rfl⟩
          · have HG := Lib.hid (show great m = decide (1073741824 < m.ask) from by unfold great; simp [h1, h2, h3, h4])
            go_wp2_with fail
            go_meet
            exact ⟨by rw [HG.out], rfl⟩
  case rest =>
    obtain ⟨rfl, hwx⟩ := hcut
    go_upto_if 35 with fail
    go_cut [] (fun wx => Small w by0 by1 wx)
    case first =>
      subst hwx
      cases hgr : great m with
      | false =>
        have HS := Lib.hid (small_of m by0 by1 w (great_no hgr).1 (great_no hgr).2.1 (great_no hgr).2.2)
        clear hgr
        go_wp2_with fail
        go_meet
        exact HS.out
      | true =>
        obtain ⟨x, hx⟩ : ∃ x, bits .and .i64 m.got 65535 = x := ⟨_, rfl⟩
        obtain ⟨y, hy⟩ : ∃ y, bits .and .i64 m.age 255 = y := ⟨_, rfl⟩
        obtain ⟨z, hz⟩ : ∃ z, bits .and .i64 m.date 65535 = z := ⟨_, rfl⟩
        obtain ⟨u, hu⟩ : ∃ u, bits .and .i64 m.ask 65535 = u := ⟨_, rfl⟩
        have bx : 0 ≤ x ∧ x ≤ 65535 := by rw [← hx]; exact mask2 m.got 65535 (by decide)
        have b_y : 0 ≤ y ∧ y ≤ 255 := by rw [← hy]; exact mask2 m.age 255 (by decide)
        clear hgr
        go_wp2_with fail
        go_meet
        exact small_cut m by0 by1 x y z u w bx b_y.2
    case rest =>
      obtain ⟨m1, b1, b2, b3, H1, hP⟩ := hcut
      clear q14 q17 q18 q19 H0 hwx
      obtain ⟨a, ha⟩ : ∃ a, bits .and .i64 by0 1048575 = a := ⟨_, rfl⟩
      obtain ⟨b, hb⟩ : ∃ b, bits .and .i64 by1 1048575 = b := ⟨_, rfl⟩
      have ba : 0 ≤ a ∧ a ≤ 1048575 := by rw [← ha]; exact mask2 by0 1048575 (by decide)
      have bb : 0 ≤ b ∧ b ≤ 1048575 := by rw [← hb]; exact mask2 by1 1048575 (by decide)
      have bX := ageOf_bd m1 (m1.got + a)
      have bM : mostA = 2147483648 := rfl
      rw [bM] at bX
      obtain ⟨X, hX⟩ : ∃ X, ageOf m1 (m1.got + a) = X := ⟨_, rfl⟩
      obtain ⟨L, hL⟩ : ∃ L, lifeOf m1 = L := ⟨_, rfl⟩
      have hY : ageOf m1 (m1.got + a + b) = X + b := by rw [← hX]; exact age_grows m1 b1 b2 b3 a b ba.1 ba.2 bb.1 bb.2
      obtain ⟨S, hS⟩ : ∃ S, stateOf m1 cplain (m1.got + a) = S := ⟨_, rfl⟩
      obtain ⟨U, hU⟩ : ∃ U, stateOf m1 cplain (m1.got + a + b) = U := ⟨_, rfl⟩
      have hSU : S ≤ U := by rw [← hS, ← hU]; unfold stateOf; rw [hX, hY]; exact state_older plain_is (by omega)
      have HF := Lib.hid (show m1.con.nc = false → (S = 0 ↔ X < L) from fun h => by rw [← hS, ← hL]; unfold stateOf; rw [hX]; exact state_fresh plain_is _ _ h)
      have dSU : decide (U < S) = false := by simp; exact hSU
      rw [hX] at bX
      have HX := Lib.hid hX
      have HY := Lib.hid hY
      have HS := Lib.hid hS
      have HU := Lib.hid hU
      have HL := Lib.hid hL
      obtain ⟨Z, N, hZ⟩ := size_met
      have z1 := hZ.is
      have z2 := hZ.run
      have HN := Lib.hid hZ.num
      obtain ⟨Z', M, hZ'⟩ := size_con
      have y1 := hZ'.is
      have y2 := hZ'.run
      have HM := Lib.hid hZ'.num
      have y5 : ¬ M = 0 := by rw [hZ'.num]; decide
      have e0 : (#[.bool false, .bool false, .bool false, .bool false, .bool false, .bool false, .bool false, .int .i64 (-1), .int .i64 0, .int .i64 0, .int .i64 0, .int .i64 (-1), .int .i64 (-1)] : Array Value) = cells cplain := rfl
      have n1 : (cells cplain).size = M := hZ'.num ▸ rfl
      have c0 : wc.cell? ⟨w.heap.size + 1, 0, none⟩ = some (.int .i64 by0) := by rw [Lib.cell_of_heap hP]; rfl
      have c1 : wc.cell? ⟨w.heap.size + 1, 1, none⟩ = some (.int .i64 by1) := by rw [Lib.cell_of_heap hP]; rfl
      have H := Lib.hid H1
      clear hX hY hL hS hU hZ hZ' hP bM H1
      go_upto_region 3 with fail
      go_quiet (fail)
      have H3 := Lib.hid (has_drewN H.out nq)
      generalize wc.drewN nq = W3 at H3 ⊢
      have g1 := (H3.out.m (g := w.heap.size) (m := m1) (by simp)).got
      have p1 := put_con_at W3 W3.heap.size rfl #[.bool false, .bool false, .bool false, .bool false, .bool false, .bool false, .bool false, .int .i64 0, .int .i64 0, .int .i64 0, .int .i64 0, .int .i64 0, .int .i64 0] rfl cplain
      have H4 := Lib.hid (H3.out.addC cplain)
      clear ha hb c0 c1 H
      go_upto_region 6 with fail
      clear p1 g1 e0
      replace H4 := Lib.hid H4.out.drew
      have hwr : IntKind.i64.wrap (m1.got + a + b) = m1.got + a + b := IntWalk.i64_in _ (by omega)
      go_region_held3 (fun W => (loadCellsFrom ⟨w.heap.size, 0, none⟩ 0 N #[]).run Tryd.prog W = .ok (mcells m1) W ∧ Has w [(w.heap.size, m1)] [(W3.heap.size, cplain)] W)
        (exact ld_met H4.out (by simp) HN.out)
        ((go_at_call 8; refine (age_any m1 _ _).mono ?_; rintro e w1 ⟨rfl, hb⟩; (first | rw [HX.out] | rw [HY.out]); replace H4 := Lib.hid (H4.out.more hb); clear hb))
      clear hwr
      go_upto_region 9 with (go_at_call 14; refine (heur_any _ _ (HC.out.below H4.out.bel hg)).mono ?_; rintro e w1 ⟨rfl, rfl⟩; rw [show heurOf 200 = true from rfl])
      replace H4 := Lib.hid H4.out.drew
      have hwr : IntKind.i64.wrap (m1.got + a + b) = m1.got + a + b := IntWalk.i64_in _ (by omega)
      go_region_held3 (fun W => (loadCellsFrom ⟨w.heap.size, 0, none⟩ 0 N #[]).run Tryd.prog W = .ok (mcells m1) W ∧ (loadCellsFrom ⟨W3.heap.size, 0, none⟩ 0 M #[]).run Tryd.prog W = .ok (cells cplain) W ∧ Has w [(w.heap.size, m1)] [(W3.heap.size, cplain)] W)
        (exact gl_law H4.out (by simp) (by simp) HN.out HM.out)
        ((go_at_call 12; refine (goState_any m1 _ _ _ (HC.out.below H4.out.bel hg)).mono ?_; rintro e w1 ⟨rfl, hb⟩; (first | rw [HS.out] | rw [HU.out]); replace H4 := Lib.hid (H4.out.more hb); clear hb))
      clear hwr
      have l5 := (H4.out.m (g := w.heap.size) (m := m1) (by simp)).load HN.out
      have c5 := (H4.out.m (g := w.heap.size) (m := m1) (by simp)).nc
      cases hnc : m1.con.nc with
      | true =>
        clear HF
        go_wp2_with fail
        go_ret
        exact ⟨rfl, H4.out.bel⟩
      | false =>
        have hf := HF.out hnc
        by_cases hl : X < L
        · have hs := hf.2 hl
          subst hs
          have dl : decide (X < L) = true := by simp; exact hl
          clear hf HF hl
          go_wp2_with fail
          refine (life_any m1 _ (HC.out.below H4.out.bel hg)).mono ?_
          rintro e w9 ⟨rfl, hb⟩
          rw [HL.out]
          have H9 := Lib.hid (H4.out.more hb)
          clear hb
          go_wp2_with fail
          go_ret
          exact ⟨rfl, H9.out.bel⟩
        · have hs : ¬ S = 0 := fun h => hl (hf.1 h)
          have ds : (S == 0) = false := beq_eq_false_iff_ne.2 hs
          have dl : decide (X < L) = false := by simp; omega
          clear hf HF hl hs
          go_wp2_with fail
          refine (life_any m1 _ (HC.out.below H4.out.bel hg)).mono ?_
          rintro e w9 ⟨rfl, hb⟩
          rw [HL.out]
          have H9 := Lib.hid (H4.out.more hb)
          clear hb
          go_wp2_with fail
          go_ret
          exact ⟨rfl, H9.out.bel⟩

set_option maxHeartbeats 2000000 in
set_option maxRecDepth 100000 in
theorem contract (H : Type) (enc : TypeId × Value → H) (W : World) (base : Nat) (args : Array Value) (ds gs : List (DataW H)) (before : List MemPlace)
    (hval : ∀ (j : Nat) t v, Tryd.f4.params[j]? = some t → args[j]? = some v → Value.okWide Tryd.prog W .any base t v)
    (hW : DataW.Whole enc Tryd.prog Tryd.f4.params.toList Rows.freshGrowsSpec.vars false W args.toList ds gs before) (ts : List TypeId) (hsz : (DataW.weightsEach Tryd.prog (Tryd.f4.params.toList ++ ts) (ds ++ gs)).all (· ≤ reachBytes) = true) (hL : laidMetH Tryd.prog Rows.freshGrowsRow.laid W) :
    Calls Tryd.prog 4 args W fun e W' => ∃ v, e = .returned v ∧ Rows.freshGrowsSpec.post enc Tryd.prog Tryd.f4 false true false false W args v W' := by
  have hW' := hW
  obtain ⟨p, q, hA0, hV, rfl, hfz, hnd⟩ := hW
  have hA : DataW.TrodAll enc Tryd.prog W 0 (fun _ => true) true Tryd.f4.params.toList args.toList ds p := hA0
  rw [Tryd.params4] at hA hval hsz
  obtain ⟨v0, vs0, d0, ds0, p0, q0, hargs, rfl, rfl, h0, r0⟩ := trodAll_cons hA
  obtain ⟨v1, vs1, d1, ds1, p1, q1, rfl, rfl, rfl, h1, r1⟩ := trodAll_cons r0
  obtain ⟨rfl, rfl, rfl⟩ := trodAll_nil r1
  obtain rfl : args = #[v0, v1] := by cases args; simp_all
  obtain ⟨rfl, rfl⟩ := trodVars_none hV
  have k0 := h0
  have lt0 : ∀ x ∈ p0, x.block < W.heap.size := by obtain ⟨m, hm⟩ := k0; exact DataW.trod_lt m _ _ _ hm
  obtain ⟨c0, rfl, ok0⟩ := Ct.open_met (hval 0 25 v0 rfl rfl) h0
  obtain ⟨a1, b1, rfl, rfl, rfl, w1, u1⟩ := WideMaps.open_pair arr2 Tryd.underlying3 (hval 1 31 v1 rfl rfl) h1
  clear hA0
  simp only [List.append_nil] at hW'
  refine (walk c0 ok0 a1 b1 w1 u1 W (Tb.kept_of_head hL)).mono fun e W' ⟨he, bel⟩ => ?_
  subst he
  exact ⟨_, rfl, _, _, _, [], _, [], hW', trodAll_mk1 (shut_bool Tryd.underlying4 _), (trodAll_cons_mk (Below.trod Tb.laidOut (by kernel_rfl) (of_decide_eq_true (by kernel_rfl)) k0 bel lt0) (trodAll_cons_mk (WideMaps.shut_pair arr2 Tryd.underlying3 w1 u1) trodAll_mk0)), rfl, bel.frame _, fun h => by cases h⟩

theorem laid_met (os : Os) : laidMet Tryd.prog Rows.freshGrowsRow.laid ((Tb.laidWorld os).forCall (fun _ _ => 0) ⟨#[], #[.agg #[.int .i64 0, .bool false, .bool false, .bool false, .bool false, .bool false, .bool false, .bool false, .int .i64 0, .int .i64 0, .int .i64 0, .int .i64 0, .int .i64 0, .int .i64 0, .int .i64 0, .int .i64 0, .int .i64 0, .int .i64 0, .int .i64 0, .int .i64 0, .string ByteArray.empty], .agg #[.int .i64 0, .int .i64 0]], []⟩).memory :=
  laidMet_of_run' 8 (by kernel_rfl) (by kernel_rfl)
theorem reads (os : Os) {H : Type} (enc : TypeId × Value → H) : ∃ places, DataW.whole enc Tryd.prog ((Tb.laidWorld os).forCall (fun _ _ => 0) ⟨#[], #[.agg #[.int .i64 0, .bool false, .bool false, .bool false, .bool false, .bool false, .bool false, .bool false, .int .i64 0, .int .i64 0, .int .i64 0, .int .i64 0, .int .i64 0, .int .i64 0, .int .i64 0, .int .i64 0, .int .i64 0, .int .i64 0, .int .i64 0, .int .i64 0, .string ByteArray.empty], .agg #[.int .i64 0, .int .i64 0]], []⟩).memory Tryd.f4.params.toList Rows.freshGrowsSpec.vars false (#[.agg #[.int .i64 0, .bool false, .bool false, .bool false, .bool false, .bool false, .bool false, .bool false, .int .i64 0, .int .i64 0, .int .i64 0, .int .i64 0, .int .i64 0, .int .i64 0, .int .i64 0, .int .i64 0, .int .i64 0, .int .i64 0, .int .i64 0, .int .i64 0, .string ByteArray.empty], .agg #[.int .i64 0, .int .i64 0]] : Array Value).toList 8 = some ([.agg [.lit (.int .i64 0), .agg [.lit (.bool false), .lit (.bool false), .lit (.bool false), .lit (.bool false), .lit (.bool false), .lit (.bool false), .lit (.bool false), .lit (.int .i64 0), .lit (.int .i64 0), .lit (.int .i64 0), .lit (.int .i64 0), .lit (.int .i64 0), .lit (.int .i64 0)], .lit (.int .i64 0), .lit (.int .i64 0), .lit (.int .i64 0), .lit (.int .i64 0), .lit (.int .i64 0), .lit (.int .i64 0), .lit (.string [])], .agg [.lit (.int .i64 0), .lit (.int .i64 0)]], [], places) :=
  ⟨[], by kernel_rfl⟩

set_option maxRecDepth 100000 in
theorem lifted (os : Os) (started : os.Started) (H : Type) (enc : TypeId × Value → H) (F : Stop.Interp) :
    ReturnsInHanded {} Tryd.checked os 4 .any ((OpenSpec.ofChange Rows.freshGrowsSpec).preRow enc Tryd.prog Tryd.f4 Rows.freshGrowsRow.domain false Rows.freshGrowsRow.laid) (((OpenSpec.ofChange Rows.freshGrowsSpec).at F).post enc Tryd.prog Tryd.f4 false true false false) := by
  obtain ⟨places, hx⟩ := reads os enc
  refine returnsInHanded_of_row (C := Tryd.checked) (s := OpenSpec.ofChange Rows.freshGrowsSpec) Tb.own started (by kernel_rfl) Tryd.func4
    (witness_row_at (enc := enc) (C := Tryd.checked) false (Tb.laidWorld os) #[.agg #[.int .i64 0, .bool false, .bool false, .bool false, .bool false, .bool false, .bool false, .bool false, .int .i64 0, .int .i64 0, .int .i64 0, .int .i64 0, .int .i64 0, .int .i64 0, .int .i64 0, .int .i64 0, .int .i64 0, .int .i64 0, .int .i64 0, .int .i64 0, .string ByteArray.empty], .agg #[.int .i64 0, .int .i64 0]] rfl (by kernel_rfl) (by kernel_rfl) (by kernel_rfl)
      (OpenSpec.preRow_of_cond 8 hx (by kernel_rfl) (fun k hk => by cases hk) (by kernel_rfl) (laid_met os))) ?_
  intro W base args ds gs before hval hW _ _ hsz hL _ _
  exact contract H enc W base args ds gs before hval hW _ hsz hL

theorem said : Rows.FreshGrowsSaid :=
  OpenClaim.holds_of_cond 4 Tryd.f4 rfl rfl rfl rfl rfl rfl rfl ⟨rfl, rfl, rfl, rfl, rfl⟩ rfl rfl rfl rfl rfl (by kernel_rfl) Tryd.func4 (by kernel_rfl)
    (of_decide_eq_true (by kernel_rfl)) (by unfold Func.isWrapper; first | (rw [if_pos (by decide +kernel)]; kernel_rfl) | (rw [if_neg (by decide +kernel)]; exact ⟨rfl, rfl⟩))
    (fun os started H enc _ F => by rw [OpenClaim.pre_eq_preRow]; exact lifted os started H enc F)

set_option maxRecDepth 100000 in
theorem plain (f : FuncId) (fn : Func) (hf : Tryd.pinned.checked.prog.funcNamed "gatepost/gatepostlaw09.FreshGrows" = some f) (hfn : Tryd.pinned.checked.prog.funcs[f]? = some fn) :
    false = Tryd.pinned.checked.prog.looks [] ∧ ∀ (j : Nat) t, fn.params[j]? = some t → Tryd.pinned.checked.prog.wantsStandIn t = false := by
  obtain rfl : f = 4 := Option.some.inj ((show Tryd.prog.funcNamed "gatepost/gatepostlaw09.FreshGrows" = some 4 by kernel_rfl).symm.trans hf) |>.symm
  obtain rfl : fn = Tryd.f4 := (Option.some.inj (Tryd.func4.symm.trans hfn)).symm
  refine ⟨by kernel_rfl, fun j t ht => ?_⟩
  rw [Tryd.params4] at ht
  have hm := Array.mem_of_getElem? ht
  simp at hm
  rcases hm with rfl | rfl
  · exact (show Tryd.prog.wantsStandIn 25 = false by kernel_rfl)
  · exact (show Tryd.prog.wantsStandIn 31 = false by kernel_rfl)

theorem card : Rows.FreshGrowsCardSaid :=
  Claim7.holds_tied_plain_at .later [] _ _ _ _ said (fun _ h => by cases h) (by kernel_rfl) (fun _ h => by cases h) freshGrows_row_tie rfl ⟨rfl, rfl⟩ (by kernel_rfl) rfl plain (by kernel_rfl)
end Go.Proofs.YtbignmccpbccoaaDoor.freshGrows
