/-
  FreshLonger: with a longer lifetime a response is no staler; s-maxage is asked ahead of max-age, that ahead of Expires, and that ahead of a guess.
  Conditions: the listed tables hold what the program's text lays (the card ties them).
-/
import Derived.Deep.DeepCutAuto
import Derived.Deep.RegionWith
import Derived.Test.YtbignmccpbccoaaDoorTabs
import Derived.Test.YtbignmccpbccoaaDoorApMeta
import Derived.SizedLaws
import Derived.Carry
import Derived.Test.YtbignmccpbccoaaDoorFhLaw
import Derived.WideKeyPair
namespace Go.Proofs.YtbignmccpbccoaaDoor.freshLonger
open Go.ChangeShapes Go.WideShapes Go.ChangeAt Go.RowKit
open Go.ChangeMaps (open_string shut_string)
set_option linter.unusedVariables false

theorem arr2 : WideMaps.ArrKey Tryd.prog 31 3 2 := ⟨Tryd.underlying31, by kernel_rfl, by kernel_rfl, by kernel_rfl⟩
open Go.Proofs.YtbignmccpbccoaaDoor.Fd Go.Proofs.YtbignmccpbccoaaDoor.Ct Go.Proofs.YtbignmccpbccoaaDoor.Fh
theorem mask2 (a : Int) (m : Nat) (hm : m < 9223372036854775808) : 0 ≤ bits .and .i64 a (m : Int) ∧ bits .and .i64 a (m : Int) ≤ (m : Int) := by
  have h1 : (BitVec.ofInt 64 a &&& BitVec.ofInt 64 (m : Int)).toNat ≤ m := by
    rw [BitVec.toNat_and, BitVec.ofInt_natCast, BitVec.toNat_ofNat]
    exact Nat.le_trans Nat.and_le_right (Nat.mod_le _ _)
  have h2 : bits .and .i64 a (m : Int) = IntKind.i64.wrap ((BitVec.ofInt 64 a &&& BitVec.ofInt 64 (m : Int)).toNat : Int) := rfl
  rw [h2, IntKind.wrap_i64]
  omega
/-- Two numbers, in order. -/
def Ord (s t : Value) (w wx : World) : Prop := ∃ lo hi : Int, 0 ≤ lo ∧ lo ≤ hi ∧ hi ≤ 65535 ∧ s = .int .i64 lo ∧ t = .int .i64 hi ∧ w = wx
/-- Two copies of a Meta in blocks of their own. -/
def Twice (w : World) (m : Mta) (gp : Nat) (s t : Value) (wx : World) : Prop := ∃ gx gy : Nat, s = .pointer (some ⟨gx, 0, none⟩) ∧ t = .pointer (some ⟨gy, 0, none⟩) ∧ gx ≠ gy ∧ w.heap.size < gx ∧ w.heap.size < gy ∧ gp ≠ gx ∧ gp ≠ gy ∧ Has w [(gx, m), (gy, m), (w.heap.size, m)] [(gp, cplain)] wx
theorem twice_of {w W : World} {m : Mta} {gp : Nat} (h : Has w [(w.heap.size, m)] [(gp, cplain)] W) {x y : Nat} (hxy : (x = W.heap.size ∧ y = W.heap.size + 1) ∨ (x = W.heap.size + 1 ∧ y = W.heap.size)) :
    Twice w m gp (.pointer (some ⟨x, 0, none⟩)) (.pointer (some ⟨y, 0, none⟩)) (((W.alloc (.cells (mcells m) 25)).alloc (.cells (mcells m) 25)).drew) := by
  have h1 := (h.m (g := w.heap.size) (m := m) (by simp)).lt
  have h2 := block_lt (h.c (g := gp) (r := cplain) (by simp))
  have h3 := ((h.addM m).addM m).drew
  rw [alloc_size] at h3
  refine ⟨x, y, rfl, rfl, by omega, by omega, by omega, by omega, by omega, fun p hp => ?_, h3.cons, h3.bel⟩
  refine h3.mets p ?_
  rcases hxy with ⟨rfl, rfl⟩ | ⟨rfl, rfl⟩
  · simp only [List.mem_cons, List.not_mem_nil, or_false] at hp ⊢
    rcases hp with rfl | rfl | rfl
    · exact .inr (.inl rfl)
    · exact .inl rfl
    · exact .inr (.inr rfl)
  · simp only [List.mem_cons, List.not_mem_nil, or_false] at hp ⊢
    exact hp
set_option maxRecDepth 100000 in
set_option maxHeartbeats 16000000 in
theorem walk (m : Mta) (ok0 : MetOk m) (now : Int) (w1 : (Lit.int .i64 now).wf = true) (n0 n1 : Int) (w2 : (Lit.int .i64 n0).wf = true) (u2 : (Lit.int .i64 n1).wf = true) (w : World) (hC : Fh.Codes w) :
    Calls Tryd.prog 6 #[.agg (mcells m), .int .i64 now, .agg #[.int .i64 n0, .int .i64 n1]] w fun e w' => e = .returned (.bool true) ∧ Below w.heap.size w w' := by
  have HC := Lib.hid hC
  have hg := hC.lt
  obtain ⟨a, ha⟩ : ∃ a, bits .and .i64 n0 65535 = a := ⟨_, rfl⟩
  obtain ⟨b, hb⟩ : ∃ b, bits .and .i64 n1 65535 = b := ⟨_, rfl⟩
  have ba : 0 ≤ a ∧ a ≤ 65535 := by rw [← ha]; exact mask2 n0 65535 (by decide)
  have bb : 0 ≤ b ∧ b ≤ 65535 := by rw [← hb]; exact mask2 n1 65535 (by decide)
  have hP : (w.alloc (.cells (mcells m) 25)).heap.size = w.heap.size + 1 := by simp
  have H := Lib.hid (((has_new w).addM m).more ((Below.refl _ _).alloc (Nat.le_refl _) (.cells #[.int .i64 n0, .int .i64 n1] 31)))
  clear hC ok0 w1 w2 u2 hP
  go_enter Tryd.func6, Tryd.ntmps6
  go_upto_region 1 with fail
  go_quiet (fail)
  have H2 := Lib.hid (has_drewN H.out nq)
  generalize ((w.alloc (.cells (mcells m) 25)).alloc (.cells #[.int .i64 n0, .int .i64 n1] 31)).drewN nq = W2 at H2 ⊢
  clear H ha hb
  go_upto_region 2 with fail
  go_upto_if 23 with fail
  go_cut [7, 8] (fun s t wx => Ord s t W2 wx)
  case first =>
    by_cases h : b < a
    · go_wp2_with fail
      go_meet
      exact ⟨b, a, bb.1, by omega, ba.2, rfl, rfl, rfl⟩
    · go_wp2_with fail
      go_meet
      exact ⟨a, b, ba.1, by omega, bb.2, rfl, rfl, rfl⟩
  case rest =>
  obtain ⟨lo, hi, lo0, lohi, hi1, rfl, rfl, rfl⟩ := hcut
  clear ba bb
  obtain ⟨Z, N, hZ⟩ := size_met
  have z1 := hZ.is
  have z2 := hZ.run
  have HN := Lib.hid hZ.num
  obtain ⟨Z', M, hZ'⟩ := size_con
  have y1 := hZ'.is
  have y2 := hZ'.run
  have HM := Lib.hid hZ'.num
  have y5 : ¬ M = 0 := by rw [hZ'.num]; decide
  have e0 : (#[.bool false, .bool false, .bool false, .bool false, .bool false, .bool false, .bool false, .int .i64 (-1), .int .i64 0, .int .i64 0, .int .i64 0, .int .i64 (-1), .int .i64 (-1)] : Array Value) = cells cplain := rfl
  have n1 : (cells cplain).size = M := hZ'.num ▸ rfl
  have n2 : (mcells m).size = N := hZ.num ▸ rfl
  clear hZ hZ'
  have p1 := put_con_at W2 W2.heap.size rfl #[.bool false, .bool false, .bool false, .bool false, .bool false, .bool false, .bool false, .int .i64 0, .int .i64 0, .int .i64 0, .int .i64 0, .int .i64 0, .int .i64 0] rfl cplain
  have H3 := Lib.hid (H2.out.addC cplain)
  go_upto_region 5 with fail
  generalize W2.alloc (.cells (cells cplain) 23) = W3 at H3 ⊢
  clear p1 e0 H2 n1
  have la := (H3.out.drew.m (g := w.heap.size) (m := m) (by simp)).load HN.out
  have lb := fun o => ((H3.out.more ((Below.refl W3.heap.size W3).alloc (Nat.le_refl _) o)).drew.m (g := w.heap.size) (m := m) (by simp)).load HN.out
  have lc := fun o o' => ((H3.out.more (((Below.refl W3.heap.size W3).alloc (Nat.le_refl _) o).alloc (by simp) o')).drew.m (g := w.heap.size) (m := m) (by simp)).load HN.out
  have sa : ∀ X, (storeCells ⟨W3.heap.size + 1, 0, none⟩ (mcells m).toList).run Tryd.prog (((W3.alloc X).alloc (.cells #[.int .i64 0, .bool false, .bool false, .bool false, .bool false, .bool false, .bool false, .bool false, .int .i64 0, .int .i64 0, .int .i64 0, .int .i64 0, .int .i64 0, .int .i64 0, .int .i64 0, .int .i64 0, .int .i64 0, .int .i64 0, .int .i64 0, .int .i64 0, .string ⟨#[]⟩] 25)).drew) = .ok () (((W3.alloc X).alloc (.cells (mcells m) 25)).drew) := fun X => put_met_at (W3.drew.alloc X) (W3.heap.size + 1) (by simp) #[.int .i64 0, .bool false, .bool false, .bool false, .bool false, .bool false, .bool false, .bool false, .int .i64 0, .int .i64 0, .int .i64 0, .int .i64 0, .int .i64 0, .int .i64 0, .int .i64 0, .int .i64 0, .int .i64 0, .int .i64 0, .int .i64 0, .int .i64 0, .string ⟨#[]⟩] rfl m
  have sd : ∀ Y, (storeCells ⟨W3.heap.size, 0, none⟩ (mcells m).toList).run Tryd.prog (((W3.alloc (.cells #[.int .i64 0, .bool false, .bool false, .bool false, .bool false, .bool false, .bool false, .bool false, .int .i64 0, .int .i64 0, .int .i64 0, .int .i64 0, .int .i64 0, .int .i64 0, .int .i64 0, .int .i64 0, .int .i64 0, .int .i64 0, .int .i64 0, .int .i64 0, .string ⟨#[]⟩] 25)).alloc Y).drew) = .ok () (((W3.alloc (.cells (mcells m) 25)).alloc Y).drew) := fun Y => put_met_deep W3.drew #[.int .i64 0, .bool false, .bool false, .bool false, .bool false, .bool false, .bool false, .bool false, .int .i64 0, .int .i64 0, .int .i64 0, .int .i64 0, .int .i64 0, .int .i64 0, .int .i64 0, .int .i64 0, .int .i64 0, .int .i64 0, .int .i64 0, .int .i64 0, .string ⟨#[]⟩] rfl m Y
  go_cut [10, 11] (fun s t wx => Twice w m W2.heap.size s t wx)
  case first =>
    go_region
    all_goals
      go_wp2_with fail
      go_meet
      exact twice_of H3.out (by omega)
  case rest =>
  obtain ⟨gx, gy, rfl, rfl, hxy, hgx, hgy, hpx, hpy, H5⟩ := hcut
  obtain ⟨mx, hmx⟩ : ∃ x : Mta, x = { m with con := { m.con with ag := lo } } := ⟨_, rfl⟩
  obtain ⟨my, hmy⟩ : ∃ x : Mta, x = { m with con := { m.con with ag := hi } } := ⟨_, rfl⟩
  have sx : (mcells m).setIfInBounds 8 (.int .i64 lo) = mcells mx := by rw [hmx]; rfl
  have sy : (mcells m).setIfInBounds 8 (.int .i64 hi) = mcells my := by rw [hmy]; rfl
  have hst : stateOf my cplain now ≤ stateOf mx cplain now := by
    rw [hmx, hmy]
    exact state_longer plain_is rfl rfl rfl rfl rfl (life_longer m lo hi lo0 lohi)
  obtain ⟨S, hS⟩ : ∃ S, stateOf mx cplain now = S := ⟨_, rfl⟩
  obtain ⟨U, hU⟩ : ∃ U, stateOf my cplain now = U := ⟨_, rfl⟩
  rw [hS, hU] at hst
  have dSU : decide (S < U) = false := by simp; omega
  have HS := Lib.hid hS
  have HU := Lib.hid hU
  have fx := met_free (H5.m (g := gx) (m := m) (by simp)) 8
  have fy := met_free (H5.m (g := gy) (m := m) (by simp)) 8
  have cx := (H5.m (g := gx) (m := m) (by simp)).ag
  have cy := (H5.m (g := gy) (m := m) (by simp)).ag
  have H6 := H5.put (l' := [(gx, mx), (gy, m), (w.heap.size, m)]) (g := gx) (m := m) (by simp) sx (by omega) (fun p hp => by
    simp only [List.mem_cons, List.not_mem_nil, or_false] at hp
    rcases hp with rfl | rfl | rfl
    · exact .inl rfl
    · exact .inr ⟨fun e => hxy e.symm, by simp⟩
    · exact .inr ⟨fun e => by have : w.heap.size = gx := e; omega, by simp⟩) (fun p hp => by
    simp only [List.mem_cons, List.not_mem_nil, or_false] at hp
    subst hp
    exact hpx)
  have fy2 := met_free (H6.m (g := gy) (m := m) (by simp)) 8
  have cy2 := (H6.m (g := gy) (m := m) (by simp)).ag
  have H7 := Lib.hid (H6.put (l' := [(gx, mx), (gy, my), (w.heap.size, m)]) (g := gy) (m := m) (by simp) sy (by omega) (fun p hp => by
    simp only [List.mem_cons, List.not_mem_nil, or_false] at hp
    rcases hp with rfl | rfl | rfl
    · exact .inr ⟨hxy, by simp⟩
    · exact .inl rfl
    · exact .inr ⟨fun e => by have : w.heap.size = gy := e; omega, by simp⟩) (fun p hp => by
    simp only [List.mem_cons, List.not_mem_nil, or_false] at hp
    subst hp
    exact hpy))
  clear la lb lc sa sd H3 H5 H6 hmx hmy hS hU sx sy n2 hst hgx hgy hxy hpx hpy
  go_upto_region 7 with fail
  replace H7 := Lib.hid H7.out.drew
  go_region_held3 (fun W => (loadCellsFrom ⟨gy, 0, none⟩ 0 N #[]).run Tryd.prog W = .ok (mcells my) W ∧ (loadCellsFrom ⟨gx, 0, none⟩ 0 N #[]).run Tryd.prog W = .ok (mcells mx) W ∧ (loadCellsFrom ⟨W2.heap.size, 0, none⟩ 0 M #[]).run Tryd.prog W = .ok (cells cplain) W ∧ Has w [(gx, mx), (gy, my), (w.heap.size, m)] [(W2.heap.size, cplain)] W)
    (exact ld_law2 H7.out (by simp) (by simp) (by simp) HN.out HM.out)
    ((go_at_call 12; refine (goState_any _ _ now _ (HC.out.below H7.out.bel hg)).mono ?_; rintro e w1 ⟨rfl, hb⟩; (first | rw [HS.out] | rw [HU.out]); replace H7 := Lib.hid (H7.out.more hb); clear hb))
  go_upto_region 9 with fail
  clear HS HU dSU
  obtain ⟨z1, dz1⟩ : ∃ x : Mta, x = { m with con := { m.con with sh := lo } } := ⟨_, rfl⟩
  have sz1 : (mcells m).setIfInBounds 9 (.int .i64 lo) = mcells z1 := by rw [dz1]; rfl
  have qz1 : (mcells m)[9]? = some (.int .i64 m.con.sh) := rfl
  obtain ⟨z2, dz2⟩ : ∃ x : Mta, x = { z1 with con := { z1.con with ag := hi } } := ⟨_, rfl⟩
  have sz2 : (mcells z1).setIfInBounds 8 (.int .i64 hi) = mcells z2 := by rw [dz2]; rfl
  have qz2 : (mcells z1)[8]? = some (.int .i64 z1.con.ag) := rfl
  obtain ⟨z3, dz3⟩ : ∃ x : Mta, x = { z2 with exp := 7 } := ⟨_, rfl⟩
  have sz3 : (mcells z2).setIfInBounds 15 (.int .i64 7) = mcells z3 := by rw [dz3]; rfl
  have qz3 : (mcells z2)[15]? = some (.int .i64 z2.exp) := rfl
  obtain ⟨v1, dv1⟩ : ∃ x : Mta, x = { m with con := { m.con with sh := (-1) } } := ⟨_, rfl⟩
  have sv1 : (mcells m).setIfInBounds 9 (.int .i64 (-1)) = mcells v1 := by rw [dv1]; rfl
  have qv1 : (mcells m)[9]? = some (.int .i64 m.con.sh) := rfl
  obtain ⟨v2, dv2⟩ : ∃ x : Mta, x = { v1 with con := { v1.con with ag := hi } } := ⟨_, rfl⟩
  have sv2 : (mcells v1).setIfInBounds 8 (.int .i64 hi) = mcells v2 := by rw [dv2]; rfl
  have qv2 : (mcells v1)[8]? = some (.int .i64 v1.con.ag) := rfl
  obtain ⟨v3, dv3⟩ : ∃ x : Mta, x = { v2 with exp := 7 } := ⟨_, rfl⟩
  have sv3 : (mcells v2).setIfInBounds 15 (.int .i64 7) = mcells v3 := by rw [dv3]; rfl
  have qv3 : (mcells v2)[15]? = some (.int .i64 v2.exp) := rfl
  obtain ⟨x2, dx2⟩ : ∃ x : Mta, x = { v1 with con := { v1.con with ag := (-1) } } := ⟨_, rfl⟩
  have sx2 : (mcells v1).setIfInBounds 8 (.int .i64 (-1)) = mcells x2 := by rw [dx2]; rfl
  have qx2 : (mcells v1)[8]? = some (.int .i64 v1.con.ag) := rfl
  obtain ⟨x3, dx3⟩ : ∃ x : Mta, x = { x2 with date := 100 } := ⟨_, rfl⟩
  have sx3 : (mcells x2).setIfInBounds 14 (.int .i64 100) = mcells x3 := by rw [dx3]; rfl
  have qx3 : (mcells x2)[14]? = some (.int .i64 x2.date) := rfl
  obtain ⟨x4, dx4⟩ : ∃ x : Mta, x = { x3 with exp := (100 + lo) } := ⟨_, rfl⟩
  have sx4 : (mcells x3).setIfInBounds 15 (.int .i64 (100 + lo)) = mcells x4 := by rw [dx4]; rfl
  have qx4 : (mcells x3)[15]? = some (.int .i64 x3.exp) := rfl
  have HLZ := Lib.hid (show lifeOf z3 = lo from by rw [dz3, dz2, dz1]; exact life_sh _ lo0 (by show lo ≤ mostA; unfold mostA; omega))
  have HLW := Lib.hid (show lifeOf v3 = hi from by rw [dv3, dv2, dv1]; exact life_ag _ rfl (by show 0 ≤ hi; omega) (by show hi ≤ mostA; unfold mostA; omega))
  have HLV := Lib.hid (show lifeOf x4 = lo from by rw [dx4, dx3, dx2, dv1]; exact life_exp _ rfl rfl rfl lo lo0 (by omega) rfl)
  clear dz1 dz2 dz3 dv1 dv2 dv3 dx2 dx3 dx4
  have n2 : (mcells m).size = N := HN.out ▸ rfl
  have pz := put_met_at w1 w1.heap.size rfl #[.int .i64 0, .bool false, .bool false, .bool false, .bool false, .bool false, .bool false, .bool false, .int .i64 0, .int .i64 0, .int .i64 0, .int .i64 0, .int .i64 0, .int .i64 0, .int .i64 0, .int .i64 0, .int .i64 0, .int .i64 0, .int .i64 0, .int .i64 0, .string ⟨#[]⟩] rfl m
  have pw := put_met_at (w1.alloc (.cells (mcells z3) 25)) (w1.heap.size + 1) (by simp) #[.int .i64 0, .bool false, .bool false, .bool false, .bool false, .bool false, .bool false, .bool false, .int .i64 0, .int .i64 0, .int .i64 0, .int .i64 0, .int .i64 0, .int .i64 0, .int .i64 0, .int .i64 0, .int .i64 0, .int .i64 0, .int .i64 0, .int .i64 0, .string ⟨#[]⟩] rfl m
  have pv := put_met_at ((w1.alloc (.cells (mcells z3) 25)).alloc (.cells (mcells v3) 25)) (w1.heap.size + 2) (by simp) #[.int .i64 0, .bool false, .bool false, .bool false, .bool false, .bool false, .bool false, .bool false, .int .i64 0, .int .i64 0, .int .i64 0, .int .i64 0, .int .i64 0, .int .i64 0, .int .i64 0, .int .i64 0, .int .i64 0, .int .i64 0, .int .i64 0, .int .i64 0, .string ⟨#[]⟩] rfl m
  have lz := (H7.out.m (g := w.heap.size) (m := m) (by simp)).load HN.out
  have lw := ((H7.out.addM z3).m (g := w.heap.size) (m := m) (by simp)).load HN.out
  have lv := (((H7.out.addM z3).addM v3).m (g := w.heap.size) (m := m) (by simp)).load HN.out
  have H8 := Lib.hid ((((H7.out.addM z3).addM v3).addM x4).cast (l' := [(w1.heap.size + 2, x4), (w1.heap.size + 1, v3), (w1.heap.size, z3), (gx, mx), (gy, my), (w.heap.size, m)]) (k' := [(W2.heap.size, cplain)]) (by simp) rfl)
  go_upto_region 15 with fail
  clear pz pw pv lz lw lv sz1 sz2 sz3 sv1 sv2 sv3 sx2 sx3 sx4 qz1 qz2 qz3 qv1 qv2 qv3 qx2 qx3 qx4 H7
  have l1 := (H8.out.m (g := w1.heap.size) (m := z3) (by simp)).load HN.out
  go_wp2_with fail
  refine (life_any z3 _ (HC.out.below H8.out.bel hg)).mono ?_
  rintro e w2 ⟨rfl, hb⟩
  rw [HLZ.out]
  replace H8 := Lib.hid (H8.out.more hb)
  clear l1 hb
  have l2 := (H8.out.m (g := w1.heap.size + 1) (m := v3) (by simp)).load HN.out
  go_wp2_with fail
  refine (life_any v3 _ (HC.out.below H8.out.bel hg)).mono ?_
  rintro e w3 ⟨rfl, hb⟩
  rw [HLW.out]
  replace H8 := Lib.hid (H8.out.more hb)
  clear l2 hb
  have l3 := (H8.out.m (g := w1.heap.size + 2) (m := x4) (by simp)).load HN.out
  go_wp2_with fail
  refine (life_any x4 _ (HC.out.below H8.out.bel hg)).mono ?_
  rintro e w4 ⟨rfl, hb⟩
  rw [HLV.out]
  replace H8 := Lib.hid (H8.out.more hb)
  clear l3 hb
  go_wp2_with fail
  go_ret
  exact ⟨rfl, H8.out.bel⟩

set_option maxHeartbeats 2000000 in
set_option maxRecDepth 100000 in
theorem contract (H : Type) (enc : TypeId × Value → H) (W : World) (base : Nat) (args : Array Value) (ds gs : List (DataW H)) (before : List MemPlace)
    (hval : ∀ (j : Nat) t v, Tryd.f6.params[j]? = some t → args[j]? = some v → Value.okWide Tryd.prog W .any base t v)
    (hW : DataW.Whole enc Tryd.prog Tryd.f6.params.toList Rows.freshLongerSpec.vars false W args.toList ds gs before) (ts : List TypeId) (hsz : (DataW.weightsEach Tryd.prog (Tryd.f6.params.toList ++ ts) (ds ++ gs)).all (· ≤ reachBytes) = true) (hL : laidMetH Tryd.prog Rows.freshLongerRow.laid W) :
    Calls Tryd.prog 6 args W fun e W' => ∃ v, e = .returned v ∧ Rows.freshLongerSpec.post enc Tryd.prog Tryd.f6 false true false false W args v W' := by
  have hW' := hW
  obtain ⟨p, q, hA0, hV, rfl, hfz, hnd⟩ := hW
  have hA : DataW.TrodAll enc Tryd.prog W 0 (fun _ => true) true Tryd.f6.params.toList args.toList ds p := hA0
  rw [Tryd.params6] at hA hval hsz
  obtain ⟨v0, vs0, d0, ds0, p0, q0, hargs, rfl, rfl, h0, r0⟩ := trodAll_cons hA
  obtain ⟨v1, vs1, d1, ds1, p1, q1, rfl, rfl, rfl, h1, r1⟩ := trodAll_cons r0
  obtain ⟨v2, vs2, d2, ds2, p2, q2, rfl, rfl, rfl, h2, r2⟩ := trodAll_cons r1
  obtain ⟨rfl, rfl, rfl⟩ := trodAll_nil r2
  obtain rfl : args = #[v0, v1, v2] := by cases args; simp_all
  obtain ⟨rfl, rfl⟩ := trodVars_none hV
  have k0 := h0
  have lt0 : ∀ x ∈ p0, x.block < W.heap.size := by obtain ⟨m, hm⟩ := k0; exact DataW.trod_lt m _ _ _ hm
  obtain ⟨c0, rfl, ok0⟩ := Ct.open_met (hval 0 25 v0 rfl rfl) h0
  obtain ⟨a1, rfl, rfl, rfl, w1⟩ := open_int Tryd.underlying3 (hval 1 3 v1 rfl rfl) h1
  obtain ⟨a2, b2, rfl, rfl, rfl, w2, u2⟩ := WideMaps.open_pair arr2 Tryd.underlying3 (hval 2 31 v2 rfl rfl) h2
  clear hA0
  simp only [List.append_nil] at hW'
  refine (walk c0 ok0 a1 w1 a2 b2 w2 u2 W (Tb.kept_of_head hL)).mono fun e W' ⟨he, bel⟩ => ?_
  subst he
  exact ⟨_, rfl, _, _, _, [], _, [], hW', trodAll_mk1 (shut_bool Tryd.underlying4 _), (trodAll_cons_mk (Below.trod Tb.laidOut (by kernel_rfl) (of_decide_eq_true (by kernel_rfl)) k0 bel lt0) (trodAll_cons_mk (shut_int Tryd.underlying3 w1) (trodAll_cons_mk (WideMaps.shut_pair arr2 Tryd.underlying3 w2 u2) trodAll_mk0))), rfl, bel.frame _, fun h => by cases h⟩

theorem laid_met (os : Os) : laidMet Tryd.prog Rows.freshLongerRow.laid ((Tb.laidWorld os).forCall (fun _ _ => 0) ⟨#[], #[.agg #[.int .i64 0, .bool false, .bool false, .bool false, .bool false, .bool false, .bool false, .bool false, .int .i64 0, .int .i64 0, .int .i64 0, .int .i64 0, .int .i64 0, .int .i64 0, .int .i64 0, .int .i64 0, .int .i64 0, .int .i64 0, .int .i64 0, .int .i64 0, .string ByteArray.empty], .int .i64 0, .agg #[.int .i64 0, .int .i64 0]], []⟩).memory :=
  laidMet_of_run' 8 (by kernel_rfl) (by kernel_rfl)
theorem reads (os : Os) {H : Type} (enc : TypeId × Value → H) : ∃ places, DataW.whole enc Tryd.prog ((Tb.laidWorld os).forCall (fun _ _ => 0) ⟨#[], #[.agg #[.int .i64 0, .bool false, .bool false, .bool false, .bool false, .bool false, .bool false, .bool false, .int .i64 0, .int .i64 0, .int .i64 0, .int .i64 0, .int .i64 0, .int .i64 0, .int .i64 0, .int .i64 0, .int .i64 0, .int .i64 0, .int .i64 0, .int .i64 0, .string ByteArray.empty], .int .i64 0, .agg #[.int .i64 0, .int .i64 0]], []⟩).memory Tryd.f6.params.toList Rows.freshLongerSpec.vars false (#[.agg #[.int .i64 0, .bool false, .bool false, .bool false, .bool false, .bool false, .bool false, .bool false, .int .i64 0, .int .i64 0, .int .i64 0, .int .i64 0, .int .i64 0, .int .i64 0, .int .i64 0, .int .i64 0, .int .i64 0, .int .i64 0, .int .i64 0, .int .i64 0, .string ByteArray.empty], .int .i64 0, .agg #[.int .i64 0, .int .i64 0]] : Array Value).toList 8 = some ([.agg [.lit (.int .i64 0), .agg [.lit (.bool false), .lit (.bool false), .lit (.bool false), .lit (.bool false), .lit (.bool false), .lit (.bool false), .lit (.bool false), .lit (.int .i64 0), .lit (.int .i64 0), .lit (.int .i64 0), .lit (.int .i64 0), .lit (.int .i64 0), .lit (.int .i64 0)], .lit (.int .i64 0), .lit (.int .i64 0), .lit (.int .i64 0), .lit (.int .i64 0), .lit (.int .i64 0), .lit (.int .i64 0), .lit (.string [])], .lit (.int .i64 0), .agg [.lit (.int .i64 0), .lit (.int .i64 0)]], [], places) :=
  ⟨[], by kernel_rfl⟩

set_option maxRecDepth 100000 in
theorem lifted (os : Os) (started : os.Started) (H : Type) (enc : TypeId × Value → H) (F : Stop.Interp) :
    ReturnsInHanded {} Tryd.checked os 6 .any ((OpenSpec.ofChange Rows.freshLongerSpec).preRow enc Tryd.prog Tryd.f6 Rows.freshLongerRow.domain false Rows.freshLongerRow.laid) (((OpenSpec.ofChange Rows.freshLongerSpec).at F).post enc Tryd.prog Tryd.f6 false true false false) := by
  obtain ⟨places, hx⟩ := reads os enc
  refine returnsInHanded_of_row (C := Tryd.checked) (s := OpenSpec.ofChange Rows.freshLongerSpec) Tb.own started (by kernel_rfl) Tryd.func6
    (witness_row_at (enc := enc) (C := Tryd.checked) false (Tb.laidWorld os) #[.agg #[.int .i64 0, .bool false, .bool false, .bool false, .bool false, .bool false, .bool false, .bool false, .int .i64 0, .int .i64 0, .int .i64 0, .int .i64 0, .int .i64 0, .int .i64 0, .int .i64 0, .int .i64 0, .int .i64 0, .int .i64 0, .int .i64 0, .int .i64 0, .string ByteArray.empty], .int .i64 0, .agg #[.int .i64 0, .int .i64 0]] rfl (by kernel_rfl) (by kernel_rfl) (by kernel_rfl)
      (OpenSpec.preRow_of_cond 8 hx (by kernel_rfl) (fun k hk => by cases hk) (by kernel_rfl) (laid_met os))) ?_
  intro W base args ds gs before hval hW _ _ hsz hL _ _
  exact contract H enc W base args ds gs before hval hW _ hsz hL

theorem said : Rows.FreshLongerSaid :=
  OpenClaim.holds_of_cond 6 Tryd.f6 rfl rfl rfl rfl rfl rfl rfl ⟨rfl, rfl, rfl, rfl, rfl⟩ rfl rfl rfl rfl rfl (by kernel_rfl) Tryd.func6 (by kernel_rfl)
    (of_decide_eq_true (by kernel_rfl)) (by unfold Func.isWrapper; first | (rw [if_pos (by decide +kernel)]; kernel_rfl) | (rw [if_neg (by decide +kernel)]; exact ⟨rfl, rfl⟩))
    (fun os started H enc _ F => by rw [OpenClaim.pre_eq_preRow]; exact lifted os started H enc F)

set_option maxRecDepth 100000 in
theorem plain (f : FuncId) (fn : Func) (hf : Tryd.pinned.checked.prog.funcNamed "gatepost/gatepostlaw09.FreshLonger" = some f) (hfn : Tryd.pinned.checked.prog.funcs[f]? = some fn) :
    false = Tryd.pinned.checked.prog.looks [] ∧ ∀ (j : Nat) t, fn.params[j]? = some t → Tryd.pinned.checked.prog.wantsStandIn t = false := by
  obtain rfl : f = 6 := Option.some.inj ((show Tryd.prog.funcNamed "gatepost/gatepostlaw09.FreshLonger" = some 6 by kernel_rfl).symm.trans hf) |>.symm
  obtain rfl : fn = Tryd.f6 := (Option.some.inj (Tryd.func6.symm.trans hfn)).symm
  refine ⟨by kernel_rfl, fun j t ht => ?_⟩
  rw [Tryd.params6] at ht
  have hm := Array.mem_of_getElem? ht
  simp at hm
  rcases hm with rfl | rfl | rfl
  · exact (show Tryd.prog.wantsStandIn 25 = false by kernel_rfl)
  · exact (show Tryd.prog.wantsStandIn 3 = false by kernel_rfl)
  · exact (show Tryd.prog.wantsStandIn 31 = false by kernel_rfl)

theorem card : Rows.FreshLongerCardSaid :=
  Claim7.holds_tied_plain_at .later [] _ _ _ _ said (fun _ h => by cases h) (by kernel_rfl) (fun _ h => by cases h) freshLonger_row_tie rfl ⟨rfl, rfl⟩ (by kernel_rfl) rfl plain (by kernel_rfl)
end Go.Proofs.YtbignmccpbccoaaDoor.freshLonger
