/-
  RangesBack: RangesBack: for any span, any length and any range the law's call returns true.
  Conditions: the listed tables hold what the program's text lays (the card ties them).
-/
import Derived.Deep.DeepCutAuto
import Derived.Deep.RegionWith
import Derived.Test.YthhnpdihgoiccaaDoorTabs
import Derived.SizedLaws
import Derived.Carry
import Derived.Test.YthhnpdihgoiccaaDoorRnCon
import Derived.Test.YthhnpdihgoiccaaDoorRnReadP
import Derived.Test.YthhnpdihgoiccaaDoorRnOpen
import Derived.WideKeyPair
namespace Go.Proofs.YthhnpdihgoiccaaDoor.rangesBack
open Go.ChangeShapes Go.WideShapes Go.ChangeAt Go.RowKit
open Go.ChangeMaps (open_string shut_string)
set_option linter.unusedVariables false

open Go.Proofs.YthhnpdihgoiccaaDoor.Fd Go.Proofs.YthhnpdihgoiccaaDoor.Sn Go.Proofs.YthhnpdihgoiccaaDoor.Rn Go.Proofs.YthhnpdihgoiccaaDoor.Rm
/-- The boxes, and strconv's table. -/
structure KP (w : World) (bx : List (Nat × Sp × TypeId)) (W : World) : Prop where
  kp : Kp w bx W
  p10 : Tb.P10 W
theorem KP.more {w W W' : World} {bx : List (Nat × Sp × TypeId)} (h : KP w bx W) (hb : Below W.heap.size W W') : KP w bx W' := ⟨h.kp.more hb, p10_below h.p10 hb (Nat.le_refl _)⟩
theorem KP.new {w W : World} {bx : List (Nat × Sp × TypeId)} (h : KP w bx W) (x y : Int) (t : TypeId) : KP w ((W.heap.size, (x, y), t) :: bx) (W.alloc (.cells #[.int .i64 x, .int .i64 y] t)) :=
  ⟨h.kp.new x y t, p10_below h.p10 ((Below.refl W.heap.size W).alloc (Nat.le_refl _) _) (Nat.le_refl _)⟩
theorem kp_put {w W : World} {bx bx' : List (Nat × Sp × TypeId)} (h : Kp w bx W) {g : Nat} {x0 y0 : Int} {t : TypeId} (hp : (g, (x0, y0), t) ∈ bx) (hg : w.heap.size ≤ g) (x y : Int) (hne : ∀ p ∈ bx', p ∈ bx ∧ p.1 ≠ g) :
    Kp w ((g, (x, y), t) :: bx') ((W.setCell ⟨g, 0, none⟩ (.int .i64 x)).setCell ⟨g, 1, none⟩ (.int .i64 y)) :=
  ⟨put2_below h.bel hg _ _, fun p hp' => by
    rcases List.mem_cons.1 hp' with rfl | hp'
    · exact put2 (h.box _ hp) _ _
    · exact put2_old (h.box p (hne p hp').1) (Ne.symm (hne p hp').2) _ _⟩
theorem put_size (W : World) (g : Nat) (x y : Value) : ((W.setCell ⟨g, 0, none⟩ x).setCell ⟨g, 1, none⟩ y).heap.size = W.heap.size := by simp [World.setCell]
theorem dec_len {n : Int} (h0 : 0 ≤ n) (h1 : n ≤ 1048576) : (decI n).length ≤ 10 := (Ct.decL_all 9 n.toNat (by omega)).len
theorem con_len {x y long : Int} {t : Tk.Bs} (h : contentOf (x, y) long = some t) : t.length ≤ 100 := by
  cases hr : rightR (x, y) long with
  | false => rw [con_not hr] at h; cases h
  | true =>
    obtain ⟨l0, l1, x0, xy, y1, ly, pos⟩ := right_iff.1 hr
    rw [con_is hr] at h
    injection h with h
    subst h
    have e1 : (spanT (x, y)).length ≤ 21 := by
      by_cases hxy : x = y
      · rw [span_same _ _ hxy]; simp
      · rw [span_two _ _ hxy]
        have h1 := dec_len (n := x) x0 (by omega)
        have h2 := dec_len (n := y - 1) (by omega) (by omega)
        simp; omega
    have e2 : (longT long).length ≤ 10 := by
      unfold longT; split
      · exact dec_len (by omega) l1
      · simp
    simp [bytL]; omega
theorem res_back (u v long : Int) : ∃ q0 q1 b, resV (Rm.resolve (u, v) long) = .tuple #[.agg #[.int .i64 q0, .int .i64 q1], .bool b] ∧ (b = false → q0 = 0 ∧ q1 = 0) ∧ (b = true → 0 ≤ q0 ∧ q0 < q1 ∧ q1 ≤ long) := by
  cases h : Rm.resolve (u, v) long with
  | none => exact ⟨0, 0, false, rfl, fun _ => ⟨rfl, rfl⟩, fun h => by (cases h)⟩
  | some q => exact ⟨q.1, q.2, true, rfl, fun h => by (cases h), fun _ => resolve_in h⟩
set_option maxRecDepth 100000 in
set_option maxHeartbeats 16000000 in
theorem walk (x y : Int) (long : Int) (wz : (Lit.int .i64 long).wf = true) (u v : Int) (w : World) (hP : Tb.P10 w) :
    Calls Tryd.prog 4 #[.agg #[.int .i64 x, .int .i64 y], .int .i64 long, .agg #[.int .i64 u, .int .i64 v]] w fun e w' => e = .returned (.bool true) ∧ Below w.heap.size w w' := by
  clear wz
  have H1 := Lib.hid (show ∀ V : World, Calls Tryd.prog 7 #[.string ⟨#[98, 121, 116, 101, 115, 32, 48, 45, 52, 47, 53]⟩] V fun e w' => e = .returned (.tuple #[.agg #[.int .i64 0, .int .i64 5], .int .i64 5, .bool true]) ∧ Below V.heap.size V w' from fun V => by
    have h2 := readP_any ⟨#[98, 121, 116, 101, 115, 32, 48, 45, 52, 47, 53]⟩ V (by decide)
    rw [show (⟨#[98, 121, 116, 101, 115, 32, 48, 45, 52, 47, 53]⟩ : ByteArray).data.toList = [98, 121, 116, 101, 115, 32, 48, 45, 52, 47, 53] from rfl, read_five] at h2
    exact h2)
  obtain ⟨q0, q1, qb, hQ, hqf, hqt⟩ := res_back u v long
  have H4 := Lib.hid (show ∀ V : World, Calls Tryd.prog 9 #[.agg #[.int .i64 u, .int .i64 v], .int .i64 long] V fun e w' => e = .returned (.tuple #[.agg #[.int .i64 q0, .int .i64 q1], .bool qb]) ∧ Below V.heap.size V w' from fun V => by rw [← hQ]; exact resolve_any u v long V)
  have HQF := Lib.hid hqf
  have HQT := Lib.hid hqt
  have K0 := Lib.hid (((show KP w [] w from ⟨Kp.start, hP⟩).new x y 23).new u v 32)
  have hsz : (w.alloc (.cells #[.int .i64 x, .int .i64 y] 23)).heap.size = w.heap.size + 1 := by simp
  rw [hsz] at K0
  clear hQ hqf hqt hP hsz
  go_enter Tryd.func4, Tryd.ntmps4
  go_wp2_with fail
  refine (H1.out _).mono ?_
  rintro e w1 ⟨rfl, hb⟩
  have K1 := Lib.hid (K0.out.more hb)
  have c0 := K1.out.kp.c0 (g := w.heap.size) (x := x) (y := y) (t := 23) (by simp)
  have c1 := K1.out.kp.c1 (g := w.heap.size) (x := x) (y := y) (t := 23) (by simp)
  have K2 := Lib.hid (K1.out.new 0 5 23)
  have d0 := K2.out.kp.c0 (g := w.heap.size) (x := x) (y := y) (t := 23) (by simp)
  have d1 := K2.out.kp.c1 (g := w.heap.size) (x := x) (y := y) (t := 23) (by simp)
  clear hb H1 K0
  go_wp2_with fail
  refine (content_any x y long _ K2.out.p10).mono ?_
  rintro e w2 ⟨rfl, hb⟩
  have K3 := Lib.hid (K2.out.more hb)
  clear hb c0 c1 d0 d1 K1 K2
  cases hc : contentOf (x, y) long with
  | none =>
    have u0 := K3.out.kp.c0 (g := w.heap.size + 1) (x := u) (y := v) (t := 32) (by simp)
    have u1 := K3.out.kp.c1 (g := w.heap.size + 1) (x := u) (y := v) (t := 32) (by simp)
    unfold conV
    clear hc
    go_wp2_with fail
    refine (H4.out _).mono ?_
    rintro e w3 ⟨rfl, hb⟩
    have K4 := Lib.hid ((K3.out.more hb).new q0 q1 23)
    clear hb K3 u0 u1 H4
    cases qb with
    | false =>
      obtain ⟨rfl, rfl⟩ := HQF.out rfl
      go_wp2_with fail
      go_ret
      exact ⟨rfl, K4.out.kp.bel⟩
    | true =>
      obtain ⟨q2, q3, q4⟩ := HQT.out rfl
      go_wp2_with fail
      go_ret
      exact ⟨by simp, K4.out.kp.bel⟩
  | some t =>
    have hback := content_back hc
    have H3 := Lib.hid (show ∀ V : World, Calls Tryd.prog 7 #[.string ⟨t.toArray⟩] V fun e w' => e = .returned (rdV (some (if x = y then (0, 0) else (x, y), long))) ∧ Below V.heap.size V w' from fun V => by
      have h2 := readP_any ⟨t.toArray⟩ V (by have := con_len hc; show t.toArray.size ≤ _; rw [List.size_toArray]; unfold maxLen; omega)
      rw [show (⟨t.toArray⟩ : ByteArray).data.toList = t from rfl, hback] at h2
      exact h2)
    unfold conV
    clear hc hback
    have k0 := K3.out.kp.c0 (g := w.heap.size) (x := x) (y := y) (t := 23) (by simp)
    have k1 := K3.out.kp.c1 (g := w.heap.size) (x := x) (y := y) (t := 23) (by simp)
    by_cases hxy : x = y
    · subst hxy
      replace H3 := Lib.hid (show ∀ V : World, Calls Tryd.prog 7 #[.string ⟨t.toArray⟩] V fun e w' => e = .returned (.tuple #[.agg #[.int .i64 0, .int .i64 0], .int .i64 long, .bool true]) ∧ Below V.heap.size V w' from fun V => by
        have h2 := H3.out V
        rw [if_pos rfl] at h2
        exact h2)
      go_wp2_with fail
      refine (H3.out _).mono ?_
      rintro e w3 ⟨rfl, hb⟩
      have K4 := Lib.hid (K3.out.more hb)
      have K5 := Lib.hid (K4.out.new 0 0 23)
      have m0 := K5.out.kp.c0 (g := w.heap.size) (x := x) (y := x) (t := 23) (by simp)
      have m1 := K5.out.kp.c1 (g := w.heap.size) (x := x) (y := x) (t := 23) (by simp)
      have u0 := K5.out.kp.c0 (g := w.heap.size + 1) (x := u) (y := v) (t := 32) (by simp)
      have u1 := K5.out.kp.c1 (g := w.heap.size + 1) (x := u) (y := v) (t := 32) (by simp)
      clear hb H3 k0 k1 K3
      have f0 := free (K5.out.kp.at (g := w.heap.size) (x := x) (y := x) (t := 23) (by simp)) 0
      have f1 := free (K5.out.kp.at (g := w.heap.size) (x := x) (y := x) (t := 23) (by simp)) 1
      have HLT3 := Lib.hid (show w.heap.size < w3.heap.size from block_lt (K4.out.kp.at (g := w.heap.size) (x := x) (y := x) (t := 23) (by simp)))
      have K6 := Lib.hid (kp_put K5.out.kp (g := w.heap.size) (x0 := x) (y0 := x) (t := 23) (by simp) (Nat.le_refl _) 0 0 (bx' := [(w3.heap.size, (0, 0), 23), (w.heap.size + 1, (u, v), 32)]) (fun p hp => by
        rcases List.mem_cons.1 hp with rfl | hp
        · exact ⟨by simp, Nat.ne_of_gt HLT3.out⟩
        · rcases List.mem_cons.1 hp with rfl | hp
          · exact ⟨by simp, by show w.heap.size + 1 ≠ w.heap.size; omega⟩
          · cases hp))
      have j0 := K6.out.c0 (g := w.heap.size) (x := 0) (y := 0) (t := 23) (by simp)
      have j1 := K6.out.c1 (g := w.heap.size) (x := 0) (y := 0) (t := 23) (by simp)
      have l0 := K6.out.c0 (g := w.heap.size + 1) (x := u) (y := v) (t := 32) (by simp)
      have l1 := K6.out.c1 (g := w.heap.size + 1) (x := u) (y := v) (t := 32) (by simp)
      have n0 := K6.out.c0 (g := w3.heap.size) (x := 0) (y := 0) (t := 23) (by simp)
      have n1 := K6.out.c1 (g := w3.heap.size) (x := 0) (y := 0) (t := 23) (by simp)
      clear K4
      go_wp2_with fail
      refine (H4.out _).mono ?_
      rintro e w4 ⟨rfl, hb⟩
      have K7 := Lib.hid ((K6.out.more hb).new q0 q1 23)
      clear hb K5 K6 m0 m1 u0 u1 f0 f1 j0 j1 l0 l1 n0 n1 H4
      cases qb with
      | false =>
        obtain ⟨rfl, rfl⟩ := HQF.out rfl
        go_wp2_with fail
        go_ret
        exact ⟨rfl, K7.out.bel⟩
      | true =>
        obtain ⟨q2, q3, q4⟩ := HQT.out rfl
        go_wp2_with fail
        go_ret
        exact ⟨by simp, K7.out.bel⟩
    · have hne : (x == y) = false := by rw [beq_eq_false_iff_ne]; exact hxy
      replace H3 := Lib.hid (show ∀ V : World, Calls Tryd.prog 7 #[.string ⟨t.toArray⟩] V fun e w' => e = .returned (.tuple #[.agg #[.int .i64 x, .int .i64 y], .int .i64 long, .bool true]) ∧ Below V.heap.size V w' from fun V => by
        have h2 := H3.out V
        rw [if_neg hxy] at h2
        exact h2)
      go_wp2_with fail
      refine (H3.out _).mono ?_
      rintro e w3 ⟨rfl, hb⟩
      have K4 := Lib.hid (K3.out.more hb)
      have K5 := Lib.hid (K4.out.new x y 23)
      have m0 := K5.out.kp.c0 (g := w.heap.size) (x := x) (y := y) (t := 23) (by simp)
      have m1 := K5.out.kp.c1 (g := w.heap.size) (x := x) (y := y) (t := 23) (by simp)
      have u0 := K5.out.kp.c0 (g := w.heap.size + 1) (x := u) (y := v) (t := 32) (by simp)
      have u1 := K5.out.kp.c1 (g := w.heap.size + 1) (x := u) (y := v) (t := 32) (by simp)
      clear hb H3 k0 k1 K3 K4
      go_wp2_with fail
      refine (H4.out _).mono ?_
      rintro e w4 ⟨rfl, hb⟩
      have K7 := Lib.hid ((K5.out.kp.more hb).new q0 q1 23)
      clear hb K5 m0 m1 u0 u1 H4
      cases qb with
      | false =>
        obtain ⟨rfl, rfl⟩ := HQF.out rfl
        go_wp2_with fail
        go_ret
        exact ⟨rfl, K7.out.bel⟩
      | true =>
        obtain ⟨q2, q3, q4⟩ := HQT.out rfl
        go_wp2_with fail
        go_ret
        exact ⟨by simp, K7.out.bel⟩

set_option maxHeartbeats 2000000 in
set_option maxRecDepth 100000 in
theorem contract (H : Type) (enc : TypeId × Value → H) (W : World) (base : Nat) (args : Array Value) (ds gs : List (DataW H)) (before : List MemPlace)
    (hval : ∀ (j : Nat) t v, Tryd.f4.params[j]? = some t → args[j]? = some v → Value.okWide Tryd.prog W .any base t v)
    (hW : DataW.Whole enc Tryd.prog Tryd.f4.params.toList Rows.rangesBackSpec.vars false W args.toList ds gs before) (ts : List TypeId) (hsz : (DataW.weightsEach Tryd.prog (Tryd.f4.params.toList ++ ts) (ds ++ gs)).all (· ≤ reachBytes) = true) (hL : laidMetH Tryd.prog Rows.rangesBackRow.laid W) :
    Calls Tryd.prog 4 args W fun e W' => ∃ v, e = .returned v ∧ Rows.rangesBackSpec.post enc Tryd.prog Tryd.f4 false true false false W args v W' := by
  have hW' := hW
  obtain ⟨p, q, hA0, hV, rfl, hfz, hnd⟩ := hW
  have hA : DataW.TrodAll enc Tryd.prog W 0 (fun _ => true) true Tryd.f4.params.toList args.toList ds p := hA0
  rw [Tryd.params4] at hA hval hsz
  obtain ⟨v0, vs0, d0, ds0, p0, q0, hargs, rfl, rfl, h0, r0⟩ := trodAll_cons hA
  obtain ⟨v1, vs1, d1, ds1, p1, q1, rfl, rfl, rfl, h1, r1⟩ := trodAll_cons r0
  obtain ⟨v2, vs2, d2, ds2, p2, q2, rfl, rfl, rfl, h2, r2⟩ := trodAll_cons r1
  obtain ⟨rfl, rfl, rfl⟩ := trodAll_nil r2
  obtain rfl : args = #[v0, v1, v2] := by cases args; simp_all
  obtain ⟨rfl, rfl⟩ := trodVars_none hV
  have k0 := h0
  have lt0 : ∀ x ∈ p0, x.block < W.heap.size := by obtain ⟨m, hm⟩ := k0; exact DataW.trod_lt m _ _ _ hm
  obtain ⟨⟨x0, y0⟩, rfl⟩ := Sn.open_span (hval 0 23 v0 rfl rfl) h0
  obtain ⟨a1, rfl, rfl, rfl, w1⟩ := open_int Tryd.underlying3 (hval 1 3 v1 rfl rfl) h1
  have k2 := h2
  have lt2 : ∀ x ∈ p2, x.block < W.heap.size := by obtain ⟨m, hm⟩ := k2; exact DataW.trod_lt m _ _ _ hm
  obtain ⟨⟨x2, y2⟩, rfl⟩ := Rn.open_want (hval 2 32 v2 rfl rfl) h2
  clear hA0
  simp only [List.append_nil] at hW'
  refine (walk x0 y0 a1 w1 x2 y2 W (Tb.p10_of_head (Tb.tail (Tb.tail hL)))).mono fun e W' ⟨he, bel⟩ => ?_
  subst he
  exact ⟨_, rfl, _, _, _, [], _, [], hW', trodAll_mk1 (shut_bool Tryd.underlying4 _), (trodAll_cons_mk (Below.trod Tb.laidOut (by kernel_rfl) (of_decide_eq_true (by kernel_rfl)) k0 bel lt0) (trodAll_cons_mk (shut_int Tryd.underlying3 w1) (trodAll_cons_mk (Below.trod Tb.laidOut (by kernel_rfl) (of_decide_eq_true (by kernel_rfl)) k2 bel lt2) trodAll_mk0))), rfl, bel.frame _, fun h => by cases h⟩

theorem laid_met (os : Os) : laidMet Tryd.prog Rows.rangesBackRow.laid ((Tb.laidWorld os).forCall (fun _ _ => 0) ⟨#[], #[.agg #[.int .i64 0, .int .i64 0], .int .i64 0, .agg #[.int .i64 0, .int .i64 0]], []⟩).memory :=
  laidMet_of_run' 8 (by kernel_rfl) (by kernel_rfl)
theorem reads (os : Os) {H : Type} (enc : TypeId × Value → H) : ∃ places, DataW.whole enc Tryd.prog ((Tb.laidWorld os).forCall (fun _ _ => 0) ⟨#[], #[.agg #[.int .i64 0, .int .i64 0], .int .i64 0, .agg #[.int .i64 0, .int .i64 0]], []⟩).memory Tryd.f4.params.toList Rows.rangesBackSpec.vars false (#[.agg #[.int .i64 0, .int .i64 0], .int .i64 0, .agg #[.int .i64 0, .int .i64 0]] : Array Value).toList 8 = some ([.agg [.lit (.int .i64 0), .lit (.int .i64 0)], .lit (.int .i64 0), .agg [.lit (.int .i64 0), .lit (.int .i64 0)]], [], places) :=
  ⟨[], by kernel_rfl⟩

set_option maxRecDepth 100000 in
theorem lifted (os : Os) (started : os.Started) (H : Type) (enc : TypeId × Value → H) (F : Stop.Interp) :
    ReturnsInHanded {} Tryd.checked os 4 .any ((OpenSpec.ofChange Rows.rangesBackSpec).preRow enc Tryd.prog Tryd.f4 Rows.rangesBackRow.domain false Rows.rangesBackRow.laid) (((OpenSpec.ofChange Rows.rangesBackSpec).at F).post enc Tryd.prog Tryd.f4 false true false false) := by
  obtain ⟨places, hx⟩ := reads os enc
  refine returnsInHanded_of_row (C := Tryd.checked) (s := OpenSpec.ofChange Rows.rangesBackSpec) Tb.own started (by kernel_rfl) Tryd.func4
    (witness_row_at (enc := enc) (C := Tryd.checked) false (Tb.laidWorld os) #[.agg #[.int .i64 0, .int .i64 0], .int .i64 0, .agg #[.int .i64 0, .int .i64 0]] rfl (by kernel_rfl) (by kernel_rfl) (by kernel_rfl)
      (OpenSpec.preRow_of_cond 8 hx (by kernel_rfl) (fun k hk => by cases hk) (by kernel_rfl) (laid_met os))) ?_
  intro W base args ds gs before hval hW _ _ hsz hL _ _
  exact contract H enc W base args ds gs before hval hW _ hsz hL

theorem said : Rows.RangesBackSaid :=
  OpenClaim.holds_of_cond 4 Tryd.f4 rfl rfl rfl rfl rfl rfl rfl ⟨rfl, rfl, rfl, rfl, rfl⟩ rfl rfl rfl rfl rfl (by kernel_rfl) Tryd.func4 (by kernel_rfl)
    (of_decide_eq_true (by kernel_rfl)) (by unfold Func.isWrapper; first | (rw [if_pos (by decide +kernel)]; kernel_rfl) | (rw [if_neg (by decide +kernel)]; exact ⟨rfl, rfl⟩))
    (fun os started H enc _ F => by rw [OpenClaim.pre_eq_preRow]; exact lifted os started H enc F)

set_option maxRecDepth 100000 in
theorem plain (f : FuncId) (fn : Func) (hf : Tryd.pinned.checked.prog.funcNamed "gatepost/gatepostlaw14.RangesBack" = some f) (hfn : Tryd.pinned.checked.prog.funcs[f]? = some fn) :
    false = Tryd.pinned.checked.prog.looks [] ∧ ∀ (j : Nat) t, fn.params[j]? = some t → Tryd.pinned.checked.prog.wantsStandIn t = false := by
  obtain rfl : f = 4 := Option.some.inj ((show Tryd.prog.funcNamed "gatepost/gatepostlaw14.RangesBack" = some 4 by kernel_rfl).symm.trans hf) |>.symm
  obtain rfl : fn = Tryd.f4 := (Option.some.inj (Tryd.func4.symm.trans hfn)).symm
  refine ⟨by kernel_rfl, fun j t ht => ?_⟩
  rw [Tryd.params4] at ht
  have hm := Array.mem_of_getElem? ht
  simp at hm
  repeat' (rcases hm with hm | hm)
  all_goals
    first
      | exact (show Tryd.prog.wantsStandIn 23 = false by kernel_rfl)
      | exact (show Tryd.prog.wantsStandIn 3 = false by kernel_rfl)
      | exact (show Tryd.prog.wantsStandIn 32 = false by kernel_rfl)

theorem card : Rows.RangesBackCardSaid :=
  Claim7.holds_tied_plain_at .later [] _ _ _ _ said (fun _ h => by cases h) (by kernel_rfl) (fun _ h => by cases h) rangesBack_row_tie rfl ⟨rfl, rfl⟩ (by kernel_rfl) rfl plain (by kernel_rfl)
end Go.Proofs.YthhnpdihgoiccaaDoor.rangesBack
