/-
  RangesContent: RangesContent: for any span, any length and any text the law's call returns true.
  Conditions: the listed tables hold what the program's text lays (the card ties them).
-/
import Derived.Deep.DeepCutAuto
import Derived.Deep.RegionWith
import Derived.Test.YthhnpdihgoiccaaDoorTabs
import Derived.SizedLaws
import Derived.Carry
import Derived.Test.YthhnpdihgoiccaaDoorRnRefCon
import Derived.Test.YthhnpdihgoiccaaDoorRnRefRd
import Derived.Test.YthhnpdihgoiccaaDoorRnOpen
import Derived.WideKeyPair
namespace Go.Proofs.YthhnpdihgoiccaaDoor.rangesContent
open Go.ChangeShapes Go.WideShapes Go.ChangeAt Go.RowKit
open Go.ChangeMaps (open_string shut_string)
set_option linter.unusedVariables false

open Go.Proofs.YthhnpdihgoiccaaDoor.Fd Go.Proofs.YthhnpdihgoiccaaDoor.Sn Go.Proofs.YthhnpdihgoiccaaDoor.Rn Go.Proofs.YthhnpdihgoiccaaDoor.Rm
theorem con_form (o : Option Tk.Bs) : ∃ c e, conV o = .tuple #[.string c, .int .i64 e] := by
  cases o with
  | none => exact ⟨_, _, rfl⟩
  | some q => exact ⟨_, _, rfl⟩
theorem rd_form (o : Option (Rm.W × Int)) : ∃ p0 p1 n b, rdV o = .tuple #[.agg #[.int .i64 p0, .int .i64 p1], .int .i64 n, .bool b] := by
  cases o with
  | none => exact ⟨_, _, _, _, rfl⟩
  | some q => exact ⟨_, _, _, _, rfl⟩
/-- The boxes, and strconv's table. -/
structure KP (w : World) (bx : List (Nat × Sp × TypeId)) (W : World) : Prop where
  kp : Kp w bx W
  p10 : Tb.P10 W
theorem KP.more {w W W' : World} {bx : List (Nat × Sp × TypeId)} (h : KP w bx W) (hb : Below W.heap.size W W') : KP w bx W' := ⟨h.kp.more hb, p10_below h.p10 hb (Nat.le_refl _)⟩
theorem KP.new {w W : World} {bx : List (Nat × Sp × TypeId)} (h : KP w bx W) (x y : Int) (t : TypeId) : KP w ((W.heap.size, (x, y), t) :: bx) (W.alloc (.cells #[.int .i64 x, .int .i64 y] t)) :=
  ⟨h.kp.new x y t, p10_below h.p10 ((Below.refl W.heap.size W).alloc (Nat.le_refl _) _) (Nat.le_refl _)⟩
set_option maxRecDepth 100000 in
set_option maxHeartbeats 16000000 in
theorem walk (x y : Int) (long : Int) (wz : (Lit.int .i64 long).wf = true) (s : ByteArray) (hs : s.size ≤ reachBytes) (w : World) (hP : Tb.P10 w) :
    Calls Tryd.prog 3 #[.agg #[.int .i64 x, .int .i64 y], .int .i64 long, .string s] w fun e w' => e = .returned (.bool true) ∧ Below w.heap.size w w' := by
  have hz : s.size ≤ maxLen := Nat.le_trans hs (by decide)
  clear wz hs
  obtain ⟨c, ce, hC⟩ := con_form (contentOf (x, y) long)
  obtain ⟨p0, p1, pn, pb, hR⟩ := rd_form (readR s.data.toList)
  have H1 := Lib.hid (show ∀ V : World, Tb.P10 V → Calls Tryd.prog 5 #[.agg #[.int .i64 x, .int .i64 y], .int .i64 long] V fun e w' => e = .returned (.tuple #[.string c, .int .i64 ce]) ∧ Below V.heap.size V w' from fun V h => by rw [← hC]; exact content_any x y long V h)
  have H2 := Lib.hid (show ∀ V : World, Calls Tryd.prog 6 #[.agg #[.int .i64 x, .int .i64 y], .int .i64 long] V fun e w' => e = .returned (.tuple #[.string c, .int .i64 ce]) ∧ Below V.heap.size V w' from fun V => by rw [← hC]; exact refContent_any x y long V)
  have H3 := Lib.hid (show ∀ V : World, Calls Tryd.prog 7 #[.string s] V fun e w' => e = .returned (.tuple #[.agg #[.int .i64 p0, .int .i64 p1], .int .i64 pn, .bool pb]) ∧ Below V.heap.size V w' from fun V => by rw [← hR]; exact readP_any s V hz)
  have H4 := Lib.hid (show ∀ V : World, Calls Tryd.prog 8 #[.string s] V fun e w' => e = .returned (.tuple #[.agg #[.int .i64 p0, .int .i64 p1], .int .i64 pn, .bool pb]) ∧ Below V.heap.size V w' from fun V => by rw [← hR]; exact refRead_any s V hz)
  have H5 := Lib.hid (show ∀ V : World, Tb.P10 V → Calls Tryd.prog 5 #[.agg #[.int .i64 0, .int .i64 0], .int .i64 5] V fun e w' => e = .returned (.tuple #[.string ⟨#[98, 121, 116, 101, 115, 32, 42, 47, 53]⟩, .int .i64 0]) ∧ Below V.heap.size V w' from fun V h => by
    have h2 := content_any 0 0 5 V h
    rw [content_five] at h2
    exact h2)
  have K1 := Lib.hid ((show KP w [] w from ⟨Kp.start, hP⟩).new x y 23)
  clear hC hR hz hP
  go_enter Tryd.func3, Tryd.ntmps3
  go_wp2_with fail
  refine (H1.out _ K1.out.p10).mono ?_
  rintro e w1 ⟨rfl, hb⟩
  have K2 := Lib.hid (K1.out.more hb)
  have c0 := K2.out.kp.c0 (g := w.heap.size) (x := x) (y := y) (t := 23) (by simp)
  have c1 := K2.out.kp.c1 (g := w.heap.size) (x := x) (y := y) (t := 23) (by simp)
  clear hb K1
  go_wp2_with fail
  refine (H2.out _).mono ?_
  rintro e w2 ⟨rfl, hb⟩
  have K3 := Lib.hid (K2.out.more hb)
  clear hb K2 c0 c1
  go_wp2_with fail
  refine (H3.out _).mono ?_
  rintro e w3 ⟨rfl, hb⟩
  have K4 := Lib.hid ((K3.out.more hb).new p0 p1 23)
  clear hb K3
  go_wp2_with fail
  refine (H4.out _).mono ?_
  rintro e w4 ⟨rfl, hb⟩
  have K5 := Lib.hid ((K4.out.more hb).new p0 p1 23)
  clear hb K4
  go_wp2_with fail
  refine (H5.out _ K5.out.p10).mono ?_
  rintro e w5 ⟨rfl, hb⟩
  have K6 := Lib.hid (K5.out.more hb)
  clear hb K5
  have a0 := K6.out.kp.c0 (g := w3.heap.size) (x := p0) (y := p1) (t := 23) (by simp)
  have a1 := K6.out.kp.c1 (g := w3.heap.size) (x := p0) (y := p1) (t := 23) (by simp)
  have b0 := K6.out.kp.c0 (g := w4.heap.size) (x := p0) (y := p1) (t := 23) (by simp)
  have b1 := K6.out.kp.c1 (g := w4.heap.size) (x := p0) (y := p1) (t := 23) (by simp)
  go_wp2_with fail
  go_ret
  exact ⟨by simp, K6.out.kp.bel⟩

set_option maxHeartbeats 2000000 in
set_option maxRecDepth 100000 in
theorem contract (H : Type) (enc : TypeId × Value → H) (W : World) (base : Nat) (args : Array Value) (ds gs : List (DataW H)) (before : List MemPlace)
    (hval : ∀ (j : Nat) t v, Tryd.f3.params[j]? = some t → args[j]? = some v → Value.okWide Tryd.prog W .any base t v)
    (hW : DataW.Whole enc Tryd.prog Tryd.f3.params.toList Rows.rangesContentSpec.vars false W args.toList ds gs before) (ts : List TypeId) (hsz : (DataW.weightsEach Tryd.prog (Tryd.f3.params.toList ++ ts) (ds ++ gs)).all (· ≤ reachBytes) = true) (hL : laidMetH Tryd.prog Rows.rangesContentRow.laid W) :
    Calls Tryd.prog 3 args W fun e W' => ∃ v, e = .returned v ∧ Rows.rangesContentSpec.post enc Tryd.prog Tryd.f3 false true false false W args v W' := by
  have hW' := hW
  obtain ⟨p, q, hA0, hV, rfl, hfz, hnd⟩ := hW
  have hA : DataW.TrodAll enc Tryd.prog W 0 (fun _ => true) true Tryd.f3.params.toList args.toList ds p := hA0
  rw [Tryd.params3] at hA hval hsz
  obtain ⟨v0, vs0, d0, ds0, p0, q0, hargs, rfl, rfl, h0, r0⟩ := trodAll_cons hA
  obtain ⟨v1, vs1, d1, ds1, p1, q1, rfl, rfl, rfl, h1, r1⟩ := trodAll_cons r0
  obtain ⟨v2, vs2, d2, ds2, p2, q2, rfl, rfl, rfl, h2, r2⟩ := trodAll_cons r1
  obtain ⟨rfl, rfl, rfl⟩ := trodAll_nil r2
  have hw2 : ∀ n ∈ d2.weights Tryd.prog 9, n ≤ reachBytes := fun n hn => by simpa using List.all_eq_true.1 hsz n (DataW.weights_mem_each (j := 2) (t := 9) (d := d2) rfl rfl _ hn)
  obtain rfl : args = #[v0, v1, v2] := by cases args; simp_all
  obtain ⟨rfl, rfl⟩ := trodVars_none hV
  have k0 := h0
  have lt0 : ∀ x ∈ p0, x.block < W.heap.size := by obtain ⟨m, hm⟩ := k0; exact DataW.trod_lt m _ _ _ hm
  obtain ⟨⟨x0, y0⟩, rfl⟩ := Sn.open_span (hval 0 23 v0 rfl rfl) h0
  obtain ⟨a1, rfl, rfl, rfl, w1⟩ := open_int Tryd.underlying3 (hval 1 3 v1 rfl rfl) h1
  obtain ⟨a2, rfl, rfl, rfl, w2⟩ := open_string Tryd.underlying9 (hval 2 9 v2 rfl rfl) h2
  have s2 : a2.size ≤ reachBytes := by simpa [DataW.weights] using hw2
  clear hA0
  simp only [List.append_nil] at hW'
  refine (walk x0 y0 a1 w1 a2 s2 W (Tb.p10_of_head (Tb.tail (Tb.tail hL)))).mono fun e W' ⟨he, bel⟩ => ?_
  subst he
  exact ⟨_, rfl, _, _, _, [], _, [], hW', trodAll_mk1 (shut_bool Tryd.underlying4 _), (trodAll_cons_mk (Below.trod Tb.laidOut (by kernel_rfl) (of_decide_eq_true (by kernel_rfl)) k0 bel lt0) (trodAll_cons_mk (shut_int Tryd.underlying3 w1) (trodAll_cons_mk (shut_string Tryd.underlying9 w2) trodAll_mk0))), rfl, bel.frame _, fun h => by cases h⟩

theorem laid_met (os : Os) : laidMet Tryd.prog Rows.rangesContentRow.laid ((Tb.laidWorld os).forCall (fun _ _ => 0) ⟨#[], #[.agg #[.int .i64 0, .int .i64 0], .int .i64 0, .string ByteArray.empty], []⟩).memory :=
  laidMet_of_run' 8 (by kernel_rfl) (by kernel_rfl)
theorem reads (os : Os) {H : Type} (enc : TypeId × Value → H) : ∃ places, DataW.whole enc Tryd.prog ((Tb.laidWorld os).forCall (fun _ _ => 0) ⟨#[], #[.agg #[.int .i64 0, .int .i64 0], .int .i64 0, .string ByteArray.empty], []⟩).memory Tryd.f3.params.toList Rows.rangesContentSpec.vars false (#[.agg #[.int .i64 0, .int .i64 0], .int .i64 0, .string ByteArray.empty] : Array Value).toList 8 = some ([.agg [.lit (.int .i64 0), .lit (.int .i64 0)], .lit (.int .i64 0), .lit (.string [])], [], places) :=
  ⟨[], by kernel_rfl⟩

set_option maxRecDepth 100000 in
theorem lifted (os : Os) (started : os.Started) (H : Type) (enc : TypeId × Value → H) (F : Stop.Interp) :
    ReturnsInHanded {} Tryd.checked os 3 .any ((OpenSpec.ofChange Rows.rangesContentSpec).preRow enc Tryd.prog Tryd.f3 Rows.rangesContentRow.domain false Rows.rangesContentRow.laid) (((OpenSpec.ofChange Rows.rangesContentSpec).at F).post enc Tryd.prog Tryd.f3 false true false false) := by
  obtain ⟨places, hx⟩ := reads os enc
  refine returnsInHanded_of_row (C := Tryd.checked) (s := OpenSpec.ofChange Rows.rangesContentSpec) Tb.own started (by kernel_rfl) Tryd.func3
    (witness_row_at (enc := enc) (C := Tryd.checked) false (Tb.laidWorld os) #[.agg #[.int .i64 0, .int .i64 0], .int .i64 0, .string ByteArray.empty] rfl (by kernel_rfl) (by kernel_rfl) (by kernel_rfl)
      (OpenSpec.preRow_of_cond 8 hx (by kernel_rfl) (fun k hk => by cases hk) (by kernel_rfl) (laid_met os))) ?_
  intro W base args ds gs before hval hW _ _ hsz hL _ _
  exact contract H enc W base args ds gs before hval hW _ hsz hL

theorem said : Rows.RangesContentSaid :=
  OpenClaim.holds_of_cond 3 Tryd.f3 rfl rfl rfl rfl rfl rfl rfl ⟨rfl, rfl, rfl, rfl, rfl⟩ rfl rfl rfl rfl rfl (by kernel_rfl) Tryd.func3 (by kernel_rfl)
    (of_decide_eq_true (by kernel_rfl)) (by unfold Func.isWrapper; first | (rw [if_pos (by decide +kernel)]; kernel_rfl) | (rw [if_neg (by decide +kernel)]; exact ⟨rfl, rfl⟩))
    (fun os started H enc _ F => by rw [OpenClaim.pre_eq_preRow]; exact lifted os started H enc F)

set_option maxRecDepth 100000 in
theorem plain (f : FuncId) (fn : Func) (hf : Tryd.pinned.checked.prog.funcNamed "gatepost/gatepostlaw14.RangesContent" = some f) (hfn : Tryd.pinned.checked.prog.funcs[f]? = some fn) :
    false = Tryd.pinned.checked.prog.looks [] ∧ ∀ (j : Nat) t, fn.params[j]? = some t → Tryd.pinned.checked.prog.wantsStandIn t = false := by
  obtain rfl : f = 3 := Option.some.inj ((show Tryd.prog.funcNamed "gatepost/gatepostlaw14.RangesContent" = some 3 by kernel_rfl).symm.trans hf) |>.symm
  obtain rfl : fn = Tryd.f3 := (Option.some.inj (Tryd.func3.symm.trans hfn)).symm
  refine ⟨by kernel_rfl, fun j t ht => ?_⟩
  rw [Tryd.params3] at ht
  have hm := Array.mem_of_getElem? ht
  simp at hm
  repeat' (rcases hm with hm | hm)
  all_goals
    first
      | exact (show Tryd.prog.wantsStandIn 23 = false by kernel_rfl)
      | exact (show Tryd.prog.wantsStandIn 3 = false by kernel_rfl)
      | exact (show Tryd.prog.wantsStandIn 9 = false by kernel_rfl)

theorem card : Rows.RangesContentCardSaid :=
  Claim7.holds_tied_plain_at .later [] _ _ _ _ said (fun _ h => by cases h) (by kernel_rfl) (fun _ h => by cases h) rangesContent_row_tie rfl ⟨rfl, rfl⟩ (by kernel_rfl) rfl plain (by kernel_rfl)
end Go.Proofs.YthhnpdihgoiccaaDoor.rangesContent
