/-
  LineWrites: for every two texts and two numbers, of at most 1048576 letters in all, the call returns true.
  Conditions: at most 1048576 values and letters in all; the listed tables hold what the program's text lays (the card ties them).
-/
import Derived.Test.YtldlhnppinodbaaDoorTabs
import Derived.Test.YtldlhnppinodbaaDoorLnRefLines
import Derived.WideKeyPair
namespace Go.Proofs.YtldlhnppinodbaaDoor.lineWrites
open Go.ChangeShapes Go.WideShapes Go.ChangeAt Go.RowKit
open Go.ChangeMaps (open_string shut_string)
set_option linter.unusedVariables false

theorem arr2 : WideMaps.ArrKey Tryd.prog 33 3 2 := ⟨Tryd.underlying33, by kernel_rfl, by kernel_rfl, by kernel_rfl⟩
theorem wf_bd {a : Int} (h : (Lit.int .i64 a).wf = true) : -9223372036854775808 ≤ a ∧ a ≤ 9223372036854775807 := by
  simpa [Lit.wf, IntKind.min, IntKind.max, IntKind.signed, IntKind.bits] using h
theorem below_drewN {B : Nat} {a w w' : World} {n : Nat} (h : Below B a w) (e : w' = w.drewN n) : Below B a w' := by
  subst e; exact ⟨h.os, h.tape, h.output, h.size, h.block⟩
theorem tell_shape (bad : Bool) (J : ByteArray) : ∃ (R : ByteArray) (c : Int), Ln.tellVal bad J = .tuple #[.string R, .int .i64 c] ∧ 0 ≤ c ∧ c ≤ 3 := by
  unfold Ln.tellVal
  split
  · exact ⟨_, _, rfl, by omega, by omega⟩
  · split
    · exact ⟨_, _, rfl, by omega, by omega⟩
    · exact ⟨_, _, rfl, by omega, by omega⟩
theorem one : Ln.stLineVal 1 204 ⟨#[]⟩ = .tuple #[.string ⟨#[72, 84, 84, 80, 47, 49, 46, 49, 32, 50, 48, 52, 32]⟩, .int .i64 0] := by
  have h : Ln.three (Ln.VT 1) (Ln.IT 204) ⟨#[]⟩ = ⟨#[72, 84, 84, 80, 47, 49, 46, 49, 32, 50, 48, 52, 32]⟩ := by
    rw [Ln.VT1]; unfold Ln.IT; rw [show (204 : Int) = ((204 : Nat) : Int) from rfl, Ln.itoa3 204 (by omega) (by omega)]; rfl
  unfold Ln.stLineVal Ln.tellVal
  rw [h]; rfl

set_option maxHeartbeats 4000000 in
theorem walk (a0 : ByteArray) (s0 : a0.size ≤ 1048576) (a1 : ByteArray) (s1 : a1.size ≤ 1048576) (n c : Int) (w2 : (Lit.int .i64 n).wf = true) (u2 : (Lit.int .i64 c).wf = true) (w : World) (hT : Tk.Tab w) (hP : Tb.P10 w) :
    Calls Tryd.prog 4 #[.string a0, .string a1, .agg #[.int .i64 n, .int .i64 c]] w fun e w' => e = .returned (.bool true) ∧ Below w.heap.size w w' := by
  have HE := Lib.hid (show Ln.Env w from ⟨hT, hP⟩)
  obtain ⟨n0, n1⟩ := wf_bd w2
  obtain ⟨c0, c1⟩ := wf_bd u2
  obtain ⟨R, d, hv, d0, d1⟩ := tell_shape (Ln.reqBad a0 a1 n) (Ln.three a0 a1 (Ln.VT n))
  obtain ⟨S, f, hs, f0, f1⟩ := tell_shape (Ln.stBad n c a0) (Ln.three (Ln.VT n) (Ln.IT c) a0)
  have HR := Lib.hid (show Ln.reqLineVal a0 a1 n = .tuple #[.string R, .int .i64 d] from hv)
  have HS := Lib.hid (show Ln.stLineVal n c a0 = .tuple #[.string S, .int .i64 f] from hs)
  clear hT hP w2 u2 hv hs
  have tR : (R.toList == R.toList) = true := by simp
  have tS : (S.toList == S.toList) = true := by simp
  have td : (d == d) = true := by simp
  have tf : (f == f) = true := by simp
  go_enter Tryd.func4, Tryd.ntmps4
  go_wp2_with fail
  refine (Ln.requestLine_any a0 a1 n _ s0 s1 n0 n1 (HE.out.below ((Below.refl _ _).alloc (Nat.le_refl _) _) (Nat.le_refl _))).mono ?_
  rintro e x1 ⟨rfl, hb1⟩
  rw [HR.out]
  have e0 : x1.cell? ⟨w.heap.size, 0, none⟩ = some (.int .i64 n) := by rw [hb1.cell (by simp)]; simp
  have e1 : x1.cell? ⟨w.heap.size, 1, none⟩ = some (.int .i64 c) := by rw [hb1.cell (by simp)]; simp
  have hB1 : Below w.heap.size w x1 := ((Below.refl _ _).alloc (Nat.le_refl _) _).trans (hb1.mono (by simp))
  have z1 : w.heap.size < x1.heap.size := by have := hb1.size; simp at this; omega
  clear hb1
  go_wp2_with fail
  refine (Ln.refRequestLine_any a0 a1 n _ s0 s1).mono ?_
  rintro e w' ⟨rfl, rfl⟩
  rw [HR.out]
  go_wp2_with fail
  refine (Ln.statusLine_any n c a0 _ s0 n0 n1 c0 c1 (HE.out.below hB1 (Nat.le_refl _))).mono ?_
  rintro e x3 ⟨rfl, hb3⟩
  rw [HS.out]
  have e2 : x3.cell? ⟨w.heap.size, 0, none⟩ = some (.int .i64 n) := by rw [hb3.cell z1]; exact e0
  have e3 : x3.cell? ⟨w.heap.size, 1, none⟩ = some (.int .i64 c) := by rw [hb3.cell z1]; exact e1
  have hB3 := hB1.trans (hb3.mono hB1.size)
  clear hB1 hb3 z1 e0 e1
  go_wp2_with fail
  refine (Ln.refStatusLine_any n c a0 _ s0).mono ?_
  rintro e x4 ⟨rfl, n4, hw4⟩
  rw [HS.out]
  have hB4 := below_drewN hB3 hw4
  clear hB3 hw4 e2 e3
  go_wp2_with fail
  refine (Ln.statusLine_any 1 204 ⟨#[]⟩ _ (by decide) (by omega) (by omega) (by omega) (by omega) (HE.out.below hB4 (Nat.le_refl _))).mono ?_
  rintro e x5 ⟨rfl, hb5⟩
  rw [one]
  have hB5 := hB4.trans (hb5.mono hB4.size)
  clear hB4 hb5
  go_wp2_with fail
  go_ret
  exact ⟨rfl, hB5⟩


theorem contract (H : Type) (enc : TypeId × Value → H) (W : World) (base : Nat) (args : Array Value) (ds gs : List (DataW H)) (before : List MemPlace)
    (hval : ∀ (j : Nat) t v, Tryd.f4.params[j]? = some t → args[j]? = some v → Value.okWide Tryd.prog W .any base t v)
    (hW : DataW.Whole enc Tryd.prog Tryd.f4.params.toList Rows.lineWritesSpec.vars false W args.toList ds gs before) (hk : Rows.uptoSmall H (ds ++ gs) = true) (hL : laidMetH Tryd.prog Rows.lineWritesUptoRow.laid W) :
    Calls Tryd.prog 4 args W fun e W' => ∃ v, e = .returned v ∧ Rows.lineWritesSpec.post enc Tryd.prog Tryd.f4 false true false false W args v W' := by
  have hW' := hW
  obtain ⟨p, q, hA0, hV, rfl, hfz, hnd⟩ := hW
  have hA : DataW.TrodAll enc Tryd.prog W 0 (fun _ => true) true Tryd.f4.params.toList args.toList ds p := hA0
  rw [Tryd.params4] at hA hval
  obtain ⟨v0, vs0, d0, ds0, p0, q0, hargs, rfl, rfl, h0, r0⟩ := trodAll_cons hA
  obtain ⟨v1, vs1, d1, ds1, p1, q1, rfl, rfl, rfl, h1, r1⟩ := trodAll_cons r0
  obtain ⟨v2, vs2, d2, ds2, p2, q2, rfl, rfl, rfl, h2, r2⟩ := trodAll_cons r1
  obtain ⟨rfl, rfl, rfl⟩ := trodAll_nil r2
  obtain rfl : args = #[v0, v1, v2] := by cases args; simp_all
  obtain ⟨rfl, rfl⟩ := trodVars_none hV
  obtain ⟨a0, rfl, rfl, rfl, w0⟩ := open_string Tryd.underlying9 (hval 0 9 v0 rfl rfl) h0
  obtain ⟨a1, rfl, rfl, rfl, w1⟩ := open_string Tryd.underlying9 (hval 1 9 v1 rfl rfl) h1
  obtain ⟨a2, b2, rfl, rfl, rfl, w2, u2⟩ := WideMaps.open_pair arr2 Tryd.underlying3 (hval 2 33 v2 rfl rfl) h2
  have hb := of_decide_eq_true hk
  simp only [List.append_nil, Rows.uptoBulkAll, Rows.uptoBulk, Array.length_toList] at hb
  have s0 : a0.size ≤ 1048576 := by have e : a0.data.size = a0.size := rfl; omega
  have s1 : a1.size ≤ 1048576 := by have e : a1.data.size = a1.size := rfl; omega
  clear hA0
  simp only [List.append_nil] at hW'
  refine (walk a0 s0 a1 s1 a2 b2 w2 u2 W (Tb.tok_of_head (Tb.tail (Tb.tail (Tb.tail hL)))) (Tb.p10_of_head (Tb.tail (Tb.tail hL)))).mono fun e W' ⟨he, bel⟩ => ?_
  subst he
  exact ⟨_, rfl, _, _, _, [], _, [], hW', trodAll_mk1 (shut_bool Tryd.underlying4 _), (trodAll_cons_mk (shut_string Tryd.underlying9 w0) (trodAll_cons_mk (shut_string Tryd.underlying9 w1) (trodAll_cons_mk (WideMaps.shut_pair arr2 Tryd.underlying3 w2 u2) trodAll_mk0))), rfl, bel.frame _, fun h => by cases h⟩

theorem laid_met (os : Os) : laidMet Tryd.prog Rows.lineWritesUptoRow.laid ((Tb.laidWorld os).forCall (fun _ _ => 0) ⟨#[], #[.string ByteArray.empty, .string ByteArray.empty, .agg #[.int .i64 0, .int .i64 0]], []⟩).memory :=
  laidMet_of_run' 8 (by kernel_rfl) (by kernel_rfl)
theorem reads (os : Os) {H : Type} (enc : TypeId × Value → H) : ∃ places, DataW.whole enc Tryd.prog ((Tb.laidWorld os).forCall (fun _ _ => 0) ⟨#[], #[.string ByteArray.empty, .string ByteArray.empty, .agg #[.int .i64 0, .int .i64 0]], []⟩).memory Tryd.f4.params.toList Rows.lineWritesSpec.vars false (#[.string ByteArray.empty, .string ByteArray.empty, .agg #[.int .i64 0, .int .i64 0]] : Array Value).toList 8 = some ([.lit (.string []), .lit (.string []), .agg [.lit (.int .i64 0), .lit (.int .i64 0)]], [], places) :=
  ⟨[], by kernel_rfl⟩

set_option maxRecDepth 100000 in
theorem lifted (os : Os) (started : os.Started) (H : Type) (enc : TypeId × Value → H) (F : Stop.Interp) :
    ReturnsInHanded {} Tryd.checked os 4 .any ((Rows.OpenSpec.upto Rows.lineWritesSpec).preRow enc Tryd.prog Tryd.f4 Rows.lineWritesUptoRow.domain false Rows.lineWritesUptoRow.laid) (((Rows.OpenSpec.upto Rows.lineWritesSpec).at F).post enc Tryd.prog Tryd.f4 false true false false) := by
  obtain ⟨places, hx⟩ := reads os enc
  refine returnsInHanded_of_row (C := Tryd.checked) (s := Rows.OpenSpec.upto Rows.lineWritesSpec) Tb.own started (by kernel_rfl) Tryd.func4
    (witness_row_at (enc := enc) (C := Tryd.checked) false (Tb.laidWorld os) #[.string ByteArray.empty, .string ByteArray.empty, .agg #[.int .i64 0, .int .i64 0]] rfl (by kernel_rfl) (by kernel_rfl) (by kernel_rfl)
      (OpenSpec.preRow_of_cond 8 hx (by kernel_rfl) (fun k hk => by cases hk; kernel_rfl) (by kernel_rfl) (laid_met os))) ?_
  intro W base args ds gs before hval hW _ hcond _ hL _ _
  exact contract H enc W base args ds gs before hval hW (hcond _ rfl) hL

theorem said : Rows.LineWritesUptoSaid :=
  OpenClaim.holds_of_cond 4 Tryd.f4 rfl rfl rfl rfl rfl rfl rfl ⟨rfl, rfl, rfl, rfl, rfl⟩ rfl rfl rfl rfl rfl (by kernel_rfl) Tryd.func4 (by kernel_rfl)
    (of_decide_eq_true (by kernel_rfl)) (by unfold Func.isWrapper; first | (rw [if_pos (by decide +kernel)]; kernel_rfl) | (rw [if_neg (by decide +kernel)]; exact ⟨rfl, rfl⟩))
    (fun os started H enc _ F => by rw [OpenClaim.pre_eq_preRow]; exact lifted os started H enc F)

theorem plain (f : FuncId) (fn : Func) (hf : Tryd.pinned.checked.prog.funcNamed "gatepost/gatepostlaw03.LineWrites" = some f) (hfn : Tryd.pinned.checked.prog.funcs[f]? = some fn) :
    false = Tryd.pinned.checked.prog.looks [] ∧ ∀ (j : Nat) t, fn.params[j]? = some t → Tryd.pinned.checked.prog.wantsStandIn t = false := by
  obtain rfl : f = 4 := Option.some.inj ((show Tryd.prog.funcNamed "gatepost/gatepostlaw03.LineWrites" = some 4 by kernel_rfl).symm.trans hf) |>.symm
  obtain rfl : fn = Tryd.f4 := (Option.some.inj (Tryd.func4.symm.trans hfn)).symm
  refine ⟨by kernel_rfl, fun j t ht => ?_⟩
  rw [Tryd.params4] at ht
  have hm := Array.mem_of_getElem? ht
  simp at hm
  rcases hm with rfl | rfl
  · exact (show Tryd.prog.wantsStandIn 9 = false by kernel_rfl)
  · exact (show Tryd.prog.wantsStandIn 33 = false by kernel_rfl)

theorem card : Rows.LineWritesUptoCardSaid :=
  Claim7.holds_tied_plain_at .later [] _ _ _ _ said (fun _ h => by cases h) (by kernel_rfl) (fun _ h => by cases h) lineWritesUpto_row_tie rfl ⟨rfl, rfl⟩ (by kernel_rfl) rfl plain (by kernel_rfl)
end Go.Proofs.YtldlhnppinodbaaDoor.lineWrites
