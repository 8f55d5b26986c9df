/-
  LineReads: for every text the call returns true.
  Conditions: the listed tables hold what the program's text lays (the card ties them).
-/
import Derived.Test.YtldlhnppinodbaaDoorTabs
import Derived.Test.YtldlhnppinodbaaDoorLnSt
import Derived.Test.YtldlhnppinodbaaDoorLnRefReq
import Derived.Test.YtldlhnppinodbaaDoorLnRefSt
import Derived.WideKeyPair
namespace Go.Proofs.YtldlhnppinodbaaDoor.lineReads
open Go.ChangeShapes Go.WideShapes Go.ChangeAt Go.RowKit
open Go.ChangeMaps (open_string shut_string)
set_option linter.unusedVariables false

theorem below_drewN {B : Nat} {a w w' : World} {n : Nat} (h : Below B a w) (e : w' = w.drewN n) : Below B a w' := by
  subst e; exact ⟨h.os, h.tape, h.output, h.size, h.block⟩
theorem req_shape (s : ByteArray) : ∃ (A B : ByteArray) (c e : Int), Ln.reqVal s = .tuple #[.string A, .string B, .int .i64 c, .int .i64 e] ∧ 0 ≤ e ∧ e ≤ 30 := by
  unfold Ln.reqVal
  split
  · exact ⟨_, _, _, _, rfl, by omega, by omega⟩
  · split
    · exact ⟨_, _, _, _, rfl, by omega, by omega⟩
    · exact ⟨_, _, _, _, rfl, by omega, by omega⟩
theorem st_shape (s : ByteArray) : ∃ (c d : Int) (A : ByteArray) (e : Int), Ln.stVal s = .tuple #[.int .i64 c, .int .i64 d, .string A, .int .i64 e] ∧ 0 ≤ e ∧ e ≤ 30 := by
  unfold Ln.stVal
  split
  · exact ⟨_, _, _, _, rfl, by omega, by omega⟩
  · split
    · exact ⟨_, _, _, _, rfl, by omega, by omega⟩
    · exact ⟨_, _, _, _, rfl, by omega, by omega⟩

theorem names_any (w : World) : Calls Tryd.prog 11 #[] w fun e w' => e = .returned (.bool true) ∧ w = w' := by
  go_enter Tryd.func11, Tryd.ntmps11
  go_wp2_with fail
  go_ret
  exact ⟨rfl, rfl⟩

set_option maxHeartbeats 4000000 in
theorem walk (a0 : ByteArray) (w0 : a0.size ≤ maxLen) (w : World) (hT : Tk.Tab w) :
    Calls Tryd.prog 3 #[.string a0] w fun e w' => e = .returned (.bool true) ∧ Below w.heap.size w w' := by
  have HT := Lib.hid hT
  have hg := hT.lt
  clear hT w0
  obtain ⟨A, B, c, e1, hr, b1, b2⟩ := req_shape a0
  obtain ⟨f, g, D, e2, hs, b3, b4⟩ := st_shape a0
  have HR := Lib.hid hr
  have HS := Lib.hid hs
  clear hr hs
  have tA : (A.toList == A.toList) = true := by simp
  have tB : (B.toList == B.toList) = true := by simp
  have tD : (D.toList == D.toList) = true := by simp
  have tc : (c == c) = true := by simp
  have tf : (f == f) = true := by simp
  have tg : (g == g) = true := by simp
  have te1 : (e1 == e1) = true := by simp
  have te2 : (e2 == e2) = true := by simp
  go_enter Tryd.func3, Tryd.ntmps3
  go_wp2_with fail
  refine (Ln.request_any a0 _ HT.out).mono ?_
  rintro e x1 ⟨rfl, hb1⟩
  rw [HR.out]
  go_wp2_with fail
  refine (Ln.refRequest_any a0 _).mono ?_
  rintro e x2 ⟨rfl, n2, hw2⟩
  rw [HR.out]
  have hB2 := below_drewN hb1 hw2
  clear hb1 hw2
  go_wp2_with fail
  refine (Ln.status_any a0 _).mono ?_
  rintro e x3 ⟨rfl, hb3⟩
  rw [HS.out]
  have hB3 := hB2.trans (hb3.mono hB2.size)
  clear hB2 hb3
  go_wp2_with fail
  refine (Ln.refStatus_any a0 _).mono ?_
  rintro e x4 ⟨rfl, n4, hw4⟩
  rw [HS.out]
  have hB4 := below_drewN hB3 hw4
  clear hB3 hw4
  go_wp2_with fail
  refine (names_any _).mono ?_
  rintro e w' ⟨rfl, rfl⟩
  go_wp2_with fail
  go_ret
  exact ⟨rfl, hB4⟩


theorem contract (H : Type) (enc : TypeId × Value → H) (W : World) (base : Nat) (args : Array Value) (ds gs : List (DataW H)) (before : List MemPlace)
    (hval : ∀ (j : Nat) t v, Tryd.f3.params[j]? = some t → args[j]? = some v → Value.okWide Tryd.prog W .any base t v)
    (hW : DataW.Whole enc Tryd.prog Tryd.f3.params.toList Rows.lineReadsSpec.vars false W args.toList ds gs before) (hL : laidMetH Tryd.prog Rows.lineReadsRow.laid W) :
    Calls Tryd.prog 3 args W fun e W' => ∃ v, e = .returned v ∧ Rows.lineReadsSpec.post enc Tryd.prog Tryd.f3 false true false false W args v W' := by
  have hW' := hW
  obtain ⟨p, q, hA0, hV, rfl, hfz, hnd⟩ := hW
  have hA : DataW.TrodAll enc Tryd.prog W 0 (fun _ => true) true Tryd.f3.params.toList args.toList ds p := hA0
  rw [Tryd.params3] at hA hval
  obtain ⟨v0, vs0, d0, ds0, p0, q0, hargs, rfl, rfl, h0, r0⟩ := trodAll_cons hA
  obtain ⟨rfl, rfl, rfl⟩ := trodAll_nil r0
  obtain rfl : args = #[v0] := by cases args; simp_all
  obtain ⟨rfl, rfl⟩ := trodVars_none hV
  obtain ⟨a0, rfl, rfl, rfl, w0⟩ := open_string Tryd.underlying9 (hval 0 9 v0 rfl rfl) h0
  clear hA0
  simp only [List.append_nil] at hW'
  refine (walk a0 w0 W (Tb.tok_of_head (Tb.tail (Tb.tail (Tb.tail hL))))).mono fun e W' ⟨he, bel⟩ => ?_
  subst he
  exact ⟨_, rfl, _, _, _, [], _, [], hW', trodAll_mk1 (shut_bool Tryd.underlying4 _), (trodAll_cons_mk (shut_string Tryd.underlying9 w0) trodAll_mk0), rfl, bel.frame _, fun h => by cases h⟩

theorem laid_met (os : Os) : laidMet Tryd.prog Rows.lineReadsRow.laid ((Tb.laidWorld os).forCall (fun _ _ => 0) ⟨#[], #[.string ByteArray.empty], []⟩).memory :=
  laidMet_of_run' 8 (by kernel_rfl) (by kernel_rfl)
theorem reads (os : Os) {H : Type} (enc : TypeId × Value → H) : ∃ places, DataW.whole enc Tryd.prog ((Tb.laidWorld os).forCall (fun _ _ => 0) ⟨#[], #[.string ByteArray.empty], []⟩).memory Tryd.f3.params.toList Rows.lineReadsSpec.vars false (#[.string ByteArray.empty] : Array Value).toList 8 = some ([.lit (.string [])], [], places) :=
  ⟨[], by kernel_rfl⟩

set_option maxRecDepth 100000 in
theorem lifted (os : Os) (started : os.Started) (H : Type) (enc : TypeId × Value → H) (F : Stop.Interp) :
    ReturnsInHanded {} Tryd.checked os 3 .any ((OpenSpec.ofChange Rows.lineReadsSpec).preRow enc Tryd.prog Tryd.f3 Rows.lineReadsRow.domain false Rows.lineReadsRow.laid) (((OpenSpec.ofChange Rows.lineReadsSpec).at F).post enc Tryd.prog Tryd.f3 false true false false) := by
  obtain ⟨places, hx⟩ := reads os enc
  refine returnsInHanded_of_row (C := Tryd.checked) (s := OpenSpec.ofChange Rows.lineReadsSpec) Tb.own started (by kernel_rfl) Tryd.func3
    (witness_row_at (enc := enc) (C := Tryd.checked) false (Tb.laidWorld os) #[.string ByteArray.empty] rfl (by kernel_rfl) (by kernel_rfl) (by kernel_rfl)
      (OpenSpec.preRow_of_cond 8 hx (by kernel_rfl) (fun k hk => by cases hk) (by kernel_rfl) (laid_met os))) ?_
  intro W base args ds gs before hval hW _ _ _ hL _ _
  exact contract H enc W base args ds gs before hval hW hL

theorem said : Rows.LineReadsSaid :=
  OpenClaim.holds_of_cond 3 Tryd.f3 rfl rfl rfl rfl rfl rfl rfl ⟨rfl, rfl, rfl, rfl, rfl⟩ rfl rfl rfl rfl rfl (by kernel_rfl) Tryd.func3 (by kernel_rfl)
    (of_decide_eq_true (by kernel_rfl)) (by unfold Func.isWrapper; first | (rw [if_pos (by decide +kernel)]; kernel_rfl) | (rw [if_neg (by decide +kernel)]; exact ⟨rfl, rfl⟩))
    (fun os started H enc _ F => by rw [OpenClaim.pre_eq_preRow]; exact lifted os started H enc F)

theorem plain (f : FuncId) (fn : Func) (hf : Tryd.pinned.checked.prog.funcNamed "gatepost/gatepostlaw03.LineReads" = some f) (hfn : Tryd.pinned.checked.prog.funcs[f]? = some fn) :
    false = Tryd.pinned.checked.prog.looks [] ∧ ∀ (j : Nat) t, fn.params[j]? = some t → Tryd.pinned.checked.prog.wantsStandIn t = false := by
  obtain rfl : f = 3 := Option.some.inj ((show Tryd.prog.funcNamed "gatepost/gatepostlaw03.LineReads" = some 3 by kernel_rfl).symm.trans hf) |>.symm
  obtain rfl : fn = Tryd.f3 := (Option.some.inj (Tryd.func3.symm.trans hfn)).symm
  refine ⟨by kernel_rfl, fun j t ht => ?_⟩
  rw [Tryd.params3] at ht
  have hm := Array.mem_of_getElem? ht
  simp at hm
  subst hm
  exact (show Tryd.prog.wantsStandIn 9 = false by kernel_rfl)

theorem card : Rows.LineReadsCardSaid :=
  Claim7.holds_tied_plain_at .later [] _ _ _ _ said (fun _ h => by cases h) (by kernel_rfl) (fun _ h => by cases h) lineReads_row_tie rfl ⟨rfl, rfl⟩ (by kernel_rfl) rfl plain (by kernel_rfl)
end Go.Proofs.YtldlhnppinodbaaDoor.lineReads
