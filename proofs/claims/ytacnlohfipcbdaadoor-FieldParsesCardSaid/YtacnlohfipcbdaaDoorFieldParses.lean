/-
  FieldParses: any line is the document's field, or none; any field has its line.
  Conditions: the listed tables hold what the program's text lays (the card ties them).
-/
import Derived.Test.YtacnlohfipcbdaaDoorTabs
import Derived.Test.YtacnlohfipcbdaaDoorFdOpen
import Derived.SizedLaws
import Derived.Carry
import Derived.Test.YtacnlohfipcbdaaDoorFdOpen
import Derived.Test.YtacnlohfipcbdaaDoorFdParseP
import Derived.Test.YtacnlohfipcbdaaDoorFdRefParse
import Derived.Test.YtacnlohfipcbdaaDoorFdRefLine
import Derived.WideKeyPair
namespace Go.Proofs.YtacnlohfipcbdaaDoor.fieldParses
open Go.ChangeShapes Go.WideShapes Go.ChangeAt Go.RowKit
open Go.ChangeMaps (open_string shut_string)
set_option linter.unusedVariables false

theorem line_shape (n v : ByteArray) : ∃ (s : ByteArray) (e : Int), Fd.lineVal n v = .tuple #[.string s, .int .i64 e] := by
  unfold Fd.lineVal; split <;> exact ⟨_, _, rfl⟩
theorem parse_shape (s : ByteArray) : ∃ (a b : ByteArray) (e : Int), Fd.parseVal s = .tuple #[.agg #[.string a, .string b], .int .i64 e] := by
  unfold Fd.parseVal Fd.FV; split <;> exact ⟨_, _, _, rfl⟩
set_option maxHeartbeats 4000000 in
theorem walk (a0 : ByteArray) (w0 : a0.size ≤ maxLen) (a1 b1 : ByteArray) (w1 : a1.size ≤ reachBytes) (u1 : b1.size ≤ reachBytes) (w : World) (hT : Tk.Tab w) :
    Calls Tryd.prog 3 #[.string a0, .agg #[.string a1, .string b1]] w fun e w' => e = .returned (.bool true) ∧ Below w.heap.size w w' := by
  unfold reachBytes at w1 u1
  by_cases h2 : 2000 < a0.size
  · have hd : decide ((2000 : Int) < (a0.size : Int)) = true := by rw [decide_eq_true_eq]; omega
    clear hT
    go_enter Tryd.func3, Tryd.ntmps3
    go_wp2_with fail
    go_ret
    exact ⟨rfl, (Below.refl _ _).alloc (Nat.le_refl _) _⟩
  · have hd : decide ((2000 : Int) < (a0.size : Int)) = false := by rw [decide_eq_false_iff_not]; omega
    have HT := Lib.hid hT
    have hg := hT.lt
    have HR := Lib.hid (show Calls Tryd.prog 8 #[.slice (some ⟨w.heap.size + 1, 0, none⟩) 1 1] ((w.alloc (.cells #[.string a1, .string b1] 23)).alloc (.cells #[.string a1, .string b1] 23)) _ from
      Fd.few_any _ [(a1, b1)] _ (Fd.flds_one (Fd.new_block' _ _ (by simp))) (by simp) (by simp; omega))
    clear hT
    cases hfw : Fd.fewB [(a1, b1)] with
    | false =>
      have HF := Lib.hid hfw
      clear hfw
      go_enter Tryd.func3, Tryd.ntmps3
      go_wp2_with fail
      refine HR.out.mono ?_
      rintro e x1 ⟨rfl, n1, hx1⟩
      rw [HF.out]
      have hB := Fd.Bl.drewN' (((Below.refl w.heap.size w).alloc (Nat.le_refl _) (.cells #[.string a1, .string b1] 23)).alloc (by simp) _) hx1
      clear hx1
      go_wp2_with fail
      go_ret
      exact ⟨rfl, hB⟩
    | true =>
      have HF := Lib.hid hfw
      obtain ⟨hs1, hs2⟩ := Fd.fewB_one hfw
      clear hfw
      obtain ⟨pa, pb, pe, hp⟩ := parse_shape a0
      obtain ⟨ls, le, hl⟩ := line_shape a1 b1
      have HP := Lib.hid hp
      have HL := Lib.hid hl
      clear hp hl
      go_enter Tryd.func3, Tryd.ntmps3
      go_wp2_with fail
      refine HR.out.mono ?_
      rintro e x1 ⟨rfl, n1, hx1⟩
      rw [HF.out]
      have hB1 := Fd.Bl.drewN' (((Below.refl w.heap.size w).alloc (Nat.le_refl _) (.cells #[.string a1, .string b1] 23)).alloc (by simp) (.cells #[.string a1, .string b1] 23)) hx1
      have hr1 : x1.heap[w.heap.size]? = some (.cells #[.string a1, .string b1] 23 (0, 0)) := by
        rw [hx1]; exact (Fd.old_block _ _ (by simp)).trans (Fd.new_block _ _)
      clear hx1
      go_wp2_with fail
      refine (Fd.parse_any a0 _ (by omega) (HT.out.below hB1 hg)).mono ?_
      rintro e x2 ⟨rfl, hb2⟩
      rw [HP.out]
      have hB2 := Fd.Bl.next hB1 hb2
      have hr2 := Fd.Bl.old hb2 (Fd.block_lt hr1) hr1
      clear hB1 hb2 hr1
      go_wp2_with fail
      have hlt2 := Fd.block_lt hr2
      have hz2 := hB2.size
      have hB2' := hB2.alloc hz2 (.cells #[.string pa, .string pb] 23)
      have hr2' := (Fd.old_block x2 (.cells #[.string pa, .string pb] 23) hlt2).trans hr2
      have hq2 := Fd.new_block x2 (.cells #[.string pa, .string pb] 23)
      refine (Fd.refParse_any a0 _ (by omega)).mono ?_
      rintro e x3 ⟨rfl, hb3⟩
      rw [HP.out]
      have hB3 := Fd.Bl.next hB2' hb3
      have hr3 := Fd.Bl.old hb3 (Fd.block_lt hr2') hr2'
      have hq3 := Fd.Bl.old hb3 (Fd.block_lt hq2) hq2
      obtain ⟨G2, hG2⟩ : ∃ G, G = x2.heap.size := ⟨_, rfl⟩
      rw [← hG2] at hq3
      rw [← hG2]
      clear hB2 hb3 hr2 hr2' hq2 hB2' hG2 hlt2 hz2
      have hz3 := hB3.size
      have c0 := Fd.two0 ((Fd.old_block x3 (.cells #[.string pa, .string pb] 23) (Fd.block_lt hr3)).trans hr3)
      have c1 := Fd.two1 ((Fd.old_block x3 (.cells #[.string pa, .string pb] 23) (Fd.block_lt hr3)).trans hr3)
      have hB3' := hB3.alloc hz3 (.cells #[.string pa, .string pb] 23)
      have hr3' := (Fd.old_block x3 (.cells #[.string pa, .string pb] 23) (Fd.block_lt hr3)).trans hr3
      have hq3' := (Fd.old_block x3 (.cells #[.string pa, .string pb] 23) (Fd.block_lt hq3)).trans hq3
      have hp3 := Fd.new_block x3 (.cells #[.string pa, .string pb] 23)
      go_wp2_with fail
      clear c0 c1
      refine (Fd.line_any a1 b1 _ (by omega) (by omega) (HT.out.below hB3' hg)).mono ?_
      rintro e x4 ⟨rfl, hb4⟩
      rw [HL.out]
      have hB4 := Fd.Bl.next hB3' hb4
      have hr4 := Fd.Bl.old hb4 (Fd.block_lt hr3') hr3'
      have hq4 := Fd.Bl.old hb4 (Fd.block_lt hq3') hq3'
      have hp4 := Fd.Bl.old hb4 (Fd.block_lt hp3) hp3
      obtain ⟨G3, hG3⟩ : ∃ G, G = x3.heap.size := ⟨_, rfl⟩
      rw [← hG3] at hp4
      rw [← hG3]
      clear hB3 hb4 hr3 hr3' hq3 hq3' hp3 hB3' hG3 hz3
      have c0 := Fd.two0 hr4
      have c1 := Fd.two1 hr4
      go_wp2_with fail
      refine (Fd.refLine_any a1 b1 _ (by omega) (by omega)).mono ?_
      rintro e x5 ⟨rfl, hb5⟩
      rw [HL.out]
      have hB5 := Fd.Bl.next hB4 hb5
      have d0 := Fd.two0 (Fd.Bl.old hb5 (Fd.block_lt hq4) hq4)
      have d1 := Fd.two1 (Fd.Bl.old hb5 (Fd.block_lt hq4) hq4)
      have e0 := Fd.two0 (Fd.Bl.old hb5 (Fd.block_lt hp4) hp4)
      have e1 := Fd.two1 (Fd.Bl.old hb5 (Fd.block_lt hp4) hp4)
      have t1 : (pa.toList == pa.toList) = true := by simp
      have t2 : (pb.toList == pb.toList) = true := by simp
      have t3 : (ls.toList == ls.toList) = true := by simp
      have t4 : (pe == pe) = true := by simp
      have t5 : (le == le) = true := by simp
      clear hb5 hr4 hq4 hp4 hB4 c0 c1
      go_wp2_with fail
      go_ret
      exact ⟨rfl, hB5⟩

theorem contract (H : Type) (enc : TypeId × Value → H) (W : World) (base : Nat) (args : Array Value) (ds gs : List (DataW H)) (before : List MemPlace)
    (hval : ∀ (j : Nat) t v, Tryd.f3.params[j]? = some t → args[j]? = some v → Value.okWide Tryd.prog W .any base t v)
    (hW : DataW.Whole enc Tryd.prog Tryd.f3.params.toList Rows.fieldParsesSpec.vars false W args.toList ds gs before) (ts : List TypeId) (hsz : (DataW.weightsEach Tryd.prog (Tryd.f3.params.toList ++ ts) (ds ++ gs)).all (· ≤ reachBytes) = true) (hL : laidMetH Tryd.prog Rows.fieldParsesRow.laid W) :
    Calls Tryd.prog 3 args W fun e W' => ∃ v, e = .returned v ∧ Rows.fieldParsesSpec.post enc Tryd.prog Tryd.f3 false true false false W args v W' := by
  have hW' := hW
  obtain ⟨p, q, hA0, hV, rfl, hfz, hnd⟩ := hW
  have hA : DataW.TrodAll enc Tryd.prog W 0 (fun _ => true) true Tryd.f3.params.toList args.toList ds p := hA0
  rw [Tryd.params3] at hA hval hsz
  obtain ⟨v0, vs0, d0, ds0, p0, q0, hargs, rfl, rfl, h0, r0⟩ := trodAll_cons hA
  obtain ⟨v1, vs1, d1, ds1, p1, q1, rfl, rfl, rfl, h1, r1⟩ := trodAll_cons r0
  obtain ⟨rfl, rfl, rfl⟩ := trodAll_nil r1
  have hw1 : ∀ n ∈ d1.weights Tryd.prog 23, n ≤ reachBytes := fun n hn => by simpa using List.all_eq_true.1 hsz n (DataW.weights_mem_each (j := 1) (t := 23) (d := d1) rfl rfl _ hn)
  obtain rfl : args = #[v0, v1] := by cases args; simp_all
  obtain ⟨rfl, rfl⟩ := trodVars_none hV
  obtain ⟨a0, rfl, rfl, rfl, w0⟩ := open_string Tryd.underlying9 (hval 0 9 v0 rfl rfl) h0
  have k1 := h1
  have lt1 : ∀ x ∈ p1, x.block < W.heap.size := by obtain ⟨m, hm⟩ := k1; exact DataW.trod_lt m _ _ _ hm
  obtain ⟨a1, b1, rfl, w1, u1⟩ := Fd.open_field (hval 1 23 v1 rfl rfl) h1 hw1
  clear hA0
  simp only [List.append_nil] at hW'
  refine (walk a0 w0 a1 b1 w1 u1 W (Tb.tok_of_head hL)).mono fun e W' ⟨he, bel⟩ => ?_
  subst he
  exact ⟨_, rfl, _, _, _, [], _, [], hW', trodAll_mk1 (shut_bool Tryd.underlying4 _), (trodAll_cons_mk (shut_string Tryd.underlying9 w0) (trodAll_cons_mk (Below.trod Tb.laidOut (by kernel_rfl) (of_decide_eq_true (by kernel_rfl)) k1 bel lt1) trodAll_mk0)), rfl, bel.frame _, fun h => by cases h⟩

theorem laid_met (os : Os) : laidMet Tryd.prog Rows.fieldParsesRow.laid ((Tb.laidWorld os).forCall (fun _ _ => 0) ⟨#[], #[.string ByteArray.empty, .agg #[.string ByteArray.empty, .string ByteArray.empty]], []⟩).memory :=
  laidMet_of_run' 8 (by kernel_rfl) (by kernel_rfl)
theorem reads (os : Os) {H : Type} (enc : TypeId × Value → H) : ∃ places, DataW.whole enc Tryd.prog ((Tb.laidWorld os).forCall (fun _ _ => 0) ⟨#[], #[.string ByteArray.empty, .agg #[.string ByteArray.empty, .string ByteArray.empty]], []⟩).memory Tryd.f3.params.toList Rows.fieldParsesSpec.vars false (#[.string ByteArray.empty, .agg #[.string ByteArray.empty, .string ByteArray.empty]] : Array Value).toList 8 = some ([.lit (.string []), .agg [.lit (.string []), .lit (.string [])]], [], places) :=
  ⟨[], by kernel_rfl⟩

set_option maxRecDepth 100000 in
theorem lifted (os : Os) (started : os.Started) (H : Type) (enc : TypeId × Value → H) (F : Stop.Interp) :
    ReturnsInHanded {} Tryd.checked os 3 .any ((OpenSpec.ofChange Rows.fieldParsesSpec).preRow enc Tryd.prog Tryd.f3 Rows.fieldParsesRow.domain false Rows.fieldParsesRow.laid) (((OpenSpec.ofChange Rows.fieldParsesSpec).at F).post enc Tryd.prog Tryd.f3 false true false false) := by
  obtain ⟨places, hx⟩ := reads os enc
  refine returnsInHanded_of_row (C := Tryd.checked) (s := OpenSpec.ofChange Rows.fieldParsesSpec) Tb.own started (by kernel_rfl) Tryd.func3
    (witness_row_at (enc := enc) (C := Tryd.checked) false (Tb.laidWorld os) #[.string ByteArray.empty, .agg #[.string ByteArray.empty, .string ByteArray.empty]] rfl (by kernel_rfl) (by kernel_rfl) (by kernel_rfl)
      (OpenSpec.preRow_of_cond 8 hx (by kernel_rfl) (fun k hk => by cases hk) (by kernel_rfl) (laid_met os))) ?_
  intro W base args ds gs before hval hW _ _ hsz hL _ _
  exact contract H enc W base args ds gs before hval hW _ hsz hL

theorem said : Rows.FieldParsesSaid :=
  OpenClaim.holds_of_cond 3 Tryd.f3 rfl rfl rfl rfl rfl rfl rfl ⟨rfl, rfl, rfl, rfl, rfl⟩ rfl rfl rfl rfl rfl (by kernel_rfl) Tryd.func3 (by kernel_rfl)
    (of_decide_eq_true (by kernel_rfl)) (by unfold Func.isWrapper; first | (rw [if_pos (by decide +kernel)]; kernel_rfl) | (rw [if_neg (by decide +kernel)]; exact ⟨rfl, rfl⟩))
    (fun os started H enc _ F => by rw [OpenClaim.pre_eq_preRow]; exact lifted os started H enc F)

theorem plain (f : FuncId) (fn : Func) (hf : Tryd.pinned.checked.prog.funcNamed "gatepost/gatepostlaw04.FieldParses" = some f) (hfn : Tryd.pinned.checked.prog.funcs[f]? = some fn) :
    false = Tryd.pinned.checked.prog.looks [] ∧ ∀ (j : Nat) t, fn.params[j]? = some t → Tryd.pinned.checked.prog.wantsStandIn t = false := by
  obtain rfl : f = 3 := Option.some.inj ((show Tryd.prog.funcNamed "gatepost/gatepostlaw04.FieldParses" = some 3 by kernel_rfl).symm.trans hf) |>.symm
  obtain rfl : fn = Tryd.f3 := (Option.some.inj (Tryd.func3.symm.trans hfn)).symm
  refine ⟨by kernel_rfl, fun j t ht => ?_⟩
  rw [Tryd.params3] at ht
  have hm := Array.mem_of_getElem? ht
  simp at hm
  rcases hm with rfl | rfl
  · exact (show Tryd.prog.wantsStandIn 9 = false by kernel_rfl)
  · exact (show Tryd.prog.wantsStandIn 23 = false by kernel_rfl)

theorem card : Rows.FieldParsesCardSaid :=
  Claim7.holds_tied_plain_at .later [] _ _ _ _ said (fun _ h => by cases h) (by kernel_rfl) (fun _ h => by cases h) fieldParses_row_tie rfl ⟨rfl, rfl⟩ (by kernel_rfl) rfl plain (by kernel_rfl)
end Go.Proofs.YtacnlohfipcbdaaDoor.fieldParses
