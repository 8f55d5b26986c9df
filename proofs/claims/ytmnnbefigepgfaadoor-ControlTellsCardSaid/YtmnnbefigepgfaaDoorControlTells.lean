/-
  ControlTells: any text, and any fields, say what the document says.
  Conditions: the listed tables hold what the program's text lays (the card ties them).
-/
import Derived.Deep.DeepCutAuto
import Derived.Deep.RegionWith
import Derived.Test.YtmnnbefigepgfaaDoorTabs
import Derived.Test.YtmnnbefigepgfaaDoorFdOpen
import Derived.SizedLaws
import Derived.Carry
import Derived.Test.YtmnnbefigepgfaaDoorCtRefOf
import Derived.Test.YtmnnbefigepgfaaDoorFdOpen
import Derived.WideKeyPair
namespace Go.Proofs.YtmnnbefigepgfaaDoor.controlTells
open Go.ChangeShapes Go.WideShapes Go.ChangeAt Go.RowKit
open Go.ChangeMaps (open_string shut_string)
set_option linter.unusedVariables false

open Go.Proofs.YtmnnbefigepgfaaDoor.Tk Go.Proofs.YtmnnbefigepgfaaDoor.Fd Go.Proofs.YtmnnbefigepgfaaDoor.Ct
theorem cell13 {w : World} {g : Nat} {c : Con} (h : w.heap[g]? = some (.cells #[.bool c.ns, .bool c.nc, .bool c.pr, .bool c.pu, .bool c.mu, .bool c.px, .bool c.oc, .int .i64 c.ag, .int .i64 c.sh, .int .i64 c.wh, .int .i64 c.ie, .int .i64 c.mf, .int .i64 c.ms] 26 (0, 0))) : ConAt w g c := h
/-- max-age=7. -/
theorem seven : parseVal [109, 97, 120, 45, 97, 103, 101, 61, 55] = .tuple #[.agg #[.bool false, .bool false, .bool false, .bool false, .bool false, .bool false, .bool false, .int .i64 7, .int .i64 (-1), .int .i64 (-1), .int .i64 (-1), .int .i64 (-1), .int .i64 (-1)], .bool true] := by kernel_rfl
theorem parse_lit (l : Bs) : ∃ (c : Con) (b : Bool), parseVal l = .tuple #[.agg #[.bool c.ns, .bool c.nc, .bool c.pr, .bool c.pu, .bool c.mu, .bool c.px, .bool c.oc, .int .i64 c.ag, .int .i64 c.sh, .int .i64 c.wh, .int .i64 c.ie, .int .i64 c.mf, .int .i64 c.ms], .bool b] := ⟨(parseOf l).1, (parseOf l).2, rfl⟩
theorem of_lit (fs : List Fl) : ∃ c : Con, Value.agg (cells (ofOf fs)) = .agg #[.bool c.ns, .bool c.nc, .bool c.pr, .bool c.pu, .bool c.mu, .bool c.px, .bool c.oc, .int .i64 c.ag, .int .i64 c.sh, .int .i64 c.wh, .int .i64 c.ie, .int .i64 c.mf, .int .i64 c.ms] := ⟨ofOf fs, rfl⟩
theorem take_tot {fs : List Fl} {k : Nat} (hk : k < fs.length) (h : tot (fs.take k) ≤ 201 * k) (hx : fs[k].1.size + fs[k].2.size ≤ 200) : tot (fs.take (k + 1)) ≤ 201 * (k + 1) := by
  rw [take_next fs k hk, tot_append]
  have : tot [fs[k]] = fs[k].1.size + fs[k].2.size + 1 := by simp [tot]
  omega
set_option maxHeartbeats 16000000 in
set_option maxRecDepth 100000 in
theorem walk (a0 : ByteArray) (w0 : a0.size ≤ maxLen) (v1 : Value) (fs1 : List Fl) (w : World) (hT : Tk.Tab w) (f1 : Flds w v1 fs1) (l1 : fs1.length ≤ 140737488355328) (z1 : ∀ f ∈ fs1, f.1.size ≤ 140737488355328 ∧ f.2.size ≤ 140737488355328) :
    Calls Tryd.prog 3 #[.string a0, v1] w fun e w' => e = .returned (.bool true) ∧ Below w.heap.size w w' := by
  have HT := Lib.hid hT
  have htl := hT.lt
  have HF := Lib.hid f1
  have HZ := Lib.hid z1
  obtain ⟨a, cap, hv, ha⟩ : ∃ a cap, v1 = .slice a fs1.length cap ∧ (0 < fs1.length → ∃ b off, a = some ⟨b, off, none⟩ ∧ FAt w b off fs1) := by
    rcases f1 with ⟨h0, a, cap, hv⟩ | ⟨b, off, cap, hv, hlt, hc⟩
    · exact ⟨a, cap, by rw [h0]; exact hv, fun h => by rw [h0] at h; simp at h⟩
    · exact ⟨_, cap, hv, fun _ => ⟨b, off, rfl, hc⟩⟩
  subst hv
  unfold maxLen at w0
  clear hT f1 z1
  by_cases hA : a0.size ≤ 2000
  case neg =>
    have d1 : decide ((2000 : Int) < (a0.size : Int)) = true := by rw [decide_eq_true_eq]; omega
    go_enter Tryd.func3, Tryd.ntmps3
    go_wp2_with fail
    go_ret
    exact ⟨rfl, Below.refl _ _⟩
  case pos =>
  have d1 : decide ((2000 : Int) < (a0.size : Int)) = false := by rw [decide_eq_false_iff_not]; omega
  by_cases hB : fs1.length ≤ 50
  case neg =>
    have d2 : decide ((50 : Int) < (fs1.length : Int)) = true := by rw [decide_eq_true_eq]; omega
    go_enter Tryd.func3, Tryd.ntmps3
    go_wp2_with fail
    go_ret
    exact ⟨rfl, Below.refl _ _⟩
  case pos =>
  have d2 : decide ((50 : Int) < (fs1.length : Int)) = false := by rw [decide_eq_false_iff_not]; omega
  go_enter Tryd.func3, Tryd.ntmps3
  go_wp2_with fail
  go_loopw [5] (fun i wr => ∃ k q : Nat, k ≤ fs1.length ∧ i = .int .i64 (k : Int) ∧ tot (fs1.take k) ≤ 201 * k ∧ wr = w.drewN q) (fun i _ => fs1.length - (intOf i).toNat)
  case atStart => exact ⟨0, 0, Nat.zero_le _, rfl, by simp [tot], rfl⟩
  case round =>
    obtain ⟨k, q, hk, rfl, hsum, hw⟩ := hrel
    have HS := Lib.hid hsum
    have HW := Lib.hid hw
    clear hsum
    by_cases hlt2 : k < fs1.length
    · obtain ⟨b, off, rfl, hc⟩ := ha (by omega)
      have hnx := HZ.out fs1[k] (List.getElem_mem hlt2)
      have c1 : wr.cell? ⟨b, off + k * 2, none⟩ = some (.string fs1[k].1) := by rw [hw]; exact (hc k hlt2).1
      have c2 : wr.cell? ⟨b, off + k * 2 + 1, none⟩ = some (.string fs1[k].2) := by rw [hw]; exact (hc k hlt2).2
      have HT2 := Lib.hid (show fs1[k].1.size + fs1[k].2.size ≤ 200 → tot (fs1.take (k + 1)) ≤ 201 * (k + 1) from take_tot hlt2 HS.out)
      obtain ⟨x, hx⟩ : ∃ x, x = fs1[k].1 := ⟨_, rfl⟩
      obtain ⟨y, hy⟩ : ∃ y, y = fs1[k].2 := ⟨_, rfl⟩
      rw [← hx] at c1 hnx HT2
      rw [← hy] at c2 hnx HT2
      obtain ⟨hx1, hy1⟩ := hnx
      have w1 : IntKind.i64.wrap ((x.size : Int) + (y.size : Int)) = (x.size : Int) + (y.size : Int) := IntWalk.i64_in _ (by omega)
      clear hx hy hw hc
      by_cases h2 : x.size + y.size ≤ 200
      · have d3 : decide ((200 : Int) < (x.size : Int) + (y.size : Int)) = false := by rw [decide_eq_false_iff_not]; omega
        go_wp2_with fail
        go_quiet (fail)
        clear w1
        go_wp2_with fail
        go_roundw
        case rel => exact ⟨k + 1, _, by omega, by go_num, HT2.out h2, by rw [HW.out, World.drewN_drewN]⟩
        case measure => simp [intOf]; omega
      · have d3 : decide ((200 : Int) < (x.size : Int) + (y.size : Int)) = true := by rw [decide_eq_true_eq]; omega
        go_wp2_with fail
        go_quiet (fail)
        clear w1
        go_wp2_with fail
        go_ret
        exact ⟨rfl, by rw [HW.out, World.drewN_drewN]; exact Bl.drewN (Below.refl _ _) _⟩
    · have hts := HS.out
      rw [List.take_of_length_le (by omega)] at hts
      have ht : tot fs1 ≤ 1048576 := by omega
      have HB0 := Lib.hid (show Below w.heap.size w wr from by rw [HW.out]; exact Bl.drewN (Below.refl _ _) _)
      have hwr : w.heap.size ≤ wr.heap.size := HB0.out.size
      obtain ⟨cx, bx, hpx⟩ := parse_lit a0.data.toList
      obtain ⟨co, hco⟩ := of_lit fs1
      have HPX := Lib.hid hpx
      have HCO := Lib.hid hco
      clear hts hpx hco hw HW HS
      go_wp2_with fail
      refine (parse_any a0 _ (by omega) (HT.out.below HB0.out htl)).mono ?_
      rintro e w1 ⟨rfl, hb1⟩
      rw [HPX.out]
      obtain ⟨W1, hW1⟩ : ∃ W1, W1 = w1.alloc (.cells #[.bool cx.ns, .bool cx.nc, .bool cx.pr, .bool cx.pu, .bool cx.mu, .bool cx.px, .bool cx.oc, .int .i64 cx.ag, .int .i64 cx.sh, .int .i64 cx.wh, .int .i64 cx.ie, .int .i64 cx.mf, .int .i64 cx.ms] 26) := ⟨_, rfl⟩
      have hX1 : ConAt W1 w1.heap.size cx := by rw [hW1]; exact new_block _ _
      have hB1 : Below w.heap.size w W1 := by rw [hW1]; exact (Bl.next HB0.out hb1).alloc (Bl.next HB0.out hb1).size _
      have HW1 := Lib.hid hW1
      clear hW1 hb1
      go_wp2_with fail
      rw [← HW1.out]
      refine (refParse_any a0 W1 (by omega)).mono ?_
      rintro e w2 ⟨rfl, hb2⟩
      rw [HPX.out]
      have hX2 : ConAt w2 w1.heap.size cx := Bl.old hb2 (block_lt hX1) hX1
      have hB2 := Bl.next hB1 hb2
      obtain ⟨W2, hW2⟩ : ∃ W2, W2 = w2.alloc (.cells #[.bool cx.ns, .bool cx.nc, .bool cx.pr, .bool cx.pu, .bool cx.mu, .bool cx.px, .bool cx.oc, .int .i64 cx.ag, .int .i64 cx.sh, .int .i64 cx.wh, .int .i64 cx.ie, .int .i64 cx.mf, .int .i64 cx.ms] 26) := ⟨_, rfl⟩
      have hY2 : ConAt W2 w2.heap.size cx := by rw [hW2]; exact new_block _ _
      have hX3 : ConAt W2 w1.heap.size cx := by rw [hW2]; exact (old_block _ _ (block_lt hX2)).trans hX2
      have hB3 : Below w.heap.size w W2 := by rw [hW2]; exact hB2.alloc hB2.size _
      have HW2 := Lib.hid hW2
      clear hW2 hb2 hX1 hX2 hB1 hB2
      go_wp2_with fail
      rw [← HW2.out]
      refine (parse_any ⟨#[109, 97, 120, 45, 97, 103, 101, 61, 55]⟩ W2 (by decide) (HT.out.below hB3 htl)).mono ?_
      rintro e w3 ⟨rfl, hb3⟩
      rw [seven]
      have hX4 : ConAt w3 w1.heap.size cx := Bl.old hb3 (block_lt hX3) hX3
      have hY4 : ConAt w3 w2.heap.size cx := Bl.old hb3 (block_lt hY2) hY2
      have hB4 := Bl.next hB3 hb3
      obtain ⟨W3, hW3⟩ : ∃ W3, W3 = w3.alloc (.cells #[.bool false, .bool false, .bool false, .bool false, .bool false, .bool false, .bool false, .int .i64 7, .int .i64 (-1), .int .i64 (-1), .int .i64 (-1), .int .i64 (-1), .int .i64 (-1)] 26) := ⟨_, rfl⟩
      have hO5 : W3.heap[w3.heap.size]? = some (.cells #[.bool false, .bool false, .bool false, .bool false, .bool false, .bool false, .bool false, .int .i64 7, .int .i64 (-1), .int .i64 (-1), .int .i64 (-1), .int .i64 (-1), .int .i64 (-1)] 26 (0, 0)) := by rw [hW3]; exact new_block _ _
      have hX5 : ConAt W3 w1.heap.size cx := by rw [hW3]; exact (old_block _ _ (block_lt hX4)).trans hX4
      have hY5 : ConAt W3 w2.heap.size cx := by rw [hW3]; exact (old_block _ _ (block_lt hY4)).trans hY4
      have hB5 : Below w.heap.size w W3 := by rw [hW3]; exact hB4.alloc hB4.size _
      have HW3 := Lib.hid hW3
      have HB5 := Lib.hid hB5
      have HO5 := Lib.hid hO5
      obtain ⟨a0', a1, a2, a3, a4, a5, a6, a7, a8, a9, a10, a11, a12⟩ := thirteen hX5
      obtain ⟨b0, b1, b2, b3, b4, b5, b6, b7, b8, b9, b10, b11, b12⟩ := thirteen hY5
      rw [hW3] at a0' a1 a2 a3 a4 a5 a6 a7 a8 a9 a10 a11 a12 b0 b1 b2 b3 b4 b5 b6 b7 b8 b9 b10 b11 b12
      clear hW3 hb3 hX3 hX4 hX5 hY2 hY4 hY5 hB3 hB4 hB5 hO5
      go_wp2_with fail
      rw [← HW3.out]
      refine (of_any _ fs1 W3 (HF.out.below HB5.out (Nat.le_refl _)) ht (HT.out.below HB5.out htl)).mono ?_
      rintro e w4 ⟨rfl, hb4⟩
      rw [HCO.out]
      have HB6 := Lib.hid (Bl.next HB5.out hb4)
      have HO6 := Lib.hid (Bl.old hb4 (block_lt HO5.out) HO5.out)
      clear hb4 a0' a1 a2 a3 a4 a5 a6 a7 a8 a9 a10 a11 a12 b0 b1 b2 b3 b4 b5 b6 b7 b8 b9 b10 b11 b12
      go_wp2_with fail
      refine (refOf_any _ fs1 w4 (HF.out.below HB6.out (Nat.le_refl _)) ht).mono ?_
      rintro e w5 ⟨rfl, hb5⟩
      rw [HCO.out]
      have HB7 := Lib.hid (Bl.next HB6.out hb5)
      have hO7 := Bl.old hb5 (block_lt HO6.out) HO6.out
      have c7 : w5.cell? ⟨w3.heap.size, 7, none⟩ = some (.int .i64 7) := cellAt_of hO7 7 rfl
      have c8 : w5.cell? ⟨w3.heap.size, 8, none⟩ = some (.int .i64 (-1)) := cellAt_of hO7 8 rfl
      clear hb5 hO7
      go_wp2_with fail
      go_ret
      exact ⟨rfl, HB7.out⟩

set_option maxHeartbeats 2000000 in
set_option maxRecDepth 100000 in
theorem contract (H : Type) (enc : TypeId × Value → H) (W : World) (base : Nat) (args : Array Value) (ds gs : List (DataW H)) (before : List MemPlace)
    (hval : ∀ (j : Nat) t v, Tryd.f3.params[j]? = some t → args[j]? = some v → Value.okWide Tryd.prog W .any base t v)
    (hW : DataW.Whole enc Tryd.prog Tryd.f3.params.toList Rows.controlTellsSpec.vars false W args.toList ds gs before) (ts : List TypeId) (hsz : (DataW.weightsEach Tryd.prog (Tryd.f3.params.toList ++ ts) (ds ++ gs)).all (· ≤ reachBytes) = true) (hL : laidMetH Tryd.prog Rows.controlTellsRow.laid W) :
    Calls Tryd.prog 3 args W fun e W' => ∃ v, e = .returned v ∧ Rows.controlTellsSpec.post enc Tryd.prog Tryd.f3 false true false false W args v W' := by
  have hW' := hW
  obtain ⟨p, q, hA0, hV, rfl, hfz, hnd⟩ := hW
  have hA : DataW.TrodAll enc Tryd.prog W 0 (fun _ => true) true Tryd.f3.params.toList args.toList ds p := hA0
  rw [Tryd.params3] at hA hval hsz
  obtain ⟨v0, vs0, d0, ds0, p0, q0, hargs, rfl, rfl, h0, r0⟩ := trodAll_cons hA
  obtain ⟨v1, vs1, d1, ds1, p1, q1, rfl, rfl, rfl, h1, r1⟩ := trodAll_cons r0
  obtain ⟨rfl, rfl, rfl⟩ := trodAll_nil r1
  have hw1 : ∀ n ∈ d1.weights Tryd.prog 22, n ≤ reachBytes := fun n hn => by simpa using List.all_eq_true.1 hsz n (DataW.weights_mem_each (j := 1) (t := 22) (d := d1) rfl rfl _ hn)
  obtain rfl : args = #[v0, v1] := by cases args; simp_all
  obtain ⟨rfl, rfl⟩ := trodVars_none hV
  obtain ⟨a0, rfl, rfl, rfl, w0⟩ := open_string Tryd.underlying9 (hval 0 9 v0 rfl rfl) h0
  have k1 := h1
  have lt1 : ∀ x ∈ p1, x.block < W.heap.size := by obtain ⟨m, hm⟩ := k1; exact DataW.trod_lt m _ _ _ hm
  obtain ⟨fs1, f1, l1, z1⟩ := Fd.open_flds (hval 1 22 v1 rfl rfl) h1 hw1
  clear hA0
  simp only [List.append_nil] at hW'
  refine (walk a0 w0 v1 fs1 W (Tb.tok_of_head hL) f1 l1 z1).mono fun e W' ⟨he, bel⟩ => ?_
  subst he
  exact ⟨_, rfl, _, _, _, [], _, [], hW', trodAll_mk1 (shut_bool Tryd.underlying4 _), (trodAll_cons_mk (shut_string Tryd.underlying9 w0) (trodAll_cons_mk (Below.trod Tb.laidOut (by kernel_rfl) (of_decide_eq_true (by kernel_rfl)) k1 bel lt1) trodAll_mk0)), rfl, bel.frame _, fun h => by cases h⟩

theorem laid_met (os : Os) : laidMet Tryd.prog Rows.controlTellsRow.laid ((Tb.laidWorld os).forCall (fun _ _ => 0) ⟨#[], #[.string ByteArray.empty, .slice none 0 0], []⟩).memory :=
  laidMet_of_run' 8 (by kernel_rfl) (by kernel_rfl)
theorem reads (os : Os) {H : Type} (enc : TypeId × Value → H) : ∃ places, DataW.whole enc Tryd.prog ((Tb.laidWorld os).forCall (fun _ _ => 0) ⟨#[], #[.string ByteArray.empty, .slice none 0 0], []⟩).memory Tryd.f3.params.toList Rows.controlTellsSpec.vars false (#[.string ByteArray.empty, .slice none 0 0] : Array Value).toList 8 = some ([.lit (.string []), .nil], [], places) :=
  ⟨[], by kernel_rfl⟩

set_option maxRecDepth 100000 in
theorem lifted (os : Os) (started : os.Started) (H : Type) (enc : TypeId × Value → H) (F : Stop.Interp) :
    ReturnsInHanded {} Tryd.checked os 3 .any ((OpenSpec.ofChange Rows.controlTellsSpec).preRow enc Tryd.prog Tryd.f3 Rows.controlTellsRow.domain false Rows.controlTellsRow.laid) (((OpenSpec.ofChange Rows.controlTellsSpec).at F).post enc Tryd.prog Tryd.f3 false true false false) := by
  obtain ⟨places, hx⟩ := reads os enc
  refine returnsInHanded_of_row (C := Tryd.checked) (s := OpenSpec.ofChange Rows.controlTellsSpec) Tb.own started (by kernel_rfl) Tryd.func3
    (witness_row_at (enc := enc) (C := Tryd.checked) false (Tb.laidWorld os) #[.string ByteArray.empty, .slice none 0 0] rfl (by kernel_rfl) (by kernel_rfl) (by kernel_rfl)
      (OpenSpec.preRow_of_cond 8 hx (by kernel_rfl) (fun k hk => by cases hk) (by kernel_rfl) (laid_met os))) ?_
  intro W base args ds gs before hval hW _ _ hsz hL _ _
  exact contract H enc W base args ds gs before hval hW _ hsz hL

theorem said : Rows.ControlTellsSaid :=
  OpenClaim.holds_of_cond 3 Tryd.f3 rfl rfl rfl rfl rfl rfl rfl ⟨rfl, rfl, rfl, rfl, rfl⟩ rfl rfl rfl rfl rfl (by kernel_rfl) Tryd.func3 (by kernel_rfl)
    (of_decide_eq_true (by kernel_rfl)) (by unfold Func.isWrapper; first | (rw [if_pos (by decide +kernel)]; kernel_rfl) | (rw [if_neg (by decide +kernel)]; exact ⟨rfl, rfl⟩))
    (fun os started H enc _ F => by rw [OpenClaim.pre_eq_preRow]; exact lifted os started H enc F)

set_option maxRecDepth 100000 in
theorem plain (f : FuncId) (fn : Func) (hf : Tryd.pinned.checked.prog.funcNamed "gatepost/gatepostlaw08.ControlTells" = some f) (hfn : Tryd.pinned.checked.prog.funcs[f]? = some fn) :
    false = Tryd.pinned.checked.prog.looks [] ∧ ∀ (j : Nat) t, fn.params[j]? = some t → Tryd.pinned.checked.prog.wantsStandIn t = false := by
  obtain rfl : f = 3 := Option.some.inj ((show Tryd.prog.funcNamed "gatepost/gatepostlaw08.ControlTells" = some 3 by kernel_rfl).symm.trans hf) |>.symm
  obtain rfl : fn = Tryd.f3 := (Option.some.inj (Tryd.func3.symm.trans hfn)).symm
  refine ⟨by kernel_rfl, fun j t ht => ?_⟩
  rw [Tryd.params3] at ht
  have hm := Array.mem_of_getElem? ht
  simp at hm
  rcases hm with rfl | rfl
  · exact (show Tryd.prog.wantsStandIn 9 = false by kernel_rfl)
  · exact (show Tryd.prog.wantsStandIn 22 = false by kernel_rfl)

theorem card : Rows.ControlTellsCardSaid :=
  Claim7.holds_tied_plain_at .later [] _ _ _ _ said (fun _ h => by cases h) (by kernel_rfl) (fun _ h => by cases h) controlTells_row_tie rfl ⟨rfl, rfl⟩ (by kernel_rfl) rfl plain (by kernel_rfl)
end Go.Proofs.YtmnnbefigepgfaaDoor.controlTells
