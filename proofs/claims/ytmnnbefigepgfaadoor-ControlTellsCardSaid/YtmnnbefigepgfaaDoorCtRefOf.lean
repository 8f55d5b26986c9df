/-
  gatepostref08.Of: what it returns. Condition: fields of at most 2^20 bytes in all.
-/
import Derived.Test.YtmnnbefigepgfaaDoorCtRefParse
import Derived.Test.YtmnnbefigepgfaaDoorCtOf
import Derived.Test.YtmnnbefigepgfaaDoorFdRefGet
namespace Go.Proofs.YtmnnbefigepgfaaDoor.Ct
open Go.RowKit Go.Proofs.YtmnnbefigepgfaaDoor.Tk Go.Proofs.YtmnnbefigepgfaaDoor.Fd Go.Proofs.YtmnnbefigepgfaaDoor.Hd
set_option linter.unusedVariables false

def ncB (b : Bool) : Con := ⟨false, b, false, false, false, false, false, -1, -1, -1, -1, -1, -1⟩
theorem ncB_true (b : Bool) : (cells (ncB b)).setIfInBounds 1 (.bool true) = cells (ncB true) := by kernel_rfl
theorem any_next (ls : List Bs) (y : Bs) (k : Nat) (hk : k < ls.length) : (ls.take (k + 1)).any (· == y) = ((ls.take k).any (· == y) || (ls[k] == y)) := by
  rw [List.take_succ_eq_append_getElem hk, List.any_append]; simp
theorem ofOf_ncB {fs : List Fl} (h : ¬ 0 < getN fs ccL) : ofOf fs = ncB (pragB fs) := by
  cases hp : pragB fs with
  | true => rw [ofOf_prag h hp]; rfl
  | false => rw [ofOf_none h hp]; rfl

set_option maxRecDepth 100000 in
set_option maxHeartbeats 8000000 in
theorem refOf_any (v : Value) (fs : List Fl) (w : World) (hf : Flds w v fs) (ht : tot fs ≤ 1048576) :
    Calls Tryd.prog 9 #[v] w fun e w' => e = .returned (.agg (cells (ofOf fs))) ∧ Below w.heap.size w w' := by
  have hgl := getT_length fs ccL
  have hgp := getT_length fs prL
  obtain ⟨X, hX⟩ : ∃ X : ByteArray, X = ⟨(getT fs ccL).toArray⟩ := ⟨_, rfl⟩
  have HXl := Lib.hid (show X.data.toList = getT fs ccL from by rw [hX])
  have hXs : X.size ≤ 2097152 := by rw [hX]; show (getT fs ccL).toArray.size ≤ _; rw [List.size_toArray]; omega
  obtain ⟨N, hN⟩ : ∃ N : Nat, N = getN fs ccL := ⟨_, rfl⟩
  have HG := Lib.hid (show getVal fs [99, 97, 99, 104, 101, 45, 99, 111, 110, 116, 114, 111, 108] = .tuple #[.string X, .int .i64 (N : Int)] from by rw [hX, hN]; rfl)
  obtain ⟨Y, hY⟩ : ∃ Y : ByteArray, Y = ⟨(getT fs prL).toArray⟩ := ⟨_, rfl⟩
  have HYl := Lib.hid (show Y.data.toList = getT fs prL from by rw [hY])
  have hYs : Y.size ≤ 2097152 := by rw [hY]; show (getT fs prL).toArray.size ≤ _; rw [List.size_toArray]; omega
  obtain ⟨N2, hN2⟩ : ∃ N : Nat, N = getN fs prL := ⟨_, rfl⟩
  have HG2 := Lib.hid (show getVal fs [112, 114, 97, 103, 109, 97] = .tuple #[.string Y, .int .i64 (N2 : Int)] from by rw [hY, hN2]; rfl)
  obtain ⟨M, hM⟩ : ∃ M : ByteArray, M = ⟨(lower Y.data.toList).toArray⟩ := ⟨_, rfl⟩
  have HM := Lib.hid hM
  have hMs : M.size ≤ 2097152 := by rw [hM]; show (lower Y.data.toList).toArray.size ≤ _; rw [List.size_toArray, lower_length]; simpa using hYs
  have HML := Lib.hid (show M.data.toList = lower (getT fs prL) from by rw [hM, HYl.out])
  have HN := Lib.hid hN
  have HF := Lib.hid hf
  have hbw : Below w.heap.size w (w.alloc (.cells blank13 26)) := (Below.refl _ _).alloc (Nat.le_refl _) _
  have HW := Lib.hid hbw
  clear hX hN hf hbw hY hN2 hM
  go_enter Tryd.func9, Tryd.ntmps9
  go_wp2_with fail
  refine (refGet_any v fs ⟨#[99, 97, 99, 104, 101, 45, 99, 111, 110, 116, 114, 111, 108]⟩ _ (HF.out.below HW.out (Nat.le_refl _)) ht (by decide)).mono ?_
  rintro e w1 ⟨rfl, hb1⟩
  rw [HG.out]
  have hR1 := Bl.old hb1 (b := w.heap.size) (by simp) (new_block w (.cells blank13 26))
  have HB1 := Lib.hid (Bl.next HW.out hb1)
  have HR1 := Lib.hid hR1
  clear hb1 hR1
  by_cases h0 : N = 0
  · have t0 : decide ((0 : Int) < (N : Int)) = false := by rw [decide_eq_false_iff_not]; omega
    have HV := Lib.hid (ofOf_ncB (show ¬ 0 < getN fs ccL by rw [← HN.out]; omega))
    go_wp2_with fail
    refine (none_any _).mono ?_
    rintro e w2 ⟨rfl, hb2⟩
    have hN2 := new_block w2 (.cells (cells .zero) 26)
    have hs2 : w.heap.size < w2.heap.size := by have h1 := block_lt HR1.out; have := hb2.size; omega
    have hR2 := (old_block w2 (.cells (cells .zero) 26) hs2).trans (Bl.old hb2 (block_lt HR1.out) HR1.out)
    have HB2 := Lib.hid ((Bl.next HB1.out hb2).alloc (by omega) (.cells (cells .zero) 26))
    obtain ⟨W2, hW2⟩ : ∃ W2, W2 = w2.alloc (.cells (cells .zero) 26) := ⟨_, rfl⟩
    have HWW := Lib.hid (show w2.alloc (.cells #[.bool false, .bool false, .bool false, .bool false, .bool false, .bool false, .bool false, .int .i64 (-1), .int .i64 (-1), .int .i64 (-1), .int .i64 (-1), .int .i64 (-1), .int .i64 (-1)] 26) = W2 from hW2.symm)
    have hsW : W2.heap.size = w2.heap.size + 1 := by rw [hW2]; simp
    rw [← hW2] at hN2 hR2 HB2
    have HN2 := Lib.hid hN2
    have HR2 := Lib.hid hR2
    clear hW2 hb2 hN2 hR2
    go_wp2_with fail
    rw [HWW.out]
    refine (refGet_any v fs ⟨#[112, 114, 97, 103, 109, 97]⟩ _ (HF.out.below HB2.out (Nat.le_refl _)) ht (by decide)).mono ?_
    rintro e w3 ⟨rfl, hb3⟩
    rw [HG2.out]
    go_wp2_with fail
    refine (refLower_any Y _ (by unfold maxLen; omega)).mono ?_
    rintro e w4 ⟨rfl, hb4⟩
    rw [← HM.out]
    have hb34 := Bl.next hb3 hb4
    go_wp2_with fail
    refine (refSplit_any M _ (by omega)).mono ?_
    rintro e w5 ⟨hb5, h5⟩
    have hb := Bl.next hb34 hb5
    have hw4 := hb34.size
    have hN5 : ConAt w5 w2.heap.size (ncB false) := Bl.old hb (block_lt HN2.out) HN2.out
    have hR5 := Bl.old hb (block_lt HR2.out) HR2.out
    have HB5 := Lib.hid (Bl.next HB2.out hb)
    have HN5 := Lib.hid hN5
    have HR5 := Lib.hid hR5
    rw [HML.out] at h5
    clear hb hb34 hb3 hb4 hN5 hR5 HB2 HN2 HR2
    have hne : w.heap.size ≠ w2.heap.size := by omega
    have hle : w.heap.size ≤ w2.heap.size := by omega
    rcases h5 with ⟨h5, rfl⟩ | ⟨ls, lv, h5, rfl, ho⟩
    · have HP := Lib.hid (show pragB fs = false from by unfold pragB; rw [h5])
      clear h5 hb5
      obtain ⟨a0, a1, a2, a3, a4, a5, a6, a7, a8, a9, a10, a11, a12⟩ := thirteen HN5.out
      obtain ⟨r0, r1, r2, r3, r4, r5, r6, r7, r8, r9, r10, r11, r12⟩ := blanks HR5.out
      have g0 := free HR5.out 0
      have g1 := free HR5.out 1
      have g2 := free HR5.out 2
      have g3 := free HR5.out 3
      have g4 := free HR5.out 4
      have g5 := free HR5.out 5
      have g6 := free HR5.out 6
      have g7 := free HR5.out 7
      have g8 := free HR5.out 8
      have g9 := free HR5.out 9
      have g10 := free HR5.out 10
      have g11 := free HR5.out 11
      have g12 := free HR5.out 12
      go_wp2_with fail
      refine wp_loop_rounds 1 ?_
      rw [rounds_succ]
      go_wp2_with fail
      refine bodyPost_ret (results_one rfl _ _ w.heap.size 26 _ (0, 0) _ rfl (set13_at HR5.out (ncB false)) Tryd.underlying26 rfl infoCon) rfl ?_
      exact ⟨by rw [HV.out, HP.out], set13_below HB5.out (Nat.le_refl _) _⟩
    · have hll := split_length h5
      rw [lower_length] at hll
      have HP := Lib.hid (show pragB fs = ls.any (· == nca) from by unfold pragB; rw [h5])
      have HS := Lib.hid (show Sr w w.heap.size w2.heap.size lv ls (ncB false) w5 from ⟨HB5.out, HR5.out, HN5.out, Fd.owns_mono ho (by omega)⟩)
      clear h5 hb5 HB5 HN5 HR5 ho
      obtain ⟨a, cap, hlv, ha⟩ : ∃ a cap, lv = .slice a ls.length cap ∧ (0 < ls.length → ∃ b, a = some ⟨b, 0, none⟩) := by
        rcases HS.out.row.2 with ⟨hv, h0⟩ | ⟨b, cap, cur, hv, _⟩
        · exact ⟨none, 0, by rw [hv, h0], fun h => by omega⟩
        · exact ⟨_, cap, hv, fun _ => ⟨b, rfl⟩⟩
      have HLV := Lib.hid hlv
      rw [hlv]
      clear hlv
      go_wp2_with fail
      go_loopw [10] (fun i wr => ∃ k : Nat, k ≤ ls.length ∧ i = .int .i64 (k : Int) ∧ Sr w w.heap.size w2.heap.size lv ls (ncB ((ls.take k).any (· == nca))) wr) (fun i _ => ls.length - (intOf i).toNat)
      case atStart => exact ⟨0, Nat.zero_le _, rfl, HS.out⟩
      case round =>
        obtain ⟨k, hk, rfl, hSt⟩ := hrel
        obtain ⟨bb, hbb⟩ : ∃ bb, bb = (ls.take k).any (· == nca) := ⟨_, rfl⟩
        rw [← hbb] at hSt
        have HSt := Lib.hid hSt
        clear hSt HS
        by_cases hlt2 : k < ls.length
        · obtain ⟨b, rfl⟩ := ha (by omega)
          have c1 := HSt.out.cell HLV.out k hlt2
          have HNX := Lib.hid (show (ls.take (k + 1)).any (· == nca) = (bb || (ls[k] == nca)) from by rw [any_next ls nca k hlt2, hbb])
          obtain ⟨T, hT⟩ : ∃ T : ByteArray, T = ⟨ls[k].toArray⟩ := ⟨_, rfl⟩
          have hTl : T.data.toList = ls[k] := by rw [hT]
          rw [← hT] at c1
          clear hbb
          cases hq : (ls[k] == nca) with
          | true =>
            rw [hq] at HNX
            have e1 : (T.toList == [110, 111, 45, 99, 97, 99, 104, 101]) = true := by rw [ByteArray.toList_eq, hTl]; exact hq
            have f1 := free HSt.out.con 1
            obtain ⟨a0, a1, a2, a3, a4, a5, a6, a7, a8, a9, a10, a11, a12⟩ := thirteen HSt.out.con
            clear hq hT hTl
            go_wp2_with fail
            go_roundw
            case rel => exact ⟨k + 1, by omega, by go_num, by rw [HNX.out, Bool.or_true]; exact HSt.out.put hne hle 1 (.bool true) (ncB_true bb)⟩
            case measure => simp [intOf]; omega
          | false =>
            rw [hq] at HNX
            have e1 : (T.toList == [110, 111, 45, 99, 97, 99, 104, 101]) = false := by rw [ByteArray.toList_eq, hTl]; exact hq
            clear hq hT hTl
            go_wp2_with fail
            go_roundw
            case rel => exact ⟨k + 1, by omega, by go_num, by rw [HNX.out, Bool.or_false]; exact HSt.out⟩
            case measure => simp [intOf]; omega
        · have HE := Lib.hid (show bb = pragB fs from by rw [hbb, HP.out, List.take_of_length_le (by omega)])
          obtain ⟨a0, a1, a2, a3, a4, a5, a6, a7, a8, a9, a10, a11, a12⟩ := thirteen HSt.out.con
          obtain ⟨r0, r1, r2, r3, r4, r5, r6, r7, r8, r9, r10, r11, r12⟩ := blanks HSt.out.res
          have g0 := free HSt.out.res 0
          have g1 := free HSt.out.res 1
          have g2 := free HSt.out.res 2
          have g3 := free HSt.out.res 3
          have g4 := free HSt.out.res 4
          have g5 := free HSt.out.res 5
          have g6 := free HSt.out.res 6
          have g7 := free HSt.out.res 7
          have g8 := free HSt.out.res 8
          have g9 := free HSt.out.res 9
          have g10 := free HSt.out.res 10
          have g11 := free HSt.out.res 11
          have g12 := free HSt.out.res 12
          obtain ⟨cc, hcc⟩ : ∃ cc, cc = ncB bb := ⟨_, rfl⟩
          rw [← hcc] at HSt a0 a1 a2 a3 a4 a5 a6 a7 a8 a9 a10 a11 a12
          have HCC := Lib.hid hcc
          clear hcc hbb
          go_wp2_with fail
          refine bodyPost_ret (results_one rfl _ _ w.heap.size 26 _ (0, 0) _ rfl (set13_at HSt.out.res cc) Tryd.underlying26 rfl infoCon) rfl ?_
          exact ⟨by rw [HV.out, ← HE.out, HCC.out], set13_below HSt.out.bel (Nat.le_refl _) _⟩
  · have t0 : decide ((0 : Int) < (N : Int)) = true := by rw [decide_eq_true_eq]; omega
    have HV := Lib.hid (show ofOf fs = (parseOf X.data.toList).1 from by rw [ofOf_cc (by rw [← HN.out]; omega), HXl.out])
    have HR2 := HR1
    have HB2 := HB1
    go_wp2_with fail
    refine (refParse_any X _ (by omega)).mono ?_
    rintro e W3 ⟨rfl, hb3⟩
    obtain ⟨cc, hcc⟩ : ∃ cc, cc = (parseOf X.data.toList).1 := ⟨_, rfl⟩
    obtain ⟨bb, hbb⟩ : ∃ bb, bb = (parseOf X.data.toList).2 := ⟨_, rfl⟩
    have hPV : parseVal X.data.toList = .tuple #[.agg #[.bool cc.ns, .bool cc.nc, .bool cc.pr, .bool cc.pu, .bool cc.mu, .bool cc.px, .bool cc.oc, .int .i64 cc.ag, .int .i64 cc.sh, .int .i64 cc.wh, .int .i64 cc.ie, .int .i64 cc.mf, .int .i64 cc.ms], .bool bb] := by unfold parseVal; rw [← hcc, ← hbb]; rfl
    rw [hPV]
    rw [← hcc] at HV
    have hR3 := Bl.old hb3 (block_lt HR2.out) HR2.out
    have HB3 := Lib.hid (Bl.next HB2.out hb3)
    clear hb3 hcc hbb hPV
    have hal : ∀ Y, (W3.alloc (.cells Y 26)).heap[w.heap.size]? = some (.cells blank13 26 (0, 0)) := fun Y => (old_block _ _ (block_lt hR3)).trans hR3
    have HAL := Lib.hid hal
    have r0 : ∀ Y, (W3.alloc (.cells Y 26)).cell? ⟨w.heap.size, 0, none⟩ = some (.bool false) := fun Y => cellAt_of (hal Y) 0 rfl
    have r1 : ∀ Y, (W3.alloc (.cells Y 26)).cell? ⟨w.heap.size, 1, none⟩ = some (.bool false) := fun Y => cellAt_of (hal Y) 1 rfl
    have r2 : ∀ Y, (W3.alloc (.cells Y 26)).cell? ⟨w.heap.size, 2, none⟩ = some (.bool false) := fun Y => cellAt_of (hal Y) 2 rfl
    have r3 : ∀ Y, (W3.alloc (.cells Y 26)).cell? ⟨w.heap.size, 3, none⟩ = some (.bool false) := fun Y => cellAt_of (hal Y) 3 rfl
    have r4 : ∀ Y, (W3.alloc (.cells Y 26)).cell? ⟨w.heap.size, 4, none⟩ = some (.bool false) := fun Y => cellAt_of (hal Y) 4 rfl
    have r5 : ∀ Y, (W3.alloc (.cells Y 26)).cell? ⟨w.heap.size, 5, none⟩ = some (.bool false) := fun Y => cellAt_of (hal Y) 5 rfl
    have r6 : ∀ Y, (W3.alloc (.cells Y 26)).cell? ⟨w.heap.size, 6, none⟩ = some (.bool false) := fun Y => cellAt_of (hal Y) 6 rfl
    have r7 : ∀ Y, (W3.alloc (.cells Y 26)).cell? ⟨w.heap.size, 7, none⟩ = some (.int .i64 0) := fun Y => cellAt_of (hal Y) 7 rfl
    have r8 : ∀ Y, (W3.alloc (.cells Y 26)).cell? ⟨w.heap.size, 8, none⟩ = some (.int .i64 0) := fun Y => cellAt_of (hal Y) 8 rfl
    have r9 : ∀ Y, (W3.alloc (.cells Y 26)).cell? ⟨w.heap.size, 9, none⟩ = some (.int .i64 0) := fun Y => cellAt_of (hal Y) 9 rfl
    have r10 : ∀ Y, (W3.alloc (.cells Y 26)).cell? ⟨w.heap.size, 10, none⟩ = some (.int .i64 0) := fun Y => cellAt_of (hal Y) 10 rfl
    have r11 : ∀ Y, (W3.alloc (.cells Y 26)).cell? ⟨w.heap.size, 11, none⟩ = some (.int .i64 0) := fun Y => cellAt_of (hal Y) 11 rfl
    have r12 : ∀ Y, (W3.alloc (.cells Y 26)).cell? ⟨w.heap.size, 12, none⟩ = some (.int .i64 0) := fun Y => cellAt_of (hal Y) 12 rfl
    have g0 := fun Y => free (hal Y) 0
    have g1 := fun Y => free (hal Y) 1
    have g2 := fun Y => free (hal Y) 2
    have g3 := fun Y => free (hal Y) 3
    have g4 := fun Y => free (hal Y) 4
    have g5 := fun Y => free (hal Y) 5
    have g6 := fun Y => free (hal Y) 6
    have g7 := fun Y => free (hal Y) 7
    have g8 := fun Y => free (hal Y) 8
    have g9 := fun Y => free (hal Y) 9
    have g10 := fun Y => free (hal Y) 10
    have g11 := fun Y => free (hal Y) 11
    have g12 := fun Y => free (hal Y) 12
    clear hal hR3
    go_wp2_with fail
    refine bodyPost_ret (results_one rfl _ _ w.heap.size 26 _ (0, 0) _ rfl (set13_at (HAL.out _) cc) Tryd.underlying26 rfl infoCon) rfl ?_
    exact ⟨by rw [HV.out], set13_below (HB3.out.alloc HB3.out.size _) (Nat.le_refl _) _⟩
end Go.Proofs.YtmnnbefigepgfaaDoor.Ct
