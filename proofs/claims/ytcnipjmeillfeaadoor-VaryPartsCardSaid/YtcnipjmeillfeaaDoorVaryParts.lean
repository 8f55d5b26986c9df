/-
  VaryParts: two requests have one key just if of each name both have no field, or fields with the same text.
  Conditions: the listed tables hold what the program's text lays (the card ties them).
-/
import Derived.Deep.DeepCutAuto
import Derived.Deep.RegionWith
import Derived.Test.YtcnipjmeillfeaaDoorTabs
import Derived.Test.YtcnipjmeillfeaaDoorFdOpen
import Derived.SizedLaws
import Derived.Carry
import Derived.Test.YtcnipjmeillfeaaDoorVrSame
import Derived.Test.YtcnipjmeillfeaaDoorVrFew
import Derived.Test.YtcnipjmeillfeaaDoorVrShort
import Derived.Test.YtcnipjmeillfeaaDoorFdRefGet
import Derived.Test.YtcnipjmeillfeaaDoorTokIs
import Derived.Test.YtcnipjmeillfeaaDoorHdStrsU
import Derived.WideKeyPair
namespace Go.Proofs.YtcnipjmeillfeaaDoor.varyParts
open Go.ChangeShapes Go.WideShapes Go.ChangeAt Go.RowKit
open Go.ChangeMaps (open_string shut_string)
set_option linter.unusedVariables false

open Go.Proofs.YtcnipjmeillfeaaDoor.Tk Go.Proofs.YtcnipjmeillfeaaDoor.Fd Go.Proofs.YtcnipjmeillfeaaDoor.Hd Go.Proofs.YtcnipjmeillfeaaDoor.Vr
theorem list_eqP {A C : ByteArray} {a c : Bs} (hA : A = ⟨a.toArray⟩) (hC : C = ⟨c.toArray⟩) : (A.toList == C.toList) = decide (a = c) := by
  rw [ByteArray.toList_eq, ByteArray.toList_eq, hA, hC, Bool.eq_iff_iff, beq_iff_eq, decide_eq_true_iff]
theorem vsame_nil (a : Option Addr) (cap : Nat) (va vb : Value) (w : World) :
    Calls Tryd.prog 12 #[.slice a 0 cap, va, vb] w fun e w' => e = .returned (.bool true) ∧ w' = w := by
  go_enter Tryd.func12, Tryd.ntmps12
  go_wp2_with fail
  refine wp_loop_rounds 1 ?_
  rw [rounds_succ]
  go_wp2_with fail
  go_ret
  exact ⟨rfl, rfl⟩
theorem alike_parts (fa fb : List Fl) (x : ByteArray) : alikeV fa fb x = (decide (getT fa x.data.toList = getT fb x.data.toList) && (decide (0 < getN fa x.data.toList) == decide (0 < getN fb x.data.toList))) := by
  rw [Bool.eq_iff_iff, alike_iff, Bool.and_eq_true, decide_eq_true_iff, beq_iff_eq, Bool.eq_iff_iff, decide_eq_true_iff, decide_eq_true_iff]
  constructor
  · rintro ⟨h1, h2⟩; exact ⟨h1, by omega⟩
  · rintro ⟨h1, h2⟩; exact ⟨h1, by omega⟩
theorem same_step (fa fb : List Fl) (ns : List ByteArray) (k : Nat) (h : k < ns.length) : sameV fa fb (ns.take (k + 1)) = (sameV fa fb (ns.take k) && alikeV fa fb ns[k]) := by
  unfold sameV
  rw [take_next ns k h, List.all_append]; simp
theorem strs_addr {w : World} {a : Option Addr} {n c : Nat} {ns : List ByteArray} (h : Strs w (.slice a n c) ns) (hn : n = ns.length) (h0 : 0 < n) : ∃ b off, a = some ⟨b, off, none⟩ ∧ b < w.heap.size ∧ ∀ j (hj : j < ns.length), w.cell? ⟨b, off + j, none⟩ = some (.string ns[j]) := by
  rcases h with ⟨rfl, _⟩ | ⟨b, off, cap, hv, hlt, hc⟩
  · simp at hn; omega
  · injection hv with h1 _ _; exact ⟨b, off, h1, hlt, hc⟩
set_option maxHeartbeats 8000000 in
set_option maxRecDepth 100000 in
theorem walk (v0 : Value) (ls0 : List ByteArray) (v1 : Value) (fs1 : List Fl) (v2 : Value) (fs2 : List Fl) (w : World) (hP : Tb.P10 w) (f0 : Strs w v0 ls0) (l0 : ls0.length ≤ 140737488355328) (z0 : ∀ s ∈ ls0, s.size ≤ 140737488355328)
    (f1 : Flds w v1 fs1) (l1 : fs1.length ≤ 140737488355328) (z1 : ∀ f ∈ fs1, f.1.size ≤ 140737488355328 ∧ f.2.size ≤ 140737488355328) (f2 : Flds w v2 fs2) (l2 : fs2.length ≤ 140737488355328) (z2 : ∀ f ∈ fs2, f.1.size ≤ 140737488355328 ∧ f.2.size ≤ 140737488355328) :
    Calls Tryd.prog 4 #[v0, v1, v2] w fun e w' => e = .returned (.bool true) ∧ Below w.heap.size w w' := by
  have HP := Lib.hid hP
  have HF0 := Lib.hid f0
  have HF1 := Lib.hid f1
  have HF2 := Lib.hid f2
  have HC1 := Lib.hid (fewL_any v1 fs1 w f1 l1 z1)
  have HC2 := Lib.hid (fun n => fewL_any v2 fs2 (w.drewN n) (f2.below (Bl.drewN (Below.refl w.heap.size w) n) (Nat.le_refl _)) l2 z2)
  have HC0 := Lib.hid (fun n => short_any v0 ls0 (w.drewN n) (f0.below (Bl.drewN (Below.refl w.heap.size w) n) (Nat.le_refl _)) l0 z0)
  have HS0 := Lib.hid (vsame_nil none 0 v1 v2 w)
  clear hP f0 f1 f2 l0 l1 l2 z0 z1 z2
  go_enter Tryd.func4, Tryd.ntmps4
  go_wp2_with fail
  refine HS0.out.mono ?_
  rintro e w' ⟨rfl, rfl⟩
  go_wp2_with fail
  refine HC1.out.mono ?_
  rintro e x1 ⟨rfl, n1, hx1⟩
  cases hf1 : fewL fs1 with
  | false =>
    have HB := Lib.hid (Bl.drewN' (Below.refl w'.heap.size w') hx1)
    clear hx1 hf1
    go_wp2_with fail
    go_ret
    exact ⟨rfl, HB.out⟩
  | true =>
  have ht1 := fewL_tot hf1
  clear hf1
  go_wp2_with fail
  refine (HC2.out n1).mono ?_
  rintro e x2 ⟨rfl, n2, hx2⟩
  rw [World.drewN_drewN] at hx2
  cases hf2 : fewL fs2 with
  | false =>
    have HB := Lib.hid (Bl.drewN' (Below.refl w'.heap.size w') hx2)
    clear hx1 hx2 hf2
    go_wp2_with fail
    go_ret
    exact ⟨rfl, HB.out⟩
  | true =>
  have ht2 := fewL_tot hf2
  clear hf2 hx1
  go_wp2_with fail
  refine (HC0.out _).mono ?_
  rintro e x3 ⟨rfl, hx3⟩
  cases hf0 : shortL ls0 with
  | false =>
    have HB := Lib.hid (Bl.drewN' (Below.refl w'.heap.size w') hx3)
    clear hx2 hx3 hf0
    go_wp2_with fail
    go_ret
    exact ⟨rfl, HB.out⟩
  | true =>
  have HB3 := Lib.hid (Bl.drewN' (Below.refl w'.heap.size w') hx3)
  obtain ⟨hn0, hz0⟩ := short_bounds hf0
  have HZ0 := Lib.hid (show ∀ s ∈ ls0, s.size ≤ 1048576 from fun s hs => Nat.le_trans (hz0 s hs) (by decide))
  clear hx2 hx3 hf0 hz0 HC0 HC1 HC2 HS0
  obtain ⟨A, hA⟩ : ∃ A : ByteArray, A = ⟨(Vr.keyOf fs1 (nmsL ls0)).toArray⟩ := ⟨_, rfl⟩
  obtain ⟨C, hC⟩ : ∃ C : ByteArray, C = ⟨(Vr.keyOf fs2 (nmsL ls0)).toArray⟩ := ⟨_, rfl⟩
  obtain ⟨B, hB⟩ : ∃ B : Bool, B = sameV fs1 fs2 ls0 := ⟨_, rfl⟩
  have HAC := Lib.hid (show (A.toList == C.toList) = B from by rw [list_eqP hA hC, hB, same_keys])
  have HKA := Lib.hid (show ∀ W, Below w'.heap.size w' W → Calls Tryd.prog 10 #[v0, v1] W fun e x => e = .returned (.string A) ∧ Below W.heap.size W x from fun W h => by
    rw [hA]; exact key_any v0 v1 ls0 fs1 W (HF0.out.below h (Nat.le_refl _)) (HF1.out.below h (Nat.le_refl _)) (by omega) HZ0.out (by omega) (p10_below HP.out h (Nat.le_refl _)))
  have HKC := Lib.hid (show ∀ W, Below w'.heap.size w' W → Calls Tryd.prog 10 #[v0, v2] W fun e x => e = .returned (.string C) ∧ Below W.heap.size W x from fun W h => by
    rw [hC]; exact key_any v0 v2 ls0 fs2 W (HF0.out.below h (Nat.le_refl _)) (HF2.out.below h (Nat.le_refl _)) (by omega) HZ0.out (by omega) (p10_below HP.out h (Nat.le_refl _)))
  have HSM := Lib.hid (show ∀ W, Below w'.heap.size w' W → Calls Tryd.prog 12 #[v0, v1, v2] W fun e x => e = .returned (.bool B) ∧ Below W.heap.size W x from fun W h => by
    rw [hB]; exact vsame_any v0 v1 v2 ls0 fs1 fs2 W (HF0.out.below h (Nat.le_refl _)) (HF1.out.below h (Nat.le_refl _)) (HF2.out.below h (Nat.le_refl _)) (by omega) (by omega) HZ0.out (by omega) (p10_below HP.out h (Nat.le_refl _)))
  have HBV := Lib.hid hB
  obtain ⟨va, vc, hv0⟩ := HF0.out.shape
  have HF0' := HF0
  rw [hv0] at HKA HKC HSM HF0' ⊢
  clear hA hC hB HP HF0 hv0
  obtain ⟨N, hN⟩ : ∃ N, N = ls0.length := ⟨_, rfl⟩
  rw [← hN] at HKA HKC HSM HF0' hn0 ⊢
  have HN := Lib.hid hN
  clear hN
  go_wp2_with fail
  go_loopw [7, 8] (fun s i wr => ∃ k : Nat, k ≤ N ∧ i = .int .i64 (k : Int) ∧ s = .bool (sameV fs1 fs2 (ls0.take k)) ∧ Below w'.heap.size w' wr) (fun _ i _ => N - (intOf i).toNat)
  case atStart => exact ⟨0, Nat.zero_le _, rfl, rfl, HB3.out⟩
  case round =>
    obtain ⟨k, hk, rfl, rfl, hBr⟩ := hrel
    have hsz := hBr.size
    by_cases hlt2 : k < N
    · have hkl : k < ls0.length := by have := HN.out; omega
      obtain ⟨b, off, rfl, hlt, hc⟩ := strs_addr HF0'.out HN.out (by omega)
      have c1 : wr.cell? ⟨b, off + k, none⟩ = some (.string ls0[k]) := (hBr.cell (p := ⟨b, off + k, none⟩) hlt).trans (hc k hkl)
      have hxs : ls0[k].size ≤ 1048576 := HZ0.out _ (List.getElem_mem hkl)
      have HST0 := Lib.hid (same_step fs1 fs2 ls0 k hkl)
      have HAL := Lib.hid (alike_parts fs1 fs2 ls0[k])
      obtain ⟨x, hx⟩ : ∃ x, x = ls0[k] := ⟨_, rfl⟩
      rw [← hx] at c1 hxs HST0 HAL
      have HF1r := Lib.hid (HF1.out.below hBr (Nat.le_refl _))
      have HI := Lib.hid (refIs_any x wr (by unfold maxLen; omega))
      clear hx hc
      go_wp2_with fail
      refine HI.out.mono ?_
      rintro e w4 ⟨rfl, rfl⟩
      cases hti : isTok x.data.toList with
      | false =>
        clear hti
        go_wp2_with fail
        go_ret
        exact ⟨rfl, hBr⟩
      | true =>
        clear hti HI
        obtain ⟨T1, hT1⟩ : ∃ T, T = getT fs1 x.data.toList := ⟨_, rfl⟩
        obtain ⟨n1, hn1'⟩ : ∃ n, n = getN fs1 x.data.toList := ⟨_, rfl⟩
        obtain ⟨T2, hT2⟩ : ∃ T, T = getT fs2 x.data.toList := ⟨_, rfl⟩
        obtain ⟨n2, hn2'⟩ : ∃ n, n = getN fs2 x.data.toList := ⟨_, rfl⟩
        rw [← hT1, ← hn1', ← hT2, ← hn2'] at HAL
        have HG1 := Lib.hid (show getVal fs1 x.data.toList = .tuple #[.string ⟨T1.toArray⟩, .int .i64 (n1 : Int)] from by unfold getVal; rw [← hT1, ← hn1'])
        have HG2 := Lib.hid (show getVal fs2 x.data.toList = .tuple #[.string ⟨T2.toArray⟩, .int .i64 (n2 : Int)] from by unfold getVal; rw [← hT2, ← hn2'])
        obtain ⟨X, hX⟩ : ∃ X : ByteArray, X = ⟨T1.toArray⟩ := ⟨_, rfl⟩
        obtain ⟨Y, hY⟩ : ∃ Y : ByteArray, Y = ⟨T2.toArray⟩ := ⟨_, rfl⟩
        have HXY := Lib.hid (show (X.toList == Y.toList) = decide (T1 = T2) from list_eqP hX hY)
        rw [← hX] at HG1
        rw [← hY] at HG2
        clear hT1 hn1' hT2 hn2' hX hY
        go_wp2_with fail
        refine (refGet_any v1 fs1 x _ HF1r.out (by omega) (by unfold maxLen; omega)).mono ?_
        rintro e w5 ⟨rfl, hb5⟩
        rw [HG1.out]
        have hB5 := hBr.trans (hb5.mono hsz)
        have d1 : w5.cell? ⟨b, off + k, none⟩ = some (.string x) := (hb5.cell (p := ⟨b, off + k, none⟩) (by show b < _; omega)).trans c1
        have HF2r := Lib.hid (HF2.out.below hB5 (Nat.le_refl _))
        clear hb5 HF1r c1
        go_wp2_with fail
        refine (refGet_any v2 fs2 x _ HF2r.out (by omega) (by unfold maxLen; omega)).mono ?_
        rintro e w7 ⟨rfl, hb7⟩
        rw [HG2.out]
        have hB7 := hB5.trans (hb7.mono hB5.size)
        clear hb7 HF2r d1 HG1 HG2 hBr hB5
        obtain ⟨E, hE⟩ : ∃ E, E = decide (T1 = T2) := ⟨_, rfl⟩
        have hxy : (X.toList == Y.toList) = E := by rw [HXY.out, hE]
        obtain ⟨S, hS⟩ : ∃ S, S = sameV fs1 fs2 (ls0.take k) := ⟨_, rfl⟩
        have HST := Lib.hid (show sameV fs1 fs2 (ls0.take (k + 1)) = (S && (E && (decide (0 < n1) == decide (0 < n2)))) from by rw [HST0.out, HAL.out, ← hS, hE])
        rw [← hS]
        clear hS hE HXY HST0 HAL
        cases S with
        | false =>
          go_wp2_with fail
          go_roundw
          case rel => exact ⟨k + 1, by omega, by go_num, by rw [HST.out]; rfl, hB7⟩
          case measure => simp [intOf]; omega
        | true =>
          cases E with
          | false =>
            go_wp2_with fail
            go_roundw
            case rel => exact ⟨k + 1, by omega, by go_num, by rw [HST.out]; rfl, hB7⟩
            case measure => simp [intOf]; omega
          | true =>
            go_wp2_with fail
            go_roundw
            case rel => exact ⟨k + 1, by omega, by go_num, by rw [HST.out]; rfl, hB7⟩
            case measure => simp [intOf]; omega
    · have HSV := Lib.hid (show sameV fs1 fs2 (ls0.take k) = B from by rw [List.take_of_length_le (by have := HN.out; omega)]; exact HBV.out.symm)
      rw [HSV.out]
      have HBr := Lib.hid hBr
      clear hBr
      go_wp2_with fail
      refine (HSM.out _ HBr.out).mono ?_
      rintro e w5 ⟨rfl, hb5⟩
      have HB5 := Lib.hid (HBr.out.trans (hb5.mono HBr.out.size))
      clear hb5
      have hac := HAC.out
      cases B
      all_goals
        go_wp2_with fail
        refine (HKA.out _ HB5.out).mono ?_
        rintro e w6 ⟨rfl, hb6⟩
        have HB6 := Lib.hid (HB5.out.trans (hb6.mono HB5.out.size))
        clear hb6
        go_wp2_with fail
        refine (HKC.out _ HB6.out).mono ?_
        rintro e w8 ⟨rfl, hb8⟩
        have HB8 := Lib.hid (HB6.out.trans (hb8.mono HB6.out.size))
        clear hb8
        go_wp2_with fail
        go_ret
        exact ⟨rfl, HB8.out⟩

set_option maxHeartbeats 2000000 in
set_option maxRecDepth 100000 in
theorem contract (H : Type) (enc : TypeId × Value → H) (W : World) (base : Nat) (args : Array Value) (ds gs : List (DataW H)) (before : List MemPlace)
    (hval : ∀ (j : Nat) t v, Tryd.f4.params[j]? = some t → args[j]? = some v → Value.okWide Tryd.prog W .any base t v)
    (hW : DataW.Whole enc Tryd.prog Tryd.f4.params.toList Rows.varyPartsSpec.vars false W args.toList ds gs before) (ts : List TypeId) (hsz : (DataW.weightsEach Tryd.prog (Tryd.f4.params.toList ++ ts) (ds ++ gs)).all (· ≤ reachBytes) = true) (hL : laidMetH Tryd.prog Rows.varyPartsRow.laid W) :
    Calls Tryd.prog 4 args W fun e W' => ∃ v, e = .returned v ∧ Rows.varyPartsSpec.post enc Tryd.prog Tryd.f4 false true false false W args v W' := by
  have hW' := hW
  obtain ⟨p, q, hA0, hV, rfl, hfz, hnd⟩ := hW
  have hA : DataW.TrodAll enc Tryd.prog W 0 (fun _ => true) true Tryd.f4.params.toList args.toList ds p := hA0
  rw [Tryd.params4] at hA hval hsz
  obtain ⟨v0, vs0, d0, ds0, p0, q0, hargs, rfl, rfl, h0, r0⟩ := trodAll_cons hA
  obtain ⟨v1, vs1, d1, ds1, p1, q1, rfl, rfl, rfl, h1, r1⟩ := trodAll_cons r0
  obtain ⟨v2, vs2, d2, ds2, p2, q2, rfl, rfl, rfl, h2, r2⟩ := trodAll_cons r1
  obtain ⟨rfl, rfl, rfl⟩ := trodAll_nil r2
  have hw0 : ∀ n ∈ d0.weights Tryd.prog 23, n ≤ reachBytes := fun n hn => by simpa using List.all_eq_true.1 hsz n (DataW.weights_mem_each (j := 0) (t := 23) (d := d0) rfl rfl _ hn)
  have hw1 : ∀ n ∈ d1.weights Tryd.prog 22, n ≤ reachBytes := fun n hn => by simpa using List.all_eq_true.1 hsz n (DataW.weights_mem_each (j := 1) (t := 22) (d := d1) rfl rfl _ hn)
  have hw2 : ∀ n ∈ d2.weights Tryd.prog 22, n ≤ reachBytes := fun n hn => by simpa using List.all_eq_true.1 hsz n (DataW.weights_mem_each (j := 2) (t := 22) (d := d2) rfl rfl _ hn)
  obtain rfl : args = #[v0, v1, v2] := by cases args; simp_all
  obtain ⟨rfl, rfl⟩ := trodVars_none hV
  have k0 := h0
  have lt0 : ∀ x ∈ p0, x.block < W.heap.size := by obtain ⟨m, hm⟩ := k0; exact DataW.trod_lt m _ _ _ hm
  obtain ⟨ls0, f0, l0, z0⟩ := Hd.open_textsU (hval 0 23 v0 rfl rfl) h0 hw0
  have k1 := h1
  have lt1 : ∀ x ∈ p1, x.block < W.heap.size := by obtain ⟨m, hm⟩ := k1; exact DataW.trod_lt m _ _ _ hm
  obtain ⟨fs1, f1, l1, z1⟩ := Fd.open_flds (hval 1 22 v1 rfl rfl) h1 hw1
  have k2 := h2
  have lt2 : ∀ x ∈ p2, x.block < W.heap.size := by obtain ⟨m, hm⟩ := k2; exact DataW.trod_lt m _ _ _ hm
  obtain ⟨fs2, f2, l2, z2⟩ := Fd.open_flds (hval 2 22 v2 rfl rfl) h2 hw2
  clear hA0
  simp only [List.append_nil] at hW'
  refine (walk v0 ls0 v1 fs1 v2 fs2 W (Tb.p10_of_head (Tb.tail (Tb.tail hL))) f0 l0 z0 f1 l1 z1 f2 l2 z2).mono fun e W' ⟨he, bel⟩ => ?_
  subst he
  exact ⟨_, rfl, _, _, _, [], _, [], hW', trodAll_mk1 (shut_bool Tryd.underlying4 _), (trodAll_cons_mk (Below.trod Tb.laidOut (by kernel_rfl) (of_decide_eq_true (by kernel_rfl)) k0 bel lt0) (trodAll_cons_mk (Below.trod Tb.laidOut (by kernel_rfl) (of_decide_eq_true (by kernel_rfl)) k1 bel lt1) (trodAll_cons_mk (Below.trod Tb.laidOut (by kernel_rfl) (of_decide_eq_true (by kernel_rfl)) k2 bel lt2) trodAll_mk0))), rfl, bel.frame _, fun h => by cases h⟩

theorem laid_met (os : Os) : laidMet Tryd.prog Rows.varyPartsRow.laid ((Tb.laidWorld os).forCall (fun _ _ => 0) ⟨#[], #[.slice none 0 0, .slice none 0 0, .slice none 0 0], []⟩).memory :=
  laidMet_of_run' 8 (by kernel_rfl) (by kernel_rfl)
theorem reads (os : Os) {H : Type} (enc : TypeId × Value → H) : ∃ places, DataW.whole enc Tryd.prog ((Tb.laidWorld os).forCall (fun _ _ => 0) ⟨#[], #[.slice none 0 0, .slice none 0 0, .slice none 0 0], []⟩).memory Tryd.f4.params.toList Rows.varyPartsSpec.vars false (#[.slice none 0 0, .slice none 0 0, .slice none 0 0] : Array Value).toList 8 = some ([.nil, .nil, .nil], [], places) :=
  ⟨[], by kernel_rfl⟩

set_option maxRecDepth 100000 in
theorem lifted (os : Os) (started : os.Started) (H : Type) (enc : TypeId × Value → H) (F : Stop.Interp) :
    ReturnsInHanded {} Tryd.checked os 4 .any ((OpenSpec.ofChange Rows.varyPartsSpec).preRow enc Tryd.prog Tryd.f4 Rows.varyPartsRow.domain false Rows.varyPartsRow.laid) (((OpenSpec.ofChange Rows.varyPartsSpec).at F).post enc Tryd.prog Tryd.f4 false true false false) := by
  obtain ⟨places, hx⟩ := reads os enc
  refine returnsInHanded_of_row (C := Tryd.checked) (s := OpenSpec.ofChange Rows.varyPartsSpec) Tb.own started (by kernel_rfl) Tryd.func4
    (witness_row_at (enc := enc) (C := Tryd.checked) false (Tb.laidWorld os) #[.slice none 0 0, .slice none 0 0, .slice none 0 0] rfl (by kernel_rfl) (by kernel_rfl) (by kernel_rfl)
      (OpenSpec.preRow_of_cond 8 hx (by kernel_rfl) (fun k hk => by cases hk) (by kernel_rfl) (laid_met os))) ?_
  intro W base args ds gs before hval hW _ _ hsz hL _ _
  exact contract H enc W base args ds gs before hval hW _ hsz hL

theorem said : Rows.VaryPartsSaid :=
  OpenClaim.holds_of_cond 4 Tryd.f4 rfl rfl rfl rfl rfl rfl rfl ⟨rfl, rfl, rfl, rfl, rfl⟩ rfl rfl rfl rfl rfl (by kernel_rfl) Tryd.func4 (by kernel_rfl)
    (of_decide_eq_true (by kernel_rfl)) (by unfold Func.isWrapper; first | (rw [if_pos (by decide +kernel)]; kernel_rfl) | (rw [if_neg (by decide +kernel)]; exact ⟨rfl, rfl⟩))
    (fun os started H enc _ F => by rw [OpenClaim.pre_eq_preRow]; exact lifted os started H enc F)

set_option maxRecDepth 100000 in
theorem plain (f : FuncId) (fn : Func) (hf : Tryd.pinned.checked.prog.funcNamed "gatepost/gatepostlaw11.VaryParts" = some f) (hfn : Tryd.pinned.checked.prog.funcs[f]? = some fn) :
    false = Tryd.pinned.checked.prog.looks [] ∧ ∀ (j : Nat) t, fn.params[j]? = some t → Tryd.pinned.checked.prog.wantsStandIn t = false := by
  obtain rfl : f = 4 := Option.some.inj ((show Tryd.prog.funcNamed "gatepost/gatepostlaw11.VaryParts" = some 4 by kernel_rfl).symm.trans hf) |>.symm
  obtain rfl : fn = Tryd.f4 := (Option.some.inj (Tryd.func4.symm.trans hfn)).symm
  refine ⟨by kernel_rfl, fun j t ht => ?_⟩
  rw [Tryd.params4] at ht
  have hm := Array.mem_of_getElem? ht
  simp at hm
  repeat' (rcases hm with hm | hm)
  all_goals
    first
      | exact (show Tryd.prog.wantsStandIn 23 = false by kernel_rfl)
      | exact (show Tryd.prog.wantsStandIn 22 = false by kernel_rfl)

theorem card : Rows.VaryPartsCardSaid :=
  Claim7.holds_tied_plain_at .later [] _ _ _ _ said (fun _ h => by cases h) (by kernel_rfl) (fun _ h => by cases h) varyParts_row_tie rfl ⟨rfl, rfl⟩ (by kernel_rfl) rfl plain (by kernel_rfl)
end Go.Proofs.YtcnipjmeillfeaaDoor.varyParts
