/-
  VaryTells: any response's names, and any request's key of any names, are the document's.
  Conditions: the listed tables hold what the program's text lays (the card ties them).
-/
import Derived.Deep.DeepCutAuto
import Derived.Deep.RegionWith
import Derived.Test.YtcnipjmeillfeaaDoorTabs
import Derived.Test.YtcnipjmeillfeaaDoorFdOpen
import Derived.SizedLaws
import Derived.Carry
import Derived.Test.YtcnipjmeillfeaaDoorVrRefNames
import Derived.Test.YtcnipjmeillfeaaDoorVrRefKey
import Derived.Test.YtcnipjmeillfeaaDoorVrSame
import Derived.Test.YtcnipjmeillfeaaDoorVrFew
import Derived.Test.YtcnipjmeillfeaaDoorVrShort
import Derived.Test.YtcnipjmeillfeaaDoorHdStrsU
import Derived.WideKeyPair
namespace Go.Proofs.YtcnipjmeillfeaaDoor.varyTells
open Go.ChangeShapes Go.WideShapes Go.ChangeAt Go.RowKit
open Go.ChangeMaps (open_string shut_string)
set_option linter.unusedVariables false

open Go.Proofs.YtcnipjmeillfeaaDoor.Tk Go.Proofs.YtcnipjmeillfeaaDoor.Fd Go.Proofs.YtcnipjmeillfeaaDoor.Hd Go.Proofs.YtcnipjmeillfeaaDoor.Vr
/-- What Names comes to, in one form. -/
def nmV (fs : List Fl) : List Bs := (namesV fs).getD []
theorem vnames_case {fs : List Fl} {w : World} {e : Ending} {w' : World} (h : VNamesPost fs w e w') :
    Below w.heap.size w w' ∧ ∃ u, e = .returned (.tuple #[u, .bool (namesV fs).isSome]) ∧ w'.ownsRow w.heap.size 9 1 u (nmV fs).length ((nmV fs).map TS) := by
  obtain ⟨hb, ⟨h1, rfl⟩ | ⟨ls, v, h1, rfl, ho⟩⟩ := h
  · exact ⟨hb, _, by rw [h1]; rfl, by unfold nmV; rw [h1]; exact World.ownsRow_nil _ _ _ _⟩
  · exact ⟨hb, v, by rw [h1]; rfl, by unfold nmV; rw [h1]; exact ho⟩
theorem nmV_len (fs : List Fl) : (nmV fs).length ≤ 2 * tot fs + 1 := by
  unfold nmV namesV
  have hg := getT_length fs varyL
  split
  · simp
  · rename_i ns h
    have h1 := names_length h
    split
    · simp
    · have h2 := sort_length ns
      simp; omega
theorem nmV_piece (fs : List Fl) : ∀ x ∈ nmV fs, x.length ≤ 2 * tot fs := by
  unfold nmV namesV
  have hg := getT_length fs varyL
  split
  · simp
  · rename_i ns h
    have h1 := names_piece h
    split
    · simp
    · intro x hx
      have := h1 x ((mem_sort ns x).1 (by simpa using hx))
      omega
theorem list_eq {A C : ByteArray} {a c : Bs} (hA : A = ⟨a.toArray⟩) (hC : C = ⟨c.toArray⟩) : (A.toList == C.toList) = decide (a = c) := by
  rw [ByteArray.toList_eq, ByteArray.toList_eq, hA, hC, Bool.eq_iff_iff, beq_iff_eq, decide_eq_true_iff]
theorem own_addr {w : World} {base : Nat} {a : Option Addr} {n c : Nat} {ls : List Bs} (h : w.ownsRow base 9 1 (.slice a n c) n (ls.map TS)) (h0 : 0 < n) : ∃ g, a = some ⟨g, 0, none⟩ := by
  rcases h.2 with ⟨_, h1⟩ | ⟨g, cap, cur, hv, _⟩
  · omega
  · injection hv with h1 _ _; exact ⟨g, h1⟩
set_option maxHeartbeats 8000000 in
set_option maxRecDepth 100000 in
theorem walk (v0 : Value) (fs0 : List Fl) (v1 : Value) (ls1 : List ByteArray) (v2 : Value) (fs2 : List Fl) (w : World) (hT : Tk.Tab w) (hP : Tb.P10 w) (f0 : Flds w v0 fs0) (l0 : fs0.length ≤ 140737488355328) (z0 : ∀ f ∈ fs0, f.1.size ≤ 140737488355328 ∧ f.2.size ≤ 140737488355328)
    (f1 : Strs w v1 ls1) (l1 : ls1.length ≤ 140737488355328) (z1 : ∀ s ∈ ls1, s.size ≤ 140737488355328) (f2 : Flds w v2 fs2) (l2 : fs2.length ≤ 140737488355328) (z2 : ∀ f ∈ fs2, f.1.size ≤ 140737488355328 ∧ f.2.size ≤ 140737488355328) :
    Calls Tryd.prog 3 #[v0, v1, v2] w fun e w' => e = .returned (.bool true) ∧ Below w.heap.size w w' := by
  have HT := Lib.hid hT
  have HP := Lib.hid hP
  have HF0 := Lib.hid f0
  have HF1 := Lib.hid f1
  have HF2 := Lib.hid f2
  have HC0 := Lib.hid (fewL_any v0 fs0 w f0 l0 z0)
  have HC2 := Lib.hid (fun n => fewL_any v2 fs2 (w.drewN n) (f2.below (Bl.drewN (Below.refl w.heap.size w) n) (Nat.le_refl _)) l2 z2)
  have HC1 := Lib.hid (fun n => short_any v1 ls1 (w.drewN n) (f1.below (Bl.drewN (Below.refl w.heap.size w) n) (Nat.le_refl _)) l1 z1)
  clear hT hP f0 f1 f2 l0 l1 l2 z0 z1 z2
  go_enter Tryd.func3, Tryd.ntmps3
  go_wp2_with fail
  refine HC0.out.mono ?_
  rintro e x1 ⟨rfl, n1, hx1⟩
  cases hf0 : fewL fs0 with
  | false =>
    have HB := Lib.hid (Bl.drewN' (Below.refl w.heap.size w) hx1)
    clear hx1 hf0
    go_wp2_with fail
    go_ret
    exact ⟨rfl, HB.out⟩
  | true =>
  have ht0 := fewL_tot hf0
  clear hf0
  go_wp2_with fail
  refine (HC2.out n1).mono ?_
  rintro e x2 ⟨rfl, n2, hx2⟩
  rw [World.drewN_drewN] at hx2
  cases hf2 : fewL fs2 with
  | false =>
    have HB := Lib.hid (Bl.drewN' (Below.refl w.heap.size w) hx2)
    clear hx1 hx2 hf2
    go_wp2_with fail
    go_ret
    exact ⟨rfl, HB.out⟩
  | true =>
  have ht2 := fewL_tot hf2
  clear hf2 hx1
  go_wp2_with fail
  refine (HC1.out _).mono ?_
  rintro e x3 ⟨rfl, hx3⟩
  cases hf1 : shortL ls1 with
  | false =>
    have HB := Lib.hid (Bl.drewN' (Below.refl w.heap.size w) hx3)
    clear hx2 hx3 hf1
    go_wp2_with fail
    go_ret
    exact ⟨rfl, HB.out⟩
  | true =>
  have HB3 := Lib.hid (Bl.drewN' (Below.refl w.heap.size w) hx3)
  obtain ⟨hn1, hz1⟩ := short_bounds hf1
  have HZ1 := Lib.hid (show ∀ s ∈ ls1, s.size ≤ 1048576 from fun s hs => Nat.le_trans (hz1 s hs) (by decide))
  clear hx2 hx3 hf1 hz1 HC0 HC1 HC2
  go_wp2_with fail
  refine (vnames_any v0 fs0 _ (HF0.out.below HB3.out (Nat.le_refl _)) (by omega) (HT.out.below HB3.out HT.out.lt)).mono ?_
  rintro e x4 hp4
  obtain ⟨hb4, u4, rfl, ho4⟩ := vnames_case hp4
  have HB4 := Lib.hid (HB3.out.trans (hb4.mono HB3.out.size))
  have HO4 := Lib.hid ho4
  obtain ⟨ok, hok⟩ : ∃ ok, ok = (namesV fs0).isSome := ⟨_, rfl⟩
  rw [← hok]
  clear hp4 hb4 ho4
  go_wp2_with fail
  refine (refVNames_any v0 fs0 _ (HF0.out.below HB4.out (Nat.le_refl _)) (by omega)).mono ?_
  rintro e x5 hp5
  obtain ⟨hb5, u5, rfl, ho5⟩ := vnames_case hp5
  have HB5 := Lib.hid (HB4.out.trans (hb5.mono HB4.out.size))
  have HO4' := Lib.hid (Fd.owns_kept HO4.out hb5)
  have HO5 := Lib.hid ho5
  rw [← hok]
  have hll := nmV_len fs0
  have HPC := Lib.hid (nmV_piece fs0)
  obtain ⟨L, hL⟩ : ∃ L, L = nmV fs0 := ⟨_, rfl⟩
  rw [← hL] at HO4' HO5 hll HPC
  clear hp5 hb5 ho5 hok hL HO4
  obtain ⟨a4, c4, hu4⟩ := own_shape HO4'.out
  obtain ⟨a5, c5, hu5⟩ := own_shape HO5.out
  rw [hu4] at HO4'
  rw [hu5] at HO5
  rw [hu4, hu5]
  clear hu4 hu5
  obtain ⟨N, hN⟩ : ∃ N, N = L.length := ⟨_, rfl⟩
  rw [← hN] at HO4' HO5 hll ⊢
  have HN := Lib.hid hN
  clear hN
  obtain ⟨A, hA⟩ : ∃ A : ByteArray, A = ⟨(Vr.keyOf fs0 (nmsL ls1)).toArray⟩ := ⟨_, rfl⟩
  obtain ⟨C, hC⟩ : ∃ C : ByteArray, C = ⟨(Vr.keyOf fs2 (nmsL ls1)).toArray⟩ := ⟨_, rfl⟩
  obtain ⟨B, hB⟩ : ∃ B : Bool, B = sameV fs0 fs2 ls1 := ⟨_, rfl⟩
  have hAC : (A.toList == C.toList) = B := by rw [list_eq hA hC, hB, same_keys]
  have HKA := Lib.hid (show ∀ W, Below w.heap.size w W → Calls Tryd.prog 10 #[v1, v0] W fun e w' => e = .returned (.string A) ∧ Below W.heap.size W w' from fun W h => by
    rw [hA]; exact key_any v1 v0 ls1 fs0 W (HF1.out.below h (Nat.le_refl _)) (HF0.out.below h (Nat.le_refl _)) (by omega) HZ1.out (by omega) (p10_below HP.out h (Nat.le_refl _)))
  have HRA := Lib.hid (show ∀ W, Below w.heap.size w W → Calls Tryd.prog 11 #[v1, v0] W fun e w' => e = .returned (.string A) ∧ Below W.heap.size W w' from fun W h => by
    rw [hA]; exact refKey_any v1 v0 ls1 fs0 W (HF1.out.below h (Nat.le_refl _)) (HF0.out.below h (Nat.le_refl _)) (by omega) HZ1.out (by omega))
  have HRC := Lib.hid (show ∀ W, Below w.heap.size w W → Calls Tryd.prog 11 #[v1, v2] W fun e w' => e = .returned (.string C) ∧ Below W.heap.size W w' from fun W h => by
    rw [hC]; exact refKey_any v1 v2 ls1 fs2 W (HF1.out.below h (Nat.le_refl _)) (HF2.out.below h (Nat.le_refl _)) (by omega) HZ1.out (by omega))
  have HSM := Lib.hid (show ∀ W, Below w.heap.size w W → Calls Tryd.prog 12 #[v1, v0, v2] W fun e w' => e = .returned (.bool B) ∧ Below W.heap.size W w' from fun W h => by
    rw [hB]; exact vsame_any v1 v0 v2 ls1 fs0 fs2 W (HF1.out.below h (Nat.le_refl _)) (HF0.out.below h (Nat.le_refl _)) (HF2.out.below h (Nat.le_refl _)) (by omega) (by omega) HZ1.out (by omega) (p10_below HP.out h (Nat.le_refl _)))
  have HX5 := HO4'
  have HY5 := HO5
  have HPl := Lib.hid (show ∀ W, Below w.heap.size w W → Tb.P10 W from fun W h => p10_below HP.out h (Nat.le_refl _))
  clear hA hC hB HO4' HO5 HF0 HF1 HF2 HZ1 HP HB4 HB3 HT
  go_wp2_with fail
  refine (HKA.out _ HB5.out).mono ?_
  rintro e x6 ⟨rfl, hb6⟩
  have HB6 := Lib.hid (HB5.out.trans (hb6.mono HB5.out.size))
  have HX6 := Lib.hid (Fd.owns_kept HX5.out hb6)
  have HY6 := Lib.hid (Fd.owns_kept HY5.out hb6)
  clear hb6 HX5 HY5 HB5
  go_wp2_with fail
  refine (HRA.out _ HB6.out).mono ?_
  rintro e x7 ⟨rfl, hb7⟩
  have HB7 := Lib.hid (HB6.out.trans (hb7.mono HB6.out.size))
  have HX7 := Lib.hid (Fd.owns_kept HX6.out hb7)
  have HY7 := Lib.hid (Fd.owns_kept HY6.out hb7)
  clear hb7 HX6 HY6 HB6
  go_wp2_with fail
  refine (HSM.out _ HB7.out).mono ?_
  rintro e x8 ⟨rfl, hb8⟩
  have HB8 := Lib.hid (HB7.out.trans (hb8.mono HB7.out.size))
  have HX8 := Lib.hid (Fd.owns_kept HX7.out hb8)
  have HY8 := Lib.hid (Fd.owns_kept HY7.out hb8)
  clear hb8 HX7 HY7 HB7
  go_wp2_with fail
  refine (HRA.out _ HB8.out).mono ?_
  rintro e x9 ⟨rfl, hb9⟩
  have HB9 := Lib.hid (HB8.out.trans (hb9.mono HB8.out.size))
  have HX9 := Lib.hid (Fd.owns_kept HX8.out hb9)
  have HY9 := Lib.hid (Fd.owns_kept HY8.out hb9)
  clear hb9 HX8 HY8 HB8
  go_wp2_with fail
  refine (HRC.out _ HB9.out).mono ?_
  rintro e x10 ⟨rfl, hb10⟩
  have HB10 := Lib.hid (HB9.out.trans (hb10.mono HB9.out.size))
  have HX10 := Lib.hid (Fd.owns_kept HX9.out hb10)
  have HY10 := Lib.hid (Fd.owns_kept HY9.out hb10)
  clear hb10 HX9 HY9 HB9
  go_wp2_with fail
  clear HKA HRA HRC HSM
  have HA1 := Lib.hid (strs_one (new_block x10 (.cells #[.string ⟨#[97]⟩] 9)))
  go_loopw [11] (fun i wr => ∃ k : Nat, k ≤ N ∧ i = .int .i64 (k : Int) ∧ ∃ n, wr = x10.drewN n) (fun i _ => N - (intOf i).toNat)
  case atStart => exact ⟨0, Nat.zero_le _, rfl, 0, rfl⟩
  case round =>
    obtain ⟨k, hk, rfl, n, hw⟩ := hrel
    by_cases hlt2 : k < N
    · have hkl : k < L.length := by have := HN.out; omega
      obtain ⟨g4, rfl⟩ := own_addr HX10.out (by omega)
      obtain ⟨g5, rfl⟩ := own_addr HY10.out (by omega)
      have c1 : wr.cell? ⟨g4, k, none⟩ = some (TS L[k]) := by rw [hw]; exact row_at HX10.out k hlt2 (List.getElem?_eq_getElem hkl)
      have c2 : wr.cell? ⟨g5, k, none⟩ = some (TS L[k]) := by rw [hw]; exact row_at HY10.out k hlt2 (List.getElem?_eq_getElem hkl)
      obtain ⟨z, hz⟩ : ∃ z : ByteArray, z = ⟨L[k].toArray⟩ := ⟨_, rfl⟩
      unfold TS at c1 c2
      rw [← hz] at c1 c2
      have HW := Lib.hid hw
      clear hz hw
      go_wp2_with fail
      go_quiet (fail)
      go_wp2_with fail
      go_roundw
      case rel => exact ⟨k + 1, by omega, by go_num, _, by rw [HW.out, World.drewN_drewN]⟩
      case measure => simp [intOf]; omega
    · have HBw := Lib.hid (Bl.drewN' HB10.out hw)
      clear hw
      have HKa := Lib.hid (key_any (.slice (some ⟨wr.heap.size, 0, none⟩) 1 1) (.slice none 0 0) [⟨#[97]⟩] [] (wr.alloc (.cells #[.string ⟨#[97]⟩] 9)) (strs_one (new_block wr _)) (.inl ⟨rfl, _, _, rfl⟩) (by decide) (fun s hs => by simp at hs; rw [hs]; decide) (by decide) (HPl.out _ (HBw.out.alloc HBw.out.size _)))
      have HKv := Lib.hid (show (⟨(Vr.keyOf [] (nmsL [⟨#[97]⟩])).toArray⟩ : ByteArray) = ⟨#[97, 58, 45, 44]⟩ from by rw [show nmsL [⟨#[97]⟩] = [[97]] from rfl, key_a])
      rw [HKv.out] at HKa
      have HBx := Lib.hid (HBw.out.alloc HBw.out.size (.cells #[.string ⟨#[97]⟩] 9))
      go_wp2_with fail
      refine HKa.out.mono ?_
      rintro e x12 ⟨rfl, hb12⟩
      have HB12 := Lib.hid (HBx.out.trans (hb12.mono HBx.out.size))
      go_wp2_with fail
      go_ret
      exact ⟨rfl, HB12.out⟩

set_option maxHeartbeats 2000000 in
set_option maxRecDepth 100000 in
theorem contract (H : Type) (enc : TypeId × Value → H) (W : World) (base : Nat) (args : Array Value) (ds gs : List (DataW H)) (before : List MemPlace)
    (hval : ∀ (j : Nat) t v, Tryd.f3.params[j]? = some t → args[j]? = some v → Value.okWide Tryd.prog W .any base t v)
    (hW : DataW.Whole enc Tryd.prog Tryd.f3.params.toList Rows.varyTellsSpec.vars false W args.toList ds gs before) (ts : List TypeId) (hsz : (DataW.weightsEach Tryd.prog (Tryd.f3.params.toList ++ ts) (ds ++ gs)).all (· ≤ reachBytes) = true) (hL : laidMetH Tryd.prog Rows.varyTellsRow.laid W) :
    Calls Tryd.prog 3 args W fun e W' => ∃ v, e = .returned v ∧ Rows.varyTellsSpec.post enc Tryd.prog Tryd.f3 false true false false W args v W' := by
  have hW' := hW
  obtain ⟨p, q, hA0, hV, rfl, hfz, hnd⟩ := hW
  have hA : DataW.TrodAll enc Tryd.prog W 0 (fun _ => true) true Tryd.f3.params.toList args.toList ds p := hA0
  rw [Tryd.params3] at hA hval hsz
  obtain ⟨v0, vs0, d0, ds0, p0, q0, hargs, rfl, rfl, h0, r0⟩ := trodAll_cons hA
  obtain ⟨v1, vs1, d1, ds1, p1, q1, rfl, rfl, rfl, h1, r1⟩ := trodAll_cons r0
  obtain ⟨v2, vs2, d2, ds2, p2, q2, rfl, rfl, rfl, h2, r2⟩ := trodAll_cons r1
  obtain ⟨rfl, rfl, rfl⟩ := trodAll_nil r2
  have hw0 : ∀ n ∈ d0.weights Tryd.prog 22, n ≤ reachBytes := fun n hn => by simpa using List.all_eq_true.1 hsz n (DataW.weights_mem_each (j := 0) (t := 22) (d := d0) rfl rfl _ hn)
  have hw1 : ∀ n ∈ d1.weights Tryd.prog 23, n ≤ reachBytes := fun n hn => by simpa using List.all_eq_true.1 hsz n (DataW.weights_mem_each (j := 1) (t := 23) (d := d1) rfl rfl _ hn)
  have hw2 : ∀ n ∈ d2.weights Tryd.prog 22, n ≤ reachBytes := fun n hn => by simpa using List.all_eq_true.1 hsz n (DataW.weights_mem_each (j := 2) (t := 22) (d := d2) rfl rfl _ hn)
  obtain rfl : args = #[v0, v1, v2] := by cases args; simp_all
  obtain ⟨rfl, rfl⟩ := trodVars_none hV
  have k0 := h0
  have lt0 : ∀ x ∈ p0, x.block < W.heap.size := by obtain ⟨m, hm⟩ := k0; exact DataW.trod_lt m _ _ _ hm
  obtain ⟨fs0, f0, l0, z0⟩ := Fd.open_flds (hval 0 22 v0 rfl rfl) h0 hw0
  have k1 := h1
  have lt1 : ∀ x ∈ p1, x.block < W.heap.size := by obtain ⟨m, hm⟩ := k1; exact DataW.trod_lt m _ _ _ hm
  obtain ⟨ls1, f1, l1, z1⟩ := Hd.open_textsU (hval 1 23 v1 rfl rfl) h1 hw1
  have k2 := h2
  have lt2 : ∀ x ∈ p2, x.block < W.heap.size := by obtain ⟨m, hm⟩ := k2; exact DataW.trod_lt m _ _ _ hm
  obtain ⟨fs2, f2, l2, z2⟩ := Fd.open_flds (hval 2 22 v2 rfl rfl) h2 hw2
  clear hA0
  simp only [List.append_nil] at hW'
  refine (walk v0 fs0 v1 ls1 v2 fs2 W (Tb.tok_of_head (Tb.tail (Tb.tail (Tb.tail hL)))) (Tb.p10_of_head (Tb.tail (Tb.tail hL))) f0 l0 z0 f1 l1 z1 f2 l2 z2).mono fun e W' ⟨he, bel⟩ => ?_
  subst he
  exact ⟨_, rfl, _, _, _, [], _, [], hW', trodAll_mk1 (shut_bool Tryd.underlying4 _), (trodAll_cons_mk (Below.trod Tb.laidOut (by kernel_rfl) (of_decide_eq_true (by kernel_rfl)) k0 bel lt0) (trodAll_cons_mk (Below.trod Tb.laidOut (by kernel_rfl) (of_decide_eq_true (by kernel_rfl)) k1 bel lt1) (trodAll_cons_mk (Below.trod Tb.laidOut (by kernel_rfl) (of_decide_eq_true (by kernel_rfl)) k2 bel lt2) trodAll_mk0))), rfl, bel.frame _, fun h => by cases h⟩

theorem laid_met (os : Os) : laidMet Tryd.prog Rows.varyTellsRow.laid ((Tb.laidWorld os).forCall (fun _ _ => 0) ⟨#[], #[.slice none 0 0, .slice none 0 0, .slice none 0 0], []⟩).memory :=
  laidMet_of_run' 8 (by kernel_rfl) (by kernel_rfl)
theorem reads (os : Os) {H : Type} (enc : TypeId × Value → H) : ∃ places, DataW.whole enc Tryd.prog ((Tb.laidWorld os).forCall (fun _ _ => 0) ⟨#[], #[.slice none 0 0, .slice none 0 0, .slice none 0 0], []⟩).memory Tryd.f3.params.toList Rows.varyTellsSpec.vars false (#[.slice none 0 0, .slice none 0 0, .slice none 0 0] : Array Value).toList 8 = some ([.nil, .nil, .nil], [], places) :=
  ⟨[], by kernel_rfl⟩

set_option maxRecDepth 100000 in
theorem lifted (os : Os) (started : os.Started) (H : Type) (enc : TypeId × Value → H) (F : Stop.Interp) :
    ReturnsInHanded {} Tryd.checked os 3 .any ((OpenSpec.ofChange Rows.varyTellsSpec).preRow enc Tryd.prog Tryd.f3 Rows.varyTellsRow.domain false Rows.varyTellsRow.laid) (((OpenSpec.ofChange Rows.varyTellsSpec).at F).post enc Tryd.prog Tryd.f3 false true false false) := by
  obtain ⟨places, hx⟩ := reads os enc
  refine returnsInHanded_of_row (C := Tryd.checked) (s := OpenSpec.ofChange Rows.varyTellsSpec) Tb.own started (by kernel_rfl) Tryd.func3
    (witness_row_at (enc := enc) (C := Tryd.checked) false (Tb.laidWorld os) #[.slice none 0 0, .slice none 0 0, .slice none 0 0] rfl (by kernel_rfl) (by kernel_rfl) (by kernel_rfl)
      (OpenSpec.preRow_of_cond 8 hx (by kernel_rfl) (fun k hk => by cases hk) (by kernel_rfl) (laid_met os))) ?_
  intro W base args ds gs before hval hW _ _ hsz hL _ _
  exact contract H enc W base args ds gs before hval hW _ hsz hL

theorem said : Rows.VaryTellsSaid :=
  OpenClaim.holds_of_cond 3 Tryd.f3 rfl rfl rfl rfl rfl rfl rfl ⟨rfl, rfl, rfl, rfl, rfl⟩ rfl rfl rfl rfl rfl (by kernel_rfl) Tryd.func3 (by kernel_rfl)
    (of_decide_eq_true (by kernel_rfl)) (by unfold Func.isWrapper; first | (rw [if_pos (by decide +kernel)]; kernel_rfl) | (rw [if_neg (by decide +kernel)]; exact ⟨rfl, rfl⟩))
    (fun os started H enc _ F => by rw [OpenClaim.pre_eq_preRow]; exact lifted os started H enc F)

set_option maxRecDepth 100000 in
theorem plain (f : FuncId) (fn : Func) (hf : Tryd.pinned.checked.prog.funcNamed "gatepost/gatepostlaw11.VaryTells" = some f) (hfn : Tryd.pinned.checked.prog.funcs[f]? = some fn) :
    false = Tryd.pinned.checked.prog.looks [] ∧ ∀ (j : Nat) t, fn.params[j]? = some t → Tryd.pinned.checked.prog.wantsStandIn t = false := by
  obtain rfl : f = 3 := Option.some.inj ((show Tryd.prog.funcNamed "gatepost/gatepostlaw11.VaryTells" = some 3 by kernel_rfl).symm.trans hf) |>.symm
  obtain rfl : fn = Tryd.f3 := (Option.some.inj (Tryd.func3.symm.trans hfn)).symm
  refine ⟨by kernel_rfl, fun j t ht => ?_⟩
  rw [Tryd.params3] at ht
  have hm := Array.mem_of_getElem? ht
  simp at hm
  repeat' (rcases hm with hm | hm)
  all_goals
    first
      | exact (show Tryd.prog.wantsStandIn 22 = false by kernel_rfl)
      | exact (show Tryd.prog.wantsStandIn 23 = false by kernel_rfl)

theorem card : Rows.VaryTellsCardSaid :=
  Claim7.holds_tied_plain_at .later [] _ _ _ _ said (fun _ h => by cases h) (by kernel_rfl) (fun _ h => by cases h) varyTells_row_tie rfl ⟨rfl, rfl⟩ (by kernel_rfl) rfl plain (by kernel_rfl)
end Go.Proofs.YtcnipjmeillfeaaDoor.varyTells
