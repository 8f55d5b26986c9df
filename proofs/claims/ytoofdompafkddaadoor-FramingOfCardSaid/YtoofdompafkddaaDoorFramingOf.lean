/-
  FramingOf: any message's body is framed as the document says, or has its error.
  Conditions: the listed tables hold what the program's text lays (the card ties them).
-/
import Derived.Deep.DeepCutAuto
import Derived.Deep.RegionWith
import Derived.Test.YtoofdompafkddaaDoorTabs
import Derived.Test.YtoofdompafkddaaDoorFdOpen
import Derived.SizedLaws
import Derived.Carry
import Derived.Test.YtoofdompafkddaaDoorFrRefOf
import Derived.Test.YtoofdompafkddaaDoorFrFew
import Derived.Test.YtoofdompafkddaaDoorFrOpen
import Derived.WideKeyPair
import Derived.Deep.DeepWitnessRowRef
namespace Go.Proofs.YtoofdompafkddaaDoor.framingOf
open Go.ChangeShapes Go.WideShapes Go.ChangeAt Go.RowKit
open Go.ChangeMaps (open_string shut_string)
set_option linter.unusedVariables false

open Go.Proofs.YtoofdompafkddaaDoor.Fd Go.Proofs.YtoofdompafkddaaDoor.Tk Go.Proofs.YtoofdompafkddaaDoor.Fr

theorem names_any (w : World) : Calls Tryd.prog 31 #[] w fun e w' => e = .returned (.bool true) ∧ w = w' := by
  go_enter Tryd.func31, Tryd.ntmps31
  go_wp2_with fail
  go_ret
  exact ⟨rfl, rfl⟩
theorem one_val : toldVal 1 [(⟨#[99, 111, 110, 116, 101, 110, 116, 45, 108, 101, 110, 103, 116, 104]⟩, ⟨#[55]⟩)] 0 = (1, 7, 0) := by decide +kernel
theorem few_tot {fs : List Fl} (h : fewB fs = true) : tot fs < 4000 := of_decide_eq_true h
theorem TriPost.names {R : Int × Int × Int} {w : World} {e : Ending} {w' : World} (h : TriPost R w e w') : ∃ x y z, R = (x, y, z) ∧ e = .returned (.tuple #[.int .i64 x, .int .i64 y, .int .i64 z]) ∧ Below w.heap.size w w' := ⟨_, _, _, rfl, h⟩
set_option maxHeartbeats 16000000 in
set_option maxRecDepth 100000 in
theorem walk (a0 b0 : ByteArray) (m0 : Int) (u0 : Value) (fs0 : List Fl) (m1 c1 : Int) (r1 : ByteArray) (u1 : Value) (fs1 : List Fl) (k2 : ByteArray) (s2 : k2.size ≤ reachBytes) (w : World) (hT : Tk.Tab w)
    (f0 : Flds w u0 fs0) (l0 : fs0.length ≤ 140737488355328) (z0 : ∀ f ∈ fs0, f.1.size ≤ 140737488355328 ∧ f.2.size ≤ 140737488355328) (f1 : Flds w u1 fs1) (l1 : fs1.length ≤ 140737488355328) (z1 : ∀ f ∈ fs1, f.1.size ≤ 140737488355328 ∧ f.2.size ≤ 140737488355328) :
    Calls Tryd.prog 7 #[.agg #[.string a0, .string b0, .int .i64 m0, u0], .agg #[.int .i64 m1, .int .i64 c1, .string r1, u1], .string k2] w fun e w' => e = .returned (.bool true) ∧ Below w.heap.size w w' := by
  clear s2
  have htl := hT.lt
  obtain ⟨ua, uc, hu⟩ := f0.shape
  obtain ⟨va, vc, hv⟩ := f1.shape
  subst hu hv
  have hb1 := (Below.refl w.heap.size w).alloc (Nat.le_refl _) (.cells #[.string a0, .string b0, .int .i64 m0, .slice ua fs0.length uc] 29)
  have hb2 := hb1.alloc hb1.size (.cells #[.int .i64 m1, .int .i64 c1, .string r1, .slice va fs1.length vc] 31)
  have hs1 : (w.alloc (.cells #[.string a0, .string b0, .int .i64 m0, .slice ua fs0.length uc] 29)).heap.size = w.heap.size + 1 := by simp
  have K1 := (old_block (w.alloc (.cells #[.string a0, .string b0, .int .i64 m0, .slice ua fs0.length uc] 29)) (.cells #[.int .i64 m1, .int .i64 c1, .string r1, .slice va fs1.length vc] 31) (block_lt (new_block w (.cells #[.string a0, .string b0, .int .i64 m0, .slice ua fs0.length uc] 29)))).trans (new_block w (.cells #[.string a0, .string b0, .int .i64 m0, .slice ua fs0.length uc] 29))
  have K2 := new_block (w.alloc (.cells #[.string a0, .string b0, .int .i64 m0, .slice ua fs0.length uc] 29)) (.cells #[.int .i64 m1, .int .i64 c1, .string r1, .slice va fs1.length vc] 31)
  rw [hs1] at K2
  obtain ⟨x0, hx0⟩ : ∃ x0, x0 = (w.alloc (.cells #[.string a0, .string b0, .int .i64 m0, .slice ua fs0.length uc] 29)).alloc (.cells #[.int .i64 m1, .int .i64 c1, .string r1, .slice va fs1.length vc] 31) := ⟨_, rfl⟩
  rw [← hx0] at K1 K2 hb2
  have HB0 := Lib.hid hb2
  have HK1 := Lib.hid K1
  have HK2 := Lib.hid K2
  have HF0 := Lib.hid f0
  have HF1 := Lib.hid f1
  have HT := Lib.hid hT
  have HX0 := Lib.hid hx0
  have HZ0 := Lib.hid z0
  have HZ1 := Lib.hid z1
  have hsz : w.heap.size ≤ x0.heap.size := hb2.size
  clear hb1 hs1 K1 K2 hx0 f0 f1 hT z0 z1 hb2
  go_enter Tryd.func7, Tryd.ntmps7
  go_upto_region 1 with fail
  rw [← HX0.out]
  clear HX0
  obtain ⟨p0, p1, p2, p3⟩ := four_cells HK1.out
  obtain ⟨q0, q1, q2, q3⟩ := four_cells HK2.out
  go_wp2_with fail
  refine (few_any _ fs0 x0 (HF0.out.below HB0.out (Nat.le_refl _)) l0 HZ0.out).mono ?_
  rintro e x1 ⟨rfl, n1, hx1⟩
  have hb01 : Below x0.heap.size x0 x1 := by rw [hx1]; exact Bl.drewN (Below.refl _ _) n1
  have HB1 := Lib.hid (HB0.out.trans (hb01.mono hsz))
  have HK11 := Lib.hid (Bl.old hb01 (block_lt HK1.out) HK1.out)
  have HK21 := Lib.hid (Bl.old hb01 (block_lt HK2.out) HK2.out)
  have hsz1 : w.heap.size ≤ x1.heap.size := HB1.out.size
  clear p0 p1 p2 p3 q0 q1 q2 q3 hx1 hb01 HB0 HK1 HK2
  obtain ⟨p0, p1, p2, p3⟩ := four_cells HK11.out
  obtain ⟨q0, q1, q2, q3⟩ := four_cells HK21.out
  obtain ⟨B0, hB0⟩ : ∃ B0, B0 = fewB fs0 := ⟨_, rfl⟩
  obtain ⟨B1, hB1⟩ : ∃ B1, B1 = fewB fs1 := ⟨_, rfl⟩
  rw [← hB0]
  have HE0 := Lib.hid hB0
  have HE1 := Lib.hid hB1
  clear hB0 hB1
  cases B0 with
  | false =>
    go_wp2_with fail
    go_ret
    exact ⟨rfl, HB1.out⟩
  | true =>
    have ht0 : tot fs0 < 4000 := few_tot HE0.out.symm
    go_wp2_with fail
    refine (few_any _ fs1 x1 (HF1.out.below HB1.out (Nat.le_refl _)) l1 HZ1.out).mono ?_
    rintro e x2 ⟨rfl, n2, hx2⟩
    rw [← HE1.out]
    have hb12 : Below x1.heap.size x1 x2 := by rw [hx2]; exact Bl.drewN (Below.refl _ _) n2
    have HB2 := Lib.hid (HB1.out.trans (hb12.mono hsz1))
    have HK12 := Lib.hid (Bl.old hb12 (block_lt HK11.out) HK11.out)
    have HK22 := Lib.hid (Bl.old hb12 (block_lt HK21.out) HK21.out)
    have hsz2 : w.heap.size ≤ x2.heap.size := HB2.out.size
    clear p0 p1 p2 p3 q0 q1 q2 q3 hx2 hb12 HB1 HK11 HK21
    obtain ⟨p0, p1, p2, p3⟩ := four_cells HK12.out
    obtain ⟨q0, q1, q2, q3⟩ := four_cells HK22.out
    cases B1 with
    | false =>
      go_wp2_with fail
      go_ret
      exact ⟨rfl, HB2.out⟩
    | true =>
      have ht1 : tot fs1 < 4000 := few_tot HE1.out.symm
      obtain ⟨A0, hA0⟩ : ∃ A0, A0 = toldVal m0 fs0 0 := ⟨_, rfl⟩
      obtain ⟨A1, hA1⟩ : ∃ A1, A1 = resVal m1 c1 fs1 k2 := ⟨_, rfl⟩
      have HA0 := Lib.hid hA0
      have HA1 := Lib.hid hA1
      clear hA0 hA1
      obtain ⟨i0, j0, t0⟩ := A0
      obtain ⟨i1, j1, t1⟩ := A1
      go_wp2_with fail
      refine (ofRequest_any a0 b0 m0 _ fs0 x2 (HF0.out.below HB2.out (Nat.le_refl _)) (by omega) (HT.out.below HB2.out htl)).mono ?_
      intro e x3 hp
      rw [← HA0.out] at hp
      obtain ⟨rfl, hb⟩ := hp
      have HB3 := Lib.hid (HB2.out.trans (hb.mono hsz2))
      have HK13 := Lib.hid (Bl.old hb (block_lt HK12.out) HK12.out)
      have HK23 := Lib.hid (Bl.old hb (block_lt HK22.out) HK22.out)
      have hsz3 : w.heap.size ≤ x3.heap.size := HB3.out.size
      clear p0 p1 p2 p3 q0 q1 q2 q3 hb HB2 HK12 HK22
      obtain ⟨p0, p1, p2, p3⟩ := four_cells HK13.out
      obtain ⟨q0, q1, q2, q3⟩ := four_cells HK23.out
      go_wp2_with fail
      refine (rofRequest_any a0 b0 m0 _ fs0 x3 (HF0.out.below HB3.out (Nat.le_refl _)) (by omega)).mono ?_
      intro e x4 hp
      rw [← HA0.out] at hp
      obtain ⟨rfl, hb⟩ := hp
      have HB4 := Lib.hid (HB3.out.trans (hb.mono hsz3))
      have HK14 := Lib.hid (Bl.old hb (block_lt HK13.out) HK13.out)
      have HK24 := Lib.hid (Bl.old hb (block_lt HK23.out) HK23.out)
      have hsz4 : w.heap.size ≤ x4.heap.size := HB4.out.size
      clear p0 p1 p2 p3 q0 q1 q2 q3 hb HB3 HK13 HK23
      obtain ⟨p0, p1, p2, p3⟩ := four_cells HK14.out
      obtain ⟨q0, q1, q2, q3⟩ := four_cells HK24.out
      go_wp2_with fail
      refine (ofResponse_any m1 c1 r1 _ fs1 k2 x4 (HF1.out.below HB4.out (Nat.le_refl _)) (by omega) (HT.out.below HB4.out htl)).mono ?_
      intro e x5 hp
      rw [← HA1.out] at hp
      obtain ⟨rfl, hb⟩ := hp
      have HB5 := Lib.hid (HB4.out.trans (hb.mono hsz4))
      have HK15 := Lib.hid (Bl.old hb (block_lt HK14.out) HK14.out)
      have HK25 := Lib.hid (Bl.old hb (block_lt HK24.out) HK24.out)
      have hsz5 : w.heap.size ≤ x5.heap.size := HB5.out.size
      clear p0 p1 p2 p3 q0 q1 q2 q3 hb HB4 HK14 HK24
      obtain ⟨p0, p1, p2, p3⟩ := four_cells HK15.out
      obtain ⟨q0, q1, q2, q3⟩ := four_cells HK25.out
      go_wp2_with fail
      refine (rofResponse_any m1 c1 r1 _ fs1 k2 x5 (HF1.out.below HB5.out (Nat.le_refl _)) (by omega)).mono ?_
      intro e x6 hp
      rw [← HA1.out] at hp
      obtain ⟨rfl, hb⟩ := hp
      have HB6 := Lib.hid (HB5.out.trans (hb.mono hsz5))
      have HK16 := Lib.hid (Bl.old hb (block_lt HK15.out) HK15.out)
      have HK26 := Lib.hid (Bl.old hb (block_lt HK25.out) HK25.out)
      have hsz6 : w.heap.size ≤ x6.heap.size := HB6.out.size
      clear p0 p1 p2 p3 q0 q1 q2 q3 hb HB5 HK15 HK25
      obtain ⟨p0, p1, p2, p3⟩ := four_cells HK16.out
      obtain ⟨q0, q1, q2, q3⟩ := four_cells HK26.out
      have HFL := Lib.hid (flds_one (new_block x6 (.cells #[.string ⟨#[99, 111, 110, 116, 101, 110, 116, 45, 108, 101, 110, 103, 116, 104]⟩, .string ⟨#[55]⟩] 56)))
      have HBA := Lib.hid ((Below.refl x6.heap.size x6).alloc (Nat.le_refl _) (.cells #[.string ⟨#[99, 111, 110, 116, 101, 110, 116, 45, 108, 101, 110, 103, 116, 104]⟩, .string ⟨#[55]⟩] 56))
      have HB7 := Lib.hid (HB6.out.trans (HBA.out.mono hsz6))
      clear p0 p1 p2 p3 q0 q1 q2 q3
      go_wp2_with fail
      refine (ofRequest_any ⟨#[]⟩ ⟨#[]⟩ 1 _ _ _ HFL.out (by decide +kernel) (HT.out.below HB7.out htl)).mono ?_
      intro e x7 hp
      rw [one_val] at hp
      obtain ⟨rfl, hb⟩ := hp
      have hsa : w.heap.size ≤ (x6.alloc (.cells #[.string ⟨#[99, 111, 110, 116, 101, 110, 116, 45, 108, 101, 110, 103, 116, 104]⟩, .string ⟨#[55]⟩] 56)).heap.size := HB7.out.size
      have HB8 := Lib.hid (HB7.out.trans (hb.mono hsa))
      have e1 : (i0 == i0) = true := by simp
      have e2 : (j0 == j0) = true := by simp
      have e3 : (t0 == t0) = true := by simp
      have e4 : (i1 == i1) = true := by simp
      have e5 : (j1 == j1) = true := by simp
      have e6 : (t1 == t1) = true := by simp
      have e7 : ((1 : Int) == 1) = true := by decide
      have e8 : ((7 : Int) == 7) = true := by decide
      clear hb hsa
      go_wp2_with fail
      refine (names_any x7).mono ?_
      rintro e x8 ⟨rfl, rfl⟩
      go_wp2_with fail
      go_ret
      exact ⟨rfl, HB8.out⟩

set_option maxHeartbeats 2000000 in
set_option maxRecDepth 100000 in
theorem contract (H : Type) (enc : TypeId × Value → H) (W : World) (base : Nat) (args : Array Value) (ds gs : List (DataW H)) (before : List MemPlace)
    (hval : ∀ (j : Nat) t v, Tryd.f7.params[j]? = some t → args[j]? = some v → Value.okWide Tryd.prog W .any base t v)
    (hW : DataW.Whole enc Tryd.prog Tryd.f7.params.toList Rows.framingOfSpec.vars false W args.toList ds gs before) (ts : List TypeId) (hsz : (DataW.weightsEach Tryd.prog (Tryd.f7.params.toList ++ ts) (ds ++ gs)).all (· ≤ reachBytes) = true) (hL : laidMetH Tryd.prog Rows.framingOfRow.laid W) :
    Calls Tryd.prog 7 args W fun e W' => ∃ v, e = .returned v ∧ Rows.framingOfSpec.post enc Tryd.prog Tryd.f7 false true false false W args v W' := by
  have hW' := hW
  obtain ⟨p, q, hA0, hV, rfl, hfz, hnd⟩ := hW
  have hA : DataW.TrodAll enc Tryd.prog W 0 (fun _ => true) true Tryd.f7.params.toList args.toList ds p := hA0
  rw [Tryd.params7] at hA hval hsz
  obtain ⟨v0, vs0, d0, ds0, p0, q0, hargs, rfl, rfl, h0, r0⟩ := trodAll_cons hA
  obtain ⟨v1, vs1, d1, ds1, p1, q1, rfl, rfl, rfl, h1, r1⟩ := trodAll_cons r0
  obtain ⟨v2, vs2, d2, ds2, p2, q2, rfl, rfl, rfl, h2, r2⟩ := trodAll_cons r1
  obtain ⟨rfl, rfl, rfl⟩ := trodAll_nil r2
  have hw0 : ∀ n ∈ d0.weights Tryd.prog 29, n ≤ reachBytes := fun n hn => by simpa using List.all_eq_true.1 hsz n (DataW.weights_mem_each (j := 0) (t := 29) (d := d0) rfl rfl _ hn)
  have hw1 : ∀ n ∈ d1.weights Tryd.prog 31, n ≤ reachBytes := fun n hn => by simpa using List.all_eq_true.1 hsz n (DataW.weights_mem_each (j := 1) (t := 31) (d := d1) rfl rfl _ hn)
  have hw2 : ∀ n ∈ d2.weights Tryd.prog 9, n ≤ reachBytes := fun n hn => by simpa using List.all_eq_true.1 hsz n (DataW.weights_mem_each (j := 2) (t := 9) (d := d2) rfl rfl _ hn)
  obtain rfl : args = #[v0, v1, v2] := by cases args; simp_all
  obtain ⟨rfl, rfl⟩ := trodVars_none hV
  have k0 := h0
  have lt0 : ∀ x ∈ p0, x.block < W.heap.size := by obtain ⟨m, hm⟩ := k0; exact DataW.trod_lt m _ _ _ hm
  obtain ⟨a0, b0, mm0, u0, fs0, rfl, f0, l0, z0⟩ := Fd.open_req (hval 0 29 v0 rfl rfl) h0 hw0
  have k1 := h1
  have lt1 : ∀ x ∈ p1, x.block < W.heap.size := by obtain ⟨m, hm⟩ := k1; exact DataW.trod_lt m _ _ _ hm
  obtain ⟨mm1, cc1, tx1, u1, fs1, rfl, f1, l1, z1⟩ := Fd.open_res (hval 1 31 v1 rfl rfl) h1 hw1
  obtain ⟨a2, rfl, rfl, rfl, w2⟩ := open_string Tryd.underlying9 (hval 2 9 v2 rfl rfl) h2
  have s2 : a2.size ≤ reachBytes := by simpa [DataW.weights] using hw2
  clear hA0
  simp only [List.append_nil] at hW'
  refine (walk a0 b0 mm0 u0 fs0 mm1 cc1 tx1 u1 fs1 a2 s2 W (Tb.tok_of_head hL) f0 l0 z0 f1 l1 z1).mono fun e W' ⟨he, bel⟩ => ?_
  subst he
  exact ⟨_, rfl, _, _, _, [], _, [], hW', trodAll_mk1 (shut_bool Tryd.underlying4 _), (trodAll_cons_mk (Below.trod Tb.laidOut (by kernel_rfl) (of_decide_eq_true (by kernel_rfl)) k0 bel lt0) (trodAll_cons_mk (Below.trod Tb.laidOut (by kernel_rfl) (of_decide_eq_true (by kernel_rfl)) k1 bel lt1) (trodAll_cons_mk (shut_string Tryd.underlying9 w2) trodAll_mk0))), rfl, bel.frame _, fun h => by cases h⟩

theorem laid_met (os : Os) : laidMet Tryd.prog Rows.framingOfRow.laid ((Tb.laidWorld os).forCall (fun _ _ => 0) ⟨#[], #[.agg #[.string ByteArray.empty, .string ByteArray.empty, .int .i64 0, .slice none 0 0], .agg #[.int .i64 0, .int .i64 0, .string ByteArray.empty, .slice none 0 0], .string ByteArray.empty], []⟩).memory :=
  laidMet_of_run' 8 (by kernel_rfl) (by kernel_rfl)
theorem reads (os : Os) {H : Type} (enc : TypeId × Value → H) : ∃ places, DataW.whole enc Tryd.prog ((Tb.laidWorld os).forCall (fun _ _ => 0) ⟨#[], #[.agg #[.string ByteArray.empty, .string ByteArray.empty, .int .i64 0, .slice none 0 0], .agg #[.int .i64 0, .int .i64 0, .string ByteArray.empty, .slice none 0 0], .string ByteArray.empty], []⟩).memory Tryd.f7.params.toList Rows.framingOfSpec.vars false (#[.agg #[.string ByteArray.empty, .string ByteArray.empty, .int .i64 0, .slice none 0 0], .agg #[.int .i64 0, .int .i64 0, .string ByteArray.empty, .slice none 0 0], .string ByteArray.empty] : Array Value).toList 8 = some ([.agg [.lit (.string []), .lit (.string []), .lit (.int .i64 0), .nil], .agg [.lit (.int .i64 0), .lit (.int .i64 0), .lit (.string []), .nil], .lit (.string [])], [], places) :=
  ⟨[], by kernel_rfl⟩

set_option maxRecDepth 100000 in
theorem lifted (os : Os) (started : os.Started) (H : Type) (enc : TypeId × Value → H) (F : Stop.Interp) :
    ReturnsInHanded {} Tryd.checked os 7 .any ((OpenSpec.ofChange Rows.framingOfSpec).preRow enc Tryd.prog Tryd.f7 Rows.framingOfRow.domain false Rows.framingOfRow.laid) (((OpenSpec.ofChange Rows.framingOfSpec).at F).post enc Tryd.prog Tryd.f7 false true false false) := by
  obtain ⟨places, hx⟩ := reads os enc
  refine returnsInHanded_of_row (C := Tryd.checked) (s := OpenSpec.ofChange Rows.framingOfSpec) Tb.own started (by kernel_rfl) Tryd.func7
    (witness_row_atRef (enc := enc) (C := Tryd.checked) false (Tb.laidWorld os) #[.agg #[.string ByteArray.empty, .string ByteArray.empty, .int .i64 0, .slice none 0 0], .agg #[.int .i64 0, .int .i64 0, .string ByteArray.empty, .slice none 0 0], .string ByteArray.empty] rfl (by kernel_rfl) (by kernel_rfl) (by kernel_rfl)
      (OpenSpec.preRow_of_cond 8 hx (by kernel_rfl) (fun k hk => by cases hk) (by kernel_rfl) (laid_met os))) ?_
  intro W base args ds gs before hval hW _ _ hsz hL _ _
  exact contract H enc W base args ds gs before hval hW _ hsz hL

theorem said : Rows.FramingOfSaid :=
  OpenClaim.holds_of_cond 7 Tryd.f7 rfl rfl rfl rfl rfl rfl rfl ⟨rfl, rfl, rfl, rfl, rfl⟩ rfl rfl rfl rfl rfl (by kernel_rfl) Tryd.func7 (by kernel_rfl)
    (of_decide_eq_true (by kernel_rfl)) (by unfold Func.isWrapper; first | (rw [if_pos (by decide +kernel)]; kernel_rfl) | (rw [if_neg (by decide +kernel)]; exact ⟨rfl, rfl⟩))
    (fun os started H enc _ F => by rw [OpenClaim.pre_eq_preRow]; exact lifted os started H enc F)

set_option maxRecDepth 100000 in
theorem plain (f : FuncId) (fn : Func) (hf : Tryd.pinned.checked.prog.funcNamed "gatepost/gatepostlaw06.FramingOf" = some f) (hfn : Tryd.pinned.checked.prog.funcs[f]? = some fn) :
    true = Tryd.pinned.checked.prog.looks [] ∧ ∀ (j : Nat) t, fn.params[j]? = some t → Tryd.pinned.checked.prog.wantsStandIn t = false := by
  obtain rfl : f = 7 := Option.some.inj ((show Tryd.prog.funcNamed "gatepost/gatepostlaw06.FramingOf" = some 7 by kernel_rfl).symm.trans hf) |>.symm
  obtain rfl : fn = Tryd.f7 := (Option.some.inj (Tryd.func7.symm.trans hfn)).symm
  refine ⟨by kernel_rfl, fun j t ht => ?_⟩
  rw [Tryd.params7] at ht
  have hm := Array.mem_of_getElem? ht
  simp at hm
  rcases hm with rfl | rfl | rfl
  · exact (show Tryd.prog.wantsStandIn 29 = false by kernel_rfl)
  · exact (show Tryd.prog.wantsStandIn 31 = false by kernel_rfl)
  · exact (show Tryd.prog.wantsStandIn 9 = false by kernel_rfl)

theorem card : Rows.FramingOfCardSaid :=
  Claim7.holds_tied_plain_at .later [] _ _ _ _ said (fun _ h => by cases h) (by kernel_rfl) (fun _ h => by cases h) framingOf_row_tie rfl ⟨rfl, rfl⟩ (by kernel_rfl) rfl plain (by kernel_rfl)
end Go.Proofs.YtoofdompafkddaaDoor.framingOf
