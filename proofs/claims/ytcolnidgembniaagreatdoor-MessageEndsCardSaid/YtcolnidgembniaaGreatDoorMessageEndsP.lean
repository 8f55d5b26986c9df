/-
  MessageEnds: a response whose length nothing tells has all bytes up to the end. Conditions: the card's.
  Conditions: the listed tables hold what the program's text lays (the card ties them).
-/
import Derived.Deep.DeepCutAuto
import Derived.Deep.RegionWith
import Derived.Test.YtcolnidgembniaaGreatDoorMsAllP5
import Derived.SizedLaws
import Derived.Carry
import Derived.Test.YtcolnidgembniaaGreatDoorMsAllP14
import Derived.Test.YtcolnidgembniaaGreatDoorMsAllP13
import Derived.Test.YtcolnidgembniaaGreatDoorMsAllP6
import Derived.WideKeyPair
import Derived.Deep.DeepWitnessRowRef
namespace Go.Proofs.YtcolnidgembniaaGreatDoor.messageEnds
open Go.ChangeShapes Go.WideShapes Go.ChangeAt Go.RowKit
open Go.ChangeMaps (open_string shut_string)
set_option linter.unusedVariables false

open Go.Proofs.YtcolnidgembniaaGreatDoor.Fr Go.Proofs.YtcolnidgembniaaGreatDoor.Hd Go.Proofs.YtcolnidgembniaaGreatDoor.Fd Go.Proofs.YtcolnidgembniaaGreatDoor.Tk Go.Proofs.YtcolnidgembniaaGreatDoor.Ms
set_option linter.unusedVariables false

theorem conv_digit (k : Nat) (hk : k ≤ 1) (d : UInt8) (hd : d = UInt8.ofNat (48 + k)) (W : World) : (convert 22 9 (.slice (some ⟨W.heap.size, 0, none⟩) 1 1)).run Tryz.prog (W.alloc (.cells #[.int .u8 (48 + (k : Int))] 5)) = .ok (.string ⟨#[d]⟩) (W.alloc (.cells #[.int .u8 (48 + (k : Int))] 5)) := by
  subst hd
  exact Tk.run_back (P := Tryz.prog) _ 22 9 5 W.heap.size 0 1 [UInt8.ofNat (48 + k)] Tryz.underlying22 Tryz.underlying5 Tryz.underlying9 (fun j hj => by
    have : j = 0 := by simpa using hj
    subst this
    have h := cell_of_one (new_block W (.cells #[.int .u8 (48 + (k : Int))] 5))
    rw [h]
    have e : (([UInt8.ofNat (48 + k)][0]'hj).toNat : Int) = 48 + (k : Int) := by
      show (((UInt8.ofNat (48 + k)).toNat : Nat) : Int) = _
      rw [UInt8.toNat_ofNat']; omega
    rw [e])
theorem conv_byts {w : World} {v : Value} {l : Bs} (h : Byts w v l) : (convert 22 9 v).run Tryz.prog w = .ok (.string ⟨l.toArray⟩) w := by
  rcases h with ⟨rfl, a, c, rfl⟩ | ⟨g, off, cap, rfl, _, _, _, h⟩
  · cases a with
    | none => exact run_convert_bytes_nil w 22 5 Tryz.underlying22 Tryz.underlying5 0 c 9 Tryz.underlying9
    | some a =>
      exact run_convert_bytes_back w 22 9 5 a c [] Tryz.underlying22 Tryz.underlying5 Tryz.underlying9 (fun j hj => by simp at hj)
  · exact Tk.run_back (P := Tryz.prog) w 22 9 5 g off cap l Tryz.underlying22 Tryz.underlying5 Tryz.underlying9 h
theorem digit_of (r : Nat) (h : r ≤ 1) : Digit (UInt8.ofNat (48 + r)) (r : Int) := by
  have : r = 0 ∨ r = 1 := by omega
  rcases this with rfl | rfl
  · exact .inl ⟨by decide, rfl⟩
  · exact .inr ⟨by decide, rfl⟩
theorem line_text (d : UInt8) : ∃ S : ByteArray, (⟨#[72, 84, 84, 80, 47, 49, 46]⟩ : ByteArray) ++ ⟨#[d]⟩ ++ ⟨#[32, 50, 48, 48, 32, 79, 75, 10, 10]⟩ = S ∧ S.data.toList = okS d ∧ S.size = 17 := by
  refine ⟨_, rfl, ?_, ?_⟩
  · simp [okS, okL]
  · rw [ByteArray.size_append, ByteArray.size_append]; rfl
set_option maxHeartbeats 16000000 in
set_option maxRecDepth 100000 in
theorem walk (v0 : Value) (l0 : Bs) (a1 : Int) (w1 : (Lit.int .i64 a1).wf = true) (w : World) (hT : Tk.Tab w) (hE : Fr.ErrV w) (f0 : Byts w v0 l0) (l0l : l0.length ≤ maxLen) :
    Calls Tryz.prog 4 #[v0, .int .i64 a1] w fun e w' => e = .returned (.bool true) ∧ Below w.heap.size w w' := by
  have HT := Lib.hid hT
  have HE := Lib.hid hE
  obtain ⟨va, vc, hv0⟩ := f0.shape
  have HF0 := Lib.hid f0
  unfold maxLen at l0l
  subst hv0
  obtain ⟨r, hr, hr1⟩ := mask_nat a1 1 (by omega)
  have hr' : bits .and .i64 a1 1 = (r : Int) := hr
  obtain ⟨d, hd⟩ : ∃ d, d = UInt8.ofNat (48 + r) := ⟨_, rfl⟩
  obtain ⟨S, hS, hSL, hS17⟩ := line_text d
  have HS := Lib.hid hS
  have HSL := Lib.hid hSL
  have HDg := Lib.hid (show Digit d (r : Int) from by rw [hd]; exact digit_of r hr1)
  have HD := Lib.hid hd
  clear hT hE f0 w1 hr hS hSL hd
  go_enter Tryz.func4, Tryz.ntmps4
  go_upto_if 21 with fail
  go_cut [0] (fun s0 wx => ∃ (b : Bs) (wa : Option Addr) (WC : Nat), s0 = .slice wa b.length WC ∧ b.length ≤ 2000 ∧ Byts w (.slice wa b.length WC) b ∧ w = wx)
  case first =>
    by_cases h9 : 2000 < l0.length
    · rcases HF0.out with ⟨h0, _⟩ | ⟨B, off, cap, hv, hcap, hcm, hB, hh⟩
      · rw [h0] at h9; simp at h9
      injection hv with e1 _ e3
      subst e1 e3
      have HB0 := Lib.hid (byts_cut (k := 0) (d := 2000) HF0.out hB hcap hcm (by omega))
      have HL := Lib.hid (show ((l0.drop 0).take 2000).length = 2000 from by rw [List.length_take, List.length_drop]; omega)
      unfold maxLen at hcm
      go_wp2_with fail
      go_meet
      refine ⟨(l0.drop 0).take 2000, some ⟨B, off, none⟩, vc, by rw [HL.out], by rw [HL.out]; omega, by rw [HL.out]; exact HB0.out, rfl⟩
    · go_wp2_with fail
      go_meet
      exact ⟨l0, _, _, rfl, by omega, HF0.out, rfl⟩
  case rest =>
    obtain ⟨b, wa, WC, rfl, hb9, hy, rfl⟩ := hcut
    have HY := Lib.hid hy
    clear hy HF0 l0l
    have hcd := conv_digit r hr1 d HD.out w
    go_upto_region 4 with fail
    rw [HS.out]
    obtain ⟨y, hy⟩ : ∃ y, y = w.alloc (.cells #[.int .u8 (48 + (r : Int))] 5) := ⟨_, rfl⟩
    rw [← hy]
    have hby : Below w.heap.size w y := by rw [hy]; exact (Below.refl _ _).alloc (Nat.le_refl _) _
    have hsy := hby.size
    obtain ⟨C, hC⟩ : ∃ C, C = grownCap y 17 0 5 := ⟨_, rfl⟩
    have hC17 : 17 ≤ C := by rw [hC]; exact grownCap_ge _ _ _ _
    have hCm : C ≤ maxLen := by rw [hC]; exact grownCap_le_maxLen _ _ _ _ (by unfold maxLen; omega)
    obtain ⟨y2, hy2⟩ : ∃ y2, y2 = y.drew.alloc (.cells (bytesRow S C) 5 ((bytesRow S C).size, (bytesRow S C).size + 1)) := ⟨_, rfl⟩
    have hconv : (convert 9 22 (.string S)).run Tryz.prog y = .ok (.slice (some ⟨y.heap.size, 0, none⟩) 17 C) y2 := by
      have h := run_bytes y S
      rw [hS17, ← hC, ← hy2] at h
      exact h
    have hby2 : Below y.heap.size y y2 := by rw [hy2]; exact ((Below.refl _ _).drew).alloc (Nat.le_refl _) _
    have HOW := Lib.hid (show Own y2 y.heap.size (.slice (some ⟨y.heap.size, 0, none⟩) 17 C) (okS d) from by
      have h := Ms.own_bytes y S C (by omega) hCm
      rw [HSL.out, ← hy2] at h
      exact h)
    have HB2 := Lib.hid (hby.trans (hby2.mono hsy))
    have hs2 := hby2.size
    have hsz : y.heap.size ≤ y2.heap.size := hs2
    have HSR := Lib.hid (src_byts (HY.out.below HB2.out (Nat.le_refl _)))
    clear hcd hy hC hy2 hby hby2
    go_upto_region 5 with (at_builtin; refine wpList_append_any _ rfl _ _ 22 rfl y.heap.size _ _ (okS d) b rfl rfl hsz HOW.out HSR.out (by have := ok_length d; omega) ?_; intro v5 x5 hp5; obtain ⟨ho5, hc5, _⟩ := hp5; obtain ⟨a5, c5, hv5⟩ := ho5.form; have hl5 : (okS d ++ b).length = 17 + b.length := (by rw [List.length_append]; rfl); rw [hl5] at hv5; subst hv5; have HO5 := Lib.hid ho5; have HB5 := Lib.hid (HB2.out.trans (hc5.below (B := w.heap.size) (fun k hk => by injection hk with hk; have hk' : y.heap.size = k := hk; omega) (by omega))); clear ho5 hc5 hl5)
    clear hconv hsz hC17 hCm
    obtain ⟨x, hx⟩ : ∃ x, x = okS d ++ b := ⟨_, rfl⟩
    rw [← hx] at HO5
    have HA := Lib.hid (fun (z : World) (k : ByteArray) (fin : Bool) (hz : Below x5.heap.size x5 z) => (show Calls Tryz.prog 7 #[.slice a5 (17 + b.length) c5, .string k, .bool fin] z (ResMsg (msgOf true (resT k) x fin) z) from
      readResponse_any _ x k fin z (HO5.out.byts.below hz (Nat.le_refl _)) (by rw [hx, List.length_append]; have := ok_length d; omega) (HT.out.below (HB5.out.trans (hz.mono HB5.out.size)) HT.out.lt) (HE.out.below (HB5.out.trans (hz.mono HB5.out.size)))))
    have HM1 := Lib.hid (show msgOf true (resT getK) x false = failed 11 from by rw [hx]; exact ok_open HDg.out b (by omega))
    have HM2 := Lib.hid (show msgOf true (resT getK) x true = ⟨0, okP r, [], b, 17 + b.length⟩ from by rw [hx]; exact ok_whole HDg.out b (by omega))
    have HM3 := Lib.hid (show msgOf true (resT headK) x false = ⟨0, okP r, [], [], 17⟩ from by rw [hx]; exact ok_none HDg.out b)
    have hs5 := HB5.out.size
    clear hx
    go_wp2_with fail
    refine (HA.out x5 getK false (Below.refl _ _)).mono ?_
    rintro e y1 ⟨p1, xa1, xc1, he, hf1, _, ho1, hb1⟩
    rw [HM1.out] at he hf1 ho1
    have he' : e = .returned (.tuple #[.agg #[.int .i64 0, .int .i64 0, .string ⟨#[]⟩, p1], .slice xa1 0 xc1, .int .i64 0, .int .i64 11]) := he
    subst he'
    obtain ⟨pa1, pc1, hp1⟩ := OwnF.form hf1
    have hp1' : p1 = .slice pa1 0 pc1 := hp1
    subst hp1'
    obtain ⟨z1, hz1⟩ : ∃ z1, z1 = y1.alloc (.cells #[.int .i64 0, .int .i64 0, .string ⟨#[]⟩, .slice pa1 0 pc1] 32) := ⟨_, rfl⟩
    have hy1 : Below y1.heap.size y1 z1 := by rw [hz1]; exact (Below.refl _ _).alloc (Nat.le_refl _) _
    have HZ1 := Lib.hid hz1
    have HW1 := Lib.hid (hb1.trans (hy1.mono hb1.size))
    clear he hf1 ho1 hb1 hz1 hy1 hp1
    go_wp2_with fail
    rw [← HZ1.out]
    refine (HA.out z1 getK true HW1.out).mono ?_
    rintro e y2' ⟨p2, xa2, xc2, he, hf2, _, ho2, hb2⟩
    rw [HM2.out] at he hf2 ho2
    have he' : e = .returned (.tuple #[.agg #[.int .i64 (r : Int), .int .i64 200, .string ⟨#[79, 75]⟩, p2], .slice xa2 b.length xc2, .int .i64 ((17 + b.length : Nat) : Int), .int .i64 0]) := he
    subst he'
    obtain ⟨pa2, pc2, hp2⟩ := OwnF.form hf2
    have hp2' : p2 = .slice pa2 0 pc2 := hp2
    subst hp2'
    obtain ⟨z2, hz2⟩ : ∃ z2, z2 = y2'.alloc (.cells #[.int .i64 (r : Int), .int .i64 200, .string ⟨#[79, 75]⟩, .slice pa2 0 pc2] 32) := ⟨_, rfl⟩
    have hy2 : Below y2'.heap.size y2' z2 := by rw [hz2]; exact (Below.refl _ _).alloc (Nat.le_refl _) _
    have hw2 : Below z1.heap.size z1 z2 := hb2.trans (hy2.mono hb2.size)
    have HK2 := Lib.hid (show z2.heap[y2'.heap.size]? = some (.cells #[.int .i64 (r : Int), .int .i64 200, .string ⟨#[79, 75]⟩, .slice pa2 0 pc2] 32 (0, 0)) from by rw [hz2]; exact new_block _ _)
    have HX2 := Lib.hid (show Own z2 z1.heap.size (.slice xa2 b.length xc2) b from Own.below ho2 hy2)
    have HZ2 := Lib.hid hz2
    have hsw1 := HW1.out.size
    have HW2 := Lib.hid (HW1.out.trans (hw2.mono hsw1))
    clear he hf2 ho2 hb2 hz2 hy2 hp2 hw2 hsw1
    go_wp2_with fail
    rw [← HZ2.out]
    refine (HA.out z2 headK false HW2.out).mono ?_
    rintro e y3 ⟨p3, xa3, xc3, he, hf3, _, ho3, hb3⟩
    rw [HM3.out] at he hf3 ho3
    have he' : e = .returned (.tuple #[.agg #[.int .i64 (r : Int), .int .i64 200, .string ⟨#[79, 75]⟩, p3], .slice xa3 0 xc3, .int .i64 17, .int .i64 0]) := he
    subst he'
    obtain ⟨pa3, pc3, hp3⟩ := OwnF.form hf3
    have hp3' : p3 = .slice pa3 0 pc3 := hp3
    subst hp3'
    obtain ⟨z3, hz3⟩ : ∃ z3, z3 = y3.alloc (.cells #[.int .i64 (r : Int), .int .i64 200, .string ⟨#[79, 75]⟩, .slice pa3 0 pc3] 32) := ⟨_, rfl⟩
    have hy3 : Below y3.heap.size y3 z3 := by rw [hz3]; exact (Below.refl _ _).alloc (Nat.le_refl _) _
    have hw3 : Below z2.heap.size z2 z3 := hb3.trans (hy3.mono hb3.size)
    have hk3 := Bl.old hw3 (block_lt HK2.out) HK2.out
    obtain ⟨c0, c1, c2, c3⟩ := four hk3
    have hc1 := conv_own (HX2.out.below hw3)
    have hsw2 := HW2.out.size
    have HW3 := Lib.hid (HB5.out.trans ((HW2.out.trans (hw3.mono hsw2)).mono hs5))
    have hc2 := conv_byts (HY.out.below HW3.out (Nat.le_refl _))
    obtain ⟨TX, hTX⟩ : ∃ TX : ByteArray, TX = ⟨b.toArray⟩ := ⟨_, rfl⟩
    rw [← hTX] at hc1 hc2
    have eTX : (TX.toList == TX.toList) = true := by simp
    have HZ3 := Lib.hid hz3
    clear he hf3 ho3 hb3 hz3 hy3 hp3 hw3 hk3 hTX hsw2
    go_upto_region 8 with fail
    rw [← HZ3.out]
    go_wp2_with fail
    go_ret
    exact ⟨rfl, HW3.out⟩

set_option maxHeartbeats 2000000 in
set_option maxRecDepth 100000 in
theorem contract (H : Type) (enc : TypeId × Value → H) (W : World) (base : Nat) (args : Array Value) (ds gs : List (DataW H)) (before : List MemPlace)
    (hval : ∀ (j : Nat) t v, Tryz.f4.params[j]? = some t → args[j]? = some v → Value.okWide Tryz.prog W .any base t v)
    (hW : DataW.Whole enc Tryz.prog Tryz.f4.params.toList Rows.messageEndsSpec.vars false W args.toList ds gs before) (ts : List TypeId) (hsz : (DataW.weightsEach Tryz.prog (Tryz.f4.params.toList ++ ts) (ds ++ gs)).all (· ≤ reachBytes) = true) (hL : laidMetH Tryz.prog Rows.messageEndsRow.laid W) :
    Calls Tryz.prog 4 args W fun e W' => ∃ v, e = .returned v ∧ Rows.messageEndsSpec.post enc Tryz.prog Tryz.f4 false true false false W args v W' := by
  have hW' := hW
  obtain ⟨p, q, hA0, hV, rfl, hfz, hnd⟩ := hW
  have hA : DataW.TrodAll enc Tryz.prog W 0 (fun _ => true) true Tryz.f4.params.toList args.toList ds p := hA0
  rw [Tryz.params4] at hA hval hsz
  obtain ⟨v0, vs0, d0, ds0, p0, q0, hargs, rfl, rfl, h0, r0⟩ := trodAll_cons hA
  obtain ⟨v1, vs1, d1, ds1, p1, q1, rfl, rfl, rfl, h1, r1⟩ := trodAll_cons r0
  obtain ⟨rfl, rfl, rfl⟩ := trodAll_nil r1
  obtain rfl : args = #[v0, v1] := by cases args; simp_all
  obtain ⟨rfl, rfl⟩ := trodVars_none hV
  have k0 := h0
  have lt0 : ∀ x ∈ p0, x.block < W.heap.size := by obtain ⟨m, hm⟩ := k0; exact DataW.trod_lt m _ _ _ hm
  obtain ⟨ls0, f0, l0⟩ := Hd.open_byts (hval 0 22 v0 rfl rfl) h0
  obtain ⟨a1, rfl, rfl, rfl, w1⟩ := open_int Tryz.underlying3 (hval 1 3 v1 rfl rfl) h1
  clear hA0
  simp only [List.append_nil] at hW'
  refine (walk v0 ls0 a1 w1 W (Tb.tok_of_head (Tb.tail (Tb.tail (Tb.tail (Tb.tail (Tb.tail (Tb.tail hL))))))) (Tb.err_of_head (Tb.tail (Tb.tail (Tb.tail (Tb.tail (Tb.tail hL)))))) f0 l0).mono fun e W' ⟨he, bel⟩ => ?_
  subst he
  exact ⟨_, rfl, _, _, _, [], _, [], hW', trodAll_mk1 (shut_bool Tryz.underlying4 _), (trodAll_cons_mk (Below.trod Tb.laidOut (by kernel_rfl) (of_decide_eq_true (by kernel_rfl)) k0 bel lt0) (trodAll_cons_mk (shut_int Tryz.underlying3 w1) trodAll_mk0)), rfl, bel.frame _, fun h => by cases h⟩

theorem laid_met (os : Os) : laidMet Tryz.prog Rows.messageEndsRow.laid ((Tb.laidWorld os).forCall (fun _ _ => 0) ⟨#[], #[.slice none 0 0, .int .i64 0], []⟩).memory :=
  laidMet_of_run' 8 (by kernel_rfl) (by kernel_rfl)
theorem reads (os : Os) {H : Type} (enc : TypeId × Value → H) : ∃ places, DataW.whole enc Tryz.prog ((Tb.laidWorld os).forCall (fun _ _ => 0) ⟨#[], #[.slice none 0 0, .int .i64 0], []⟩).memory Tryz.f4.params.toList Rows.messageEndsSpec.vars false (#[.slice none 0 0, .int .i64 0] : Array Value).toList 8 = some ([.nil, .lit (.int .i64 0)], [], places) :=
  ⟨[], by kernel_rfl⟩

set_option maxRecDepth 100000 in
theorem lifted (os : Os) (started : os.Started) (H : Type) (enc : TypeId × Value → H) (F : Stop.Interp) :
    ReturnsInHanded {} Tryz.checked os 4 .any ((OpenSpec.ofChange Rows.messageEndsSpec).preRow enc Tryz.prog Tryz.f4 Rows.messageEndsRow.domain false Rows.messageEndsRow.laid) (((OpenSpec.ofChange Rows.messageEndsSpec).at F).post enc Tryz.prog Tryz.f4 false true false false) := by
  obtain ⟨places, hx⟩ := reads os enc
  refine returnsInHanded_of_row (C := Tryz.checked) (s := OpenSpec.ofChange Rows.messageEndsSpec) Tb.own started (by kernel_rfl) Tryz.func4
    (witness_row_atRef (enc := enc) (C := Tryz.checked) false (Tb.laidWorld os) #[.slice none 0 0, .int .i64 0] rfl (by kernel_rfl) (by kernel_rfl) (by kernel_rfl)
      (OpenSpec.preRow_of_cond 8 hx (by kernel_rfl) (fun k hk => by cases hk) (by kernel_rfl) (laid_met os))) ?_
  intro W base args ds gs before hval hW _ _ hsz hL _ _
  exact contract H enc W base args ds gs before hval hW _ hsz hL

theorem said : Rows.MessageEndsSaid :=
  OpenClaim.holds_of_cond 4 Tryz.f4 rfl rfl rfl rfl rfl rfl rfl ⟨rfl, rfl, rfl, rfl, rfl⟩ rfl rfl rfl rfl rfl (by kernel_rfl) Tryz.func4 (by kernel_rfl)
    (of_decide_eq_true (by kernel_rfl)) (by unfold Func.isWrapper; first | (rw [if_pos (by decide +kernel)]; kernel_rfl) | (rw [if_neg (by decide +kernel)]; exact ⟨rfl, rfl⟩))
    (fun os started H enc _ F => by rw [OpenClaim.pre_eq_preRow]; exact lifted os started H enc F)

set_option maxRecDepth 100000 in
theorem plain (f : FuncId) (fn : Func) (hf : Tryz.pinned.checked.prog.funcNamed "gatepost/gatepostlaw07.MessageEnds" = some f) (hfn : Tryz.pinned.checked.prog.funcs[f]? = some fn) :
    true = Tryz.pinned.checked.prog.looks [] ∧ ∀ (j : Nat) t, fn.params[j]? = some t → Tryz.pinned.checked.prog.wantsStandIn t = false := by
  obtain rfl : f = 4 := Option.some.inj ((show Tryz.prog.funcNamed "gatepost/gatepostlaw07.MessageEnds" = some 4 by kernel_rfl).symm.trans hf) |>.symm
  obtain rfl : fn = Tryz.f4 := (Option.some.inj (Tryz.func4.symm.trans hfn)).symm
  refine ⟨by kernel_rfl, fun j t ht => ?_⟩
  rw [Tryz.params4] at ht
  have hm := Array.mem_of_getElem? ht
  simp at hm
  rcases hm with rfl | rfl
  · exact (show Tryz.prog.wantsStandIn 22 = false by kernel_rfl)
  · exact (show Tryz.prog.wantsStandIn 3 = false by kernel_rfl)

theorem card : Rows.MessageEndsCardSaid :=
  Claim7.holds_tied_plain_at .later [] _ _ _ _ said (fun _ h => by cases h) (by kernel_rfl) (fun _ h => by cases h) messageEnds_row_tie rfl ⟨rfl, rfl⟩ (by kernel_rfl) rfl plain (by kernel_rfl)
end Go.Proofs.YtcolnidgembniaaGreatDoor.messageEnds
