/-
  MessageReads: any bytes are read as the document's request and response. Conditions: the card's.
  Conditions: the listed tables hold what the program's text lays (the card ties them).
-/
import Derived.Deep.DeepCutAuto
import Derived.Deep.RegionWith
import Derived.Test.YtcolnidgembniaaGreatDoorMsAllP5
import Derived.SizedLaws
import Derived.Carry
import Derived.Test.YtcolnidgembniaaGreatDoorMsAllP13
import Derived.Test.YtcolnidgembniaaGreatDoorMsAllP6
import Derived.WideKeyPair
import Derived.Deep.DeepWitnessRowRef
namespace Go.Proofs.YtcolnidgembniaaGreatDoor.messageReads
open Go.ChangeShapes Go.WideShapes Go.ChangeAt Go.RowKit
open Go.ChangeMaps (open_string shut_string)
set_option linter.unusedVariables false

open Go.Proofs.YtcolnidgembniaaGreatDoor.Fr Go.Proofs.YtcolnidgembniaaGreatDoor.Hd Go.Proofs.YtcolnidgembniaaGreatDoor.Fd Go.Proofs.YtcolnidgembniaaGreatDoor.Tk Go.Proofs.YtcolnidgembniaaGreatDoor.Ms
set_option linter.unusedVariables false

set_option maxHeartbeats 16000000 in
set_option maxRecDepth 100000 in
theorem walk (v0 : Value) (l0 : Bs) (a1 : ByteArray) (w1 : a1.size ≤ maxLen) (a2 : Bool) (w : World) (hT : Tk.Tab w) (hE : Fr.ErrV w) (f0 : Byts w v0 l0) (l0l : l0.length ≤ maxLen) :
    Calls Tryz.prog 3 #[v0, .string a1, .bool a2] w fun e w' => e = .returned (.bool true) ∧ Below w.heap.size w w' := by
  have HT := Lib.hid hT
  have HE := Lib.hid hE
  obtain ⟨va, vc, hv0⟩ := f0.shape
  have HF0 := Lib.hid f0
  unfold maxLen at l0l
  subst hv0
  clear hT hE f0 w1
  go_enter Tryz.func3, Tryz.ntmps3
  go_upto_if 25 with fail
  go_cut [0] (fun s0 wx => ∃ (b : Bs) (wa : Option Addr) (WC : Nat), s0 = .slice wa b.length WC ∧ b.length ≤ 9000 ∧ Byts w (.slice wa b.length WC) b ∧ w = wx)
  case first =>
    by_cases h9 : 9000 < l0.length
    · rcases HF0.out with ⟨h0, _⟩ | ⟨B, off, cap, hv, hcap, hcm, hB, hh⟩
      · rw [h0] at h9; simp at h9
      injection hv with e1 _ e3
      subst e1 e3
      have HB0 := Lib.hid (byts_cut (k := 0) (d := 9000) HF0.out hB hcap hcm (by omega))
      have HL := Lib.hid (show ((l0.drop 0).take 9000).length = 9000 from by rw [List.length_take, List.length_drop]; omega)
      unfold maxLen at hcm
      go_wp2_with fail
      go_meet
      refine ⟨(l0.drop 0).take 9000, some ⟨B, off, none⟩, vc, by rw [HL.out], by rw [HL.out]; omega, by rw [HL.out]; exact HB0.out, rfl⟩
    · go_wp2_with fail
      go_meet
      exact ⟨l0, _, _, rfl, by omega, HF0.out, rfl⟩
  case rest =>
    obtain ⟨b, wa, WC, rfl, hb9, hy, rfl⟩ := hcut
    have HY := Lib.hid hy
    clear hy HF0 l0l
    obtain ⟨M, hM⟩ : ∃ M, M = msgOf false reqT b false := ⟨_, rfl⟩
    obtain ⟨K, hK⟩ : ∃ K, K = msgOf true (resT a1) b a2 := ⟨_, rfl⟩
    have HA := Lib.hid (fun (x : World) (hx : Below w.heap.size w x) => (show Calls Tryz.prog 5 #[.slice wa b.length WC] x (ReqMsg M x) from by rw [hM]; exact readRequest_any _ b x (HY.out.below hx (Nat.le_refl _)) (by omega) (HT.out.below hx HT.out.lt) (HE.out.below hx)))
    have HB := Lib.hid (fun (x : World) (hx : Below w.heap.size w x) => (show Calls Tryz.prog 6 #[.slice wa b.length WC] x (ReqMsg M x) from by rw [hM]; exact rreadRequest_any _ b x (HY.out.below hx (Nat.le_refl _)) (by omega)))
    have HC := Lib.hid (fun (x : World) (hx : Below w.heap.size w x) => (show Calls Tryz.prog 7 #[.slice wa b.length WC, .string a1, .bool a2] x (ResMsg K x) from by rw [hK]; exact readResponse_any _ b a1 a2 x (HY.out.below hx (Nat.le_refl _)) (by omega) (HT.out.below hx HT.out.lt) (HE.out.below hx)))
    have HD := Lib.hid (fun (x : World) (hx : Below w.heap.size w x) => (show Calls Tryz.prog 8 #[.slice wa b.length WC, .string a1, .bool a2] x (ResMsg K x) from by rw [hK]; exact rreadResponse_any _ b a1 a2 x (HY.out.below hx (Nat.le_refl _)) (by omega)))
    clear hM hK
    obtain ⟨TX, hTX⟩ : ∃ TX : ByteArray, TX = ⟨M.x.toArray⟩ := ⟨_, rfl⟩
    obtain ⟨TZ, hTZ⟩ : ∃ TZ : ByteArray, TZ = ⟨K.x.toArray⟩ := ⟨_, rfl⟩
    have HTX := Lib.hid hTX
    have HTZ := Lib.hid hTZ
    have eTX : (TX.toList == TX.toList) = true := by simp
    have eTZ : (TZ.toList == TZ.toList) = true := by simp
    have eN : ((M.n : Int) == (M.n : Int)) = true := by simp
    have eE : ((M.e : Int) == (M.e : Int)) = true := by simp
    have eK : ((K.n : Int) == (K.n : Int)) = true := by simp
    have eF : ((K.e : Int) == (K.e : Int)) = true := by simp
    clear hTX hTZ
    go_wp2_with fail
    refine (HA.out w (Below.refl _ _)).mono ?_
    rintro e y1 ⟨p1, xa1, xc1, rfl, hf1, hl1, ho1, hb1⟩
    obtain ⟨pa1, pc1, hp1⟩ := OwnF.form hf1
    subst hp1
    obtain ⟨z1, hz1⟩ : ∃ z1, z1 = y1.alloc (.cells #[.string M.q.a, .string M.q.b, .int .i64 M.q.m, .slice pa1 M.fs.length pc1] 25) := ⟨_, rfl⟩
    have hy1 : Below y1.heap.size y1 z1 := by rw [hz1]; exact (Below.refl _ _).alloc (Nat.le_refl _) _
    have HK11 := Lib.hid (show z1.heap[y1.heap.size]? = some (.cells #[.string M.q.a, .string M.q.b, .int .i64 M.q.m, .slice pa1 M.fs.length pc1] 25 (0, 0)) from by rw [hz1]; exact new_block _ _)
    have HF11 := Lib.hid (hf1.flds.below hy1 (Nat.le_refl _))
    have HO11 := Lib.hid (ho1.below hy1)
    have HBz1 := Lib.hid (hb1.trans (hy1.mono hb1.size))
    have HZ1 := Lib.hid hz1
    have HL1 := Lib.hid hl1
    clear hf1 ho1 hb1 hz1 hy1 hl1 HA
    go_wp2_with fail
    rw [← HZ1.out]
    refine (HB.out z1 HBz1.out).mono ?_
    rintro e y2 ⟨p2, xa2, xc2, rfl, hf2, _, ho2, hb2⟩
    obtain ⟨pa2, pc2, hp2⟩ := OwnF.form hf2
    subst hp2
    obtain ⟨z2, hz2⟩ : ∃ z2, z2 = y2.alloc (.cells #[.string M.q.a, .string M.q.b, .int .i64 M.q.m, .slice pa2 M.fs.length pc2] 25) := ⟨_, rfl⟩
    have hy2 : Below y2.heap.size y2 z2 := by rw [hz2]; exact (Below.refl _ _).alloc (Nat.le_refl _) _
    have hw2 : Below z1.heap.size z1 z2 := hb2.trans (hy2.mono hb2.size)
    have HK22 := Lib.hid (show z2.heap[y2.heap.size]? = some (.cells #[.string M.q.a, .string M.q.b, .int .i64 M.q.m, .slice pa2 M.fs.length pc2] 25 (0, 0)) from by rw [hz2]; exact new_block _ _)
    have HF22 := Lib.hid (hf2.flds.below hy2 (Nat.le_refl _))
    have HO22 := Lib.hid (ho2.below hy2)
    have hsz2 := HBz1.out.size
    have HBz2 := Lib.hid (HBz1.out.trans (hw2.mono hsz2))
    have HZ2 := Lib.hid hz2
    have HK12 := Lib.hid (Bl.old hw2 (block_lt HK11.out) HK11.out)
    have HF12 := Lib.hid (HF11.out.below hw2 (Nat.le_refl _))
    have HO12 := Lib.hid (HO11.out.below hw2)
    clear hf2 ho2 hb2 hz2 hy2 hw2 hsz2 HB
    go_wp2_with fail
    rw [← HZ2.out]
    refine (HC.out z2 HBz2.out).mono ?_
    rintro e y3 ⟨p3, xa3, xc3, rfl, hf3, hl3, ho3, hb3⟩
    obtain ⟨pa3, pc3, hp3⟩ := OwnF.form hf3
    subst hp3
    obtain ⟨z3, hz3⟩ : ∃ z3, z3 = y3.alloc (.cells #[.int .i64 K.q.m, .int .i64 K.q.c, .string K.q.a, .slice pa3 K.fs.length pc3] 32) := ⟨_, rfl⟩
    have hy3 : Below y3.heap.size y3 z3 := by rw [hz3]; exact (Below.refl _ _).alloc (Nat.le_refl _) _
    have hw3 : Below z2.heap.size z2 z3 := hb3.trans (hy3.mono hb3.size)
    have HK33 := Lib.hid (show z3.heap[y3.heap.size]? = some (.cells #[.int .i64 K.q.m, .int .i64 K.q.c, .string K.q.a, .slice pa3 K.fs.length pc3] 32 (0, 0)) from by rw [hz3]; exact new_block _ _)
    have HF33 := Lib.hid (hf3.flds.below hy3 (Nat.le_refl _))
    have HO33 := Lib.hid (ho3.below hy3)
    have hsz3 := HBz2.out.size
    have HBz3 := Lib.hid (HBz2.out.trans (hw3.mono hsz3))
    have HZ3 := Lib.hid hz3
    have HL3 := Lib.hid hl3
    have HK13 := Lib.hid (Bl.old hw3 (block_lt HK12.out) HK12.out)
    have HF13 := Lib.hid (HF12.out.below hw3 (Nat.le_refl _))
    have HO13 := Lib.hid (HO12.out.below hw3)
    have HK23 := Lib.hid (Bl.old hw3 (block_lt HK22.out) HK22.out)
    have HF23 := Lib.hid (HF22.out.below hw3 (Nat.le_refl _))
    have HO23 := Lib.hid (HO22.out.below hw3)
    clear hf3 ho3 hb3 hz3 hy3 hw3 hsz3 hl3 HC
    go_wp2_with fail
    rw [← HZ3.out]
    refine (HD.out z3 HBz3.out).mono ?_
    rintro e y4 ⟨p4, xa4, xc4, rfl, hf4, _, ho4, hb4⟩
    obtain ⟨pa4, pc4, hp4⟩ := OwnF.form hf4
    subst hp4
    obtain ⟨z4, hz4⟩ : ∃ z4, z4 = y4.alloc (.cells #[.int .i64 K.q.m, .int .i64 K.q.c, .string K.q.a, .slice pa4 K.fs.length pc4] 32) := ⟨_, rfl⟩
    have hy4 : Below y4.heap.size y4 z4 := by rw [hz4]; exact (Below.refl _ _).alloc (Nat.le_refl _) _
    have hw4 : Below z3.heap.size z3 z4 := hb4.trans (hy4.mono hb4.size)
    have HK44 := Lib.hid (show z4.heap[y4.heap.size]? = some (.cells #[.int .i64 K.q.m, .int .i64 K.q.c, .string K.q.a, .slice pa4 K.fs.length pc4] 32 (0, 0)) from by rw [hz4]; exact new_block _ _)
    have HF44 := Lib.hid (hf4.flds.below hy4 (Nat.le_refl _))
    have HO44 := Lib.hid (ho4.below hy4)
    have hsz4 := HBz3.out.size
    have HBz4 := Lib.hid (HBz3.out.trans (hw4.mono hsz4))
    have HZ4 := Lib.hid hz4
    have HK14 := Lib.hid (Bl.old hw4 (block_lt HK13.out) HK13.out)
    have HF14 := Lib.hid (HF13.out.below hw4 (Nat.le_refl _))
    have HO14 := Lib.hid (HO13.out.below hw4)
    have HK24 := Lib.hid (Bl.old hw4 (block_lt HK23.out) HK23.out)
    have HF24 := Lib.hid (HF23.out.below hw4 (Nat.le_refl _))
    have HO24 := Lib.hid (HO23.out.below hw4)
    have HK34 := Lib.hid (Bl.old hw4 (block_lt HK33.out) HK33.out)
    have HF34 := Lib.hid (HF33.out.below hw4 (Nat.le_refl _))
    have HO34 := Lib.hid (HO33.out.below hw4)
    clear hf4 ho4 hb4 hz4 hy4 hw4 hsz4 HD
    go_upto_region 7 with fail
    rw [← HZ4.out]
    have hz4 := HBz4.out.size
    have hl1 := HL1.out
    have hl3 := HL3.out
    obtain ⟨a0, a1', a2', a3⟩ := four HK14.out
    obtain ⟨b0, b1, b2, b3⟩ := four HK24.out
    clear HK11 HK12 HK13 HK22 HK23 HK33 HF11 HF12 HF13 HF22 HF23 HF33 HO11 HO12 HO13 HO22 HO23 HO33 HZ1 HZ2 HZ3 HZ4 HBz1 HBz2 HBz3 HY HT HE
    go_wp2_with fail
    refine (sameReq_any (M.q, M.fs, 0) _ _ z4 HF14.out HF24.out (by show M.fs.length ≤ _; omega)).mono ?_
    rintro e y7 ⟨rfl, hb7⟩
    have HB7 := Lib.hid (HBz4.out.trans (hb7.mono hz4))
    have HK37 := Bl.old hb7 (block_lt HK34.out) HK34.out
    have HK47 := Bl.old hb7 (block_lt HK44.out) HK44.out
    have HF37 := Lib.hid (HF34.out.below hb7 (Nat.le_refl _))
    have HF47 := Lib.hid (HF44.out.below hb7 (Nat.le_refl _))
    have hc1 := conv_own (HO14.out.below hb7)
    have hc2 := conv_own (HO24.out.below hb7)
    rw [← HTX.out] at hc1 hc2
    have HO37 := Lib.hid (HO34.out.below hb7)
    have HO47 := Lib.hid (HO44.out.below hb7)
    obtain ⟨c0, c1, c2, c3⟩ := four HK37
    obtain ⟨d0, d1, d2, d3⟩ := four HK47
    clear hb7 HK37 HK47 a0 a1' a2' a3 b0 b1 b2 b3 HO14 HO24 HF14 HF24 HK14 HK24
    go_wp2_with fail
    refine (sameRes_any (K.q, K.fs, 0) _ _ y7 HF37.out HF47.out (by show K.fs.length ≤ _; omega)).mono ?_
    rintro e y8 ⟨rfl, hb8⟩
    have hs7 := HB7.out.size
    have HB8 := Lib.hid (HB7.out.trans (hb8.mono hs7))
    have hc3 := conv_own (HO37.out.below hb8)
    have hc4 := conv_own (HO47.out.below hb8)
    rw [← HTZ.out] at hc3 hc4
    clear hb8 c0 c1 c2 c3 d0 d1 d2 d3 hc1 hc2
    go_wp2_with fail
    go_ret
    exact ⟨rfl, HB8.out⟩

set_option maxHeartbeats 2000000 in
set_option maxRecDepth 100000 in
theorem contract (H : Type) (enc : TypeId × Value → H) (W : World) (base : Nat) (args : Array Value) (ds gs : List (DataW H)) (before : List MemPlace)
    (hval : ∀ (j : Nat) t v, Tryz.f3.params[j]? = some t → args[j]? = some v → Value.okWide Tryz.prog W .any base t v)
    (hW : DataW.Whole enc Tryz.prog Tryz.f3.params.toList Rows.messageReadsSpec.vars false W args.toList ds gs before) (ts : List TypeId) (hsz : (DataW.weightsEach Tryz.prog (Tryz.f3.params.toList ++ ts) (ds ++ gs)).all (· ≤ reachBytes) = true) (hL : laidMetH Tryz.prog Rows.messageReadsRow.laid W) :
    Calls Tryz.prog 3 args W fun e W' => ∃ v, e = .returned v ∧ Rows.messageReadsSpec.post enc Tryz.prog Tryz.f3 false true false false W args v W' := by
  have hW' := hW
  obtain ⟨p, q, hA0, hV, rfl, hfz, hnd⟩ := hW
  have hA : DataW.TrodAll enc Tryz.prog W 0 (fun _ => true) true Tryz.f3.params.toList args.toList ds p := hA0
  rw [Tryz.params3] at hA hval hsz
  obtain ⟨v0, vs0, d0, ds0, p0, q0, hargs, rfl, rfl, h0, r0⟩ := trodAll_cons hA
  obtain ⟨v1, vs1, d1, ds1, p1, q1, rfl, rfl, rfl, h1, r1⟩ := trodAll_cons r0
  obtain ⟨v2, vs2, d2, ds2, p2, q2, rfl, rfl, rfl, h2, r2⟩ := trodAll_cons r1
  obtain ⟨rfl, rfl, rfl⟩ := trodAll_nil r2
  obtain rfl : args = #[v0, v1, v2] := by cases args; simp_all
  obtain ⟨rfl, rfl⟩ := trodVars_none hV
  have k0 := h0
  have lt0 : ∀ x ∈ p0, x.block < W.heap.size := by obtain ⟨m, hm⟩ := k0; exact DataW.trod_lt m _ _ _ hm
  obtain ⟨ls0, f0, l0⟩ := Hd.open_byts (hval 0 22 v0 rfl rfl) h0
  obtain ⟨a1, rfl, rfl, rfl, w1⟩ := open_string Tryz.underlying9 (hval 1 9 v1 rfl rfl) h1
  obtain ⟨a2, rfl, rfl, rfl⟩ := open_bool Tryz.underlying4 (hval 2 4 v2 rfl rfl) h2
  clear hA0
  simp only [List.append_nil] at hW'
  refine (walk v0 ls0 a1 w1 a2 W (Tb.tok_of_head (Tb.tail (Tb.tail (Tb.tail (Tb.tail (Tb.tail (Tb.tail hL))))))) (Tb.err_of_head (Tb.tail (Tb.tail (Tb.tail (Tb.tail (Tb.tail hL)))))) f0 l0).mono fun e W' ⟨he, bel⟩ => ?_
  subst he
  exact ⟨_, rfl, _, _, _, [], _, [], hW', trodAll_mk1 (shut_bool Tryz.underlying4 _), (trodAll_cons_mk (Below.trod Tb.laidOut (by kernel_rfl) (of_decide_eq_true (by kernel_rfl)) k0 bel lt0) (trodAll_cons_mk (shut_string Tryz.underlying9 w1) (trodAll_cons_mk (shut_bool Tryz.underlying4 a2) trodAll_mk0))), rfl, bel.frame _, fun h => by cases h⟩

theorem laid_met (os : Os) : laidMet Tryz.prog Rows.messageReadsRow.laid ((Tb.laidWorld os).forCall (fun _ _ => 0) ⟨#[], #[.slice none 0 0, .string ByteArray.empty, .bool false], []⟩).memory :=
  laidMet_of_run' 8 (by kernel_rfl) (by kernel_rfl)
theorem reads (os : Os) {H : Type} (enc : TypeId × Value → H) : ∃ places, DataW.whole enc Tryz.prog ((Tb.laidWorld os).forCall (fun _ _ => 0) ⟨#[], #[.slice none 0 0, .string ByteArray.empty, .bool false], []⟩).memory Tryz.f3.params.toList Rows.messageReadsSpec.vars false (#[.slice none 0 0, .string ByteArray.empty, .bool false] : Array Value).toList 8 = some ([.nil, .lit (.string []), .lit (.bool false)], [], places) :=
  ⟨[], by kernel_rfl⟩

set_option maxRecDepth 100000 in
theorem lifted (os : Os) (started : os.Started) (H : Type) (enc : TypeId × Value → H) (F : Stop.Interp) :
    ReturnsInHanded {} Tryz.checked os 3 .any ((OpenSpec.ofChange Rows.messageReadsSpec).preRow enc Tryz.prog Tryz.f3 Rows.messageReadsRow.domain false Rows.messageReadsRow.laid) (((OpenSpec.ofChange Rows.messageReadsSpec).at F).post enc Tryz.prog Tryz.f3 false true false false) := by
  obtain ⟨places, hx⟩ := reads os enc
  refine returnsInHanded_of_row (C := Tryz.checked) (s := OpenSpec.ofChange Rows.messageReadsSpec) Tb.own started (by kernel_rfl) Tryz.func3
    (witness_row_atRef (enc := enc) (C := Tryz.checked) false (Tb.laidWorld os) #[.slice none 0 0, .string ByteArray.empty, .bool false] rfl (by kernel_rfl) (by kernel_rfl) (by kernel_rfl)
      (OpenSpec.preRow_of_cond 8 hx (by kernel_rfl) (fun k hk => by cases hk) (by kernel_rfl) (laid_met os))) ?_
  intro W base args ds gs before hval hW _ _ hsz hL _ _
  exact contract H enc W base args ds gs before hval hW _ hsz hL

theorem said : Rows.MessageReadsSaid :=
  OpenClaim.holds_of_cond 3 Tryz.f3 rfl rfl rfl rfl rfl rfl rfl ⟨rfl, rfl, rfl, rfl, rfl⟩ rfl rfl rfl rfl rfl (by kernel_rfl) Tryz.func3 (by kernel_rfl)
    (of_decide_eq_true (by kernel_rfl)) (by unfold Func.isWrapper; first | (rw [if_pos (by decide +kernel)]; kernel_rfl) | (rw [if_neg (by decide +kernel)]; exact ⟨rfl, rfl⟩))
    (fun os started H enc _ F => by rw [OpenClaim.pre_eq_preRow]; exact lifted os started H enc F)

set_option maxRecDepth 100000 in
theorem plain (f : FuncId) (fn : Func) (hf : Tryz.pinned.checked.prog.funcNamed "gatepost/gatepostlaw07.MessageReads" = some f) (hfn : Tryz.pinned.checked.prog.funcs[f]? = some fn) :
    true = Tryz.pinned.checked.prog.looks [] ∧ ∀ (j : Nat) t, fn.params[j]? = some t → Tryz.pinned.checked.prog.wantsStandIn t = false := by
  obtain rfl : f = 3 := Option.some.inj ((show Tryz.prog.funcNamed "gatepost/gatepostlaw07.MessageReads" = some 3 by kernel_rfl).symm.trans hf) |>.symm
  obtain rfl : fn = Tryz.f3 := (Option.some.inj (Tryz.func3.symm.trans hfn)).symm
  refine ⟨by kernel_rfl, fun j t ht => ?_⟩
  rw [Tryz.params3] at ht
  have hm := Array.mem_of_getElem? ht
  simp at hm
  rcases hm with rfl | rfl | rfl
  · exact (show Tryz.prog.wantsStandIn 22 = false by kernel_rfl)
  · exact (show Tryz.prog.wantsStandIn 9 = false by kernel_rfl)
  · exact (show Tryz.prog.wantsStandIn 4 = false by kernel_rfl)

theorem card : Rows.MessageReadsCardSaid :=
  Claim7.holds_tied_plain_at .later [] _ _ _ _ said (fun _ h => by cases h) (by kernel_rfl) (fun _ h => by cases h) messageReads_row_tie rfl ⟨rfl, rfl⟩ (by kernel_rfl) rfl plain (by kernel_rfl)
end Go.Proofs.YtcolnidgembniaaGreatDoor.messageReads
