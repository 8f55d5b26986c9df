/-
  FramingChunks: any bytes have the document's chunk.
  Conditions: the listed tables hold what the program's text lays (the card ties them).
-/
import Derived.Deep.DeepCutAuto
import Derived.Deep.RegionWith
import Derived.Test.YtoofdompafkddaaDoorTabs
import Derived.Test.YtoofdompafkddaaDoorFdOpen
import Derived.SizedLaws
import Derived.Carry
import Derived.Test.YtoofdompafkddaaDoorFrRefChunk
import Derived.Test.YtoofdompafkddaaDoorFrCut
import Derived.WideKeyPair
import Derived.Deep.DeepWitnessRowRef
namespace Go.Proofs.YtoofdompafkddaaDoor.framingChunks
open Go.ChangeShapes Go.WideShapes Go.ChangeAt Go.RowKit
open Go.ChangeMaps (open_string shut_string)
set_option linter.unusedVariables false

open Go.Proofs.YtoofdompafkddaaDoor.Hd Go.Proofs.YtoofdompafkddaaDoor.Fd Go.Proofs.YtoofdompafkddaaDoor.Tk Go.Proofs.YtoofdompafkddaaDoor.Fr

set_option maxHeartbeats 8000000 in
set_option maxRecDepth 100000 in
theorem walk (v0 : Value) (ls0 : Tk.Bs) (w : World) (hD : Fr.D64 w) (f0 : Hd.Byts w v0 ls0) (l0 : ls0.length ≤ maxLen) :
    Calls Tryd.prog 9 #[v0] w fun e w' => e = .returned (.bool true) ∧ Below w.heap.size w w' := by
  have HD := Lib.hid hD
  have hdl := hD.lt
  obtain ⟨va, vc, hv0⟩ := f0.shape
  have HF0 := Lib.hid f0
  unfold maxLen at l0
  subst hv0
  clear hD f0
  go_enter Tryd.func9, Tryd.ntmps9
  go_upto_if 5 with fail
  go_cut [0] (fun s0 wx => ∃ (b : Bs) (wa : Option Addr) (WC : Nat), s0 = .slice wa b.length WC ∧ b.length ≤ 5000 ∧ Byts w (.slice wa b.length WC) b ∧ w = wx)
  case first =>
    by_cases h9 : 5000 < ls0.length
    · rcases HF0.out with ⟨h0, _⟩ | ⟨B, off, cap, hv, hcap, hcm, hB, hh⟩
      · rw [h0] at h9; simp at h9
      injection hv with e1 _ e3
      subst e1 e3
      have HB0 := Lib.hid (Fr.byts_cut (k := 0) (d := 5000) HF0.out hB hcap hcm (by omega))
      have HL := Lib.hid (show ((ls0.drop 0).take 5000).length = 5000 from by rw [List.length_take, List.length_drop]; omega)
      unfold maxLen at hcm
      go_wp2_with fail
      go_meet
      refine ⟨(ls0.drop 0).take 5000, some ⟨B, off, none⟩, vc, by rw [HL.out], by rw [HL.out]; omega, by rw [HL.out]; exact HB0.out, rfl⟩
    · go_wp2_with fail
      go_meet
      exact ⟨ls0, _, _, rfl, by omega, HF0.out, rfl⟩
  case rest =>
    obtain ⟨b, wa, WC, rfl, hb, hy, rfl⟩ := hcut
    have HY := Lib.hid (show Byts w.drew (.slice wa b.length WC) b from hy)
    have HDd := Lib.hid (show Fr.D64 w.drew from HD.out)
    have HB0 := Lib.hid (show Below w.heap.size w w.drew from (Below.refl _ _).drew)
    have eX : ((⟨(chunkL b).toArray⟩ : ByteArray).toList == (⟨(chunkL b).toArray⟩ : ByteArray).toList) = true := by simp
    have eL : ((⟨lastL.toArray⟩ : ByteArray).toList == (⟨#[48, 13, 10, 13, 10]⟩ : ByteArray).toList) = true := by decide +kernel
    clear hy HD HF0 l0
    go_wp2_with fail
    go_region_with (first
      | (go_at_call 38; refine (chunk_any _ b _ HY.out (by omega) HDd.out).mono ?_; rintro e w1 ⟨u1, rfl, ho1, hb1⟩; have HO1 := Lib.hid ho1; have HB1 := Lib.hid hb1; have c11 := conv_own ho1; clear ho1 hb1)
      | (go_at_call 39; refine (refChunk_any _ b _ (HY.out.below HB1.out (Nat.le_refl _)) (by omega)).mono ?_; rintro e w2 ⟨u2, rfl, ho2, hb2⟩; have HB2 := Lib.hid (HB1.out.trans (hb2.mono HB1.out.size)); have HO2 := Lib.hid ho2; have c12 := conv_own (HO1.out.below hb2); have c22 := conv_own ho2; clear ho2 hb2)
      | (go_at_call 40; refine (last_any _).mono ?_; rintro e w3 ⟨u3, rfl, ho3, hb3⟩; have HB3 := Lib.hid (HB2.out.trans (hb3.mono HB2.out.size)); have c33 := conv_own ho3; clear ho3 hb3))
    all_goals
      go_wp2_with fail
      go_ret
      exact ⟨rfl, HB0.out.trans HB3.out⟩

set_option maxRecDepth 100000 in
theorem contract (H : Type) (enc : TypeId × Value → H) (W : World) (base : Nat) (args : Array Value) (ds gs : List (DataW H)) (before : List MemPlace)
    (hval : ∀ (j : Nat) t v, Tryd.f9.params[j]? = some t → args[j]? = some v → Value.okWide Tryd.prog W .any base t v)
    (hW : DataW.Whole enc Tryd.prog Tryd.f9.params.toList Rows.framingChunksSpec.vars false W args.toList ds gs before) (ts : List TypeId) (hsz : (DataW.weightsEach Tryd.prog (Tryd.f9.params.toList ++ ts) (ds ++ gs)).all (· ≤ reachBytes) = true) (hL : laidMetH Tryd.prog Rows.framingChunksRow.laid W) :
    Calls Tryd.prog 9 args W fun e W' => ∃ v, e = .returned v ∧ Rows.framingChunksSpec.post enc Tryd.prog Tryd.f9 false true false false W args v W' := by
  have hW' := hW
  obtain ⟨p, q, hA0, hV, rfl, hfz, hnd⟩ := hW
  have hA : DataW.TrodAll enc Tryd.prog W 0 (fun _ => true) true Tryd.f9.params.toList args.toList ds p := hA0
  rw [Tryd.params9] at hA hval hsz
  obtain ⟨v0, vs0, d0, ds0, p0, q0, hargs, rfl, rfl, h0, r0⟩ := trodAll_cons hA
  obtain ⟨rfl, rfl, rfl⟩ := trodAll_nil r0
  obtain rfl : args = #[v0] := by cases args; simp_all
  obtain ⟨rfl, rfl⟩ := trodVars_none hV
  have k0 := h0
  have lt0 : ∀ x ∈ p0, x.block < W.heap.size := by obtain ⟨m, hm⟩ := k0; exact DataW.trod_lt m _ _ _ hm
  obtain ⟨ls0, f0, l0⟩ := Hd.open_byts (hval 0 22 v0 rfl rfl) h0
  clear hA0
  simp only [List.append_nil] at hW'
  refine (walk v0 ls0 W (Tb.d64_of_head (Tb.tail hL)) f0 l0).mono fun e W' ⟨he, bel⟩ => ?_
  subst he
  exact ⟨_, rfl, _, _, _, [], _, [], hW', trodAll_mk1 (shut_bool Tryd.underlying4 _), (trodAll_cons_mk (Below.trod Tb.laidOut (by kernel_rfl) (of_decide_eq_true (by kernel_rfl)) k0 bel lt0) trodAll_mk0), rfl, bel.frame _, fun h => by cases h⟩

theorem laid_met (os : Os) : laidMet Tryd.prog Rows.framingChunksRow.laid ((Tb.laidWorld os).forCall (fun _ _ => 0) ⟨#[], #[.slice none 0 0], []⟩).memory :=
  laidMet_of_run' 8 (by kernel_rfl) (by kernel_rfl)
theorem reads (os : Os) {H : Type} (enc : TypeId × Value → H) : ∃ places, DataW.whole enc Tryd.prog ((Tb.laidWorld os).forCall (fun _ _ => 0) ⟨#[], #[.slice none 0 0], []⟩).memory Tryd.f9.params.toList Rows.framingChunksSpec.vars false (#[.slice none 0 0] : Array Value).toList 8 = some ([.nil], [], places) :=
  ⟨[], by kernel_rfl⟩

set_option maxRecDepth 100000 in
theorem lifted (os : Os) (started : os.Started) (H : Type) (enc : TypeId × Value → H) (F : Stop.Interp) :
    ReturnsInHanded {} Tryd.checked os 9 .any ((OpenSpec.ofChange Rows.framingChunksSpec).preRow enc Tryd.prog Tryd.f9 Rows.framingChunksRow.domain false Rows.framingChunksRow.laid) (((OpenSpec.ofChange Rows.framingChunksSpec).at F).post enc Tryd.prog Tryd.f9 false true false false) := by
  obtain ⟨places, hx⟩ := reads os enc
  refine returnsInHanded_of_row (C := Tryd.checked) (s := OpenSpec.ofChange Rows.framingChunksSpec) Tb.own started (by kernel_rfl) Tryd.func9
    (witness_row_atRef (enc := enc) (C := Tryd.checked) false (Tb.laidWorld os) #[.slice none 0 0] rfl (by kernel_rfl) (by kernel_rfl) (by kernel_rfl)
      (OpenSpec.preRow_of_cond 8 hx (by kernel_rfl) (fun k hk => by cases hk) (by kernel_rfl) (laid_met os))) ?_
  intro W base args ds gs before hval hW _ _ hsz hL _ _
  exact contract H enc W base args ds gs before hval hW _ hsz hL

theorem said : Rows.FramingChunksSaid :=
  OpenClaim.holds_of_cond 9 Tryd.f9 rfl rfl rfl rfl rfl rfl rfl ⟨rfl, rfl, rfl, rfl, rfl⟩ rfl rfl rfl rfl rfl (by kernel_rfl) Tryd.func9 (by kernel_rfl)
    (of_decide_eq_true (by kernel_rfl)) (by unfold Func.isWrapper; first | (rw [if_pos (by decide +kernel)]; kernel_rfl) | (rw [if_neg (by decide +kernel)]; exact ⟨rfl, rfl⟩))
    (fun os started H enc _ F => by rw [OpenClaim.pre_eq_preRow]; exact lifted os started H enc F)

set_option maxRecDepth 100000 in
theorem plain (f : FuncId) (fn : Func) (hf : Tryd.pinned.checked.prog.funcNamed "gatepost/gatepostlaw06.FramingChunks" = some f) (hfn : Tryd.pinned.checked.prog.funcs[f]? = some fn) :
    true = Tryd.pinned.checked.prog.looks [] ∧ ∀ (j : Nat) t, fn.params[j]? = some t → Tryd.pinned.checked.prog.wantsStandIn t = false := by
  obtain rfl : f = 9 := Option.some.inj ((show Tryd.prog.funcNamed "gatepost/gatepostlaw06.FramingChunks" = some 9 by kernel_rfl).symm.trans hf) |>.symm
  obtain rfl : fn = Tryd.f9 := (Option.some.inj (Tryd.func9.symm.trans hfn)).symm
  refine ⟨by kernel_rfl, fun j t ht => ?_⟩
  rw [Tryd.params9] at ht
  have hm := Array.mem_of_getElem? ht
  simp at hm
  subst hm
  exact (show Tryd.prog.wantsStandIn 22 = false by kernel_rfl)

theorem card : Rows.FramingChunksCardSaid :=
  Claim7.holds_tied_plain_at .later [] _ _ _ _ said (fun _ h => by cases h) (by kernel_rfl) (fun _ h => by cases h) framingChunks_row_tie rfl ⟨rfl, rfl⟩ (by kernel_rfl) rfl plain (by kernel_rfl)
end Go.Proofs.YtoofdompafkddaaDoor.framingChunks
