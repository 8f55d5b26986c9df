/-
  FramingCuts: one decoder that is fed all at once and one that is fed byte by byte take and tell the same.
  Conditions: the listed tables hold what the program's text lays (the card ties them).
-/
import Derived.Deep.DeepCutAuto
import Derived.Deep.RegionWith
import Derived.Test.YtcolnidgembniaaDoorFrAllP5
import Derived.SizedLaws
import Derived.Carry
import Derived.Test.YtcolnidgembniaaDoorFrAllP7
import Derived.Test.YtcolnidgembniaaDoorFrAllP4
import Derived.WideKeyPair
import Derived.Deep.DeepWitnessRowRef
namespace Go.Proofs.YtcolnidgembniaaDoor.framingCuts
open Go.ChangeShapes Go.WideShapes Go.ChangeAt Go.RowKit
open Go.ChangeMaps (open_string shut_string)
set_option linter.unusedVariables false

open Go.Proofs.YtcolnidgembniaaDoor.Fr Go.Proofs.YtcolnidgembniaaDoor.Hd Go.Proofs.YtcolnidgembniaaDoor.Fd Go.Proofs.YtcolnidgembniaaDoor.Tk

theorem int_of (k : IntKind) (n : Int) : intOf (.int k n) = n := rfl
theorem made_two : made 1 2 = some (.len 2) := by unfold made; simp
set_option maxHeartbeats 16000000 in
set_option maxRecDepth 100000 in
theorem walk (a0 : Int) (w0 : (Lit.int .i64 a0).wf = true) (a1 : Int) (w1 : (Lit.int .i64 a1).wf = true) (v2 : Value) (l0 : Bs) (w : World) (hT : Tk.Tab w) (hE : Fr.ErrV w) (f0 : Byts w v2 l0) (l0l : l0.length ≤ maxLen) :
    Calls Tryd.prog 8 #[.int .i64 a0, .int .i64 a1, v2] w fun e w' => e = .returned (.bool true) ∧ Below w.heap.size w w' := by
  have HT := Lib.hid hT
  have HE := Lib.hid hE
  obtain ⟨va, vc, hv0⟩ := f0.shape
  have HF0 := Lib.hid f0
  unfold maxLen at l0l
  subst hv0
  clear hT hE f0 w0 w1
  go_enter Tryd.func8, Tryd.ntmps8
  go_upto_if 25 with fail
  go_cut [2] (fun s2 wx => ∃ (b : Bs) (wa : Option Addr) (WC : Nat), s2 = .slice wa b.length WC ∧ b.length ≤ 3000 ∧ Byts w (.slice wa b.length WC) b ∧ w = wx)
  case first =>
    by_cases h9 : 3000 < l0.length
    · rcases HF0.out with ⟨h0, _⟩ | ⟨B, off, cap, hv, hcap, hcm, hB, hh⟩
      · rw [h0] at h9; simp at h9
      injection hv with e1 _ e3
      subst e1 e3
      have HB0 := Lib.hid (byts_cut (k := 0) (d := 3000) HF0.out hB hcap hcm (by omega))
      have HL := Lib.hid (show ((l0.drop 0).take 3000).length = 3000 from by rw [List.length_take, List.length_drop]; omega)
      unfold maxLen at hcm
      go_wp2_with fail
      go_meet
      refine ⟨(l0.drop 0).take 3000, some ⟨B, off, none⟩, vc, by rw [HL.out], by rw [HL.out]; omega, by rw [HL.out]; exact HB0.out, rfl⟩
    · go_wp2_with fail
      go_meet
      exact ⟨l0, _, _, rfl, by omega, HF0.out, rfl⟩
  case rest =>
    obtain ⟨b, wa, WC, rfl, hb9, hy, rfl⟩ := hcut
    have HY := Lib.hid hy
    clear hy HF0 l0l
    have HVO := Lib.hid (fun (hp : 0 < b.length) => (show ∀ k, (Value.slice wa b.length WC).ownBlock = some k → k < w.heap.size from fun k hk => by
      rcases HY.out with ⟨h0, _⟩ | ⟨B, off, cap, hv, _, _, hB, _⟩
      · rw [h0] at hp; simp at hp
      · rw [hv] at hk; injection hk with hk; have hk' : B = k := hk; omega))
    have hN2 := fun x => new_any 1 2 x
    unfold NewPost at hN2
    rw [made_two] at hN2
    have HN2 := Lib.hid hN2
    have hNew := fun x => new_any a0 a1 x
    unfold NewPost at hNew
    cases hm : made a0 a1 with
    | none =>
      have hme := made_err hm
      obtain ⟨ER, hER⟩ : ∃ ER, ER = madeErr a0 a1 := ⟨_, rfl⟩
      simp only [hm] at hNew
      rw [← hER] at hNew hme
      have HN := Lib.hid hNew
      clear hNew hm hER hN2
      have eE : ((ER : Int) != (ER : Int)) = false := by simp
      have eE0 : ((ER : Int) != 0) = true := by simp; omega
      go_wp2_with fail
      refine (HN.out w).mono ?_
      rintro e x1 ⟨rfl, rfl⟩
      go_wp2_with fail
      refine (HN.out _).mono ?_
      rintro e x2 ⟨rfl, rfl⟩
      go_wp2_with fail
      refine (HN2.out _).mono ?_
      rintro e x3 ⟨gz, rfl, _, hb⟩
      have HB := Lib.hid hb
      clear hb
      go_wp2_with fail
      go_ret
      exact ⟨rfl, HB.out⟩
    | some s0 =>
      simp only [hm] at hNew
      have HN := Lib.hid hNew
      have HG := Lib.hid (good_made hm)
      clear hNew hm hN2
      go_wp2_with fail
      refine (HN.out w).mono ?_
      rintro e x1 ⟨gx, rfl, hDx, h1⟩
      have HLX := Lib.hid (lone_start HG.out hDx (Below.refl _ _) h1)
      have hs1 := h1.size
      go_wp2_with fail
      refine (HN.out x1).mono ?_
      rintro e x2 ⟨gy, rfl, hDy, h2⟩
      have HLY := Lib.hid (lone_start HG.out hDy h1 h2)
      have HLX2 := Lib.hid (HLX.out.below h2)
      have hs2 := h2.size
      clear hDx hDy h1 HN HLX
      go_wp2_with fail
      refine (HN2.out x2).mono ?_
      rintro e x3 ⟨gz, rfl, _, h3⟩
      have HLY3 := Lib.hid (HLY.out.below h3)
      have HLX3 := Lib.hid (HLX2.out.below h3)
      have hs3 := h3.size
      clear h2 h3 HN2 HLX2 HLY
      obtain ⟨X, N, SX, hN⟩ : ∃ X N SX, run s0 b = (X, N, SX) := ⟨_, _, _, rfl⟩
      have hFX := lone_feed HLX3.out (.slice wa b.length WC) b (HY.out.below HLX3.out.bel (Nat.le_refl _)) (fun hp j hj hO => by have := HVO.out hp j hj; omega) (by omega) HT.out HE.out
      rw [hN] at hFX
      obtain ⟨DD, hDD⟩ : ∃ DD, DD = doneOf SX := ⟨_, rfl⟩
      obtain ⟨EE, hEE⟩ : ∃ EE, EE = errOf SX := ⟨_, rfl⟩
      obtain ⟨XL, hXL⟩ : ∃ XL, XL = X.length := ⟨_, rfl⟩
      simp only [← hDD, ← hEE, ← hXL] at hFX
      have HFX := Lib.hid hFX
      have HNN := Lib.hid hN
      have HDD := Lib.hid hDD
      have HEE := Lib.hid hEE
      clear hFX hN hDD hEE hXL
      go_wp2_with fail
      refine HFX.out.mono ?_
      rintro e x4 ⟨oa, oc, O1, rfl, hF⟩
      have hC := cut_start (b := b) HLY3.out hF HLX3.out (fun k hk hO => by omega)
      have hCF := cut_feed hC 0 (by omega) (.slice none 0 0) [] (by simp) (.inl ⟨rfl, _, _, rfl⟩) (fun hp => by simp at hp) (by omega) HT.out HE.out
      rw [run_nil] at hCF
      obtain ⟨D0, hD0⟩ : ∃ D0, D0 = doneOf s0 := ⟨_, rfl⟩
      obtain ⟨E0, hE0⟩ : ∃ E0, E0 = errOf s0 := ⟨_, rfl⟩
      simp only [← hD0, ← hE0] at hCF
      have HCF := Lib.hid hCF
      have HD0 := Lib.hid hD0
      have HE0 := Lib.hid hE0
      clear hF hC hCF hD0 hE0 HFX HLX3 HLY3
      go_wp2_with fail
      refine HCF.out.mono ?_
      rintro e x5 ⟨na, nc, O2, rfl, hM, _⟩
      have HA0 := Lib.hid hM.skip
      clear hM HCF
      go_wp2_with fail
      go_loopw [10, 16, 17, 20, 21, 22] (fun v10 v16 v17 v20 _ _ wr => ∃ (k : Nat) (G : Bs) (ga : Option Addr) (gc : Nat) (st : St) (O : Nat → Prop), v10 = .int .i64 (errOf st : Nat) ∧ v16 = .slice ga G.length gc ∧ v17 = .int .i64 (k : Int) ∧ v20 = .bool (doneOf st) ∧ Fr.CutAt w gy s0 b (.slice oa XL oc) X k G (.slice ga G.length gc) st O wr) (fun _ _ v17 _ _ _ _ => 3000 - (intOf v17).toNat)
      case atStart => exact ⟨0, [], none, 0, s0, O2, by rw [HE0.out], rfl, rfl, by rw [HD0.out], HA0.out⟩
      case round =>
        obtain ⟨k, G, ga, gc, st, O, rfl, rfl, rfl, rfl, hA⟩ := hrel
        have HA := Lib.hid hA
        have hk := hA.le
        have hG := hA.accLe
        clear hA HA0
        obtain ⟨D, hD⟩ : ∃ D, D = doneOf st := ⟨_, rfl⟩
        obtain ⟨E, hE⟩ : ∃ E, E = errOf st := ⟨_, rfl⟩
        rw [← hD, ← hE]
        by_cases hgo : k < b.length ∧ D = false ∧ E = 0
        · obtain ⟨hlt, rfl, rfl⟩ := hgo
          have hov := over_no HA.out.lone.good hD.symm hE.symm
          rcases HY.out with ⟨h0, _⟩ | ⟨B, off, cap, hv, hcap, hcm, hB, hh⟩
          · rw [h0] at hlt; simp at hlt
          injection hv with e1 _ e3
          subst e1 e3
          obtain ⟨c, hc⟩ : ∃ c, [c] = (b.drop k).take 1 := by
            refine ⟨b[k], ?_⟩
            rw [List.drop_eq_getElem_cons hlt]
            rfl
          have hr1 := run_one hov c
          have hso := step_out st c
          have hBY := byts_cut (k := k) (d := 1) (HY.out.below HA.out.lone.bel (Nat.le_refl _)) (Nat.lt_of_lt_of_le hB HA.out.lone.bel.size) hcap hcm (by omega)
          rw [← hc] at hBY
          have hFA := HA.out.lone.far
          have hCF := cut_feed HA.out 1 (by omega) (.slice (some ⟨B, off + k, none⟩) 1 (WC - k)) [c] hc hBY (fun _ j hj hO => by
            injection hj with hj
            have hj' : B = j := hj
            have := (hFA j hO).1
            omega) (by omega) HT.out HE.out
          rw [hr1] at hCF
          obtain ⟨o, S1, ho⟩ : ∃ o S1, Fr.step st c = (o, S1) := ⟨_, _, rfl⟩
          rw [ho] at hCF hso
          obtain ⟨D1, hD1⟩ : ∃ D1, D1 = doneOf S1 := ⟨_, rfl⟩
          obtain ⟨E1, hE1⟩ : ∃ E1, E1 = errOf S1 := ⟨_, rfl⟩
          obtain ⟨OL, hOL⟩ : ∃ OL, OL = o.length := ⟨_, rfl⟩
          simp only [← hD1, ← hE1, ← hOL] at hCF
          have HCF := Lib.hid hCF
          have HD1 := Lib.hid hD1
          have HE1 := Lib.hid hE1
          have HOL := Lib.hid hOL
          have hso' : OL ≤ 1 := by rw [hOL]; exact hso
          unfold maxLen at hcm
          clear hc hr1 hso hBY hFA hCF ho hD1 hE1 hD hE hh hov HNN hOL
          go_wp2_with fail
          refine HCF.out.mono ?_
          rintro e x6 ⟨ra, rc, O3, rfl, hM, _⟩
          have HM := Lib.hid hM
          have hsz := hM.lone.bel.size
          clear hM HCF
          go_wp2_with (at_builtin; refine wpList_append_any _ rfl _ _ 39 rfl w.heap.size _ _ G o rfl rfl hsz HM.out.got (src_byts HM.out.new.byts) (by have := HOL.out; omega) ?_; intro v7 x7 hp7; have hC7 := HM.out.next hp7; obtain ⟨a7, c7, hv7⟩ := hC7.got.form; subst hv7; have HC7 := Lib.hid hC7; clear hp7 hC7)
          go_roundw
          case rel => exact ⟨k + 1, G ++ o, a7, c7, S1, O3, by rw [HE1.out], by rw [List.length_append], by go_num, by rw [HD1.out], HC7.out⟩
          case measure => simp [intOf]; omega
        · have hends := HA.out.ends (by
            by_cases hlt : k < b.length
            · left
              apply over_of
              rw [← hD, ← hE]
              by_cases hd : D = false
              · right; exact fun h0 => hgo ⟨hlt, hd, h0⟩
              · left; simpa using hd
            · right; omega)
          rw [HNN.out] at hends
          injection hends with hx1 hx2
          injection hx2 with hx2 hx3
          subst hx1 hx2 hx3
          have e1 : D = DD := by rw [hD, HDD.out]
          have e2 : E = EE := by rw [hE, HEE.out]
          subst e1 e2
          have hc1 := conv_own HA.out.out
          have hc2 := conv_own HA.out.got
          obtain ⟨TX, hTX⟩ : ∃ TX : ByteArray, TX = ⟨X.toArray⟩ := ⟨_, rfl⟩
          rw [← hTX] at hc1 hc2
          have eN : ((N : Int) == (N : Int)) = true := by simp
          have eD : (D == D) = true := by simp
          have eE : ((E : Int) == (E : Int)) = true := by simp
          have HBe := Lib.hid HA.out.lone.bel
          clear hTX hD hE
          have hex : ¬ (N < b.length) ∨ (N < b.length ∧ D = true) ∨ (N < b.length ∧ D = false ∧ E ≠ 0) := by
            by_cases hlt : N < b.length
            · cases D with
              | true => exact .inr (.inl ⟨hlt, rfl⟩)
              | false => exact .inr (.inr ⟨hlt, rfl, fun h0 => hgo ⟨hlt, rfl, h0⟩⟩)
            · exact .inl hlt
          clear hgo
          rcases hex with hlt | ⟨hlt, rfl⟩ | ⟨hlt, rfl, hE0⟩
          case' inr.inr => have hne : ((E : Int) == 0) = false := by rw [beq_eq_false_iff_ne]; omega
          all_goals
            go_wp2_with fail
            go_ret
            exact ⟨rfl, HBe.out⟩

set_option maxHeartbeats 2000000 in
set_option maxRecDepth 100000 in
theorem contract (H : Type) (enc : TypeId × Value → H) (W : World) (base : Nat) (args : Array Value) (ds gs : List (DataW H)) (before : List MemPlace)
    (hval : ∀ (j : Nat) t v, Tryd.f8.params[j]? = some t → args[j]? = some v → Value.okWide Tryd.prog W .any base t v)
    (hW : DataW.Whole enc Tryd.prog Tryd.f8.params.toList Rows.framingCutsSpec.vars false W args.toList ds gs before) (ts : List TypeId) (hsz : (DataW.weightsEach Tryd.prog (Tryd.f8.params.toList ++ ts) (ds ++ gs)).all (· ≤ reachBytes) = true) (hL : laidMetH Tryd.prog Rows.framingCutsRow.laid W) :
    Calls Tryd.prog 8 args W fun e W' => ∃ v, e = .returned v ∧ Rows.framingCutsSpec.post enc Tryd.prog Tryd.f8 false true false false W args v W' := by
  have hW' := hW
  obtain ⟨p, q, hA0, hV, rfl, hfz, hnd⟩ := hW
  have hA : DataW.TrodAll enc Tryd.prog W 0 (fun _ => true) true Tryd.f8.params.toList args.toList ds p := hA0
  rw [Tryd.params8] at hA hval hsz
  obtain ⟨v0, vs0, d0, ds0, p0, q0, hargs, rfl, rfl, h0, r0⟩ := trodAll_cons hA
  obtain ⟨v1, vs1, d1, ds1, p1, q1, rfl, rfl, rfl, h1, r1⟩ := trodAll_cons r0
  obtain ⟨v2, vs2, d2, ds2, p2, q2, rfl, rfl, rfl, h2, r2⟩ := trodAll_cons r1
  obtain ⟨rfl, rfl, rfl⟩ := trodAll_nil r2
  obtain rfl : args = #[v0, v1, v2] := by cases args; simp_all
  obtain ⟨rfl, rfl⟩ := trodVars_none hV
  obtain ⟨a0, rfl, rfl, rfl, w0⟩ := open_int Tryd.underlying3 (hval 0 3 v0 rfl rfl) h0
  obtain ⟨a1, rfl, rfl, rfl, w1⟩ := open_int Tryd.underlying3 (hval 1 3 v1 rfl rfl) h1
  have k2 := h2
  have lt2 : ∀ x ∈ p2, x.block < W.heap.size := by obtain ⟨m, hm⟩ := k2; exact DataW.trod_lt m _ _ _ hm
  obtain ⟨ls2, f2, l2⟩ := Hd.open_byts (hval 2 39 v2 rfl rfl) h2
  clear hA0
  simp only [List.append_nil] at hW'
  refine (walk a0 w0 a1 w1 v2 ls2 W (Tb.tok_of_head (Tb.tail (Tb.tail (Tb.tail (Tb.tail (Tb.tail (Tb.tail hL))))))) (Tb.err_of_head (Tb.tail (Tb.tail (Tb.tail (Tb.tail (Tb.tail hL)))))) f2 l2).mono fun e W' ⟨he, bel⟩ => ?_
  subst he
  exact ⟨_, rfl, _, _, _, [], _, [], hW', trodAll_mk1 (shut_bool Tryd.underlying4 _), (trodAll_cons_mk (shut_int Tryd.underlying3 w0) (trodAll_cons_mk (shut_int Tryd.underlying3 w1) (trodAll_cons_mk (Below.trod Tb.laidOut (by kernel_rfl) (of_decide_eq_true (by kernel_rfl)) k2 bel lt2) trodAll_mk0))), rfl, bel.frame _, fun h => by cases h⟩

theorem laid_met (os : Os) : laidMet Tryd.prog Rows.framingCutsRow.laid ((Tb.laidWorld os).forCall (fun _ _ => 0) ⟨#[], #[.int .i64 0, .int .i64 0, .slice none 0 0], []⟩).memory :=
  laidMet_of_run' 8 (by kernel_rfl) (by kernel_rfl)
theorem reads (os : Os) {H : Type} (enc : TypeId × Value → H) : ∃ places, DataW.whole enc Tryd.prog ((Tb.laidWorld os).forCall (fun _ _ => 0) ⟨#[], #[.int .i64 0, .int .i64 0, .slice none 0 0], []⟩).memory Tryd.f8.params.toList Rows.framingCutsSpec.vars false (#[.int .i64 0, .int .i64 0, .slice none 0 0] : Array Value).toList 8 = some ([.lit (.int .i64 0), .lit (.int .i64 0), .nil], [], places) :=
  ⟨[], by kernel_rfl⟩

set_option maxRecDepth 100000 in
theorem lifted (os : Os) (started : os.Started) (H : Type) (enc : TypeId × Value → H) (F : Stop.Interp) :
    ReturnsInHanded {} Tryd.checked os 8 .any ((OpenSpec.ofChange Rows.framingCutsSpec).preRow enc Tryd.prog Tryd.f8 Rows.framingCutsRow.domain false Rows.framingCutsRow.laid) (((OpenSpec.ofChange Rows.framingCutsSpec).at F).post enc Tryd.prog Tryd.f8 false true false false) := by
  obtain ⟨places, hx⟩ := reads os enc
  refine returnsInHanded_of_row (C := Tryd.checked) (s := OpenSpec.ofChange Rows.framingCutsSpec) Tb.own started (by kernel_rfl) Tryd.func8
    (witness_row_atRef (enc := enc) (C := Tryd.checked) false (Tb.laidWorld os) #[.int .i64 0, .int .i64 0, .slice none 0 0] rfl (by kernel_rfl) (by kernel_rfl) (by kernel_rfl)
      (OpenSpec.preRow_of_cond 8 hx (by kernel_rfl) (fun k hk => by cases hk) (by kernel_rfl) (laid_met os))) ?_
  intro W base args ds gs before hval hW _ _ hsz hL _ _
  exact contract H enc W base args ds gs before hval hW _ hsz hL

theorem said : Rows.FramingCutsSaid :=
  OpenClaim.holds_of_cond 8 Tryd.f8 rfl rfl rfl rfl rfl rfl rfl ⟨rfl, rfl, rfl, rfl, rfl⟩ rfl rfl rfl rfl rfl (by kernel_rfl) Tryd.func8 (by kernel_rfl)
    (of_decide_eq_true (by kernel_rfl)) (by unfold Func.isWrapper; first | (rw [if_pos (by decide +kernel)]; kernel_rfl) | (rw [if_neg (by decide +kernel)]; exact ⟨rfl, rfl⟩))
    (fun os started H enc _ F => by rw [OpenClaim.pre_eq_preRow]; exact lifted os started H enc F)

set_option maxRecDepth 100000 in
theorem plain (f : FuncId) (fn : Func) (hf : Tryd.pinned.checked.prog.funcNamed "gatepost/gatepostlaw06.FramingCuts" = some f) (hfn : Tryd.pinned.checked.prog.funcs[f]? = some fn) :
    true = Tryd.pinned.checked.prog.looks [] ∧ ∀ (j : Nat) t, fn.params[j]? = some t → Tryd.pinned.checked.prog.wantsStandIn t = false := by
  obtain rfl : f = 8 := Option.some.inj ((show Tryd.prog.funcNamed "gatepost/gatepostlaw06.FramingCuts" = some 8 by kernel_rfl).symm.trans hf) |>.symm
  obtain rfl : fn = Tryd.f8 := (Option.some.inj (Tryd.func8.symm.trans hfn)).symm
  refine ⟨by kernel_rfl, fun j t ht => ?_⟩
  rw [Tryd.params8] at ht
  have hm := Array.mem_of_getElem? ht
  simp at hm
  rcases hm with rfl | rfl
  · exact (show Tryd.prog.wantsStandIn 3 = false by kernel_rfl)
  · exact (show Tryd.prog.wantsStandIn 39 = false by kernel_rfl)

theorem card : Rows.FramingCutsCardSaid :=
  Claim7.holds_tied_plain_at .later [] _ _ _ _ said (fun _ h => by cases h) (by kernel_rfl) (fun _ h => by cases h) framingCuts_row_tie rfl ⟨rfl, rfl⟩ (by kernel_rfl) rfl plain (by kernel_rfl)
end Go.Proofs.YtcolnidgembniaaDoor.framingCuts
