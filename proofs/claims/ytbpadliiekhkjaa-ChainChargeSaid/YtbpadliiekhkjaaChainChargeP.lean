/-
  ChainCharge: A chain has as many bytes of blocks as it needs, and no block more.
  Conditions: none.
-/
import Derived.Test.YtbpadliiekhkjaaRows
import Derived.Test.YtbpadliiekhkjaaCHNP19
import Derived.Test.YtbpadliiekhkjaaCHNP20
import Derived.Deep.DeepCutAuto
import Derived.Deep.RegionHeld3
import Derived.WalkKit
import Derived.WalkLawsBesides
import Derived.ProofKit
import Derived.OpenShut
import Derived.ShutString
import Derived.SizedLaws
import Derived.Carry
import Derived.Below
import Derived.Outline
import Derived.Lib.Hide
namespace Go.Proofs.Ytbpadliiekhkjaa.chainCharge
open Go.ChangeShapes Go.WideShapes Go.ChangeAt Go.RowKit
open Go.ChangeMaps (open_string shut_string)
set_option linter.unusedVariables false

theorem own : ownKnob Try.prog.godebug = none := by kernel_rfl
theorem laidOut : laidOutB Try.prog = true := by kernel_rfl

open Go.Proofs.Ytbpadliiekhkjaa.Fd Go.Proofs.Ytbpadliiekhkjaa.Sl Go.Proofs.Ytbpadliiekhkjaa.Ch
theorem prel_len {w : World} {O : Nat → Prop} {p : Nat} {n : Nat → Nat} {A : Ar} {G : Nat} (h : So.PRel w O p n A G) : ∀ c, c < 4 → (A c).length = n c := by
  obtain ⟨gs, Q, M, h1, _⟩ := h.it
  exact h1.len
/-- What holds ahead of each piece. -/
structure Rd (w : World) (p cp i : Nat) (W : World) : Prop where
  it : ∃ (O : Nat → Prop) (A : Ar) (G : Nat) (hv : Value) (c : Chn), Ls w O p (fun _ => 40) A G cp hv c W ∧ G ≤ i * 1048576 ∧ OpenC c ∧ c.bytes.length ≤ i * 4095 ∧ ∀ d, d < 4 → (A d).countP heldP ≤ i
set_option maxRecDepth 100000 in
set_option maxHeartbeats 16000000 in
theorem walk (v0 : Value) (ls0 : Nat) (w : World) (f0 : Hd.Ints w v0 ls0) (l0 : ls0 ≤ maxLen) :
    Calls Try.prog 6 #[v0] w fun e w' => e = .returned (.bool true) ∧ Below w.heap.size w w' := by
  obtain ⟨va, vc, hv0⟩ := f0.shape
  subst hv0
  unfold maxLen at l0
  go_enter Try.func6, Try.ntmps6
  go_wp2_with fail
  refine (pnew_any (fun _ => 40) w).mono ?_
  rintro e w1 ⟨hb1, h2⟩
  rcases h2 with ⟨⟨k, _, hk⟩, _⟩ | ⟨_, ⟨k, _, hk⟩, _⟩ | ⟨_, p, rfl, hr⟩
  · exact absurd hk (by show ¬ (40 : Int) < 0; decide)
  · exact absurd hk (by show ¬ (4096 : Int) < 40; decide)
  have HN := Lib.hid (ls_new (n := fun _ => 40) w w1 hr hb1)
  clear hr hb1
  go_wp2_with fail
  refine HN.out.mono ?_
  rintro e w2 ⟨cp, O, rfl, hL⟩
  have HR0 := Lib.hid (show Rd w p cp 0 w2 from ⟨O, _, 0, _, newC, hL, Nat.zero_le _, open_new, Nat.zero_le _, fun d _ => by
    show (List.replicate 40 (⟨0, 0, []⟩ : Blk)).countP heldP ≤ 0
    rw [List.countP_replicate]
    exact Nat.le_refl _⟩)
  clear hL HN
  go_wp2_with fail
  go_loopw [6] (fun s6 wr => ∃ i : Nat, i ≤ ls0 ∧ i ≤ 20 ∧ s6 = .int .i64 (i : Int) ∧ Rd w p cp i wr) (fun s6 _ => 20 - (intOf s6).toNat)
  case atStart => exact ⟨0, Nat.zero_le _, Nat.zero_le _, rfl, HR0.out⟩
  case round =>
    clear HR0
    obtain ⟨i, hi1, hi2, rfl, hR⟩ := hrel
    obtain ⟨O, A, G, hv, c, hL, hG, ho, hcb, hlv⟩ := hR.it
    have hcc : chargeC c = sizesOf c.hs := by unfold chargeC; rw [ho.freed]; rfl
    have hlc : lenC c = c.bytes.length := by unfold lenC; rw [ho.freed]; rfl
    obtain ⟨k1, k2, k3⟩ := (hL.good.b 0 c rfl ho.freed).few
    have hfit := (hL.good.b 0 c rfl ho.freed).fit
    obtain ⟨CH, hCH⟩ : ∃ CH, CH = chargeC c := ⟨_, rfl⟩
    have hCHb : CH ≤ 1052672 := by rw [hCH, hcc]; exact k1
    by_cases hlt : i < ls0 ∧ i < 20
    · obtain ⟨hl1, hl2⟩ := hlt
      have hli1 : (i : Int) < (ls0 : Int) := by omega
      have hli2 : (i : Int) < 20 := by omega
      obtain ⟨g, off, z, rfl, hg, d0⟩ : ∃ g off, ∃ z : Int, va = some ⟨g, off, none⟩ ∧ g < w.heap.size ∧ w.cell? ⟨g, off + i, none⟩ = some (.int .i64 z) := by
        rcases f0 with ⟨h1, _⟩ | ⟨g, off, cap, h1, h2, h3⟩
        · omega
        · injection h1 with e1 e2 e3
          obtain ⟨z, hz⟩ := h3 i hl1
          exact ⟨g, off, z, e1, h2, hz⟩
      obtain ⟨m, hm, hm2⟩ := mask_nat z 4095 (by omega)
      have hm' : bits BinOp.and IntKind.i64 z 4095 = (m : Int) := hm
      replace d0 := (hL.bel.cell (p := ⟨g, off + i, none⟩) hg).trans d0
      have HCg := Lib.hid (show Calls Try.prog 20 #[.pointer (some ⟨cp, 0, none⟩)] wr fun e w' => e = .returned (.int .i64 (CH : Int)) ∧ wr = w' from by
        have h1 := ccharge_any hL.pc
        rw [← hCH] at h1
        exact h1)
      have hmk := make_any wr m (by omega)
      obtain ⟨bs, hbs⟩ : ∃ bs : Tk.Bs, bs = List.replicate m 0 := ⟨_, rfl⟩
      have hbl : bs.length = m := by rw [hbs, List.length_replicate]
      obtain ⟨p1, p2, p3, p4, p5, p6, p7⟩ := append_one (A := A) (c := c) (b := bs) ho (by rw [hbl]; show m ≤ 1048576 - c.bytes.length; omega) (by omega) hfit (fun d hd => some_free (by rw [prel_len hL.rel d hd]; have := hlv d hd; omega))
      obtain ⟨w2, hw2⟩ : ∃ w2, w2 = wr.alloc (.cells (u8V (List.replicate m 0)) 5) := ⟨_, rfl⟩
      have hL2 := hL.next ((Below.refl wr.heap.size wr).alloc (Nat.le_refl _) (.cells (u8V (List.replicate m 0)) 5))
      have hby := made_byo wr m (by omega) (fun k hk => (hL.inO k hk).2)
      rw [← hw2, ← hbs] at hby
      rw [← hw2] at hL2
      have hap := hL2.append _ bs hby (by omega) (by omega)
      obtain ⟨⟨er, A2, c2⟩, hr2⟩ : ∃ r, r = appendP A c bs := ⟨_, rfl⟩
      rw [← hr2] at hap p1 p2 p3 p4 p5 p6 p7
      replace p1 : er = 0 := p1
      subst p1
      obtain ⟨CH2, hCH2⟩ : ∃ CH2, CH2 = chargeC c2 := ⟨_, rfl⟩
      obtain ⟨L2, hL2e⟩ : ∃ L2, L2 = lenC c2 := ⟨_, rfl⟩
      replace p4 : CH ≤ CH2 := by rw [hCH, hCH2]; exact p4
      replace p5 : L2 ≤ CH2 := by rw [hCH2, hL2e]; exact p5
      replace p6 : 0 < m → CH2 < CH + (m + 4096) := fun q => by rw [hCH, hCH2, ← hbl]; exact p6 (by omega)
      have p3b : c2.bytes.length = c.bytes.length + m := by
        have h1 : c2.bytes = c.bytes ++ bs := p3
        rw [h1, List.length_append, hbl]
      have HAp := Lib.hid hap
      have HW2 := Lib.hid hw2
      have HRn := Lib.hid (fun V O' hv' (h : Ls w O' p (fun _ => 40) A2 (G + 1048576) cp hv' c2 V) => (show Rd w p cp (i + 1) V from ⟨O', A2, _, hv', c2, h, by omega, p2, by omega, fun d hd => by have h1 := p7 d; have h2 := hlv d hd; replace h1 : (A2 d).countP heldP ≤ (A d).countP heldP + 1 := h1; omega⟩))
      have HCg2 := Lib.hid (fun V O' hv' (h : Ls w O' p (fun _ => 40) A2 (G + 1048576) cp hv' c2 V) => (show Calls Try.prog 20 #[.pointer (some ⟨cp, 0, none⟩)] V fun e w' => e = .returned (.int .i64 (CH2 : Int)) ∧ V = w' from by
        have h1 := ccharge_any h.pc
        rw [← hCH2] at h1
        exact h1))
      have HLn2 := Lib.hid (fun V O' hv' (h : Ls w O' p (fun _ => 40) A2 (G + 1048576) cp hv' c2 V) => (show Calls Try.prog 19 #[.pointer (some ⟨cp, 0, none⟩)] V fun e w' => e = .returned (.int .i64 (L2 : Int)) ∧ V = w' from by
        have h1 := clen_any h.pc
        rw [← hL2e] at h1
        exact h1))
      have HCb := Lib.hid (fun V O' hv' (h : Ls w O' p (fun _ => 40) A2 (G + 1048576) cp hv' c2 V) => (show CH2 ≤ 1052672 from by
        have h1 := (h.good.b 0 c2 rfl p2.freed).few.1
        rw [hCH2]
        unfold chargeC
        rw [p2.freed]
        exact h1))
      clear hL hR ho hcb hlv hcc hlc k1 k2 k3 hfit hCH hm hbs hbl p2 p3 p7 hw2 hL2 hby hap hr2 hCH2 hL2e p3b hG
      go_upto_region 10 with (go_at_call 20; refine HCg.out.mono ?_; rintro e w3 ⟨rfl, hw⟩; subst hw)
      go_wp2_with fail
      rw [← HW2.out]
      refine HAp.out.mono ?_
      rintro e w5 ⟨rfl, ⟨O', hv', hL5⟩, _⟩
      have HR5 := Lib.hid (HRn.out _ _ _ hL5)
      have HC5 := Lib.hid (HCg2.out _ _ _ hL5)
      have HL5 := Lib.hid (HLn2.out _ _ _ hL5)
      have hb5 := HCb.out _ _ _ hL5
      have hle5 : ¬ ((CH2 : Int) < (L2 : Int)) := by omega
      clear hL5 HAp HRn HCg2 HLn2 HCb HCg hmk d0
      go_upto_region 12 with (first | (go_at_call 20; refine HC5.out.mono ?_; rintro e w6 ⟨rfl, hw⟩; subst hw) | (go_at_call 19; refine HL5.out.mono ?_; rintro e w6 ⟨rfl, hw⟩; subst hw))
      have hd5 : decide (CH2 < L2) = false := decide_eq_false (by omega)
      rw [hd5]
      clear hle5 hd5
      have hs1 : IntKind.i64.wrap ((CH2 : Int) - (CH : Int)) = (CH2 : Int) - (CH : Int) := IntWalk.i64_in _ (by omega)
      have hs2 : IntKind.i64.wrap ((m : Int) + 4096) = (m : Int) + 4096 := IntWalk.i64_in _ (by omega)
      go_cut [69] from 53 to 69 (fun s69 wx => s69 = .bool false ∧ w5 = wx)
      case first =>
        by_cases hm0 : 0 < m
        · have hmi : (0 : Int) < (m : Int) := by omega
          by_cases hcc : CH < CH2
          · have hci : (CH : Int) < (CH2 : Int) := by omega
            have hge : ¬ ((m : Int) + 4096 ≤ (CH2 : Int) - (CH : Int)) := by have := p6 hm0; omega
            clear p6
            go_wp2_with fail
            refine HC5.out.mono ?_
            rintro e w6 ⟨rfl, hw⟩
            subst hw
            go_wp2_with fail
            refine HC5.out.mono ?_
            rintro e w6 ⟨rfl, hw⟩
            subst hw
            go_wp2_with fail
            go_meet
            exact ⟨by rw [decide_eq_false (by omega)], rfl⟩
          · have hci : ¬ (CH : Int) < (CH2 : Int) := by omega
            clear p6
            go_wp2_with fail
            refine HC5.out.mono ?_
            rintro e w6 ⟨rfl, hw⟩
            subst hw
            go_wp2_with fail
            go_meet
            exact ⟨rfl, rfl⟩
        · have hmi : ¬ (0 : Int) < (m : Int) := by omega
          clear p6
          go_wp2_with fail
          go_meet
          exact ⟨rfl, rfl⟩
      case rest =>
      obtain ⟨rfl, hwc⟩ := hcut
      replace hwc := hwc.symm
      subst hwc
      clear p6 hs1 hs2
      go_upto_region 14 with fail
      go_cut [79] from 70 to 79 (fun s79 wx => s79 = .bool false ∧ wc = wx)
      case first =>
        by_cases hcc : CH2 = CH
        · have hci : ((CH2 : Int) == (CH : Int)) = true := by rw [beq_iff_eq, hcc]
          have hli : ¬ ((CH : Int) < (L2 : Int)) := by omega
          clear hcc
          go_wp2_with fail
          refine HC5.out.mono ?_
          rintro e w6 ⟨rfl, hw⟩
          subst hw
          go_wp2_with fail
          refine HL5.out.mono ?_
          rintro e w6 ⟨rfl, hw⟩
          subst hw
          go_wp2_with fail
          go_meet
          exact ⟨by rw [decide_eq_false (by omega)], rfl⟩
        · have hci : ((CH2 : Int) == (CH : Int)) = false := by rw [beq_eq_false_iff_ne]; omega
          clear hcc
          go_wp2_with fail
          refine HC5.out.mono ?_
          rintro e w6 ⟨rfl, hw⟩
          subst hw
          go_wp2_with fail
          go_meet
          exact ⟨rfl, rfl⟩
      case rest =>
      obtain ⟨rfl, hwc⟩ := hcut
      replace hwc := hwc.symm
      subst hwc
      go_wp2_with fail
      go_roundw
      case rel => exact ⟨i + 1, by omega, by omega, by go_num, HR5.out⟩
      case measure => simp [intOf]; omega
    · have hend : (lenC c : Int) ≤ 81900 := by omega
      have HLn := Lib.hid (clen_any hL.pc)
      have HRd := Lib.hid (show Calls Try.prog 17 #[.pointer (some ⟨cp, 0, none⟩), .int .i64 (lenC c : Int), .int .i64 1] wr (CReadP ([], 2) wr) from by
        have h1 := cread_any (lenC c : Int) 1 wr hL.rel.toSl hL.pc (fun hf => hL.good.b 0 c rfl hf) (by omega) (by omega)
        rw [show readC c (lenC c : Int) 1 = ([], 2) from by
          unfold readC
          rw [ho.freed, if_neg (by decide), if_neg (by rw [hlc]; omega)]] at h1
        exact h1)
      have hfin : (appendP A c []).1 = 0 := by
        rcases append_parts (A := A) (b := []) ho (Nat.zero_le _) with ⟨_, h2⟩ | ⟨h1, _⟩
        · rw [h2]
        · rw [show ([] : Tk.Bs).length - roomC c = 0 from by simp, takeAll_zero] at h1
          cases h1
      have HAp := Lib.hid (fun V (hb : Below wr.heap.size wr V) => (hL.next hb).append (.slice none 0 0) [] ⟨none, 0, rfl, Nat.le_refl _, by unfold maxLen; omega, .inl ⟨rfl, rfl⟩⟩ (by omega) (by simp))
      rw [hfin] at HAp
      have hii : ¬ ((i : Int) < (ls0 : Int)) ∨ ((i : Int) < (ls0 : Int) ∧ ¬ ((i : Int) < 20)) := by omega
      obtain ⟨LC, hLC⟩ : ∃ LC, LC = lenC c := ⟨_, rfl⟩
      rw [← hLC] at HLn HRd
      clear hL hR ho hcb hlv hcc hlc k1 k2 k3 hfit hCH hfin hend hLC hlt
      rcases hii with hii | ⟨hii, hij⟩
      all_goals
        go_wp2_with fail
        refine HLn.out.mono ?_
        rintro e w3 ⟨rfl, hw⟩
        subst hw
        go_wp2_with fail
        refine HRd.out.mono ?_
        rintro e w3 ⟨gv, rfl, _, hb3⟩
        go_wp2_with fail
        refine (HAp.out _ hb3).mono ?_
        rintro e w4 ⟨rfl, ⟨_, _, hL4⟩, _⟩
        have HB4 := Lib.hid hL4.bel
        clear hL4
        go_wp2_with fail
        go_ret
        exact ⟨rfl, HB4.out⟩

set_option maxRecDepth 100000 in
theorem lifted (os : Os) (started : os.Started) (H : Type) (enc : TypeId × Value → H) :
    ReturnsInHanded {} Try.checked os 6 .any (Rows.chainChargeSpec.pre6 enc Try.prog Try.f6 Rows.chainChargeRow.domain false) (Rows.chainChargeSpec.post enc Try.prog Try.f6 false true false false) := by
  refine returnsInHanded_of_change_sized (C := Try.checked) own started (by kernel_rfl) Try.func6
    (ChangeSpec.witness6 (enc := enc) (C := Try.checked) false ⟨#[], #[.slice none 0 0], []⟩ 8 (by kernel_rfl) (by kernel_rfl) (by kernel_rfl) (by kernel_rfl)) ?_
  intro W base args ds gs before hval0 hW hcnd hsz _
  have hval : ∀ (j : Nat) t v, Try.f6.params[j]? = some t → args[j]? = some v → Value.okWide Try.prog W .any base t v := hval0
  have hW' := hW
  obtain ⟨p, q, hA0, hV, rfl, hfz, hnd⟩ := hW
  have hA : DataW.TrodAll enc Try.prog W 0 (fun _ => true) true Try.f6.params.toList args.toList ds p := hA0
  rw [Try.params6] at hA hval hsz
  obtain ⟨v0, vs0, d0, ds0, p0, q0, hargs, rfl, rfl, h0, r0⟩ := trodAll_cons hA
  obtain ⟨rfl, rfl, rfl⟩ := trodAll_nil r0
  obtain rfl : args = #[v0] := by cases args; simp_all
  obtain ⟨rfl, rfl⟩ := trodVars_none hV
  have k0 := h0
  have lt0 : ∀ x ∈ p0, x.block < W.heap.size := by obtain ⟨m, hm⟩ := k0; exact DataW.trod_lt m _ _ _ hm
  obtain ⟨ls0, f0, l0⟩ := Hd.open_nums (hval 0 69 v0 rfl rfl) h0
  clear hA0 hval0
  simp only [List.append_nil] at hW'
  refine (walk v0 ls0 W f0 l0).mono fun e W' ⟨he, bel⟩ => ?_
  subst he
  exact ⟨_, rfl, _, _, _, [], _, [], hW', trodAll_mk1 (shut_bool Try.underlying4 _), (trodAll_cons_mk (Below.trod laidOut (by kernel_rfl) (of_decide_eq_true (by kernel_rfl)) k0 bel lt0) trodAll_mk0), rfl, bel.frame _, fun h => by cases h⟩

theorem over : Rows.chainChargeRow.holds Try.pinned (OpenSpec.ofChange Rows.chainChargeSpec) :=
  OpenClaim.holds_of_wide 6 Try.f6 rfl rfl rfl rfl rfl rfl rfl ⟨rfl, rfl, rfl, rfl, rfl⟩ rfl rfl rfl rfl rfl (by kernel_rfl) Try.func6 (by kernel_rfl)
    (of_decide_eq_true (by kernel_rfl)) (by unfold Func.isWrapper; first | (rw [if_pos (by decide +kernel)]; kernel_rfl) | (rw [if_neg (by decide +kernel)]; exact ⟨rfl, rfl⟩))
    (fun os started H enc _ => lifted os started H enc)

theorem proved : Rows.ChainChargeSaid := over
end Go.Proofs.Ytbpadliiekhkjaa.chainCharge
