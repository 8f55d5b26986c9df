/-
  ChainNone: What finds no room is not put behind at all: bytes and blocks stay as they were.
  Conditions: none.
-/
import Derived.Test.YtbpadliiekhkjaaRows
import Derived.Test.YtbpadliiekhkjaaCHNP19
import Derived.Deep.DeepCutAuto
import Derived.Deep.RegionHeld3
import Derived.WalkKit
import Derived.WalkLawsBesides
import Derived.ProofKit
import Derived.OpenShut
import Derived.ShutString
import Derived.SizedLaws
import Derived.Carry
import Derived.Below
import Derived.Outline
import Derived.Lib.Hide
namespace Go.Proofs.Ytbpadliiekhkjaa.chainNone
open Go.ChangeShapes Go.WideShapes Go.ChangeAt Go.RowKit
open Go.ChangeMaps (open_string shut_string)
set_option linter.unusedVariables false

theorem own : ownKnob Try.prog.godebug = none := by kernel_rfl
theorem laidOut : laidOutB Try.prog = true := by kernel_rfl

open Go.Proofs.Ytbpadliiekhkjaa.Fd Go.Proofs.Ytbpadliiekhkjaa.Sl Go.Proofs.Ytbpadliiekhkjaa.Ch
theorem prel_len {w : World} {O : Nat → Prop} {p : Nat} {n : Nat → Nat} {A : Ar} {G : Nat} (h : So.PRel w O p n A G) : ∀ c, c < 4 → (A c).length = n c := by
  obtain ⟨gs, Q, M, h1, _⟩ := h.it
  exact h1.len
theorem one_way {A : Ar} {d : Nat} (hd : d < 4) (h : (A d).length = 1) : liveA A (d : Int) = 0 ∨ liveA A (d : Int) = 1 := by
  rw [live_n _ _ hd]
  have := List.countP_le_length (p := heldP) (l := A d)
  omega
theorem eq4 (W : World) (a b c d : Int) (ha : a = 0 ∨ a = 1) (hb : b = 0 ∨ b = 1) (hc : c = 0 ∨ c = 1) (hd : d = 0 ∨ d = 1) :
    (Op.equalIn 10000 22 (.agg #[.int .i64 a, .int .i64 b, .int .i64 c, .int .i64 d]) (.agg #[.int .i64 a, .int .i64 b, .int .i64 c, .int .i64 d])).run Try.prog W = .ok true W := by
  rcases ha with rfl | rfl <;> rcases hb with rfl | rfl <;> rcases hc with rfl | rfl <;> rcases hd with rfl | rfl <;> kernel_rfl
set_option maxRecDepth 100000 in
set_option maxHeartbeats 16000000 in
theorem walk (a0 : Int) (w0 : (Lit.int .i64 a0).wf = true) (a1 : Int) (w1 : (Lit.int .i64 a1).wf = true) (w : World) :
    Calls Try.prog 5 #[.int .i64 a0, .int .i64 a1] w fun e w' => e = .returned (.bool true) ∧ Below w.heap.size w w' := by
  clear w0 w1
  obtain ⟨f, hf, hf2⟩ := mask_nat a0 1023 (by omega)
  obtain ⟨m, hm, hm2⟩ := mask_nat a1 8191 (by omega)
  have hf' : bits BinOp.and IntKind.i64 a0 1023 = (f : Int) := hf
  have hm' : bits BinOp.and IntKind.i64 a1 8191 = (m : Int) := hm
  clear hf hm
  obtain ⟨M, hM⟩ : ∃ M, M = m + 1 := ⟨_, rfl⟩
  have hmo : IntKind.i64.wrap (1 + (m : Int)) = (M : Int) := by rw [IntWalk.i64_in _ (by omega)]; omega
  have hMb : M ≤ 8192 := by omega
  have hM1 : 1 ≤ M := by omega
  clear hM
  have hmk1 := fun W => make_any W f (by omega)
  have hmk2 := fun W => make_any W M (by omega)
  obtain ⟨b1, hb1⟩ : ∃ b1 : Tk.Bs, b1 = List.replicate f 0 := ⟨_, rfl⟩
  obtain ⟨b2, hb2⟩ : ∃ b2 : Tk.Bs, b2 = List.replicate M 0 := ⟨_, rfl⟩
  have HB1 := Lib.hid hb1
  have HB2 := Lib.hid hb2
  have HB1l := Lib.hid (show b1.length = f from by rw [hb1, List.length_replicate])
  have HB2l := Lib.hid (show b2.length = M from by rw [hb2, List.length_replicate])
  clear hb1 hb2
  have HF1 := Lib.hid (append_first (n := fun _ => 1) (b := b1) (fun _ _ => Nat.one_pos) (by rw [HB1l.out]; omega))
  have HF2 := Lib.hid (append_ways (A := newA fun _ => 1) (c := newC) (b := b1) open_new (by rw [HB1l.out]; show f ≤ 1048576 - 0; omega) (Nat.zero_le _))
  go_enter Try.func5, Try.ntmps5
  go_wp2_with fail
  refine (pnew_any (fun _ => 1) w).mono ?_
  rintro e w1 ⟨hb1, h2⟩
  rcases h2 with ⟨⟨k, _, hk⟩, _⟩ | ⟨_, ⟨k, _, hk⟩, _⟩ | ⟨_, p, rfl, hr⟩
  · exact absurd hk (by show ¬ (1 : Int) < 0; decide)
  · exact absurd hk (by show ¬ (4096 : Int) < 1; decide)
  have HN := Lib.hid (ls_new (n := fun _ => 1) w w1 hr hb1)
  clear hr hb1
  go_wp2_with fail
  refine HN.out.mono ?_
  rintro e w2 ⟨cp, O, rfl, hL⟩
  have HL2 := Lib.hid (hL.next ((Below.refl w2.heap.size w2).alloc (Nat.le_refl _) (.cells (u8V (List.replicate f 0)) 5)))
  have HBy2 := Lib.hid (made_byo w2 f (by omega) (fun k hk => (hL.inO k hk).2))
  rw [← HB1.out] at HL2 HBy2
  have HA2 := Lib.hid (HL2.out.append _ b1 HBy2.out (by omega) (by rw [HB1l.out]; omega))
  rw [HF1.out, HB1.out] at HA2
  clear hL HN
  go_wp2_with fail
  refine HA2.out.mono ?_
  rintro e w3 ⟨rfl, ⟨O3, hv3, hL3⟩, _⟩
  obtain ⟨A1, hA1⟩ : ∃ A1, A1 = (appendP (newA fun _ => 1) newC b1).2.1 := ⟨_, rfl⟩
  obtain ⟨c1, hc1⟩ : ∃ c1, c1 = (appendP (newA fun _ => 1) newC b1).2.2 := ⟨_, rfl⟩
  rw [← HB1.out] at hL3
  rw [← hA1, ← hc1] at hL3
  obtain ⟨ho1, hl1⟩ : OpenC c1 ∧ lenC c1 = f := by
    rcases HF2.out with ⟨_, h2, h3, _⟩ | ⟨h1, _⟩
    · rw [← hc1] at h2 h3
      exact ⟨h2, by rw [h3, HB1l.out]; show 0 + f = f; omega⟩
    · rw [HF1.out] at h1; cases h1
  have hcb : chargeC c1 = sizesOf c1.hs := by unfold chargeC; rw [ho1.freed]; rfl
  have hlb : lenC c1 = c1.bytes.length := by unfold lenC; rw [ho1.freed]; rfl
  obtain ⟨k1, k2, k3⟩ := (hL3.good.b 0 c1 rfl ho1.freed).few
  have hfit := (hL3.good.b 0 c1 rfl ho1.freed).fit
  have HW := Lib.hid (append_ways (A := A1) (c := c1) (b := b2) ho1 (by rw [HB2l.out, ← hlb, hl1]; show M ≤ 1048576 - f; omega) hfit)
  have HRm := Lib.hid (room_free (A := A1) (fun d hd => prel_len hL3.rel d hd))
  obtain ⟨CH, hCH⟩ : ∃ CH, CH = chargeC c1 := ⟨_, rfl⟩
  have hCHb : CH ≤ 1052672 := by rw [hCH, hcb]; exact k1
  have hCHf : f ≤ CH := by rw [hCH, hcb, ← hl1, hlb]; exact hfit
  have HL1 := Lib.hid hl1
  have HCc := Lib.hid hCH
  have HLn := Lib.hid (fun V (h : PC V cp p hv3 c1) => (show Calls Try.prog 19 #[.pointer (some ⟨cp, 0, none⟩)] V fun e w' => e = .returned (.int .i64 (f : Int)) ∧ V = w' from by
    have h1 := clen_any h
    rw [hl1] at h1
    exact h1))
  have HCg := Lib.hid (fun V (h : PC V cp p hv3 c1) => (show Calls Try.prog 20 #[.pointer (some ⟨cp, 0, none⟩)] V fun e w' => e = .returned (.int .i64 (CH : Int)) ∧ V = w' from by
    have h1 := ccharge_any h
    rw [← hCH] at h1
    exact h1))
  rw [hl1, ← hCH] at HW
  obtain ⟨lv, hlv⟩ : ∃ lv : Nat → Int, lv = fun (d : Nat) => liveA A1 (d : Int) := ⟨_, rfl⟩
  rw [← hlv] at HRm
  have HLv := Lib.hid (fun (d : Nat) V (h : So.PRel V O3 p (fun _ => 1) A1 1048576) => (show Calls Try.prog 23 #[.pointer (some ⟨p, 0, none⟩), .int .i64 (d : Int)] V fun e w' => e = .returned (.int .i64 (lv d)) ∧ Below V.heap.size V w' from by
    have h1 := plive_any (d : Int) V h.toSl
    rw [hlv]
    exact h1))
  have HL01 := Lib.hid (fun (d : Nat) (hd : d < 4) => (show lv d = 0 ∨ lv d = 1 from by rw [hlv]; exact one_way hd (prel_len hL3.rel d hd)))
  have HLd := Lib.hid (fun (d : Nat) => show lv d = liveA A1 (d : Int) from by rw [hlv])
  have HL3 := Lib.hid hL3
  rw [show (0 : Nat) + 1048576 = 1048576 from rfl] at HL3
  clear hL3 hA1 hc1 ho1 hl1 hcb hlb k1 k2 k3 hfit hCH hlv HF1 HF2 HA2 HL2 HBy2
  go_wp2_with fail
  refine (HLn.out _ HL3.out.pc).mono ?_
  rintro e w4 ⟨rfl, rfl⟩
  go_wp2_with fail
  refine (HCg.out _ HL3.out.pc).mono ?_
  rintro e w4 ⟨rfl, rfl⟩
  go_wp2_with fail
  refine (HLv.out 0 _ HL3.out.rel).mono ?_
  rintro e w4 ⟨rfl, hb4⟩
  have HL4 := Lib.hid (HL3.out.next hb4)
  clear hb4
  go_wp2_with fail
  refine (HLv.out 1 _ HL4.out.rel).mono ?_
  rintro e w5 ⟨rfl, hb5⟩
  have HL5 := Lib.hid (HL4.out.next hb5)
  clear hb5
  go_wp2_with fail
  refine (HLv.out 2 _ HL5.out.rel).mono ?_
  rintro e w6 ⟨rfl, hb6⟩
  have HL6 := Lib.hid (HL5.out.next hb6)
  clear hb6
  go_wp2_with fail
  refine (HLv.out 3 _ HL6.out.rel).mono ?_
  rintro e w7 ⟨rfl, hb7⟩
  have HL7 := Lib.hid (HL6.out.next hb7)
  clear hb7
  have hB8 := (Below.refl w7.heap.size w7).alloc (Nat.le_refl _) (.cells #[.int .i64 (lv 0), .int .i64 (lv 1), .int .i64 (lv 2), .int .i64 (lv 3)] 22)
  have HL8 := Lib.hid (HL7.out.next hB8)
  have HX8 := Lib.hid (new_block w7 (.cells #[.int .i64 (lv 0), .int .i64 (lv 1), .int .i64 (lv 2), .int .i64 (lv 3)] 22))
  clear hB8
  go_wp2_with fail
  obtain ⟨lb, hlb⟩ : ∃ lb, lb = w7.heap.size := ⟨_, rfl⟩
  rw [← hlb] at HX8 ⊢
  clear hlb HL7 HL6 HL5 HL4
  go_loopw [11, 12] (fun s11 s12 wr => ∃ k : Nat, k ≤ 4 ∧ s12 = .int .i64 (k : Int) ∧ s11 = .int .i64 ((roomK lv k : Nat) : Int) ∧ Ls w O3 p (fun _ => 1) A1 1048576 cp hv3 c1 wr ∧ wr.heap[lb]? = some (.cells #[.int .i64 (lv 0), .int .i64 (lv 1), .int .i64 (lv 2), .int .i64 (lv 3)] 22 (0, 0))) (fun _ s12 _ => 4 - (intOf s12).toNat)
  case atStart => exact ⟨0, Nat.zero_le _, rfl, rfl, HL8.out, HX8.out⟩
  case round =>
    obtain ⟨k, hk, rfl, rfl, hLr, hXr⟩ := hrel
    have HLr := Lib.hid hLr
    have HXr := Lib.hid hXr
    have hrk := roomK_le lv k hk
    clear hLr HL8 HX8 HL3
    by_cases hlt : k < 4
    · have d0 : wr.cell? ⟨lb, k, none⟩ = some (.int .i64 (lv k)) := by
        rw [Lib.cell_of_heap hXr]
        rcases (by omega : k = 0 ∨ k = 1 ∨ k = 2 ∨ k = 3) with rfl | rfl | rfl | rfl <;> rfl
      have hki : (k : Int) < 4 := by omega
      have HSt := Lib.hid (show roomK lv (k + 1) = roomK lv k + if lv k = 0 then sizeC k else 0 from rfl)
      have hs4 := sizeC_le hlt
      have HZ := Lib.hid (fun V => (show Calls Try.prog 25 #[.int .i64 (k : Int)] V fun e w' => e = .returned (.int .i64 (sizeC k : Int)) ∧ Below V.heap.size V w' from by
        have h1 := sizesP_any (k : Int) V
        rw [show sizesI (k : Int) = (sizeC k : Int) from by unfold sizesI; rw [if_pos ⟨by omega, by omega⟩]; rfl] at h1
        exact h1))
      clear hXr
      generalize sizeC k = S at *
      generalize roomK lv k = RK at *
      by_cases h0 : lv k = 0
      · have HR := Lib.hid (show roomK lv (k + 1) = RK + S from by rw [HSt.out, if_pos h0])
        have b0 : ((lv k) == 0) = true := by rw [beq_iff_eq]; exact h0
        have hsum : IntKind.i64.wrap ((RK : Int) + (S : Int)) = ((RK + S : Nat) : Int) := by rw [IntWalk.i64_in _ (by omega)]; omega
        generalize lv k = x at d0 b0
        clear h0 HSt
        go_wp2_with fail
        refine (HZ.out _).mono ?_
        rintro e w9 ⟨rfl, hb9⟩
        have HL9 := Lib.hid (HLr.out.next hb9)
        have HX9 := Lib.hid (Bl.old hb9 (block_lt HXr.out) HXr.out)
        clear hb9
        go_wp2_with fail
        go_roundw
        case rel => exact ⟨k + 1, by omega, by go_num, by rw [HR.out]; simp, HL9.out, HX9.out⟩
        case measure => simp [intOf]; omega
      · have HR := Lib.hid (show roomK lv (k + 1) = RK from by rw [HSt.out, if_neg h0, Nat.add_zero])
        have b0 : ((lv k) == 0) = false := by rw [beq_eq_false_iff_ne]; exact h0
        generalize lv k = x at d0 b0
        clear h0 HSt
        go_wp2_with fail
        go_roundw
        case rel => exact ⟨k + 1, by omega, by go_num, by rw [HR.out], HLr.out, HXr.out⟩
        case measure => simp [intOf]; omega
    · obtain rfl : k = 4 := by omega
      have HRK := Lib.hid (show roomK lv 4 = freeAll A1 from HRm.out.symm)
      obtain ⟨RK, hRKe⟩ : ∃ RK, RK = roomK lv 4 := ⟨_, rfl⟩
      rw [← hRKe] at hrk HRK ⊢
      rw [← HRK.out] at HW
      clear hXr hRKe HRm
      have hMk := hmk2 wr
      have HL2 := Lib.hid (HLr.out.next ((Below.refl wr.heap.size wr).alloc (Nat.le_refl _) (.cells (u8V (List.replicate M 0)) 5)))
      have HX2 := Lib.hid ((old_block wr (.cells (u8V (List.replicate M 0)) 5) (block_lt HXr.out)).trans HXr.out)
      have HBy2 := Lib.hid (made_byo wr M (by omega) (fun k hk => (HLr.out.inO k hk).2))
      rw [← HB2.out] at HL2 HBy2
      have HA2 := Lib.hid (HL2.out.append _ b2 HBy2.out (by omega) (by rw [HB2l.out]; omega))
      have HXp := Lib.hid (fun V (h : Below w.heap.size w V) => True.intro)
      obtain ⟨⟨er, A2, c2⟩, hr2⟩ : ∃ r, r = appendP A1 c1 b2 := ⟨_, rfl⟩
      rw [← hr2] at HA2 HW
      rw [HB2.out] at HA2
      have HLb := Lib.hid (show er = 0 ∨ er = 14 from by rcases HW.out with ⟨h1, _⟩ | ⟨h1, _⟩; exact .inl h1; exact .inr h1)
      clear hr2 hMk
      go_wp2_with fail
      refine HA2.out.mono ?_
      rintro e w9 ⟨rfl, ⟨O9, hv9, hL9⟩, hoth⟩
      have HX9 := Lib.hid (hoth _ _ _ _ HX2.out rfl (by decide) (by decide))
      have HL9 := Lib.hid hL9
      obtain ⟨lw, hlw⟩ : ∃ lw : Nat → Int, lw = fun (d : Nat) => liveA A2 (d : Int) := ⟨_, rfl⟩
      have HLw := Lib.hid (fun (d : Nat) V (h : So.PRel V O9 p (fun _ => 1) A2 (1048576 + 1048576)) => (show Calls Try.prog 23 #[.pointer (some ⟨p, 0, none⟩), .int .i64 (d : Int)] V fun e w' => e = .returned (.int .i64 (lw d)) ∧ Below V.heap.size V w' from by
        have h1 := plive_any (d : Int) V h.toSl
        rw [hlw]
        exact h1))
      have HLwd := Lib.hid (fun (d : Nat) => show lw d = liveA A2 (d : Int) from by rw [hlw])
      clear hL9 hoth hlw HA2 HL2 HX2 HBy2
      go_wp2_with fail
      refine (HLw.out 0 _ HL9.out.rel).mono ?_
      rintro e w10 ⟨rfl, hb10⟩
      have HL10 := Lib.hid (HL9.out.next hb10)
      have HX10 := Lib.hid (Bl.old hb10 (block_lt HX9.out) HX9.out)
      clear hb10
      go_wp2_with fail
      refine (HLw.out 1 _ HL10.out.rel).mono ?_
      rintro e w11 ⟨rfl, hb11⟩
      have HL11 := Lib.hid (HL10.out.next hb11)
      have HX11 := Lib.hid (Bl.old hb11 (block_lt HX10.out) HX10.out)
      clear hb11
      go_wp2_with fail
      refine (HLw.out 2 _ HL11.out.rel).mono ?_
      rintro e w12 ⟨rfl, hb12⟩
      have HL12 := Lib.hid (HL11.out.next hb12)
      have HX12 := Lib.hid (Bl.old hb12 (block_lt HX11.out) HX11.out)
      clear hb12
      go_wp2_with fail
      refine (HLw.out 3 _ HL12.out.rel).mono ?_
      rintro e w13 ⟨rfl, hb13⟩
      have hB14 := (Below.refl w13.heap.size w13).alloc (Nat.le_refl _) (.cells #[.int .i64 (lw 0), .int .i64 (lw 1), .int .i64 (lw 2), .int .i64 (lw 3)] 22)
      have hL14 := (HL12.out.next hb13).next hB14
      have hX13 := Bl.old hb13 (block_lt HX12.out) HX12.out
      have hX14 := Bl.old hB14 (block_lt hX13) hX13
      have hN14 := new_block w13 (.cells #[.int .i64 (lw 0), .int .i64 (lw 1), .int .i64 (lw 2), .int .i64 (lw 3)] 22)
      have HLn2 := Lib.hid (clen_any hL14.pc)
      have HCg2 := Lib.hid (ccharge_any hL14.pc)
      have HBel := Lib.hid hL14.bel
      obtain ⟨w14, hw14⟩ : ∃ w14, w14 = w13.alloc (.cells #[.int .i64 (lw 0), .int .i64 (lw 1), .int .i64 (lw 2), .int .i64 (lw 3)] 22) := ⟨_, rfl⟩
      have HW14 := Lib.hid hw14
      rw [← hw14] at hX14 hN14 HLn2 HCg2 HBel
      obtain ⟨nb, hnb⟩ : ∃ nb, nb = w13.heap.size := ⟨_, rfl⟩
      rw [← hnb] at hN14
      have HNbb := Lib.hid hnb
      clear hb13 hB14 hL14 hX13 hw14 hnb HL9 HL10 HL11 HL12 HX9 HX10 HX11 HX12
      have HX14 := Lib.hid hX14
      have HN14 := Lib.hid hN14
      clear hX14 hN14
      go_upto_region 19 with fail
      rw [← HW14.out, ← HNbb.out]
      rcases HW.out with ⟨h1, _, h3, h4⟩ | ⟨h1, h2, h3, h4⟩
      · obtain rfl : er = 0 := h1
        rw [HB2l.out] at h3 h4
        obtain ⟨L2, hL2⟩ : ∃ L2, L2 = lenC c2 := ⟨_, rfl⟩
        rw [← hL2] at HLn2 h3
        have hs1 : IntKind.i64.wrap ((f : Int) + (M : Int)) = (L2 : Int) := by rw [IntWalk.i64_in _ (by omega), h3]; omega
        have hs2 : IntKind.i64.wrap ((RK : Int) + (CH : Int)) = (RK : Int) + (CH : Int) := IntWalk.i64_in _ (by omega)
        have hs3 : IntKind.i64.wrap ((RK : Int) + (CH : Int) - (f : Int)) = (RK : Int) + (CH : Int) - (f : Int) := IntWalk.i64_in _ (by omega)
        have hle : (M : Int) ≤ (RK : Int) + (CH : Int) - (f : Int) := by omega
        clear h3 h4 hL2
        go_wp2_with fail
        refine HLn2.out.mono ?_
        rintro e w15 ⟨rfl, hw⟩
        subst hw
        go_wp2_with fail
        go_ret
        exact ⟨rfl, HBel.out⟩
      · obtain rfl : er = 14 := h1
        replace h2 : c2 = c1 := h2
        subst h2
        rw [HB2l.out] at h4
        have hd : ∀ d, d < 4 → lw d = lv d := fun d hd => by rw [HLwd.out, HLd.out]; exact h3 d hd
        rw [hd 0 (by decide), hd 1 (by decide), hd 2 (by decide), hd 3 (by decide)] at HN14
        rw [HL1.out] at HLn2
        rw [← HCc.out] at HCg2
        have hgt : (CH : Int) - (f : Int) < (M : Int) := by omega
        have hs3 : IntKind.i64.wrap ((CH : Int) - (f : Int)) = (CH : Int) - (f : Int) := IntWalk.i64_in _ (by omega)
        have z0 : w14.cell? ⟨lb, 0, none⟩ = some (.int .i64 (lv 0)) := by rw [Lib.cell_of_heap HX14.out]; rfl
        have z1 : w14.cell? ⟨lb, 1, none⟩ = some (.int .i64 (lv 1)) := by rw [Lib.cell_of_heap HX14.out]; rfl
        have z2 : w14.cell? ⟨lb, 2, none⟩ = some (.int .i64 (lv 2)) := by rw [Lib.cell_of_heap HX14.out]; rfl
        have z3 : w14.cell? ⟨lb, 3, none⟩ = some (.int .i64 (lv 3)) := by rw [Lib.cell_of_heap HX14.out]; rfl
        have y0 : w14.cell? ⟨nb, 0, none⟩ = some (.int .i64 (lv 0)) := by rw [Lib.cell_of_heap HN14.out]; rfl
        have y1 : w14.cell? ⟨nb, 1, none⟩ = some (.int .i64 (lv 1)) := by rw [Lib.cell_of_heap HN14.out]; rfl
        have y2 : w14.cell? ⟨nb, 2, none⟩ = some (.int .i64 (lv 2)) := by rw [Lib.cell_of_heap HN14.out]; rfl
        have y3 : w14.cell? ⟨nb, 3, none⟩ = some (.int .i64 (lv 3)) := by rw [Lib.cell_of_heap HN14.out]; rfl
        have heq := fun W => eq4 W _ _ _ _ (HL01.out 0 (by decide)) (HL01.out 1 (by decide)) (HL01.out 2 (by decide)) (HL01.out 3 (by decide))
        clear h3 h4 hd
        go_wp2_with fail
        refine HLn2.out.mono ?_
        rintro e w15 ⟨rfl, hw⟩
        subst hw
        go_wp2_with fail
        refine HCg2.out.mono ?_
        rintro e w15 ⟨rfl, hw⟩
        subst hw
        go_wp2_with fail
        go_ret
        exact ⟨rfl, HBel.out⟩

set_option maxRecDepth 100000 in
theorem lifted (os : Os) (started : os.Started) (H : Type) (enc : TypeId × Value → H) :
    ReturnsInHanded {} Try.checked os 5 .any (Rows.chainNoneSpec.pre6 enc Try.prog Try.f5 Rows.chainNoneRow.domain false) (Rows.chainNoneSpec.post enc Try.prog Try.f5 false true false false) := by
  refine returnsInHanded_of_change_sized (C := Try.checked) own started (by kernel_rfl) Try.func5
    (ChangeSpec.witness6 (enc := enc) (C := Try.checked) false ⟨#[], #[.int .i64 0, .int .i64 0], []⟩ 8 (by kernel_rfl) (by kernel_rfl) (by kernel_rfl) (by kernel_rfl)) ?_
  intro W base args ds gs before hval0 hW hcnd hsz _
  have hval : ∀ (j : Nat) t v, Try.f5.params[j]? = some t → args[j]? = some v → Value.okWide Try.prog W .any base t v := hval0
  have hW' := hW
  obtain ⟨p, q, hA0, hV, rfl, hfz, hnd⟩ := hW
  have hA : DataW.TrodAll enc Try.prog W 0 (fun _ => true) true Try.f5.params.toList args.toList ds p := hA0
  rw [Try.params5] at hA hval hsz
  obtain ⟨v0, vs0, d0, ds0, p0, q0, hargs, rfl, rfl, h0, r0⟩ := trodAll_cons hA
  obtain ⟨v1, vs1, d1, ds1, p1, q1, rfl, rfl, rfl, h1, r1⟩ := trodAll_cons r0
  obtain ⟨rfl, rfl, rfl⟩ := trodAll_nil r1
  obtain rfl : args = #[v0, v1] := by cases args; simp_all
  obtain ⟨rfl, rfl⟩ := trodVars_none hV
  obtain ⟨a0, rfl, rfl, rfl, w0⟩ := open_int Try.underlying3 (hval 0 3 v0 rfl rfl) h0
  obtain ⟨a1, rfl, rfl, rfl, w1⟩ := open_int Try.underlying3 (hval 1 3 v1 rfl rfl) h1
  clear hA0 hval0
  simp only [List.append_nil] at hW'
  refine (walk a0 w0 a1 w1 W).mono fun e W' ⟨he, bel⟩ => ?_
  subst he
  exact ⟨_, rfl, _, _, _, [], _, [], hW', trodAll_mk1 (shut_bool Try.underlying4 _), (trodAll_cons_mk (shut_int Try.underlying3 w0) (trodAll_cons_mk (shut_int Try.underlying3 w1) trodAll_mk0)), rfl, bel.frame _, fun h => by cases h⟩

theorem over : Rows.chainNoneRow.holds Try.pinned (OpenSpec.ofChange Rows.chainNoneSpec) :=
  OpenClaim.holds_of_wide 5 Try.f5 rfl rfl rfl rfl rfl rfl rfl ⟨rfl, rfl, rfl, rfl, rfl⟩ rfl rfl rfl rfl rfl (by kernel_rfl) Try.func5 (by kernel_rfl)
    (of_decide_eq_true (by kernel_rfl)) (by unfold Func.isWrapper; first | (rw [if_pos (by decide +kernel)]; kernel_rfl) | (rw [if_neg (by decide +kernel)]; exact ⟨rfl, rfl⟩))
    (fun os started H enc _ => lifted os started H enc)

theorem proved : Rows.ChainNoneSaid := over
end Go.Proofs.Ytbpadliiekhkjaa.chainNone
