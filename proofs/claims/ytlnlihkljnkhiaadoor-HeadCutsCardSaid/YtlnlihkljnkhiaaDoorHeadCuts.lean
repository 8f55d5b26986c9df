/-
  HeadCuts: how the bytes are cut into pieces does not matter: a reader takes as many in all, and comes to the same.
  Conditions: the listed tables hold what the program's text lays (the card ties them).
-/
import Derived.Test.YtlnlihkljnkhiaaDoorTabs
import Derived.Test.YtlnlihkljnkhiaaDoorFdOpen
import Derived.SizedLaws
import Derived.Carry
import Derived.Test.YtlnlihkljnkhiaaDoorHdLawKit
import Derived.Test.YtlnlihkljnkhiaaDoorHdReq
import Derived.Test.YtlnlihkljnkhiaaDoorHdInts
import Derived.Test.YtlnlihkljnkhiaaDoorHdSame
import Derived.Test.YtlnlihkljnkhiaaDoorHdCut
import Derived.Test.YtlnlihkljnkhiaaDoorHdNew
import Derived.Test.YtlnlihkljnkhiaaDoorHdRunMath
import Derived.WideKeyPair
namespace Go.Proofs.YtlnlihkljnkhiaaDoor.headCuts
open Go.ChangeShapes Go.WideShapes Go.ChangeAt Go.RowKit
open Go.ChangeMaps (open_string shut_string)
set_option linter.unusedVariables false

open Go.Proofs.YtlnlihkljnkhiaaDoor.Hd Go.Proofs.YtlnlihkljnkhiaaDoor.Fd Go.Proofs.YtlnlihkljnkhiaaDoor.Tk

def c19 : Array Value := #[.int .u8 71, .int .u8 69, .int .u8 84, .int .u8 32, .int .u8 47, .int .u8 32, .int .u8 72, .int .u8 84, .int .u8 84, .int .u8 80, .int .u8 47, .int .u8 49, .int .u8 46, .int .u8 49, .int .u8 13, .int .u8 10, .int .u8 13, .int .u8 10, .int .u8 120]
theorem c19_eq : c19.toList = bys oneL := by kernel_rfl
theorem byts_const (w : World) (cs : Array Value) (l : Bs) (fr : Nat × Nat) (h : cs.toList = bys l) (hl : l.length ≤ maxLen) : Byts (w.alloc (.cells cs 5 fr)) (.slice (some ⟨w.heap.size, 0, none⟩) l.length l.length) l := by
  refine .inr ⟨w.heap.size, 0, l.length, rfl, Nat.le_refl _, hl, by simp, fun j hj => ?_⟩
  have h2 := World.news_of_block (new_block w (.cells cs 5 fr)) j (.int .u8 (l[j].toNat : Int)) (by rw [h]; simp [bys, hj])
  rw [Addr.add_lit] at h2
  exact h2
theorem wrap_small {n : Nat} (h : n ≤ 9223372036854775807) : wrap64 (n : Int) = (n : Int) := by unfold wrap64; omega
theorem int_of (k : IntKind) (n : Int) : intOf (.int k n) = n := rfl
/-- How far the loop's counter is, also where it wraps. -/
def cnt (i : Int) : Nat := if i < 0 then 9223372036854775808 else i.toNat
theorem cnt_wrap {n : Nat} (h : n ≤ 9223372036854775808) : cnt (wrap64 (n : Int)) = n := by
  by_cases hn : n = 9223372036854775808
  · subst hn
    rw [show wrap64 ((9223372036854775808 : Nat) : Int) = -9223372036854775808 from by unfold wrap64; omega]
    unfold cnt
    rw [if_pos (by omega)]
  · rw [wrap_small (by omega)]; unfold cnt; rw [if_neg (by omega)]; omega
theorem cnt_less {ii n1 : Nat} (h : ii ≤ n1) (hn : n1 ≤ 9223372036854775807) : n1 + 2 - cnt (wrap64 ((ii : Int) + 1)) < n1 + 2 - cnt (ii : Int) := by
  have h1 := cnt_wrap (n := ii + 1) (by omega)
  rw [show ((ii + 1 : Nat) : Int) = (ii : Int) + 1 from by omega] at h1
  rw [h1]
  have h2 : cnt (ii : Int) = ii := by unfold cnt; rw [if_neg (by omega)]; omega
  rw [h2]
  omega
set_option maxHeartbeats 16000000 in
set_option maxRecDepth 100000 in
theorem walk (v0 : Value) (l0 : Bs) (v1 : Value) (n1 : Nat) (a2 : Bool) (w : World) (hT : Tk.Tab w) (f0 : Byts w v0 l0) (l0l : l0.length ≤ maxLen) (f1 : Ints w v1 n1) (l1l : n1 ≤ maxLen) :
    Calls Tryd.prog 4 #[v0, v1, .bool a2] w fun e w' => e = .returned (.bool true) ∧ Below w.heap.size w w' := by
  have HT := Lib.hid hT
  have htl := hT.lt
  obtain ⟨va, vc, hv0⟩ := f0.shape
  obtain ⟨na, nc, hv1⟩ := f1.shape
  have HI := Lib.hid f1
  unfold maxLen at l0l l1l
  by_cases h9 : 9000 < l0.length
  case' pos =>
    rcases f0 with ⟨h0, _⟩ | ⟨B, off, cap, hv, hcap, hcm, hB, hh⟩
    · subst h0; simp at h9
    have HB0 := byts_cut (k := 0) (d := 9000) (.inr ⟨B, off, cap, rfl, hcap, hcm, hB, hh⟩) hB hcap hcm (by omega)
    rw [Nat.add_zero, Nat.sub_zero, List.drop_zero] at HB0
    unfold maxLen at hcm
    subst hv hv1
    clear hT f1 hv0
    go_enter Tryd.func4, Tryd.ntmps4
    go_wp2_with fail
    obtain ⟨b, hb⟩ : ∃ b, b = l0.take 9000 := ⟨_, rfl⟩
    have hbl : b.length = 9000 := by rw [hb, List.length_take]; omega
    rw [← hb, ← hbl] at HB0
    rw [← hbl]
    have HY := Lib.hid HB0
    have hb9 : b.length ≤ 9000 := by omega
    obtain ⟨wa, hwa⟩ : ∃ wa : Option Addr, wa = some ⟨B, off, none⟩ := ⟨_, rfl⟩
    obtain ⟨WC, hwc⟩ : ∃ WC : Nat, WC = cap := ⟨_, rfl⟩
    have hWC : WC ≤ 9223372036854775807 := by omega
    rw [← hwa, ← hwc] at HY
    rw [← hwa, ← hwc]
    clear hbl HB0 hb hh hwa hwc hcap hcm
  case' neg =>
    subst hv0 hv1
    clear hT f1
    have HY := Lib.hid f0
    have hb9 : l0.length ≤ 9000 := by omega
    clear f0
    go_enter Tryd.func4, Tryd.ntmps4
    go_wp2_with fail
    obtain ⟨b, hb⟩ : ∃ b, b = l0 := ⟨_, rfl⟩
    obtain ⟨wa, hwa⟩ : ∃ wa : Option Addr, wa = va := ⟨_, rfl⟩
    obtain ⟨WC, hwc⟩ : ∃ WC : Nat, WC = vc := ⟨_, rfl⟩
    rw [← hb, ← hwa, ← hwc] at HY
    rw [← hb, ← hwa, ← hwc]
    rw [← hb] at hb9
    clear hb hwa hwc
  all_goals
    refine (new_any a2 w).mono ?_
    rintro e x1 ⟨gx, rfl, hRx, hb1⟩
    have HRX1 := Lib.hid hRx.bound
    have HB1 := Lib.hid hb1
    have hs1 := hb1.size
    clear hRx hb1
    go_wp2_with fail
    refine (new_any a2 x1).mono ?_
    rintro e x2 ⟨gy, rfl, hRy, hb2⟩
    have HRY2 := Lib.hid hRy.bound
    have HRX2 := Lib.hid (HRX1.out.below hb2)
    have HB2 := Lib.hid (HB1.out.trans (hb2.mono hs1))
    have hs2 := hb2.size
    clear hRy hb2 HRX1
    have HY2 := Lib.hid (HY.out.below HB2.out (Nat.le_refl _))
    have HT2 := Lib.hid (HT.out.below HB2.out htl)
    have HVO := Lib.hid (fun (hp : 0 < b.length) => (show ∀ k, (Value.slice wa b.length WC).ownBlock = some k → k < w.heap.size from fun k hk => by
      rcases HY.out with ⟨h0, _⟩ | ⟨B, off, cap, hv, _, _, hB, _⟩
      · rw [h0] at hp; simp at hp
      · rw [hv] at hk; injection hk with hk; have hk' : B = k := hk; omega))
    obtain ⟨N, SX, hN⟩ : ∃ N SX, run a2 Hd.start b = (N, SX) := ⟨_, _, rfl⟩
    have HN := Lib.hid hN
    have hok : (fun k => w.heap.size ≤ k ∧ k < x1.heap.size) = (fun k => w.heap.size ≤ k ∧ k < x1.heap.size) := rfl
    go_wp2_with fail
    refine (feed_any _ a2 gx Hd.start _ b x2 HRX2.out good_start HY2.out (fun hp k hk hO => by have := HVO.out hp k hk; omega) (by unfold maxLen; omega) HT2.out (fun ho => by omega)).mono ?_
    rintro e x3 ⟨rfl, hRx3, hC3⟩
    rw [hN] at hRx3
    rw [HN.out]
    have HRX3 := Lib.hid (hRx3.bound)
    have HRY3 := Lib.hid (HRY2.out.kept hC3 (fun k hk hk2 => by omega))
    have HB3 := Lib.hid (HB2.out.trans (hC3.below (B := w.heap.size) (fun k hk => hk.1) (by omega)))
    have hs3 := hC3.size
    have hNl := run_le a2 b Hd.start
    rw [hN] at hNl
    have hNG := good_run a2 b good_start
    rw [hN] at hNG
    have HNG := Lib.hid hNG
    clear hok HRX2 HRY2 HB2 HY2 HT2 hRx3 hC3 hN hNG
    go_wp2_with fail
    obtain ⟨OY, hOY⟩ : ∃ OY : Nat → Prop, OY = fun k => x1.heap.size ≤ k ∧ k < x2.heap.size := ⟨_, rfl⟩
    have HOY := Lib.hid (fun k (hk : OY k) => (show x1.heap.size ≤ k ∧ k < x2.heap.size from by rw [hOY] at hk; exact hk))
    rw [← hOY] at HRY3
    clear hOY
    go_loopw [12, 13, 14, 15] (fun u d f i wr => ∃ (k ii : Nat) (st : St), u = .int .i64 (k : Int) ∧ d = .bool (doneOf st) ∧ f = .int .i64 (errOf st : Nat) ∧ i = .int .i64 (wrap64 (ii : Int)) ∧ FeedAt OY a2 gy Hd.start b x3 k st wr ∧ ii ≤ n1 + 1 ∧ (n1 < ii → over st = true ∨ k = b.length)) (fun _ _ _ i _ => n1 + 2 - cnt (intOf i))
    case atStart => exact ⟨0, 0, Hd.start, rfl, rfl, rfl, by rw [wrap_small (n := 0) (by omega)]; rfl, ⟨Nat.zero_le _, by simp, good_start, HRY3.out.mono (fun k hk => .inl hk), Chg.refl _ _⟩, by omega, fun h => by omega⟩
    case round =>
      obtain ⟨k, ii, st, rfl, rfl, rfl, rfl, hA, hi, hio⟩ := hrel
      have HA := Lib.hid hA
      have hk := hA.1
      have HIO := Lib.hid hio
      have HB4 := Lib.hid (HB3.out.trans (hA.2.2.2.2.below (B := w.heap.size) (fun k hk => by have := HOY.out k hk; omega) (by omega)))
      have hs4 := hA.2.2.2.2.size
      have hs4w := HB4.out.size
      obtain ⟨D, hD⟩ : ∃ D, D = doneOf st := ⟨_, rfl⟩
      obtain ⟨E, hE⟩ : ∃ E, E = errOf st := ⟨_, rfl⟩
      rw [← hD, ← hE]
      have HD := Lib.hid hD
      have HE := Lib.hid hE
      clear hA hio hD hE
      by_cases hgo : k < b.length ∧ D = false ∧ E = 0
      · obtain ⟨hlt, rfl, rfl⟩ := hgo
        have hov : over st = false := by
          obtain ⟨p, l, n, fs, hst⟩ := over_no HA.out.2.2.1 HD.out.symm HE.out.symm
          rw [hst]; rfl
        have hin : ii ≤ n1 := by
          by_cases h : n1 < ii
          · rcases HIO.out h with h1 | h1
            · rw [hov] at h1; cases h1
            · omega
          · omega
        have hMS := Lib.hid (cnt_less hin (by omega))
        rw [wrap_small (n := ii) (by omega)]
        rcases HY.out with ⟨h0, _⟩ | ⟨B, off, cap, hv, hcap, hcm, hB, hh⟩
        · rw [h0] at hlt; simp at hlt
        injection hv with e1 _ e3
        subst e1 e3
        go_wp2_with fail
        refine (piece_any n1 ii k b.length _ wr (HI.out.below HB4.out (Nat.le_refl _)) hk hb9 (by unfold maxLen; omega) hi).mono ?_
        rintro e x4 ⟨d, nn, rfl, hx4, hkd, hd2⟩
        have HD2 := Lib.hid hd2
        have HA4 := Lib.hid (show FeedAt OY a2 gy Hd.start b x3 k st x4 from by rw [hx4]; exact HA.out.drewN nn)
        have HB5 := Lib.hid (show Below w.heap.size w x4 from by rw [hx4]; exact below_drewN HB4.out nn)
        have hs5 := HB5.out.size
        have hs35 := HA4.out.2.2.2.2.size
        have HPY := Lib.hid (byts_cut (HY.out.below HB5.out (Nat.le_refl _)) (by omega) hcap hcm hkd)
        unfold maxLen at hcm
        obtain ⟨P, hP⟩ : ∃ P, P = (b.drop k).take d := ⟨_, rfl⟩
        have hPl : P.length = d := by rw [hP, List.length_take, List.length_drop]; omega
        rw [← hP] at HPY
        have HCN := Lib.hid (fun (w' : World) (hR : Rdr w' (New (New OY x3) x4) a2 gy (run a2 st P).2) (hC : Chg (New OY x3) x4 w') => (show FeedAt OY a2 gy Hd.start b x3 (k + (run a2 st P).1) (run a2 st P).2 w' ∧ (over (run a2 st P).2 = false → (run a2 st P).1 = d) from by
          rw [hP] at hR ⊢; exact cut_next HA4.out hkd hR hC))
        have hPle := run_le a2 P st
        rw [hPl] at hPle
        have HPL := Lib.hid hPl
        clear hd2 hh hx4 hP hPl
        go_wp2_with fail
        refine (feed_any (New OY x3) a2 gy st (.slice (some ⟨B, off + k, none⟩) d (WC - k)) P x4 HA4.out.2.2.2.1 HA4.out.2.2.1 HPY.out (fun hp j hj hO => by
          injection hj with hj
          have hj' : B = j := hj
          rcases hO with hO | hO
          · have := HOY.out j hO; omega
          · omega) (by rw [HPL.out]; unfold maxLen; omega) (HT.out.below HB5.out htl) (fun hO => by
          rcases hO with hO | hO
          · have := HOY.out _ hO; omega
          · omega)).mono ?_
        rintro e x5 ⟨rfl, hR5, hC5⟩
        obtain ⟨hA5, hM5⟩ := HCN.out x5 hR5 hC5
        obtain ⟨M, hM⟩ : ∃ M, M = (run a2 st P).1 := ⟨_, rfl⟩
        obtain ⟨ST, hST⟩ : ∃ ST, ST = (run a2 st P).2 := ⟨_, rfl⟩
        rw [← hM] at hA5 hM5 hPle
        rw [← hST] at hA5 hM5
        rw [← hM, ← hST]
        have HIO2 := Lib.hid (fun (h : n1 < ii + 1) => (show over ST = true ∨ k + M = b.length from by
          cases ho : over ST with
          | true => exact .inl rfl
          | false => rw [hM5 ho]; exact .inr (HD2.out (by omega))))
        have HA5 := Lib.hid hA5
        have HREL := Lib.hid (show ∃ (k' ii' : Nat) (st' : St), Value.int .i64 ((k : Int) + (M : Int)) = .int .i64 (k' : Int) ∧ Value.bool (doneOf ST) = .bool (doneOf st') ∧ Value.int .i64 (errOf ST : Nat) = .int .i64 (errOf st' : Nat) ∧ Value.int .i64 (wrap64 ((ii : Int) + 1)) = .int .i64 (wrap64 (ii' : Int)) ∧ FeedAt OY a2 gy Hd.start b x3 k' st' x5 ∧ ii' ≤ n1 + 1 ∧ (n1 < ii' → over st' = true ∨ k' = b.length) from
          ⟨k + M, ii + 1, ST, by go_num, rfl, rfl, by rw [show ((ii + 1 : Nat) : Int) = (ii : Int) + 1 from by omega], HA5.out, by omega, HIO2.out⟩)
        have hOV := over_no hA5.2.2.1
        have HOV := Lib.hid (show doneOf ST = false → errOf ST = 0 → M = d from fun h1 h2 => hM5 (by obtain ⟨p, l, n, fs, h⟩ := hOV h1 h2; rw [h]; rfl))
        obtain ⟨D2, hD2⟩ : ∃ D2, D2 = doneOf ST := ⟨_, rfl⟩
        obtain ⟨E2, hE2⟩ : ∃ E2, E2 = errOf ST := ⟨_, rfl⟩
        rw [← hD2, ← hE2] at HREL HOV
        rw [← hD2, ← hE2]
        clear hA5 hM5 hR5 hC5 hOV hM hST hD2 hE2 HCN
        cases D2 with
        | true =>
          go_wp2_with fail
          go_roundw
          case rel => exact HREL.out
          case measure => rw [int_of, int_of]; exact hMS.out
        | false =>
          by_cases he2 : E2 = 0
          · subst he2
            have hMd := HOV.out rfl rfl
            subst hMd
            rw [show ((0 : Nat) : Int) = 0 from rfl] at HREL
            go_wp2_with fail
            go_roundw
            case rel => exact HREL.out
            case measure => rw [int_of, int_of]; exact hMS.out
          · have hne : ((E2 : Int) == 0) = false := by rw [beq_eq_false_iff_ne]; omega
            go_wp2_with fail
            go_roundw
            case rel => exact HREL.out
            case measure => rw [int_of, int_of]; exact hMS.out
      · have hG := HA.out.2.2.1
        have hends := HA.out.ends (by
          by_cases hlt : k < b.length
          · refine .inl (over_of ?_)
            rw [← HD.out, ← HE.out]
            cases D with
            | true => exact .inl rfl
            | false => exact .inr (fun h0 => hgo ⟨hlt, rfl, h0⟩)
          · exact .inr (by omega))
        rw [HN.out] at hends
        injection hends with hn1 hn2
        subst hn1 hn2
        rw [← HD.out, ← HE.out]
        have HG := Lib.hid hG
        have HRX4 := Lib.hid (HRX3.out.kept HA.out.2.2.2.2 (fun j hj hO => by
          have h1 := HOY.out j hO
          rcases hj.1 with h2 | h2 <;> omega))
        have HRY4 := Lib.hid HA.out.2.2.2.1
        obtain ⟨H, hH⟩ : ∃ H, H = headOf a2 (a2 == false) SX := ⟨_, rfl⟩
        obtain ⟨K, hK⟩ : ∃ K, K = headOf a2 (a2 == true) SX := ⟨_, rfl⟩
        have hHl : H.2.1.length ≤ 64 := by rw [hH]; exact headOf_len hG
        have hKl : K.2.1.length ≤ 64 := by rw [hK]; exact headOf_len hG
        have HQ := Lib.hid (fun (O : Nat → Prop) (g : Nat) (y : World) (h : Rdr y O a2 g SX) => (show Calls Tryd.prog 12 #[.pointer (some ⟨g, 0, none⟩)] y (ReqPost H y) from by rw [hH]; exact request_any O a2 g SX y h HG.out))
        have HS := Lib.hid (fun (O : Nat → Prop) (g : Nat) (y : World) (h : Rdr y O a2 g SX) => (show Calls Tryd.prog 14 #[.pointer (some ⟨g, 0, none⟩)] y (ResPost K y) from by rw [hK]; exact response_any O a2 g SX y h HG.out))
        have kc := fun (w : World) (C : Array Value) (n c : Nat) => Lib.run_convert_bytes_const (P := Tryd.prog) w 22 5 C n c Tryd.underlying22 Tryd.underlying5
        have eN : ((N : Int) == (N : Int)) = true := by simp
        have eD : (D == D) = true := by simp
        have eE : ((E : Int) == (E : Int)) = true := by simp
        obtain ⟨h2, hh2⟩ : ∃ h2, h2 = H.2.2 := ⟨_, rfl⟩
        obtain ⟨k2, hk2⟩ : ∃ k2, k2 = K.2.2 := ⟨_, rfl⟩
        have eH : ((h2 : Int) == (h2 : Int)) = true := by simp
        have eK : ((k2 : Int) == (k2 : Int)) = true := by simp
        have HH2 := Lib.hid hh2
        have HK2 := Lib.hid hk2
        clear hG hH hK hh2 hk2
        have hex : ¬ (N < b.length) ∨ (N < b.length ∧ D = true) ∨ (N < b.length ∧ D = false ∧ E ≠ 0) := by
          by_cases hlt : N < b.length
          · cases D with
            | true => exact .inr (.inl ⟨hlt, rfl⟩)
            | false => exact .inr (.inr ⟨hlt, rfl, fun h0 => hgo ⟨hlt, rfl, h0⟩⟩)
          · exact .inl hlt
        clear hgo
        rcases hex with hlt | ⟨hlt, rfl⟩ | ⟨hlt, rfl, hE0⟩
        case' inr.inr => have hne : ((E : Int) == 0) = false := by rw [beq_eq_false_iff_ne]; omega
        all_goals
          go_wp2_with fail
          refine (HQ.out _ gx wr HRX4.out).mono ?_
          rintro e y1 ⟨p1, rfl, hf1, hb1⟩
          obtain ⟨pa1, pc1, hp1⟩ := OwnF.form hf1
          subst hp1
          rw [← HH2.out]
          obtain ⟨z1, hz1⟩ : ∃ z1, z1 = y1.alloc (.cells #[.string H.1.a, .string H.1.b, .int .i64 H.1.m, .slice pa1 H.2.1.length pc1] 29) := ⟨_, rfl⟩
          have hy1 : Below y1.heap.size y1 z1 := by rw [hz1]; exact (Below.refl _ _).alloc (Nat.le_refl _) _
          have hw1 : Below wr.heap.size wr z1 := hb1.trans (hy1.mono hb1.size)
          have HK11 := Lib.hid (show z1.heap[y1.heap.size]? = some (.cells #[.string H.1.a, .string H.1.b, .int .i64 H.1.m, .slice pa1 H.2.1.length pc1] 29 (0, 0)) from by rw [hz1]; exact new_block _ _)
          have HF11 := Lib.hid (hf1.flds.below hy1 (Nat.le_refl _))
          have hsz1 := HB4.out.size
          have HBz1 := Lib.hid (HB4.out.trans (hw1.mono hsz1))
          have HZ1 := Lib.hid hz1
          have HRY5 := Lib.hid (HRY4.out.below hw1)
          have HRX5 := Lib.hid (HRX4.out.below hw1)
          clear hf1 hb1 hz1 hy1 hw1 hsz1
          go_wp2_with fail
          rw [← HZ1.out]
          refine (HQ.out _ gy z1 HRY5.out).mono ?_
          rintro e y2 ⟨p2, rfl, hf2, hb2⟩
          obtain ⟨pa2, pc2, hp2⟩ := OwnF.form hf2
          subst hp2
          rw [← HH2.out]
          obtain ⟨z2, hz2⟩ : ∃ z2, z2 = y2.alloc (.cells #[.string H.1.a, .string H.1.b, .int .i64 H.1.m, .slice pa2 H.2.1.length pc2] 29) := ⟨_, rfl⟩
          have hy2 : Below y2.heap.size y2 z2 := by rw [hz2]; exact (Below.refl _ _).alloc (Nat.le_refl _) _
          have hw2 : Below z1.heap.size z1 z2 := hb2.trans (hy2.mono hb2.size)
          have HK22 := Lib.hid (show z2.heap[y2.heap.size]? = some (.cells #[.string H.1.a, .string H.1.b, .int .i64 H.1.m, .slice pa2 H.2.1.length pc2] 29 (0, 0)) from by rw [hz2]; exact new_block _ _)
          have HF22 := Lib.hid (hf2.flds.below hy2 (Nat.le_refl _))
          have hsz2 := HBz1.out.size
          have HBz2 := Lib.hid (HBz1.out.trans (hw2.mono hsz2))
          have HZ2 := Lib.hid hz2
          have HK12 := Lib.hid (Bl.old hw2 (block_lt HK11.out) HK11.out)
          have HF12 := Lib.hid (HF11.out.below hw2 (Nat.le_refl _))
          have HRY6 := Lib.hid (HRY5.out.below hw2)
          have HRX6 := Lib.hid (HRX5.out.below hw2)
          clear hf2 hb2 hz2 hy2 hw2 hsz2
          go_wp2_with fail
          rw [← HZ2.out]
          refine (HS.out _ gx z2 HRX6.out).mono ?_
          rintro e y3 ⟨p3, rfl, hf3, hb3⟩
          obtain ⟨pa3, pc3, hp3⟩ := OwnF.form hf3
          subst hp3
          rw [← HK2.out]
          obtain ⟨z3, hz3⟩ : ∃ z3, z3 = y3.alloc (.cells #[.int .i64 K.1.m, .int .i64 K.1.c, .string K.1.a, .slice pa3 K.2.1.length pc3] 31) := ⟨_, rfl⟩
          have hy3 : Below y3.heap.size y3 z3 := by rw [hz3]; exact (Below.refl _ _).alloc (Nat.le_refl _) _
          have hw3 : Below z2.heap.size z2 z3 := hb3.trans (hy3.mono hb3.size)
          have HK33 := Lib.hid (show z3.heap[y3.heap.size]? = some (.cells #[.int .i64 K.1.m, .int .i64 K.1.c, .string K.1.a, .slice pa3 K.2.1.length pc3] 31 (0, 0)) from by rw [hz3]; exact new_block _ _)
          have HF33 := Lib.hid (hf3.flds.below hy3 (Nat.le_refl _))
          have hsz3 := HBz2.out.size
          have HBz3 := Lib.hid (HBz2.out.trans (hw3.mono hsz3))
          have HZ3 := Lib.hid hz3
          have HK13 := Lib.hid (Bl.old hw3 (block_lt HK12.out) HK12.out)
          have HF13 := Lib.hid (HF12.out.below hw3 (Nat.le_refl _))
          have HK23 := Lib.hid (Bl.old hw3 (block_lt HK22.out) HK22.out)
          have HF23 := Lib.hid (HF22.out.below hw3 (Nat.le_refl _))
          have HRY7 := Lib.hid (HRY6.out.below hw3)
          clear hf3 hb3 hz3 hy3 hw3 hsz3
          go_wp2_with fail
          rw [← HZ3.out]
          refine (HS.out _ gy z3 HRY7.out).mono ?_
          rintro e y4 ⟨p4, rfl, hf4, hb4⟩
          obtain ⟨pa4, pc4, hp4⟩ := OwnF.form hf4
          subst hp4
          rw [← HK2.out]
          obtain ⟨z4, hz4⟩ : ∃ z4, z4 = y4.alloc (.cells #[.int .i64 K.1.m, .int .i64 K.1.c, .string K.1.a, .slice pa4 K.2.1.length pc4] 31) := ⟨_, rfl⟩
          have hy4 : Below y4.heap.size y4 z4 := by rw [hz4]; exact (Below.refl _ _).alloc (Nat.le_refl _) _
          have hw4 : Below z3.heap.size z3 z4 := hb4.trans (hy4.mono hb4.size)
          have HK44 := Lib.hid (show z4.heap[y4.heap.size]? = some (.cells #[.int .i64 K.1.m, .int .i64 K.1.c, .string K.1.a, .slice pa4 K.2.1.length pc4] 31 (0, 0)) from by rw [hz4]; exact new_block _ _)
          have HF44 := Lib.hid (hf4.flds.below hy4 (Nat.le_refl _))
          have hsz4 := HBz3.out.size
          have HBz4 := Lib.hid (HBz3.out.trans (hw4.mono hsz4))
          have HZ4 := Lib.hid hz4
          have HK14 := Lib.hid (Bl.old hw4 (block_lt HK13.out) HK13.out)
          have HF14 := Lib.hid (HF13.out.below hw4 (Nat.le_refl _))
          have HK24 := Lib.hid (Bl.old hw4 (block_lt HK23.out) HK23.out)
          have HF24 := Lib.hid (HF23.out.below hw4 (Nat.le_refl _))
          have HK34 := Lib.hid (Bl.old hw4 (block_lt HK33.out) HK33.out)
          have HF34 := Lib.hid (HF33.out.below hw4 (Nat.le_refl _))
          clear hf4 hb4 hz4 hy4 hw4 hsz4
          go_wp2_with fail
          rw [← HZ4.out]
          have hz4 := HBz4.out.size
          refine (new_any false z4).mono ?_
          rintro e y5 ⟨gz, rfl, hRz, hb5⟩
          have HRZ := Lib.hid hRz.bound
          have HB5 := Lib.hid hb5
          have hs59 := hb5.size
          clear hRz hb5
          have HAL := Lib.hid ((Below.refl y5.heap.size y5).alloc (Nat.le_refl _) (.cells c19 5 (19, 20)))
          have HBY := Lib.hid (byts_const y5 c19 oneL (19, 20) c19_eq (by decide))
          go_wp2_with fail
          refine (feed_any (fun k => z4.heap.size ≤ k ∧ k < y5.heap.size) false gz Hd.start _ oneL (y5.alloc (.cells c19 5 (19, 20))) (HRZ.out.below HAL.out) good_start HBY.out (fun _ j hj hO => by
            injection hj with hj
            have hj' : y5.heap.size = j := hj
            have h := hO.2
            omega) (by decide) ((((HT.out.below HBz4.out htl).below HB5.out (by omega))).below HAL.out (by omega)) (fun hO => by
            have h := hO.1; omega)).mono ?_
          rintro e y6 ⟨rfl, _, hC6⟩
          rw [one_run]
          have hb6 : Below z4.heap.size z4 y6 := (HB5.out.trans (HAL.out.mono hs59)).trans (hC6.below (fun k hk => hk.1) (by simp; omega))
          have HK16 := Bl.old hb6 (block_lt HK14.out) HK14.out
          have HK26 := Bl.old hb6 (block_lt HK24.out) HK24.out
          have HK36 := Lib.hid (Bl.old hb6 (block_lt HK34.out) HK34.out)
          have HK46 := Lib.hid (Bl.old hb6 (block_lt HK44.out) HK44.out)
          have HF16 := Lib.hid (HF14.out.below hb6 (Nat.le_refl _))
          have HF26 := Lib.hid (HF24.out.below hb6 (Nat.le_refl _))
          have HF36 := Lib.hid (HF34.out.below hb6 (Nat.le_refl _))
          have HF46 := Lib.hid (HF44.out.below hb6 (Nat.le_refl _))
          have HB6 := Lib.hid (HBz4.out.trans (hb6.mono hz4))
          obtain ⟨a0, a1, a2', a3⟩ := four HK16
          obtain ⟨b0, b1, b2, b3⟩ := four HK26
          clear hC6 hb6 HK16 HK26
          have ek : ((18 : Int) == 18) = true := by decide
          go_wp2_with fail
          refine (sameReq_any H _ _ y6 HF16.out HF26.out (by omega)).mono ?_
          rintro e y7 ⟨rfl, hb7⟩
          have hs6 := HB6.out.size
          have HB7 := Lib.hid (HB6.out.trans (hb7.mono hs6))
          have HK37 := Bl.old hb7 (block_lt HK36.out) HK36.out
          have HK47 := Bl.old hb7 (block_lt HK46.out) HK46.out
          have HF37 := Lib.hid (HF36.out.below hb7 (Nat.le_refl _))
          have HF47 := Lib.hid (HF46.out.below hb7 (Nat.le_refl _))
          obtain ⟨c0, c1, c2, c3⟩ := four HK37
          obtain ⟨d0, d1, d2, d3⟩ := four HK47
          clear hb7 HK37 HK47 a0 a1 a2' a3 b0 b1 b2 b3
          go_wp2_with fail
          refine (sameRes_any K _ _ y7 HF37.out HF47.out (by omega)).mono ?_
          rintro e y8 ⟨rfl, hb8⟩
          have hs7 := HB7.out.size
          have HB8 := Lib.hid (HB7.out.trans (hb8.mono hs7))
          clear hb8 c0 c1 c2 c3 d0 d1 d2 d3
          go_wp2_with fail
          go_ret
          exact ⟨rfl, HB8.out⟩

set_option maxRecDepth 100000 in
theorem contract (H : Type) (enc : TypeId × Value → H) (W : World) (base : Nat) (args : Array Value) (ds gs : List (DataW H)) (before : List MemPlace)
    (hval : ∀ (j : Nat) t v, Tryd.f4.params[j]? = some t → args[j]? = some v → Value.okWide Tryd.prog W .any base t v)
    (hW : DataW.Whole enc Tryd.prog Tryd.f4.params.toList Rows.headCutsSpec.vars false W args.toList ds gs before) (ts : List TypeId) (hsz : (DataW.weightsEach Tryd.prog (Tryd.f4.params.toList ++ ts) (ds ++ gs)).all (· ≤ reachBytes) = true) (hL : laidMetH Tryd.prog Rows.headCutsRow.laid W) :
    Calls Tryd.prog 4 args W fun e W' => ∃ v, e = .returned v ∧ Rows.headCutsSpec.post enc Tryd.prog Tryd.f4 false true false false W args v W' := by
  have hW' := hW
  obtain ⟨p, q, hA0, hV, rfl, hfz, hnd⟩ := hW
  have hA : DataW.TrodAll enc Tryd.prog W 0 (fun _ => true) true Tryd.f4.params.toList args.toList ds p := hA0
  rw [Tryd.params4] at hA hval hsz
  obtain ⟨v0, vs0, d0, ds0, p0, q0, hargs, rfl, rfl, h0, r0⟩ := trodAll_cons hA
  obtain ⟨v1, vs1, d1, ds1, p1, q1, rfl, rfl, rfl, h1, r1⟩ := trodAll_cons r0
  obtain ⟨v2, vs2, d2, ds2, p2, q2, rfl, rfl, rfl, h2, r2⟩ := trodAll_cons r1
  obtain ⟨rfl, rfl, rfl⟩ := trodAll_nil r2
  obtain rfl : args = #[v0, v1, v2] := by cases args; simp_all
  obtain ⟨rfl, rfl⟩ := trodVars_none hV
  have k0 := h0
  have lt0 : ∀ x ∈ p0, x.block < W.heap.size := by obtain ⟨m, hm⟩ := k0; exact DataW.trod_lt m _ _ _ hm
  obtain ⟨ls0, f0, l0⟩ := Hd.open_byts (hval 0 22 v0 rfl rfl) h0
  have k1 := h1
  have lt1 : ∀ x ∈ p1, x.block < W.heap.size := by obtain ⟨m, hm⟩ := k1; exact DataW.trod_lt m _ _ _ hm
  obtain ⟨ls1, f1, l1⟩ := Hd.open_nums (hval 1 23 v1 rfl rfl) h1
  obtain ⟨a2, rfl, rfl, rfl⟩ := open_bool Tryd.underlying4 (hval 2 4 v2 rfl rfl) h2
  clear hA0
  simp only [List.append_nil] at hW'
  refine (walk v0 ls0 v1 ls1 a2 W (Tb.tok_of_head (Tb.tail (Tb.tail (Tb.tail hL)))) f0 l0 f1 l1).mono fun e W' ⟨he, bel⟩ => ?_
  subst he
  exact ⟨_, rfl, _, _, _, [], _, [], hW', trodAll_mk1 (shut_bool Tryd.underlying4 _), (trodAll_cons_mk (Below.trod Tb.laidOut (by kernel_rfl) (of_decide_eq_true (by kernel_rfl)) k0 bel lt0) (trodAll_cons_mk (Below.trod Tb.laidOut (by kernel_rfl) (of_decide_eq_true (by kernel_rfl)) k1 bel lt1) (trodAll_cons_mk (shut_bool Tryd.underlying4 a2) trodAll_mk0))), rfl, bel.frame _, fun h => by cases h⟩

theorem laid_met (os : Os) : laidMet Tryd.prog Rows.headCutsRow.laid ((Tb.laidWorld os).forCall (fun _ _ => 0) ⟨#[], #[.slice none 0 0, .slice none 0 0, .bool false], []⟩).memory :=
  laidMet_of_run' 8 (by kernel_rfl) (by kernel_rfl)
theorem reads (os : Os) {H : Type} (enc : TypeId × Value → H) : ∃ places, DataW.whole enc Tryd.prog ((Tb.laidWorld os).forCall (fun _ _ => 0) ⟨#[], #[.slice none 0 0, .slice none 0 0, .bool false], []⟩).memory Tryd.f4.params.toList Rows.headCutsSpec.vars false (#[.slice none 0 0, .slice none 0 0, .bool false] : Array Value).toList 8 = some ([.nil, .nil, .lit (.bool false)], [], places) :=
  ⟨[], by kernel_rfl⟩

set_option maxRecDepth 100000 in
theorem lifted (os : Os) (started : os.Started) (H : Type) (enc : TypeId × Value → H) (F : Stop.Interp) :
    ReturnsInHanded {} Tryd.checked os 4 .any ((OpenSpec.ofChange Rows.headCutsSpec).preRow enc Tryd.prog Tryd.f4 Rows.headCutsRow.domain false Rows.headCutsRow.laid) (((OpenSpec.ofChange Rows.headCutsSpec).at F).post enc Tryd.prog Tryd.f4 false true false false) := by
  obtain ⟨places, hx⟩ := reads os enc
  refine returnsInHanded_of_row (C := Tryd.checked) (s := OpenSpec.ofChange Rows.headCutsSpec) Tb.own started (by kernel_rfl) Tryd.func4
    (witness_row_at (enc := enc) (C := Tryd.checked) false (Tb.laidWorld os) #[.slice none 0 0, .slice none 0 0, .bool false] rfl (by kernel_rfl) (by kernel_rfl) (by kernel_rfl)
      (OpenSpec.preRow_of_cond 8 hx (by kernel_rfl) (fun k hk => by cases hk) (by kernel_rfl) (laid_met os))) ?_
  intro W base args ds gs before hval hW _ _ hsz hL _ _
  exact contract H enc W base args ds gs before hval hW _ hsz hL

theorem said : Rows.HeadCutsSaid :=
  OpenClaim.holds_of_cond 4 Tryd.f4 rfl rfl rfl rfl rfl rfl rfl ⟨rfl, rfl, rfl, rfl, rfl⟩ rfl rfl rfl rfl rfl (by kernel_rfl) Tryd.func4 (by kernel_rfl)
    (of_decide_eq_true (by kernel_rfl)) (by unfold Func.isWrapper; first | (rw [if_pos (by decide +kernel)]; kernel_rfl) | (rw [if_neg (by decide +kernel)]; exact ⟨rfl, rfl⟩))
    (fun os started H enc _ F => by rw [OpenClaim.pre_eq_preRow]; exact lifted os started H enc F)

set_option maxRecDepth 100000 in
theorem plain (f : FuncId) (fn : Func) (hf : Tryd.pinned.checked.prog.funcNamed "gatepost/gatepostlaw05.HeadCuts" = some f) (hfn : Tryd.pinned.checked.prog.funcs[f]? = some fn) :
    false = Tryd.pinned.checked.prog.looks [] ∧ ∀ (j : Nat) t, fn.params[j]? = some t → Tryd.pinned.checked.prog.wantsStandIn t = false := by
  obtain rfl : f = 4 := Option.some.inj ((show Tryd.prog.funcNamed "gatepost/gatepostlaw05.HeadCuts" = some 4 by kernel_rfl).symm.trans hf) |>.symm
  obtain rfl : fn = Tryd.f4 := (Option.some.inj (Tryd.func4.symm.trans hfn)).symm
  refine ⟨by kernel_rfl, fun j t ht => ?_⟩
  rw [Tryd.params4] at ht
  have hm := Array.mem_of_getElem? ht
  simp at hm
  rcases hm with rfl | rfl | rfl
  · exact (show Tryd.prog.wantsStandIn 22 = false by kernel_rfl)
  · exact (show Tryd.prog.wantsStandIn 23 = false by kernel_rfl)
  · exact (show Tryd.prog.wantsStandIn 4 = false by kernel_rfl)

theorem card : Rows.HeadCutsCardSaid :=
  Claim7.holds_tied_plain_at .later [] _ _ _ _ said (fun _ h => by cases h) (by kernel_rfl) (fun _ h => by cases h) headCuts_row_tie rfl ⟨rfl, rfl⟩ (by kernel_rfl) rfl plain (by kernel_rfl)
end Go.Proofs.YtlnlihkljnkhiaaDoor.headCuts
