/-
  FramingReads: the program's decoder and the reference's, fed alike in pieces, take and tell the same.
  Conditions: the listed tables hold what the program's text lays (the card ties them).
-/
import Derived.Deep.DeepCutAuto
import Derived.Deep.RegionWith
import Derived.Test.YtcolnidgembniaaDoorFrAllP5
import Derived.SizedLaws
import Derived.Carry
import Derived.Test.YtcolnidgembniaaDoorFrAllP7
import Derived.Test.YtcolnidgembniaaDoorFrAllP6
import Derived.Test.YtcolnidgembniaaDoorFrAllP4
import Derived.WideKeyPair
import Derived.Deep.DeepWitnessRowRef
namespace Go.Proofs.YtcolnidgembniaaDoor.framingReads
open Go.ChangeShapes Go.WideShapes Go.ChangeAt Go.RowKit
open Go.ChangeMaps (open_string shut_string)
set_option linter.unusedVariables false

open Go.Proofs.YtcolnidgembniaaDoor.Fr Go.Proofs.YtcolnidgembniaaDoor.Hd Go.Proofs.YtcolnidgembniaaDoor.Fd Go.Proofs.YtcolnidgembniaaDoor.Tk

theorem int_of (k : IntKind) (n : Int) : intOf (.int k n) = n := rfl
set_option maxHeartbeats 16000000 in
set_option maxRecDepth 100000 in
theorem walk (a0 : Int) (w0 : (Lit.int .i64 a0).wf = true) (a1 : Int) (w1 : (Lit.int .i64 a1).wf = true) (v2 : Value) (l0 : Bs) (w : World) (hT : Tk.Tab w) (hE : Fr.ErrV w) (f0 : Byts w v2 l0) (l0l : l0.length ≤ maxLen) :
    Calls Tryd.prog 4 #[.int .i64 a0, .int .i64 a1, v2] w fun e w' => e = .returned (.bool true) ∧ Below w.heap.size w w' := by
  have HT := Lib.hid hT
  have HE := Lib.hid hE
  obtain ⟨va, vc, hv0⟩ := f0.shape
  have HF0 := Lib.hid f0
  unfold maxLen at l0l
  subst hv0
  clear hT hE f0 w0 w1
  go_enter Tryd.func4, Tryd.ntmps4
  go_upto_if 34 with fail
  go_cut [2] (fun s2 wx => ∃ (b : Bs) (wa : Option Addr) (WC : Nat), s2 = .slice wa b.length WC ∧ b.length ≤ 3000 ∧ Byts w (.slice wa b.length WC) b ∧ w = wx)
  case first =>
    by_cases h9 : 3000 < l0.length
    · rcases HF0.out with ⟨h0, _⟩ | ⟨B, off, cap, hv, hcap, hcm, hB, hh⟩
      · rw [h0] at h9; simp at h9
      injection hv with e1 _ e3
      subst e1 e3
      have HB0 := Lib.hid (byts_cut (k := 0) (d := 3000) HF0.out hB hcap hcm (by omega))
      have HL := Lib.hid (show ((l0.drop 0).take 3000).length = 3000 from by rw [List.length_take, List.length_drop]; omega)
      unfold maxLen at hcm
      go_wp2_with fail
      go_meet
      refine ⟨(l0.drop 0).take 3000, some ⟨B, off, none⟩, vc, by rw [HL.out], by rw [HL.out]; omega, by rw [HL.out]; exact HB0.out, rfl⟩
    · go_wp2_with fail
      go_meet
      exact ⟨l0, _, _, rfl, by omega, HF0.out, rfl⟩
  case rest =>
    obtain ⟨b, wa, WC, rfl, hb9, hy, rfl⟩ := hcut
    have HY := Lib.hid hy
    clear hy HF0 l0l
    obtain ⟨ER, hER⟩ : ∃ ER, ER = madeErr a0 a1 := ⟨_, rfl⟩
    have hNew := new_any a0 a1 w
    unfold NewPost at hNew
    have hRef := fun x1 => rnew_any a0 a1 x1
    unfold RNewPost at hRef
    cases hm : made a0 a1 with
    | none =>
      rw [hm] at hNew
      simp only [hm] at hRef
      rw [← hER] at hNew hRef
      have HN := Lib.hid hNew
      have HR := Lib.hid hRef
      clear hNew hRef hm hER
      have eE : ((ER : Int) != (ER : Int)) = false := by simp
      go_wp2_with fail
      refine HN.out.mono ?_
      rintro e x1 ⟨rfl, rfl⟩
      go_wp2_with fail
      refine (HR.out _).mono ?_
      rintro e x2 ⟨hb, rfl⟩
      have HB := Lib.hid hb
      clear hb
      go_wp2_with fail
      go_ret
      exact ⟨rfl, HB.out⟩
    | some s0 =>
      rw [hm] at hNew
      simp only [hm] at hRef
      have HN := Lib.hid hNew
      have HR := Lib.hid hRef
      have HG := Lib.hid (good_made hm)
      clear hNew hRef hm hER
      go_wp2_with fail
      refine HN.out.mono ?_
      rintro e x1 ⟨gx, rfl, hD, h1⟩
      have HD := Lib.hid hD
      have H1 := Lib.hid h1
      clear hD h1
      go_wp2_with fail
      refine (HR.out x1).mono ?_
      rintro e x2 ⟨h2, gy, rfl, hR, hgy⟩
      have HTW := Lib.hid (two_start HG.out HD.out H1.out hR hgy h2)
      clear h2 hR hgy HN HR HD H1
      go_wp2_with fail
      go_loopw [11, 12, 13, 14, 15, 16, 17, 18, 19, 20, 21] (fun v11 v12 _ _ _ _ _ _ _ _ _ wr => ∃ (k i : Nat) (st : St) (O : Nat → Prop), v11 = .int .i64 (k : Int) ∧ v12 = .int .i64 (i : Int) ∧ i ≤ 5 ∧ k ≤ b.length ∧ Fr.Two w gx gy st O wr) (fun _ v12 _ _ _ _ _ _ _ _ _ _ => 5 - (intOf v12).toNat)
      case atStart => exact ⟨0, 0, s0, _, rfl, rfl, by omega, Nat.zero_le _, HTW.out⟩
      case round =>
        obtain ⟨k, i, st, O, rfl, rfl, hi, hk, hA⟩ := hrel
        have HA := Lib.hid hA
        clear hA HTW
        by_cases hlt : i < 5
        · obtain ⟨D, hD⟩ : ∃ D, D = (b.length - k) * i / 4 := ⟨_, rfl⟩
          obtain ⟨A, hA⟩ : ∃ A, A = (b.length - k) * i := ⟨_, rfl⟩
          have hmul : ((b.length : Int) - (k : Int)) * (i : Int) = (A : Int) := by rw [hA, Int.natCast_mul, Int.natCast_sub hk]
          have hA4 : A ≤ 4 * (b.length - k) := by rw [hA, Nat.mul_comm]; exact Nat.mul_le_mul_right _ (by omega)
          rw [← hA] at hD
          have hA0 : A ≤ 12000 := by omega
          have hdiv : (A : Int).tdiv 4 = (D : Int) := by rw [hD]; rfl
          have hdiv2 : (A : Int) / 4 = (D : Int) := by rw [hD]; rfl
          have hkd : k + D ≤ b.length := by omega
          clear hD hA hA4
          obtain ⟨P, hP⟩ : ∃ P, P = (b.drop k).take D := ⟨_, rfl⟩
          have hPl : P.length = D := by rw [hP, List.length_take, List.length_drop]; omega
          obtain ⟨X, N, ST, hN⟩ : ∃ X N ST, run st P = (X, N, ST) := ⟨_, _, _, rfl⟩
          have hNl := run_le P st
          rw [hN, hPl] at hNl
          have hNl' : N ≤ D := hNl
          have HX := Lib.hid (fun (v : Value) (hv : Byts wr v P) (hvo : 0 < P.length → ∀ j, v.ownBlock = some j → ¬ O j) => two_x HA.out v P hv hvo (by omega) HT.out HE.out)
          rw [hN] at HX
          have HYY := Lib.hid (fun (O' : Nat → Prop) (ov : Value) (y : World) (t : Fr.Mid w gx gy st ST O' X ov y) (v : Value) (hv : Byts y v P) (hvo : 0 < P.length → v.ownBlock ≠ some gy) => two_y t v P hv hvo (by omega) (by rw [hN]))
          rw [hN] at HYY
          obtain ⟨DD, hDD⟩ : ∃ DD, DD = doneOf ST := ⟨_, rfl⟩
          obtain ⟨EE, hEE⟩ : ∃ EE, EE = errOf ST := ⟨_, rfl⟩
          obtain ⟨XL, hXL⟩ : ∃ XL, XL = X.length := ⟨_, rfl⟩
          have HX2 : Hid (∀ (v : Value) (hv : Byts wr v P) (hvo : 0 < P.length → ∀ j, v.ownBlock = some j → ¬ O j), Calls Tryd.prog 18 #[.pointer (some ⟨gx, 0, none⟩), v] wr fun e y => ∃ a c O', e = .returned (.tuple #[.slice a XL c, .int .i64 (N : Int), .bool DD, .int .i64 (EE : Int)]) ∧ Fr.Mid w gx gy st ST O' X (.slice a XL c) y) := by rw [hDD, hEE, hXL]; exact HX
          have HY2 : Hid (∀ (O' : Nat → Prop) (ov : Value) (y : World) (t : Fr.Mid w gx gy st ST O' X ov y) (v : Value) (hv : Byts y v P) (hvo : 0 < P.length → v.ownBlock ≠ some gy), Calls Tryd.prog 19 #[.pointer (some ⟨gy, 0, none⟩), v] y fun e z => ∃ a c, e = .returned (.tuple #[.slice a XL c, .int .i64 (N : Int), .bool DD, .int .i64 (EE : Int)]) ∧ Own z w.heap.size ov X ∧ Own z w.heap.size (.slice a XL c) X ∧ Fr.Two w gx gy ST O' z) := by rw [hDD, hEE, hXL]; exact HYY
          have hways : (D < 1 ∧ WC ≤ k ∧ k ≤ WC) ∨ (D < 1 ∧ k < WC ∧ k ≤ WC) ∨ (0 < D ∧ k < WC ∧ k + D ≤ WC) := by
            rcases HY.out with ⟨h0, _⟩ | ⟨B, off, cap, hv, hcap, _⟩
            · rw [h0] at hkd; simp at hkd; omega
            · injection hv with _ _ e3; omega
          have HW := Lib.hid hways
          have HP0 := Lib.hid (fun (h0 : D < 1) => (show P = [] ∧ D = 0 from ⟨List.length_eq_zero_iff.1 (by omega), by omega⟩))
          have HBV : Hid (∀ (a : Option Addr) (c : Nat) (y : World), D < 1 → Byts y (.slice a D c) P ∧ ¬ 0 < P.length) := Lib.hid fun a c y h0 => by
            obtain ⟨h1, h2⟩ := HP0.out h0
            exact ⟨.inl ⟨h1, a, c, by rw [h2]⟩, by rw [h1]; simp⟩
          have HBP : Hid (∀ (B off : Nat) (y : World), wa = some ⟨B, off, none⟩ → Below w.heap.size w y → 0 < D → Byts y (.slice (some ⟨B, off + k, none⟩) D (WC - k)) P ∧ B < w.heap.size) := Lib.hid fun B off y e hb h0 => by
            rcases HY.out with ⟨h1, _⟩ | ⟨B', off', cap, hv, hcap, hcm, hB, hh⟩
            · rw [h1] at hkd; simp at hkd; omega
            · subst e
              injection hv with e1 _ e3
              injection e1 with e1
              injection e1 with e1 e2
              subst e1 e2 e3
              refine ⟨?_, hB⟩
              rw [hP]
              exact (byts_cut HY.out hB hcap hcm hkd).below hb (Nat.le_refl _)
          have HWA : Hid (0 < D → ∃ B off, wa = some ⟨B, off, none⟩) := Lib.hid fun h0 => by
            rcases HY.out with ⟨h1, _⟩ | ⟨B', off', cap, hv, _⟩
            · rw [h1] at hkd; simp at hkd; omega
            · injection hv with e1; exact ⟨B', off', e1⟩
          have HBw := Lib.hid HA.out.bel
          have HOf := Lib.hid HA.out.far
          have HHw := Lib.hid HA.out.hw
          clear hways hP hPl hN hNl hDD hEE hXL HX HYY
          go_upto_region 14 with fail
          go_cut [14, 15, 16, 17] (fun s14 s15 s16 s17 wx => ∃ a c O', s14 = .slice a XL c ∧ s15 = .int .i64 (N : Int) ∧ s16 = .bool DD ∧ s17 = .int .i64 (EE : Int) ∧ Fr.Mid w gx gy st ST O' X (.slice a XL c) wx)
          case first =>
            rcases HW.out with ⟨h0, hkW, hkV⟩ | ⟨h0, hkW, hkV⟩ | ⟨h0, hkW, hkV⟩
            · have hWk : (WC = k) = True := eq_true (by omega)
              go_wp2_with fail
              refine (HX2.out _ (HBV.out _ _ _ h0).1 (fun hp => ((HBV.out none 0 wr h0).2 hp).elim)).mono ?_
              rintro e x5 ⟨a, c, O', rfl, hM⟩
              go_wp2_with fail
              go_meet
              exact ⟨a, c, O', rfl, rfl, rfl, rfl, hM⟩
            · go_wp2_with fail
              refine (HX2.out _ (HBV.out _ _ _ h0).1 (fun hp => ((HBV.out none 0 wr h0).2 hp).elim)).mono ?_
              rintro e x5 ⟨a, c, O', rfl, hM⟩
              go_wp2_with fail
              go_meet
              exact ⟨a, c, O', rfl, rfl, rfl, rfl, hM⟩
            · obtain ⟨B, off, hwa⟩ := HWA.out h0
              have HBPx := Lib.hid (HBP.out B off wr hwa HBw.out h0)
              subst hwa
              go_wp2_with fail
              refine (HX2.out _ HBPx.out.1 (fun _ j hj hO => by injection hj with hj; have hj' : B = j := hj; have := (HOf.out j hO).1; have := HBPx.out.2; omega)).mono ?_
              rintro e x5 ⟨a, c, O', rfl, hM⟩
              go_wp2_with fail
              go_meet
              exact ⟨a, c, O', rfl, rfl, rfl, rfl, hM⟩
          case rest =>
            obtain ⟨a, c, O', rfl, rfl, rfl, rfl, hM⟩ := hcut
            have HM := Lib.hid hM
            have HBm := Lib.hid hM.bel
            clear hM HX2 HBw HOf HA
            go_upto_region 15 with fail
            go_cut [18, 19, 20, 21] (fun s18 s19 s20 s21 wx => ∃ a' c', s18 = .slice a' XL c' ∧ s19 = .int .i64 (N : Int) ∧ s20 = .bool DD ∧ s21 = .int .i64 (EE : Int) ∧ Own wx w.heap.size (.slice a XL c) X ∧ Own wx w.heap.size (.slice a' XL c') X ∧ Fr.Two w gx gy ST O' wx)
            case first =>
              rcases HW.out with ⟨h0, hkW, hkV⟩ | ⟨h0, hkW, hkV⟩ | ⟨h0, hkW, hkV⟩
              · have hWk : (WC = k) = True := eq_true (by omega)
                go_wp2_with fail
                refine (HY2.out _ _ _ HM.out _ (HBV.out _ _ _ h0).1 (fun hp => ((HBV.out none 0 w h0).2 hp).elim)).mono ?_
                rintro e x6 ⟨a', c', rfl, h1, h2, h3⟩
                go_wp2_with fail
                go_meet
                exact ⟨a', c', rfl, rfl, rfl, rfl, h1, h2, h3⟩
              · go_wp2_with fail
                refine (HY2.out _ _ _ HM.out _ (HBV.out _ _ _ h0).1 (fun hp => ((HBV.out none 0 w h0).2 hp).elim)).mono ?_
                rintro e x6 ⟨a', c', rfl, h1, h2, h3⟩
                go_wp2_with fail
                go_meet
                exact ⟨a', c', rfl, rfl, rfl, rfl, h1, h2, h3⟩
              · obtain ⟨B, off, hwa⟩ := HWA.out h0
                have HBPx := Lib.hid (HBP.out B off _ hwa HBm.out h0)
                subst hwa
                go_wp2_with fail
                refine (HY2.out _ _ _ HM.out _ HBPx.out.1 (fun _ hj => by injection hj with hj; have hj' : B = gy := hj; have := HHw.out; have := HBPx.out.2; omega)).mono ?_
                rintro e x6 ⟨a', c', rfl, h1, h2, h3⟩
                go_wp2_with fail
                go_meet
                exact ⟨a', c', rfl, rfl, rfl, rfl, h1, h2, h3⟩
            case rest =>
              obtain ⟨a', c', rfl, rfl, rfl, rfl, h1, h2, h3⟩ := hcut
              have hc1 := conv_own h1
              have hc2 := conv_own h2
              have HT3 := Lib.hid h3
              have eN : ((N : Int) != (N : Int)) = false := by simp
              have eD : (DD != DD) = false := by simp
              have eE : ((EE : Int) != (EE : Int)) = false := by simp
              obtain ⟨TX, hTX⟩ : ∃ TX : ByteArray, TX = ⟨X.toArray⟩ := ⟨_, rfl⟩
              rw [← hTX] at hc1 hc2
              clear h1 h2 h3 hTX HY2 HM HBm HW HBV HBP HWA hmul hdiv hdiv2
              go_wp2_with fail
              go_roundw
              case rel => exact ⟨k + N, i + 1, ST, O', by go_num, by go_num, by omega, by omega, HT3.out⟩
              case measure => simp [intOf]; omega
        · have HXe := Lib.hid (two_ex HA.out)
          have HYe := Lib.hid (fun y (t : Fr.Mid w gx gy st (closed st) O [] (.slice none 0 0) y) => two_ey t)
          obtain ⟨CS, hCS⟩ : ∃ CS, CS = closed st := ⟨_, rfl⟩
          rw [← hCS] at HXe HYe
          obtain ⟨DC, hDC⟩ : ∃ DC, DC = doneOf CS := ⟨_, rfl⟩
          obtain ⟨EC, hEC⟩ : ∃ EC, EC = errOf CS := ⟨_, rfl⟩
          rw [← hDC, ← hEC] at HXe HYe
          obtain ⟨XA, NA, SA, hA3⟩ : ∃ XA NA SA, run CS abc = (XA, NA, SA) := ⟨_, _, _, rfl⟩
          have HX3 := Lib.hid (fun (wr : World) (t : Fr.Two w gx gy CS O wr) (v : Value) (hv : Byts wr v abc) (hvo : 0 < abc.length → ∀ j, v.ownBlock = some j → ¬ O j) => two_x t v abc hv hvo (by decide) HT.out HE.out)
          rw [hA3] at HX3
          have HY3 := Lib.hid (fun (O' : Nat → Prop) (ov : Value) (y : World) (t : Fr.Mid w gx gy CS SA O' XA ov y) (v : Value) (hv : Byts y v abc) (hvo : 0 < abc.length → v.ownBlock ≠ some gy) => two_y t v abc hv hvo (by decide) (by rw [hA3]))
          rw [hA3] at HY3
          obtain ⟨DA, hDA⟩ : ∃ DA, DA = doneOf SA := ⟨_, rfl⟩
          obtain ⟨EA, hEA⟩ : ∃ EA, EA = errOf SA := ⟨_, rfl⟩
          have HX4 : Hid (∀ (wr : World) (t : Fr.Two w gx gy CS O wr) (v : Value) (hv : Byts wr v abc) (hvo : 0 < abc.length → ∀ j, v.ownBlock = some j → ¬ O j), Calls Tryd.prog 18 #[.pointer (some ⟨gx, 0, none⟩), v] wr fun e y => ∃ a c O', e = .returned (.tuple #[.slice a XA.length c, .int .i64 (NA : Int), .bool DA, .int .i64 (EA : Int)]) ∧ Fr.Mid w gx gy CS SA O' XA (.slice a XA.length c) y) := by rw [hDA, hEA]; exact HX3
          have HY4 : Hid (∀ (O' : Nat → Prop) (ov : Value) (y : World) (t : Fr.Mid w gx gy CS SA O' XA ov y) (v : Value) (hv : Byts y v abc) (hvo : 0 < abc.length → v.ownBlock ≠ some gy), Calls Tryd.prog 19 #[.pointer (some ⟨gy, 0, none⟩), v] y fun e z => ∃ a c, e = .returned (.tuple #[.slice a XA.length c, .int .i64 (NA : Int), .bool DA, .int .i64 (EA : Int)]) ∧ Own z w.heap.size ov XA ∧ Own z w.heap.size (.slice a XA.length c) XA ∧ Fr.Two w gx gy SA O' z) := by rw [hDA, hEA]; exact HY3
          have kc := fun (w : World) (C : Array Value) (n c : Nat) => Lib.run_convert_bytes_const (P := Tryd.prog) w 39 5 C n c Tryd.underlying39 Tryd.underlying5
          have eD : (DC == DC) = true := by simp
          have eE : ((EC : Int) == (EC : Int)) = true := by simp
          have eD2 : (DA == DA) = true := by simp
          have eE2 : ((EA : Int) == (EA : Int)) = true := by simp
          have eN2 : ((NA : Int) == (NA : Int)) = true := by simp
          clear hCS hDC hEC hA3 hDA hEA HX3 HY3
          go_wp2_with fail
          refine HXe.out.mono ?_
          rintro e x1 ⟨rfl, hM⟩
          have HYe1 := Lib.hid (HYe.out _ hM)
          clear hM
          go_wp2_with fail
          refine HYe1.out.mono ?_
          rintro e x2 ⟨rfl, hTw⟩
          have HB2 := Lib.hid ((Below.refl x2.heap.size x2).alloc (Nat.le_refl _) (.cells c3 5 (3, 4)))
          have HTw := Lib.hid (hTw.below HB2.out)
          have HFar := Lib.hid hTw.far
          have HBy := Lib.hid (byts_const x2 c3 abc (3, 4) c3_eq (by decide))
          clear hTw HYe HYe1 HXe
          go_wp2_with fail
          refine (HX4.out _ HTw.out _ HBy.out (fun _ j hj hO => by injection hj with hj; have hj' : x2.heap.size = j := hj; have := (HFar.out j hO).2.1; omega)).mono ?_
          rintro e x3 ⟨a, c, O', rfl, hM⟩
          have HB3 := Lib.hid ((Below.refl x3.heap.size x3).alloc (Nat.le_refl _) (.cells c3 5 (3, 4)))
          have HM3 := Lib.hid (hM.below HB3.out)
          have HBy3 := Lib.hid (byts_const x3 c3 abc (3, 4) c3_eq (by decide))
          have HLt := Lib.hid hM.ref.lt
          clear hM
          go_wp2_with fail
          refine (HY4.out _ _ _ HM3.out _ HBy3.out (fun _ hj => by injection hj with hj; have hj' : x3.heap.size = gy := hj; have := HLt.out; omega)).mono ?_
          rintro e x4 ⟨a', c', rfl, _, _, hTw⟩
          have HBe := Lib.hid hTw.bel
          clear hTw
          go_wp2_with fail
          go_ret
          exact ⟨rfl, HBe.out⟩

set_option maxHeartbeats 2000000 in
set_option maxRecDepth 100000 in
theorem contract (H : Type) (enc : TypeId × Value → H) (W : World) (base : Nat) (args : Array Value) (ds gs : List (DataW H)) (before : List MemPlace)
    (hval : ∀ (j : Nat) t v, Tryd.f4.params[j]? = some t → args[j]? = some v → Value.okWide Tryd.prog W .any base t v)
    (hW : DataW.Whole enc Tryd.prog Tryd.f4.params.toList Rows.framingReadsSpec.vars false W args.toList ds gs before) (ts : List TypeId) (hsz : (DataW.weightsEach Tryd.prog (Tryd.f4.params.toList ++ ts) (ds ++ gs)).all (· ≤ reachBytes) = true) (hL : laidMetH Tryd.prog Rows.framingReadsRow.laid W) :
    Calls Tryd.prog 4 args W fun e W' => ∃ v, e = .returned v ∧ Rows.framingReadsSpec.post enc Tryd.prog Tryd.f4 false true false false W args v W' := by
  have hW' := hW
  obtain ⟨p, q, hA0, hV, rfl, hfz, hnd⟩ := hW
  have hA : DataW.TrodAll enc Tryd.prog W 0 (fun _ => true) true Tryd.f4.params.toList args.toList ds p := hA0
  rw [Tryd.params4] at hA hval hsz
  obtain ⟨v0, vs0, d0, ds0, p0, q0, hargs, rfl, rfl, h0, r0⟩ := trodAll_cons hA
  obtain ⟨v1, vs1, d1, ds1, p1, q1, rfl, rfl, rfl, h1, r1⟩ := trodAll_cons r0
  obtain ⟨v2, vs2, d2, ds2, p2, q2, rfl, rfl, rfl, h2, r2⟩ := trodAll_cons r1
  obtain ⟨rfl, rfl, rfl⟩ := trodAll_nil r2
  obtain rfl : args = #[v0, v1, v2] := by cases args; simp_all
  obtain ⟨rfl, rfl⟩ := trodVars_none hV
  obtain ⟨a0, rfl, rfl, rfl, w0⟩ := open_int Tryd.underlying3 (hval 0 3 v0 rfl rfl) h0
  obtain ⟨a1, rfl, rfl, rfl, w1⟩ := open_int Tryd.underlying3 (hval 1 3 v1 rfl rfl) h1
  have k2 := h2
  have lt2 : ∀ x ∈ p2, x.block < W.heap.size := by obtain ⟨m, hm⟩ := k2; exact DataW.trod_lt m _ _ _ hm
  obtain ⟨ls2, f2, l2⟩ := Hd.open_byts (hval 2 39 v2 rfl rfl) h2
  clear hA0
  simp only [List.append_nil] at hW'
  refine (walk a0 w0 a1 w1 v2 ls2 W (Tb.tok_of_head (Tb.tail (Tb.tail (Tb.tail (Tb.tail (Tb.tail (Tb.tail hL))))))) (Tb.err_of_head (Tb.tail (Tb.tail (Tb.tail (Tb.tail (Tb.tail hL)))))) f2 l2).mono fun e W' ⟨he, bel⟩ => ?_
  subst he
  exact ⟨_, rfl, _, _, _, [], _, [], hW', trodAll_mk1 (shut_bool Tryd.underlying4 _), (trodAll_cons_mk (shut_int Tryd.underlying3 w0) (trodAll_cons_mk (shut_int Tryd.underlying3 w1) (trodAll_cons_mk (Below.trod Tb.laidOut (by kernel_rfl) (of_decide_eq_true (by kernel_rfl)) k2 bel lt2) trodAll_mk0))), rfl, bel.frame _, fun h => by cases h⟩

theorem laid_met (os : Os) : laidMet Tryd.prog Rows.framingReadsRow.laid ((Tb.laidWorld os).forCall (fun _ _ => 0) ⟨#[], #[.int .i64 0, .int .i64 0, .slice none 0 0], []⟩).memory :=
  laidMet_of_run' 8 (by kernel_rfl) (by kernel_rfl)
theorem reads (os : Os) {H : Type} (enc : TypeId × Value → H) : ∃ places, DataW.whole enc Tryd.prog ((Tb.laidWorld os).forCall (fun _ _ => 0) ⟨#[], #[.int .i64 0, .int .i64 0, .slice none 0 0], []⟩).memory Tryd.f4.params.toList Rows.framingReadsSpec.vars false (#[.int .i64 0, .int .i64 0, .slice none 0 0] : Array Value).toList 8 = some ([.lit (.int .i64 0), .lit (.int .i64 0), .nil], [], places) :=
  ⟨[], by kernel_rfl⟩

set_option maxRecDepth 100000 in
theorem lifted (os : Os) (started : os.Started) (H : Type) (enc : TypeId × Value → H) (F : Stop.Interp) :
    ReturnsInHanded {} Tryd.checked os 4 .any ((OpenSpec.ofChange Rows.framingReadsSpec).preRow enc Tryd.prog Tryd.f4 Rows.framingReadsRow.domain false Rows.framingReadsRow.laid) (((OpenSpec.ofChange Rows.framingReadsSpec).at F).post enc Tryd.prog Tryd.f4 false true false false) := by
  obtain ⟨places, hx⟩ := reads os enc
  refine returnsInHanded_of_row (C := Tryd.checked) (s := OpenSpec.ofChange Rows.framingReadsSpec) Tb.own started (by kernel_rfl) Tryd.func4
    (witness_row_atRef (enc := enc) (C := Tryd.checked) false (Tb.laidWorld os) #[.int .i64 0, .int .i64 0, .slice none 0 0] rfl (by kernel_rfl) (by kernel_rfl) (by kernel_rfl)
      (OpenSpec.preRow_of_cond 8 hx (by kernel_rfl) (fun k hk => by cases hk) (by kernel_rfl) (laid_met os))) ?_
  intro W base args ds gs before hval hW _ _ hsz hL _ _
  exact contract H enc W base args ds gs before hval hW _ hsz hL

theorem said : Rows.FramingReadsSaid :=
  OpenClaim.holds_of_cond 4 Tryd.f4 rfl rfl rfl rfl rfl rfl rfl ⟨rfl, rfl, rfl, rfl, rfl⟩ rfl rfl rfl rfl rfl (by kernel_rfl) Tryd.func4 (by kernel_rfl)
    (of_decide_eq_true (by kernel_rfl)) (by unfold Func.isWrapper; first | (rw [if_pos (by decide +kernel)]; kernel_rfl) | (rw [if_neg (by decide +kernel)]; exact ⟨rfl, rfl⟩))
    (fun os started H enc _ F => by rw [OpenClaim.pre_eq_preRow]; exact lifted os started H enc F)

set_option maxRecDepth 100000 in
theorem plain (f : FuncId) (fn : Func) (hf : Tryd.pinned.checked.prog.funcNamed "gatepost/gatepostlaw06.FramingReads" = some f) (hfn : Tryd.pinned.checked.prog.funcs[f]? = some fn) :
    true = Tryd.pinned.checked.prog.looks [] ∧ ∀ (j : Nat) t, fn.params[j]? = some t → Tryd.pinned.checked.prog.wantsStandIn t = false := by
  obtain rfl : f = 4 := Option.some.inj ((show Tryd.prog.funcNamed "gatepost/gatepostlaw06.FramingReads" = some 4 by kernel_rfl).symm.trans hf) |>.symm
  obtain rfl : fn = Tryd.f4 := (Option.some.inj (Tryd.func4.symm.trans hfn)).symm
  refine ⟨by kernel_rfl, fun j t ht => ?_⟩
  rw [Tryd.params4] at ht
  have hm := Array.mem_of_getElem? ht
  simp at hm
  rcases hm with rfl | rfl
  · exact (show Tryd.prog.wantsStandIn 3 = false by kernel_rfl)
  · exact (show Tryd.prog.wantsStandIn 39 = false by kernel_rfl)

theorem card : Rows.FramingReadsCardSaid :=
  Claim7.holds_tied_plain_at .later [] _ _ _ _ said (fun _ h => by cases h) (by kernel_rfl) (fun _ h => by cases h) framingReads_row_tie rfl ⟨rfl, rfl⟩ (by kernel_rfl) rfl plain (by kernel_rfl)
end Go.Proofs.YtcolnidgembniaaDoor.framingReads
