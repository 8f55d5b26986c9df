/-
  HeadReads: any bytes, in any pieces, are the document's head, or fail where it says.
  Conditions: the listed tables hold what the program's text lays (the card ties them).
-/
import Derived.Deep.DeepCutAuto
import Derived.Test.YtoofdompafkddaaDoorHeadReadsP2
import Derived.Test.YtoofdompafkddaaDoorHeadReadsP3
import Derived.SizedLaws
import Derived.Carry
import Derived.Test.YtoofdompafkddaaDoorHeadReadsP14
import Derived.Test.YtoofdompafkddaaDoorHeadReadsP17
import Derived.WideKeyPair
namespace Go.Proofs.YtoofdompafkddaaDoor.headReads
open Go.ChangeShapes Go.WideShapes Go.ChangeAt Go.RowKit
open Go.ChangeMaps (open_string shut_string)
set_option linter.unusedVariables false

open Go.Proofs.YtoofdompafkddaaDoor.Hd Go.Proofs.YtoofdompafkddaaDoor.Fd Go.Proofs.YtoofdompafkddaaDoor.Tk

theorem int_of (k : IntKind) (n : Int) : intOf (.int k n) = n := rfl
theorem names_any (w : World) : Calls Tryd.prog 15 #[] w fun e w' => e = .returned (.bool true) ∧ w = w' := by
  go_enter Tryd.func15, Tryd.ntmps15
  go_wp2_with fail
  go_ret
  exact ⟨rfl, rfl⟩
/-- Both readers stand alike. -/
def Two (w : World) (resp : Bool) (g h : Nat) (st : St) (wr : World) : Prop :=
  Hd.Good st ∧ Below w.heap.size w wr ∧ ∃ O Q : Nat → Prop, Rdr wr O resp g st ∧ RRdr wr Q resp h st ∧ (∀ k, O k → w.heap.size ≤ k ∧ k < wr.heap.size ∧ ¬ Q k) ∧ (∀ k, Q k → w.heap.size ≤ k ∧ k < wr.heap.size)
def FreshR (resp : Bool) : Array Value := #[.bool resp, .int .i64 0, .string ⟨#[]⟩, .bool false, .string ⟨#[]⟩, .string ⟨#[]⟩, .int .i64 0, .slice none 0 0, .int .i64 0, .int .i64 0, .string ⟨#[]⟩, .slice none 0 0, .slice none 0 0, .bool false, .int .i64 0]
theorem fresh_rr (resp : Bool) : FreshR resp = rr resp 0 (txt []) false .none (.slice none 0 0) false 0 := by cases resp <;> rfl
theorem two_start {w x1 : World} {resp : Bool} {g : Nat} (hR : Rdr x1 (fun k => w.heap.size ≤ k) resp g Hd.start) (hb : Below w.heap.size w x1) :
    Two w resp g x1.heap.size Hd.start (x1.alloc (.cells (FreshR resp) 33)) := by
  have hs := hb.size
  have ha : Below x1.heap.size x1 (x1.alloc (.cells (FreshR resp) 33)) := (Below.refl _ _).alloc (Nat.le_refl _) _
  refine ⟨good_start, hb.trans (ha.mono hs), fun k => w.heap.size ≤ k ∧ k < x1.heap.size, fun k => k = x1.heap.size, hR.bound.below ha, ?_, fun k hk => ⟨hk.1, by simp; omega, by omega⟩, fun k hk => ⟨by omega, by simp; omega⟩⟩
  exact ⟨.slice none 0 0, by show RBlk _ _ (rr resp 0 (txt []) false .none (.slice none 0 0) false 0); rw [← fresh_rr]; exact new_block _ _, OwnF.nil _ _, rfl, fun k hk => by cases hk⟩
/-- The program's reader was fed; the reference's is next. -/
theorem two_feed {w wr x y : World} {resp : Bool} {g h : Nat} {st st' : St} {O Q : Nat → Prop} (hQ : RRdr wr Q resp h st) (hO : ∀ k, O k → w.heap.size ≤ k ∧ k < wr.heap.size ∧ ¬ Q k) (hQ2 : ∀ k, Q k → w.heap.size ≤ k ∧ k < wr.heap.size)
    (hB : Below w.heap.size w wr) (hX : Rdr x (New O wr) resp g st') (hC : Chg O wr x) (hG : Hd.Good st') :
    RRdr x Q resp h st ∧ (RRdr y (New Q x) resp h st' → Chg Q x y → Two w resp g h st' y) := by
  have hs := hC.size
  have hw := hB.size
  refine ⟨hQ.kept hC (fun k hk ho => (hO k ho).2.2 hk), fun hY hD => ?_⟩
  have hs2 := hD.size
  have hd : ∀ k, (New O wr k ∧ k < x.heap.size) → ¬ Q k := fun k hk hq => by
    rcases hk.1 with h1 | h1
    · exact (hO k h1).2.2 hq
    · have := hQ2 k hq; omega
  refine ⟨hG, ?_, fun k => New O wr k ∧ k < x.heap.size, fun k => New Q x k ∧ k < y.heap.size, hX.bound.kept hD hd, hY.bound, fun k hk => ⟨?_, by omega, fun hq => ?_⟩, fun k hk => ⟨?_, hk.2⟩⟩
  · exact (hB.trans (hC.below (fun k hk => (hO k hk).1) hw)).trans (hD.below (fun k hk => (hQ2 k hk).1) (by omega))
  · rcases hk.1 with h1 | h1
    · exact (hO k h1).1
    · omega
  · rcases hq.1 with h1 | h1
    · exact hd k hk h1
    · omega
  · rcases hk.1 with h1 | h1
    · exact (hQ2 k h1).1
    · omega
theorem two_drawn {w wr : World} {resp : Bool} {g h : Nat} {st : St} (hT : Two w resp g h st wr) (n : Nat) : Two w resp g h st (wr.drewN n) := by
  obtain ⟨hG, hB, O, Q, h1, h2, h3, h4⟩ := hT
  have hb : Below wr.heap.size wr (wr.drewN n) := ⟨rfl, rfl, rfl, Nat.le_refl _, fun _ _ => rfl⟩
  exact ⟨hG, hB.trans (hb.mono hB.size), O, Q, h1.below hb, h2.below hb, h3, h4⟩
set_option maxHeartbeats 16000000 in
set_option maxRecDepth 100000 in
theorem walk (v0 : Value) (l0 : Bs) (v1 : Value) (n1 : Nat) (a2 : Bool) (w : World) (hT : Tk.Tab w) (f0 : Byts w v0 l0) (l0l : l0.length ≤ maxLen) (f1 : Ints w v1 n1) (l1l : n1 ≤ maxLen) :
    Calls Tryd.prog 3 #[v0, v1, .bool a2] w fun e w' => e = .returned (.bool true) ∧ Below w.heap.size w w' := by
  have HT := Lib.hid hT
  have htl := hT.lt
  obtain ⟨va, vc, hv0⟩ := f0.shape
  obtain ⟨na, nc, hv1⟩ := f1.shape
  have HI := Lib.hid f1
  have HF0 := Lib.hid f0
  unfold maxLen at l0l l1l
  subst hv0 hv1
  clear hT f1 f0
  go_enter Tryd.func3, Tryd.ntmps3
  go_upto_if 28 with fail
  go_cut [0] (fun s0 wx => ∃ (b : Bs) (wa : Option Addr) (WC : Nat), s0 = .slice wa b.length WC ∧ b.length ≤ 9000 ∧ Byts w (.slice wa b.length WC) b ∧ w = wx)
  case first =>
    by_cases h9 : 9000 < l0.length
    · rcases HF0.out with ⟨h0, _⟩ | ⟨B, off, cap, hv, hcap, hcm, hB, hh⟩
      · rw [h0] at h9; simp at h9
      injection hv with e1 _ e3
      subst e1 e3
      have HB0 := Lib.hid (byts_cut (k := 0) (d := 9000) HF0.out hB hcap hcm (by omega))
      have HL := Lib.hid (show ((l0.drop 0).take 9000).length = 9000 from by rw [List.length_take, List.length_drop]; omega)
      unfold maxLen at hcm
      go_wp2_with fail
      go_meet
      refine ⟨(l0.drop 0).take 9000, some ⟨B, off, none⟩, vc, by rw [HL.out], by rw [HL.out]; omega, by rw [HL.out]; exact HB0.out, rfl⟩
    · go_wp2_with fail
      go_meet
      exact ⟨l0, _, _, rfl, by omega, HF0.out, rfl⟩
  case rest =>
    obtain ⟨b, wa, WC, rfl, hb9, hy, rfl⟩ := hcut
    have HY := Lib.hid hy
    clear hy HF0 l0l
    go_wp2_with fail
    refine (new_any a2 w).mono ?_
    rintro e x1 ⟨gx, rfl, hRx, hb1⟩
    have HTW := Lib.hid (two_start hRx hb1)
    have hs1 := hb1.size
    clear hRx hb1
    go_wp2_with fail
    obtain ⟨gy, hgy⟩ : ∃ gy, gy = x1.heap.size := ⟨_, rfl⟩
    obtain ⟨x2, hx2⟩ : ∃ x2, x2 = x1.alloc (.cells (FreshR a2) 33) := ⟨_, rfl⟩
    rw [← hgy, ← hx2] at HTW
    have HX2 := Lib.hid (show x1.alloc (.cells #[.bool a2, .int .i64 0, .string ⟨#[]⟩, .bool false, .string ⟨#[]⟩, .string ⟨#[]⟩, .int .i64 0, .slice none 0 0, .int .i64 0, .int .i64 0, .string ⟨#[]⟩, .slice none 0 0, .slice none 0 0, .bool false, .int .i64 0] 33) = x2 from hx2.symm)
    rw [HX2.out, ← hgy]
    have hs2 : w.heap.size ≤ x2.heap.size := HTW.out.2.1.size
    clear hgy hx2 HX2
    refine (names_any x2).mono ?_
    rintro e x3 ⟨rfl, rfl⟩
    go_wp2_with fail
    go_loopw [9, 10] (fun u i wr => ∃ (k ii : Nat) (st : St), u = .int .i64 (k : Int) ∧ i = .int .i64 (ii : Int) ∧ Two w a2 gx gy st wr ∧ k ≤ b.length ∧ ii ≤ 40 ∧ ii ≤ n1 + 1) (fun _ i _ => 40 - (intOf i).toNat)
    case atStart => exact ⟨0, 0, Hd.start, rfl, rfl, HTW.out, Nat.zero_le _, by omega, by omega⟩
    case round =>
      obtain ⟨k, ii, st, rfl, rfl, hA, hk, hi, hi1⟩ := hrel
      have HA := Lib.hid hA
      have hsw := hA.2.1.size
      clear hA HTW
      by_cases hgo : ii ≤ n1 ∧ ii < 40
      · obtain ⟨hin, hlt⟩ := hgo
        go_wp2_with fail
        refine (piece_any n1 ii k b.length _ wr (HI.out.below HA.out.2.1 (Nat.le_refl _)) hk hb9 (by unfold maxLen; omega) hi1).mono ?_
        rintro e x4 ⟨d, nn, rfl, hx4, hkd, hd2⟩
        have HA4 := Lib.hid (show Two w a2 gx gy st x4 from by rw [hx4]; exact two_drawn HA.out nn)
        clear hx4 hd2 HA hsw
        have hsw := HA4.out.2.1.size
        obtain ⟨P, hP⟩ : ∃ P, P = (b.drop k).take d := ⟨_, rfl⟩
        have hPl : P.length = d := by rw [hP, List.length_take, List.length_drop]; omega
        obtain ⟨N, ST, hN⟩ : ∃ N ST, run a2 st P = (N, ST) := ⟨_, _, rfl⟩
        have hNl := run_le a2 P st
        rw [hN, hPl] at hNl
        have hNl' : N ≤ d := hNl
        have hGT := good_run a2 P HA4.out.1
        rw [hN] at hGT
        have HGT := Lib.hid hGT
        have HN := Lib.hid hN
        have HP := Lib.hid hP
        have HPL := Lib.hid hPl
        obtain ⟨hG, hB, O, Q, h1, h2, h3, h4⟩ := HA4.out
        have H1 := Lib.hid h1
        have H2 := Lib.hid h2
        have H3 := Lib.hid h3
        have H4 := Lib.hid h4
        have HG4 := Lib.hid hG
        have HB4 := Lib.hid hB
        have HYb := Lib.hid (HY.out.below hB (Nat.le_refl _))
        have HTb := Lib.hid (HT.out.below hB htl)
        clear hGT hN hP hPl hNl hG hB h1 h2 h3 h4 HA4
        obtain ⟨D, hD⟩ : ∃ D, D = doneOf ST := ⟨_, rfl⟩
        obtain ⟨E, hE⟩ : ∃ E, E = errOf ST := ⟨_, rfl⟩
        have HVP := Lib.hid (show ∀ v, Byts x4 v P → (0 < P.length → ∀ j, v.ownBlock = some j → j < w.heap.size) → Calls Tryd.prog 17 #[.pointer (some ⟨gx, 0, none⟩), v] x4 (fun e y => e = .returned (.tuple #[.int .i64 (N : Int), .bool D, .int .i64 (E : Int)]) ∧ Rdr y (New O x4) a2 gx ST ∧ Chg O x4 y) from fun v hv hvo => by
          rw [hD, hE]
          refine (feed_any O a2 gx st v P x4 H1.out HG4.out hv (fun hp j hj hO => by have := (H3.out j hO).1; have := hvo hp j hj; omega) (by rw [HPL.out]; unfold maxLen; omega) HTb.out (fun hO => by have := (H3.out _ hO).1; omega)).mono ?_
          rintro e y ⟨he, hR, hC⟩
          rw [HN.out] at he hR
          exact ⟨he, hR, hC⟩)
        have HVQ := Lib.hid (show ∀ v y, Rdr y (New O x4) a2 gx ST → Chg O x4 y → Byts x4 v P → (0 < P.length → ∀ j, v.ownBlock = some j → j < w.heap.size) → Calls Tryd.prog 18 #[.pointer (some ⟨gy, 0, none⟩), v] y (fun e z => e = .returned (.tuple #[.int .i64 (N : Int), .bool D, .int .i64 (E : Int)]) ∧ Two w a2 gx gy ST z) from fun v y hR hC hv hvo => by
          rw [hD, hE]
          have hb4 := HB4.out.size
          have hCB := hC.below (fun j hj => (H3.out j hj).1) hb4
          have hv2 : Byts y v P := by
            rcases hv with h | ⟨B, off, cap, hv, h5, h6, h7, h8⟩
            · exact .inl h
            · by_cases hp : 0 < P.length
              · have hlt2 := hvo hp B (by rw [hv]; rfl)
                exact .inr ⟨B, off, cap, hv, h5, h6, Nat.lt_of_lt_of_le h7 hC.size, holds_below h8 hCB hlt2⟩
              · have hp0 : P = [] := List.length_eq_zero_iff.1 (by omega)
                exact .inl ⟨hp0, _, _, by rw [hv, hp0]; rfl⟩
          obtain ⟨t1, _⟩ := two_feed (y := y) H2.out H3.out H4.out HB4.out hR hC HGT.out
          refine (rfeed_any Q a2 gy st v P y t1 HG4.out hv2 (fun hp j hj hO => by have := (H4.out j hO).1; have := hvo hp j hj; omega) (by rw [HPL.out]; unfold maxLen; omega)).mono ?_
          rintro e z ⟨he, hRz, hCz⟩
          rw [HN.out] at he hRz
          exact ⟨he, (two_feed H2.out H3.out H4.out HB4.out hR hC HGT.out).2 hRz hCz⟩)
        have HD := Lib.hid hD
        have HE := Lib.hid hE
        clear hD hE
        have hways : (d < 1 ∧ WC ≤ k ∧ k ≤ WC) ∨ (d < 1 ∧ k < WC ∧ k ≤ WC) ∨ (0 < d ∧ k < WC ∧ k ≤ WC) := by
          rcases HY.out with ⟨h0, _⟩ | ⟨B, off, cap, hv, hcap, _⟩
          · rw [h0] at hkd; simp at hkd; omega
          · injection hv with _ _ e3; omega
        have HW := Lib.hid hways
        have HBV : Hid (∀ (a : Option Addr) (c : Nat), d < 1 → Byts x4 (.slice a d c) P ∧ (0 < P.length → ∀ j, (Value.slice a d c).ownBlock = some j → j < w.heap.size)) := Lib.hid fun a c h0 => by
          have hd0 : d = 0 := by omega
          have hp0 : P = [] := List.length_eq_zero_iff.1 (by rw [HPL.out, hd0])
          exact ⟨.inl ⟨hp0, a, c, by rw [hd0]⟩, fun hp => by rw [hp0] at hp; simp at hp⟩
        clear hways
        go_upto_region 11 with fail
        go_cut [12, 13, 14] (fun s12 s13 s14 wx => s12 = .int .i64 (N : Int) ∧ s13 = .bool D ∧ s14 = .int .i64 (E : Int) ∧ Rdr wx (New O x4) a2 gx ST ∧ Chg O x4 wx)
        case first =>
          rcases HW.out with ⟨h0, hkW, hkV⟩ | ⟨h0, hkW, hkV⟩ | ⟨h0, hkW, hkV⟩
          · have hWk : (WC = k) = True := eq_true (by omega)
            go_wp2_with fail
            refine (HVP.out _ (HBV.out _ _ h0).1 (HBV.out _ _ h0).2).mono ?_
            rintro e x5 ⟨rfl, hR5, hC5⟩
            go_wp2_with fail
            go_meet
            first | exact ⟨rfl, rfl, rfl, hR5, hC5⟩ | ((repeat apply Exists.intro); exact ⟨⟨rfl, rfl, rfl, hR5, hC5⟩, rfl⟩)
          · go_wp2_with fail
            refine (HVP.out _ (HBV.out _ _ h0).1 (HBV.out _ _ h0).2).mono ?_
            rintro e x5 ⟨rfl, hR5, hC5⟩
            go_wp2_with fail
            go_meet
            first | exact ⟨rfl, rfl, rfl, hR5, hC5⟩ | ((repeat apply Exists.intro); exact ⟨⟨rfl, rfl, rfl, hR5, hC5⟩, rfl⟩)
          · rcases HY.out with ⟨h1, _⟩ | ⟨B, off, cap, hv, hcap, hcm, hB, hh⟩
            · rw [h1] at hkd; simp at hkd; omega
            injection hv with e1 _ e3
            subst e1 e3
            have HBP := Lib.hid (show Byts x4 (.slice (some ⟨B, off + k, none⟩) d (WC - k)) P ∧ (0 < P.length → ∀ j, (Value.slice (some ⟨B, off + k, none⟩) d (WC - k)).ownBlock = some j → j < w.heap.size) from ⟨by rw [HP.out]; exact byts_cut HYb.out (by omega) hcap hcm hkd, fun _ j hj => by injection hj with hj; have hj' : B = j := hj; omega⟩)
            unfold maxLen at hcm
            clear hh
            go_wp2_with fail
            refine (HVP.out _ HBP.out.1 HBP.out.2).mono ?_
            rintro e x5 ⟨rfl, hR5, hC5⟩
            go_wp2_with fail
            go_meet
            first | exact ⟨rfl, rfl, rfl, hR5, hC5⟩ | ((repeat apply Exists.intro); exact ⟨⟨rfl, rfl, rfl, hR5, hC5⟩, rfl⟩)
        case rest =>
          obtain ⟨rfl, rfl, rfl, hR5, hC5⟩ := hcut
          have HR5 := Lib.hid hR5
          have HC5 := Lib.hid hC5
          clear hR5 hC5
          go_upto_region 12 with fail
          go_cut [15, 16, 17] (fun s15 s16 s17 wx => s15 = .int .i64 (N : Int) ∧ s16 = .bool D ∧ s17 = .int .i64 (E : Int) ∧ Two w a2 gx gy ST wx)
          case first =>
            rcases HW.out with ⟨h0, hkW, hkV⟩ | ⟨h0, hkW, hkV⟩ | ⟨h0, hkW, hkV⟩
            · have hWk : (WC = k) = True := eq_true (by omega)
              clear hkW
              go_wp2_with fail
              refine (HVQ.out _ wc HR5.out HC5.out (HBV.out _ _ h0).1 (HBV.out _ _ h0).2).mono ?_
              rintro e x6 ⟨rfl, hT6⟩
              go_wp2_with fail
              go_meet
              first | exact ⟨rfl, rfl, rfl, hT6⟩ | ((repeat apply Exists.intro); exact ⟨⟨rfl, rfl, rfl, hT6⟩, rfl⟩)
            · go_wp2_with fail
              refine (HVQ.out _ wc HR5.out HC5.out (HBV.out _ _ h0).1 (HBV.out _ _ h0).2).mono ?_
              rintro e x6 ⟨rfl, hT6⟩
              go_wp2_with fail
              go_meet
              first | exact ⟨rfl, rfl, rfl, hT6⟩ | ((repeat apply Exists.intro); exact ⟨⟨rfl, rfl, rfl, hT6⟩, rfl⟩)
            · rcases HY.out with ⟨h1, _⟩ | ⟨B, off, cap, hv, hcap, hcm, hB, hh⟩
              · rw [h1] at hkd; simp at hkd; omega
              injection hv with e1 _ e3
              subst e1 e3
              have HBP := Lib.hid (show Byts x4 (.slice (some ⟨B, off + k, none⟩) d (WC - k)) P ∧ (0 < P.length → ∀ j, (Value.slice (some ⟨B, off + k, none⟩) d (WC - k)).ownBlock = some j → j < w.heap.size) from ⟨by rw [HP.out]; exact byts_cut HYb.out (by omega) hcap hcm hkd, fun _ j hj => by injection hj with hj; have hj' : B = j := hj; omega⟩)
              unfold maxLen at hcm
              clear hh
              go_wp2_with fail
              refine (HVQ.out _ wc HR5.out HC5.out HBP.out.1 HBP.out.2).mono ?_
              rintro e x6 ⟨rfl, hT6⟩
              go_wp2_with fail
              go_meet
              first | exact ⟨rfl, rfl, rfl, hT6⟩ | ((repeat apply Exists.intro); exact ⟨⟨rfl, rfl, rfl, hT6⟩, rfl⟩)
          case rest =>
            obtain ⟨rfl, rfl, rfl, hT6⟩ := hcut
            have HT6 := Lib.hid hT6
            obtain ⟨hG6, hB6, O6, Q6, p6, q6, _, _⟩ := hT6
            have HG := Lib.hid hG6
            have HRX4 := Lib.hid p6
            have HRY4 := Lib.hid q6
            have HB4 := Lib.hid hB6
            have hsw6 := hB6.size
            clear hG6 hB6 p6 q6 HVP HVQ HBV HW HR5 HC5 HYb HTb HG4 H1 H2 H3 H4 hsw
            have eN : ((N : Int) != (N : Int)) = false := by simp
            have eD : (D != D) = false := by simp
            have eE : ((E : Int) != (E : Int)) = false := by simp
            clear HD HE
            cases D with
            | true =>
              go_wp2_with fail
              obtain ⟨SX, hSX⟩ : ∃ SX, SX = ST := ⟨_, rfl⟩
              rw [← hSX] at HG HRX4 HRY4
              clear hSX
              obtain ⟨H, hH⟩ : ∃ H, H = headOf a2 (a2 == false) SX := ⟨_, rfl⟩
              obtain ⟨K, hK⟩ : ∃ K, K = headOf a2 (a2 == true) SX := ⟨_, rfl⟩
              have hHl : H.2.1.length ≤ 64 := by rw [hH]; exact headOf_len HG.out
              have hKl : K.2.1.length ≤ 64 := by rw [hK]; exact headOf_len HG.out
              have HQ := Lib.hid (fun (O : Nat → Prop) (g : Nat) (y : World) (h : Rdr y O a2 g SX) => (show Calls Tryd.prog 19 #[.pointer (some ⟨g, 0, none⟩)] y (ReqPost H y) from by rw [hH]; exact request_any O a2 g SX y h HG.out))
              have HS := Lib.hid (fun (O : Nat → Prop) (g : Nat) (y : World) (h : Rdr y O a2 g SX) => (show Calls Tryd.prog 21 #[.pointer (some ⟨g, 0, none⟩)] y (ResPost K y) from by rw [hK]; exact response_any O a2 g SX y h HG.out))
              have JQ := Lib.hid (fun (O : Nat → Prop) (g : Nat) (y : World) (h : RRdr y O a2 g SX) => (show Calls Tryd.prog 20 #[.pointer (some ⟨g, 0, none⟩)] y (ReqPost H y) from by rw [hH]; exact rrequest_any O a2 g SX y h HG.out))
              have JS := Lib.hid (fun (O : Nat → Prop) (g : Nat) (y : World) (h : RRdr y O a2 g SX) => (show Calls Tryd.prog 22 #[.pointer (some ⟨g, 0, none⟩)] y (ResPost K y) from by rw [hK]; exact rresponse_any O a2 g SX y h HG.out))
              obtain ⟨h2, hh2⟩ : ∃ h2, h2 = H.2.2 := ⟨_, rfl⟩
              obtain ⟨k2, hk2⟩ : ∃ k2, k2 = K.2.2 := ⟨_, rfl⟩
              have eH : ((h2 : Int) == (h2 : Int)) = true := by simp
              have eK : ((k2 : Int) == (k2 : Int)) = true := by simp
              have HH2 := Lib.hid hh2
              have HK2 := Lib.hid hk2
              clear hH hK hh2 hk2
              go_wp2_with fail
              refine (HQ.out _ gx wc HRX4.out).mono ?_
              rintro e y1 ⟨p1, rfl, hf1, hb1⟩
              obtain ⟨pa1, pc1, hp1⟩ := OwnF.form hf1
              subst hp1
              rw [← HH2.out]
              obtain ⟨z1, hz1⟩ : ∃ z1, z1 = y1.alloc (.cells #[.string H.1.a, .string H.1.b, .int .i64 H.1.m, .slice pa1 H.2.1.length pc1] 29) := ⟨_, rfl⟩
              have hy1 : Below y1.heap.size y1 z1 := by rw [hz1]; exact (Below.refl _ _).alloc (Nat.le_refl _) _
              have hw1 : Below wc.heap.size wc z1 := hb1.trans (hy1.mono hb1.size)
              have HK11 := Lib.hid (show z1.heap[y1.heap.size]? = some (.cells #[.string H.1.a, .string H.1.b, .int .i64 H.1.m, .slice pa1 H.2.1.length pc1] 29 (0, 0)) from by rw [hz1]; exact new_block _ _)
              have HF11 := Lib.hid (hf1.flds.below hy1 (Nat.le_refl _))
              have hsz1 := HB4.out.size
              have HBz1 := Lib.hid (HB4.out.trans (hw1.mono hsz1))
              have HZ1 := Lib.hid hz1
              have HRY5 := Lib.hid (HRY4.out.below hw1)
              have HRX5 := Lib.hid (HRX4.out.below hw1)
              clear hf1 hb1 hz1 hy1 hw1 hsz1
              go_wp2_with fail
              rw [← HZ1.out]
              refine (JQ.out _ gy z1 HRY5.out).mono ?_
              rintro e y2 ⟨p2, rfl, hf2, hb2⟩
              obtain ⟨pa2, pc2, hp2⟩ := OwnF.form hf2
              subst hp2
              rw [← HH2.out]
              obtain ⟨z2, hz2⟩ : ∃ z2, z2 = y2.alloc (.cells #[.string H.1.a, .string H.1.b, .int .i64 H.1.m, .slice pa2 H.2.1.length pc2] 29) := ⟨_, rfl⟩
              have hy2 : Below y2.heap.size y2 z2 := by rw [hz2]; exact (Below.refl _ _).alloc (Nat.le_refl _) _
              have hw2 : Below z1.heap.size z1 z2 := hb2.trans (hy2.mono hb2.size)
              have HK22 := Lib.hid (show z2.heap[y2.heap.size]? = some (.cells #[.string H.1.a, .string H.1.b, .int .i64 H.1.m, .slice pa2 H.2.1.length pc2] 29 (0, 0)) from by rw [hz2]; exact new_block _ _)
              have HF22 := Lib.hid (hf2.flds.below hy2 (Nat.le_refl _))
              have hsz2 := HBz1.out.size
              have HBz2 := Lib.hid (HBz1.out.trans (hw2.mono hsz2))
              have HZ2 := Lib.hid hz2
              have HK12 := Lib.hid (Bl.old hw2 (block_lt HK11.out) HK11.out)
              have HF12 := Lib.hid (HF11.out.below hw2 (Nat.le_refl _))
              have HRY6 := Lib.hid (HRY5.out.below hw2)
              have HRX6 := Lib.hid (HRX5.out.below hw2)
              clear hf2 hb2 hz2 hy2 hw2 hsz2
              go_wp2_with fail
              rw [← HZ2.out]
              refine (HS.out _ gx z2 HRX6.out).mono ?_
              rintro e y3 ⟨p3, rfl, hf3, hb3⟩
              obtain ⟨pa3, pc3, hp3⟩ := OwnF.form hf3
              subst hp3
              rw [← HK2.out]
              obtain ⟨z3, hz3⟩ : ∃ z3, z3 = y3.alloc (.cells #[.int .i64 K.1.m, .int .i64 K.1.c, .string K.1.a, .slice pa3 K.2.1.length pc3] 31) := ⟨_, rfl⟩
              have hy3 : Below y3.heap.size y3 z3 := by rw [hz3]; exact (Below.refl _ _).alloc (Nat.le_refl _) _
              have hw3 : Below z2.heap.size z2 z3 := hb3.trans (hy3.mono hb3.size)
              have HK33 := Lib.hid (show z3.heap[y3.heap.size]? = some (.cells #[.int .i64 K.1.m, .int .i64 K.1.c, .string K.1.a, .slice pa3 K.2.1.length pc3] 31 (0, 0)) from by rw [hz3]; exact new_block _ _)
              have HF33 := Lib.hid (hf3.flds.below hy3 (Nat.le_refl _))
              have hsz3 := HBz2.out.size
              have HBz3 := Lib.hid (HBz2.out.trans (hw3.mono hsz3))
              have HZ3 := Lib.hid hz3
              have HK13 := Lib.hid (Bl.old hw3 (block_lt HK12.out) HK12.out)
              have HF13 := Lib.hid (HF12.out.below hw3 (Nat.le_refl _))
              have HK23 := Lib.hid (Bl.old hw3 (block_lt HK22.out) HK22.out)
              have HF23 := Lib.hid (HF22.out.below hw3 (Nat.le_refl _))
              have HRY7 := Lib.hid (HRY6.out.below hw3)
              have HRX7 := Lib.hid (HRX6.out.below hw3)
              clear hf3 hb3 hz3 hy3 hw3 hsz3
              go_wp2_with fail
              rw [← HZ3.out]
              refine (JS.out _ gy z3 HRY7.out).mono ?_
              rintro e y4 ⟨p4, rfl, hf4, hb4⟩
              obtain ⟨pa4, pc4, hp4⟩ := OwnF.form hf4
              subst hp4
              rw [← HK2.out]
              obtain ⟨z4, hz4⟩ : ∃ z4, z4 = y4.alloc (.cells #[.int .i64 K.1.m, .int .i64 K.1.c, .string K.1.a, .slice pa4 K.2.1.length pc4] 31) := ⟨_, rfl⟩
              have hy4 : Below y4.heap.size y4 z4 := by rw [hz4]; exact (Below.refl _ _).alloc (Nat.le_refl _) _
              have hw4 : Below z3.heap.size z3 z4 := hb4.trans (hy4.mono hb4.size)
              have HK44 := Lib.hid (show z4.heap[y4.heap.size]? = some (.cells #[.int .i64 K.1.m, .int .i64 K.1.c, .string K.1.a, .slice pa4 K.2.1.length pc4] 31 (0, 0)) from by rw [hz4]; exact new_block _ _)
              have HF44 := Lib.hid (hf4.flds.below hy4 (Nat.le_refl _))
              have hsz4 := HBz3.out.size
              have HBz4 := Lib.hid (HBz3.out.trans (hw4.mono hsz4))
              have HZ4 := Lib.hid hz4
              have HK14 := Lib.hid (Bl.old hw4 (block_lt HK13.out) HK13.out)
              have HF14 := Lib.hid (HF13.out.below hw4 (Nat.le_refl _))
              have HK24 := Lib.hid (Bl.old hw4 (block_lt HK23.out) HK23.out)
              have HF24 := Lib.hid (HF23.out.below hw4 (Nat.le_refl _))
              have HK34 := Lib.hid (Bl.old hw4 (block_lt HK33.out) HK33.out)
              have HF34 := Lib.hid (HF33.out.below hw4 (Nat.le_refl _))
              clear hf4 hb4 hz4 hy4 hw4 hsz4
              go_upto_region 21 with fail
              rw [← HZ4.out]
              have hz4 := HBz4.out.size
              obtain ⟨a0, a1, a2', a3⟩ := four HK14.out
              obtain ⟨b0, b1, b2, b3⟩ := four HK24.out
              go_wp2_with fail
              refine (sameReq_any H _ _ z4 HF14.out HF24.out (by omega)).mono ?_
              rintro e y7 ⟨rfl, hb7⟩
              have HB7 := Lib.hid (HBz4.out.trans (hb7.mono hz4))
              have HK37 := Bl.old hb7 (block_lt HK34.out) HK34.out
              have HK47 := Bl.old hb7 (block_lt HK44.out) HK44.out
              have HF37 := Lib.hid (HF34.out.below hb7 (Nat.le_refl _))
              have HF47 := Lib.hid (HF44.out.below hb7 (Nat.le_refl _))
              obtain ⟨c0, c1, c2, c3⟩ := four HK37
              obtain ⟨d0, d1, d2, d3⟩ := four HK47
              clear hb7 HK37 HK47 a0 a1 a2' a3 b0 b1 b2 b3
              go_wp2_with fail
              refine (sameRes_any K _ _ y7 HF37.out HF47.out (by omega)).mono ?_
              rintro e y8 ⟨rfl, hb8⟩
              have hs7 := HB7.out.size
              have HB8 := Lib.hid (HB7.out.trans (hb8.mono hs7))
              clear hb8 c0 c1 c2 c3 d0 d1 d2 d3
              go_wp2_with fail
              go_ret
              exact ⟨rfl, HB8.out⟩
            | false =>
              by_cases he : E = 0
              · subst he
                go_wp2_with fail
                go_roundw
                case rel =>
                  have HREL := Lib.hid (show ∃ (k' ii' : Nat) (st : St), Value.int .i64 ((k : Int) + (N : Int)) = .int .i64 (k' : Int) ∧ Value.int .i64 ((ii : Int) + 1) = .int .i64 (ii' : Int) ∧ Two w a2 gx gy st wc ∧ k' ≤ b.length ∧ ii' ≤ 40 ∧ ii' ≤ n1 + 1 from ⟨k + N, ii + 1, ST, by go_num, by go_num, HT6.out, by omega, by omega, by omega⟩)
                  first | exact HREL.out | exact ⟨_, _, HREL.out, rfl⟩
                case measure => simp [intOf]; omega
              · have hne : ((E : Int) != 0) = true := by rw [bne_iff_ne]; omega
                go_wp2_with fail
                obtain ⟨SX, hSX⟩ : ∃ SX, SX = ST := ⟨_, rfl⟩
                rw [← hSX] at HG HRX4 HRY4
                clear hSX
                obtain ⟨H, hH⟩ : ∃ H, H = headOf a2 (a2 == false) SX := ⟨_, rfl⟩
                obtain ⟨K, hK⟩ : ∃ K, K = headOf a2 (a2 == true) SX := ⟨_, rfl⟩
                have hHl : H.2.1.length ≤ 64 := by rw [hH]; exact headOf_len HG.out
                have hKl : K.2.1.length ≤ 64 := by rw [hK]; exact headOf_len HG.out
                have HQ := Lib.hid (fun (O : Nat → Prop) (g : Nat) (y : World) (h : Rdr y O a2 g SX) => (show Calls Tryd.prog 19 #[.pointer (some ⟨g, 0, none⟩)] y (ReqPost H y) from by rw [hH]; exact request_any O a2 g SX y h HG.out))
                have HS := Lib.hid (fun (O : Nat → Prop) (g : Nat) (y : World) (h : Rdr y O a2 g SX) => (show Calls Tryd.prog 21 #[.pointer (some ⟨g, 0, none⟩)] y (ResPost K y) from by rw [hK]; exact response_any O a2 g SX y h HG.out))
                have JQ := Lib.hid (fun (O : Nat → Prop) (g : Nat) (y : World) (h : RRdr y O a2 g SX) => (show Calls Tryd.prog 20 #[.pointer (some ⟨g, 0, none⟩)] y (ReqPost H y) from by rw [hH]; exact rrequest_any O a2 g SX y h HG.out))
                have JS := Lib.hid (fun (O : Nat → Prop) (g : Nat) (y : World) (h : RRdr y O a2 g SX) => (show Calls Tryd.prog 22 #[.pointer (some ⟨g, 0, none⟩)] y (ResPost K y) from by rw [hK]; exact rresponse_any O a2 g SX y h HG.out))
                obtain ⟨h2, hh2⟩ : ∃ h2, h2 = H.2.2 := ⟨_, rfl⟩
                obtain ⟨k2, hk2⟩ : ∃ k2, k2 = K.2.2 := ⟨_, rfl⟩
                have eH : ((h2 : Int) == (h2 : Int)) = true := by simp
                have eK : ((k2 : Int) == (k2 : Int)) = true := by simp
                have HH2 := Lib.hid hh2
                have HK2 := Lib.hid hk2
                clear hH hK hh2 hk2
                go_wp2_with fail
                refine (HQ.out _ gx wc HRX4.out).mono ?_
                rintro e y1 ⟨p1, rfl, hf1, hb1⟩
                obtain ⟨pa1, pc1, hp1⟩ := OwnF.form hf1
                subst hp1
                rw [← HH2.out]
                obtain ⟨z1, hz1⟩ : ∃ z1, z1 = y1.alloc (.cells #[.string H.1.a, .string H.1.b, .int .i64 H.1.m, .slice pa1 H.2.1.length pc1] 29) := ⟨_, rfl⟩
                have hy1 : Below y1.heap.size y1 z1 := by rw [hz1]; exact (Below.refl _ _).alloc (Nat.le_refl _) _
                have hw1 : Below wc.heap.size wc z1 := hb1.trans (hy1.mono hb1.size)
                have HK11 := Lib.hid (show z1.heap[y1.heap.size]? = some (.cells #[.string H.1.a, .string H.1.b, .int .i64 H.1.m, .slice pa1 H.2.1.length pc1] 29 (0, 0)) from by rw [hz1]; exact new_block _ _)
                have HF11 := Lib.hid (hf1.flds.below hy1 (Nat.le_refl _))
                have hsz1 := HB4.out.size
                have HBz1 := Lib.hid (HB4.out.trans (hw1.mono hsz1))
                have HZ1 := Lib.hid hz1
                have HRY5 := Lib.hid (HRY4.out.below hw1)
                have HRX5 := Lib.hid (HRX4.out.below hw1)
                clear hf1 hb1 hz1 hy1 hw1 hsz1
                go_wp2_with fail
                rw [← HZ1.out]
                refine (JQ.out _ gy z1 HRY5.out).mono ?_
                rintro e y2 ⟨p2, rfl, hf2, hb2⟩
                obtain ⟨pa2, pc2, hp2⟩ := OwnF.form hf2
                subst hp2
                rw [← HH2.out]
                obtain ⟨z2, hz2⟩ : ∃ z2, z2 = y2.alloc (.cells #[.string H.1.a, .string H.1.b, .int .i64 H.1.m, .slice pa2 H.2.1.length pc2] 29) := ⟨_, rfl⟩
                have hy2 : Below y2.heap.size y2 z2 := by rw [hz2]; exact (Below.refl _ _).alloc (Nat.le_refl _) _
                have hw2 : Below z1.heap.size z1 z2 := hb2.trans (hy2.mono hb2.size)
                have HK22 := Lib.hid (show z2.heap[y2.heap.size]? = some (.cells #[.string H.1.a, .string H.1.b, .int .i64 H.1.m, .slice pa2 H.2.1.length pc2] 29 (0, 0)) from by rw [hz2]; exact new_block _ _)
                have HF22 := Lib.hid (hf2.flds.below hy2 (Nat.le_refl _))
                have hsz2 := HBz1.out.size
                have HBz2 := Lib.hid (HBz1.out.trans (hw2.mono hsz2))
                have HZ2 := Lib.hid hz2
                have HK12 := Lib.hid (Bl.old hw2 (block_lt HK11.out) HK11.out)
                have HF12 := Lib.hid (HF11.out.below hw2 (Nat.le_refl _))
                have HRY6 := Lib.hid (HRY5.out.below hw2)
                have HRX6 := Lib.hid (HRX5.out.below hw2)
                clear hf2 hb2 hz2 hy2 hw2 hsz2
                go_wp2_with fail
                rw [← HZ2.out]
                refine (HS.out _ gx z2 HRX6.out).mono ?_
                rintro e y3 ⟨p3, rfl, hf3, hb3⟩
                obtain ⟨pa3, pc3, hp3⟩ := OwnF.form hf3
                subst hp3
                rw [← HK2.out]
                obtain ⟨z3, hz3⟩ : ∃ z3, z3 = y3.alloc (.cells #[.int .i64 K.1.m, .int .i64 K.1.c, .string K.1.a, .slice pa3 K.2.1.length pc3] 31) := ⟨_, rfl⟩
                have hy3 : Below y3.heap.size y3 z3 := by rw [hz3]; exact (Below.refl _ _).alloc (Nat.le_refl _) _
                have hw3 : Below z2.heap.size z2 z3 := hb3.trans (hy3.mono hb3.size)
                have HK33 := Lib.hid (show z3.heap[y3.heap.size]? = some (.cells #[.int .i64 K.1.m, .int .i64 K.1.c, .string K.1.a, .slice pa3 K.2.1.length pc3] 31 (0, 0)) from by rw [hz3]; exact new_block _ _)
                have HF33 := Lib.hid (hf3.flds.below hy3 (Nat.le_refl _))
                have hsz3 := HBz2.out.size
                have HBz3 := Lib.hid (HBz2.out.trans (hw3.mono hsz3))
                have HZ3 := Lib.hid hz3
                have HK13 := Lib.hid (Bl.old hw3 (block_lt HK12.out) HK12.out)
                have HF13 := Lib.hid (HF12.out.below hw3 (Nat.le_refl _))
                have HK23 := Lib.hid (Bl.old hw3 (block_lt HK22.out) HK22.out)
                have HF23 := Lib.hid (HF22.out.below hw3 (Nat.le_refl _))
                have HRY7 := Lib.hid (HRY6.out.below hw3)
                have HRX7 := Lib.hid (HRX6.out.below hw3)
                clear hf3 hb3 hz3 hy3 hw3 hsz3
                go_wp2_with fail
                rw [← HZ3.out]
                refine (JS.out _ gy z3 HRY7.out).mono ?_
                rintro e y4 ⟨p4, rfl, hf4, hb4⟩
                obtain ⟨pa4, pc4, hp4⟩ := OwnF.form hf4
                subst hp4
                rw [← HK2.out]
                obtain ⟨z4, hz4⟩ : ∃ z4, z4 = y4.alloc (.cells #[.int .i64 K.1.m, .int .i64 K.1.c, .string K.1.a, .slice pa4 K.2.1.length pc4] 31) := ⟨_, rfl⟩
                have hy4 : Below y4.heap.size y4 z4 := by rw [hz4]; exact (Below.refl _ _).alloc (Nat.le_refl _) _
                have hw4 : Below z3.heap.size z3 z4 := hb4.trans (hy4.mono hb4.size)
                have HK44 := Lib.hid (show z4.heap[y4.heap.size]? = some (.cells #[.int .i64 K.1.m, .int .i64 K.1.c, .string K.1.a, .slice pa4 K.2.1.length pc4] 31 (0, 0)) from by rw [hz4]; exact new_block _ _)
                have HF44 := Lib.hid (hf4.flds.below hy4 (Nat.le_refl _))
                have hsz4 := HBz3.out.size
                have HBz4 := Lib.hid (HBz3.out.trans (hw4.mono hsz4))
                have HZ4 := Lib.hid hz4
                have HK14 := Lib.hid (Bl.old hw4 (block_lt HK13.out) HK13.out)
                have HF14 := Lib.hid (HF13.out.below hw4 (Nat.le_refl _))
                have HK24 := Lib.hid (Bl.old hw4 (block_lt HK23.out) HK23.out)
                have HF24 := Lib.hid (HF23.out.below hw4 (Nat.le_refl _))
                have HK34 := Lib.hid (Bl.old hw4 (block_lt HK33.out) HK33.out)
                have HF34 := Lib.hid (HF33.out.below hw4 (Nat.le_refl _))
                clear hf4 hb4 hz4 hy4 hw4 hsz4
                go_upto_region 21 with fail
                rw [← HZ4.out]
                have hz4 := HBz4.out.size
                obtain ⟨a0, a1, a2', a3⟩ := four HK14.out
                obtain ⟨b0, b1, b2, b3⟩ := four HK24.out
                go_wp2_with fail
                refine (sameReq_any H _ _ z4 HF14.out HF24.out (by omega)).mono ?_
                rintro e y7 ⟨rfl, hb7⟩
                have HB7 := Lib.hid (HBz4.out.trans (hb7.mono hz4))
                have HK37 := Bl.old hb7 (block_lt HK34.out) HK34.out
                have HK47 := Bl.old hb7 (block_lt HK44.out) HK44.out
                have HF37 := Lib.hid (HF34.out.below hb7 (Nat.le_refl _))
                have HF47 := Lib.hid (HF44.out.below hb7 (Nat.le_refl _))
                obtain ⟨c0, c1, c2, c3⟩ := four HK37
                obtain ⟨d0, d1, d2, d3⟩ := four HK47
                clear hb7 HK37 HK47 a0 a1 a2' a3 b0 b1 b2 b3
                go_wp2_with fail
                refine (sameRes_any K _ _ y7 HF37.out HF47.out (by omega)).mono ?_
                rintro e y8 ⟨rfl, hb8⟩
                have hs7 := HB7.out.size
                have HB8 := Lib.hid (HB7.out.trans (hb8.mono hs7))
                clear hb8 c0 c1 c2 c3 d0 d1 d2 d3
                go_wp2_with fail
                go_ret
                exact ⟨rfl, HB8.out⟩
      · obtain ⟨hG6, hB6, O6, Q6, p6, q6, _, _⟩ := HA.out
        have HG := Lib.hid hG6
        have HRX4 := Lib.hid p6
        have HRY4 := Lib.hid q6
        have HB4 := Lib.hid hB6
        clear hG6 hB6 p6 q6
        obtain ⟨SX, hSX⟩ : ∃ SX, SX = st := ⟨_, rfl⟩
        rw [← hSX] at HG HRX4 HRY4
        clear hSX
        have hex : ¬ (ii ≤ n1) ∨ (ii ≤ n1 ∧ ¬ (ii < 40)) := by omega
        clear hgo
        rcases hex with hlt | ⟨hlt, hlt2⟩
        all_goals
          obtain ⟨H, hH⟩ : ∃ H, H = headOf a2 (a2 == false) SX := ⟨_, rfl⟩
          obtain ⟨K, hK⟩ : ∃ K, K = headOf a2 (a2 == true) SX := ⟨_, rfl⟩
          have hHl : H.2.1.length ≤ 64 := by rw [hH]; exact headOf_len HG.out
          have hKl : K.2.1.length ≤ 64 := by rw [hK]; exact headOf_len HG.out
          have HQ := Lib.hid (fun (O : Nat → Prop) (g : Nat) (y : World) (h : Rdr y O a2 g SX) => (show Calls Tryd.prog 19 #[.pointer (some ⟨g, 0, none⟩)] y (ReqPost H y) from by rw [hH]; exact request_any O a2 g SX y h HG.out))
          have HS := Lib.hid (fun (O : Nat → Prop) (g : Nat) (y : World) (h : Rdr y O a2 g SX) => (show Calls Tryd.prog 21 #[.pointer (some ⟨g, 0, none⟩)] y (ResPost K y) from by rw [hK]; exact response_any O a2 g SX y h HG.out))
          have JQ := Lib.hid (fun (O : Nat → Prop) (g : Nat) (y : World) (h : RRdr y O a2 g SX) => (show Calls Tryd.prog 20 #[.pointer (some ⟨g, 0, none⟩)] y (ReqPost H y) from by rw [hH]; exact rrequest_any O a2 g SX y h HG.out))
          have JS := Lib.hid (fun (O : Nat → Prop) (g : Nat) (y : World) (h : RRdr y O a2 g SX) => (show Calls Tryd.prog 22 #[.pointer (some ⟨g, 0, none⟩)] y (ResPost K y) from by rw [hK]; exact rresponse_any O a2 g SX y h HG.out))
          obtain ⟨h2, hh2⟩ : ∃ h2, h2 = H.2.2 := ⟨_, rfl⟩
          obtain ⟨k2, hk2⟩ : ∃ k2, k2 = K.2.2 := ⟨_, rfl⟩
          have eH : ((h2 : Int) == (h2 : Int)) = true := by simp
          have eK : ((k2 : Int) == (k2 : Int)) = true := by simp
          have HH2 := Lib.hid hh2
          have HK2 := Lib.hid hk2
          clear hH hK hh2 hk2
          go_wp2_with fail
          refine (HQ.out _ gx wr HRX4.out).mono ?_
          rintro e y1 ⟨p1, rfl, hf1, hb1⟩
          obtain ⟨pa1, pc1, hp1⟩ := OwnF.form hf1
          subst hp1
          rw [← HH2.out]
          obtain ⟨z1, hz1⟩ : ∃ z1, z1 = y1.alloc (.cells #[.string H.1.a, .string H.1.b, .int .i64 H.1.m, .slice pa1 H.2.1.length pc1] 29) := ⟨_, rfl⟩
          have hy1 : Below y1.heap.size y1 z1 := by rw [hz1]; exact (Below.refl _ _).alloc (Nat.le_refl _) _
          have hw1 : Below wr.heap.size wr z1 := hb1.trans (hy1.mono hb1.size)
          have HK11 := Lib.hid (show z1.heap[y1.heap.size]? = some (.cells #[.string H.1.a, .string H.1.b, .int .i64 H.1.m, .slice pa1 H.2.1.length pc1] 29 (0, 0)) from by rw [hz1]; exact new_block _ _)
          have HF11 := Lib.hid (hf1.flds.below hy1 (Nat.le_refl _))
          have hsz1 := HB4.out.size
          have HBz1 := Lib.hid (HB4.out.trans (hw1.mono hsz1))
          have HZ1 := Lib.hid hz1
          have HRY5 := Lib.hid (HRY4.out.below hw1)
          have HRX5 := Lib.hid (HRX4.out.below hw1)
          clear hf1 hb1 hz1 hy1 hw1 hsz1
          go_wp2_with fail
          rw [← HZ1.out]
          refine (JQ.out _ gy z1 HRY5.out).mono ?_
          rintro e y2 ⟨p2, rfl, hf2, hb2⟩
          obtain ⟨pa2, pc2, hp2⟩ := OwnF.form hf2
          subst hp2
          rw [← HH2.out]
          obtain ⟨z2, hz2⟩ : ∃ z2, z2 = y2.alloc (.cells #[.string H.1.a, .string H.1.b, .int .i64 H.1.m, .slice pa2 H.2.1.length pc2] 29) := ⟨_, rfl⟩
          have hy2 : Below y2.heap.size y2 z2 := by rw [hz2]; exact (Below.refl _ _).alloc (Nat.le_refl _) _
          have hw2 : Below z1.heap.size z1 z2 := hb2.trans (hy2.mono hb2.size)
          have HK22 := Lib.hid (show z2.heap[y2.heap.size]? = some (.cells #[.string H.1.a, .string H.1.b, .int .i64 H.1.m, .slice pa2 H.2.1.length pc2] 29 (0, 0)) from by rw [hz2]; exact new_block _ _)
          have HF22 := Lib.hid (hf2.flds.below hy2 (Nat.le_refl _))
          have hsz2 := HBz1.out.size
          have HBz2 := Lib.hid (HBz1.out.trans (hw2.mono hsz2))
          have HZ2 := Lib.hid hz2
          have HK12 := Lib.hid (Bl.old hw2 (block_lt HK11.out) HK11.out)
          have HF12 := Lib.hid (HF11.out.below hw2 (Nat.le_refl _))
          have HRY6 := Lib.hid (HRY5.out.below hw2)
          have HRX6 := Lib.hid (HRX5.out.below hw2)
          clear hf2 hb2 hz2 hy2 hw2 hsz2
          go_wp2_with fail
          rw [← HZ2.out]
          refine (HS.out _ gx z2 HRX6.out).mono ?_
          rintro e y3 ⟨p3, rfl, hf3, hb3⟩
          obtain ⟨pa3, pc3, hp3⟩ := OwnF.form hf3
          subst hp3
          rw [← HK2.out]
          obtain ⟨z3, hz3⟩ : ∃ z3, z3 = y3.alloc (.cells #[.int .i64 K.1.m, .int .i64 K.1.c, .string K.1.a, .slice pa3 K.2.1.length pc3] 31) := ⟨_, rfl⟩
          have hy3 : Below y3.heap.size y3 z3 := by rw [hz3]; exact (Below.refl _ _).alloc (Nat.le_refl _) _
          have hw3 : Below z2.heap.size z2 z3 := hb3.trans (hy3.mono hb3.size)
          have HK33 := Lib.hid (show z3.heap[y3.heap.size]? = some (.cells #[.int .i64 K.1.m, .int .i64 K.1.c, .string K.1.a, .slice pa3 K.2.1.length pc3] 31 (0, 0)) from by rw [hz3]; exact new_block _ _)
          have HF33 := Lib.hid (hf3.flds.below hy3 (Nat.le_refl _))
          have hsz3 := HBz2.out.size
          have HBz3 := Lib.hid (HBz2.out.trans (hw3.mono hsz3))
          have HZ3 := Lib.hid hz3
          have HK13 := Lib.hid (Bl.old hw3 (block_lt HK12.out) HK12.out)
          have HF13 := Lib.hid (HF12.out.below hw3 (Nat.le_refl _))
          have HK23 := Lib.hid (Bl.old hw3 (block_lt HK22.out) HK22.out)
          have HF23 := Lib.hid (HF22.out.below hw3 (Nat.le_refl _))
          have HRY7 := Lib.hid (HRY6.out.below hw3)
          have HRX7 := Lib.hid (HRX6.out.below hw3)
          clear hf3 hb3 hz3 hy3 hw3 hsz3
          go_wp2_with fail
          rw [← HZ3.out]
          refine (JS.out _ gy z3 HRY7.out).mono ?_
          rintro e y4 ⟨p4, rfl, hf4, hb4⟩
          obtain ⟨pa4, pc4, hp4⟩ := OwnF.form hf4
          subst hp4
          rw [← HK2.out]
          obtain ⟨z4, hz4⟩ : ∃ z4, z4 = y4.alloc (.cells #[.int .i64 K.1.m, .int .i64 K.1.c, .string K.1.a, .slice pa4 K.2.1.length pc4] 31) := ⟨_, rfl⟩
          have hy4 : Below y4.heap.size y4 z4 := by rw [hz4]; exact (Below.refl _ _).alloc (Nat.le_refl _) _
          have hw4 : Below z3.heap.size z3 z4 := hb4.trans (hy4.mono hb4.size)
          have HK44 := Lib.hid (show z4.heap[y4.heap.size]? = some (.cells #[.int .i64 K.1.m, .int .i64 K.1.c, .string K.1.a, .slice pa4 K.2.1.length pc4] 31 (0, 0)) from by rw [hz4]; exact new_block _ _)
          have HF44 := Lib.hid (hf4.flds.below hy4 (Nat.le_refl _))
          have hsz4 := HBz3.out.size
          have HBz4 := Lib.hid (HBz3.out.trans (hw4.mono hsz4))
          have HZ4 := Lib.hid hz4
          have HK14 := Lib.hid (Bl.old hw4 (block_lt HK13.out) HK13.out)
          have HF14 := Lib.hid (HF13.out.below hw4 (Nat.le_refl _))
          have HK24 := Lib.hid (Bl.old hw4 (block_lt HK23.out) HK23.out)
          have HF24 := Lib.hid (HF23.out.below hw4 (Nat.le_refl _))
          have HK34 := Lib.hid (Bl.old hw4 (block_lt HK33.out) HK33.out)
          have HF34 := Lib.hid (HF33.out.below hw4 (Nat.le_refl _))
          clear hf4 hb4 hz4 hy4 hw4 hsz4
          go_upto_region 21 with fail
          rw [← HZ4.out]
          have hz4 := HBz4.out.size
          obtain ⟨a0, a1, a2', a3⟩ := four HK14.out
          obtain ⟨b0, b1, b2, b3⟩ := four HK24.out
          go_wp2_with fail
          refine (sameReq_any H _ _ z4 HF14.out HF24.out (by omega)).mono ?_
          rintro e y7 ⟨rfl, hb7⟩
          have HB7 := Lib.hid (HBz4.out.trans (hb7.mono hz4))
          have HK37 := Bl.old hb7 (block_lt HK34.out) HK34.out
          have HK47 := Bl.old hb7 (block_lt HK44.out) HK44.out
          have HF37 := Lib.hid (HF34.out.below hb7 (Nat.le_refl _))
          have HF47 := Lib.hid (HF44.out.below hb7 (Nat.le_refl _))
          obtain ⟨c0, c1, c2, c3⟩ := four HK37
          obtain ⟨d0, d1, d2, d3⟩ := four HK47
          clear hb7 HK37 HK47 a0 a1 a2' a3 b0 b1 b2 b3
          go_wp2_with fail
          refine (sameRes_any K _ _ y7 HF37.out HF47.out (by omega)).mono ?_
          rintro e y8 ⟨rfl, hb8⟩
          have hs7 := HB7.out.size
          have HB8 := Lib.hid (HB7.out.trans (hb8.mono hs7))
          clear hb8 c0 c1 c2 c3 d0 d1 d2 d3
          go_wp2_with fail
          go_ret
          exact ⟨rfl, HB8.out⟩

set_option maxRecDepth 100000 in
theorem contract (H : Type) (enc : TypeId × Value → H) (W : World) (base : Nat) (args : Array Value) (ds gs : List (DataW H)) (before : List MemPlace)
    (hval : ∀ (j : Nat) t v, Tryd.f3.params[j]? = some t → args[j]? = some v → Value.okWide Tryd.prog W .any base t v)
    (hW : DataW.Whole enc Tryd.prog Tryd.f3.params.toList Rows.headReadsSpec.vars false W args.toList ds gs before) (ts : List TypeId) (hsz : (DataW.weightsEach Tryd.prog (Tryd.f3.params.toList ++ ts) (ds ++ gs)).all (· ≤ reachBytes) = true) (hL : laidMetH Tryd.prog Rows.headReadsRow.laid W) :
    Calls Tryd.prog 3 args W fun e W' => ∃ v, e = .returned v ∧ Rows.headReadsSpec.post enc Tryd.prog Tryd.f3 false true false false W args v W' := by
  have hW' := hW
  obtain ⟨p, q, hA0, hV, rfl, hfz, hnd⟩ := hW
  have hA : DataW.TrodAll enc Tryd.prog W 0 (fun _ => true) true Tryd.f3.params.toList args.toList ds p := hA0
  rw [Tryd.params3] at hA hval hsz
  obtain ⟨v0, vs0, d0, ds0, p0, q0, hargs, rfl, rfl, h0, r0⟩ := trodAll_cons hA
  obtain ⟨v1, vs1, d1, ds1, p1, q1, rfl, rfl, rfl, h1, r1⟩ := trodAll_cons r0
  obtain ⟨v2, vs2, d2, ds2, p2, q2, rfl, rfl, rfl, h2, r2⟩ := trodAll_cons r1
  obtain ⟨rfl, rfl, rfl⟩ := trodAll_nil r2
  obtain rfl : args = #[v0, v1, v2] := by cases args; simp_all
  obtain ⟨rfl, rfl⟩ := trodVars_none hV
  have k0 := h0
  have lt0 : ∀ x ∈ p0, x.block < W.heap.size := by obtain ⟨m, hm⟩ := k0; exact DataW.trod_lt m _ _ _ hm
  obtain ⟨ls0, f0, l0⟩ := Hd.open_byts (hval 0 22 v0 rfl rfl) h0
  have k1 := h1
  have lt1 : ∀ x ∈ p1, x.block < W.heap.size := by obtain ⟨m, hm⟩ := k1; exact DataW.trod_lt m _ _ _ hm
  obtain ⟨ls1, f1, l1⟩ := Hd.open_nums (hval 1 23 v1 rfl rfl) h1
  obtain ⟨a2, rfl, rfl, rfl⟩ := open_bool Tryd.underlying4 (hval 2 4 v2 rfl rfl) h2
  clear hA0
  simp only [List.append_nil] at hW'
  refine (walk v0 ls0 v1 ls1 a2 W (Tb.tok_of_head (Tb.tail (Tb.tail (Tb.tail hL)))) f0 l0 f1 l1).mono fun e W' ⟨he, bel⟩ => ?_
  subst he
  exact ⟨_, rfl, _, _, _, [], _, [], hW', trodAll_mk1 (shut_bool Tryd.underlying4 _), (trodAll_cons_mk (Below.trod Tb.laidOut (by kernel_rfl) (of_decide_eq_true (by kernel_rfl)) k0 bel lt0) (trodAll_cons_mk (Below.trod Tb.laidOut (by kernel_rfl) (of_decide_eq_true (by kernel_rfl)) k1 bel lt1) (trodAll_cons_mk (shut_bool Tryd.underlying4 a2) trodAll_mk0))), rfl, bel.frame _, fun h => by cases h⟩

theorem laid_met (os : Os) : laidMet Tryd.prog Rows.headReadsRow.laid ((Tb.laidWorld os).forCall (fun _ _ => 0) ⟨#[], #[.slice none 0 0, .slice none 0 0, .bool false], []⟩).memory :=
  laidMet_of_run' 8 (by kernel_rfl) (by kernel_rfl)
theorem reads (os : Os) {H : Type} (enc : TypeId × Value → H) : ∃ places, DataW.whole enc Tryd.prog ((Tb.laidWorld os).forCall (fun _ _ => 0) ⟨#[], #[.slice none 0 0, .slice none 0 0, .bool false], []⟩).memory Tryd.f3.params.toList Rows.headReadsSpec.vars false (#[.slice none 0 0, .slice none 0 0, .bool false] : Array Value).toList 8 = some ([.nil, .nil, .lit (.bool false)], [], places) :=
  ⟨[], by kernel_rfl⟩

set_option maxRecDepth 100000 in
theorem lifted (os : Os) (started : os.Started) (H : Type) (enc : TypeId × Value → H) (F : Stop.Interp) :
    ReturnsInHanded {} Tryd.checked os 3 .any ((OpenSpec.ofChange Rows.headReadsSpec).preRow enc Tryd.prog Tryd.f3 Rows.headReadsRow.domain false Rows.headReadsRow.laid) (((OpenSpec.ofChange Rows.headReadsSpec).at F).post enc Tryd.prog Tryd.f3 false true false false) := by
  obtain ⟨places, hx⟩ := reads os enc
  refine returnsInHanded_of_row (C := Tryd.checked) (s := OpenSpec.ofChange Rows.headReadsSpec) Tb.own started (by kernel_rfl) Tryd.func3
    (witness_row_at (enc := enc) (C := Tryd.checked) false (Tb.laidWorld os) #[.slice none 0 0, .slice none 0 0, .bool false] rfl (by kernel_rfl) (by kernel_rfl) (by kernel_rfl)
      (OpenSpec.preRow_of_cond 8 hx (by kernel_rfl) (fun k hk => by cases hk) (by kernel_rfl) (laid_met os))) ?_
  intro W base args ds gs before hval hW _ _ hsz hL _ _
  exact contract H enc W base args ds gs before hval hW _ hsz hL

theorem said : Rows.HeadReadsSaid :=
  OpenClaim.holds_of_cond 3 Tryd.f3 rfl rfl rfl rfl rfl rfl rfl ⟨rfl, rfl, rfl, rfl, rfl⟩ rfl rfl rfl rfl rfl (by kernel_rfl) Tryd.func3 (by kernel_rfl)
    (of_decide_eq_true (by kernel_rfl)) (by unfold Func.isWrapper; first | (rw [if_pos (by decide +kernel)]; kernel_rfl) | (rw [if_neg (by decide +kernel)]; exact ⟨rfl, rfl⟩))
    (fun os started H enc _ F => by rw [OpenClaim.pre_eq_preRow]; exact lifted os started H enc F)

set_option maxRecDepth 100000 in
theorem plain (f : FuncId) (fn : Func) (hf : Tryd.pinned.checked.prog.funcNamed "gatepost/gatepostlaw05.HeadReads" = some f) (hfn : Tryd.pinned.checked.prog.funcs[f]? = some fn) :
    true = Tryd.pinned.checked.prog.looks [] ∧ ∀ (j : Nat) t, fn.params[j]? = some t → Tryd.pinned.checked.prog.wantsStandIn t = false := by
  obtain rfl : f = 3 := Option.some.inj ((show Tryd.prog.funcNamed "gatepost/gatepostlaw05.HeadReads" = some 3 by kernel_rfl).symm.trans hf) |>.symm
  obtain rfl : fn = Tryd.f3 := (Option.some.inj (Tryd.func3.symm.trans hfn)).symm
  refine ⟨by kernel_rfl, fun j t ht => ?_⟩
  rw [Tryd.params3] at ht
  have hm := Array.mem_of_getElem? ht
  simp at hm
  rcases hm with rfl | rfl | rfl
  · exact (show Tryd.prog.wantsStandIn 22 = false by kernel_rfl)
  · exact (show Tryd.prog.wantsStandIn 23 = false by kernel_rfl)
  · exact (show Tryd.prog.wantsStandIn 4 = false by kernel_rfl)

theorem card : Rows.HeadReadsCardSaid :=
  Claim7.holds_tied_plain_at .later [] _ _ _ _ said (fun _ h => by cases h) (by kernel_rfl) (fun _ h => by cases h) headReads_row_tie rfl ⟨rfl, rfl⟩ (by kernel_rfl) rfl plain (by kernel_rfl)
end Go.Proofs.YtoofdompafkddaaDoor.headReads
