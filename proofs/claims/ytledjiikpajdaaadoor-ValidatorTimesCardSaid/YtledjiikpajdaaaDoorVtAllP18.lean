/-
  Texts that the laws' proofs stand on, 3 of them in one file; each one's head says what it proves and under which condition.
-/
import Derived.Test.YtledjiikpajdaaaDoorVtAllP6
import Derived.Test.YtledjiikpajdaaaDoorVtAllP7
import Derived.Test.YtledjiikpajdaaaDoorVtAllP11
import Derived.BigQuiet
import Derived.Deep.QuietTactic
import Derived.Test.YtledjiikpajdaaaDoorRows
import Derived.Test.YtledjiikpajdaaaDoorVtAllP1
import Derived.WalkKit
import Derived.WalkLawsBesides
import Derived.Outline
import Derived.Lib.Hide
/-
  What is read of a date that Format tells: its second; and that it is no tag. No program, no condition.
-/
namespace Go.Proofs.YtledjiikpajdaaaDoor.Vd
open Go.Proofs.YtledjiikpajdaaaDoor.Dt Go.Proofs.YtledjiikpajdaaaDoor.Dp
set_option linter.unusedVariables false

theorem secV_there {y d : Int} {k : Nat} (hv : Valid y k d) (c : Int) (c0 : 0 ≤ c) (c1 : c < 86400) : secV ((dayOf y k d + 3) % 7) y ((k : Int) + 1) d (c / 3600) (c / 60 % 60) (c % 60) = (dayOf y k d * 86400 + c, true) := by
  have e : dayV y ((k : Int) + 1) d = dayOf y k d := by
    unfold dayV
    rw [show ((k : Int) + 1 - 1).toNat = k by omega, if_pos ⟨hv.y0, hv.y1, by omega, by have := hv.k1; omega, hv.d0, hv.d1⟩]
  have hr := hv.range
  unfold secV
  rw [e, if_neg (by omega), show min (c % 60) 59 = c % 60 from by omega]
  congr 1
  omega
theorem parseD_form1 {sec y d : Int} {k : Nat} (hv : Valid y k d) (hd : dayOf y k d = sec / 86400) : parseD (form1 ((sec / 86400 + 3) % 7).toNat y.toNat k d.toNat (sec % 86400).toNat) = (sec, true) := by
  obtain ⟨p1, p2, p3, p4⟩ := small_parts (sec := sec) hv
  have hr := read1 _ _ k _ _ p1 p2 hv.k1 p3 p4
  have ht := told_there (sec := sec) hv hd
  have h1 : parseD (form1 ((sec / 86400 + 3) % 7).toNat y.toNat k d.toNat (sec % 86400).toNat) = secR (told ((sec / 86400 + 3) % 7).toNat y.toNat k d.toNat (sec % 86400).toNat) := by
    show (if (readF (formTexts.getD 0 []) zeros _).1 = true then secR (readF (formTexts.getD 0 []) zeros _).2 else _) = _
    rw [hr, if_pos rfl]
  rw [h1, ht.eq]
  refine (secV_there hv (sec % 86400) (by omega) (by omega)).trans ?_
  rw [sum_back hd]
end Go.Proofs.YtledjiikpajdaaaDoor.Vd
/-
  gatepostref02.two, short and months: what each returns. No condition.
-/
namespace Go.Proofs.YtledjiikpajdaaaDoor.Dp
open Go.RowKit Go.Proofs.YtledjiikpajdaaaDoor.Dt
set_option linter.unusedVariables false
set_option maxRecDepth 100000

def digs : ByteArray := ⟨#[48, 49, 50, 51, 52, 53, 54, 55, 56, 57]⟩
theorem digs_two : ∀ n : Nat, n < 100 → digs.extract (n / 10) (n / 10 + 1) ++ digs.extract (n % 10) (n % 10 + 1) = B (two n) := by decide +kernel
theorem digs_cut (k : Nat) (W : World) (hk : k < 10) : (Instr.slice 9 (.string ⟨#[48, 49, 50, 51, 52, 53, 54, 55, 56, 57]⟩) (some (.int .i64 (k : Int))) (some (.int .i64 ((k : Int) + 1))) none).run Tryd.prog W = .ok (.string (digs.extract k (k + 1))) W := by
  have := run_slice_string (P := Tryd.prog) W 9 digs .i64 .i64 (k : Int) ((k : Int) + 1) Tryd.underlying9 (by omega) (by omega) (by show (k : Int) + 1 ≤ 10; omega)
  rw [Int.toNat_natCast, show ((k : Int) + 1).toNat = k + 1 by omega] at this
  exact this
theorem rtwo_any (x : Int) (n : Nat) (w : World) (hx : x = (n : Int)) (h1 : n < 100) :
    Calls Tryd.prog 32 #[.int .i64 x] w fun e w' => e = .returned (.string (B (two n))) ∧ ∃ q, w' = w.drewN q := by
  subst hx
  have HT := Lib.hid (digs_two n h1)
  obtain ⟨a, ha⟩ : ∃ a, n / 10 = a := ⟨_, rfl⟩
  obtain ⟨b, hb⟩ : ∃ b, n % 10 = b := ⟨_, rfl⟩
  have a1 : (n : Int) / 10 = (a : Int) := by omega
  have b1 : (n : Int) % 10 = (b : Int) := by omega
  have a2 : a < 10 := by omega
  have b2 : b < 10 := by omega
  rw [ha, hb] at HT
  have ra := fun W => digs_cut a W a2
  have rb := fun W => digs_cut b W b2
  obtain ⟨X, hX⟩ : ∃ X, X = digs.extract a (a + 1) := ⟨_, rfl⟩
  obtain ⟨Y, hY⟩ : ∃ Y, Y = digs.extract b (b + 1) := ⟨_, rfl⟩
  have sx : X.size = 1 := by rw [hX, ByteArray.size_extract]; show min (a + 1) 10 - a = 1; omega
  have sy : Y.size = 1 := by rw [hY, ByteArray.size_extract]; show min (b + 1) 10 - b = 1; omega
  simp only [← hX] at ra
  simp only [← hY] at rb
  rw [← hX, ← hY] at HT
  clear hX hY ha hb
  go_enter Tryd.func32, Tryd.ntmps32
  go_wp2_with fail
  go_quiet (fail)
  go_wp2_with fail
  go_ret
  exact ⟨by rw [← HT.out]; rfl, _, rfl⟩
theorem new_at (w : World) (o : Obj) : (w.alloc o).heap[w.heap.size]? = some o := by show (w.heap.push o)[w.heap.size]? = _; simp
/-- The block that short makes, and that of months. -/
theorem rshort_any (w : World) :
    Calls Tryd.prog 31 #[] w fun e w' => (∃ b, e = .returned (.slice (some ⟨b, 0, none⟩) 7 7) ∧ ∀ k, k < 7 → w'.cell? ⟨b, k, none⟩ = some (.string (B (short k)))) ∧ Below w.heap.size w w' := by
  go_enter Tryd.func31, Tryd.ntmps31
  go_wp2_with fail
  go_ret
  refine ⟨⟨w.heap.size, rfl, fun k hk => ?_⟩, (Below.refl _ _).alloc (Nat.le_refl _) _⟩
  rw [Lib.cell_of_heap (new_at w _)]
  rcases (by omega : k = 0 ∨ k = 1 ∨ k = 2 ∨ k = 3 ∨ k = 4 ∨ k = 5 ∨ k = 6) with rfl | rfl | rfl | rfl | rfl | rfl | rfl <;> rfl
theorem rmonths_any (w : World) :
    Calls Tryd.prog 33 #[] w fun e w' => (∃ b, e = .returned (.slice (some ⟨b, 0, none⟩) 12 12) ∧ ∀ k, k < 12 → w'.cell? ⟨b, k, none⟩ = some (.string (B (monNames.getD k [])))) ∧ Below w.heap.size w w' := by
  go_enter Tryd.func33, Tryd.ntmps33
  go_wp2_with fail
  go_ret
  refine ⟨⟨w.heap.size, rfl, fun k hk => ?_⟩, (Below.refl _ _).alloc (Nat.le_refl _) _⟩
  rw [Lib.cell_of_heap (new_at w _)]
  rcases (by omega : k = 0 ∨ k = 1 ∨ k = 2 ∨ k = 3 ∨ k = 4 ∨ k = 5 ∨ k = 6 ∨ k = 7 ∨ k = 8 ∨ k = 9 ∨ k = 10 ∨ k = 11) with rfl | rfl | rfl | rfl | rfl | rfl | rfl | rfl | rfl | rfl | rfl | rfl <;> rfl
end Go.Proofs.YtledjiikpajdaaaDoor.Dp
/-
  gatepostref02.leap, year, long and Civil: what each returns. No condition but the bounds that each states.
-/
namespace Go.Proofs.YtledjiikpajdaaaDoor.Dp
open Go.RowKit Go.Proofs.YtledjiikpajdaaaDoor.Dt
set_option linter.unusedVariables false

def isLeap (y : Int) : Bool := decide (lp (y - 1) < lp y)
theorem leap_any (y : Int) (w : World) (h0 : 0 ≤ y) (h1 : y ≤ 20000) :
    Calls Tryd.prog 75 #[.int .i64 y] w fun e w' => e = .returned (.bool (isLeap y)) ∧ w = w' := by
  have HL := Lib.hid (leap_iff y)
  have HI := Lib.hid (show isLeap y = decide (lp (y - 1) < lp y) from rfl)
  by_cases a : y % 4 = 0
  · by_cases b : y % 100 = 0
    · by_cases c : y % 400 = 0
      all_goals
        go_enter Tryd.func75, Tryd.ntmps75
        go_wp2_with fail
        go_ret
        exact ⟨by
          rw [HI.out]
          first
            | (rw [decide_eq_true (HL.out.2 (by omega))]; rfl)
            | (rw [decide_eq_false (fun h => by have := HL.out.1 h; omega)]
               show Ending.returned (.bool (y % 400 == 0)) = _
               rw [beq_eq_false_iff_ne.2 c]), rfl⟩
    · go_enter Tryd.func75, Tryd.ntmps75
      go_wp2_with fail
      go_ret
      exact ⟨by rw [HI.out, decide_eq_true (HL.out.2 (by omega))]; rfl, rfl⟩
  · go_enter Tryd.func75, Tryd.ntmps75
    go_wp2_with fail
    go_ret
    exact ⟨by rw [HI.out, decide_eq_false (fun h => by have := HL.out.1 h; omega)]; rfl, rfl⟩
theorem year_any (y : Int) (w : World) (h0 : 0 ≤ y) (h1 : y ≤ 20000) :
    Calls Tryd.prog 60 #[.int .i64 y] w fun e w' => e = .returned (.int .i64 (msum y 12)) ∧ w = w' := by
  have HM := Lib.hid (msum_year y)
  have HI := Lib.hid (show isLeap y = decide (lp (y - 1) < lp y) from rfl)
  cases hl : isLeap y with
  | true =>
    have HL := Lib.hid hl
    clear hl
    replace HM := Lib.hid (show msum y 12 = 366 from by rw [HM.out, if_pos (of_decide_eq_true (HI.out.symm.trans HL.out))])
    go_enter Tryd.func60, Tryd.ntmps60
    go_wp2_with fail
    refine (leap_any y w h0 h1).mono ?_
    rintro e w' ⟨rfl, rfl⟩
    rw [HL.out]
    go_wp2_with fail
    go_ret
    exact ⟨by rw [HM.out]; rfl, rfl⟩
  | false =>
    have HL := Lib.hid hl
    clear hl
    replace HM := Lib.hid (show msum y 12 = 365 from by rw [HM.out, if_neg (of_decide_eq_false (HI.out.symm.trans HL.out))])
    go_enter Tryd.func60, Tryd.ntmps60
    go_wp2_with fail
    refine (leap_any y w h0 h1).mono ?_
    rintro e w' ⟨rfl, rfl⟩
    rw [HL.out]
    go_wp2_with fail
    go_ret
    exact ⟨by rw [HM.out]; rfl, rfl⟩
theorem long_any (y m : Int) (k : Nat) (w : World) (h0 : 0 ≤ y) (h1 : y ≤ 20000) (hk : k < 12) (hm : m = (k : Int) + 1) :
    Calls Tryd.prog 61 #[.int .i64 y, .int .i64 m] w fun e w' => e = .returned (.int .i64 (mlen y k)) ∧ w = w' := by
  by_cases h1k : k = 1
  · subst h1k
    have hm2 : m = 2 := by omega
    subst hm2
    have HM := Lib.hid (mlen_feb y)
    have HI := Lib.hid (show isLeap y = decide (lp (y - 1) < lp y) from rfl)
    clear hm hk
    cases hl : isLeap y with
    | true =>
      have HL := Lib.hid hl
      clear hl
      replace HM := Lib.hid (show mlen y 1 = 29 from by rw [HM.out, if_pos (of_decide_eq_true (HI.out.symm.trans HL.out))])
      go_enter Tryd.func61, Tryd.ntmps61
      go_wp2_with fail
      refine (leap_any y w h0 h1).mono ?_
      rintro e w' ⟨rfl, rfl⟩
      rw [HL.out]
      go_wp2_with fail
      go_ret
      exact ⟨by rw [HM.out]; rfl, rfl⟩
    | false =>
      have HL := Lib.hid hl
      clear hl
      replace HM := Lib.hid (show mlen y 1 = 28 from by rw [HM.out, if_neg (of_decide_eq_false (HI.out.symm.trans HL.out))])
      go_enter Tryd.func61, Tryd.ntmps61
      go_wp2_with fail
      refine (leap_any y w h0 h1).mono ?_
      rintro e w' ⟨rfl, rfl⟩
      rw [HL.out]
      go_wp2_with fail
      go_ret
      exact ⟨by rw [HM.out]; rfl, rfl⟩
  · have HM := Lib.hid (mlen_other y k h1k)
    obtain ⟨V, hV⟩ : ∃ V, V = mtab.getD k 0 := ⟨_, rfl⟩
    rw [← hV] at HM
    rw [HM.out]
    have hV2 := hV.symm
    clear hV HM
    have hm' := hm
    rcases (by omega : k = 0 ∨ k = 2 ∨ k = 3 ∨ k = 4 ∨ k = 5 ∨ k = 6 ∨ k = 7 ∨ k = 8 ∨ k = 9 ∨ k = 10 ∨ k = 11) with rfl | rfl | rfl | rfl | rfl | rfl | rfl | rfl | rfl | rfl | rfl
    all_goals
      simp [mtab] at hV2
      simp at hm
      subst hm hV2
      clear hm' hk h1k
      go_enter Tryd.func61, Tryd.ntmps61
      go_wp2_with fail
      go_ret
      exact ⟨rfl, rfl⟩
theorem yst_msum (y : Int) : yst (y + 1) = yst y + msum y 12 := by rw [yst_next]; rfl
set_option maxHeartbeats 4000000 in
theorem rcivil_in (day : Int) (w : World) (h0 : 0 ≤ day) (h1 : day ≤ 2932896) :
    Calls Tryd.prog 30 #[.int .i64 day] w fun e w' => (∃ (y : Int) (k : Nat) (d : Int), e = .returned (.tuple #[.int .i64 y, .int .i64 ((k : Int) + 1), .int .i64 d]) ∧ Valid y k d ∧ dayOf y k d = day) ∧ w = w' := by
  have H1 := Lib.hid h1
  go_enter Tryd.func30, Tryd.ntmps30
  go_wp2_with fail
  go_loop [0, 5] (fun v0 v5 => ∃ y r : Int, v0 = .int .i64 r ∧ v5 = .int .i64 y ∧ 1970 ≤ y ∧ y ≤ 9999 ∧ 0 ≤ r ∧ r ≤ 2932896 ∧ Hid (r = day - yst y)) (fun v0 _ => (intOf v0).toNat)
  case atStart => exact ⟨1970, day, rfl, rfl, by omega, by omega, h0, h1, Lib.hid (by rw [yst_1970]; omega)⟩
  case round =>
    obtain ⟨y, r, rfl, rfl, hy0, hy1, hr0, hr1, HR⟩ := hrel
    have hm : 365 ≤ msum y 12 ∧ msum y 12 ≤ 366 := by rw [msum_year]; split <;> omega
    obtain ⟨m, hmm⟩ : ∃ m, m = msum y 12 := ⟨_, rfl⟩
    have HY := Lib.hid (show ∀ w : World, Calls Tryd.prog 60 #[.int .i64 y] w fun e w' => e = .returned (.int .i64 m) ∧ w = w' from fun w => by rw [hmm]; exact year_any y w (by omega) (by omega))
    have HN := Lib.hid (show yst (y + 1) = yst y + m from by rw [hmm]; exact yst_msum y)
    rw [← hmm] at hm
    clear hmm
    obtain ⟨m0, m1⟩ := hm
    by_cases hlt : m ≤ r
    · have hy2 : y ≤ 9998 := by
        have a := HN.out
        have b := HR.out
        have c := H1.out
        by_cases e : y = 9999
        · rw [e] at a b; rw [show (9999 : Int) + 1 = 10000 from rfl, yst_10000] at a; omega
        · omega
      go_wp2_with fail
      refine (HY.out _).mono ?_
      rintro e w' ⟨rfl, rfl⟩
      go_wp2_with fail
      refine (HY.out _).mono ?_
      rintro e w' ⟨rfl, rfl⟩
      go_wp2_with fail
      go_round
      case rel => exact ⟨y + 1, r - m, rfl, rfl, by omega, by omega, by omega, by omega, Lib.hid (by have a := HN.out; have b := HR.out; omega)⟩
      case measure => simp [intOf]; omega
    · go_wp2_with fail
      refine (HY.out _).mono ?_
      rintro e w' ⟨rfl, rfl⟩
      go_wp2_with fail
      have HB := Lib.hid (show r < msum y 12 from by have a := HN.out; have b := yst_msum y; omega)
      clear HY HN m0 m1 hlt
      go_loop [0, 6] (fun v0 v6 => ∃ (k : Nat) (q : Int), v0 = .int .i64 q ∧ v6 = .int .i64 ((k : Int) + 1) ∧ k < 12 ∧ 0 ≤ q ∧ q ≤ 400 ∧ Hid (q = r - msum y k)) (fun v0 _ => (intOf v0).toNat)
      case atStart => exact ⟨0, r, rfl, rfl, by omega, hr0, by have := HB.out; have := msum_bd y 12 (by omega); omega, Lib.hid (by show r = r - 0; omega)⟩
      case round =>
        obtain ⟨k, q, rfl, rfl, hk, hq0, hq1, HQ⟩ := hrel
        have hl := mlen_pos y k hk
        obtain ⟨n, hn⟩ : ∃ n, n = mlen y k := ⟨_, rfl⟩
        have HLg := Lib.hid (show ∀ w : World, Calls Tryd.prog 61 #[.int .i64 y, .int .i64 ((k : Int) + 1)] w fun e w' => e = .returned (.int .i64 n) ∧ w = w' from fun w => by rw [hn]; exact long_any y _ k w (by omega) (by omega) hk rfl)
        have HM := Lib.hid (show msum y (k + 1) = msum y k + n from by rw [hn]; rfl)
        rw [← hn] at hl
        have HNn := Lib.hid hn
        clear hn
        obtain ⟨l0, l1⟩ := hl
        by_cases hlq : n ≤ q
        · have hk2 : k < 11 := by
            have a := HM.out
            have b := HQ.out
            have c := HB.out
            by_cases e : k = 11
            · subst e; rw [show 11 + 1 = 12 from rfl] at a; omega
            · omega
          go_wp2_with fail
          refine (HLg.out _).mono ?_
          rintro e w' ⟨rfl, rfl⟩
          go_wp2_with fail
          refine (HLg.out _).mono ?_
          rintro e w' ⟨rfl, rfl⟩
          go_wp2_with fail
          go_round
          case rel => exact ⟨k + 1, q - n, rfl, by go_num, by omega, by omega, by omega, Lib.hid (by have a := HM.out; have b := HQ.out; omega)⟩
          case measure => simp [intOf]; omega
        · have HV := Lib.hid (show Valid y k (q + 1) from ⟨hy0, hy1, hk, by omega, by have := HNn.out; omega⟩)
          have HD := Lib.hid (show dayOf y k (q + 1) = day from by have a := HR.out; have b := HQ.out; unfold dayOf mst; omega)
          go_wp2_with fail
          refine (HLg.out _).mono ?_
          rintro e w' ⟨rfl, rfl⟩
          go_wp2_with fail
          go_ret3
          exact ⟨⟨y, k, q + 1, rfl, HV.out, HD.out⟩, rfl⟩
end Go.Proofs.YtledjiikpajdaaaDoor.Dp
