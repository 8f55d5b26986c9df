/-
  The reference's RequestLine and StatusLine: what each returns. Conditions: texts of at most 2^20 bytes.
-/
import Derived.Test.YtldlhnppinodbaaDoorLnLines
import Derived.Test.YtldlhnppinodbaaDoorLnRefReq
import Derived.Deep.Cut
namespace Go.Proofs.YtldlhnppinodbaaDoor.Ln
open Go.RowKit Go.Proofs.YtldlhnppinodbaaDoor.Tk

theorem dig0 : (⟨#[48, 49]⟩ : ByteArray).extract 0 1 = ⟨#[48]⟩ := by decide +kernel
theorem dig1 : (⟨#[48, 49]⟩ : ByteArray).extract 1 2 = ⟨#[49]⟩ := by decide +kernel
theorem bad_none {a b : ByteArray} {n : Int} (h : reqBad a b n = true) : reqLineVal a b n = .tuple #[.string ⟨#[]⟩, .int .i64 2] := by unfold reqLineVal tellVal; rw [if_pos h]

set_option maxHeartbeats 1000000 in
theorem refRequestLine_bad (a b : ByteArray) (n : Int) (w : World) (ha : a.size ≤ 1048576) (hb : b.size ≤ 1048576) (hbad : reqBad a b n = true) :
    Calls Tryd.prog 13 #[.string a, .string b, .int .i64 n] w fun e w' => e = .returned (reqLineVal a b n) ∧ w = w' := by
  have HV := Lib.hid (bad_none hbad)
  have HA := Lib.hid (show a.size ≤ maxLen from by unfold maxLen; omega)
  have HB := Lib.hid (show b.size ≤ maxLen from by unfold maxLen; omega)
  cases h1 : isTok a.data.toList with
  | false =>
    have H1 := Lib.hid h1
    clear h1 hbad
    go_enter Tryd.func13, Tryd.ntmps13
    go_wp2_with fail
    refine (refIs_any a _ HA.out).mono ?_
    rintro e w' ⟨rfl, rfl⟩
    rw [H1.out]
    go_wp2_with fail
    go_ret2
    exact ⟨by rw [HV.out]; rfl, rfl⟩
  | true =>
    have H1 := Lib.hid h1
    cases h2 : isTgt b.data.toList with
    | false =>
      have H2 := Lib.hid h2
      clear h1 h2 hbad
      go_enter Tryd.func13, Tryd.ntmps13
      go_wp2_with fail
      refine (refIs_any a _ HA.out).mono ?_
      rintro e w' ⟨rfl, rfl⟩
      rw [H1.out]
      go_wp2_with fail
      refine (refTarget_any b _ HB.out).mono ?_
      rintro e w' ⟨rfl, rfl⟩
      rw [H2.out]
      go_wp2_with fail
      go_ret2
      exact ⟨by rw [HV.out]; rfl, rfl⟩
    | true =>
      have H2 := Lib.hid h2
      have hm : n < 0 ∨ (0 ≤ n ∧ 1 < n) := by
        unfold reqBad at hbad
        rw [h1, h2] at hbad
        simp [isMin] at hbad
        omega
      clear h1 h2 hbad
      rcases hm with hm | ⟨hm0, hm⟩
      all_goals
        go_enter Tryd.func13, Tryd.ntmps13
        go_wp2_with fail
        refine (refIs_any a _ HA.out).mono ?_
        rintro e w' ⟨rfl, rfl⟩
        rw [H1.out]
        go_wp2_with fail
        refine (refTarget_any b _ HB.out).mono ?_
        rintro e w' ⟨rfl, rfl⟩
        rw [H2.out]
        go_wp2_with fail
        go_ret2
        exact ⟨by rw [HV.out]; rfl, rfl⟩

theorem VT0 : VT 0 = ⟨#[72, 84, 84, 80, 47, 49, 46, 48]⟩ := by decide +kernel
theorem VT1 : VT 1 = ⟨#[72, 84, 84, 80, 47, 49, 46, 49]⟩ := by decide +kernel
theorem line0 (a b : ByteArray) : a ++ ⟨#[32]⟩ ++ b ++ ⟨#[32, 72, 84, 84, 80, 47, 49, 46]⟩ ++ ⟨#[48]⟩ = three a b (VT 0) := by
  rw [VT0]; exact bytes_ext (by simp [three])
theorem line1 (a b : ByteArray) : a ++ ⟨#[32]⟩ ++ b ++ ⟨#[32, 72, 84, 84, 80, 47, 49, 46]⟩ ++ ⟨#[49]⟩ = three a b (VT 1) := by
  rw [VT1]; exact bytes_ext (by simp [three])

set_option maxHeartbeats 1000000 in
theorem refRequestLine_0 (a b : ByteArray) (w : World) (ha : a.size ≤ 1048576) (hb : b.size ≤ 1048576) (h1 : isTok a.data.toList = true) (h2 : isTgt b.data.toList = true) :
    Calls Tryd.prog 13 #[.string a, .string b, .int .i64 0] w fun e w' => e = .returned (reqLineVal a b 0) ∧ w = w' := by
  have HA := Lib.hid (show a.size ≤ maxLen from by unfold maxLen; omega)
  have HB := Lib.hid (show b.size ≤ maxLen from by unfold maxLen; omega)
  have hbad : reqBad a b 0 = false := by unfold reqBad; rw [h1, h2]; rfl
  have H1 := Lib.hid h1
  have H2 := Lib.hid h2
  obtain ⟨J, hJ⟩ : ∃ J, J = three a b (VT 0) := ⟨_, rfl⟩
  have hsz : J.size ≤ 2097184 := by rw [hJ, three_size]; have := VT_size 0 (by omega) (by omega); omega
  have HL := Lib.hid (line0 a b)
  have HV := Lib.hid (show reqLineVal a b 0 = if 1024 < J.size then .tuple #[.string ⟨#[]⟩, .int .i64 3] else .tuple #[.string J, .int .i64 0] from by unfold reqLineVal tellVal; rw [hbad, if_neg (by decide), ← hJ])
  rw [← hJ] at HL
  have d0 := dig0
  clear h1 h2 hbad hJ
  by_cases hbig : 1024 < J.size
  all_goals
    have HVV := Lib.hid HV.out
    first | rw [if_pos hbig] at HVV | rw [if_neg hbig] at HVV
    go_enter Tryd.func13, Tryd.ntmps13
    go_wp2_with fail
    refine (refIs_any a _ HA.out).mono ?_
    rintro e w' ⟨rfl, rfl⟩
    rw [H1.out]
    go_wp2_with fail
    refine (refTarget_any b _ HB.out).mono ?_
    rintro e w' ⟨rfl, rfl⟩
    rw [H2.out]
    go_upto_region 4 with (fail)
    rw [HL.out]
    go_wp2_with fail
    go_ret2
    exact ⟨by rw [HVV.out]; rfl, rfl⟩

set_option maxHeartbeats 1000000 in
theorem refRequestLine_1 (a b : ByteArray) (w : World) (ha : a.size ≤ 1048576) (hb : b.size ≤ 1048576) (h1 : isTok a.data.toList = true) (h2 : isTgt b.data.toList = true) :
    Calls Tryd.prog 13 #[.string a, .string b, .int .i64 1] w fun e w' => e = .returned (reqLineVal a b 1) ∧ w = w' := by
  have HA := Lib.hid (show a.size ≤ maxLen from by unfold maxLen; omega)
  have HB := Lib.hid (show b.size ≤ maxLen from by unfold maxLen; omega)
  have hbad : reqBad a b 1 = false := by unfold reqBad; rw [h1, h2]; rfl
  have H1 := Lib.hid h1
  have H2 := Lib.hid h2
  obtain ⟨J, hJ⟩ : ∃ J, J = three a b (VT 1) := ⟨_, rfl⟩
  have hsz : J.size ≤ 2097184 := by rw [hJ, three_size]; have := VT_size 1 (by omega) (by omega); omega
  have HL := Lib.hid (line1 a b)
  have HV := Lib.hid (show reqLineVal a b 1 = if 1024 < J.size then .tuple #[.string ⟨#[]⟩, .int .i64 3] else .tuple #[.string J, .int .i64 0] from by unfold reqLineVal tellVal; rw [hbad, if_neg (by decide), ← hJ])
  rw [← hJ] at HL
  have d1 := dig1
  clear h1 h2 hbad hJ
  by_cases hbig : 1024 < J.size
  all_goals
    have HVV := Lib.hid HV.out
    first | rw [if_pos hbig] at HVV | rw [if_neg hbig] at HVV
    go_enter Tryd.func13, Tryd.ntmps13
    go_wp2_with fail
    refine (refIs_any a _ HA.out).mono ?_
    rintro e w' ⟨rfl, rfl⟩
    rw [H1.out]
    go_wp2_with fail
    refine (refTarget_any b _ HB.out).mono ?_
    rintro e w' ⟨rfl, rfl⟩
    rw [H2.out]
    go_upto_region 4 with (fail)
    rw [HL.out]
    go_wp2_with fail
    go_ret2
    exact ⟨by rw [HVV.out]; rfl, rfl⟩

theorem refRequestLine_any (a b : ByteArray) (n : Int) (w : World) (ha : a.size ≤ 1048576) (hb : b.size ≤ 1048576) :
    Calls Tryd.prog 13 #[.string a, .string b, .int .i64 n] w fun e w' => e = .returned (reqLineVal a b n) ∧ w = w' := by
  cases hbad : reqBad a b n with
  | true => exact refRequestLine_bad a b n w ha hb hbad
  | false =>
    unfold reqBad at hbad
    simp only [Bool.not_eq_false', Bool.and_eq_true] at hbad
    obtain ⟨⟨h1, h2⟩, h3⟩ := hbad
    have h4 : n = 0 ∨ n = 1 := by simp [isMin] at h3; exact h3
    rcases h4 with rfl | rfl
    · exact refRequestLine_0 a b w ha hb h1 h2
    · exact refRequestLine_1 a b w ha hb h1 h2

theorem sbad_none {r : ByteArray} {n c : Int} (h : stBad n c r = true) : stLineVal n c r = .tuple #[.string ⟨#[]⟩, .int .i64 2] := by unfold stLineVal tellVal; rw [if_pos h]
set_option maxHeartbeats 1000000 in
theorem refStatusLine_bad (n c : Int) (r : ByteArray) (w : World) (hr : r.size ≤ 1048576) (hbad : stBad n c r = true) :
    Calls Tryd.prog 15 #[.int .i64 n, .int .i64 c, .string r] w fun e w' => e = .returned (stLineVal n c r) ∧ w = w' := by
  have HV := Lib.hid (sbad_none hbad)
  have HB := Lib.hid (show r.size ≤ maxLen from by unfold maxLen; omega)
  by_cases hm : 0 ≤ n
  · by_cases hm1 : n ≤ 1
    · by_cases hc : 100 ≤ c
      · by_cases hc1 : c ≤ 599
        · have hrs : isRsn r.data.toList = false := by
            unfold stBad at hbad
            have e1 : isMin n = true := by simp [isMin]; omega
            have e2 : isCod c = true := by simp [isCod]; omega
            rw [e1, e2] at hbad
            simpa using hbad
          have HR := Lib.hid hrs
          clear hbad hrs
          go_enter Tryd.func15, Tryd.ntmps15
          go_wp2_with fail
          refine (refReason_any r _ HB.out).mono ?_
          rintro e w' ⟨rfl, rfl⟩
          rw [HR.out]
          go_wp2_with fail
          go_ret2
          exact ⟨by rw [HV.out]; rfl, rfl⟩
        · clear hbad
          go_enter Tryd.func15, Tryd.ntmps15
          go_wp2_with fail
          go_ret2
          exact ⟨by rw [HV.out]; rfl, rfl⟩
      · clear hbad
        go_enter Tryd.func15, Tryd.ntmps15
        go_wp2_with fail
        go_ret2
        exact ⟨by rw [HV.out]; rfl, rfl⟩
    · clear hbad
      go_enter Tryd.func15, Tryd.ntmps15
      go_wp2_with fail
      go_ret2
      exact ⟨by rw [HV.out]; rfl, rfl⟩
  · clear hbad
    go_enter Tryd.func15, Tryd.ntmps15
    go_wp2_with fail
    go_ret2
    exact ⟨by rw [HV.out]; rfl, rfl⟩

/-- A digit out of the ten. -/
def D1 (k : Nat) : ByteArray := ⟨#[UInt8.ofNat (48 + k)]⟩
theorem D1_size (k : Nat) : (D1 k).size = 1 := rfl
theorem digit_at (k : Nat) (hk : k < 10) (w : World) : (Instr.slice 9 (.string ⟨#[48, 49, 50, 51, 52, 53, 54, 55, 56, 57]⟩) (some (.int .i64 (k : Int))) (some (.int .i64 ((k : Int) + 1))) none).run Tryd.prog w = .ok (.string (D1 k)) w := by
  have e : ((k : Int) + 1).toNat = k + 1 := by omega
  have := run_slice_string (P := Tryd.prog) w 9 ⟨#[48, 49, 50, 51, 52, 53, 54, 55, 56, 57]⟩ .i64 .i64 (k : Int) ((k : Int) + 1) Tryd.underlying9 (by omega) (by omega) (by show (k : Int) + 1 ≤ 10; omega)
  rw [this, e, Int.toNat_natCast]
  congr 2
  match k, hk with
  | 0, _ | 1, _ | 2, _ | 3, _ | 4, _ | 5, _ | 6, _ | 7, _ | 8, _ | 9, _ => decide +kernel
theorem wrap_in (n : Int) (h0 : 0 ≤ n) (h1 : n ≤ 1000000) : IntKind.i64.wrap n = n := by rw [IntKind.wrap_i64]; omega
theorem first_at (w : World) : (Instr.slice 9 (.string ⟨#[48, 49]⟩) (some (.int .i64 0)) (some (.int .i64 1)) none).run Tryd.prog w = .ok (.string ⟨#[48]⟩) w := by kernel_rfl

theorem second_at (w : World) : (Instr.slice 9 (.string ⟨#[48, 49]⟩) (some (.int .i64 1)) (some (.int .i64 2)) none).run Tryd.prog w = .ok (.string ⟨#[49]⟩) w := by kernel_rfl
theorem itoa3 (m : Nat) (h0 : 100 ≤ m) (h1 : m ≤ 999) : Lib.itoa (m : Int) = [UInt8.ofNat (48 + m / 100), UInt8.ofNat (48 + m / 10 % 10), UInt8.ofNat (48 + m % 10)] := by
  have e : Lib.itoa (m : Int) = Lib.decDigits m := by unfold Lib.itoa; rw [if_neg (by omega)]; rfl
  rw [e, Lib.decDigits_eq, Lib.nDigits_unique 2 m (by show 100 ≤ m; omega) (by show m < 1000; omega)]
  simp only [List.range, List.range.loop, Lib.dg, List.map_cons, List.map_nil, List.cons.injEq, and_true, Nat.reduceAdd, Nat.reduceSub, Nat.reducePow]
  refine ⟨?_, ?_, ?_⟩
  · rw [show m / 100 % 10 = m / 100 by omega]
  · trivial
  · rw [show m / 1 % 10 = m % 10 by omega]
theorem stline0 (m : Nat) (r : ByteArray) (h0 : 100 ≤ m) (h1 : m ≤ 999) :
    (⟨#[72, 84, 84, 80, 47, 49, 46]⟩ : ByteArray) ++ ⟨#[48]⟩ ++ ⟨#[32]⟩ ++ D1 (m / 100) ++ D1 (m / 10 % 10) ++ D1 (m % 10) ++ ⟨#[32]⟩ ++ r = three (VT 0) (IT m) r := by
  rw [VT0]; unfold IT; rw [itoa3 m h0 h1]; exact bytes_ext (by simp [three, D1])
theorem stline1 (m : Nat) (r : ByteArray) (h0 : 100 ≤ m) (h1 : m ≤ 999) :
    (⟨#[72, 84, 84, 80, 47, 49, 46]⟩ : ByteArray) ++ ⟨#[49]⟩ ++ ⟨#[32]⟩ ++ D1 (m / 100) ++ D1 (m / 10 % 10) ++ D1 (m % 10) ++ ⟨#[32]⟩ ++ r = three (VT 1) (IT m) r := by
  rw [VT1]; unfold IT; rw [itoa3 m h0 h1]; exact bytes_ext (by simp [three, D1])

set_option maxHeartbeats 1000000 in
theorem refStatusLine_0 (m : Nat) (r : ByteArray) (w : World) (hr : r.size ≤ 1048576) (h1 : 100 ≤ m) (h2 : m ≤ 599) (h3 : isRsn r.data.toList = true) :
    Calls Tryd.prog 15 #[.int .i64 0, .int .i64 (m : Int), .string r] w fun e w' => e = .returned (stLineVal 0 m r) ∧ ∃ k, w' = w.drewN k := by
  have HB := Lib.hid (show r.size ≤ maxLen from by unfold maxLen; omega)
  have H3 := Lib.hid h3
  have hbad : stBad 0 m r = false := by
    unfold stBad
    rw [h3, show isCod (m : Int) = true from by simp [isCod]; omega]; rfl
  obtain ⟨J, hJ⟩ : ∃ J, J = three (VT 0) (IT m) r := ⟨_, rfl⟩
  have hsz : J.size ≤ 2097184 := by rw [hJ, three_size]; have := VT_size 0 (by omega) (by omega); have := IT_size (m : Int) (by omega) (by omega); omega
  have hL := stline0 m r h1 (by omega)
  rw [← hJ] at hL
  have HV := Lib.hid (show stLineVal 0 m r = if 1024 < J.size then .tuple #[.string ⟨#[]⟩, .int .i64 3] else .tuple #[.string J, .int .i64 0] from by unfold stLineVal tellVal; rw [hbad, if_neg (by decide), ← hJ])
  clear hbad hJ
  obtain ⟨a, ha⟩ : ∃ a, a = m / 100 := ⟨_, rfl⟩
  obtain ⟨t, ht⟩ : ∃ t, t = m / 10 := ⟨_, rfl⟩
  obtain ⟨b, hb⟩ : ∃ b, b = m / 10 % 10 := ⟨_, rfl⟩
  obtain ⟨c, hc⟩ : ∃ c, c = m % 10 := ⟨_, rfl⟩
  have q1 : (m : Int).tdiv 100 = (a : Int) := by rw [ha]; rw [Int.tdiv_eq_ediv_of_nonneg (by omega)]; omega
  have q2 : (m : Int).tdiv 10 = (t : Int) := by rw [ht]; rw [Int.tdiv_eq_ediv_of_nonneg (by omega)]; omega
  have q3 : (t : Int).tmod 10 = (b : Int) := by rw [ht, hb]; rw [Int.tmod_eq_emod_of_nonneg (by omega)]; omega
  have q4 : (m : Int).tmod 10 = (c : Int) := by rw [hc]; rw [Int.tmod_eq_emod_of_nonneg (by omega)]; omega
  have w1 := wrap_in 1 (by omega) (by omega)
  have wa := wrap_in a (by omega) (by omega)
  have wt := wrap_in t (by omega) (by omega)
  have wb := wrap_in b (by omega) (by omega)
  have wc := wrap_in c (by omega) (by omega)
  have xa := wrap_in (a + 1) (by omega) (by omega)
  have xb := wrap_in (b + 1) (by omega) (by omega)
  have xc := wrap_in (c + 1) (by omega) (by omega)
  have sa := digit_at a (by omega)
  have sb := digit_at b (by omega)
  have sc := digit_at c (by omega)
  have s0 := first_at
  obtain ⟨A, hA⟩ : ∃ A, A = D1 a := ⟨_, rfl⟩
  obtain ⟨B, hB⟩ : ∃ B, B = D1 b := ⟨_, rfl⟩
  obtain ⟨C, hC⟩ : ∃ C, C = D1 c := ⟨_, rfl⟩
  have zA : A.size ≤ 1 := by rw [hA]; exact Nat.le_refl _
  have zB : B.size ≤ 1 := by rw [hB]; exact Nat.le_refl _
  have zC : C.size ≤ 1 := by rw [hC]; exact Nat.le_refl _
  rw [← hA] at sa
  rw [← hB] at sb
  rw [← hC] at sc
  have KA := Lib.hid hA
  have KB := Lib.hid hB
  have KC := Lib.hid hC
  rw [← ha, ← hb, ← hc, ← hA, ← hB, ← hC] at hL
  have HL := Lib.hid hL
  clear hA hB hC hL
  clear h3 ha ht hb hc
  by_cases hbig : 1024 < J.size
  all_goals
    have HVV := Lib.hid HV.out
    first | rw [if_pos hbig] at HVV | rw [if_neg hbig] at HVV
    go_enter Tryd.func15, Tryd.ntmps15
    go_wp2_with fail
    refine (refReason_any r _ HB.out).mono ?_
    rintro e w' ⟨rfl, rfl⟩
    rw [H3.out]
    go_upto_region 4 with (fail)
    go_quiet (fail)
    go_upto_region 5 with (fail)
    rw [HL.out]
    go_wp2_with fail
    go_ret2
    exact ⟨by rw [HVV.out]; rfl, _, rfl⟩

set_option maxHeartbeats 1000000 in
theorem refStatusLine_1 (m : Nat) (r : ByteArray) (w : World) (hr : r.size ≤ 1048576) (h1 : 100 ≤ m) (h2 : m ≤ 599) (h3 : isRsn r.data.toList = true) :
    Calls Tryd.prog 15 #[.int .i64 1, .int .i64 (m : Int), .string r] w fun e w' => e = .returned (stLineVal 1 m r) ∧ ∃ k, w' = w.drewN k := by
  have HB := Lib.hid (show r.size ≤ maxLen from by unfold maxLen; omega)
  have H3 := Lib.hid h3
  have hbad : stBad 1 m r = false := by
    unfold stBad
    rw [h3, show isCod (m : Int) = true from by simp [isCod]; omega]; rfl
  obtain ⟨J, hJ⟩ : ∃ J, J = three (VT 1) (IT m) r := ⟨_, rfl⟩
  have hsz : J.size ≤ 2097184 := by rw [hJ, three_size]; have := VT_size 1 (by omega) (by omega); have := IT_size (m : Int) (by omega) (by omega); omega
  have hL := stline1 m r h1 (by omega)
  rw [← hJ] at hL
  have HV := Lib.hid (show stLineVal 1 m r = if 1024 < J.size then .tuple #[.string ⟨#[]⟩, .int .i64 3] else .tuple #[.string J, .int .i64 0] from by unfold stLineVal tellVal; rw [hbad, if_neg (by decide), ← hJ])
  clear hbad hJ
  obtain ⟨a, ha⟩ : ∃ a, a = m / 100 := ⟨_, rfl⟩
  obtain ⟨t, ht⟩ : ∃ t, t = m / 10 := ⟨_, rfl⟩
  obtain ⟨b, hb⟩ : ∃ b, b = m / 10 % 10 := ⟨_, rfl⟩
  obtain ⟨c, hc⟩ : ∃ c, c = m % 10 := ⟨_, rfl⟩
  have q1 : (m : Int).tdiv 100 = (a : Int) := by rw [ha]; rw [Int.tdiv_eq_ediv_of_nonneg (by omega)]; omega
  have q2 : (m : Int).tdiv 10 = (t : Int) := by rw [ht]; rw [Int.tdiv_eq_ediv_of_nonneg (by omega)]; omega
  have q3 : (t : Int).tmod 10 = (b : Int) := by rw [ht, hb]; rw [Int.tmod_eq_emod_of_nonneg (by omega)]; omega
  have q4 : (m : Int).tmod 10 = (c : Int) := by rw [hc]; rw [Int.tmod_eq_emod_of_nonneg (by omega)]; omega
  have w1 := wrap_in 1 (by omega) (by omega)
  have wa := wrap_in a (by omega) (by omega)
  have wt := wrap_in t (by omega) (by omega)
  have wb := wrap_in b (by omega) (by omega)
  have wc := wrap_in c (by omega) (by omega)
  have xa := wrap_in (a + 1) (by omega) (by omega)
  have xb := wrap_in (b + 1) (by omega) (by omega)
  have xc := wrap_in (c + 1) (by omega) (by omega)
  have sa := digit_at a (by omega)
  have sb := digit_at b (by omega)
  have sc := digit_at c (by omega)
  have s0 := second_at
  have w2 := wrap_in 2 (by omega) (by omega)
  obtain ⟨A, hA⟩ : ∃ A, A = D1 a := ⟨_, rfl⟩
  obtain ⟨B, hB⟩ : ∃ B, B = D1 b := ⟨_, rfl⟩
  obtain ⟨C, hC⟩ : ∃ C, C = D1 c := ⟨_, rfl⟩
  have zA : A.size ≤ 1 := by rw [hA]; exact Nat.le_refl _
  have zB : B.size ≤ 1 := by rw [hB]; exact Nat.le_refl _
  have zC : C.size ≤ 1 := by rw [hC]; exact Nat.le_refl _
  rw [← hA] at sa
  rw [← hB] at sb
  rw [← hC] at sc
  have KA := Lib.hid hA
  have KB := Lib.hid hB
  have KC := Lib.hid hC
  rw [← ha, ← hb, ← hc, ← hA, ← hB, ← hC] at hL
  have HL := Lib.hid hL
  clear hA hB hC hL
  clear h3 ha ht hb hc
  by_cases hbig : 1024 < J.size
  all_goals
    have HVV := Lib.hid HV.out
    first | rw [if_pos hbig] at HVV | rw [if_neg hbig] at HVV
    go_enter Tryd.func15, Tryd.ntmps15
    go_wp2_with fail
    refine (refReason_any r _ HB.out).mono ?_
    rintro e w' ⟨rfl, rfl⟩
    rw [H3.out]
    go_upto_region 4 with (fail)
    go_quiet (fail)
    go_upto_region 5 with (fail)
    rw [HL.out]
    go_wp2_with fail
    go_ret2
    exact ⟨by rw [HVV.out]; rfl, _, rfl⟩

theorem refStatusLine_any (n c : Int) (r : ByteArray) (w : World) (hr : r.size ≤ 1048576) :
    Calls Tryd.prog 15 #[.int .i64 n, .int .i64 c, .string r] w (RefPost (stLineVal n c r) w) := by
  cases hbad : stBad n c r with
  | true => exact (refStatusLine_bad n c r w hr hbad).mono fun e w' ⟨he, hw⟩ => ⟨he, 0, hw.symm⟩
  | false =>
    unfold stBad at hbad
    simp only [Bool.not_eq_false', Bool.and_eq_true] at hbad
    obtain ⟨⟨h1, h2⟩, h3⟩ := hbad
    have h4 : n = 0 ∨ n = 1 := by simp [isMin] at h1; exact h1
    have h5 : 100 ≤ c ∧ c ≤ 599 := by simp [isCod] at h2; exact h2
    obtain ⟨m, rfl⟩ := Int.eq_ofNat_of_zero_le (show 0 ≤ c by omega)
    rcases h4 with rfl | rfl
    · exact refStatusLine_0 m r w hr (by omega) (by omega) h3
    · exact refStatusLine_1 m r w hr (by omega) (by omega) h3
end Go.Proofs.YtldlhnppinodbaaDoor.Ln
