/-
  The reference's Status: what it returns. Condition: none beyond the lengths that a string can have.
-/
import Derived.Test.YtldlhnppinodbaaDoorLnRefReq
import Derived.Test.YtldlhnppinodbaaDoorLnRead
namespace Go.Proofs.YtldlhnppinodbaaDoor.Ln
open Go.RowKit Go.Proofs.YtldlhnppinodbaaDoor.Tk

theorem err_post {s : ByteArray} {w w' : World} (hs : ¬ 1024 < s.size) (h : stRef s.data.toList = false) (hw : ∃ n, w' = w.drewN n) : RefPost (stVal s) w (.returned (.tuple #[.int .i64 0, .int .i64 0, .string ⟨#[]⟩, .int .i64 30])) w' :=
  ⟨by unfold stVal; rw [if_neg hs, if_neg (by rw [st_no h]; simp)], hw⟩

set_option maxHeartbeats 4000000 in
theorem refStatus_any (s : ByteArray) (w : World) :
    Calls Tryd.prog 10 #[.string s] w (RefPost (stVal s) w) := by
  by_cases hs : 1024 < s.size
  · have HV := Lib.hid (show stVal s = .tuple #[.int .i64 0, .int .i64 0, .string ⟨#[]⟩, .int .i64 3] from by unfold stVal; rw [if_pos hs])
    go_enter Tryd.func10, Tryd.ntmps10
    go_wp2_with fail
    refine bodyPost_ret (v := .tuple #[.int .i64 0, .int .i64 0, .string ⟨#[]⟩, .int .i64 3]) (by simp [results, Tryd.results10, go_sem]) rfl ⟨by rw [HV.out], 0, rfl⟩
  · have HF := Lib.hid (fun (w' : World) (h : stRef s.data.toList = false) (hw : ∃ n, w' = w.drewN n) => err_post hs h hw)
    by_cases h12 : s.size < 12
    · have HE := Lib.hid (HF.out w (by unfold stRef; rw [show decide (12 ≤ s.data.toList.length) = false from by simp; omega]; rfl) ⟨0, rfl⟩)
      clear HF
      go_enter Tryd.func10, Tryd.ntmps10
      go_wp2_with fail
      exact bodyPost_ret (v := .tuple #[.int .i64 0, .int .i64 0, .string ⟨#[]⟩, .int .i64 30]) (by simp [results, Tryd.results10, go_sem]) rfl HE.out
    · have c1 : decide (12 ≤ s.data.toList.length) = true := by simp; omega
      obtain ⟨M, hM⟩ : ∃ M : Int, M = minorOf (s.data.toList.take 8) := ⟨_, rfl⟩
      have hbd := minor_bd (s.data.toList.take 8)
      rw [← hM] at hbd
      obtain ⟨V, xV⟩ : ∃ V, s.extract 0 8 = V := ⟨_, rfl⟩
      obtain ⟨T, xT⟩ : ∃ T, s.extract 9 12 = T := ⟨_, rfl⟩
      obtain ⟨R, xR⟩ : ∃ R, s.extract 13 s.size = R := ⟨_, rfl⟩
      have E1 := Lib.hid (show V.data.toList = s.data.toList.take 8 from by rw [← xV, Lib.extract_data]; rfl)
      have HM := Lib.hid hM
      have hver := fun W => (refVersion_any V W).mono (R' := fun e w' => e = .returned (.int .i64 M) ∧ w' = W) fun e w' ⟨he, hw⟩ => ⟨by rw [he, E1.out, hM], hw.symm⟩
      have HVer := Lib.hid hver
      by_cases hm0 : 0 ≤ M
      · have c2 : isMin (minorOf (s.data.toList.take 8)) = true := by rw [isMin_minor, ← hM]; simpa using hm0
        clear hM hver
        obtain ⟨c, hc⟩ : ∃ c, s[8] = c := ⟨_, rfl⟩
        have hb := byte_at s 8 (by omega)
        rw [hc] at hb
        by_cases h32 : (c.toNat : Int) = 32
        · have t0 : ((s[8].toNat : Int) != 32) = false := by rw [hc, h32]; rfl
          have c3 : (s.data.toList[8]? == some 32) = true := by rw [hb, byte_is h32]; rfl
          have E2 := Lib.hid (show T.data.toList = (s.data.toList.drop 9).take 3 from by rw [← xT]; exact Lib.extract_data _ _ _)
          have L2 : ((s.data.toList.drop 9).take 3).length = 3 := by simp; omega
          have S2 := Lib.hid (show T.size ≤ maxLen from by rw [← xT]; simp; unfold maxLen; omega)
          have hco := code_of (most := 1000) L2 (by omega)
          rw [← E2.out] at hco
          have hx : (⟨T.data.toList.toArray⟩ : ByteArray) = T := bytes_ext (by simp)
          rw [hx] at hco
          obtain ⟨N, hN⟩ : ∃ N, N = Num.numOf T 1000 := ⟨_, rfl⟩
          have HN := Lib.hid hN
          rw [← hN, E2.out] at hco
          have hcb := code_bd ((s.data.toList.drop 9).take 3)
          have C1 := Lib.hid c1
          have C2 := Lib.hid c2
          have C3 := Lib.hid c3
          clear hN hx h32 hc hb c1 c2 c3 L2
          obtain ⟨N1, N2⟩ := N
          cases N2 with
          | false =>
            have HE := Lib.hid (HF.out w (by unfold stRef; rw [C1.out, C2.out, C3.out, hco]; rfl) ⟨0, rfl⟩)
            clear HF hco hcb
            go_enter Tryd.func10, Tryd.ntmps10
            go_wp2_with fail
            refine (HVer.out _).mono ?_
            rintro e w' ⟨rfl, rfl⟩
            go_wp2_with fail
            refine (Num.refNumber_any _ 1000 _ S2.out (by omega) (by omega)).mono ?_
            rintro e w' ⟨rfl, rfl⟩
            rw [← HN.out]
            go_wp2_with fail
            exact bodyPost_ret (v := .tuple #[.int .i64 0, .int .i64 0, .string ⟨#[]⟩, .int .i64 30]) (by simp [results, Tryd.results10, go_sem]) rfl HE.out
          | true =>
            rw [if_pos rfl] at hco
            have hco' : codeOf ((s.data.toList.drop 9).take 3) = N1 := hco
            rw [hco'] at hcb
            have HCo := Lib.hid hco'
            clear hco hco'
            by_cases hr : 100 ≤ N1 ∧ N1 ≤ 599
            · obtain ⟨hr1, hr2⟩ := hr
              have C4 := Lib.hid (show isCod (codeOf ((s.data.toList.drop 9).take 3)) = true from by rw [HCo.out]; simp [isCod]; omega)
              clear hcb
              by_cases he : s.size = 12
              · have hl : s.data.toList.length = 12 := by simpa using he
                have HP := Lib.hid (st_parts (l := s.data.toList) (by unfold stRef; rw [C1.out, C2.out, C3.out, C4.out, hl]; rfl))
                have HV := Lib.hid (show stVal s = .tuple #[.int .i64 M, .int .i64 N1, .string ⟨#[]⟩, .int .i64 0] from by
                  obtain ⟨p1, p2, p3, p4⟩ := HP.out
                  have e13 : s.data.toList.drop 13 = [] := List.drop_eq_nil_of_le (by omega)
                  unfold stVal; rw [if_neg hs, if_pos p1, p2, p3, p4, e13, HCo.out, ← HM.out])
                have t12 : ((s.size : Int) == 12) = true := by rw [he]; rfl
                clear HF hl he
                go_enter Tryd.func10, Tryd.ntmps10
                go_wp2_with fail
                refine (HVer.out _).mono ?_
                rintro e w' ⟨rfl, rfl⟩
                go_wp2_with fail
                refine (Num.refNumber_any _ 1000 _ S2.out (by omega) (by omega)).mono ?_
                rintro e w' ⟨rfl, rfl⟩
                rw [← HN.out]
                go_wp2_with fail
                refine (HVer.out _).mono ?_
                rintro e w' ⟨rfl, rfl⟩
                go_wp2_with fail
                exact bodyPost_ret (v := .tuple #[.int .i64 M, .int .i64 N1, .string ⟨#[]⟩, .int .i64 0]) (by simp [results, Tryd.results10, go_sem]) rfl ⟨by rw [HV.out], 0, rfl⟩
              · have hl : decide (s.data.toList.length = 12) = false := by simpa using he
                have t12 : ((s.size : Int) == 12) = false := by rw [beq_eq_false_iff_ne]; omega
                have h13 : 13 ≤ s.size := by omega
                obtain ⟨d, hd⟩ : ∃ d, s[12] = d := ⟨_, rfl⟩
                have hdb := byte_at s 12 (by omega)
                rw [hd] at hdb
                have E3 := Lib.hid (show R.data.toList = s.data.toList.drop 13 from by rw [← xR]; exact Lib.extract_to_end _ _)
                have S3 := Lib.hid (show R.size ≤ maxLen from by rw [← xR]; simp; unfold maxLen; omega)
                by_cases hd32 : (d.toNat : Int) = 32
                · have td : ((s[12].toNat : Int) != 32) = false := by rw [hd, hd32]; rfl
                  have c5 : (s.data.toList[12]? == some 32) = true := by rw [hdb, byte_is hd32]; rfl
                  have C5 := Lib.hid c5
                  clear hd32 hd hdb c5
                  cases hrs : isRsn (s.data.toList.drop 13) with
                  | false =>
                    have HE := Lib.hid (HF.out w (by unfold stRef; rw [C1.out, C2.out, C3.out, C4.out, C5.out, hl, hrs]; rfl) ⟨0, rfl⟩)
                    have HRs := Lib.hid hrs
                    clear HF hrs hl
                    go_enter Tryd.func10, Tryd.ntmps10
                    go_wp2_with fail
                    refine (HVer.out _).mono ?_
                    rintro e w' ⟨rfl, rfl⟩
                    go_wp2_with fail
                    refine (Num.refNumber_any _ 1000 _ S2.out (by omega) (by omega)).mono ?_
                    rintro e w' ⟨rfl, rfl⟩
                    rw [← HN.out]
                    go_wp2_with fail
                    refine (refReason_any _ _ S3.out).mono ?_
                    rintro e w' ⟨rfl, rfl⟩
                    rw [E3.out, HRs.out]
                    go_wp2_with fail
                    exact bodyPost_ret (v := .tuple #[.int .i64 0, .int .i64 0, .string ⟨#[]⟩, .int .i64 30]) (by simp [results, Tryd.results10, go_sem]) rfl HE.out
                  | true =>
                    have HP := Lib.hid (st_parts (l := s.data.toList) (by unfold stRef; rw [C1.out, C2.out, C3.out, C4.out, C5.out, hl, hrs]; rfl))
                    have HV := Lib.hid (show stVal s = .tuple #[.int .i64 M, .int .i64 N1, .string R, .int .i64 0] from by
                      obtain ⟨p1, p2, p3, p4⟩ := HP.out
                      unfold stVal; rw [if_neg hs, if_pos p1, p2, p3, p4, HCo.out, ← HM.out, ← xR, cut_tail])
                    have HRs := Lib.hid hrs
                    clear HF hrs hl
                    go_enter Tryd.func10, Tryd.ntmps10
                    go_wp2_with fail
                    refine (HVer.out _).mono ?_
                    rintro e w' ⟨rfl, rfl⟩
                    go_wp2_with fail
                    refine (Num.refNumber_any _ 1000 _ S2.out (by omega) (by omega)).mono ?_
                    rintro e w' ⟨rfl, rfl⟩
                    rw [← HN.out]
                    go_wp2_with fail
                    refine (refReason_any _ _ S3.out).mono ?_
                    rintro e w' ⟨rfl, rfl⟩
                    rw [E3.out, HRs.out]
                    go_wp2_with fail
                    go_quiet ((go_at_call 25; exact Calls.quiet_of_same (HVer.out _)))
                    go_wp2_with fail
                    exact bodyPost_ret (v := .tuple #[.int .i64 M, .int .i64 N1, .string R, .int .i64 0]) (by simp [results, Tryd.results10, go_sem]) rfl ⟨by rw [HV.out], _, rfl⟩
                · have td : ((s[12].toNat : Int) != 32) = true := by rw [hd, bne_iff_ne]; exact hd32
                  have c5 : (s.data.toList[12]? == some 32) = false := by
                    rw [hdb, beq_eq_false_iff_ne]; intro e; exact hd32 (is_byte (Option.some.inj e))
                  have HE := Lib.hid (HF.out w (by unfold stRef; rw [C1.out, C2.out, C3.out, C4.out, c5, hl]; rfl) ⟨0, rfl⟩)
                  clear HF hd32 hd hdb c5 hl
                  go_enter Tryd.func10, Tryd.ntmps10
                  go_wp2_with fail
                  refine (HVer.out _).mono ?_
                  rintro e w' ⟨rfl, rfl⟩
                  go_wp2_with fail
                  refine (Num.refNumber_any _ 1000 _ S2.out (by omega) (by omega)).mono ?_
                  rintro e w' ⟨rfl, rfl⟩
                  rw [← HN.out]
                  go_wp2_with fail
                  exact bodyPost_ret (v := .tuple #[.int .i64 0, .int .i64 0, .string ⟨#[]⟩, .int .i64 30]) (by simp [results, Tryd.results10, go_sem]) rfl HE.out
            · have HE := Lib.hid (HF.out w (by unfold stRef; rw [C1.out, C2.out, C3.out, HCo.out, show isCod N1 = false from by cases hb : isCod N1 with | false => rfl | true => simp [isCod] at hb; exact absurd hb hr]; rfl) ⟨0, rfl⟩)
              have hr' : N1 < 100 ∨ (100 ≤ N1 ∧ 599 < N1) := by omega
              clear HF hcb hr
              rcases hr' with hr' | ⟨hr', hr''⟩
              all_goals
                go_enter Tryd.func10, Tryd.ntmps10
                go_wp2_with fail
                refine (HVer.out _).mono ?_
                rintro e w' ⟨rfl, rfl⟩
                go_wp2_with fail
                refine (Num.refNumber_any _ 1000 _ S2.out (by omega) (by omega)).mono ?_
                rintro e w' ⟨rfl, rfl⟩
                rw [← HN.out]
                go_wp2_with fail
                exact bodyPost_ret (v := .tuple #[.int .i64 0, .int .i64 0, .string ⟨#[]⟩, .int .i64 30]) (by simp [results, Tryd.results10, go_sem]) rfl HE.out
        · have t0 : ((s[8].toNat : Int) != 32) = true := by rw [hc, bne_iff_ne]; exact h32
          have HE := Lib.hid (HF.out w (by unfold stRef; rw [c1, c2, show (s.data.toList[8]? == some 32) = false from by rw [hb, beq_eq_false_iff_ne]; intro e; exact h32 (is_byte (Option.some.inj e))]; rfl) ⟨0, rfl⟩)
          clear HF h32 hc hb c1 c2
          go_enter Tryd.func10, Tryd.ntmps10
          go_wp2_with fail
          refine (HVer.out _).mono ?_
          rintro e w' ⟨rfl, rfl⟩
          go_wp2_with fail
          exact bodyPost_ret (v := .tuple #[.int .i64 0, .int .i64 0, .string ⟨#[]⟩, .int .i64 30]) (by simp [results, Tryd.results10, go_sem]) rfl HE.out
      · have hlt : M < 0 := by omega
        have HE := Lib.hid (HF.out w (by unfold stRef; rw [c1, isMin_minor, ← hM, show decide (0 ≤ M) = false from by simpa using hm0]; rfl) ⟨0, rfl⟩)
        clear HF hM hm0 c1 hver
        go_enter Tryd.func10, Tryd.ntmps10
        go_wp2_with fail
        refine (HVer.out _).mono ?_
        rintro e w' ⟨rfl, rfl⟩
        go_wp2_with fail
        exact bodyPost_ret (v := .tuple #[.int .i64 0, .int .i64 0, .string ⟨#[]⟩, .int .i64 30]) (by simp [results, Tryd.results10, go_sem]) rfl HE.out
end Go.Proofs.YtldlhnppinodbaaDoor.Ln
