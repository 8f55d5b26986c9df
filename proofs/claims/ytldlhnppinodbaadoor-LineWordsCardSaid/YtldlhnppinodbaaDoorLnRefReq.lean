/-
  The reference's Request: what it returns. Condition: none beyond the lengths that a string can have.
-/
import Derived.Test.YtldlhnppinodbaaDoorLnRefMath
import Derived.Test.YtldlhnppinodbaaDoorLnVal
import Derived.Test.YtldlhnppinodbaaDoorLnParts
import Derived.Test.YtldlhnppinodbaaDoorLnIs
import Derived.Deep.QuietTactic
import Derived.BigQuiet
namespace Go.Proofs.YtldlhnppinodbaaDoor.Ln
open Go.RowKit Go.Proofs.YtldlhnppinodbaaDoor.Tk

theorem cut_mid (s : ByteArray) (i k : Nat) (w : World) (h : i < k) (hk : k ≤ s.size) :
    (Instr.slice 9 (.string s) (some (.int .i64 ((i : Int) + 1))) (some (.int .i64 (k : Int))) none).run Tryd.prog w = .ok (.string (s.extract (i + 1) k)) w := by
  have e : ((i : Int) + 1).toNat = i + 1 := by omega
  have := run_slice_string (P := Tryd.prog) w 9 s .i64 .i64 ((i : Int) + 1) (k : Int) Tryd.underlying9 (by omega) (by omega) (by omega)
  rw [e, Int.toNat_natCast] at this
  exact this
def RefPost (v : Value) (w : World) (e : Ending) (w' : World) : Prop := e = .returned v ∧ ∃ n, w' = w.drewN n

set_option maxHeartbeats 4000000 in
theorem refRequest_any (s : ByteArray) (w : World) :
    Calls Tryd.prog 8 #[.string s] w (RefPost (reqVal s) w) := by
  by_cases hs : 1024 < s.size
  · have HV := Lib.hid (show reqVal s = .tuple #[.string ⟨#[]⟩, .string ⟨#[]⟩, .int .i64 0, .int .i64 3] from by unfold reqVal; rw [if_pos hs])
    go_enter Tryd.func8, Tryd.ntmps8
    go_wp2_with fail
    refine bodyPost_ret (v := .tuple #[.string ⟨#[]⟩, .string ⟨#[]⟩, .int .i64 0, .int .i64 3]) (by simp [results, Tryd.results8, go_sem]) rfl ⟨by rw [HV.out], 0, rfl⟩
  · have HF := Lib.hid (fun (h : reqOk s.data.toList = false) => show reqVal s = .tuple #[.string ⟨#[]⟩, .string ⟨#[]⟩, .int .i64 0, .int .i64 30] from by unfold reqVal; rw [if_neg hs, if_neg (by rw [h]; simp)])
    have HY := Lib.hid (fun (i k : Nat) (h : Hit s.data.toList i k) => show reqVal s = .tuple #[.string (s.extract 0 i), .string (s.extract (i + 1) k), .int .i64 (minorOf (s.data.toList.drop (k + 1))), .int .i64 0] from by
      obtain ⟨p1, p2, p3, p4⟩ := hit_parts h
      unfold reqVal; rw [if_neg hs, if_pos p1, p2, p3, p4, cut_head, cut_text])
    go_enter Tryd.func8, Tryd.ntmps8
    go_wp2_with fail
    go_loop [6, 7] (fun i _ => ∃ k : Nat, k ≤ s.size ∧ i = .int .i64 (k : Int) ∧ NoHit s.data.toList k 0) (fun i _ => s.size - (intOf i).toNat)
    case atStart => exact ⟨0, Nat.zero_le _, rfl, NoHit.start _⟩
    case round =>
      obtain ⟨i, hi, rfl, hno⟩ := hrel
      have HN := Lib.hid hno
      clear hno
      by_cases hlt : i < s.size
      · obtain ⟨c, hc⟩ : ∃ c, s[i] = c := ⟨_, rfl⟩
        have HC := Lib.hid hc
        by_cases h32 : (c.toNat : Int) = 32
        · have t0 : ((s[i].toNat : Int) != 32) = false := by rw [hc, h32]; rfl
          have H32 := Lib.hid (show s.data.toList[i]? = some 32 from by rw [byte_at s i hlt, hc, byte_is h32])
          have HE := Lib.hid HN.out.enter
          clear h32 hc
          go_wp2_with fail
          go_loop [7] (fun k => ∃ m : Nat, i < m ∧ m ≤ s.size ∧ k = .int .i64 (m : Int) ∧ NoHit s.data.toList i m) (fun k => s.size - (intOf k).toNat)
          case atStart => exact ⟨i + 1, by omega, by omega, by go_num, HE.out⟩
          case round =>
            obtain ⟨k, hik, hk, rfl, hno⟩ := hrel
            have HK := Lib.hid hno
            clear hno
            by_cases hkt : k < s.size
            · obtain ⟨d, hd⟩ : ∃ d, s[k] = d := ⟨_, rfl⟩
              by_cases hk32 : (d.toNat : Int) = 32
              · have t1 : ((s[k].toNat : Int) == 32) = true := by rw [hd, hk32]; rfl
                have HK32 := Lib.hid (show s.data.toList[k]? = some 32 from by rw [byte_at s k hkt, hd, byte_is hk32])
                have E1 := Lib.hid (show (s.extract 0 i).data.toList = s.data.toList.take i from by rw [Lib.extract_data]; rfl)
                have E2 := Lib.hid (show (s.extract (i + 1) k).data.toList = (s.data.toList.drop (i + 1)).take (k - (i + 1)) from Lib.extract_data _ _ _)
                have E3 := Lib.hid (show (s.extract (k + 1) s.size).data.toList = s.data.toList.drop (k + 1) from Lib.extract_to_end _ _)
                have S1 := Lib.hid (show (s.extract 0 i).size ≤ maxLen from by simp; unfold maxLen; omega)
                have S2 := Lib.hid (show (s.extract (i + 1) k).size ≤ maxLen from by simp; unfold maxLen; omega)
                clear hk32 hd
                have r2 := fun W => cut_mid s i k W hik (by omega)
                cases b1 : isTok (s.data.toList.take i) with
                | false =>
                  have B1 := Lib.hid b1
                  have HX := Lib.hid (HK.out.next (fun hh => by rw [hh.2.2.2.2.1] at b1; exact absurd b1 (by decide)))
                  clear b1
                  go_wp2_with (go_at_call 23; refine (refIs_any _ _ S1.out).mono ?_; rintro e w' ⟨rfl, rfl⟩; rw [E1.out, B1.out])
                  go_round
                  case rel => exact ⟨k + 1, by omega, by omega, by go_num, HX.out⟩
                  case measure => simp [intOf]; omega
                | true =>
                  have B1 := Lib.hid b1
                  clear b1
                  cases b2 : isTgt ((s.data.toList.drop (i + 1)).take (k - (i + 1))) with
                  | false =>
                    have B2 := Lib.hid b2
                    have HX := Lib.hid (HK.out.next (fun hh => by rw [hh.2.2.2.2.2.1] at b2; exact absurd b2 (by decide)))
                    clear b2
                    go_wp2_with fail
                    refine (refIs_any _ _ S1.out).mono ?_
                    rintro e w' ⟨rfl, rfl⟩
                    rw [E1.out, B1.out]
                    go_wp2_with fail
                    refine (refTarget_any _ _ S2.out).mono ?_
                    rintro e w' ⟨rfl, rfl⟩
                    rw [E2.out, B2.out]
                    go_wp2_with fail
                    go_round
                    case rel => exact ⟨k + 1, by omega, by omega, by go_num, HX.out⟩
                    case measure => simp [intOf]; omega
                  | true =>
                    have B2 := Lib.hid b2
                    clear b2
                    obtain ⟨M, hM⟩ : ∃ M : Int, M = minorOf (s.data.toList.drop (k + 1)) := ⟨_, rfl⟩
                    have HM := Lib.hid hM
                    have hbd := minor_bd (s.data.toList.drop (k + 1))
                    rw [← hM] at hbd
                    by_cases h0 : 0 ≤ M
                    · have HH : Hit s.data.toList i k := ⟨hik, by simpa using hkt, H32.out, HK32.out, B1.out, B2.out, by rw [isMin_minor, ← hM]; simpa using h0⟩
                      have HV := Lib.hid (HY.out i k HH)
                      have hver := fun W => (refVersion_any (s.extract (k + 1) s.size) W).mono (R' := fun e w' => e = .returned (.int .i64 M) ∧ w' = W) fun e w' ⟨he, hw⟩ => ⟨by rw [he, E3.out, hM], hw.symm⟩
                      clear hM HH
                      go_wp2_with fail
                      refine (refIs_any _ _ S1.out).mono ?_
                      rintro e w' ⟨rfl, rfl⟩
                      rw [E1.out, B1.out]
                      go_wp2_with fail
                      refine (refTarget_any _ _ S2.out).mono ?_
                      rintro e w' ⟨rfl, rfl⟩
                      rw [E2.out, B2.out]
                      go_wp2_with fail
                      refine (hver _).mono ?_
                      rintro e w' ⟨rfl, rfl⟩
                      go_wp2_with fail
                      go_quiet ((go_at_call 25; exact Calls.quiet_of_same (hver _)))
                      go_wp2_with fail
                      refine bodyPost_ret (v := .tuple #[.string (s.extract 0 i), .string (s.extract (i + 1) k), .int .i64 M, .int .i64 0]) (by simp [results, Tryd.results8, go_sem]) rfl ⟨by rw [HV.out, HM.out], _, rfl⟩
                    · have hM1 : M = -1 := by omega
                      have HX := Lib.hid (HK.out.next (fun hh => by have h7 := hh.2.2.2.2.2.2; rw [isMin_minor, ← hM] at h7; simp at h7; omega))
                      clear hM hM1
                      go_wp2_with fail
                      refine (refIs_any _ _ S1.out).mono ?_
                      rintro e w' ⟨rfl, rfl⟩
                      rw [E1.out, B1.out]
                      go_wp2_with fail
                      refine (refTarget_any _ _ S2.out).mono ?_
                      rintro e w' ⟨rfl, rfl⟩
                      rw [E2.out, B2.out]
                      go_wp2_with fail
                      refine (refVersion_any _ _).mono ?_
                      rintro e w' ⟨rfl, rfl⟩
                      rw [E3.out, ← HM.out]
                      go_wp2_with fail
                      go_round
                      case rel => exact ⟨k + 1, by omega, by omega, by go_num, HX.out⟩
                      case measure => simp [intOf]; omega
              · have t1 : ((s[k].toNat : Int) == 32) = false := by rw [hd, beq_eq_false_iff_ne]; exact hk32
                have HX := Lib.hid (HK.out.next (fun hh => by have h4 := hh.2.2.2.1; rw [byte_at s k hkt, hd] at h4; exact hk32 (is_byte (Option.some.inj h4))))
                clear hk32 hd
                go_wp2_with fail
                go_round
                case rel => exact ⟨k + 1, by omega, by omega, by go_num, HX.out⟩
                case measure => simp [intOf]; omega
            · obtain rfl : k = s.size := by omega
              have HL := Lib.hid (NoHit.leave (l := s.data.toList) (i := i) (by simpa using HK.out))
              go_wp2_with fail
              go_round
              case rel => exact ⟨i + 1, by omega, by go_num, HL.out⟩
              case measure => simp [intOf]; omega
        · have t0 : ((s[i].toNat : Int) != 32) = true := by rw [hc, bne_iff_ne]; exact h32
          have HS := Lib.hid (HN.out.skip (by rw [byte_at s i hlt, hc]; intro e; exact h32 (is_byte (Option.some.inj e))))
          clear h32 hc
          go_wp2_with fail
          go_round
          case rel => exact ⟨i + 1, by omega, by go_num, HS.out⟩
          case measure => simp [intOf]; omega
      · obtain rfl : i = s.size := by omega
        have HFF := Lib.hid (HF.out (NoHit.all (by simpa using HN.out)))
        go_wp2_with fail
        refine bodyPost_ret (v := .tuple #[.string ⟨#[]⟩, .string ⟨#[]⟩, .int .i64 0, .int .i64 30]) (by simp [results, Tryd.results8, go_sem]) rfl ⟨by rw [HFF.out], 0, rfl⟩
end Go.Proofs.YtldlhnppinodbaaDoor.Ln
