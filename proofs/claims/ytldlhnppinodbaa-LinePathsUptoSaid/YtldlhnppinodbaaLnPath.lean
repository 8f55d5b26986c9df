/-
  line.Path: what it returns. Condition: at most 2^21 bytes.
-/
import Derived.Test.YtldlhnppinodbaaLnHost
namespace Go.Proofs.Ytldlhnppinodbaa.Ln
open Go.RowKit Go.Proofs.Ytldlhnppinodbaa.Tk

theorem not_head {s : ByteArray} (h : 0 < s.size) (hn : ¬ (s[0].toNat : Int) = 47) : ¬ s.data.toList.head? = some 47 := by
  rw [head_at h]; intro e; injection e with e; rw [e] at hn; exact hn rfl
theorem is_head {s : ByteArray} (h : 0 < s.size) (hy : (s[0].toNat : Int) = 47) : s.data.toList.head? = some 47 := by
  rw [head_at h, byte_eq (d := 47) hy]
theorem part_no {s : ByteArray} (h : isTgt s.data.toList = false) : pathParts s.data.toList = none := by unfold pathParts; rw [if_pos h]
theorem part_slash {s : ByteArray} (h : isTgt s.data.toList = true) (h1 : s.data.toList.head? = some 47 ∨ s.data.toList = [42]) : pathParts s.data.toList = some (s.data.toList, []) := by unfold pathParts; rw [h, if_neg (by simp), if_pos h1]
theorem part_host {s : ByteArray} (h : isTgt s.data.toList = true) (h1 : ¬ s.data.toList.head? = some 47) (h2 : ¬ s.data.toList = [42]) (h3 : lower (s.data.toList.take 7) = scheme) : pathParts s.data.toList = hostParts (s.data.toList.drop 7) := by
  unfold pathParts; rw [h, if_neg (by simp), if_neg (by rintro (e | e); exact h1 e; exact h2 e), if_pos h3]
theorem part_other {s : ByteArray} (h : isTgt s.data.toList = true) (h1 : ¬ s.data.toList.head? = some 47) (h2 : ¬ s.data.toList = [42]) (h3 : ¬ lower (s.data.toList.take 7) = scheme) : pathParts s.data.toList = none := by
  unfold pathParts; rw [h, if_neg (by simp), if_neg (by rintro (e | e); exact h1 e; exact h2 e), if_neg h3]
theorem low_scheme : lower scheme = scheme := by decide
theorem take_short {s : ByteArray} (h : s.size < 7) : ¬ lower (s.data.toList.take 7) = scheme := by
  intro e
  have h1 := congrArg List.length e
  have hl : s.data.toList.length = s.size := by simp
  rw [lower_length, List.length_take, hl] at h1
  have h2 : scheme.length = 7 := rfl
  omega
theorem star_text {s : ByteArray} (h : s.data.toList = [42]) : (s.toList == [42]) = true := by rw [ByteArray.toList_eq, h]; rfl
theorem no_star {s : ByteArray} (h : ¬ s.data.toList = [42]) : (s.toList == [42]) = false := by rw [ByteArray.toList_eq, beq_eq_false_iff_ne]; exact h
theorem ans_whole {s : ByteArray} (h : pathParts s.data.toList = some (s.data.toList, [])) : ansVal (pathParts s.data.toList) = .tuple #[.string s, .string ⟨#[]⟩, .bool true] := by
  rw [h]
  show Value.tuple #[.string ⟨s.data.toList.toArray⟩, .string ⟨#[]⟩, .bool true] = _
  rw [bytes_mk]
theorem host_shape (l : Bs) : ∃ (A B : ByteArray) (b : Bool), ansVal (hostParts l) = .tuple #[.string A, .string B, .bool b] := by
  cases h : hostParts l with
  | none => exact ⟨_, _, _, rfl⟩
  | some p => obtain ⟨a, b⟩ := p; exact ⟨_, _, _, rfl⟩

set_option maxHeartbeats 4000000 in
theorem path_any (s : ByteArray) (w : World) (hs : s.size ≤ 2097152) :
    Calls Try.prog 4 #[.string s] w fun e w' => e = .returned (ansVal (pathParts s.data.toList)) ∧ Below w.heap.size w w' := by
  have HM := Lib.hid (show s.size ≤ maxLen from by unfold maxLen; omega)
  cases ht : isTgt s.data.toList with
  | false =>
    have HP := Lib.hid (part_no ht)
    have HT := Lib.hid ht
    clear ht
    go_enter Try.func4, Try.ntmps4
    go_wp2_with fail
    refine (isTarget_any s _ HM.out).mono ?_
    rintro e w' ⟨rfl, rfl⟩
    rw [HT.out]
    go_wp2_with fail
    exact bodyPost_ret (v := .tuple #[.string ⟨#[]⟩, .string ⟨#[]⟩, .bool false]) (by simp [results, Try.results4, go_sem]) rfl ⟨by rw [HP.out]; rfl, Below.refl _ _⟩
  | true =>
    have hpos : 0 < s.size := by
      refine Decidable.byContradiction fun hn => ?_
      rw [isTgt_nil (by omega)] at ht; exact absurd ht (by decide)
    have HT := Lib.hid ht
    have HAS := Lib.hid (tgt_ascii ht)
    obtain ⟨c, hc⟩ : ∃ c, s[0] = c := ⟨_, rfl⟩
    by_cases h47 : (c.toNat : Int) = 47
    · have t0 : ((s[0].toNat : Int) == 47) = true := by rw [hc, h47]; rfl
      have HV := Lib.hid (ans_whole (part_slash ht (.inl (is_head hpos (by rw [hc]; exact h47)))))
      clear ht h47 hc
      go_enter Try.func4, Try.ntmps4
      go_wp2_with fail
      refine (isTarget_any s _ HM.out).mono ?_
      rintro e w' ⟨rfl, rfl⟩
      rw [HT.out]
      go_wp2_with fail
      refine (clone_any s _ (by omega)).mono ?_
      rintro e w1 ⟨rfl, hb1⟩
      go_wp2_with fail
      exact bodyPost_ret (v := .tuple #[.string s, .string ⟨#[]⟩, .bool true]) (by simp [results, Try.results4, go_sem]) rfl ⟨by rw [HV.out], hb1⟩
    · have t0 : ((s[0].toNat : Int) == 47) = false := by rw [hc, beq_eq_false_iff_ne]; exact h47
      have hn := not_head hpos (by rw [hc]; exact h47)
      clear h47 hc
      by_cases hst : s.data.toList = [42]
      · have t1 := star_text hst
        have HV := Lib.hid (ans_whole (part_slash ht (.inr hst)))
        clear ht hst hn
        go_enter Try.func4, Try.ntmps4
        go_wp2_with fail
        refine (isTarget_any s _ HM.out).mono ?_
        rintro e w' ⟨rfl, rfl⟩
        rw [HT.out]
        go_wp2_with fail
        refine (clone_any s _ (by omega)).mono ?_
        rintro e w1 ⟨rfl, hb1⟩
        go_wp2_with fail
        exact bodyPost_ret (v := .tuple #[.string s, .string ⟨#[]⟩, .bool true]) (by simp [results, Try.results4, go_sem]) rfl ⟨by rw [HV.out], hb1⟩
      · have t1 := no_star hst
        by_cases h7 : s.size < 7
        · have HP := Lib.hid (part_other ht hn hst (take_short h7))
          clear ht hst hn
          go_enter Try.func4, Try.ntmps4
          go_wp2_with fail
          refine (isTarget_any s _ HM.out).mono ?_
          rintro e w' ⟨rfl, rfl⟩
          rw [HT.out]
          go_wp2_with fail
          exact bodyPost_ret (v := .tuple #[.string ⟨#[]⟩, .string ⟨#[]⟩, .bool false]) (by simp [results, Try.results4, go_sem]) rfl ⟨by rw [HP.out]; rfl, Below.refl _ _⟩
        · obtain ⟨X, xX⟩ : ∃ X, s.extract 0 7 = X := ⟨_, rfl⟩
          obtain ⟨Y, xY⟩ : ∃ Y, s.extract 7 s.size = Y := ⟨_, rfl⟩
          have EX := Lib.hid (show X.data.toList = s.data.toList.take 7 from by rw [← xX, Lib.extract_data]; rfl)
          have EY := Lib.hid (show Y.data.toList = s.data.toList.drop 7 from by rw [← xY]; exact Lib.extract_to_end _ _)
          have SX := Lib.hid (show X.size ≤ maxLen from by rw [← xX]; simp; unfold maxLen; omega)
          have SY := Lib.hid (show Y.size ≤ 2097152 from by rw [← xY]; simp; omega)
          have HSame := Lib.hid (show same X.data.toList (ByteArray.mk #[104, 116, 116, 112, 58, 47, 47]).data.toList = decide (lower (s.data.toList.take 7) = scheme) from by
            rw [EX.out]
            show (lower (s.data.toList.take 7) == lower scheme) = _
            rw [low_scheme]
            by_cases e : lower (s.data.toList.take 7) = scheme
            · rw [decide_eq_true e, beq_iff_eq]; exact e
            · rw [decide_eq_false e, beq_eq_false_iff_ne]; exact e)
          by_cases hsc : lower (s.data.toList.take 7) = scheme
          · have HP := Lib.hid (part_host ht hn hst hsc)
            have HD := Lib.hid (decide_eq_true hsc)
            obtain ⟨A, B, b, hv⟩ := host_shape (s.data.toList.drop 7)
            have HV := Lib.hid hv
            have HAY := Lib.hid (show ∀ c ∈ Y.data.toList, c.toNat < 128 from fun c hc => HAS.out c (by rw [EY.out] at hc; exact List.mem_of_mem_drop hc))
            clear ht hst hn hsc hv
            go_enter Try.func4, Try.ntmps4
            go_wp2_with fail
            refine (isTarget_any s _ HM.out).mono ?_
            rintro e w' ⟨rfl, rfl⟩
            rw [HT.out]
            go_wp2_with fail
            refine (same_any X _ _ SX.out).mono ?_
            rintro e w1 ⟨rfl, n1, hw1⟩
            have HW1 := Lib.hid hw1
            clear hw1
            rw [HSame.out, HD.out]
            go_wp2_with fail
            refine (host_any Y _ SY.out HAY.out).mono ?_
            rintro e w2 ⟨rfl, hb2⟩
            rw [EY.out, HV.out]
            go_wp2_with fail
            refine bodyPost_ret (v := .tuple #[.string A, .string B, .bool b]) (by simp [results, Try.results4, go_sem]) rfl ⟨by rw [HP.out, HV.out], ?_⟩
            have h1 := HW1.out
            subst h1
            exact (below_drew (Below.refl _ _) _).trans hb2
          · have HP := Lib.hid (part_other ht hn hst hsc)
            have HD := Lib.hid (decide_eq_false hsc)
            clear ht hst hn hsc
            go_enter Try.func4, Try.ntmps4
            go_wp2_with fail
            refine (isTarget_any s _ HM.out).mono ?_
            rintro e w' ⟨rfl, rfl⟩
            rw [HT.out]
            go_wp2_with fail
            refine (same_any X _ _ SX.out).mono ?_
            rintro e w1 ⟨rfl, n1, hw1⟩
            have HW1 := Lib.hid hw1
            clear hw1
            rw [HSame.out, HD.out]
            go_wp2_with fail
            refine bodyPost_ret (v := .tuple #[.string ⟨#[]⟩, .string ⟨#[]⟩, .bool false]) (by simp [results, Try.results4, go_sem]) rfl ⟨by rw [HP.out]; rfl, ?_⟩
            have h1 := HW1.out
            subst h1
            exact below_drew (Below.refl _ _) _
end Go.Proofs.Ytldlhnppinodbaa.Ln
