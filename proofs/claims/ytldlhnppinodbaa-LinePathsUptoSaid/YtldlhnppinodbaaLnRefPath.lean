/-
  The reference's Path: what it returns. Condition: at most 2^21 bytes.
-/
import Derived.Test.YtldlhnppinodbaaLnPath
import Derived.Test.YtldlhnppinodbaaTokRefLow
namespace Go.Proofs.Ytldlhnppinodbaa.Ln
open Go.RowKit Go.Proofs.Ytldlhnppinodbaa.Tk

theorem scheme_full {l : Bs} (h : lower (l.take 7) = scheme) : 7 ≤ l.length := by
  have h1 := congrArg List.length h
  rw [lower_length, List.length_take] at h1
  have h2 : scheme.length = 7 := rfl
  omega
theorem host_of_end {s : ByteArray} {k : Nat} (h7 : 7 < k) (hk : hostEnd (s.data.toList.drop 7) = k - 7) :
    hostParts (s.data.toList.drop 7) = some (pathOf (s.data.toList.drop k), (s.data.toList.drop 7).take (k - 7)) := by
  unfold hostParts
  rw [hk, if_neg (by omega), List.drop_drop, show 7 + (k - 7) = k from by omega]
theorem bytes_ne {l m : Bs} (h : l ≠ m) : (l != m) = true := by rw [bne_iff_ne]; exact h
/-- No byte from the seventh on, ahead of a place, ends the host. -/
def Free (s : ByteArray) (k : Nat) : Prop := ∀ j (h : j < s.size), 7 ≤ j → j < k → stop s[j] = false
theorem Free.start (s : ByteArray) : Free s 7 := fun _ _ _ _ => by omega
theorem Free.next {s : ByteArray} {k : Nat} (h : Free s k) (hk : k < s.size) (hn : stop s[k] = false) : Free s (k + 1) := by
  intro j hj h7 hjk
  by_cases e : j = k
  · subst e; exact hn
  · exact h j hj h7 (by omega)
theorem Free.ends {s : ByteArray} {k : Nat} (h : Free s k) (h7 : 7 ≤ k) (hk : k ≤ s.size) (hs : ∀ h : k < s.size, stop s[k] = true) : hostEnd (s.data.toList.drop 7) = k - 7 := by
  have hl : s.data.toList.length = s.size := by simp
  refine hostEnd_eq _ _ (by rw [List.length_drop, hl]; omega) ?_ ?_
  · intro j hj
    rw [List.getElem_drop]
    exact h (7 + j) (by omega) (by omega) (by omega)
  · intro hlt
    rw [List.length_drop, hl] at hlt
    rw [List.getElem_drop]
    have h2 := hs (by omega)
    simp only [show 7 + (k - 7) = k from by omega]
    exact h2

/-- What the reference tells behind the scheme, by the end of the host. -/
theorem ref_none {s : ByteArray} (hk : hostEnd (s.data.toList.drop 7) = 0) : hostParts (s.data.toList.drop 7) = none := by unfold hostParts; rw [if_pos hk]

set_option maxHeartbeats 4000000 in
theorem refPath_host (s : ByteArray) (w : World) (hs : s.size ≤ 2097152) (ht : isTgt s.data.toList = true) (h0 : 0 < s.size) (t0 : ((s[0].toNat : Int) == 47) = false) (t1 : (s.toList == [42]) = false) (h8 : 8 ≤ s.size)
    (hsc : lower (s.data.toList.take 7) = scheme) :
    Calls Try.prog 5 #[.string s] w fun e w' => e = .returned (ansVal (hostParts (s.data.toList.drop 7))) ∧ Below w.heap.size w w' := by
  have HM := Lib.hid (show s.size ≤ maxLen from by unfold maxLen; omega)
  have HT := Lib.hid ht
  obtain ⟨X, xX⟩ : ∃ X, s.extract 0 7 = X := ⟨_, rfl⟩
  have EX := Lib.hid (show (⟨(lower X.data.toList).toArray⟩ : ByteArray) = ⟨#[104, 116, 116, 112, 58, 47, 47]⟩ from by rw [← xX, Lib.extract_data]; show (⟨(lower (s.data.toList.take 7)).toArray⟩ : ByteArray) = _; rw [hsc]; rfl)
  have SX := Lib.hid (show X.size ≤ maxLen from by rw [← xX]; simp; unfold maxLen; omega)
  clear ht hsc
  go_enter Try.func5, Try.ntmps5
  go_wp2_with fail
  refine (refTarget_any s _ HM.out).mono ?_
  rintro e w' ⟨rfl, rfl⟩
  rw [HT.out]
  go_wp2_with fail
  refine (refLower_any X _ SX.out).mono ?_
  rintro e w1 ⟨rfl, hb1⟩
  rw [EX.out]
  go_wp2_with fail
  go_loop [5] (fun i => ∃ k : Nat, 7 ≤ k ∧ k ≤ s.size ∧ i = .int .i64 (k : Int) ∧ Free s k) (fun i => s.size - (intOf i).toNat)
  case atStart => exact ⟨7, by omega, by omega, rfl, Free.start s⟩
  case round =>
    obtain ⟨k, h7, hk, rfl, hf⟩ := hrel
    have HF := Lib.hid hf
    clear hf
    have hend : ∀ (hs : ∀ h : k < s.size, stop s[k] = true), hostEnd (s.data.toList.drop 7) = k - 7 := fun hs => HF.out.ends h7 hk hs
    have HEnd := Lib.hid hend
    clear hend
    by_cases hlt : k < s.size
    · obtain ⟨c, hc⟩ : ∃ c, s[k] = c := ⟨_, rfl⟩
      cases hst : stop c with
      | false =>
        have n1 := (stop_no hst).1
        have n2 := (stop_no hst).2
        have t2 : ((s[k].toNat : Int) != 47) = true := by rw [hc, bne_iff_ne]; exact n1
        have t3 : ((s[k].toNat : Int) != 63) = true := by rw [hc, bne_iff_ne]; exact n2
        have HN := Lib.hid (HF.out.next hlt (by rw [hc]; exact hst))
        clear n1 n2 hst hc
        go_wp2_with fail
        go_round
        case rel => exact ⟨k + 1, by omega, by omega, by go_num, HN.out⟩
        case measure => simp [intOf]; omega
      | true =>
        have HE := Lib.hid (HEnd.out (fun _ => by rw [hc]; exact hst))
        by_cases hk7 : k = 7
        · have HV := Lib.hid (ref_none (s := s) (by rw [HE.out, hk7]))
          have t4 : ((k : Int) == 7) = true := by rw [hk7]; rfl
          rcases stop_yes hst with h47 | ⟨h47, h63⟩
          · have t2 : ((s[k].toNat : Int) != 47) = false := by rw [hc, h47]; rfl
            clear hst hc h47 hk7
            go_wp2_with fail
            exact bodyPost_ret (v := .tuple #[.string ⟨#[]⟩, .string ⟨#[]⟩, .bool false]) (by simp [results, Try.results5, go_sem]) rfl ⟨by rw [HV.out]; rfl, hb1⟩
          · have t2 : ((s[k].toNat : Int) != 47) = true := by rw [hc, bne_iff_ne]; exact h47
            have t3 : ((s[k].toNat : Int) != 63) = false := by rw [hc, h63]; rfl
            clear hst hc h47 h63 hk7
            go_wp2_with fail
            exact bodyPost_ret (v := .tuple #[.string ⟨#[]⟩, .string ⟨#[]⟩, .bool false]) (by simp [results, Try.results5, go_sem]) rfl ⟨by rw [HV.out]; rfl, hb1⟩
        · have t4 : ((k : Int) == 7) = false := by rw [beq_eq_false_iff_ne]; omega
          have h7' : 7 < k := by omega
          have HP := Lib.hid (host_of_end h7' HE.out)
          obtain ⟨P, xP⟩ : ∃ P, s.extract k s.size = P := ⟨_, rfl⟩
          obtain ⟨Y, xY⟩ : ∃ Y, s.extract 7 k = Y := ⟨_, rfl⟩
          have EP := Lib.hid (show P.data.toList = s.data.toList.drop k from by rw [← xP]; exact Lib.extract_to_end _ _)
          have EY := Lib.hid (show Y.data.toList = (s.data.toList.drop 7).take (k - 7) from by rw [← xY]; exact Lib.extract_data _ _ _)
          have sP : 0 < P.size := by rw [← xP]; simp; omega
          have sP2 : P.size ≤ 2097152 := by rw [← xP]; simp; omega
          have p0 : P[0] = c := by
            have h1 := head_at sP
            rw [EP.out, List.head?_drop, List.getElem?_eq_getElem (by simpa using hlt)] at h1
            injection h1 with h1
            rw [← hc, ← h1]; rfl
          have eP : P.toList.isEmpty = false := text_full sP
          rcases stop_yes hst with h47 | ⟨h47, h63⟩
          · have t2 : ((s[k].toNat : Int) != 47) = false := by rw [hc, h47]; rfl
            have t5 : ((P[0].toNat : Int) != 47) = false := by rw [p0, h47]; rfl
            have HV := Lib.hid (show ansVal (hostParts (s.data.toList.drop 7)) = .tuple #[.string P, .string Y, .bool true] from by
              rw [HP.out, ← EP.out, ← EY.out]
              unfold pathOf
              rw [if_pos (is_head sP (by rw [p0]; exact h47))]
              show Value.tuple #[.string ⟨P.data.toList.toArray⟩, .string ⟨Y.data.toList.toArray⟩, .bool true] = _
              rw [bytes_mk, bytes_mk])
            clear hst hc h47 hk7 p0
            go_wp2_with fail
            go_quiet (fail)
            go_wp2_with fail
            exact bodyPost_ret (v := .tuple #[.string P, .string Y, .bool true]) (by simp [results, Try.results5, go_sem]) rfl ⟨by rw [HV.out], below_drew hb1 _⟩
          · have t2 : ((s[k].toNat : Int) != 47) = true := by rw [hc, bne_iff_ne]; exact h47
            have t3 : ((s[k].toNat : Int) != 63) = false := by rw [hc, h63]; rfl
            have t5 : ((P[0].toNat : Int) != 47) = true := by rw [p0, bne_iff_ne]; exact h47
            have HV := Lib.hid (show ansVal (hostParts (s.data.toList.drop 7)) = .tuple #[.string (⟨#[47]⟩ ++ P), .string Y, .bool true] from by
              rw [HP.out, ← EP.out, ← EY.out]
              unfold pathOf
              rw [if_neg (not_head sP (by rw [p0]; exact h47))]
              show Value.tuple #[.string ⟨(47 :: P.data.toList).toArray⟩, .string ⟨Y.data.toList.toArray⟩, .bool true] = _
              rw [← slash_text P _ rfl, bytes_mk])
            clear hst hc h47 h63 hk7 p0
            go_wp2_with fail
            go_quiet (fail)
            go_wp2_with fail
            exact bodyPost_ret (v := .tuple #[.string (⟨#[47]⟩ ++ P), .string Y, .bool true]) (by simp [results, Try.results5, go_sem]) rfl ⟨by rw [HV.out], below_drew hb1 _⟩
    · obtain rfl : k = s.size := by omega
      have HE := Lib.hid (HEnd.out (fun h => absurd h hlt))
      have t4 : ((s.size : Int) == 7) = false := by rw [beq_eq_false_iff_ne]; omega
      have HP := Lib.hid (host_of_end (s := s) (k := s.size) (by omega) HE.out)
      obtain ⟨Y, xY⟩ : ∃ Y, s.extract 7 s.size = Y := ⟨_, rfl⟩
      have EY := Lib.hid (show Y.data.toList = (s.data.toList.drop 7).take (s.size - 7) from by rw [← xY]; exact Lib.extract_data _ _ _)
      have HV := Lib.hid (show ansVal (hostParts (s.data.toList.drop 7)) = .tuple #[.string ⟨#[47]⟩, .string Y, .bool true] from by
        rw [HP.out, ← EY.out, List.drop_eq_nil_of_le (by simp)]
        show Value.tuple #[.string ⟨#[47]⟩, .string ⟨Y.data.toList.toArray⟩, .bool true] = _
        rw [bytes_mk])
      clear hlt
      go_wp2_with fail
      go_quiet (fail)
      go_wp2_with fail
      exact bodyPost_ret (v := .tuple #[.string ⟨#[47]⟩, .string Y, .bool true]) (by simp [results, Try.results5, go_sem]) rfl ⟨by rw [HV.out], below_drew hb1 _⟩
theorem lower_ne {s X : ByteArray} (hX : X.data.toList = s.data.toList.take 7) (h : ¬ lower (s.data.toList.take 7) = scheme) : ((⟨(lower X.data.toList).toArray⟩ : ByteArray).toList == [104, 116, 116, 112, 58, 47, 47]) = false := by
  rw [ByteArray.toList_eq, beq_eq_false_iff_ne, hX]
  intro e
  have e2 : lower (s.data.toList.take 7) = [104, 116, 116, 112, 58, 47, 47] := by simpa using e
  exact h e2

set_option maxHeartbeats 4000000 in
theorem refPath_any (s : ByteArray) (w : World) (hs : s.size ≤ 2097152) :
    Calls Try.prog 5 #[.string s] w fun e w' => e = .returned (ansVal (pathParts s.data.toList)) ∧ Below w.heap.size w w' := by
  have HM := Lib.hid (show s.size ≤ maxLen from by unfold maxLen; omega)
  cases ht : isTgt s.data.toList with
  | false =>
    have HP := Lib.hid (part_no ht)
    have HT := Lib.hid ht
    clear ht
    go_enter Try.func5, Try.ntmps5
    go_wp2_with fail
    refine (refTarget_any s _ HM.out).mono ?_
    rintro e w' ⟨rfl, rfl⟩
    rw [HT.out]
    go_wp2_with fail
    exact bodyPost_ret (v := .tuple #[.string ⟨#[]⟩, .string ⟨#[]⟩, .bool false]) (by simp [results, Try.results5, go_sem]) rfl ⟨by rw [HP.out]; rfl, Below.refl _ _⟩
  | true =>
    have hpos : 0 < s.size := by
      refine Decidable.byContradiction fun hn => ?_
      rw [isTgt_nil (by omega)] at ht; exact absurd ht (by decide)
    have HT := Lib.hid ht
    obtain ⟨c, hc⟩ : ∃ c, s[0] = c := ⟨_, rfl⟩
    by_cases h47 : (c.toNat : Int) = 47
    · have t0 : ((s[0].toNat : Int) == 47) = true := by rw [hc, h47]; rfl
      have HV := Lib.hid (ans_whole (part_slash ht (.inl (is_head hpos (by rw [hc]; exact h47)))))
      clear ht h47 hc
      go_enter Try.func5, Try.ntmps5
      go_wp2_with fail
      refine (refTarget_any s _ HM.out).mono ?_
      rintro e w' ⟨rfl, rfl⟩
      rw [HT.out]
      go_wp2_with fail
      exact bodyPost_ret (v := .tuple #[.string s, .string ⟨#[]⟩, .bool true]) (by simp [results, Try.results5, go_sem]) rfl ⟨by rw [HV.out], Below.refl _ _⟩
    · have t0 : ((s[0].toNat : Int) == 47) = false := by rw [hc, beq_eq_false_iff_ne]; exact h47
      have hn := not_head hpos (by rw [hc]; exact h47)
      clear h47 hc
      by_cases hst : s.data.toList = [42]
      · have t1 := star_text hst
        have HV := Lib.hid (ans_whole (part_slash ht (.inr hst)))
        clear ht hst hn
        go_enter Try.func5, Try.ntmps5
        go_wp2_with fail
        refine (refTarget_any s _ HM.out).mono ?_
        rintro e w' ⟨rfl, rfl⟩
        rw [HT.out]
        go_wp2_with fail
        exact bodyPost_ret (v := .tuple #[.string s, .string ⟨#[]⟩, .bool true]) (by simp [results, Try.results5, go_sem]) rfl ⟨by rw [HV.out], Below.refl _ _⟩
      · have t1 := no_star hst
        by_cases h8 : s.size < 8
        · have HP := Lib.hid (show pathParts s.data.toList = none from by
            by_cases hsc : lower (s.data.toList.take 7) = scheme
            · rw [part_host ht hn hst hsc, List.drop_eq_nil_of_le (by simp; omega)]; rfl
            · exact part_other ht hn hst hsc)
          clear ht hst hn
          go_enter Try.func5, Try.ntmps5
          go_wp2_with fail
          refine (refTarget_any s _ HM.out).mono ?_
          rintro e w' ⟨rfl, rfl⟩
          rw [HT.out]
          go_wp2_with fail
          exact bodyPost_ret (v := .tuple #[.string ⟨#[]⟩, .string ⟨#[]⟩, .bool false]) (by simp [results, Try.results5, go_sem]) rfl ⟨by rw [HP.out]; rfl, Below.refl _ _⟩
        · by_cases hsc : lower (s.data.toList.take 7) = scheme
          · rw [part_host ht hn hst hsc]
            exact refPath_host s w hs ht hpos t0 t1 (by omega) hsc
          · have HP := Lib.hid (part_other ht hn hst hsc)
            obtain ⟨X, xX⟩ : ∃ X, s.extract 0 7 = X := ⟨_, rfl⟩
            have EX : X.data.toList = s.data.toList.take 7 := by rw [← xX, Lib.extract_data]; rfl
            have SX := Lib.hid (show X.size ≤ maxLen from by rw [← xX]; simp; unfold maxLen; omega)
            obtain ⟨L, hL⟩ : ∃ L : ByteArray, L = ⟨(lower X.data.toList).toArray⟩ := ⟨_, rfl⟩
            have tL : (L.toList == [104, 116, 116, 112, 58, 47, 47]) = false := by rw [hL]; exact lower_ne EX hsc
            have HL := Lib.hid hL
            clear ht hst hn hsc EX hL
            go_enter Try.func5, Try.ntmps5
            go_wp2_with fail
            refine (refTarget_any s _ HM.out).mono ?_
            rintro e w' ⟨rfl, rfl⟩
            rw [HT.out]
            go_wp2_with fail
            refine (refLower_any X _ SX.out).mono ?_
            rintro e w1 ⟨rfl, hb1⟩
            rw [← HL.out]
            go_wp2_with fail
            exact bodyPost_ret (v := .tuple #[.string ⟨#[]⟩, .string ⟨#[]⟩, .bool false]) (by simp [results, Try.results5, go_sem]) rfl ⟨by rw [HP.out]; rfl, hb1⟩
end Go.Proofs.Ytldlhnppinodbaa.Ln
