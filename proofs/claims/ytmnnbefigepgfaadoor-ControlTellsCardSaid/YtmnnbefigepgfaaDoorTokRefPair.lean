/-
  gatepostref01.Pair: what it returns. Condition: a text of at most 2^47 bytes.
-/
import Derived.Test.YtmnnbefigepgfaaDoorTokPair
import Derived.Test.YtmnnbefigepgfaaDoorTokRefUnquote
namespace Go.Proofs.YtmnnbefigepgfaaDoor.Tk
open Go.RowKit

theorem bne61 {c : UInt8} (h : c ≠ 61) : ((c.toNat : Int) != 61) = true := by
  rw [bne_iff_ne]; intro e; apply h; apply UInt8.toNat.inj; simpa using (by omega : c.toNat = 61)
theorem beq61 {c : UInt8} (h : c = 61) : ((c.toNat : Int) != 61) = false := by rw [h]; rfl

set_option maxHeartbeats 4000000 in
theorem refPair_any (s : ByteArray) (w : World) (hs : s.size ≤ 140737488351232) :
    Calls Tryd.prog 19 #[.string s] w fun e w' => e = .returned (pairVal s.data.toList) ∧ w = w' := by
  have HLEN := Lib.hid (show s.data.toList.length = s.size from by simp)
  go_enter Tryd.func19, Tryd.ntmps19
  go_wp2_with fail
  go_loop [6] (fun i => ∃ k : Nat, k ≤ s.size ∧ i = .int .i64 (k : Int) ∧ ∀ j (hj : j < s.data.toList.length), j < k → s.data.toList[j] ≠ 61) (fun i => s.size - (intOf i).toNat)
  case atStart => exact ⟨0, Nat.zero_le _, rfl, fun _ _ h => by omega⟩
  case round =>
    obtain ⟨k, hk, rfl, hall⟩ := hrel
    have HALL := Lib.hid hall
    clear hall
    by_cases hlt : k < s.size
    · by_cases h61 : s[k] = 61
      · have u1 := beq61 h61
        have hkeq : eqIdx s.data.toList = k := eqIdx_is _ k (by rw [HLEN.out]; exact hk) (fun j hj => HALL.out j _ hj) (fun _ => h61)
        have hkl : eqIdx s.data.toList ≠ s.data.toList.length := by rw [hkeq, HLEN.out]; omega
        obtain ⟨L, hL⟩ : ∃ L : ByteArray, L = s.extract 0 k := ⟨_, rfl⟩
        obtain ⟨R, hR⟩ : ∃ R : ByteArray, R = s.extract (k + 1) s.size := ⟨_, rfl⟩
        have hLd : L.data.toList = s.data.toList.take k := by rw [hL, left_data]
        have hRd : R.data.toList = s.data.toList.drop (k + 1) := by rw [hR, right_data]
        have hLs : L.size ≤ s.size := by rw [hL]; simp; omega
        have hRs : R.size ≤ s.size := by rw [hR]; simp
        have HLt := Lib.hid (show L = ⟨(s.data.toList.take k).toArray⟩ from by rw [hL, left_text])
        have HRt := Lib.hid (show R = ⟨(s.data.toList.drop (k + 1)).toArray⟩ from by rw [hR, right_text])
        have HLe := Lib.hid hL
        have HRe := Lib.hid hR
        have v1 : ((k : Int) == (s.size : Int)) = false := beq_eq_false_iff_ne.2 (by omega)
        have v2 : (k == s.size) = false := beq_eq_false_iff_ne.2 (by omega)
        cases h1 : isTok L.data.toList with
        | false =>
          have HV := Lib.hid (pair_noname (l := s.data.toList) (by rw [hkeq, ← hLd]; exact h1))
          have HI := Lib.hid h1
          clear h1 hkl hLd hRd hL hR hkeq h61
          go_wp2_with fail
          rw [← HLe.out]
          refine (refIs_any L _ (by unfold maxLen; omega)).mono ?_
          rintro e w' ⟨rfl, rfl⟩
          rw [HI.out]
          go_wp2_with fail
          refine bodyPost_ret (four_results rfl _ _ _) rfl ?_
          exact ⟨by rw [HV.out]; rfl, rfl⟩
        | true =>
          have hN : isTok (s.data.toList.take (eqIdx s.data.toList)) = true := by rw [hkeq, ← hLd]; exact h1
          have HI := Lib.hid h1
          cases h2 : isTok R.data.toList with
          | true =>
            have HV := Lib.hid (pair_tok hN hkl (by rw [hkeq, ← hRd]; exact h2))
            rw [hkeq, ← HLt.out, ← HRt.out] at HV
            have HI2 := Lib.hid h2
            clear h1 h2 hkl hLd hRd hL hR hkeq hN h61
            go_wp2_with fail
            rw [← HLe.out]
            refine (refIs_any L _ (by unfold maxLen; omega)).mono ?_
            rintro e w' ⟨rfl, rfl⟩
            rw [HI.out]
            go_wp2_with fail
            rw [← HRe.out]
            refine (refIs_any R _ (by unfold maxLen; omega)).mono ?_
            rintro e w' ⟨rfl, rfl⟩
            rw [HI2.out]
            go_wp2_with fail
            rw [← HLe.out]
            refine bodyPost_ret (four_results rfl _ _ _) rfl ?_
            exact ⟨by rw [HV.out]; rfl, rfl⟩
          | false =>
            have HI2 := Lib.hid h2
            cases hu : unq R.data.toList with
            | none =>
              have HV := Lib.hid (pair_bad hN hkl (by rw [hkeq, ← hRd]; exact h2) (by rw [hkeq, ← hRd]; exact hu))
              have HU := Lib.hid hu
              clear h1 h2 hkl hLd hRd hL hR hkeq hN h61 hu
              go_wp2_with fail
              rw [← HLe.out]
              refine (refIs_any L _ (by unfold maxLen; omega)).mono ?_
              rintro e w' ⟨rfl, rfl⟩
              rw [HI.out]
              go_wp2_with fail
              rw [← HRe.out]
              refine (refIs_any R _ (by unfold maxLen; omega)).mono ?_
              rintro e w' ⟨rfl, rfl⟩
              rw [HI2.out]
              go_wp2_with fail
              refine (refUnquote_any R _ (by omega)).mono ?_
              rintro e w2 ⟨rfl, h3⟩
              rcases h3 with ⟨_, X, he⟩ | ⟨u, h, _⟩
              · rw [he]
                clear he
                go_wp2_with fail
                refine bodyPost_ret (four_results rfl _ _ _) rfl ?_
                exact ⟨by rw [HV.out]; rfl, rfl⟩
              · have := HU.out; rw [this] at h; cases h
            | some u =>
              have HV := Lib.hid (pair_quoted hN hkl (by rw [hkeq, ← hRd]; exact h2) (by rw [hkeq, ← hRd]; exact hu))
              rw [hkeq, ← HLt.out] at HV
              have HU := Lib.hid hu
              clear h1 h2 hkl hLd hRd hL hR hkeq hN h61 hu
              go_wp2_with fail
              rw [← HLe.out]
              refine (refIs_any L _ (by unfold maxLen; omega)).mono ?_
              rintro e w' ⟨rfl, rfl⟩
              rw [HI.out]
              go_wp2_with fail
              rw [← HRe.out]
              refine (refIs_any R _ (by unfold maxLen; omega)).mono ?_
              rintro e w' ⟨rfl, rfl⟩
              rw [HI2.out]
              go_wp2_with fail
              refine (refUnquote_any R _ (by omega)).mono ?_
              rintro e w2 ⟨rfl, h3⟩
              rcases h3 with ⟨h, _⟩ | ⟨u', h, he⟩
              · have := HU.out; rw [this] at h; cases h
              · rw [he]
                have e1 : u = u' := by have := HU.out; rw [this] at h; injection h
                clear he h
                subst e1
                go_wp2_with fail
                rw [← HLe.out]
                refine bodyPost_ret (four_results rfl _ _ _) rfl ?_
                exact ⟨by rw [HV.out]; rfl, rfl⟩
      · have u1 := bne61 h61
        have HA := Lib.hid (show ∀ j (hj : j < s.data.toList.length), j < k + 1 → s.data.toList[j] ≠ 61 from fun j hj hjk => by
          by_cases e : j = k
          · subst e; exact h61
          · exact HALL.out j hj (by omega))
        clear h61
        go_wp2_with fail
        go_round
        case rel => exact ⟨k + 1, by omega, by go_num, HA.out⟩
        case measure => simp [intOf]; omega
    · obtain rfl : k = s.size := by omega
      have hkl : eqIdx s.data.toList = s.data.toList.length := by
        rw [HLEN.out]
        exact eqIdx_is _ s.size (by rw [HLEN.out]; exact Nat.le_refl _) (fun j hj => HALL.out j _ hj) (fun h => by rw [HLEN.out] at h; omega)
      have htk : s.data.toList.take (eqIdx s.data.toList) = s.data.toList := by rw [hkl, List.take_length]
      have hex : s.extract 0 s.size = s := by
        rw [left_text, List.take_of_length_le (by rw [HLEN.out]; exact Nat.le_refl _)]
      have HE := Lib.hid hex
      have v1 : ((s.size : Int) == (s.size : Int)) = true := by simp
      cases h1 : isTok s.data.toList with
      | false =>
        have HV := Lib.hid (pair_noname (l := s.data.toList) (by rw [htk]; exact h1))
        have HI := Lib.hid h1
        clear h1 hkl htk hex
        go_wp2_with fail
        try rw [HE.out]
        refine (refIs_any s _ (by unfold maxLen; omega)).mono ?_
        rintro e w' ⟨rfl, rfl⟩
        rw [HI.out]
        go_wp2_with fail
        refine bodyPost_ret (four_results rfl _ _ _) rfl ?_
        exact ⟨by rw [HV.out]; rfl, rfl⟩
      | true =>
        have HV := Lib.hid (pair_bare (l := s.data.toList) (by rw [htk]; exact h1) hkl)
        rw [← whole_text s] at HV
        have HI := Lib.hid h1
        clear h1 hkl htk hex
        go_wp2_with fail
        try rw [HE.out]
        refine (refIs_any s _ (by unfold maxLen; omega)).mono ?_
        rintro e w' ⟨rfl, rfl⟩
        rw [HI.out]
        go_wp2_with fail
        refine bodyPost_ret (four_results rfl _ _ _) rfl ?_
        exact ⟨by rw [HV.out]; rfl, rfl⟩
end Go.Proofs.YtmnnbefigepgfaaDoor.Tk
