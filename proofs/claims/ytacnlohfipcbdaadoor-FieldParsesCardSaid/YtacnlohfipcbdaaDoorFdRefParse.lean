/-
  gatepostref04.Parse: what it returns. Condition: a text of at most 2^46 bytes.
-/
import Derived.Test.YtacnlohfipcbdaaDoorFdParseP
import Derived.Laws.BytesArg
namespace Go.Proofs.YtacnlohfipcbdaaDoor.Fd
open Go.RowKit Tk
set_option linter.unusedVariables false

theorem get58 {s : ByteArray} {k : Nat} (h : k < s.size) (e : (((s[k]'h).toNat : Int) != 58) = false) : s.data.toList[k]'(by simpa using h) = 58 := by
  rcases Decidable.em (((s[k]'h).toNat : Int) = 58) with h1 | h1
  · apply UInt8.toNat.inj
    show (s[k]'h).toNat = 58
    omega
  · rw [bne_iff_ne.2 h1] at e; cases e
theorem not58 {s : ByteArray} {k : Nat} (h : k < s.size) (e : (((s[k]'h).toNat : Int) != 58) = true) : s.data.toList[k]'(by simpa using h) ≠ 58 := by
  intro h2
  have h3 : (s[k]'h) = 58 := h2
  rw [h3] at e; simp at e

def Upto (s : ByteArray) (k : Nat) : Prop := ∀ j (hj : j < s.data.toList.length), j < k → s.data.toList[j] ≠ 58

set_option maxHeartbeats 2000000 in
theorem refParse_any (s : ByteArray) (w : World) (hs : s.size ≤ 70368744177664) :
    Calls Tryd.prog 10 #[.string s] w fun e w' => e = .returned (parseVal s) ∧ Below w.heap.size w w' := by
  have hlen : s.data.toList.length = s.size := by simp
  have HLEN := Lib.hid hlen
  clear hlen
  go_enter Tryd.func10, Tryd.ntmps10
  go_wp2_with fail
  go_loop [4] (fun i => ∃ k : Nat, k ≤ s.size ∧ i = .int .i64 (k : Int) ∧ Upto s k) (fun i => s.size - (intOf i).toNat)
  case atStart => exact ⟨0, Nat.zero_le _, rfl, fun j _ h => by omega⟩
  case round =>
    obtain ⟨k, hk, rfl, hup⟩ := hrel
    have HUP := Lib.hid hup
    clear hup
    by_cases hlt : k < s.size
    · cases hne : (((s[k]'hlt).toNat : Int) != 58) with
      | true =>
        have HN := Lib.hid (not58 hlt hne)
        go_wp2_with fail
        go_round
        case rel => exact ⟨k + 1, by omega, by go_num, fun j h1 h2 => by
          by_cases e : j = k
          · subst e; exact HN.out
          · exact HUP.out j h1 (by omega)⟩
        case measure => simp [intOf]; omega
      | false =>
        have hci : colIdx s.data.toList = k := colIdx_is _ k (by rw [HLEN.out]; omega) (fun j hj => HUP.out j (by rw [HLEN.out]; omega) hj) (fun h => get58 hlt hne)
        have hks : ((k : Int) == (s.size : Int)) = false := beq_eq_false_iff_ne.2 (by omega)
        obtain ⟨n, hn⟩ : ∃ n, n = s.extract 0 k := ⟨_, rfl⟩
        obtain ⟨T, hT⟩ : ∃ T, T = s.extract (k + 1) s.size := ⟨_, rfl⟩
        obtain ⟨v, hv⟩ : ∃ v : ByteArray, v = ⟨(trim T.data.toList).toArray⟩ := ⟨_, rfl⟩
        have hns : n.size ≤ s.size := by rw [hn]; simp; omega
        have hTs : T.size ≤ s.size := by rw [hT]; simp
        have hvs : v.size ≤ s.size := by
          have h := trim_length T.data.toList
          have e : T.data.toList.length = T.size := by simp
          rw [hv]; show (trim _).toArray.size ≤ _
          rw [List.size_toArray]; omega
        have HPV := Lib.hid (show parseVal s = if isFld n.data.toList v.data.toList then .tuple #[FV n v, .int .i64 0] else .tuple #[FV ⟨#[]⟩ ⟨#[]⟩, .int .i64 31] from by
          unfold parseVal parseOk pName pVal; rw [hci, hv, hT, hn]; simp [hlt])
        have HNE := Lib.hid hn
        have HTE := Lib.hid hT
        have HVE := Lib.hid hv
        clear hn hT hv hci HUP
        cases h1 : isTok n.data.toList with
        | false =>
          have H1 := Lib.hid h1
          have HF := Lib.hid (show isFld n.data.toList v.data.toList = false from by unfold isFld; rw [h1]; rfl)
          clear h1
          rw [HF.out] at HPV
          have hr0 := new_block w (.cells #[.string ⟨#[]⟩, .string ⟨#[]⟩] 23)
          go_wp2_with fail
          rw [← HNE.out]
          refine (refIs_any n _ (by unfold maxLen; omega)).mono ?_
          rintro e w1 ⟨rfl, rfl⟩
          rw [H1.out]
          go_wp2_with fail
          refine bodyPost_ret (results_pair rfl _ _ w.heap.size 23 _ (0, 0) _ rfl (new_block w _) Tryd.underlying23 rfl infoFieldSize) rfl ?_
          exact ⟨by rw [HPV.out]; rfl, (Below.refl _ _).alloc (Nat.le_refl _) _⟩
        | true =>
          have H1 := Lib.hid h1
          cases h2 : isVal v.data.toList
          all_goals
            have H2 := Lib.hid h2
            first | have HF := Lib.hid (show isFld n.data.toList v.data.toList = true from by unfold isFld; rw [h1, h2]; rfl) | have HF := Lib.hid (show isFld n.data.toList v.data.toList = false from by unfold isFld; rw [h1, h2]; rfl)
            clear h2
            rw [HF.out] at HPV
            have hr0 := new_block w (.cells #[.string ⟨#[]⟩, .string ⟨#[]⟩] 23)
            try clear h1
            go_wp2_with fail
            rw [← HNE.out]
            refine (refIs_any n _ (by unfold maxLen; omega)).mono ?_
            rintro e w1 ⟨rfl, rfl⟩
            rw [H1.out]
            go_wp2_with fail
            rw [← HTE.out]
            refine (refTrim_any T _ (by unfold maxLen; omega)).mono ?_
            rintro e w1 ⟨rfl, rfl⟩
            rw [← HVE.out]
            go_wp2_with fail
            refine (refValue_any v _ (by unfold maxLen; omega)).mono ?_
            rintro e w1 ⟨rfl, rfl⟩
            rw [H2.out]
            go_wp2_with fail
            try rw [← HNE.out]
            refine bodyPost_ret (results_pair rfl _ _ w.heap.size 23 _ (0, 0) _ rfl (new_block w _) Tryd.underlying23 rfl infoFieldSize) rfl ?_
            exact ⟨by rw [HPV.out]; rfl, (Below.refl _ _).alloc (Nat.le_refl _) _⟩
    · have hci : colIdx s.data.toList = s.size := colIdx_is _ s.size (by rw [HLEN.out]; omega) (fun j hj => HUP.out j (by rw [HLEN.out]; omega) (by omega)) (fun h => by rw [HLEN.out] at h; omega)
      have hks : ((k : Int) == (s.size : Int)) = true := beq_iff_eq.2 (by omega)
      have HPV := Lib.hid (show parseVal s = .tuple #[FV ⟨#[]⟩ ⟨#[]⟩, .int .i64 31] from by unfold parseVal parseOk; simp [hci])
      have hr0 := new_block w (.cells #[.string ⟨#[]⟩, .string ⟨#[]⟩] 23)
      clear hci HUP
      go_wp2_with fail
      refine bodyPost_ret (results_pair rfl _ _ w.heap.size 23 _ (0, 0) _ rfl (new_block w _) Tryd.underlying23 rfl infoFieldSize) rfl ?_
      exact ⟨by rw [HPV.out]; rfl, (Below.refl _ _).alloc (Nat.le_refl _) _⟩
end Go.Proofs.YtacnlohfipcbdaaDoor.Fd
