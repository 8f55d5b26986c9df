/-
  gatepostref01.Quote: what it returns. Condition: a text of at most 2^32 bytes.
-/
import Derived.Test.YthccojahaadjoaaDoorTokQuote
import Derived.Test.YthccojahaadjoaaDoorTokPiece
namespace Go.Proofs.YthccojahaadjoaaDoor.Tk
open Go.RowKit

theorem esc_two (s : ByteArray) (k : Nat) (hk : k < s.size) (h : s[k] = 34 ∨ s[k] = 92) : (s.data.toList.take (k + 1)).flatMap esc = (s.data.toList.take k).flatMap esc ++ [92] ++ [s[k]] := by
  rw [esc_snoc s k hk]; unfold esc; rw [if_pos h]; simp
theorem esc_one (s : ByteArray) (k : Nat) (hk : k < s.size) (h : ¬ (s[k] = 34 ∨ s[k] = 92)) : (s.data.toList.take (k + 1)).flatMap esc = (s.data.toList.take k).flatMap esc ++ [s[k]] := by
  rw [esc_snoc s k hk]; unfold esc; rw [if_neg h]
theorem byte_data (X : ByteArray) (d : UInt8) : (X ++ (⟨#[d]⟩ : ByteArray)).data.toList = X.data.toList ++ [d] := by simp
theorem byte_front (X : ByteArray) (d : UInt8) : ((⟨#[d]⟩ : ByteArray) ++ X).data.toList = d :: X.data.toList := by simp

set_option maxHeartbeats 4000000 in
theorem refQuote_any (s : ByteArray) (w : World) (hs : s.size ≤ 4294967296) :
    Calls Tryd.prog 20 #[.string s] w fun e w' => e = .returned (quoteVal s.data.toList) ∧ w = w' := by
  obtain ⟨Q, hQ⟩ : ∃ Q : ByteArray, Q = ⟨#[34]⟩ := ⟨_, rfl⟩
  obtain ⟨K, hK⟩ : ∃ K : ByteArray, K = ⟨#[92]⟩ := ⟨_, rfl⟩
  go_enter Tryd.func20, Tryd.ntmps20
  go_wp2_with fail
  clear hQ hK
  go_loop [4, 5] (fun v i => ∃ (k : Nat) (X : ByteArray), k ≤ s.size ∧ i = .int .i64 (k : Int) ∧ v = .string X ∧ X.data.toList = (s.data.toList.take k).flatMap esc ∧ X.size ≤ 2 * k ∧ (s.data.toList.take k).all textByte = true) (fun _ i => s.size - (intOf i).toNat)
  case atStart => exact ⟨0, ⟨#[]⟩, Nat.zero_le _, rfl, rfl, rfl, Nat.zero_le _, rfl⟩
  case round =>
    obtain ⟨k, X, hk, rfl, rfl, hX, hXs, hal⟩ := hrel
    have HX := Lib.hid hX
    have HAL := Lib.hid hal
    clear hX hal
    by_cases hlt : k < s.size
    · cases ht : textByte s[k] with
      | false =>
        have HN := Lib.hid (quote_no s k hlt ht)
        have HT := Lib.hid ht
        clear ht
        go_wp2_with (go_at_call 33; refine (refText_any _ _).mono ?_; rintro e w' ⟨rfl, rfl⟩; rw [HT.out])
        go_ret2
        exact ⟨by rw [HN.out]; rfl, rfl⟩
      | true =>
        have HA := Lib.hid (show (s.data.toList.take (k + 1)).all textByte = true from by rw [all_snoc textByte s k hlt, HAL.out, ht]; rfl)
        have HT := Lib.hid ht
        obtain ⟨E, hE, hEs, hEd⟩ := piece s k hlt
        have hsl := run_one s k hlt
        rw [← hE] at hsl
        have HEd := Lib.hid hEd
        have HEs := Lib.hid hEs
        have hEb : E.size ≤ 1 := by omega
        clear ht hE hEd hEs
        by_cases hq : s[k] = 34 ∨ s[k] = 92
        · have HF := Lib.hid (esc_two s k hlt hq)
          have hone : ∀ d : UInt8, (X ++ (⟨#[d]⟩ : ByteArray)).size = X.size + 1 := fun d => by rw [ByteArray.size_append]; rfl
          rcases hq with hq | hq
          · have u1 := is34 hq
            clear hq
            go_wp2_with (go_at_call 33; refine (refText_any _ _).mono ?_; rintro e w' ⟨rfl, rfl⟩; rw [HT.out])
            go_round
            case rel => exact ⟨k + 1, _, by omega, by go_num, rfl, by rw [HEd.out, byte_data, HX.out, HF.out], by rw [ByteArray.size_append, hone, HEs.out]; omega, HA.out⟩
            case measure => simp [intOf]; omega
          · have u1 := no34 (c := s[k]) (by rw [hq]; decide)
            have u2 := is92 hq
            clear hq
            go_wp2_with (go_at_call 33; refine (refText_any _ _).mono ?_; rintro e w' ⟨rfl, rfl⟩; rw [HT.out])
            go_round
            case rel => exact ⟨k + 1, _, by omega, by go_num, rfl, by rw [HEd.out, byte_data, HX.out, HF.out], by rw [ByteArray.size_append, hone, HEs.out]; omega, HA.out⟩
            case measure => simp [intOf]; omega
        · have HF := Lib.hid (esc_one s k hlt hq)
          have u1 := no34 (c := s[k]) (fun h => hq (.inl h))
          have u2 := no92 (c := s[k]) (fun h => hq (.inr h))
          clear hq
          go_wp2_with (go_at_call 33; refine (refText_any _ _).mono ?_; rintro e w' ⟨rfl, rfl⟩; rw [HT.out])
          go_round
          case rel => exact ⟨k + 1, _, by omega, by go_num, rfl, by rw [HEd.out, HX.out, HF.out], by rw [ByteArray.size_append, HEs.out]; omega, HA.out⟩
          case measure => simp [intOf]; omega
    · obtain rfl : k = s.size := by omega
      have HY := Lib.hid (quote_yes s HAL.out)
      have HXa := Lib.hid (show X.data.toList = s.data.toList.flatMap esc from by rw [HX.out, List.take_of_length_le (by simp)])
      go_wp2_with fail
      go_ret2
      refine ⟨?_, rfl⟩
      rw [HY.out]
      have e : (((⟨#[34]⟩ : ByteArray) ++ X) ++ (⟨#[34]⟩ : ByteArray)) = ⟨(34 :: (s.data.toList.flatMap esc ++ [34])).toArray⟩ := bytes_ext' (by rw [byte_data, byte_front, HXa.out]; rfl)
      rw [← e]; rfl
end Go.Proofs.YthccojahaadjoaaDoor.Tk
