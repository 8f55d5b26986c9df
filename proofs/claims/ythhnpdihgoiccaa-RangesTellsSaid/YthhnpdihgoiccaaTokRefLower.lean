/-
  gatepostref01.Lower and gatepostref01.Same: what each returns. Conditions: none beyond the lengths that a string can have.
-/
-- cut by strips.py
import Derived.Test.YthhnpdihgoiccaaTokLower
namespace Go.Proofs.Ythhnpdihgoiccaa.Tk
open Go.RowKit

theorem run_one_back (wr : World) (n : Int) (d : UInt8) (h : n = (d.toNat : Int)) :
    (convert 55 9 (.slice (some ⟨wr.heap.size, 0, none⟩) 1 1)).run Try.prog (wr.alloc (.cells #[.int .u8 n] 5)) = .ok (.string ⟨#[d]⟩) (wr.alloc (.cells #[.int .u8 n] 5)) := by
  subst h
  have := run_back (P := Try.prog) (wr.alloc (.cells #[.int .u8 (d.toNat : Int)] 5)) 55 9 5 wr.heap.size 0 1 [d] Try.underlying55 Try.underlying5 Try.underlying9 (by
    intro j hj
    have hj0 : j = 0 := by simp at hj; omega
    subst hj0
    simp)
  exact this
theorem low_snoc (s : ByteArray) (k : Nat) (hk : k < s.size) : (s.data.toList.take (k + 1)).map low = (s.data.toList.take k).map low ++ [low s[k]] := by
  rw [List.take_succ_eq_append_getElem (by simpa using hk), List.map_append]; rfl
theorem snoc_data (X : ByteArray) (d : UInt8) : (X ++ (⟨#[d]⟩ : ByteArray)).data.toList = X.data.toList ++ [d] := by simp
theorem snoc_size (X : ByteArray) (d : UInt8) : (X ++ (⟨#[d]⟩ : ByteArray)).size = X.size + 1 := by rw [ByteArray.size_append]; rfl

set_option maxHeartbeats 1000000 in
theorem refLower_any (s : ByteArray) (w : World) (hs : s.size ≤ maxLen) :
    Calls Try.prog 16 #[.string s] w fun e w' => e = .returned (.string ⟨(lower s.data.toList).toArray⟩) ∧ Below w.heap.size w w' := by
  unfold maxLen at hs
  go_enter Try.func16, Try.ntmps16
  go_wp2_with fail
  go_loopw [3, 4] (fun o i wr => ∃ (k : Nat) (X : ByteArray), k ≤ s.size ∧ i = .int .i64 (k : Int) ∧ o = .string X ∧ X.size = k ∧ X.data.toList = (s.data.toList.take k).map low ∧ Below w.heap.size w wr) (fun _ i _ => s.size - (intOf i).toNat)
  case atStart => exact ⟨0, ⟨#[]⟩, Nat.zero_le _, rfl, rfl, rfl, by simp, Below.refl _ _⟩
  case round =>
    obtain ⟨k, X, hk, rfl, rfl, hXs, hX, hb⟩ := hrel
    have HX := Lib.hid hX
    have HXs := Lib.hid hXs
    have hXb : X.size ≤ k := by omega
    have hsz := hb.size
    clear hX hXs
    by_cases hlt : k < s.size
    · have hc : s[k].toNat < 256 := s[k].toNat_lt
      obtain ⟨d, hd⟩ : ∃ d, d = low s[k] := ⟨_, rfl⟩
      obtain ⟨D, hD⟩ : ∃ D : ByteArray, D = ⟨#[d]⟩ := ⟨_, rfl⟩
      have HD := Lib.hid hD
      have HDd := Lib.hid hd
      have hDs : D.size ≤ 1 := by rw [hD]; exact Nat.le_refl 1
      by_cases h : 65 ≤ s[k].toNat ∧ s[k].toNat ≤ 90
      · have hback := run_one_back wr ((s[k].toNat : Int) + 32) d (by rw [hd]; exact (low_up h).symm)
        rw [← hD] at hback
        have h1 : (65 : Int) ≤ (s[k].toNat : Int) := by omega
        have h2 : (s[k].toNat : Int) ≤ 90 := by omega
        clear h hd hD
        go_wp2_with fail
        go_roundw
        case rel => exact ⟨k + 1, X ++ D, by omega, by go_num, rfl, by rw [HD.out, snoc_size, HXs.out], by rw [HD.out, snoc_data, HX.out, HDd.out, low_snoc s k hlt], hb.alloc hsz _⟩
        case measure => simp [intOf]; omega
      · have hback := run_one_back wr (s[k].toNat : Int) d (by rw [hd, low_id h])
        rw [← hD] at hback
        by_cases h1 : (65 : Int) ≤ (s[k].toNat : Int)
        · have h2 : ¬ (s[k].toNat : Int) ≤ 90 := by omega
          clear h hd hD
          go_wp2_with fail
          go_roundw
          case rel => exact ⟨k + 1, X ++ D, by omega, by go_num, rfl, by rw [HD.out, snoc_size, HXs.out], by rw [HD.out, snoc_data, HX.out, HDd.out, low_snoc s k hlt], hb.alloc hsz _⟩
          case measure => simp [intOf]; omega
        · clear h hd hD
          go_wp2_with fail
          go_roundw
          case rel => exact ⟨k + 1, X ++ D, by omega, by go_num, rfl, by rw [HD.out, snoc_size, HXs.out], by rw [HD.out, snoc_data, HX.out, HDd.out, low_snoc s k hlt], hb.alloc hsz _⟩
          case measure => simp [intOf]; omega
    · have HE := Lib.hid (show X = ⟨(lower s.data.toList).toArray⟩ from by
        have h1 : X.data.toList = lower s.data.toList := by
          rw [HX.out, List.take_of_length_le (by simp; have : s.data.size = s.size := rfl; omega)]; rfl
        rw [← h1])
      go_wp2_with fail
      go_ret
      exact ⟨by rw [← HE.out]; rfl, hb⟩

end Go.Proofs.Ythhnpdihgoiccaa.Tk
