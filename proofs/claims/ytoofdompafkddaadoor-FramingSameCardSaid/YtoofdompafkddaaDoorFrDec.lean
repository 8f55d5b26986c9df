/-
  The law FramingSame's number: what it returns. Condition: a number below 10^7.
-/
import Derived.Test.YtoofdompafkddaaDoorFrSame
namespace Go.Proofs.YtoofdompafkddaaDoor.Fr
open Go.RowKit Go.Proofs.YtoofdompafkddaaDoor.Tk Go.Proofs.YtoofdompafkddaaDoor.Fd
set_option linter.unusedVariables false

set_option maxRecDepth 100000 in
set_option maxHeartbeats 4000000 in
theorem number_any : ∀ (k n : Nat) (w : World), n < 10 ^ (k + 1) → k ≤ 6 → Calls Tryd.prog 42 #[.int .i64 (n : Int)] w fun e w' => e = .returned (.string ⟨(decL n).toArray⟩) ∧ w = w'
  | k, n, w, h, hk => by
    by_cases hn : n < 10
    · exact number_one n w hn
    · cases k with
      | zero => omega
      | succ k =>
        have hn9 : n ≤ 9999999 := by have h7 : 10 ^ (k + 1 + 1) ≤ 10 ^ 7 := Nat.pow_le_pow_right (by omega) (by omega); omega
        have hd : n / 10 < 10 ^ (k + 1) := by rw [Nat.div_lt_iff_lt_mul (by omega)]; rw [Nat.pow_succ] at h; omega
        have HC := Lib.hid (number_any k (n / 10) w hd (by omega))
        have HC2 := Lib.hid (number_one (n % 10) w (Nat.mod_lt _ (by omega)))
        have HD := Lib.hid (show (⟨(decL (n / 10)).toArray⟩ : ByteArray) ++ ⟨(decL (n % 10)).toArray⟩ = ⟨(decL n).toArray⟩ from by rw [dec_text, decL_big hn, decL_small (n := n % 10) (Nat.mod_lt _ (by omega))])
        obtain ⟨_, _, _, l1, _⟩ := decL_all k (n / 10) hd
        obtain ⟨_, _, _, l2, _⟩ := decL_all 0 (n % 10) (Nat.mod_lt _ (by omega))
        obtain ⟨X, hX⟩ : ∃ X : ByteArray, X = ⟨(decL (n / 10)).toArray⟩ := ⟨_, rfl⟩
        obtain ⟨Y, hY⟩ : ∃ Y : ByteArray, Y = ⟨(decL (n % 10)).toArray⟩ := ⟨_, rfl⟩
        have hXs : X.size ≤ 10 := by rw [hX]; simp [ByteArray.size]; omega
        have hYs : Y.size ≤ 10 := by rw [hY]; simp [ByteArray.size]; omega
        obtain ⟨Z, hZ⟩ : ∃ Z : ByteArray, Z = ⟨(decL n).toArray⟩ := ⟨_, rfl⟩
        rw [← hX] at HC HD
        rw [← hY] at HC2 HD
        rw [← hZ] at HD
        rw [← hZ]
        have en : ((n : Int) / 10) = ((n / 10 : Nat) : Int) := by omega
        have em : ((n : Int) % 10) = ((n % 10 : Nat) : Int) := by omega
        rw [← en] at HC
        rw [← em] at HC2
        clear h hd hX hY hZ en em l1 l2
        go_enter Tryd.func42, Tryd.ntmps42
        go_wp2_with fail
        refine HC.out.mono ?_
        rintro e w1 ⟨rfl, rfl⟩
        go_wp2_with fail
        refine HC2.out.mono ?_
        rintro e w2 ⟨rfl, rfl⟩
        go_wp2_with fail
        go_ret
        exact ⟨by rw [← HD.out]; rfl, rfl⟩
end Go.Proofs.YtoofdompafkddaaDoor.Fr
