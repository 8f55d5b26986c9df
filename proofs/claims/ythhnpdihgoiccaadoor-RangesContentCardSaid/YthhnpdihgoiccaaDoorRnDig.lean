/-
  gatepostref14.digits: what it returns. Condition: a number below 10^10.
-/
import Derived.Test.YthhnpdihgoiccaaDoorDecMath
import Derived.Test.YthhnpdihgoiccaaDoorRows
namespace Go.Proofs.YthhnpdihgoiccaaDoor.Rn
open Go.RowKit Go.Proofs.YthhnpdihgoiccaaDoor.Tk Go.Proofs.YthhnpdihgoiccaaDoor.Ct
set_option linter.unusedVariables false

theorem bytes_same {a b : ByteArray} (h : a.data.toList = b.data.toList) : a = b := by
  cases a; cases b
  congr 1
  exact Array.toList_inj.1 h
def dig10 : ByteArray := ⟨#[48, 49, 50, 51, 52, 53, 54, 55, 56, 57]⟩
theorem dig10_at : ∀ r : Fin 10, dig10.extract r.val (r.val + 1) = ⟨#[decD r.val]⟩ := by decide +kernel
theorem dec_slice (W : World) (m : Nat) (hm : m < 10) : (Instr.slice 9 (.string ⟨#[48, 49, 50, 51, 52, 53, 54, 55, 56, 57]⟩) (some (.int .i64 (m : Int))) (some (.int .i64 ((m : Int) + 1))) none).run Tryd.prog W = .ok (.string ⟨#[decD m]⟩) W := by
  have h1 := dig10_at ⟨m, hm⟩
  have h2 := run_slice_string (P := Tryd.prog) W 9 dig10 .i64 .i64 (m : Int) ((m : Int) + 1) Tryd.underlying9 (by omega) (by omega) (by have : dig10.size = 10 := rfl; omega)
  have e1 : ((m : Int)).toNat = m := by omega
  have e2 : ((m : Int) + 1).toNat = m + 1 := by omega
  rw [e1, e2] at h2
  rw [← h1]
  exact h2
theorem dec_text (a b : Bs) : (⟨a.toArray⟩ : ByteArray) ++ ⟨b.toArray⟩ = ⟨(a ++ b).toArray⟩ := bytes_same (by simp)
set_option maxRecDepth 100000 in
set_option maxHeartbeats 4000000 in
theorem digits_one (n : Nat) (w : World) (hn : n < 10) : Calls Tryd.prog 13 #[.int .i64 (n : Int)] w fun e w' => e = .returned (.string ⟨(decL n).toArray⟩) ∧ w = w' := by
  have hsl := fun W => dec_slice W n hn
  have HD := Lib.hid (decL_small hn)
  go_enter Tryd.func13, Tryd.ntmps13
  go_wp2_with fail
  go_ret
  exact ⟨by rw [HD.out]; rfl, rfl⟩
set_option maxRecDepth 100000 in
set_option maxHeartbeats 4000000 in
theorem digits_any : ∀ (k n : Nat) (w : World), n < 10 ^ (k + 1) → k ≤ 9 → Calls Tryd.prog 13 #[.int .i64 (n : Int)] w fun e w' => e = .returned (.string ⟨(decL n).toArray⟩) ∧ w = w'
  | k, n, w, h, hk => by
    by_cases hn : n < 10
    · exact digits_one n w hn
    · cases k with
      | zero => omega
      | succ k =>
        have hn9 : n ≤ 9999999999 := by have h7 : 10 ^ (k + 1 + 1) ≤ 10 ^ 10 := Nat.pow_le_pow_right (by omega) (by omega); omega
        have hd : n / 10 < 10 ^ (k + 1) := by rw [Nat.div_lt_iff_lt_mul (by omega)]; rw [Nat.pow_succ] at h; omega
        have HC := Lib.hid (digits_any k (n / 10) w hd (by omega))
        have HC2 := Lib.hid (digits_one (n % 10) w (Nat.mod_lt _ (by omega)))
        have HD := Lib.hid (show (⟨(decL (n / 10)).toArray⟩ : ByteArray) ++ ⟨(decL (n % 10)).toArray⟩ = ⟨(decL n).toArray⟩ from by rw [dec_text, decL_big hn, decL_small (n := n % 10) (Nat.mod_lt _ (by omega))])
        obtain ⟨_, _, _, l1, _⟩ := decL_all k (n / 10) hd
        obtain ⟨_, _, _, l2, _⟩ := decL_all 0 (n % 10) (Nat.mod_lt _ (by omega))
        obtain ⟨X, hX⟩ : ∃ X : ByteArray, X = ⟨(decL (n / 10)).toArray⟩ := ⟨_, rfl⟩
        obtain ⟨Y, hY⟩ : ∃ Y : ByteArray, Y = ⟨(decL (n % 10)).toArray⟩ := ⟨_, rfl⟩
        have hXs : X.size ≤ 10 := by rw [hX]; simp [ByteArray.size]; omega
        have hYs : Y.size ≤ 10 := by rw [hY]; simp [ByteArray.size]; omega
        obtain ⟨Z, hZ⟩ : ∃ Z : ByteArray, Z = ⟨(decL n).toArray⟩ := ⟨_, rfl⟩
        rw [← hX] at HC HD
        rw [← hY] at HC2 HD
        rw [← hZ] at HD
        rw [← hZ]
        have en : ((n : Int) / 10) = ((n / 10 : Nat) : Int) := by omega
        have em : ((n : Int) % 10) = ((n % 10 : Nat) : Int) := by omega
        rw [← en] at HC
        rw [← em] at HC2
        clear h hd hX hY hZ en em l1 l2
        go_enter Tryd.func13, Tryd.ntmps13
        go_wp2_with fail
        refine HC.out.mono ?_
        rintro e w1 ⟨rfl, rfl⟩
        go_wp2_with fail
        refine HC2.out.mono ?_
        rintro e w2 ⟨rfl, rfl⟩
        go_wp2_with fail
        go_ret
        exact ⟨by rw [← HD.out]; rfl, rfl⟩
end Go.Proofs.YthhnpdihgoiccaaDoor.Rn
