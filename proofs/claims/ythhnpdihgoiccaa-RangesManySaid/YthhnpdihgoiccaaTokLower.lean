/-
  token.lowerByte, token.Lower and token.Same: what each returns. Conditions: none beyond the lengths that a string can have.
-/
-- cut by strips.py
import Derived.Test.YthhnpdihgoiccaaRows
import Derived.Test.YthhnpdihgoiccaaTokHolds
import Derived.WalkKit
import Derived.WalkLawsBesides
import Derived.Outline
import Derived.Lib.Hide
import Derived.Deep.QuietTactic
import Derived.BigQuiet
namespace Go.Proofs.Ythhnpdihgoiccaa.Tk
open Go.RowKit

theorem lowerByte_any (c : UInt8) (w : World) :
    Calls Try.prog 21 #[.int .u8 (c.toNat : Int)] w fun e w' => e = .returned (.int .u8 ((low c).toNat : Int)) ∧ w' = w := by
  have hc : c.toNat < 256 := c.toNat_lt
  by_cases h : 65 ≤ c.toNat ∧ c.toNat ≤ 90
  · have HL := Lib.hid (low_up h)
    have h1 : (65 : Int) ≤ (c.toNat : Int) := by omega
    have h2 : (c.toNat : Int) ≤ 90 := by omega
    clear h
    go_enter Try.func21, Try.ntmps21
    go_wp2
    go_ret
    exact ⟨by rw [HL.out]; rfl, rfl⟩
  · have HL := Lib.hid (low_id h)
    by_cases h1 : (65 : Int) ≤ (c.toNat : Int)
    · have h2 : ¬ (c.toNat : Int) ≤ 90 := by omega
      clear h
      go_enter Try.func21, Try.ntmps21
      go_wp2
      go_ret
      exact ⟨by rw [HL.out]; rfl, rfl⟩
    · clear h
      go_enter Try.func21, Try.ntmps21
      go_wp2
      go_ret
      exact ⟨by rw [HL.out]; rfl, rfl⟩

/-- The first k bytes small, the others as they were. -/
def mix (l : Bs) (k : Nat) : Bs := (l.take k).map low ++ l.drop k
theorem mix_length (l : Bs) (k : Nat) (hk : k ≤ l.length) : (mix l k).length = l.length := by simp [mix]; omega
theorem mix_zero (l : Bs) : mix l 0 = l := by simp [mix]
theorem mix_all (l : Bs) : mix l l.length = lower l := by simp [mix, lower]
theorem mix_at (l : Bs) (k : Nat) (hk : k < l.length) : (mix l k)[k]'(by rw [mix_length l k (by omega)]; exact hk) = l[k] := by
  unfold mix
  rw [List.getElem_append_right (by simp; exact Nat.min_le_left _ _)]
  simp [Nat.min_eq_left (Nat.le_of_lt hk)]
theorem mix_set (l : Bs) (k : Nat) (hk : k < l.length) : (mix l k).set k (low l[k]) = mix l (k + 1) := by
  unfold mix
  rw [List.set_append_right _ _ (by simp; exact Nat.min_le_left _ _)]
  have h1 : k - (List.map low (List.take k l)).length = 0 := by simp; omega
  rw [h1, List.drop_eq_getElem_cons hk, List.take_succ_eq_append_getElem hk, List.map_append, List.set_cons_zero, List.append_assoc]
  rfl

theorem Holds.at0 {w : World} {b : Nat} {l : Bs} (h : Holds w b 0 l) (j : Nat) (hj : j < l.length) : w.cell? ⟨b, j, none⟩ = some (.int .u8 (l[j].toNat : Int)) := by
  have := h j hj; rwa [Nat.zero_add] at this
theorem Holds.set {w : World} {b : Nat} {l : Bs} (h : Holds w b 0 l) (k : Nat) (hk : k < l.length) (c : UInt8) : Holds (w.setCell ⟨b, k, none⟩ (.int .u8 (c.toNat : Int))) b 0 (l.set k c) := by
  intro j hj
  have hj' : j < l.length := by simpa using hj
  rw [Nat.zero_add]
  by_cases e : j = k
  · subst e
    rw [World.cell?_setCell_same w _ _ (h.at0 j hj')]; simp
  · rw [World.cell?_setCell_other w _ _ _ (by intro hh; injection hh with _ h2; exact e h2.symm), h.at0 j hj']
    simp [List.getElem_set_ne (Ne.symm e)]

/-- Two texts are alike but for the size of letters. -/
def same (a b : Bs) : Bool := lower a == lower b
theorem same_no {a b : ByteArray} (h : a.size ≠ b.size) : same a.data.toList b.data.toList = false := by
  unfold same
  rw [beq_eq_false_iff_ne]
  intro e
  have := congrArg List.length e
  simp [lower_length] at this
  exact h this
theorem same_at (a b : ByteArray) (k : Nat) (ha : k < a.size) (hb : k < b.size) (h : low a[k] ≠ low b[k]) : same a.data.toList b.data.toList = false := by
  unfold same
  rw [beq_eq_false_iff_ne]
  intro e
  have h1 : (lower a.data.toList)[k]? = some (low a[k]) := by
    simp only [lower, List.getElem?_map]
    rw [List.getElem?_eq_getElem (by simpa using ha)]; rfl
  have h2 : (lower b.data.toList)[k]? = some (low b[k]) := by
    simp only [lower, List.getElem?_map]
    rw [List.getElem?_eq_getElem (by simpa using hb)]; rfl
  rw [e, h2] at h1
  injection h1 with h1
  exact h h1.symm
theorem same_yes (a b : ByteArray) (hab : a.size = b.size) (h : ∀ j (ha : j < a.size) (hb : j < b.size), low a[j] = low b[j]) : same a.data.toList b.data.toList = true := by
  unfold same
  rw [beq_iff_eq]
  apply List.ext_getElem
  · simp [lower_length]; exact hab
  · intro j h1 h2
    simp only [lower, List.getElem_map]
    exact h j (by simpa [lower] using h1) (by simpa [lower] using h2)
theorem low_ne {c d : UInt8} (h : low c ≠ low d) : (((low c).toNat : Int) != ((low d).toNat : Int)) = true := by
  rw [bne_iff_ne]; intro e; exact h (UInt8.toNat.inj (by omega))
theorem low_eq {c d : UInt8} (h : low c = low d) : (((low c).toNat : Int) != ((low d).toNat : Int)) = false := by
  rw [h]; simp

set_option maxHeartbeats 1000000 in
theorem same_any (a b : ByteArray) (w : World) (hs : a.size ≤ maxLen) :
    Calls Try.prog 13 #[.string a, .string b] w fun e w' => e = .returned (.bool (same a.data.toList b.data.toList)) ∧ ∃ n, w' = w.drewN n := by
  unfold maxLen at hs
  by_cases hab : a.size = b.size
  · have hne : ((a.size : Int) != (b.size : Int)) = false := by rw [hab]; simp
    have HAB := Lib.hid hab
    clear hab
    go_enter Try.func13, Try.ntmps13
    go_wp2_with fail
    go_loopw [13] (fun i wr => ∃ k : Nat, k ≤ a.size ∧ i = .int .i64 k ∧ (∃ n, wr = w.drewN n) ∧ ∀ j (ha : j < a.size) (hb : j < b.size), j < k → low a[j] = low b[j]) (fun i _ => a.size - (intOf i).toNat)
    case atStart => exact ⟨0, Nat.zero_le _, rfl, ⟨0, rfl⟩, fun j _ _ h => by omega⟩
    case round =>
      obtain ⟨k, hk, rfl, ⟨n, hw⟩, hall⟩ := hrel
      have HALL := Lib.hid hall
      have HW := Lib.hid hw
      clear hall hw
      by_cases hlt : k < a.size
      · have hlb : k < b.size := by have := HAB.out; omega
        by_cases he : low a[k] = low b[k]
        · have h1 := low_eq he
          have HE := Lib.hid he
          clear he
          go_wp2_with fail
          go_quiet ((go_at_call 21; exact Calls.quiet_of_same (lowerByte_any _ _)))
          go_wp2
          go_roundw
          case rel =>
            refine ⟨k + 1, by omega, by go_num, ⟨_, by rw [HW.out, World.drewN_drewN]⟩, fun j ha hb hj => ?_⟩
            by_cases e : j = k
            · subst e; exact HE.out
            · exact HALL.out j ha hb (by omega)
          case measure => simp [intOf]; omega
        · have h1 := low_ne he
          have HN := Lib.hid (same_at a b k hlt hlb he)
          clear he
          go_wp2_with fail
          go_quiet ((go_at_call 21; exact Calls.quiet_of_same (lowerByte_any _ _)))
          go_wp2
          go_ret
          exact ⟨by rw [HN.out]; rfl, _, by rw [HW.out, World.drewN_drewN]⟩
      · have HY := Lib.hid (same_yes a b HAB.out fun j ha hb => HALL.out j ha hb (by omega))
        go_wp2
        go_ret
        exact ⟨by rw [HY.out]; rfl, _, HW.out⟩
  · have hne : ((a.size : Int) != (b.size : Int)) = true := by rw [bne_iff_ne]; omega
    have HN := Lib.hid (same_no hab)
    clear hab
    go_enter Try.func13, Try.ntmps13
    go_wp2
    go_ret
    exact ⟨by rw [HN.out]; rfl, 0, rfl⟩
end Go.Proofs.Ythhnpdihgoiccaa.Tk
