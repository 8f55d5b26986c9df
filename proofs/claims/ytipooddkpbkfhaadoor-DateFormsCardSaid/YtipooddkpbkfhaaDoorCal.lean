/-
  date.leapYears, yearStart, monthLength, monthStart, Civil and Days: what each returns. Condition: the table of the months' lengths holds what the program's text lays.
-/
import Derived.Test.YtipooddkpbkfhaaDoorRows
import Derived.Test.YtipooddkpbkfhaaDoorCalMath
import Derived.WalkKit
import Derived.WalkLawsBesides
import Derived.Outline
import Derived.Lib.Hide
namespace Go.Proofs.YtipooddkpbkfhaaDoor.Dt
open Go.RowKit

theorem leapYears_any (y : Int) (w : World) (h0 : 0 ≤ y) (h1 : y ≤ 20000) :
    Calls Tryd.prog 36 #[.int .i64 y] w fun e w' => e = .returned (.int .i64 (lp y)) ∧ w = w' := by
  go_enter Tryd.func36, Tryd.ntmps36
  go_wp2_with fail
  go_ret
  exact ⟨rfl, rfl⟩

set_option maxHeartbeats 1000000 in
theorem yearStart_any (y : Int) (w : World) (h0 : 1970 ≤ y) (h1 : y ≤ 20000) :
    Calls Tryd.prog 24 #[.int .i64 y] w fun e w' => e = .returned (.int .i64 (yst y)) ∧ w = w' := by
  have hb := lp_bd (y - 1) (by omega) (by omega)
  go_enter Tryd.func24, Tryd.ntmps24
  go_wp2_with fail
  refine (leapYears_any (y - 1) w (by omega) (by omega)).mono ?_
  rintro e w' ⟨rfl, rfl⟩
  go_wp2_with fail
  refine (leapYears_any 1969 w (by omega) (by omega)).mono ?_
  rintro e w' ⟨rfl, rfl⟩
  rw [lp_1969]
  go_wp2_with fail
  go_ret
  exact ⟨rfl, rfl⟩

/-- The table of the months' lengths, as its initialiser lays it. -/
def MD (w : World) : Prop := ∀ k : Nat, k < 12 → w.cell? ⟨1, k, none⟩ = some (.int .i64 (mtab.getD k 0))
theorem MD.lt {w : World} (h : MD w) : 1 < w.heap.size := World.block_lt_of_cell? w _ (h 0 (by omega))
theorem MD.below {B : Nat} {w w' : World} (h : MD w) (hb : Below B w w') (hB : 1 < B) : MD w' := fun n hn => (hb.cell (p := ⟨1, n, none⟩) hB).trans (h n hn)

set_option maxHeartbeats 1000000 in
theorem monthLength_any (y m : Int) (k : Nat) (w : World) (h0 : 1970 ≤ y) (h1 : y ≤ 20000) (hk : k < 12) (hm : m = (k : Int) + 1) (hT : MD w) :
    Calls Tryd.prog 28 #[.int .i64 y, .int .i64 m] w fun e w' => e = .returned (.int .i64 (mlen y k)) ∧ w = w' := by
  have hc := hT k hk
  clear hT
  by_cases h2 : k = 1
  · subst h2
    have hm' : m = 2 := by omega
    subst hm'
    clear hm
    by_cases hl : lp (y - 1) < lp y
    · have HL := Lib.hid (show mlen y 1 = 29 from by rw [mlen_feb, if_pos hl])
      go_enter Tryd.func28, Tryd.ntmps28
      go_wp2_with fail
      refine (leapYears_any y w (by omega) (by omega)).mono ?_
      rintro e w' ⟨rfl, rfl⟩
      go_wp2_with fail
      refine (leapYears_any (y - 1) w (by omega) (by omega)).mono ?_
      rintro e w' ⟨rfl, rfl⟩
      go_wp2_with fail
      go_ret
      exact ⟨by rw [HL.out]; rfl, rfl⟩
    · have HL := Lib.hid (show mlen y 1 = 28 from by rw [mlen_feb, if_neg hl])
      have hd : decide (lp (y - 1) < lp y) = false := decide_eq_false hl
      have hc' : w.cell? ⟨1, 1, none⟩ = some (.int .i64 28) := hc
      clear hc hl
      go_enter Tryd.func28, Tryd.ntmps28
      go_wp2_with fail
      refine (leapYears_any y w (by omega) (by omega)).mono ?_
      rintro e w' ⟨rfl, rfl⟩
      go_wp2_with fail
      refine (leapYears_any (y - 1) w (by omega) (by omega)).mono ?_
      rintro e w' ⟨rfl, rfl⟩
      go_wp2_with fail
      go_ret
      exact ⟨by rw [HL.out]; rfl, rfl⟩
  · have HL := Lib.hid (mlen_other y k h2)
    subst hm
    have hd : ¬ ((k : Int) + 1 = 2) := by omega
    clear h2
    go_enter Tryd.func28, Tryd.ntmps28
    go_wp2_with fail
    go_ret
    exact ⟨by rw [HL.out]; rfl, rfl⟩

set_option maxHeartbeats 1000000 in
theorem monthStart_any (y m : Int) (k : Nat) (w : World) (h0 : 1970 ≤ y) (h1 : y ≤ 20000) (hk : k < 12) (hm : m = (k : Int) + 1) (hT : MD w) :
    Calls Tryd.prog 25 #[.int .i64 y, .int .i64 m] w fun e w' => e = .returned (.int .i64 (mst y k)) ∧ w = w' := by
  have HT := Lib.hid hT
  have hb := yst_bd y h0 h1
  clear hT
  go_enter Tryd.func25, Tryd.ntmps25
  go_wp2_with fail
  refine (yearStart_any y w (by omega) (by omega)).mono ?_
  rintro e w' ⟨rfl, rfl⟩
  go_wp2_with fail
  go_loop [5, 11] (fun d i => ∃ j : Nat, j ≤ k ∧ i = .int .i64 (j : Int) ∧ d = .int .i64 (mst y j)) (fun _ i => k - (intOf i).toNat)
  case atStart => exact ⟨0, Nat.zero_le _, rfl, by unfold mst msum; simp⟩
  case round =>
    obtain ⟨j, hj, rfl, rfl⟩ := hrel
    have hb1 := msum_bd y j (by omega)
    have hb2 : 0 ≤ mst y j ∧ mst y j ≤ 20000000 := by unfold mst; omega
    clear hb1
    by_cases hlt : j < k
    · have hb3 := mlen_pos y j (by omega)
      have HS := Lib.hid (show mst y (j + 1) = mst y j + mlen y j from by unfold mst; rw [show msum y (j + 1) = msum y j + mlen y j from rfl]; omega)
      go_wp2_with fail
      refine (monthLength_any y _ j w (by omega) (by omega) (by omega) rfl HT.out).mono ?_
      rintro e w' ⟨rfl, rfl⟩
      go_wp2_with fail
      go_round
      case rel => exact ⟨j + 1, by omega, by go_num, by rw [HS.out]⟩
      case measure => simp [intOf]; omega
    · obtain rfl : j = k := by omega
      go_wp2_with fail
      go_ret
      exact ⟨rfl, rfl⟩

set_option maxHeartbeats 2000000 in
theorem civil_in (day : Int) (w : World) (h0 : 0 ≤ day) (h1 : day ≤ 2932896) (hT : MD w) :
    Calls Tryd.prog 10 #[.int .i64 day] w fun e w' => (∃ (y : Int) (k : Nat) (d : Int), e = .returned (.tuple #[.int .i64 y, .int .i64 ((k : Int) + 1), .int .i64 d]) ∧ Valid y k d ∧ dayOf y k d = day) ∧ w = w' := by
  have HT := Lib.hid hT
  clear hT
  go_enter Tryd.func10, Tryd.ntmps10
  go_wp2_with fail
  go_loop [2] (fun v => ∃ y : Int, v = .int .i64 y ∧ 1970 ≤ y ∧ y ≤ 10005 ∧ Hid (day < yst (y + 1))) (fun v => (intOf v - 1970).toNat)
  case atStart => exact ⟨1970 + day / 365, rfl, by omega, by omega, Lib.hid (by unfold yst lp; omega)⟩
  case round =>
    obtain ⟨y, rfl, hy0, hy1, HY⟩ := hrel
    have hb := yst_bd y hy0 (by omega)
    by_cases hlt : day < yst y
    · have hy2 : 1971 ≤ y := by
        by_cases e : y = 1970
        · rw [e, yst_1970] at hlt; omega
        · omega
      have HL := Lib.hid hlt
      go_wp2_with fail
      refine (yearStart_any y w (by omega) (by omega)).mono ?_
      rintro e w' ⟨rfl, rfl⟩
      go_wp2_with fail
      go_round
      case rel => exact ⟨y - 1, rfl, by omega, by omega, Lib.hid (by rw [show y - 1 + 1 = y by omega]; exact HL.out)⟩
      case measure => simp [intOf]; omega
    · have hy3 : y ≤ 9999 := by
        by_cases e : y ≤ 9999
        · exact e
        · have := yst_mono (show 10000 ≤ y by omega)
          rw [yst_10000] at this; omega
      have HL := Lib.hid hlt
      go_wp2_with fail
      refine (yearStart_any y w (by omega) (by omega)).mono ?_
      rintro e w' ⟨rfl, rfl⟩
      go_wp2_with fail
      clear hlt
      go_loop [3] (fun v => ∃ k : Nat, v = .int .i64 ((k : Int) + 1) ∧ k < 12 ∧ Hid (day < mst y (k + 1))) (fun v => (intOf v).toNat)
      case atStart => exact ⟨11, rfl, by omega, Lib.hid (by rw [← yst_next]; exact HY.out)⟩
      case round =>
        obtain ⟨k, rfl, hk, HK⟩ := hrel
        have hb1 := msum_bd y k (by omega)
        have hb2 : 0 ≤ mst y k ∧ mst y k ≤ 20000000 := by unfold mst; omega
        clear hb1
        by_cases hlk : day < mst y k
        · have hk0 : 0 < k := by
            rcases Nat.eq_zero_or_pos k with e | e
            · subst e
              have hL := HL.out
              have : mst y 0 = yst y := by unfold mst msum; omega
              omega
            · exact e
          have HM := Lib.hid hlk
          go_wp2_with fail
          refine (monthStart_any y _ k w (by omega) (by omega) (by omega) rfl HT.out).mono ?_
          rintro e w' ⟨rfl, rfl⟩
          go_wp2_with fail
          go_round
          case rel => exact ⟨k - 1, by rw [show ((k - 1 : Nat) : Int) + 1 = (k : Int) by omega], by omega, Lib.hid (by rw [show k - 1 + 1 = k by omega]; exact HM.out)⟩
          case measure => simp [intOf]
        · have HV := Lib.hid (show Valid y k (day - mst y k + 1) from ⟨hy0, hy3, hk, by omega, by
            have h := HK.out
            rw [show mst y (k + 1) = mst y k + mlen y k from by unfold mst; rw [show msum y (k + 1) = msum y k + mlen y k from rfl]; omega] at h
            omega⟩)
          go_wp2_with fail
          refine (monthStart_any y _ k w (by omega) (by omega) (by omega) rfl HT.out).mono ?_
          rintro e w' ⟨rfl, rfl⟩
          go_wp2_with fail
          refine (monthStart_any y _ k w (by omega) (by omega) (by omega) rfl HT.out).mono ?_
          rintro e w' ⟨rfl, rfl⟩
          go_wp2_with fail
          go_ret3
          exact ⟨⟨y, k, day - mst y k + 1, rfl, HV.out, by unfold dayOf; omega⟩, rfl⟩

set_option maxHeartbeats 2000000 in
theorem days_valid (y m d : Int) (k : Nat) (w : World) (hm : m = (k : Int) + 1) (hv : Valid y k d) (hT : MD w) :
    Calls Tryd.prog 12 #[.int .i64 y, .int .i64 m, .int .i64 d] w fun e w' => e = .returned (.int .i64 (dayOf y k d)) ∧ w = w' := by
  have HT := Lib.hid hT
  obtain ⟨v0, v1, v2, v3, v4⟩ := hv
  have hb := yst_bd y (by omega) (by omega)
  have hb1 := msum_bd y k (by omega)
  have hb2 : 0 ≤ mst y k ∧ mst y k ≤ 20000000 := by unfold mst; omega
  have hb3 := mlen_pos y k v2
  clear hT hb1
  subst hm
  go_enter Tryd.func12, Tryd.ntmps12
  go_wp2_with fail
  refine (monthLength_any y _ k w (by omega) (by omega) (by omega) rfl HT.out).mono ?_
  rintro e w' ⟨rfl, rfl⟩
  go_wp2_with fail
  refine (monthStart_any y _ k w (by omega) (by omega) (by omega) rfl HT.out).mono ?_
  rintro e w' ⟨rfl, rfl⟩
  go_wp2_with fail
  go_ret
  exact ⟨rfl, rfl⟩

set_option maxHeartbeats 2000000 in
theorem days_long (y d : Int) (k : Nat) (w : World) (h0 : 1970 ≤ y) (h1 : y ≤ 9999) (hk : k < 12) (hd : mlen y k < d) (hT : MD w) :
    Calls Tryd.prog 12 #[.int .i64 y, .int .i64 ((k : Int) + 1), .int .i64 d] w fun e w' => e = .returned (.int .i64 (-1)) ∧ w = w' := by
  have HT := Lib.hid hT
  have hb3 := mlen_pos y k hk
  clear hT
  go_enter Tryd.func12, Tryd.ntmps12
  go_wp2_with fail
  refine (monthLength_any y _ k w (by omega) (by omega) (by omega) rfl HT.out).mono ?_
  rintro e w' ⟨rfl, rfl⟩
  go_wp2_with fail
  go_ret
  exact ⟨rfl, rfl⟩

set_option maxHeartbeats 2000000 in
theorem days_late (y m d : Int) (w : World) (h1 : 9999 < y) :
    Calls Tryd.prog 12 #[.int .i64 y, .int .i64 m, .int .i64 d] w fun e w' => e = .returned (.int .i64 (-1)) ∧ w = w' := by
  go_enter Tryd.func12, Tryd.ntmps12
  go_wp2_with fail
  go_ret
  exact ⟨rfl, rfl⟩

set_option maxHeartbeats 2000000 in
theorem days_month (y m d : Int) (w : World) (h0 : 1970 ≤ y) (h1 : y ≤ 9999) (hm : 12 < m) :
    Calls Tryd.prog 12 #[.int .i64 y, .int .i64 m, .int .i64 d] w fun e w' => e = .returned (.int .i64 (-1)) ∧ w = w' := by
  go_enter Tryd.func12, Tryd.ntmps12
  go_wp2_with fail
  go_ret
  exact ⟨rfl, rfl⟩
end Go.Proofs.YtipooddkpbkfhaaDoor.Dt
