/-
  Texts that the laws' proofs stand on, 3 of them in one file; each one's head says what it proves and under which condition.
-/
import Derived.Below
import Derived.Test.YtledjiikpajdaaaDoorRows
import Derived.WalkKit
import Derived.WalkLawsBesides
import Derived.Outline
import Derived.Lib.Hide
import Derived.Shelf.LaysM
import Derived.Shelf.Small.Wraps
import Derived.Test.YtledjiikpajdaaaDoorProg
/-
  The calendar, over plain integers: how long months and years are, which day a date is, that no two dates are one day. No program, no condition.
-/
namespace Go.Proofs.YtledjiikpajdaaaDoor.Dt

/-- How many leap years there are up to y. -/
def lp (y : Int) : Int := y / 4 - y / 100 + y / 400
/-- The first day of a year. -/
def yst (y : Int) : Int := 365 * (y - 1970) + lp (y - 1) - 477
def mtab : List Int := [31, 28, 31, 30, 31, 30, 31, 31, 30, 31, 30, 31]
/-- How many days the month k + 1 has. -/
def mlen (y : Int) (k : Nat) : Int := if k = 1 ∧ lp (y - 1) < lp y then 29 else mtab.getD k 0
/-- The days of a year's first k months. -/
def msum (y : Int) : Nat → Int
  | 0 => 0
  | k + 1 => msum y k + mlen y k
def mst (y : Int) (k : Nat) : Int := yst y + msum y k

theorem lp_step (y : Int) : lp y = lp (y - 1) ∨ lp y = lp (y - 1) + 1 := by unfold lp; omega
theorem lp_1969 : lp 1969 = 477 := by decide
theorem lp_bd (y : Int) (h0 : 0 ≤ y) (h1 : y ≤ 20000) : 0 ≤ lp y ∧ lp y ≤ 5000 := by unfold lp; omega
theorem leap_iff (y : Int) : lp (y - 1) < lp y ↔ (y % 4 = 0 ∧ (y % 100 ≠ 0 ∨ y % 400 = 0)) := by unfold lp; omega
theorem mlen_pos (y : Int) (k : Nat) (h : k < 12) : 28 ≤ mlen y k ∧ mlen y k ≤ 31 := by
  unfold mlen
  split
  · omega
  · match k, h with
    | 0, _ | 1, _ | 2, _ | 3, _ | 4, _ | 5, _ | 6, _ | 7, _ | 8, _ | 9, _ | 10, _ | 11, _ => decide
theorem mlen_dec (y : Int) : mlen y 11 = 31 := by unfold mlen; rw [if_neg (by omega)]; rfl
theorem mlen_jan (y : Int) : mlen y 0 = 31 := by unfold mlen; rw [if_neg (by omega)]; rfl
theorem mlen_feb (y : Int) : mlen y 1 = if lp (y - 1) < lp y then 29 else 28 := by
  unfold mlen
  by_cases h : lp (y - 1) < lp y
  · rw [if_pos ⟨rfl, h⟩, if_pos h]
  · rw [if_neg (fun x => h x.2), if_neg h]; rfl
theorem mlen_other (y : Int) (k : Nat) (h : k ≠ 1) : mlen y k = mtab.getD k 0 := by unfold mlen; rw [if_neg (fun x => h x.1)]
theorem msum_year (y : Int) : msum y 12 = if lp (y - 1) < lp y then 366 else 365 := by
  simp only [msum, mlen_feb]
  rw [mlen_other y 0 (by omega), mlen_other y 2 (by omega), mlen_other y 3 (by omega), mlen_other y 4 (by omega), mlen_other y 5 (by omega), mlen_other y 6 (by omega), mlen_other y 7 (by omega), mlen_other y 8 (by omega), mlen_other y 9 (by omega), mlen_other y 10 (by omega), mlen_other y 11 (by omega)]
  split <;> simp [mtab]
theorem yst_next (y : Int) : yst (y + 1) = mst y 12 := by
  unfold mst
  rw [msum_year]
  have h := lp_step y
  have e : yst (y + 1) = 365 * (y + 1 - 1970) + lp y - 477 := by unfold yst; rw [show y + 1 - 1 = y by omega]
  rw [e]
  unfold yst
  split <;> omega
theorem yst_1970 : yst 1970 = 0 := by decide
theorem yst_10000 : yst 10000 = 2932897 := by decide
theorem yst_mono {y z : Int} (h : y ≤ z) : yst y ≤ yst z := by unfold yst lp; omega
theorem msum_mono (y : Int) {j k : Nat} (h : j ≤ k) (hk : k ≤ 12) : msum y j ≤ msum y k := by
  induction k with
  | zero => rw [Nat.le_zero.1 h]; exact Int.le_refl _
  | succ k ih =>
    by_cases e : j = k + 1
    · rw [e]; exact Int.le_refl _
    · have h1 := ih (by omega) (by omega)
      have h2 := mlen_pos y k (by omega)
      show msum y j ≤ msum y k + mlen y k
      omega
theorem msum_bd (y : Int) (k : Nat) (h : k ≤ 12) : 0 ≤ msum y k ∧ msum y k ≤ 366 := by
  have h0 := msum_mono y (Nat.zero_le k) h
  have h1 := msum_mono y h (Nat.le_refl 12)
  have h2 := msum_year y
  rw [h2] at h1
  have h3 : msum y 0 = 0 := rfl
  split at h1 <;> omega
theorem yst_bd (y : Int) (h0 : 1970 ≤ y) (h1 : y ≤ 20000) : 0 ≤ yst y ∧ yst y ≤ 10000000 := by
  have h := yst_mono h0
  have h' := lp_bd (y - 1) (by omega) (by omega)
  rw [yst_1970] at h
  unfold yst
  unfold yst at h
  omega

/-- There is such a day; the month is counted from 0. -/
structure Valid (y : Int) (k : Nat) (d : Int) : Prop where
  y0 : 1970 ≤ y
  y1 : y ≤ 9999
  k1 : k < 12
  d0 : 1 ≤ d
  d1 : d ≤ mlen y k
/-- The day of a date. -/
def dayOf (y : Int) (k : Nat) (d : Int) : Int := mst y k + d - 1

theorem Valid.within {y : Int} {k : Nat} {d : Int} (h : Valid y k d) : yst y ≤ dayOf y k d ∧ dayOf y k d < yst (y + 1) := by
  have h1 := msum_mono y (Nat.zero_le k) (by have := h.k1; omega)
  have h2 := msum_mono y (show k + 1 ≤ 12 from h.k1) (Nat.le_refl 12)
  have h3 : msum y (k + 1) = msum y k + mlen y k := rfl
  have h4 : msum y 0 = 0 := rfl
  have h5 := h.d0
  have h6 := h.d1
  rw [yst_next]
  unfold dayOf mst
  omega
theorem Valid.range {y : Int} {k : Nat} {d : Int} (h : Valid y k d) : 0 ≤ dayOf y k d ∧ dayOf y k d ≤ 2932896 := by
  have h1 := h.within
  have h2 := yst_mono h.y0
  have h3 := yst_mono (show y + 1 ≤ 10000 by have := h.y1; omega)
  rw [yst_1970] at h2
  rw [yst_10000] at h3
  omega
theorem Valid.uniq {y z : Int} {k j : Nat} {d e : Int} (h : Valid y k d) (g : Valid z j e) (he : dayOf y k d = dayOf z j e) : y = z ∧ k = j ∧ d = e := by
  have h1 := h.within
  have g1 := g.within
  have hyz : y = z := by
    rcases Int.lt_trichotomy y z with c | c | c
    · have := yst_mono (show y + 1 ≤ z by omega); omega
    · exact c
    · have := yst_mono (show z + 1 ≤ y by omega); omega
  subst hyz
  have hd0 := h.d0; have hd1 := h.d1; have gd0 := g.d0; have gd1 := g.d1; have hk := h.k1; have gk := g.k1
  unfold dayOf mst at he
  have hkj : k = j := by
    rcases Nat.lt_trichotomy k j with c | c | c
    · have := msum_mono y (show k + 1 ≤ j from c) (by omega)
      have e1 : msum y (k + 1) = msum y k + mlen y k := rfl
      omega
    · exact c
    · have := msum_mono y (show j + 1 ≤ k from c) (by omega)
      have e1 : msum y (j + 1) = msum y j + mlen y j := rfl
      omega
  subst hkj
  exact ⟨rfl, rfl, by omega⟩
/-- The next day's date. -/
theorem Valid.next {y z : Int} {k j : Nat} {d e : Int} (h : Valid y k d) (g : Valid z j e) (he : dayOf z j e = dayOf y k d + 1) :
    (z = y ∧ j = k ∧ e = d + 1) ∨ (z = y ∧ j = k + 1 ∧ e = 1) ∨ (z = y + 1 ∧ j = 0 ∧ e = 1 ∧ k = 11 ∧ d = 31) := by
  by_cases c : d + 1 ≤ mlen y k
  · have v : Valid y k (d + 1) := ⟨h.y0, h.y1, h.k1, by have := h.d0; omega, c⟩
    obtain ⟨a, b, c⟩ := g.uniq v (by rw [he]; unfold dayOf; omega)
    exact .inl ⟨a, b, c⟩
  · have hd := h.d1
    have hdl : d = mlen y k := by omega
    by_cases ck : k + 1 < 12
    · have v : Valid y (k + 1) 1 := ⟨h.y0, h.y1, ck, by omega, by have := mlen_pos y (k + 1) ck; omega⟩
      obtain ⟨a, b, c⟩ := g.uniq v (by
        rw [he]; unfold dayOf mst
        have e1 : msum y (k + 1) = msum y k + mlen y k := rfl
        omega)
      exact .inr (.inl ⟨a, b, c⟩)
    · have hk : k = 11 := by have := h.k1; omega
      subst hk
      have hde : dayOf y 11 d + 1 = yst (y + 1) := by
        rw [yst_next]; unfold dayOf mst
        have e1 : msum y 12 = msum y 11 + mlen y 11 := rfl
        omega
      have hy : y + 1 ≤ 9999 := by
        by_cases c : y + 1 ≤ 9999
        · exact c
        · have hy1 := h.y1
          have : y + 1 = 10000 := by omega
          have hr := g.range
          rw [he, hde, this, yst_10000] at hr
          omega
      have v : Valid (y + 1) 0 1 := ⟨by have := h.y0; omega, hy, by omega, by omega, by rw [mlen_jan]; omega⟩
      obtain ⟨a, b, c⟩ := g.uniq v (by
        rw [he, hde]; unfold dayOf mst
        have e1 : msum (y + 1) 0 = 0 := rfl
        omega)
      exact .inr (.inr ⟨a, b, c, rfl, by rw [hdl, mlen_dec]⟩)
end Go.Proofs.YtledjiikpajdaaaDoor.Dt
/-
  date.leapYears, yearStart, monthLength, monthStart and Days: what each returns. Condition: the table of the months' lengths holds what the program's text lays.
-/
namespace Go.Proofs.YtledjiikpajdaaaDoor.Dp
open Go.RowKit Go.Proofs.YtledjiikpajdaaaDoor.Dt
set_option linter.unusedVariables false

theorem leapYears_any (y : Int) (w : World) (h0 : 0 ≤ y) (h1 : y ≤ 20000) :
    Calls Tryd.prog 88 #[.int .i64 y] w fun e w' => e = .returned (.int .i64 (lp y)) ∧ w = w' := by
  go_enter Tryd.func88, Tryd.ntmps88
  go_wp2_with fail
  go_ret
  exact ⟨rfl, rfl⟩
set_option maxHeartbeats 1000000 in
theorem yearStart_any (y : Int) (w : World) (h0 : 1970 ≤ y) (h1 : y ≤ 20000) :
    Calls Tryd.prog 72 #[.int .i64 y] w fun e w' => e = .returned (.int .i64 (yst y)) ∧ w = w' := by
  have hb := lp_bd (y - 1) (by omega) (by omega)
  go_enter Tryd.func72, Tryd.ntmps72
  go_wp2_with fail
  refine (leapYears_any (y - 1) w (by omega) (by omega)).mono ?_
  rintro e w' ⟨rfl, rfl⟩
  go_wp2_with fail
  refine (leapYears_any 1969 w (by omega) (by omega)).mono ?_
  rintro e w' ⟨rfl, rfl⟩
  rw [lp_1969]
  go_wp2_with fail
  go_ret
  exact ⟨rfl, rfl⟩
/-- The table of the months' lengths, as its initialiser lays it. -/
def MD (w : World) : Prop := ∀ k : Nat, k < 12 → w.cell? ⟨3, k, none⟩ = some (.int .i64 (mtab.getD k 0))
theorem MD.lt {w : World} (h : MD w) : 3 < w.heap.size := World.block_lt_of_cell? w _ (h 0 (by omega))
theorem MD.below {B : Nat} {w w' : World} (h : MD w) (hb : Below B w w') (hB : 3 < B) : MD w' := fun n hn => (hb.cell (p := ⟨3, n, none⟩) hB).trans (h n hn)
set_option maxHeartbeats 1000000 in
theorem monthLength_any (y m : Int) (k : Nat) (w : World) (h0 : 1970 ≤ y) (h1 : y ≤ 20000) (hk : k < 12) (hm : m = (k : Int) + 1) (hT : MD w) :
    Calls Tryd.prog 85 #[.int .i64 y, .int .i64 m] w fun e w' => e = .returned (.int .i64 (mlen y k)) ∧ w = w' := by
  have hc := hT k hk
  clear hT
  by_cases h2 : k = 1
  · subst h2
    have hm' : m = 2 := by omega
    subst hm'
    clear hm
    by_cases hl : lp (y - 1) < lp y
    · have HL := Lib.hid (show mlen y 1 = 29 from by rw [mlen_feb, if_pos hl])
      go_enter Tryd.func85, Tryd.ntmps85
      go_wp2_with fail
      refine (leapYears_any y w (by omega) (by omega)).mono ?_
      rintro e w' ⟨rfl, rfl⟩
      go_wp2_with fail
      refine (leapYears_any (y - 1) w (by omega) (by omega)).mono ?_
      rintro e w' ⟨rfl, rfl⟩
      go_wp2_with fail
      go_ret
      exact ⟨by rw [HL.out]; rfl, rfl⟩
    · have HL := Lib.hid (show mlen y 1 = 28 from by rw [mlen_feb, if_neg hl])
      have hd : decide (lp (y - 1) < lp y) = false := decide_eq_false hl
      have hc' : w.cell? ⟨3, 1, none⟩ = some (.int .i64 28) := hc
      clear hc hl
      go_enter Tryd.func85, Tryd.ntmps85
      go_wp2_with fail
      refine (leapYears_any y w (by omega) (by omega)).mono ?_
      rintro e w' ⟨rfl, rfl⟩
      go_wp2_with fail
      refine (leapYears_any (y - 1) w (by omega) (by omega)).mono ?_
      rintro e w' ⟨rfl, rfl⟩
      go_wp2_with fail
      go_ret
      exact ⟨by rw [HL.out]; rfl, rfl⟩
  · have HL := Lib.hid (mlen_other y k h2)
    subst hm
    have hd : ¬ ((k : Int) + 1 = 2) := by omega
    clear h2
    go_enter Tryd.func85, Tryd.ntmps85
    go_wp2_with fail
    go_ret
    exact ⟨by rw [HL.out]; rfl, rfl⟩
set_option maxHeartbeats 1000000 in
theorem monthStart_any (y m : Int) (k : Nat) (w : World) (h0 : 1970 ≤ y) (h1 : y ≤ 20000) (hk : k < 12) (hm : m = (k : Int) + 1) (hT : MD w) :
    Calls Tryd.prog 73 #[.int .i64 y, .int .i64 m] w fun e w' => e = .returned (.int .i64 (mst y k)) ∧ w = w' := by
  have HT := Lib.hid hT
  have hb := yst_bd y h0 h1
  clear hT
  go_enter Tryd.func73, Tryd.ntmps73
  go_wp2_with fail
  refine (yearStart_any y w (by omega) (by omega)).mono ?_
  rintro e w' ⟨rfl, rfl⟩
  go_wp2_with fail
  go_loop [5, 11] (fun d i => ∃ j : Nat, j ≤ k ∧ i = .int .i64 (j : Int) ∧ d = .int .i64 (mst y j)) (fun _ i => k - (intOf i).toNat)
  case atStart => exact ⟨0, Nat.zero_le _, rfl, by unfold mst msum; simp⟩
  case round =>
    obtain ⟨j, hj, rfl, rfl⟩ := hrel
    have hb1 := msum_bd y j (by omega)
    have hb2 : 0 ≤ mst y j ∧ mst y j ≤ 20000000 := by unfold mst; omega
    clear hb1
    by_cases hlt : j < k
    · have hb3 := mlen_pos y j (by omega)
      have HS := Lib.hid (show mst y (j + 1) = mst y j + mlen y j from by unfold mst; rw [show msum y (j + 1) = msum y j + mlen y j from rfl]; omega)
      go_wp2_with fail
      refine (monthLength_any y _ j w (by omega) (by omega) (by omega) rfl HT.out).mono ?_
      rintro e w' ⟨rfl, rfl⟩
      go_wp2_with fail
      go_round
      case rel => exact ⟨j + 1, by omega, by go_num, by rw [HS.out]⟩
      case measure => simp [intOf]; omega
    · obtain rfl : j = k := by omega
      go_wp2_with fail
      go_ret
      exact ⟨rfl, rfl⟩
set_option maxHeartbeats 2000000 in
theorem days_valid (y m d : Int) (k : Nat) (w : World) (hm : m = (k : Int) + 1) (hv : Valid y k d) (hT : MD w) :
    Calls Tryd.prog 69 #[.int .i64 y, .int .i64 m, .int .i64 d] w fun e w' => e = .returned (.int .i64 (dayOf y k d)) ∧ w = w' := by
  have HT := Lib.hid hT
  obtain ⟨v0, v1, v2, v3, v4⟩ := hv
  have hb := yst_bd y (by omega) (by omega)
  have hb1 := msum_bd y k (by omega)
  have hb2 : 0 ≤ mst y k ∧ mst y k ≤ 20000000 := by unfold mst; omega
  have hb3 := mlen_pos y k v2
  clear hT hb1
  subst hm
  go_enter Tryd.func69, Tryd.ntmps69
  go_wp2_with fail
  refine (monthLength_any y _ k w (by omega) (by omega) (by omega) rfl HT.out).mono ?_
  rintro e w' ⟨rfl, rfl⟩
  go_wp2_with fail
  refine (monthStart_any y _ k w (by omega) (by omega) (by omega) rfl HT.out).mono ?_
  rintro e w' ⟨rfl, rfl⟩
  go_wp2_with fail
  go_ret
  exact ⟨rfl, rfl⟩
set_option maxHeartbeats 2000000 in
theorem days_long (y d : Int) (k : Nat) (w : World) (h0 : 1970 ≤ y) (h1 : y ≤ 9999) (hk : k < 12) (hd : mlen y k < d) (hT : MD w) :
    Calls Tryd.prog 69 #[.int .i64 y, .int .i64 ((k : Int) + 1), .int .i64 d] w fun e w' => e = .returned (.int .i64 (-1)) ∧ w = w' := by
  have HT := Lib.hid hT
  have hb3 := mlen_pos y k hk
  clear hT
  go_enter Tryd.func69, Tryd.ntmps69
  go_wp2_with fail
  refine (monthLength_any y _ k w (by omega) (by omega) (by omega) rfl HT.out).mono ?_
  rintro e w' ⟨rfl, rfl⟩
  go_wp2_with fail
  go_ret
  exact ⟨rfl, rfl⟩
set_option maxHeartbeats 2000000 in
theorem days_late (y m d : Int) (w : World) (h1 : 9999 < y) :
    Calls Tryd.prog 69 #[.int .i64 y, .int .i64 m, .int .i64 d] w fun e w' => e = .returned (.int .i64 (-1)) ∧ w = w' := by
  go_enter Tryd.func69, Tryd.ntmps69
  go_wp2_with fail
  go_ret
  exact ⟨rfl, rfl⟩
set_option maxHeartbeats 2000000 in
theorem days_month (y m d : Int) (w : World) (h0 : 1970 ≤ y) (h1 : y ≤ 9999) (hm : 12 < m) :
    Calls Tryd.prog 69 #[.int .i64 y, .int .i64 m, .int .i64 d] w fun e w' => e = .returned (.int .i64 (-1)) ∧ w = w' := by
  go_enter Tryd.func69, Tryd.ntmps69
  go_wp2_with fail
  go_ret
  exact ⟨rfl, rfl⟩
end Go.Proofs.YtledjiikpajdaaaDoor.Dp
/-
  The library contract of strings.CutPrefix, at this translation: one application. No condition but what it states.
-/
namespace Go.Proofs.YtledjiikpajdaaaDoor.Dp
open Go.Shelf Go.RowKit
def lays103_ren : Go.Shelf.Ren := ⟨fun | 103 => 50 | 210 => 70 | 206 => 86 | n => n, fun | 9 => 9 | 4 => 4 | 24 => 84 | 3 => 3 | n => n, fun | n => n⟩
theorem lays103 : Go.Proofs.Lays.n103 Tryd.prog lays103_ren := {
  mixed := by kernel_rfl
  f103 := Tryd.func50.trans (congrArg some (by kernel_rfl))
  f206 := Tryd.func86.trans (congrArg some (by kernel_rfl))
  f210 := Tryd.func70.trans (congrArg some (by kernel_rfl))
  t3 := Tryd.underlying3
  a3 := Tryd.isAgg3
  z3 := Tryd.sizeOf3
  v3 := Tryd.zeroValue3
  t4 := Tryd.underlying4
  a4 := Tryd.isAgg4
  z4 := Tryd.sizeOf4
  v4 := Tryd.zeroValue4
  t9 := Tryd.underlying9
  a9 := Tryd.isAgg9
  z9 := Tryd.sizeOf9
  v9 := Tryd.zeroValue9
  t24 := Tryd.underlying84
  a24 := Tryd.isAgg84
  z24 := Tryd.sizeOf84
  v24 := Tryd.zeroValue84 }
open Go.RowKit in
theorem cutPrefix_any (s p : ByteArray) (w : World) :
    Calls Tryd.prog 50 #[.string s, .string p] w fun e w' => e = .returned (.tuple #[.string ⟨(Lib.trimPrefix s.data.toList p.data.toList).toArray⟩, .bool (Lib.hasPrefix s.data.toList p.data.toList)]) ∧ w' = w := Any.strings_CutPrefix lays103 s p w
end Go.Proofs.YtledjiikpajdaaaDoor.Dp
