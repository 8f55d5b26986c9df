/-
  Texts that the laws' proofs stand on, 3 of them in one file; each one's head says what it proves and under which condition.
-/
import Derived.Test.YtledjiikpajdaaaDoorVtAllP4
import Derived.Test.YtledjiikpajdaaaDoorVtAllP1
import Derived.Shelf.LaysM
import Derived.Shelf.Strconv.Itoa3
import Derived.Test.YtledjiikpajdaaaDoorProg
/-
  date.reading.seconds of what there is, and date.Parse of a text that one of the forms reads so: what each returns. Conditions: the tables hold what the program's text lays; a text of at most a million bytes.
-/
namespace Go.Proofs.YtledjiikpajdaaaDoor.Dp
open Go.RowKit Go.Proofs.YtledjiikpajdaaaDoor.Dt
set_option linter.unusedVariables false

theorem below_drawn {C : Nat} {a w w' : World} {n : Nat} (h : Below C a w) (e : w' = w.drewN n) : Below C a w' := by
  subst e; exact ⟨h.os, h.tape, h.output, h.size, h.block⟩
set_option maxHeartbeats 2000000 in
theorem seconds_ok (wd y d h mi s : Int) (k : Nat) (w : World) (hE : Env w) (hv : Valid y k d) (hw : (dayOf y k d + 3) % 7 = wd) (h0 : 0 ≤ h) (h1 : h ≤ 23) (m0 : 0 ≤ mi) (m1 : mi ≤ 59) (s0 : 0 ≤ s) (s1 : s ≤ 59) :
    Calls Tryd.prog 49 #[.agg #[.int .i64 wd, .int .i64 y, .int .i64 ((k : Int) + 1), .int .i64 d, .int .i64 h, .int .i64 mi, .int .i64 s]] w
      fun e w' => e = .returned (.tuple #[.int .i64 (dayOf y k d * 86400 + h * 3600 + mi * 60 + s), .bool true]) ∧ Below w.heap.size w w' := by
  have hr := hv.range
  have HV := Lib.hid hv
  have hmin : min s 59 = s := by omega
  obtain ⟨D, hD⟩ : ∃ D, D = dayOf y k d := ⟨_, rfl⟩
  rw [← hD] at hr hw ⊢
  have HD := Lib.hid hD
  have HM := Lib.hid ((hE.below ((Below.refl w.heap.size w).alloc (Nat.le_refl _) (.cells #[.int .i64 wd, .int .i64 y, .int .i64 ((k : Int) + 1), .int .i64 d, .int .i64 h, .int .i64 mi, .int .i64 s] 79)) (Nat.le_refl _)).md)
  have hneg : decide (D < 0) = false := decide_eq_false (by omega)
  have hneg' : ¬ D < 0 := by omega
  have HW := Lib.hid hw
  have HQ := Lib.hid (fun w' : World => (weekday_any D w' (by omega) (by omega)).mono (R' := fun e w'' => e = .returned (.int .i64 ((D + 3) % 7)) ∧ w'' = w') fun _ _ h => ⟨h.1, h.2.symm⟩)
  have hbq : ((D + 3) % 7 != wd) = false := by rw [hw]; simp
  clear hE hv hD
  go_enter Tryd.func49, Tryd.ntmps49
  go_wp2_with fail
  refine (days_valid _ _ _ k _ rfl HV.out HM.out).mono ?_
  rintro e w' ⟨rfl, rfl⟩
  rw [← HD.out]
  generalize hwa : w.alloc (.cells #[.int .i64 wd, .int .i64 y, .int .i64 ((k : Int) + 1), .int .i64 d, .int .i64 h, .int .i64 mi, .int .i64 s] 79) = wa
  have hva : wa.heap[w.heap.size]? = some (.cells (ints [wd, y, (k : Int) + 1, d, h, mi, s]) 79 (0, 0)) := by rw [← hwa]; exact heap_alloc_new _ _
  have HBA := Lib.hid (show Below w.heap.size w wa from by rw [← hwa]; exact (Below.refl _ _).alloc (Nat.le_refl _) _)
  have a0 := ints_at hva 0 (by simp)
  have a4 := ints_at hva 4 (by simp)
  have a5 := ints_at hva 5 (by simp)
  have a6 := ints_at hva 6 (by simp)
  simp only [List.getD_cons_zero, List.getD_cons_succ] at a0 a4 a5 a6
  clear hwa hva HM
  go_wp2_with fail
  go_quiet ((go_at_call 57; exact Calls.quiet_of_same (HQ.out _)))
  go_wp2_with fail
  go_ret2
  exact ⟨rfl, below_drawn HBA.out rfl⟩
/-- A reading that there is a second of. -/
structure There (R : List Int) (y : Int) (k : Nat) (d : Int) (c : Int) : Prop where
  eq : R = [(dayOf y k d + 3) % 7, y, (k : Int) + 1, d, c / 3600, c / 60 % 60, c % 60]
  valid : Valid y k d
  c0 : 0 ≤ c
  c1 : c < 86400
theorem There.seconds {R : List Int} {y : Int} {k : Nat} {d c : Int} (h : There R y k d c) (w : World) (hE : Env w) :
    Calls Tryd.prog 49 #[.agg (ints R)] w fun e w' => e = .returned (.tuple #[.int .i64 (dayOf y k d * 86400 + c), .bool true]) ∧ Below w.heap.size w w' := by
  rw [h.eq]
  have c0 := h.c0
  have c1 := h.c1
  have := seconds_ok _ y d (c / 3600) (c / 60 % 60) (c % 60) k w hE h.valid rfl (by omega) (by omega) (by omega) (by omega) (by omega) (by omega)
  rw [show dayOf y k d * 86400 + c / 3600 * 3600 + c / 60 % 60 * 60 + c % 60 = dayOf y k d * 86400 + c by omega] at this
  exact this
theorem put_length (i : Nat) (R : List Int) (s : Bs) (r : Option (Int × Bs)) : (put i R s r).2.1.length = R.length := by
  cases r <;> simp [put]
theorem fieldF_length (c : UInt8) (R : List Int) (s : Bs) (h : R.length = 7) : (fieldF c R s).2.1.length = 7 := by
  have hn : ∀ i k s, (numF i k R s).2.1.length = 7 := fun i k s => (put_length i R s _).trans h
  have hm : ∀ i k s, (nameF i k R s).2.1.length = 7 := fun i k s => (put_length i R s _).trans h
  unfold fieldF
  repeat' split
  all_goals simp [hn, hm]
theorem readF_length : ∀ (f : Bs) (R : List Int) (s : Bs), R.length = 7 → (readF f R s).2.length = 7
  | [], R, s, h => by simp [readF, h]
  | [c], R, s, h => by
    unfold readF
    split
    · rfl
    · split
      · rfl
      · split
        · exact h
        · rfl
  | c :: l :: f, R, s, h => by
    unfold readF
    split
    · split
      · exact readF_length f _ _ (fieldF_length l R s h)
      · rfl
    · split
      · rfl
      · split
        · exact readF_length (l :: f) _ _ h
        · rfl
theorem seven (Q : List Int) (h : Q.length = 7) : ∃ q0 q1 q2 q3 q4 q5 q6, Q = [q0, q1, q2, q3, q4, q5, q6] := by
  match Q, h with
  | [q0, q1, q2, q3, q4, q5, q6], _ => exact ⟨q0, q1, q2, q3, q4, q5, q6, rfl⟩
theorem formTexts_ok (j : Nat) (hj : j < 3) : okForm (formTexts.getD j []) = true ∧ (formTexts.getD j []).length ≤ 1000000 := by
  match j, hj with
  | 0, _ | 1, _ | 2, _ => decide
set_option maxHeartbeats 2000000 in
theorem parse_ok (s : Bs) (i : Nat) (R : List Int) (y : Int) (k : Nat) (d c : Int) (w : World) (hs : s.length ≤ 1000000) (hE : Env w) (hF : FM w) (hi : i < 3)
    (hbad : ∀ j, j < i → (readF (formTexts.getD j []) zeros s).1 = false) (hgood : readF (formTexts.getD i []) zeros s = (true, R)) (hR : There R y k d c) :
    Calls Tryd.prog 24 #[.string (B s)] w fun e w' => e = .returned (.tuple #[.int .i64 (dayOf y k d * 86400 + c), .bool true]) ∧ Below w.heap.size w w' := by
  have HE := Lib.hid hE
  have HF := Lib.hid hF
  have HS := Lib.hid hs
  have HBAD := Lib.hid hbad
  have HGOOD := Lib.hid hgood
  have HR := Lib.hid hR
  obtain ⟨S, hS⟩ : ∃ S, S = B s := ⟨_, rfl⟩
  rw [← hS]
  have HSE := Lib.hid hS
  clear hE hF hs hbad hgood hR hS
  go_enter Tryd.func24, Tryd.ntmps24
  go_wp2_with fail
  go_loopw [7] (fun v wr => ∃ j : Nat, j ≤ i ∧ v = .int .i64 (j : Int) ∧ Hid (Below w.heap.size w wr)) (fun v _ => i + 1 - (intOf v).toNat)
  case atStart => exact ⟨0, Nat.zero_le _, rfl, Lib.hid (Below.refl _ _)⟩
  case round =>
    obtain ⟨j, hj, rfl, HB⟩ := hrel
    have hj3 : j < 3 := by omega
    obtain ⟨T, hT⟩ : ∃ T, T = formTexts.getD j [] := ⟨_, rfl⟩
    have hcell : wr.cell? ⟨0, j, none⟩ = some (.string (B T)) := by rw [hT]; exact (HF.out.below HB.out (Nat.le_refl _)) j hj3
    have hok := formTexts_ok j hj3
    rw [← hT] at hok
    have HCALL := Lib.hid (show Calls Tryd.prog 48 #[.string S, .string (B T)] wr (fun e w' => e = .returned (.tuple #[.agg (ints (readF T zeros s).2), .bool (readF T zeros s).1]) ∧ Below wr.heap.size wr w') from by
      rw [HSE.out]; exact read_any s T wr HS.out hok.2 hok.1 (HE.out.below HB.out (Nat.le_refl _)))
    obtain ⟨X, hX⟩ : ∃ X, X = B T := ⟨_, rfl⟩
    rw [← hX] at hcell HCALL
    clear hok
    by_cases hlt : j < i
    · have HK := Lib.hid (show (readF T zeros s).1 = false from by rw [hT]; exact HBAD.out j hlt)
      obtain ⟨q0, q1, q2, q3, q4, q5, q6, hQ⟩ := seven _ (readF_length T zeros s rfl)
      have HQ := Lib.hid hQ
      clear hT hX hQ
      go_wp2_with fail
      refine HCALL.out.mono ?_
      rintro e w2 ⟨rfl, hb2⟩
      rw [HK.out, HQ.out, show ints [q0, q1, q2, q3, q4, q5, q6] = #[.int .i64 q0, .int .i64 q1, .int .i64 q2, .int .i64 q3, .int .i64 q4, .int .i64 q5, .int .i64 q6] from rfl]
      have HB2 := Lib.hid (HB.out.trans (hb2.mono HB.out.size))
      clear hb2
      go_wp2_with fail
      go_roundw
      case rel => exact ⟨j + 1, by omega, by go_num, Lib.hid (HB2.out.alloc HB2.out.size _)⟩
      case measure => simp [intOf]; omega
    · obtain rfl : j = i := by omega
      have HK := Lib.hid (show readF T zeros s = (true, R) from by rw [hT]; exact HGOOD.out)
      obtain ⟨q0, q1, q2, q3, q4, q5, q6, hQ⟩ := seven R (by rw [HR.out.eq]; rfl)
      have HQ := Lib.hid (show ints R = #[.int .i64 q0, .int .i64 q1, .int .i64 q2, .int .i64 q3, .int .i64 q4, .int .i64 q5, .int .i64 q6] from by rw [hQ]; rfl)
      have HSEC := Lib.hid (fun (w' : World) (h : Env w') => HR.out.seconds w' h)
      rw [HQ.out] at HSEC
      clear hT hX hQ
      go_wp2_with fail
      refine HCALL.out.mono ?_
      rintro e w2 ⟨rfl, hb2⟩
      rw [HK.out]
      simp only [HQ.out]
      have HB2 := Lib.hid (HB.out.trans (hb2.mono HB.out.size))
      have HE2 := Lib.hid (HE.out.below HB2.out (Nat.le_refl _))
      clear hb2
      go_wp2_with fail
      refine (HSEC.out _ (HE2.out.below ((Below.refl w2.heap.size w2).alloc (Nat.le_refl _) _) (Nat.le_refl _))).mono ?_
      rintro e w3 ⟨rfl, hb3⟩
      have HB3 := Lib.hid ((HB2.out.alloc HB2.out.size _).trans (hb3.mono (HB2.out.alloc HB2.out.size _).size))
      clear hb3
      go_wp2_with fail
      go_ret2
      exact ⟨rfl, HB3.out⟩
end Go.Proofs.YtledjiikpajdaaaDoor.Dp
/-
  date.Civil: what it returns. Condition: the table of the months' lengths holds what the program's text lays.
-/
namespace Go.Proofs.YtledjiikpajdaaaDoor.Dp
open Go.RowKit Go.Proofs.YtledjiikpajdaaaDoor.Dt
set_option linter.unusedVariables false

set_option maxHeartbeats 2000000 in
theorem civil_in (day : Int) (w : World) (h0 : 0 ≤ day) (h1 : day ≤ 2932896) (hT : MD w) :
    Calls Tryd.prog 54 #[.int .i64 day] w fun e w' => (∃ (y : Int) (k : Nat) (d : Int), e = .returned (.tuple #[.int .i64 y, .int .i64 ((k : Int) + 1), .int .i64 d]) ∧ Valid y k d ∧ dayOf y k d = day) ∧ w = w' := by
  have HT := Lib.hid hT
  clear hT
  go_enter Tryd.func54, Tryd.ntmps54
  go_wp2_with fail
  go_loop [2] (fun v => ∃ y : Int, v = .int .i64 y ∧ 1970 ≤ y ∧ y ≤ 10005 ∧ Hid (day < yst (y + 1))) (fun v => (intOf v - 1970).toNat)
  case atStart => exact ⟨1970 + day / 365, rfl, by omega, by omega, Lib.hid (by unfold yst lp; omega)⟩
  case round =>
    obtain ⟨y, rfl, hy0, hy1, HY⟩ := hrel
    have hb := yst_bd y hy0 (by omega)
    by_cases hlt : day < yst y
    · have hy2 : 1971 ≤ y := by
        by_cases e : y = 1970
        · rw [e, yst_1970] at hlt; omega
        · omega
      have HL := Lib.hid hlt
      go_wp2_with fail
      refine (yearStart_any y w (by omega) (by omega)).mono ?_
      rintro e w' ⟨rfl, rfl⟩
      go_wp2_with fail
      go_round
      case rel => exact ⟨y - 1, rfl, by omega, by omega, Lib.hid (by rw [show y - 1 + 1 = y by omega]; exact HL.out)⟩
      case measure => simp [intOf]; omega
    · have hy3 : y ≤ 9999 := by
        by_cases e : y ≤ 9999
        · exact e
        · have := yst_mono (show 10000 ≤ y by omega)
          rw [yst_10000] at this; omega
      have HL := Lib.hid hlt
      go_wp2_with fail
      refine (yearStart_any y w (by omega) (by omega)).mono ?_
      rintro e w' ⟨rfl, rfl⟩
      go_wp2_with fail
      clear hlt
      go_loop [3] (fun v => ∃ k : Nat, v = .int .i64 ((k : Int) + 1) ∧ k < 12 ∧ Hid (day < mst y (k + 1))) (fun v => (intOf v).toNat)
      case atStart => exact ⟨11, rfl, by omega, Lib.hid (by rw [← yst_next]; exact HY.out)⟩
      case round =>
        obtain ⟨k, rfl, hk, HK⟩ := hrel
        have hb1 := msum_bd y k (by omega)
        have hb2 : 0 ≤ mst y k ∧ mst y k ≤ 20000000 := by unfold mst; omega
        clear hb1
        by_cases hlk : day < mst y k
        · have hk0 : 0 < k := by
            rcases Nat.eq_zero_or_pos k with e | e
            · subst e
              have hL := HL.out
              have : mst y 0 = yst y := by unfold mst msum; omega
              omega
            · exact e
          have HM := Lib.hid hlk
          go_wp2_with fail
          refine (monthStart_any y _ k w (by omega) (by omega) (by omega) rfl HT.out).mono ?_
          rintro e w' ⟨rfl, rfl⟩
          go_wp2_with fail
          go_round
          case rel => exact ⟨k - 1, by rw [show ((k - 1 : Nat) : Int) + 1 = (k : Int) by omega], by omega, Lib.hid (by rw [show k - 1 + 1 = k by omega]; exact HM.out)⟩
          case measure => simp [intOf]
        · have HV := Lib.hid (show Valid y k (day - mst y k + 1) from ⟨hy0, hy3, hk, by omega, by
            have h := HK.out
            rw [show mst y (k + 1) = mst y k + mlen y k from by unfold mst; rw [show msum y (k + 1) = msum y k + mlen y k from rfl]; omega] at h
            omega⟩)
          go_wp2_with fail
          refine (monthStart_any y _ k w (by omega) (by omega) (by omega) rfl HT.out).mono ?_
          rintro e w' ⟨rfl, rfl⟩
          go_wp2_with fail
          refine (monthStart_any y _ k w (by omega) (by omega) (by omega) rfl HT.out).mono ?_
          rintro e w' ⟨rfl, rfl⟩
          go_wp2_with fail
          go_ret3
          exact ⟨⟨y, k, day - mst y k + 1, rfl, HV.out, by unfold dayOf; omega⟩, rfl⟩
end Go.Proofs.YtledjiikpajdaaaDoor.Dp
/-
  The library contracts of strconv.Itoa, at this translation: each one application. No condition but what each states.
-/
namespace Go.Proofs.YtledjiikpajdaaaDoor.Ln
open Go.Shelf Go.RowKit
def laysM171_ren : Go.Shelf.Ren := ⟨fun | 171 => 59 | 243 => 74 | 246 => 89 | 283 => 90 | 284 => 91 | 285 => 92 | 286 => 93 | 129 => 95 | 317 => 94 | 318 => 96 | 319 => 97 | 320 => 98 | 337 => 99 | 338 => 100 | n => n, fun | 3 => 3 | 9 => 9 | 2 => 2 | 4 => 4 | 171 => 107 | 0 => 0 | 53 => 108 | 37 => 62 | 5 => 5 | 173 => 111 | 212 => 114 | 51 => 115 | 20 => 20 | 213 => 116 | 46 => 117 | 232 => 120 | 233 => 121 | n => n, fun | 17 => 4 | 18 => 5 | 19 => 6 | n => n⟩
theorem laysM171 : Go.Proofs.LaysM.n171 Tryd.prog laysM171_ren := {
  mixed := by kernel_rfl
  f129 := Tryd.func95.trans (congrArg some (by kernel_rfl))
  f171 := Tryd.func59.trans (congrArg some (by kernel_rfl))
  f243 := Tryd.func74.trans (congrArg some (by kernel_rfl))
  f246 := Tryd.func89.trans (congrArg some (by kernel_rfl))
  f283 := Tryd.func90.trans (congrArg some (by kernel_rfl))
  f284 := Tryd.func91.trans (congrArg some (by kernel_rfl))
  f285 := Tryd.func92.trans (congrArg some (by kernel_rfl))
  f286 := Tryd.func93.trans (congrArg some (by kernel_rfl))
  f317 := Tryd.func94.trans (congrArg some (by kernel_rfl))
  f318 := Tryd.func96.trans (congrArg some (by kernel_rfl))
  f319 := Tryd.func97.trans (congrArg some (by kernel_rfl))
  f320 := Tryd.func98.trans (congrArg some (by kernel_rfl))
  f337 := Tryd.func99.trans (congrArg some (by kernel_rfl))
  f338 := Tryd.func100.trans (congrArg some (by kernel_rfl))
  t0 := Tryd.underlying0
  a0 := Tryd.isAgg0
  z0 := Tryd.sizeOf0
  v0 := Tryd.zeroValue0
  t2 := Tryd.underlying2
  a2 := Tryd.isAgg2
  z2 := Tryd.sizeOf2
  v2 := Tryd.zeroValue2
  t3 := Tryd.underlying3
  a3 := Tryd.isAgg3
  z3 := Tryd.sizeOf3
  v3 := Tryd.zeroValue3
  t4 := Tryd.underlying4
  a4 := Tryd.isAgg4
  z4 := Tryd.sizeOf4
  v4 := Tryd.zeroValue4
  t5 := Tryd.underlying5
  a5 := Tryd.isAgg5
  z5 := Tryd.sizeOf5
  v5 := Tryd.zeroValue5
  t9 := Tryd.underlying9
  a9 := Tryd.isAgg9
  z9 := Tryd.sizeOf9
  v9 := Tryd.zeroValue9
  t20 := Tryd.underlying20
  a20 := Tryd.isAgg20
  z20 := Tryd.sizeOf20
  v20 := Tryd.zeroValue20
  t37 := Tryd.underlying62
  a37 := Tryd.isAgg62
  z37 := Tryd.sizeOf62
  v37 := Tryd.zeroValue62
  t46 := Tryd.underlying117
  a46 := Tryd.isAgg117
  z46 := Tryd.sizeOf117
  v46 := Tryd.zeroValue117
  t51 := Tryd.underlying115
  a51 := Tryd.isAgg115
  z51 := Tryd.sizeOf115
  v51 := Tryd.zeroValue115
  t53 := Tryd.underlying108
  a53 := Tryd.isAgg108
  z53 := Tryd.sizeOf108
  v53 := Tryd.zeroValue108
  t171 := Tryd.underlying107
  a171 := Tryd.isAgg107
  z171 := Tryd.sizeOf107
  v171 := Tryd.zeroValue107
  t173 := Tryd.underlying111
  a173 := Tryd.isAgg111
  z173 := Tryd.sizeOf111
  v173 := Tryd.zeroValue111
  t212 := Tryd.underlying114
  a212 := Tryd.isAgg114
  z212 := Tryd.sizeOf114
  v212 := Tryd.zeroValue114
  t213 := Tryd.underlying116
  a213 := Tryd.isAgg116
  z213 := Tryd.sizeOf116
  t232 := Tryd.underlying120
  a232 := Tryd.isAgg120
  z232 := Tryd.sizeOf120
  v232 := Tryd.zeroValue120
  t233 := Tryd.underlying121
  a233 := Tryd.isAgg121
  z233 := Tryd.sizeOf121
  v233 := Tryd.zeroValue121
  g17 := by kernel_rfl
  g18 := by kernel_rfl
  g19 := by kernel_rfl
  i0 := by kernel_rfl
  i2 := by kernel_rfl
  i3 := by kernel_rfl
  i4 := by kernel_rfl
  i5 := by kernel_rfl
  i9 := by kernel_rfl
  i20 := by kernel_rfl
  i37 := by kernel_rfl
  i46 := by kernel_rfl
  i51 := by kernel_rfl
  i53 := by kernel_rfl
  i171 := by kernel_rfl
  i173 := by kernel_rfl
  i212 := by kernel_rfl
  i232 := by kernel_rfl
  i233 := by kernel_rfl
  m17 := by kernel_rfl
  m18 := by kernel_rfl
  m19 := by kernel_rfl }
open Go.RowKit Go.Sort Go.Lib in
theorem strconv_Itoa (n : Int) (h0 : -9223372036854775808 ≤ n) (h1 : n ≤ 9223372036854775807) (w : World) (htab : Lib.TabIs Tryd.prog w "internal/strconv.uint64pow10" .u64 Lib.pow10Tab) :
    Calls Tryd.prog 59 #[.int .i64 n] w fun e w' => e = .returned (.string ⟨(Lib.itoa n).toArray⟩) ∧ ∃ k os, w' = grow (w.drewN k) os := Any.strconv_Itoa laysM171 n h0 h1 w htab
def lays171_ren : Go.Shelf.Ren := ⟨fun | 171 => 59 | 243 => 74 | 246 => 89 | 283 => 90 | 284 => 91 | 285 => 92 | 286 => 93 | 129 => 95 | 317 => 94 | 318 => 96 | 319 => 97 | 320 => 98 | 337 => 99 | 338 => 100 | n => n, fun | 3 => 3 | 9 => 9 | 2 => 2 | 4 => 4 | 171 => 107 | 0 => 0 | 53 => 108 | 37 => 62 | 5 => 5 | 173 => 111 | 212 => 114 | 51 => 115 | 20 => 20 | 213 => 116 | 46 => 117 | 232 => 120 | 233 => 121 | n => n, fun | 17 => 4 | 18 => 5 | 19 => 6 | n => n⟩
theorem lays171 : Go.Proofs.Lays.n171 Tryd.prog lays171_ren := {
  mixed := by kernel_rfl
  f129 := Tryd.func95.trans (congrArg some (by kernel_rfl))
  f171 := Tryd.func59.trans (congrArg some (by kernel_rfl))
  f243 := Tryd.func74.trans (congrArg some (by kernel_rfl))
  f246 := Tryd.func89.trans (congrArg some (by kernel_rfl))
  f283 := Tryd.func90.trans (congrArg some (by kernel_rfl))
  f284 := Tryd.func91.trans (congrArg some (by kernel_rfl))
  f285 := Tryd.func92.trans (congrArg some (by kernel_rfl))
  f286 := Tryd.func93.trans (congrArg some (by kernel_rfl))
  f317 := Tryd.func94.trans (congrArg some (by kernel_rfl))
  f318 := Tryd.func96.trans (congrArg some (by kernel_rfl))
  f319 := Tryd.func97.trans (congrArg some (by kernel_rfl))
  f320 := Tryd.func98.trans (congrArg some (by kernel_rfl))
  f337 := Tryd.func99.trans (congrArg some (by kernel_rfl))
  f338 := Tryd.func100.trans (congrArg some (by kernel_rfl))
  t0 := Tryd.underlying0
  a0 := Tryd.isAgg0
  z0 := Tryd.sizeOf0
  v0 := Tryd.zeroValue0
  t2 := Tryd.underlying2
  a2 := Tryd.isAgg2
  z2 := Tryd.sizeOf2
  v2 := Tryd.zeroValue2
  t3 := Tryd.underlying3
  a3 := Tryd.isAgg3
  z3 := Tryd.sizeOf3
  v3 := Tryd.zeroValue3
  t4 := Tryd.underlying4
  a4 := Tryd.isAgg4
  z4 := Tryd.sizeOf4
  v4 := Tryd.zeroValue4
  t5 := Tryd.underlying5
  a5 := Tryd.isAgg5
  z5 := Tryd.sizeOf5
  v5 := Tryd.zeroValue5
  t9 := Tryd.underlying9
  a9 := Tryd.isAgg9
  z9 := Tryd.sizeOf9
  v9 := Tryd.zeroValue9
  t20 := Tryd.underlying20
  a20 := Tryd.isAgg20
  z20 := Tryd.sizeOf20
  v20 := Tryd.zeroValue20
  t37 := Tryd.underlying62
  a37 := Tryd.isAgg62
  z37 := Tryd.sizeOf62
  v37 := Tryd.zeroValue62
  t46 := Tryd.underlying117
  a46 := Tryd.isAgg117
  z46 := Tryd.sizeOf117
  v46 := Tryd.zeroValue117
  t51 := Tryd.underlying115
  a51 := Tryd.isAgg115
  z51 := Tryd.sizeOf115
  v51 := Tryd.zeroValue115
  t53 := Tryd.underlying108
  a53 := Tryd.isAgg108
  z53 := Tryd.sizeOf108
  v53 := Tryd.zeroValue108
  t171 := Tryd.underlying107
  a171 := Tryd.isAgg107
  z171 := Tryd.sizeOf107
  v171 := Tryd.zeroValue107
  t173 := Tryd.underlying111
  a173 := Tryd.isAgg111
  z173 := Tryd.sizeOf111
  v173 := Tryd.zeroValue111
  t212 := Tryd.underlying114
  a212 := Tryd.isAgg114
  z212 := Tryd.sizeOf114
  v212 := Tryd.zeroValue114
  t213 := Tryd.underlying116
  a213 := Tryd.isAgg116
  z213 := Tryd.sizeOf116
  t232 := Tryd.underlying120
  a232 := Tryd.isAgg120
  z232 := Tryd.sizeOf120
  v232 := Tryd.zeroValue120
  t233 := Tryd.underlying121
  a233 := Tryd.isAgg121
  z233 := Tryd.sizeOf121
  v233 := Tryd.zeroValue121
  g17 := by kernel_rfl
  g18 := by kernel_rfl
  g19 := by kernel_rfl }
open Go.RowKit Go.Sort Go.Lib in
theorem strconv_Itoa_small (i : Nat) (hi : i < 100) (w : World) :
    Calls Tryd.prog 59 #[.int .i64 i] w fun e w' => e = .returned (.string ⟨(Lib.decDigits i).toArray⟩) ∧ w' = w := Any.strconv_Itoa_small lays171 i hi w
end Go.Proofs.YtledjiikpajdaaaDoor.Ln
