/-
  date.reading.seconds of what there is, and date.Parse of a text that one of the forms reads so: what each returns. Conditions: the tables hold what the program's text lays; a text of at most a million bytes.
-/
import Derived.Test.YtipooddkpbkfhaaDoorRead
namespace Go.Proofs.YtipooddkpbkfhaaDoor.Dt
open Go.RowKit

theorem below_drawn {C : Nat} {a w w' : World} {n : Nat} (h : Below C a w) (e : w' = w.drewN n) : Below C a w' := by
  subst e; exact ⟨h.os, h.tape, h.output, h.size, h.block⟩

set_option maxHeartbeats 2000000 in
theorem seconds_ok (wd y d h mi s : Int) (k : Nat) (w : World) (hE : Env w) (hv : Valid y k d) (hw : (dayOf y k d + 3) % 7 = wd) (h0 : 0 ≤ h) (h1 : h ≤ 23) (m0 : 0 ≤ mi) (m1 : mi ≤ 59) (s0 : 0 ≤ s) (s1 : s ≤ 59) :
    Calls Tryd.prog 17 #[.agg #[.int .i64 wd, .int .i64 y, .int .i64 ((k : Int) + 1), .int .i64 d, .int .i64 h, .int .i64 mi, .int .i64 s]] w
      fun e w' => e = .returned (.tuple #[.int .i64 (dayOf y k d * 86400 + h * 3600 + mi * 60 + s), .bool true]) ∧ Below w.heap.size w w' := by
  have hr := hv.range
  have HV := Lib.hid hv
  have hmin : min s 59 = s := by omega
  obtain ⟨D, hD⟩ : ∃ D, D = dayOf y k d := ⟨_, rfl⟩
  rw [← hD] at hr hw ⊢
  have HD := Lib.hid hD
  have HM := Lib.hid ((hE.below ((Below.refl w.heap.size w).alloc (Nat.le_refl _) (.cells #[.int .i64 wd, .int .i64 y, .int .i64 ((k : Int) + 1), .int .i64 d, .int .i64 h, .int .i64 mi, .int .i64 s] 34)) (Nat.le_refl _)).md)
  have hneg : decide (D < 0) = false := decide_eq_false (by omega)
  have hneg' : ¬ D < 0 := by omega
  have HW := Lib.hid hw
  have HQ := Lib.hid (fun w' : World => (weekday_any D w' (by omega) (by omega)).mono (R' := fun e w'' => e = .returned (.int .i64 ((D + 3) % 7)) ∧ w'' = w') fun _ _ h => ⟨h.1, h.2.symm⟩)
  have hbq : ((D + 3) % 7 != wd) = false := by rw [hw]; simp
  clear hE hv hD
  go_enter Tryd.func17, Tryd.ntmps17
  go_wp2_with fail
  refine (days_valid _ _ _ k _ rfl HV.out HM.out).mono ?_
  rintro e w' ⟨rfl, rfl⟩
  rw [← HD.out]
  generalize hwa : w.alloc (.cells #[.int .i64 wd, .int .i64 y, .int .i64 ((k : Int) + 1), .int .i64 d, .int .i64 h, .int .i64 mi, .int .i64 s] 34) = wa
  have hva : wa.heap[w.heap.size]? = some (.cells (ints [wd, y, (k : Int) + 1, d, h, mi, s]) 34 (0, 0)) := by rw [← hwa]; exact heap_alloc_new _ _
  have HBA := Lib.hid (show Below w.heap.size w wa from by rw [← hwa]; exact (Below.refl _ _).alloc (Nat.le_refl _) _)
  have a0 := ints_at hva 0 (by simp)
  have a4 := ints_at hva 4 (by simp)
  have a5 := ints_at hva 5 (by simp)
  have a6 := ints_at hva 6 (by simp)
  simp only [List.getD_cons_zero, List.getD_cons_succ] at a0 a4 a5 a6
  clear hwa hva HM
  go_wp2_with fail
  go_quiet ((go_at_call 31; exact Calls.quiet_of_same (HQ.out _)))
  go_wp2_with fail
  go_ret2
  exact ⟨rfl, below_drawn HBA.out rfl⟩

/-- A reading that there is a second of. -/
structure There (R : List Int) (y : Int) (k : Nat) (d : Int) (c : Int) : Prop where
  eq : R = [(dayOf y k d + 3) % 7, y, (k : Int) + 1, d, c / 3600, c / 60 % 60, c % 60]
  valid : Valid y k d
  c0 : 0 ≤ c
  c1 : c < 86400
theorem There.seconds {R : List Int} {y : Int} {k : Nat} {d c : Int} (h : There R y k d c) (w : World) (hE : Env w) :
    Calls Tryd.prog 17 #[.agg (ints R)] w fun e w' => e = .returned (.tuple #[.int .i64 (dayOf y k d * 86400 + c), .bool true]) ∧ Below w.heap.size w w' := by
  rw [h.eq]
  have c0 := h.c0
  have c1 := h.c1
  have := seconds_ok _ y d (c / 3600) (c / 60 % 60) (c % 60) k w hE h.valid rfl (by omega) (by omega) (by omega) (by omega) (by omega) (by omega)
  rw [show dayOf y k d * 86400 + c / 3600 * 3600 + c / 60 % 60 * 60 + c % 60 = dayOf y k d * 86400 + c by omega] at this
  exact this

theorem put_length (i : Nat) (R : List Int) (s : Bs) (r : Option (Int × Bs)) : (put i R s r).2.1.length = R.length := by
  cases r <;> simp [put]
theorem fieldF_length (c : UInt8) (R : List Int) (s : Bs) (h : R.length = 7) : (fieldF c R s).2.1.length = 7 := by
  have hn : ∀ i k s, (numF i k R s).2.1.length = 7 := fun i k s => (put_length i R s _).trans h
  have hm : ∀ i k s, (nameF i k R s).2.1.length = 7 := fun i k s => (put_length i R s _).trans h
  unfold fieldF
  repeat' split
  all_goals simp [hn, hm]
theorem readF_length : ∀ (f : Bs) (R : List Int) (s : Bs), R.length = 7 → (readF f R s).2.length = 7
  | [], R, s, h => by simp [readF, h]
  | [c], R, s, h => by
    unfold readF
    split
    · rfl
    · split
      · rfl
      · split
        · exact h
        · rfl
  | c :: l :: f, R, s, h => by
    unfold readF
    split
    · split
      · exact readF_length f _ _ (fieldF_length l R s h)
      · rfl
    · split
      · rfl
      · split
        · exact readF_length (l :: f) _ _ h
        · rfl
theorem seven (Q : List Int) (h : Q.length = 7) : ∃ q0 q1 q2 q3 q4 q5 q6, Q = [q0, q1, q2, q3, q4, q5, q6] := by
  match Q, h with
  | [q0, q1, q2, q3, q4, q5, q6], _ => exact ⟨q0, q1, q2, q3, q4, q5, q6, rfl⟩

theorem formTexts_ok (j : Nat) (hj : j < 3) : okForm (formTexts.getD j []) = true ∧ (formTexts.getD j []).length ≤ 1000000 := by
  match j, hj with
  | 0, _ | 1, _ | 2, _ => decide
set_option maxHeartbeats 2000000 in
theorem parse_ok (s : Bs) (i : Nat) (R : List Int) (y : Int) (k : Nat) (d c : Int) (w : World) (hs : s.length ≤ 1000000) (hE : Env w) (hF : FM w) (hi : i < 3)
    (hbad : ∀ j, j < i → (readF (formTexts.getD j []) zeros s).1 = false) (hgood : readF (formTexts.getD i []) zeros s = (true, R)) (hR : There R y k d c) :
    Calls Tryd.prog 8 #[.string (B s)] w fun e w' => e = .returned (.tuple #[.int .i64 (dayOf y k d * 86400 + c), .bool true]) ∧ Below w.heap.size w w' := by
  have HE := Lib.hid hE
  have HF := Lib.hid hF
  have HS := Lib.hid hs
  have HBAD := Lib.hid hbad
  have HGOOD := Lib.hid hgood
  have HR := Lib.hid hR
  obtain ⟨S, hS⟩ : ∃ S, S = B s := ⟨_, rfl⟩
  rw [← hS]
  have HSE := Lib.hid hS
  clear hE hF hs hbad hgood hR hS
  go_enter Tryd.func8, Tryd.ntmps8
  go_wp2_with fail
  go_loopw [7] (fun v wr => ∃ j : Nat, j ≤ i ∧ v = .int .i64 (j : Int) ∧ Hid (Below w.heap.size w wr)) (fun v _ => i + 1 - (intOf v).toNat)
  case atStart => exact ⟨0, Nat.zero_le _, rfl, Lib.hid (Below.refl _ _)⟩
  case round =>
    obtain ⟨j, hj, rfl, HB⟩ := hrel
    have hj3 : j < 3 := by omega
    obtain ⟨T, hT⟩ : ∃ T, T = formTexts.getD j [] := ⟨_, rfl⟩
    have hcell : wr.cell? ⟨0, j, none⟩ = some (.string (B T)) := by rw [hT]; exact (HF.out.below HB.out (Nat.le_refl _)) j hj3
    have hok := formTexts_ok j hj3
    rw [← hT] at hok
    have HCALL := Lib.hid (show Calls Tryd.prog 16 #[.string S, .string (B T)] wr (fun e w' => e = .returned (.tuple #[.agg (ints (readF T zeros s).2), .bool (readF T zeros s).1]) ∧ Below wr.heap.size wr w') from by
      rw [HSE.out]; exact read_any s T wr HS.out hok.2 hok.1 (HE.out.below HB.out (Nat.le_refl _)))
    obtain ⟨X, hX⟩ : ∃ X, X = B T := ⟨_, rfl⟩
    rw [← hX] at hcell HCALL
    clear hok
    by_cases hlt : j < i
    · have HK := Lib.hid (show (readF T zeros s).1 = false from by rw [hT]; exact HBAD.out j hlt)
      obtain ⟨q0, q1, q2, q3, q4, q5, q6, hQ⟩ := seven _ (readF_length T zeros s rfl)
      have HQ := Lib.hid hQ
      clear hT hX hQ
      go_wp2_with fail
      refine HCALL.out.mono ?_
      rintro e w2 ⟨rfl, hb2⟩
      rw [HK.out, HQ.out, show ints [q0, q1, q2, q3, q4, q5, q6] = #[.int .i64 q0, .int .i64 q1, .int .i64 q2, .int .i64 q3, .int .i64 q4, .int .i64 q5, .int .i64 q6] from rfl]
      have HB2 := Lib.hid (HB.out.trans (hb2.mono HB.out.size))
      clear hb2
      go_wp2_with fail
      go_roundw
      case rel => exact ⟨j + 1, by omega, by go_num, Lib.hid (HB2.out.alloc HB2.out.size _)⟩
      case measure => simp [intOf]; omega
    · obtain rfl : j = i := by omega
      have HK := Lib.hid (show readF T zeros s = (true, R) from by rw [hT]; exact HGOOD.out)
      obtain ⟨q0, q1, q2, q3, q4, q5, q6, hQ⟩ := seven R (by rw [HR.out.eq]; rfl)
      have HQ := Lib.hid (show ints R = #[.int .i64 q0, .int .i64 q1, .int .i64 q2, .int .i64 q3, .int .i64 q4, .int .i64 q5, .int .i64 q6] from by rw [hQ]; rfl)
      have HSEC := Lib.hid (fun (w' : World) (h : Env w') => HR.out.seconds w' h)
      rw [HQ.out] at HSEC
      clear hT hX hQ
      go_wp2_with fail
      refine HCALL.out.mono ?_
      rintro e w2 ⟨rfl, hb2⟩
      rw [HK.out]
      simp only [HQ.out]
      have HB2 := Lib.hid (HB.out.trans (hb2.mono HB.out.size))
      have HE2 := Lib.hid (HE.out.below HB2.out (Nat.le_refl _))
      clear hb2
      go_wp2_with fail
      refine (HSEC.out _ (HE2.out.below ((Below.refl w2.heap.size w2).alloc (Nat.le_refl _) _) (Nat.le_refl _))).mono ?_
      rintro e w3 ⟨rfl, hb3⟩
      have HB3 := Lib.hid ((HB2.out.alloc HB2.out.size _).trans (hb3.mono (HB2.out.alloc HB2.out.size _).size))
      clear hb3
      go_wp2_with fail
      go_ret2
      exact ⟨rfl, HB3.out⟩
end Go.Proofs.YtipooddkpbkfhaaDoor.Dt
