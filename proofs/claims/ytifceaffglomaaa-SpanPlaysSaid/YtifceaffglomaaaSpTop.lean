/-
  span.Gaps, Cut and Has: what each returns. Condition: a list of at most 2^63 spans.
-/
import Derived.Test.YtifceaffglomaaaSpParts
import Derived.Test.YtifceaffglomaaaSpWithout
namespace Go.Proofs.Ytifceaffglomaaa.Sn
open Go.RowKit Go.Proofs.Ytifceaffglomaaa.Fd
set_option maxRecDepth 100000
set_option linter.unusedVariables false

/-- A slice that reads as these spans, and nothing else has changed. -/
def ReadPost (l : List Sp) (w : World) (e : Ending) (w' : World) : Prop := ∃ v, e = .returned v ∧ Spans w' v l ∧ Below w.heap.size w w'
set_option maxHeartbeats 4000000 in
theorem gaps_any (v : Value) (l : List Sp) (x y : Int) (w : World) (h : Spans w v l) (hl : l.length ≤ 9223372036854775807) :
    Calls Try.prog 19 #[v, .agg #[.int .i64 x, .int .i64 y]] w (ReadPost (gapsL l (x, y)) w) := by
  obtain ⟨a, cap, rfl⟩ := h.shape
  have hb0 := (Below.refl w.heap.size w).alloc (Nat.le_refl _) (.cells #[.int .i64 x, .int .i64 y] 24)
  have hk0 := new_block w (.cells #[.int .i64 x, .int .i64 y] 24)
  have hz0 : (w.alloc (.cells #[.int .i64 x, .int .i64 y] 24)).heap.size = w.heap.size + 1 := by simp
  have HP := Lib.hid (h.next hb0)
  have HL := Lib.hid hl
  clear h hl
  go_enter Try.func19, Try.ntmps19
  go_wp2_with fail
  refine (valid_any _ l _ HP.out HL.out).mono ?_
  rintro e w1 ⟨rfl, hb1⟩
  have hk1 := Bl.old hb1 (by omega) hk0
  have hB1 := Bl.next hb0 hb1
  have HP1 := Lib.hid (HP.out.next hb1)
  clear hb1 HP hk0
  have c0 := two0 hk1
  have c1 := two1 hk1
  cases hv : validB l with
  | false =>
    have HE := Lib.hid (show gapsL l (x, y) = [] from by simp [gapsL, okB, hv])
    clear hv
    go_wp2_with fail
    go_ret
    exact ⟨_, rfl, by rw [HE.out]; exact Spans.nil _, hB1⟩
  | true =>
    have HV := Lib.hid hv
    clear hv
    go_wp2_with fail
    refine (within_any x y _).mono ?_
    rintro e w2 ⟨rfl, hb2⟩
    have hk2 := Bl.old hb2 (block_lt hk1) hk1
    have hB2 := Bl.next hB1 hb2
    have HP2 := Lib.hid (HP1.out.next hb2)
    clear hb2 HP1 hk1 c0 c1
    have c0 := two0 hk2
    have c1 := two1 hk2
    cases hr : rightB (x, y) with
    | false =>
      have HE := Lib.hid (show gapsL l (x, y) = [] from by simp [gapsL, okB, hr])
      clear hr
      go_wp2_with fail
      go_ret
      exact ⟨_, rfl, by rw [HE.out]; exact Spans.nil _, hB2⟩
    | true =>
      have HE := Lib.hid (show gapsL l (x, y) = gapsOf l (x, y) from by simp [gapsL, okB, hr, HV.out])
      have HR := Lib.hid ((rightB_iff _).1 hr)
      have HD := Lib.hid ((validB_iff l).1 HV.out)
      clear hr
      go_wp2_with fail
      refine (parts_any _ l x y (-1) _ HP2.out HD.out.len HD.out.good HR.out.le).mono ?_
      rintro e w3 ⟨v1, v2, v3, rfl, p1, p2, p3, hb3⟩
      have hk3 := Bl.old hb3 (block_lt hk2) hk2
      have hB3 := Bl.next hB2 hb3
      have HM := Lib.hid p2
      have hml := met_len l (x, y)
      have hdl := HD.out.len
      clear hb3 hk2 c0 c1 p1 p2 p3
      have c0 := two0 hk3
      have c1 := two1 hk3
      go_wp2_with fail
      refine (without_any _ (metL l (x, y)) x y _ HM.out (by omega)).mono ?_
      rintro e w4 ⟨v4, rfl, ho, hb4⟩
      have HS := Lib.hid ho.spans
      have hB4 := Bl.next hB3 hb4
      clear ho hb4
      go_wp2_with fail
      go_ret
      exact ⟨_, rfl, by rw [HE.out]; exact HS.out, hB4⟩
set_option maxHeartbeats 4000000 in
theorem has_any (v : Value) (l : List Sp) (x y : Int) (w : World) (h : Spans w v l) (hl : l.length ≤ 9223372036854775807) :
    Calls Try.prog 15 #[v, .agg #[.int .i64 x, .int .i64 y]] w fun e w' => e = .returned (.bool (hasL l (x, y))) ∧ Below w.heap.size w w' := by
  obtain ⟨a, cap, rfl⟩ := h.shape
  have hb0 := (Below.refl w.heap.size w).alloc (Nat.le_refl _) (.cells #[.int .i64 x, .int .i64 y] 24)
  have hk0 := new_block w (.cells #[.int .i64 x, .int .i64 y] 24)
  have hz0 : (w.alloc (.cells #[.int .i64 x, .int .i64 y] 24)).heap.size = w.heap.size + 1 := by simp
  have HP := Lib.hid (h.next hb0)
  have HL := Lib.hid hl
  clear h hl
  go_enter Try.func15, Try.ntmps15
  go_wp2_with fail
  refine (valid_any _ l _ HP.out HL.out).mono ?_
  rintro e w1 ⟨rfl, hb1⟩
  have hk1 := Bl.old hb1 (by omega) hk0
  have hB1 := Bl.next hb0 hb1
  have HP1 := Lib.hid (HP.out.next hb1)
  clear hb1 HP hk0
  have c0 := two0 hk1
  have c1 := two1 hk1
  cases hv : validB l with
  | false =>
    have HE := Lib.hid (show hasL l (x, y) = false from by simp [hasL, okB, hv])
    clear hv
    go_wp2_with fail
    go_ret
    exact ⟨by rw [HE.out]; rfl, hB1⟩
  | true =>
    have HV := Lib.hid hv
    clear hv
    go_wp2_with fail
    refine (within_any x y _).mono ?_
    rintro e w2 ⟨rfl, hb2⟩
    have hk2 := Bl.old hb2 (block_lt hk1) hk1
    have hB2 := Bl.next hB1 hb2
    have HP2 := Lib.hid (HP1.out.next hb2)
    clear hb2 HP1 hk1 c0 c1
    have c0 := two0 hk2
    have c1 := two1 hk2
    cases hr : rightB (x, y) with
    | false =>
      have HE := Lib.hid (show hasL l (x, y) = false from by simp [hasL, okB, hr])
      clear hr
      go_wp2_with fail
      go_ret
      exact ⟨by rw [HE.out]; rfl, hB2⟩
    | true =>
      have HE := Lib.hid (show hasL l (x, y) = (((gapsL l (x, y)).length : Int) == 0) from by
        unfold hasL
        rw [show okB l (x, y) = true from by simp [okB, hr, HV.out], Bool.true_and]
        by_cases h0 : (gapsL l (x, y)).length = 0
        · simp [h0]
        · rw [decide_eq_false h0]; symm; rw [beq_eq_false_iff_ne]; omega)
      clear hr
      go_wp2_with fail
      refine (gaps_any _ l x y _ HP2.out HL.out).mono ?_
      rintro e w3 ⟨v3, rfl, p3, hb3⟩
      have hB3 := Bl.next hB2 hb3
      obtain ⟨b, c, rfl⟩ := p3.shape
      clear hb3 p3 c0 c1
      go_wp2_with fail
      go_ret
      exact ⟨by rw [HE.out]; rfl, hB3⟩
end Go.Proofs.Ytifceaffglomaaa.Sn
