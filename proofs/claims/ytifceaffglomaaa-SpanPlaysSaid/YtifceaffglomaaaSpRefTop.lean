/-
  The reference's change, Add, Remove, Gaps, Cut and Has: what each returns: what the program's do. Condition: a list of at most 2^63 spans.
-/
import Derived.Test.YtifceaffglomaaaSpRefOf
import Derived.Test.YtifceaffglomaaaSpGot
namespace Go.Proofs.Ytifceaffglomaaa.Sn
open Go.RowKit Go.Proofs.Ytifceaffglomaaa.Fd
set_option maxRecDepth 100000
set_option linter.unusedVariables false

/-- What is asked for by its number. -/
def askOf (what : Int) (l : List Sp) (s : Sp) : List Sp := if what = 1 then addOf l s else if what = 2 then remOf l s else if what = 3 then gapsOf l s else cutOf l s
theorem ask_is {what : Int} {l : List Sp} {s : Sp} {out : List Sp} (hw : what = 1 ∨ what = 2 ∨ what = 3 ∨ what = 4) (hl : Good (-1) l) (hs : Right s) (h : IsSet what l s out) : out = askOf what l s := by
  rcases hw with rfl | rfl | rfl | rfl
  · exact h.unique (add_set hl hs)
  · exact h.unique (rem_set hl hs)
  · exact h.unique (gaps_set hl hs)
  · exact h.unique (cut_set hl hs)
set_option maxHeartbeats 4000000 in
theorem change_any (what : Int) (hw : what = 1 ∨ what = 2) (v : Value) (l : List Sp) (x y : Int) (w : World) (h : Spans w v l) (hl : l.length ≤ 9223372036854775807) :
    Calls Try.prog 29 #[v, .agg #[.int .i64 x, .int .i64 y], .int .i64 what] w (ChgPost (okB l (x, y)) (askOf what l (x, y)) w) := by
  obtain ⟨a, cap, rfl⟩ := h.shape
  have hb0 := (Below.refl w.heap.size w).alloc (Nat.le_refl _) (.cells #[.int .i64 x, .int .i64 y] 24)
  have hk0 := new_block w (.cells #[.int .i64 x, .int .i64 y] 24)
  have hz0 : (w.alloc (.cells #[.int .i64 x, .int .i64 y] 24)).heap.size = w.heap.size + 1 := by simp
  have HP := Lib.hid (h.next hb0)
  have HL := Lib.hid hl
  clear h hl
  go_enter Try.func29, Try.ntmps29
  go_wp2_with fail
  refine (rvalid_any _ l _ HP.out HL.out).mono ?_
  rintro e w1 ⟨rfl, hb1⟩
  have hk1 := Bl.old hb1 (by omega) hk0
  have hB1 := Bl.next hb0 hb1
  have HP1 := Lib.hid (HP.out.next hb1)
  clear hb1 HP hk0
  have c0 := two0 hk1
  have c1 := two1 hk1
  cases hv : validB l with
  | false =>
    have HO := Lib.hid (show okB l (x, y) = false from by simp [okB, hv])
    clear hv
    go_wp2_with fail
    go_ret2
    exact ChgPost.bad HO.out hB1
  | true =>
    have HV := Lib.hid hv
    clear hv
    go_wp2_with fail
    refine (rright_any x y _).mono ?_
    rintro e w2 ⟨rfl, hb2⟩
    have hk2 := Bl.old hb2 (block_lt hk1) hk1
    have hB2 := Bl.next hB1 hb2
    have HP2 := Lib.hid (HP1.out.next hb2)
    clear hb2 HP1 hk1 c0 c1
    have c0 := two0 hk2
    have c1 := two1 hk2
    cases hr : rightB (x, y) with
    | false =>
      have HO := Lib.hid (show okB l (x, y) = false from by simp [okB, hr])
      clear hr
      go_wp2_with fail
      go_ret2
      exact ChgPost.bad HO.out hB2
    | true =>
      have HO := Lib.hid (show okB l (x, y) = true from by simp [okB, hr, HV.out])
      have HR := Lib.hid ((rightB_iff _).1 hr)
      have HD := Lib.hid ((validB_iff l).1 HV.out)
      clear hr
      go_wp2_with fail
      have hw4 : what = 1 ∨ what = 2 ∨ what = 3 ∨ what = 4 := by rcases hw with h | h <;> simp [h]
      refine (of_any what hw4 _ l x y _ HP2.out HD.out.len HD.out.good HR.out).mono ?_
      rintro e w3 ⟨v3, out, rfl, ho, hset, hol, hb3⟩
      have hB3 := Bl.next hB2 hb3
      have hout := ask_is hw4 HD.out.good HR.out hset
      have HQ := Lib.hid hout
      have HO3 := Lib.hid ho.spans
      obtain ⟨a3, c3, rfl⟩ := ho.form
      clear hb3 ho hset hout c0 c1
      by_cases h32 : out.length ≤ 32
      · have HE := Lib.hid (show errOf (okB l (x, y)) out = 0 from by simp [errOf, HO.out, h32])
        have HT := Lib.hid (show tellOf (okB l (x, y)) out = out from by simp [tellOf, HO.out, h32])
        go_wp2_with fail
        go_ret2
        exact ⟨_, by rw [← HQ.out, HE.out]; rfl, by rw [← HQ.out, HT.out]; exact HO3.out, hB3⟩
      · have HE := Lib.hid (show errOf (okB l (x, y)) out = 14 from by simp [errOf, HO.out, h32])
        have HT := Lib.hid (show tellOf (okB l (x, y)) out = [] from by simp [tellOf, HO.out, h32])
        have hgt : 32 < out.length := by omega
        go_wp2_with fail
        go_ret2
        exact ⟨_, by rw [← HQ.out, HE.out]; rfl, by rw [← HQ.out, HT.out]; exact Spans.nil _, hB3⟩
set_option maxHeartbeats 4000000 in
theorem rgaps_any (v : Value) (l : List Sp) (x y : Int) (w : World) (h : Spans w v l) (hl : l.length ≤ 9223372036854775807) :
    Calls Try.prog 20 #[v, .agg #[.int .i64 x, .int .i64 y]] w (ReadPost (gapsL l (x, y)) w) := by
  obtain ⟨a, cap, rfl⟩ := h.shape
  have hb0 := (Below.refl w.heap.size w).alloc (Nat.le_refl _) (.cells #[.int .i64 x, .int .i64 y] 24)
  have hk0 := new_block w (.cells #[.int .i64 x, .int .i64 y] 24)
  have hz0 : (w.alloc (.cells #[.int .i64 x, .int .i64 y] 24)).heap.size = w.heap.size + 1 := by simp
  have HP := Lib.hid (h.next hb0)
  have HL := Lib.hid hl
  clear h hl
  go_enter Try.func20, Try.ntmps20
  go_wp2_with fail
  refine (rvalid_any _ l _ HP.out HL.out).mono ?_
  rintro e w1 ⟨rfl, hb1⟩
  have hk1 := Bl.old hb1 (by omega) hk0
  have hB1 := Bl.next hb0 hb1
  have HP1 := Lib.hid (HP.out.next hb1)
  clear hb1 HP hk0
  have c0 := two0 hk1
  have c1 := two1 hk1
  cases hv : validB l with
  | false =>
    have HO := Lib.hid (show okB l (x, y) = false from by simp [okB, hv])
    clear hv
    go_wp2_with fail
    go_ret
    exact ⟨_, rfl, by rw [show gapsL l (x, y) = [] from by simp [gapsL, HO.out]]; exact Spans.nil _, hB1⟩
  | true =>
    have HV := Lib.hid hv
    clear hv
    go_wp2_with fail
    refine (rright_any x y _).mono ?_
    rintro e w2 ⟨rfl, hb2⟩
    have hk2 := Bl.old hb2 (block_lt hk1) hk1
    have hB2 := Bl.next hB1 hb2
    have HP2 := Lib.hid (HP1.out.next hb2)
    clear hb2 HP1 hk1 c0 c1
    have c0 := two0 hk2
    have c1 := two1 hk2
    cases hr : rightB (x, y) with
    | false =>
      have HO := Lib.hid (show okB l (x, y) = false from by simp [okB, hr])
      clear hr
      go_wp2_with fail
      go_ret
      exact ⟨_, rfl, by rw [show gapsL l (x, y) = [] from by simp [gapsL, HO.out]]; exact Spans.nil _, hB2⟩
    | true =>
      have HO := Lib.hid (show okB l (x, y) = true from by simp [okB, hr, HV.out])
      have HR := Lib.hid ((rightB_iff _).1 hr)
      have HD := Lib.hid ((validB_iff l).1 HV.out)
      clear hr
      go_wp2_with fail
      refine (of_any 3 (by decide) _ l x y _ HP2.out HD.out.len HD.out.good HR.out).mono ?_
      rintro e w3 ⟨v3, out, rfl, ho, hset, hol, hb3⟩
      have hB3 := Bl.next hB2 hb3
      have HE := Lib.hid (show out = gapsL l (x, y) from by rw [ask_is (by decide) HD.out.good HR.out hset]; simp [gapsL, HO.out, askOf])
      have HO3 := Lib.hid ho.spans
      obtain ⟨a3, c3, rfl⟩ := ho.form
      clear hb3 ho hset c0 c1
      go_wp2_with fail
      go_ret
      exact ⟨_, rfl, by rw [← HE.out]; exact HO3.out, hB3⟩
set_option maxHeartbeats 4000000 in
theorem rcut_any (v : Value) (l : List Sp) (x y : Int) (w : World) (h : Spans w v l) (hl : l.length ≤ 9223372036854775807) :
    Calls Try.prog 22 #[v, .agg #[.int .i64 x, .int .i64 y]] w (ReadPost (cutL l (x, y)) w) := by
  obtain ⟨a, cap, rfl⟩ := h.shape
  have hb0 := (Below.refl w.heap.size w).alloc (Nat.le_refl _) (.cells #[.int .i64 x, .int .i64 y] 24)
  have hk0 := new_block w (.cells #[.int .i64 x, .int .i64 y] 24)
  have hz0 : (w.alloc (.cells #[.int .i64 x, .int .i64 y] 24)).heap.size = w.heap.size + 1 := by simp
  have HP := Lib.hid (h.next hb0)
  have HL := Lib.hid hl
  clear h hl
  go_enter Try.func22, Try.ntmps22
  go_wp2_with fail
  refine (rvalid_any _ l _ HP.out HL.out).mono ?_
  rintro e w1 ⟨rfl, hb1⟩
  have hk1 := Bl.old hb1 (by omega) hk0
  have hB1 := Bl.next hb0 hb1
  have HP1 := Lib.hid (HP.out.next hb1)
  clear hb1 HP hk0
  have c0 := two0 hk1
  have c1 := two1 hk1
  cases hv : validB l with
  | false =>
    have HO := Lib.hid (show okB l (x, y) = false from by simp [okB, hv])
    clear hv
    go_wp2_with fail
    go_ret
    exact ⟨_, rfl, by rw [show cutL l (x, y) = [] from by simp [cutL, HO.out]]; exact Spans.nil _, hB1⟩
  | true =>
    have HV := Lib.hid hv
    clear hv
    go_wp2_with fail
    refine (rright_any x y _).mono ?_
    rintro e w2 ⟨rfl, hb2⟩
    have hk2 := Bl.old hb2 (block_lt hk1) hk1
    have hB2 := Bl.next hB1 hb2
    have HP2 := Lib.hid (HP1.out.next hb2)
    clear hb2 HP1 hk1 c0 c1
    have c0 := two0 hk2
    have c1 := two1 hk2
    cases hr : rightB (x, y) with
    | false =>
      have HO := Lib.hid (show okB l (x, y) = false from by simp [okB, hr])
      clear hr
      go_wp2_with fail
      go_ret
      exact ⟨_, rfl, by rw [show cutL l (x, y) = [] from by simp [cutL, HO.out]]; exact Spans.nil _, hB2⟩
    | true =>
      have HO := Lib.hid (show okB l (x, y) = true from by simp [okB, hr, HV.out])
      have HR := Lib.hid ((rightB_iff _).1 hr)
      have HD := Lib.hid ((validB_iff l).1 HV.out)
      clear hr
      go_wp2_with fail
      refine (of_any 4 (by decide) _ l x y _ HP2.out HD.out.len HD.out.good HR.out).mono ?_
      rintro e w3 ⟨v3, out, rfl, ho, hset, hol, hb3⟩
      have hB3 := Bl.next hB2 hb3
      have HE := Lib.hid (show out = cutL l (x, y) from by rw [ask_is (by decide) HD.out.good HR.out hset]; simp [cutL, HO.out, askOf])
      have HO3 := Lib.hid ho.spans
      obtain ⟨a3, c3, rfl⟩ := ho.form
      clear hb3 ho hset c0 c1
      go_wp2_with fail
      go_ret
      exact ⟨_, rfl, by rw [← HE.out]; exact HO3.out, hB3⟩
set_option maxHeartbeats 4000000 in
theorem rhas_any (v : Value) (l : List Sp) (x y : Int) (w : World) (h : Spans w v l) (hl : l.length ≤ 9223372036854775807) :
    Calls Try.prog 16 #[v, .agg #[.int .i64 x, .int .i64 y]] w (fun e w' => e = .returned (.bool (hasL l (x, y))) ∧ Below w.heap.size w w') := by
  obtain ⟨a, cap, rfl⟩ := h.shape
  have hb0 := (Below.refl w.heap.size w).alloc (Nat.le_refl _) (.cells #[.int .i64 x, .int .i64 y] 24)
  have hk0 := new_block w (.cells #[.int .i64 x, .int .i64 y] 24)
  have hz0 : (w.alloc (.cells #[.int .i64 x, .int .i64 y] 24)).heap.size = w.heap.size + 1 := by simp
  have HP := Lib.hid (h.next hb0)
  have HL := Lib.hid hl
  clear h hl
  go_enter Try.func16, Try.ntmps16
  go_wp2_with fail
  refine (rvalid_any _ l _ HP.out HL.out).mono ?_
  rintro e w1 ⟨rfl, hb1⟩
  have hk1 := Bl.old hb1 (by omega) hk0
  have hB1 := Bl.next hb0 hb1
  have HP1 := Lib.hid (HP.out.next hb1)
  clear hb1 HP hk0
  have c0 := two0 hk1
  have c1 := two1 hk1
  cases hv : validB l with
  | false =>
    have HO := Lib.hid (show okB l (x, y) = false from by simp [okB, hv])
    clear hv
    go_wp2_with fail
    go_ret
    exact ⟨by rw [show hasL l (x, y) = false from by simp [hasL, HO.out]]; rfl, hB1⟩
  | true =>
    have HV := Lib.hid hv
    clear hv
    go_wp2_with fail
    refine (rright_any x y _).mono ?_
    rintro e w2 ⟨rfl, hb2⟩
    have hk2 := Bl.old hb2 (block_lt hk1) hk1
    have hB2 := Bl.next hB1 hb2
    have HP2 := Lib.hid (HP1.out.next hb2)
    clear hb2 HP1 hk1 c0 c1
    have c0 := two0 hk2
    have c1 := two1 hk2
    cases hr : rightB (x, y) with
    | false =>
      have HO := Lib.hid (show okB l (x, y) = false from by simp [okB, hr])
      clear hr
      go_wp2_with fail
      go_ret
      exact ⟨by rw [show hasL l (x, y) = false from by simp [hasL, HO.out]]; rfl, hB2⟩
    | true =>
      have HO := Lib.hid (show okB l (x, y) = true from by simp [okB, hr, HV.out])
      have HR := Lib.hid ((rightB_iff _).1 hr)
      have HD := Lib.hid ((validB_iff l).1 HV.out)
      clear hr
      go_wp2_with fail
      refine (of_any 3 (by decide) _ l x y _ HP2.out HD.out.len HD.out.good HR.out).mono ?_
      rintro e w3 ⟨v3, out, rfl, ho, hset, hol, hb3⟩
      have hB3 := Bl.next hB2 hb3
      have HE := Lib.hid (show hasL l (x, y) = ((out.length : Int) == 0) from by
        rw [ask_is (by decide) HD.out.good HR.out hset]
        unfold hasL gapsL
        rw [HO.out, Bool.true_and, if_pos rfl]
        show decide ((gapsOf l (x, y)).length = 0) = (((gapsOf l (x, y)).length : Int) == 0)
        by_cases h0 : (gapsOf l (x, y)).length = 0
        · simp [h0]
        · rw [decide_eq_false h0]; symm; rw [beq_eq_false_iff_ne]; omega)
      obtain ⟨a3, c3, rfl⟩ := ho.form
      clear hb3 ho hset c0 c1
      go_wp2_with fail
      go_ret
      exact ⟨by rw [HE.out]; rfl, hB3⟩
set_option maxHeartbeats 4000000 in
theorem radd_any (v : Value) (l : List Sp) (x y : Int) (w : World) (h : Spans w v l) (hl : l.length ≤ 9223372036854775807) :
    Calls Try.prog 9 #[v, .agg #[.int .i64 x, .int .i64 y]] w (ChgPost (okB l (x, y)) (addOf l (x, y)) w) := by
  have hb0 := (Below.refl w.heap.size w).alloc (Nat.le_refl _) (.cells #[.int .i64 x, .int .i64 y] 24)
  have HP := Lib.hid (h.next hb0)
  obtain ⟨a, cap, rfl⟩ := h.shape
  clear h
  go_enter Try.func9, Try.ntmps9
  go_wp2_with fail
  refine (change_any 1 (by decide) _ l x y _ HP.out hl).mono ?_
  rintro e w1 ⟨v1, rfl, h1, hb1⟩
  have HE := Lib.hid (show askOf 1 l (x, y) = addOf l (x, y) from by simp [askOf])
  rw [HE.out] at h1
  rw [HE.out]
  have H1 := Lib.hid h1
  have hB := Bl.next hb0 hb1
  clear h1 hb1
  go_wp2_with fail
  go_ret2
  exact ⟨_, rfl, H1.out, hB⟩
set_option maxHeartbeats 4000000 in
theorem rremove_any (v : Value) (l : List Sp) (x y : Int) (w : World) (h : Spans w v l) (hl : l.length ≤ 9223372036854775807) :
    Calls Try.prog 11 #[v, .agg #[.int .i64 x, .int .i64 y]] w (ChgPost (okB l (x, y)) (remOf l (x, y)) w) := by
  have hb0 := (Below.refl w.heap.size w).alloc (Nat.le_refl _) (.cells #[.int .i64 x, .int .i64 y] 24)
  have HP := Lib.hid (h.next hb0)
  obtain ⟨a, cap, rfl⟩ := h.shape
  clear h
  go_enter Try.func11, Try.ntmps11
  go_wp2_with fail
  refine (change_any 2 (by decide) _ l x y _ HP.out hl).mono ?_
  rintro e w1 ⟨v1, rfl, h1, hb1⟩
  have HE := Lib.hid (show askOf 2 l (x, y) = remOf l (x, y) from by simp [askOf])
  rw [HE.out] at h1
  rw [HE.out]
  have H1 := Lib.hid h1
  have hB := Bl.next hb0 hb1
  clear h1 hb1
  go_wp2_with fail
  go_ret2
  exact ⟨_, rfl, H1.out, hB⟩
end Go.Proofs.Ytifceaffglomaaa.Sn
