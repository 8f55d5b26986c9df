/-
  span.Add: what it returns. Condition: a list of at most 2^63 spans.
-/
import Derived.Test.YtifceaffglomaaaSpTopR
namespace Go.Proofs.Ytifceaffglomaaa.Sn
open Go.RowKit Go.Proofs.Ytifceaffglomaaa.Fd
set_option maxRecDepth 100000
set_option linter.unusedVariables false

set_option maxHeartbeats 4000000 in
theorem add_any (v : Value) (l : List Sp) (x y : Int) (w : World) (h : Spans w v l) (hl : l.length ≤ 9223372036854775807) :
    Calls Try.prog 8 #[v, .agg #[.int .i64 x, .int .i64 y]] w (ChgPost (okB l (x, y)) (addOf l (x, y)) w) := by
  obtain ⟨a, cap, rfl⟩ := h.shape
  have hb0 := (Below.refl w.heap.size w).alloc (Nat.le_refl _) (.cells #[.int .i64 x, .int .i64 y] 24)
  have hk0 := new_block w (.cells #[.int .i64 x, .int .i64 y] 24)
  have hz0 : (w.alloc (.cells #[.int .i64 x, .int .i64 y] 24)).heap.size = w.heap.size + 1 := by simp
  have HP := Lib.hid (h.next hb0)
  have HP0 := Lib.hid h
  have HL := Lib.hid hl
  clear h hl
  go_enter Try.func8, Try.ntmps8
  go_wp2_with fail
  refine (valid_any _ l _ HP.out HL.out).mono ?_
  rintro e w1 ⟨rfl, hb1⟩
  have hk1 := Bl.old hb1 (by omega) hk0
  have hB1 := Bl.next hb0 hb1
  have HP1 := Lib.hid (HP.out.next hb1)
  clear hb1 HP hk0
  have c0 := two0 hk1
  have c1 := two1 hk1
  cases hv : validB l with
  | false =>
    have HO := Lib.hid (show okB l (x, y) = false from by simp [okB, hv])
    clear hv
    go_wp2_with fail
    go_ret2
    exact ChgPost.bad HO.out hB1
  | true =>
    have HV := Lib.hid hv
    clear hv
    go_wp2_with fail
    refine (within_any x y _).mono ?_
    rintro e w2 ⟨rfl, hb2⟩
    have hk2 := Bl.old hb2 (block_lt hk1) hk1
    have hB2 := Bl.next hB1 hb2
    have HP2 := Lib.hid (HP1.out.next hb2)
    clear hb2 HP1 hk1 c0 c1
    have c0 := two0 hk2
    have c1 := two1 hk2
    cases hr : rightB (x, y) with
    | false =>
      have HO := Lib.hid (show okB l (x, y) = false from by simp [okB, hr])
      clear hr
      go_wp2_with fail
      go_ret2
      exact ChgPost.bad HO.out hB2
    | true =>
      have HO := Lib.hid (show okB l (x, y) = true from by simp [okB, hr, HV.out])
      have HR := Lib.hid ((rightB_iff _).1 hr)
      have HD := Lib.hid ((validB_iff l).1 HV.out)
      clear hr
      have hx0 : 0 ≤ x := HR.out.low
      have hxy : x ≤ y := HR.out.le
      have hyt : y ≤ 1048576 := by have := HR.out.top; unfold mostB at this; exact this
      go_wp2_with fail
      refine (parts_any2 _ l (x - 1) (y + 1) (-1) _ HP2.out HD.out.len HD.out.good (by omega)).mono ?_
      rintro e w3 ⟨v1, v2, v3, rfl, hS, hb3⟩
      have hk3 := Bl.old hb3 (block_lt hk2) hk2
      have hB3 := Bl.next hB2 hb3
      have hal := ahead_len l (x - 1, y + 1)
      have hml := met_len l (x - 1, y + 1)
      have hbl := behind_len l (x - 1, y + 1)
      have hdl := HD.out.len
      have HE := Lib.hid (show addOf l (x, y) = aheadL l (x - 1, y + 1) ++ (filledL (allOf (x, y) (metL l (x - 1, y + 1))) ++ behindL l (x - 1, y + 1)) from rfl)
      have hlt3 := block_lt hk3
      obtain ⟨p1, p2, p3⟩ := hS w HP0.out
      obtain ⟨a1, k1, hv1⟩ := p1.shape
      obtain ⟨a3, k3, hv3⟩ := p3.shape
      subst hv1 hv3
      have P1 := Lib.hid p1
      have P3 := Lib.hid p3
      clear p1 p3 hS
      have HFIN := Lib.hid (show ∀ (wr : World) (f t : Int) (o : Value), Below w.heap.size w wr → Spans wr o (filledL (f, t)) → allOf (x, y) (metL l (x - 1, y + 1)) = (f, t) →
          Calls Try.prog 27 #[.slice (some ⟨wr.heap.size, 0, none⟩) 3 3] (wr.alloc (.cells #[.slice a1 (aheadL l (x - 1, y + 1)).length k1, o, .slice a3 (behindL l (x - 1, y + 1)).length k3] 22)) (ChgPost (okB l (x, y)) (addOf l (x, y)) w) from by
        intro wr f t o hB ho he
        have hA := (Below.refl wr.heap.size wr).alloc (Nat.le_refl _) (.cells #[.slice a1 (aheadL l (x - 1, y + 1)).length k1, o, .slice a3 (behindL l (x - 1, y + 1)).length k3] 22)
        have hfl := filledL_len (f, t)
        have hs := set_any [(.slice a1 (aheadL l (x - 1, y + 1)).length k1, aheadL l (x - 1, y + 1)), (o, filledL (f, t)), (.slice a3 (behindL l (x - 1, y + 1)).length k3, behindL l (x - 1, y + 1))] wr.heap.size (wr.alloc (.cells #[.slice a1 (aheadL l (x - 1, y + 1)).length k1, o, .slice a3 (behindL l (x - 1, y + 1)).length k3] 22)) (three_at ((P1.out.next hB).next hA) (ho.next hA) ((P3.out.next hB).next hA)) (new_block wr _) (by simp) (by rw [joined3]; simp only [List.length_append]; omega)
        refine hs.mono ?_
        intro e w' h
        rw [joined3] at h
        rw [HE.out, he]
        exact ChgPost.good HO.out (Bl.next hB hA) h)
      clear hk2 c0 c1 hal hbl
      generalize metL l (x - 1, y + 1) = M at p2 hml HE HFIN
      have c0 := two0 hk3
      have c1 := two1 hk3
      rcases p2 with ⟨rfl, ma, mc, rfl⟩ | ⟨b, off, mc, rfl, _, _, hlt, hs⟩
      · go_wp2_with fail
        refine wp_loop_rounds 1 ?_
        rw [rounds_succ]
        go_wp2_with fail
        refine (filled_any x y _).mono ?_
        rintro e w4 ⟨v4, rfl, ho4, hb4⟩
        obtain ⟨a4, k4, hv4⟩ := ho4.spans.shape
        subst hv4
        have HC := Lib.hid (HFIN.out w4 x y _ (Bl.next hB3 hb4) ho4.spans rfl)
        clear ho4 hb4 c0 c1
        go_wp2_with fail
        refine HC.out.mono ?_
        rintro e w5 ⟨v5, rfl, h5, hb5⟩
        have H5 := Lib.hid h5
        clear h5
        go_wp2_with fail
        go_ret2
        exact ⟨_, rfl, H5.out, hb5⟩
      · have HS := Lib.hid hs
        clear hs
        clear c0 c1
        go_wp2_with fail
        go_loopw [34] (fun i wr => ∃ (k : Nat) (f t : Int), k ≤ M.length ∧ i = .int .i64 (k : Int) ∧ wr.heap[w.heap.size]? = some (.cells #[.int .i64 f, .int .i64 t] 24 (0, 0)) ∧ allOf (x, y) M = allOf (f, t) (M.drop k) ∧ Below w.heap.size w wr) (fun i _ => M.length - (intOf i).toNat)
        case atStart => exact ⟨0, x, y, Nat.zero_le _, rfl, hk3, rfl, hB3⟩
        case round =>
          obtain ⟨k, f, t, hk, rfl, hbox, hg, hB⟩ := hrel
          have HG := Lib.hid hg
          have hsz := hB.size
          have hwb : w.heap.size < wr.heap.size := block_lt hbox
          clear hg
          have c0 := two0 hbox
          have c1 := two1 hbox
          by_cases hlt2 : k < M.length
          · have hd := drop_cons M k hlt2
            have d0 := (hB.cell (p := ⟨b, off + k * 2, none⟩) hlt).trans (HS.out k hlt2).1
            have d1 := (hB.cell (p := ⟨b, off + k * 2 + 1, none⟩) hlt).trans (HS.out k hlt2).2
            obtain ⟨p, hp⟩ : ∃ p, p = M[k].1 := ⟨_, rfl⟩
            obtain ⟨q, hq⟩ : ∃ q, q = M[k].2 := ⟨_, rfl⟩
            rw [show M[k] = (M[k].1, M[k].2) from rfl, ← hp, ← hq] at hd
            rw [← hp] at d0
            rw [← hq] at d1
            have HN := Lib.hid (show allOf (x, y) M = allOf (min f p, max t q) (M.drop (k + 1)) from by rw [HG.out, hd]; rfl)
            clear hp hq hd
            have hf0 := free hbox 0
            have hf1 := free hbox 1
            have HBX := Lib.hid hbox
            clear hbox
            go_wp2_with fail
            go_roundw
            case rel =>
              have hput := put2 HBX.out (.int .i64 (min f p)) (.int .i64 (max t q))
              have hbl := put2_below hB (Nat.le_refl w.heap.size) (.int .i64 (min f p)) (.int .i64 (max t q))
              exact ⟨k + 1, min f p, max t q, by omega, by go_num, (old_block _ _ (block_lt hput)).trans hput, HN.out, hbl.alloc hbl.size _⟩
            case measure => simp [intOf]; omega
          · have HT := Lib.hid (show allOf (x, y) M = (f, t) from by rw [HG.out, List.drop_of_length_le (by omega)]; rfl)
            go_wp2_with fail
            refine (filled_any f t _).mono ?_
            rintro e w4 ⟨v4, rfl, ho4, hb4⟩
            obtain ⟨a4, k4, hv4⟩ := ho4.spans.shape
            subst hv4
            have HC := Lib.hid (HFIN.out w4 f t _ (Bl.next hB hb4) ho4.spans HT.out)
            clear ho4 hb4 c0 c1
            go_wp2_with fail
            refine HC.out.mono ?_
            rintro e w5 ⟨v5, rfl, h5, hb5⟩
            have H5 := Lib.hid h5
            clear h5
            go_wp2_with fail
            go_ret2
            exact ⟨_, rfl, H5.out, hb5⟩
end Go.Proofs.Ytifceaffglomaaa.Sn
