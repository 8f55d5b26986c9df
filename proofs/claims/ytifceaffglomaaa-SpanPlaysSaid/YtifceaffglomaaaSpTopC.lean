/-
  span.Cut: what it returns. Condition: a list of at most 2^63 spans.
-/
import Derived.Test.YtifceaffglomaaaSpTop
namespace Go.Proofs.Ytifceaffglomaaa.Sn
open Go.RowKit Go.Proofs.Ytifceaffglomaaa.Fd
set_option maxRecDepth 100000
set_option linter.unusedVariables false

set_option maxHeartbeats 4000000 in
theorem cut_any (v : Value) (l : List Sp) (x y : Int) (w : World) (h : Spans w v l) (hl : l.length ≤ 9223372036854775807) :
    Calls Try.prog 21 #[v, .agg #[.int .i64 x, .int .i64 y]] w (ReadPost (cutL l (x, y)) w) := by
  obtain ⟨a, cap, rfl⟩ := h.shape
  have hb0 := (Below.refl w.heap.size w).alloc (Nat.le_refl _) (.cells #[.int .i64 x, .int .i64 y] 24)
  have hk0 := new_block w (.cells #[.int .i64 x, .int .i64 y] 24)
  have hz0 : (w.alloc (.cells #[.int .i64 x, .int .i64 y] 24)).heap.size = w.heap.size + 1 := by simp
  have HP := Lib.hid (h.next hb0)
  have HL := Lib.hid hl
  clear h hl
  go_enter Try.func21, Try.ntmps21
  go_wp2_with fail
  refine (valid_any _ l _ HP.out HL.out).mono ?_
  rintro e w1 ⟨rfl, hb1⟩
  have hk1 := Bl.old hb1 (by omega) hk0
  have hB1 := Bl.next hb0 hb1
  have HP1 := Lib.hid (HP.out.next hb1)
  clear hb1 HP hk0
  have c0 := two0 hk1
  have c1 := two1 hk1
  cases hv : validB l with
  | false =>
    have HO := Lib.hid (show okB l (x, y) = false from by simp [okB, hv])
    clear hv
    go_wp2_with fail
    go_ret
    exact ⟨_, rfl, by rw [show cutL l (x, y) = [] from by simp [cutL, HO.out]]; exact Spans.nil _, hB1⟩
  | true =>
    have HV := Lib.hid hv
    clear hv
    go_wp2_with fail
    refine (within_any x y _).mono ?_
    rintro e w2 ⟨rfl, hb2⟩
    have hk2 := Bl.old hb2 (block_lt hk1) hk1
    have hB2 := Bl.next hB1 hb2
    have HP2 := Lib.hid (HP1.out.next hb2)
    clear hb2 HP1 hk1 c0 c1
    have c0 := two0 hk2
    have c1 := two1 hk2
    cases hr : rightB (x, y) with
    | false =>
      have HO := Lib.hid (show okB l (x, y) = false from by simp [okB, hr])
      clear hr
      go_wp2_with fail
      go_ret
      exact ⟨_, rfl, by rw [show cutL l (x, y) = [] from by simp [cutL, HO.out]]; exact Spans.nil _, hB2⟩
    | true =>
      have HO := Lib.hid (show okB l (x, y) = true from by simp [okB, hr, HV.out])
      have HR := Lib.hid ((rightB_iff _).1 hr)
      have HD := Lib.hid ((validB_iff l).1 HV.out)
      clear hr
      go_wp2_with fail
      refine (parts_any _ l x y (-1) _ HP2.out HD.out.len HD.out.good HR.out.le).mono ?_
      rintro e w3 ⟨v1, v2, v3, rfl, p1, p2, p3, hb3⟩
      have hk3 := Bl.old hb3 (block_lt hk2) hk2
      have hB3 := Bl.next hB2 hb3
      have hml := met_len l (x, y)
      have hdl := HD.out.len
      have HE := Lib.hid (show cutL l (x, y) = (metL l (x, y)).map (fun p => (max x p.1, min y p.2)) from by simp [cutL, HO.out, cutOf])
      have hlt3 := block_lt hk3
      clear hb3 hk2 c0 c1 p1 p3
      generalize metL l (x, y) = M at p2 hml HE
      have c0 := two0 hk3
      have c1 := two1 hk3
      rcases p2 with ⟨rfl, ma, mc, rfl⟩ | ⟨b, off, mc, rfl, _, _, hlt, hs⟩
      · go_wp2_with fail
        refine wp_loop_rounds 1 ?_
        rw [rounds_succ]
        go_wp2_with fail
        go_ret
        exact ⟨_, rfl, by rw [HE.out]; exact Spans.nil _, hB3⟩
      · have HS := Lib.hid hs
        clear hs
        go_wp2_with fail
        go_loopw [8, 28] (fun o i wr => ∃ (k : Nat) (L : List Sp), k ≤ M.length ∧ i = .int .i64 (k : Int) ∧ OwnS wr w3.heap.size o L ∧ L.length = k ∧ L ++ (M.drop k).map (fun p => (max x p.1, min y p.2)) = M.map (fun p => (max x p.1, min y p.2)) ∧ Below w3.heap.size w3 wr) (fun _ i _ => M.length - (intOf i).toNat)
        case atStart => exact ⟨0, [], Nat.zero_le _, rfl, OwnS.nil _ _, rfl, rfl, Below.refl _ _⟩
        case round =>
          obtain ⟨k, L, hk, rfl, ho, hLk, hg, hB⟩ := hrel
          have HO1 := Lib.hid ho
          have HLk := Lib.hid hLk
          have hLl : L.length ≤ 32 := by omega
          have HG := Lib.hid hg
          have hsz := hB.size
          obtain ⟨oa, oc, rfl⟩ := ho.form
          have hbox := Bl.old hB hlt3 hk3
          have hwb : w.heap.size < wr.heap.size := block_lt hbox
          clear ho hg hLk c0 c1
          have c0 := two0 hbox
          have c1 := two1 hbox
          by_cases hlt2 : k < M.length
          · have hd := drop_cons M k hlt2
            have d0 := (hB.cell (p := ⟨b, off + k * 2, none⟩) hlt).trans (HS.out k hlt2).1
            have d1 := (hB.cell (p := ⟨b, off + k * 2 + 1, none⟩) hlt).trans (HS.out k hlt2).2
            obtain ⟨p, hp⟩ : ∃ p, p = M[k].1 := ⟨_, rfl⟩
            obtain ⟨q, hq⟩ : ∃ q, q = M[k].2 := ⟨_, rfl⟩
            rw [show M[k] = (M[k].1, M[k].2) from rfl, ← hp, ← hq] at hd
            rw [← hp] at d0
            rw [← hq] at d1
            have HN := Lib.hid (show (L ++ [(max x p, min y q)]) ++ (M.drop (k + 1)).map (fun p => (max x p.1, min y p.2)) = M.map (fun p => (max x p.1, min y p.2)) from by have := HG.out; rw [hd] at this; rw [List.append_assoc]; exact this)
            clear hp hq hd
            have hA := Below.refl wr.heap.size wr
            have HO2 := Lib.hid (show OwnS ((wr.alloc (.cells #[.int .i64 p, .int .i64 q] 24)).alloc (.cells #[.int .i64 (max x p), .int .i64 (min y q)] 24)) w3.heap.size (.slice oa L.length oc) L from HO1.out.kept ((hA.alloc (Nat.le_refl _) _).alloc (by simp) _))
            have HX2 := Lib.hid (show Spans ((wr.alloc (.cells #[.int .i64 p, .int .i64 q] 24)).alloc (.cells #[.int .i64 (max x p), .int .i64 (min y q)] 24)) (.slice (some ⟨wr.heap.size + 1, 0, none⟩) 1 1) [(max x p, min y q)] from (own_one (base := 0) (Nat.zero_le _) (new_block' _ _ (by simp))).spans)
            have HB2 := Lib.hid (show Below w3.heap.size w3 ((wr.alloc (.cells #[.int .i64 p, .int .i64 q] 24)).alloc (.cells #[.int .i64 (max x p), .int .i64 (min y q)] 24)) from (hB.alloc hsz _).alloc (by simp; omega) _)
            have hs2 := HB2.out.size
            clear hA
            go_wp2_with (at_builtin; refine wpList_append_spans _ rfl _ _ rfl w3.heap.size (.slice oa L.length oc) _ L [(max x p, min y q)] rfl rfl hs2 HO2.out HX2.out (by simp only [List.length_cons, List.length_nil]; omega) ?_; intro v' w5 happ; have HAP := Lib.hid happ; have hB5 := HB2.out.grown happ.2.1 hs2 (fun k hk => (HO2.out.lt k hk).1); clear happ)
            go_roundw
            case rel => exact ⟨k + 1, _, by omega, by go_num, HAP.out.1, by rw [List.length_append, HLk.out]; rfl, HN.out, hB5⟩
            case measure => simp [intOf]; omega
          · have HT := Lib.hid (show cutL l (x, y) = L from by have := HG.out; rw [List.drop_of_length_le (by omega)] at this; rw [HE.out, ← this]; simp)
            go_wp2_with fail
            go_ret
            exact ⟨_, rfl, by rw [HT.out]; exact HO1.out.spans, Bl.next hB3 hB⟩
end Go.Proofs.Ytifceaffglomaaa.Sn
