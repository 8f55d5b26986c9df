/-
  span.Remove: what it returns. Condition: a list of at most 2^63 spans.
-/
import Derived.Test.YtifceaffglomaaaSpTop
import Derived.Test.YtifceaffglomaaaSpSet
namespace Go.Proofs.Ytifceaffglomaaa.Sn
open Go.RowKit Go.Proofs.Ytifceaffglomaaa.Fd
set_option maxRecDepth 100000
set_option linter.unusedVariables false

/-- What a change tells, and its error. -/
def errOf (b : Bool) (out : List Sp) : Int := if b then (if out.length ≤ 32 then 0 else 14) else 2
def tellOf (b : Bool) (out : List Sp) : List Sp := if b then (if out.length ≤ 32 then out else []) else []
def ChgPost (b : Bool) (out : List Sp) (w : World) (e : Ending) (w' : World) : Prop := ∃ v, e = .returned (.tuple #[v, .int .i64 (errOf b out)]) ∧ Spans w' v (tellOf b out) ∧ Below w.heap.size w w'
theorem ChgPost.bad {out : List Sp} {w w' : World} {b : Bool} (h : b = false) (hb : Below w.heap.size w w') : ChgPost b out w (.returned (.tuple #[.slice none 0 0, .int .i64 2])) w' := by
  subst h
  exact ⟨_, rfl, Spans.nil _, hb⟩
theorem ChgPost.good {out : List Sp} {w w1 w2 : World} {b : Bool} {e : Ending} (h : b = true) (hb : Below w.heap.size w w1) (hs : SetPost out w1 e w2) : ChgPost b out w e w2 := by
  subst h
  obtain ⟨v, n, rfl, h1, h2⟩ := hs
  refine ⟨v, ?_, ?_, Bl.next hb h2⟩
  · unfold errOf
    split at h1
    · rename_i h; rw [h1.1]; simp [h]
    · rename_i h; rw [h1.1]; simp [h]
  · unfold tellOf
    split at h1
    · rename_i h; simp [h]; exact h1.2.spans
    · rename_i h; rw [h1.2]; simp [h]; exact Spans.nil _
theorem joined3 (a b c : Value × List Sp) : joined [a, b, c] = a.2 ++ (b.2 ++ c.2) := by simp [joined]
theorem three_at {w : World} {v1 v2 v3 : Value} {a b c : List Sp} (h1 : Spans w v1 a) (h2 : Spans w v2 b) (h3 : Spans w v3 c) : ∀ p ∈ [(v1, a), (v2, b), (v3, c)], Spans w p.1 p.2 := by
  intro p hp
  simp at hp
  rcases hp with rfl | rfl | rfl
  · exact h1
  · exact h2
  · exact h3
set_option maxHeartbeats 4000000 in
theorem remove_any (v : Value) (l : List Sp) (x y : Int) (w : World) (h : Spans w v l) (hl : l.length ≤ 9223372036854775807) :
    Calls Try.prog 10 #[v, .agg #[.int .i64 x, .int .i64 y]] w (ChgPost (okB l (x, y)) (remOf l (x, y)) w) := by
  obtain ⟨a, cap, rfl⟩ := h.shape
  have hb0 := (Below.refl w.heap.size w).alloc (Nat.le_refl _) (.cells #[.int .i64 x, .int .i64 y] 24)
  have hk0 := new_block w (.cells #[.int .i64 x, .int .i64 y] 24)
  have hz0 : (w.alloc (.cells #[.int .i64 x, .int .i64 y] 24)).heap.size = w.heap.size + 1 := by simp
  have HP := Lib.hid (h.next hb0)
  have HL := Lib.hid hl
  clear h hl
  go_enter Try.func10, Try.ntmps10
  go_wp2_with fail
  refine (valid_any _ l _ HP.out HL.out).mono ?_
  rintro e w1 ⟨rfl, hb1⟩
  have hk1 := Bl.old hb1 (by omega) hk0
  have hB1 := Bl.next hb0 hb1
  have HP1 := Lib.hid (HP.out.next hb1)
  clear hb1 HP hk0
  have c0 := two0 hk1
  have c1 := two1 hk1
  cases hv : validB l with
  | false =>
    have HO := Lib.hid (show okB l (x, y) = false from by simp [okB, hv])
    clear hv
    go_wp2_with fail
    go_ret2
    exact ChgPost.bad HO.out hB1
  | true =>
    have HV := Lib.hid hv
    clear hv
    go_wp2_with fail
    refine (within_any x y _).mono ?_
    rintro e w2 ⟨rfl, hb2⟩
    have hk2 := Bl.old hb2 (block_lt hk1) hk1
    have hB2 := Bl.next hB1 hb2
    have HP2 := Lib.hid (HP1.out.next hb2)
    clear hb2 HP1 hk1 c0 c1
    have c0 := two0 hk2
    have c1 := two1 hk2
    cases hr : rightB (x, y) with
    | false =>
      have HO := Lib.hid (show okB l (x, y) = false from by simp [okB, hr])
      clear hr
      go_wp2_with fail
      go_ret2
      exact ChgPost.bad HO.out hB2
    | true =>
      have HO := Lib.hid (show okB l (x, y) = true from by simp [okB, hr, HV.out])
      have HR := Lib.hid ((rightB_iff _).1 hr)
      have HD := Lib.hid ((validB_iff l).1 HV.out)
      clear hr
      go_wp2_with fail
      refine (parts_any _ l x y (-1) _ HP2.out HD.out.len HD.out.good HR.out.le).mono ?_
      rintro e w3 ⟨v1, v2, v3, rfl, p1, p2, p3, hb3⟩
      have hk3 := Bl.old hb3 (block_lt hk2) hk2
      have hB3 := Bl.next hB2 hb3
      have hml := met_len l (x, y)
      have hal := ahead_len l (x, y)
      have hbl := behind_len l (x, y)
      have hdl := HD.out.len
      have HE := Lib.hid (show remOf l (x, y) = aheadL l (x, y) ++ ((metL l (x, y)).flatMap (fun p => withoutL p.2 p.1 [(x, y)]) ++ behindL l (x, y)) from rfl)
      have hll := left_len (x, y) (metL l (x, y))
      have hlt3 := block_lt hk3
      obtain ⟨a1, k1, hv1⟩ := p1.shape
      obtain ⟨a3, k3, hv3⟩ := p3.shape
      subst hv1 hv3
      have P1 := Lib.hid p1
      have P3 := Lib.hid p3
      have HFIN := Lib.hid (show ∀ (wr : World) (o : Value) (L : List Sp), Below w3.heap.size w3 wr → Spans wr o L → L.length ≤ 64 → remOf l (x, y) = aheadL l (x, y) ++ (L ++ behindL l (x, y)) →
          Calls Try.prog 27 #[.slice (some ⟨wr.heap.size, 0, none⟩) 3 3] (wr.alloc (.cells #[(.slice a1 (aheadL l (x, y)).length k1), o, (.slice a3 (behindL l (x, y)).length k3)] 22)) (ChgPost (okB l (x, y)) (remOf l (x, y)) w) from by
        intro wr o L hB ho hL he
        have hA := (Below.refl wr.heap.size wr).alloc (Nat.le_refl _) (.cells #[(.slice a1 (aheadL l (x, y)).length k1), o, (.slice a3 (behindL l (x, y)).length k3)] 22)
        have hs := set_any [(.slice a1 (aheadL l (x, y)).length k1, aheadL l (x, y)), (o, L), (.slice a3 (behindL l (x, y)).length k3, behindL l (x, y))] wr.heap.size (wr.alloc (.cells #[(.slice a1 (aheadL l (x, y)).length k1), o, (.slice a3 (behindL l (x, y)).length k3)] 22)) (three_at ((P1.out.next hB).next hA) (ho.next hA) ((P3.out.next hB).next hA)) (new_block wr _) (by simp) (by rw [joined3]; simp only [List.length_append]; omega)
        refine hs.mono ?_
        intro e w' h
        rw [joined3] at h
        rw [he]
        exact ChgPost.good HO.out (Bl.next (Bl.next hB3 hB) hA) h)
      clear hb3 hk2 c0 c1 p1 p3 hal hbl
      generalize metL l (x, y) = M at p2 hml HE hll
      have c0 := two0 hk3
      have c1 := two1 hk3
      rcases p2 with ⟨rfl, ma, mc, rfl⟩ | ⟨b, off, mc, rfl, _, _, hlt, hs⟩
      · have HC := Lib.hid (HFIN.out w3 (.slice none 0 0) [] (Below.refl _ _) (Spans.nil _) (by simp) HE.out)
        go_wp2_with fail
        refine wp_loop_rounds 1 ?_
        rw [rounds_succ]
        go_wp2_with fail
        refine HC.out.mono ?_
        rintro e w4 ⟨v4, rfl, h4, hb4⟩
        have H4 := Lib.hid h4
        clear h4
        go_wp2_with fail
        go_ret2
        exact ⟨_, rfl, H4.out, hb4⟩
      · have HS := Lib.hid hs
        clear hs
        go_wp2_with fail
        go_loopw [9, 29] (fun o i wr => ∃ (k : Nat) (L : List Sp), k ≤ M.length ∧ i = .int .i64 (k : Int) ∧ OwnS wr w3.heap.size o L ∧ L.length ≤ k * 2 ∧ L ++ (M.drop k).flatMap (fun p => withoutL p.2 p.1 [(x, y)]) = M.flatMap (fun p => withoutL p.2 p.1 [(x, y)]) ∧ Below w3.heap.size w3 wr) (fun _ i _ => M.length - (intOf i).toNat)
        case atStart => exact ⟨0, [], Nat.zero_le _, rfl, OwnS.nil _ _, Nat.zero_le _, rfl, Below.refl _ _⟩
        case round =>
          obtain ⟨k, L, hk, rfl, ho, hLk, hg, hB⟩ := hrel
          have HO1 := Lib.hid ho
          have HG := Lib.hid hg
          have hsz := hB.size
          obtain ⟨oa, oc, rfl⟩ := ho.form
          have hbox := Bl.old hB hlt3 hk3
          have hwb : w.heap.size < wr.heap.size := block_lt hbox
          clear ho hg c0 c1
          have c0 := two0 hbox
          have c1 := two1 hbox
          by_cases hlt2 : k < M.length
          · have hd := drop_cons M k hlt2
            have d0 := (hB.cell (p := ⟨b, off + k * 2, none⟩) hlt).trans (HS.out k hlt2).1
            have d1 := (hB.cell (p := ⟨b, off + k * 2 + 1, none⟩) hlt).trans (HS.out k hlt2).2
            obtain ⟨p, hp⟩ : ∃ p, p = M[k].1 := ⟨_, rfl⟩
            obtain ⟨q, hq⟩ : ∃ q, q = M[k].2 := ⟨_, rfl⟩
            rw [show M[k] = (M[k].1, M[k].2) from rfl, ← hp, ← hq] at hd
            rw [← hp] at d0
            rw [← hq] at d1
            have HN := Lib.hid (show (L ++ withoutL q p [(x, y)]) ++ (M.drop (k + 1)).flatMap (fun p => withoutL p.2 p.1 [(x, y)]) = M.flatMap (fun p => withoutL p.2 p.1 [(x, y)]) from by have := HG.out; rw [hd] at this; rw [List.append_assoc]; exact this)
            have hwl := without_len [(x, y)] q p
            clear hp hq hd
            have hA := Below.refl wr.heap.size wr
            have HB2 := Lib.hid (show Below w3.heap.size w3 ((wr.alloc (.cells #[.int .i64 p, .int .i64 q] 24)).alloc (.cells #[.int .i64 x, .int .i64 y] 24)) from (hB.alloc hsz _).alloc (by simp; omega) _)
            have HA2 := Lib.hid (show Below wr.heap.size wr ((wr.alloc (.cells #[.int .i64 p, .int .i64 q] 24)).alloc (.cells #[.int .i64 x, .int .i64 y] 24)) from (hA.alloc (Nat.le_refl _) _).alloc (by simp) _)
            have HX2 := Lib.hid (show Spans ((wr.alloc (.cells #[.int .i64 p, .int .i64 q] 24)).alloc (.cells #[.int .i64 x, .int .i64 y] 24)) (.slice (some ⟨wr.heap.size + 1, 0, none⟩) 1 1) [(x, y)] from (own_one (base := 0) (Nat.zero_le _) (new_block' _ _ (by simp))).spans)
            have hs2 := HB2.out.size
            clear hA
            go_wp2_with fail
            refine (without_any _ [(x, y)] p q _ HX2.out (by simp)).mono ?_
            rintro e w4 ⟨v4, rfl, ho4, hb4⟩
            have HO2 := Lib.hid ((HO1.out.kept HA2.out).kept hb4)
            have HX4 := Lib.hid ho4.spans
            have HB4 := Lib.hid (HB2.out.trans (hb4.mono hs2))
            have hs4 := HB4.out.size
            clear ho4 hb4
            go_wp2_with (at_builtin; refine wpList_append_spans _ rfl _ _ rfl w3.heap.size (.slice oa L.length oc) _ L (withoutL q p [(x, y)]) rfl rfl hs4 HO2.out HX4.out (by simp only [List.length_cons, List.length_nil] at hwl; omega) ?_; intro v' w5 happ; have HAP := Lib.hid happ; have hB5 := HB4.out.grown happ.2.1 hs4 (fun k hk => (HO2.out.lt k hk).1); clear happ)
            go_roundw
            case rel => exact ⟨k + 1, _, by omega, by go_num, HAP.out.1, by rw [List.length_append]; simp only [List.length_cons, List.length_nil] at hwl; omega, HN.out, hB5⟩
            case measure => simp [intOf]; omega
          · have HT := Lib.hid (show M.flatMap (fun p => withoutL p.2 p.1 [(x, y)]) = L from by have := HG.out; rw [List.drop_of_length_le (by omega)] at this; rw [← this]; simp)
            have HC := Lib.hid (HFIN.out wr (.slice oa L.length oc) L hB HO1.out.spans (by omega) (by rw [HE.out, HT.out]))
            go_wp2_with fail
            refine HC.out.mono ?_
            rintro e w4 ⟨v4, rfl, h4, hb4⟩
            have H4 := Lib.hid h4
            clear h4
            go_wp2_with fail
            go_ret2
            exact ⟨_, rfl, H4.out, hb4⟩
end Go.Proofs.Ytifceaffglomaaa.Sn
