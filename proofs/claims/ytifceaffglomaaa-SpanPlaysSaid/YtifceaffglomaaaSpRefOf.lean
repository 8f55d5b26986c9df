/-
  The reference's of: what it returns: the set that is asked for. Condition: a set, a span.
-/
import Derived.Test.YtifceaffglomaaaSpEnds
import Derived.Test.YtifceaffglomaaaSpRefIn
namespace Go.Proofs.Ytifceaffglomaaa.Sn
open Go.RowKit Go.Maps Go.Proofs.Ytifceaffglomaaa.Fd
set_option maxRecDepth 100000
set_option linter.unusedVariables false

theorem memB_one (x y z : Int) : memB [(x, y)] z = own (x, y) z := by simp [memB, own]
theorem flat_put (o : List Sp) (f t y : Int) : (flat (o ++ [(f, t)])).set (o.length * 2 + 1) (.int .i64 y) = flat (o ++ [(f, y)]) := by
  rw [flat_snoc, flat_snoc]
  have h := flat_length o
  rw [List.set_append_right _ _ (by omega), h]
  simp
theorem OwnS.putTo {w : World} {base g n cap : Nat} {o : List Sp} {f t : Int} (h : OwnS w base (.slice (some ⟨g, 0, none⟩) n cap) (o ++ [(f, t)])) (y : Int) :
    OwnS (w.setCell ⟨g, o.length * 2 + 1, none⟩ (.int .i64 y)) base (.slice (some ⟨g, 0, none⟩) n cap) (o ++ [(f, y)]) := by
  have hn : n = (o ++ [(f, t)]).length := by
    rcases h.2 with ⟨hv, _⟩ | ⟨g', cap', cur, hv, _⟩ <;> cases hv
    rfl
  subst hn
  have := (World.ownsRow.stored h (o.length * 2 + 1) (.int .i64 y)).1
  unfold OwnS
  rw [← flat_put o f t y]
  simp only [List.length_append, List.length_cons, List.length_nil] at this ⊢
  exact this
theorem OwnS.free {w : World} {base g n cap : Nat} {l : List Sp} (h : OwnS w base (.slice (some ⟨g, 0, none⟩) n cap) l) (j : Nat) : w.frozen? ⟨g, j, none⟩ = false := by
  rcases h.2 with ⟨hv, _⟩ | ⟨g', cap', cur, hv, _, hh, _⟩
  · cases hv
  · injection hv with e1
    injection e1 with e1
    injection e1 with e1
    subst e1
    exact Fd.free hh j
theorem OwnS.some {w : World} {base : Nat} {v : Value} {l : List Sp} (h : OwnS w base v l) (h0 : 0 < l.length) : ∃ g cap, v = .slice (some ⟨g, 0, none⟩) l.length cap ∧ base ≤ g := by
  rcases h.2 with ⟨_, h2⟩ | ⟨g, cap, cur, rfl, hg, _⟩
  · omega
  · exact ⟨g, cap, rfl, hg⟩
/-- The three ways of a step. -/
theorem step_same {p : Int → Bool} {out : List Sp} {x y : Int} (h : x = y ∨ p x = false) : stepOf p out x y = out := by unfold stepOf; rw [if_pos h]
theorem step_first {p : Int → Bool} {x y : Int} (h1 : x ≠ y) (h2 : p x = true) : stepOf p [] x y = [(x, y)] := by unfold stepOf; rw [if_neg (by simp [h1, h2])]; rfl
theorem step_longer {p : Int → Bool} {o : List Sp} {f x y : Int} (h1 : x ≠ y) (h2 : p x = true) : stepOf p (o ++ [(f, x)]) x y = o ++ [(f, y)] := by unfold stepOf; rw [if_neg (by simp [h1, h2])]; simp
theorem step_next {p : Int → Bool} {o : List Sp} {f t x y : Int} (h1 : x ≠ y) (h2 : p x = true) (h3 : t ≠ x) : stepOf p (o ++ [(f, t)]) x y = (o ++ [(f, t)]) ++ [(x, y)] := by unfold stepOf; rw [if_neg (by simp [h1, h2])]; simp [h3]
theorem run_len (p : Int → Bool) (e : List Int) : ∀ k, (runOf p e k).length ≤ k
  | 0 => by simp [runOf]
  | k + 1 => by
    have h := run_len p e k
    unfold runOf stepOf
    split
    · omega
    · split
      · simp
      · split
        · simp; omega
        · simp; omega
def OfPost (what : Int) (l : List Sp) (s : Sp) (w : World) (e : Ending) (w' : World) : Prop := ∃ v out, e = .returned v ∧ OwnS w' w.heap.size v out ∧ IsSet what l s out ∧ out.length ≤ 65 ∧ Below w.heap.size w w'
set_option maxHeartbeats 16000000 in
theorem of_any (what : Int) (hw : what = 1 ∨ what = 2 ∨ what = 3 ∨ what = 4) (v : Value) (l : List Sp) (x y : Int) (w : World) (h : Spans w v l) (hl : l.length ≤ 32) (hg : Good (-1) l) (hs : Right (x, y)) :
    Calls Try.prog 33 #[v, .agg #[.int .i64 x, .int .i64 y], .int .i64 what] w (OfPost what l (x, y) w) := by
  have hb0 := (Below.refl w.heap.size w).alloc (Nat.le_refl _) (.cells #[.int .i64 x, .int .i64 y] 24)
  have hk0 := new_block w (.cells #[.int .i64 x, .int .i64 y] 24)
  have HP := Lib.hid (h.next hb0)
  have HG := Lib.hid hg
  have HR := Lib.hid hs
  obtain ⟨va, vc, rfl⟩ := h.shape
  clear h hg hs
  obtain ⟨i0, hi, hz0, hz1, hz2⟩ := info_parts infoSpan
  go_enter Try.func33, Try.ntmps33
  go_wp2_with fail
  refine (ends_any _ l x y _ HP.out (by omega)).mono ?_
  rintro e w1 ⟨ve, es, rfl, hoe, hse, hb1⟩
  have hk1 := Bl.old hb1 (block_lt hk0) hk0
  have hB1 := Bl.next hb0 hb1
  have HP1 := Lib.hid (HP.out.next hb1)
  have hen := hse.len
  obtain ⟨ge, ce, rfl, _, _, _⟩ := hoe.form (by omega)
  obtain ⟨n, hn⟩ : ∃ n, n = es.length := ⟨_, rfl⟩
  rw [← hn] at hoe hen
  rw [← hn]
  have HN := Lib.hid hn
  have hA := (Below.refl w1.heap.size w1).alloc (Nat.le_refl _) (.cells #[.int .i64 x, .int .i64 y] 24)
  have HOE := Lib.hid (hoe.kept hA)
  have HSE := Lib.hid hse
  have HP2 := Lib.hid (HP1.out.next hA)
  have HB2 := Lib.hid (Bl.next hB1 hA)
  have HOW := Lib.hid ((own_one (base := 0) (x := x) (y := y) (Nat.zero_le _) (new_block w1 _)).spans)
  have c0 := two0 hk1
  have c1 := two1 hk1
  have hn2 : 2 ≤ n := by omega
  have hn3 : n ≤ 66 := by omega
  clear hb1 hoe hse hn hA HP HP1 hk0 hb0 hen
  go_wp2_with fail
  obtain ⟨W2, hW2⟩ : ∃ W2, W2 = w1.alloc (.cells #[.int .i64 x, .int .i64 y] 24) := ⟨_, rfl⟩
  rw [← hW2] at HOE HP2 HB2 HOW
  rw [← hW2]
  obtain ⟨gw, hgw⟩ : ∃ gw, gw = w1.heap.size := ⟨_, rfl⟩
  rw [← hgw] at HOW
  rw [← hgw]
  clear hW2 hgw c0 c1 hk1 hB1
  obtain ⟨p, hp⟩ : ∃ p : Int → Bool, p = fun z => pick what (memB l z) (own (x, y) z) := ⟨_, rfl⟩
  have HPP := Lib.hid hp
  go_loopw [7, 10] (fun o i wr => ∃ k : Nat, k + 1 ≤ n ∧ i = .int .i64 (k : Int) ∧ OwnS wr W2.heap.size o (runOf p es k) ∧ Below W2.heap.size W2 wr) (fun _ i _ => n - (intOf i).toNat)
  case atStart => exact ⟨0, by omega, rfl, OwnS.nil _ _, Below.refl _ _⟩
  case round =>
    obtain ⟨k, hk, rfl, ho, hB⟩ := hrel
    have HO := Lib.hid ho
    have HEW := Lib.hid (HOE.out.kept hB)
    obtain ⟨oa, oc, rfl⟩ := ho.form
    have hrl := run_len p es k
    clear ho hp
    by_cases hlt2 : k + 1 < n
    · have hkn : k < es.length := by have := HN.out; omega
      have hkn1 : k + 1 < es.length := by have := HN.out; omega
      have ek := HEW.out.cell k hkn
      have ek1 := HEW.out.cell (k + 1) hkn1
      have HRUN := Lib.hid (show runOf p es (k + 1) = stepOf p (runOf p es k) (es.getD k 0) (es.getD (k + 1) 0) from rfl)
      generalize es.getD k 0 = a at ek HRUN
      generalize es.getD (k + 1) 0 = b at ek1 HRUN
      clear hkn hkn1
      have hk1' : (k : Int) + 1 < (n : Int) := by omega
      have hk0' : (k : Int) < (n : Int) := by omega
      by_cases hab : a = b
      · subst hab
        have HS := Lib.hid (show runOf p es (k + 1) = runOf p es k from by rw [HRUN.out, step_same (.inl rfl)])
        have hbeq : (a == a) = true := by simp
        go_upto_region 7 with fail
        go_region
        all_goals go_wp2_with fail
        all_goals go_roundw
        case rel => exact ⟨k + 1, by omega, by go_num, by rw [HS.out]; exact HO.out, hB.drew⟩
        case measure => simp [intOf]; omega
      · have hbeq : (a == b) = false := by rw [beq_eq_false_iff_ne]; exact hab
        go_upto_region 7 with fail
        go_region
        all_goals go_wp2_with fail
        refine (rin_any _ l a _ ((HP2.out.next hB).next ((Below.refl _ _).drew)) (by omega)).mono ?_
        rintro e w5 ⟨rfl, rfl⟩
        go_wp2_with fail
        refine (rin_any _ [(x, y)] a _ ((HOW.out.next hB).next ((Below.refl _ _).drew)) (by simp)).mono ?_
        rintro e w5 ⟨rfl, rfl⟩
        rw [memB_one]
        have HPA := Lib.hid (show p a = pick what (memB l a) (own (x, y) a) from by rw [HPP.out])
        generalize memB l a = m1 at HPA
        generalize own (x, y) a = m2 at HPA
        go_upto_region 10 with fail
        go_cut [13] (fun s13 wx => s13 = .bool (pick what m1 m2) ∧ wr.drew = wx)
        case first =>
          rcases hw with rfl | rfl | rfl | rfl <;> cases m1 <;> cases m2
          all_goals
            go_wp2_with fail
            go_meet
            exact ⟨rfl, rfl⟩
        case rest =>
          obtain ⟨rfl, rfl⟩ := hcut
          rw [← HPA.out]
          cases hpa : p a with
          | false =>
            have HS := Lib.hid (show runOf p es (k + 1) = runOf p es k from by rw [HRUN.out, step_same (.inr hpa)])
            clear hpa
            go_wp2_with fail
            go_roundw
            case rel => exact ⟨k + 1, by omega, by go_num, by rw [HS.out]; exact HO.out, hB.drew⟩
            case measure => simp [intOf]; omega
          | true =>
            have HPT := Lib.hid hpa
            clear hpa
            have hwk : IntKind.i64.wrap ((k : Int) + 1) = (k : Int) + 1 := IntWalk.i64_in _ (by omega)
            have hk2' : (0 : Int) ≤ (k : Int) + 1 := by omega
            have htn : ((k : Int) + 1).toNat = k + 1 := by omega
            obtain ⟨R, hR⟩ : ∃ R, R = runOf p es k := ⟨_, rfl⟩
            rw [← hR] at HO HRUN hrl
            rw [← hR]
            have HRR := Lib.hid hR
            clear hR
            rcases List.eq_nil_or_concat R with rfl | ⟨o, ⟨f, t⟩, hRo⟩
            · have HS := Lib.hid (show runOf p es (k + 1) = [] ++ [(a, b)] from by rw [HRUN.out, step_first hab HPT.out]; rfl)
              go_upto_region 12 with fail
              go_region
              have HD3 := Lib.hid (((Below.refl wr.heap.size wr).drew).drew.drew)
              have HA3 := Lib.hid (HD3.out.alloc (Nat.le_refl _) (.cells #[.int .i64 a, .int .i64 b] 24))
              have HB3 := Lib.hid ((hB.drew).drew.drew.alloc (by show W2.heap.size ≤ wr.heap.size; exact hB.size) (.cells #[.int .i64 a, .int .i64 b] 24))
              have HN3 := Lib.hid (news_at (new_block wr.drew.drew.drew (.cells #[.int .i64 a, .int .i64 b] 24)))
              have HO3 := Lib.hid (HO.out.kept HA3.out)
              go_upto_region 14 with fail
              go_region_law (refine step_append_int (by rfl) _ _ 22 (by rfl) W2.heap.size 24 i0 (.agg #[.int .i64 0, .int .i64 0]) 2 16 Try.underlying22 hi hz0 hz1 hz2 rfl (by decide) (.slice oa 0 oc) 0 (flat []) (by rfl) HO3.out ⟨wr.heap.size, 0, none⟩ 1 1 [.int .i64 a, .int .i64 b] (by rfl) rfl HN3.out (one_cells a b) (by unfold maxLen; omega) (by omega) (by show W2.heap.size ≤ _; have := hB.size; simp; omega) ?_; intro v' w6 hown hgrow)
              all_goals
                have HO4 := Lib.hid (show OwnS w6 W2.heap.size v' (runOf p es (k + 1)) from by rw [HS.out]; unfold OwnS; rw [flat_snoc, List.length_append]; exact hown)
                have hB4 := HB3.out.grown hgrow HB3.out.size (fun q hq => (World.ownsRow.lt HO3.out q hq).1)
                clear hown hgrow
                go_wp2_with fail
                go_roundw
                case rel => exact ⟨k + 1, by omega, by go_num, HO4.out, hB4⟩
                case measure => simp [intOf]; omega
            · rw [List.concat_eq_append] at hRo
              subst hRo
              obtain ⟨g, c', hgc, _⟩ := HO.out.some (by simp)
              injection hgc with e1 e2 e3
              subst e1 e3
              obtain ⟨m, hm⟩ : ∃ m, m = o.length := ⟨_, rfl⟩
              have hlm : (o ++ [(f, t)]).length = m + 1 := by rw [List.length_append, hm]; rfl
              rw [hlm] at HO hrl
              rw [hlm]
              have d1 : wr.cell? ⟨g, m * 2 + 1, none⟩ = some (.int .i64 t) := by
                have := (OwnS.at HO.out m (by omega)).2
                simp only [Nat.zero_add] at this
                rw [this]
                simp [hm]
              have hwm : IntKind.i64.wrap ((m : Int) + 1 - 1) = (m : Int) := by rw [Int.add_sub_cancel]; exact IntWalk.i64_in _ (by omega)
              have hwm2 : IntKind.i64.wrap (m : Int) = (m : Int) := IntWalk.i64_in _ (by omega)
              have HM := Lib.hid hm
              have HLM := Lib.hid hlm
              clear hm hlm
              by_cases hta : t = a
              · subst hta
                have HS := Lib.hid (show runOf p es (k + 1) = o ++ [(f, b)] from by rw [HRUN.out, step_longer hab HPT.out])
                have htb : (t == t) = true := by simp
                have HPUT := Lib.hid (show OwnS (wr.drew.drew.setCell ⟨g, m * 2 + 1, none⟩ (.int .i64 b)) W2.heap.size (.slice (some ⟨g, 0, none⟩) (m + 1) oc) (o ++ [(f, b)]) from by
                  rw [HM.out]
                  have h3 : OwnS wr.drew.drew W2.heap.size (.slice (some ⟨g, 0, none⟩) (o.length + 1) oc) (o ++ [(f, t)]) := by have := HO.out; rw [HM.out] at this; exact this
                  exact h3.putTo b)
                have hfz := HO.out.free (m * 2 + 1)
                have hgl := (HO.out.lt g rfl).1
                go_upto_region 12 with fail
                go_region
                all_goals go_wp2_with fail
                all_goals go_roundw
                case rel => exact ⟨k + 1, by omega, by go_num, by rw [HS.out]; exact HPUT.out, ((hB.setCell (p := ⟨g, m * 2 + 1, none⟩) hgl _).drew).drew⟩
                case measure => simp [intOf]; omega
              · have htb : (t == a) = false := by rw [beq_eq_false_iff_ne]; exact hta
                have HS := Lib.hid (show runOf p es (k + 1) = (o ++ [(f, t)]) ++ [(a, b)] from by rw [HRUN.out, step_next hab HPT.out hta])
                go_upto_region 12 with fail
                go_region
                have HD3 := Lib.hid (((Below.refl wr.heap.size wr).drew).drew.drew)
                have HA3 := Lib.hid (HD3.out.alloc (Nat.le_refl _) (.cells #[.int .i64 a, .int .i64 b] 24))
                have HB3 := Lib.hid ((hB.drew).drew.drew.alloc (by show W2.heap.size ≤ wr.heap.size; exact hB.size) (.cells #[.int .i64 a, .int .i64 b] 24))
                have HN3 := Lib.hid (news_at (new_block wr.drew.drew.drew (.cells #[.int .i64 a, .int .i64 b] 24)))
                have HO3 := Lib.hid (HO.out.kept HA3.out)
                go_upto_region 14 with fail
                go_region_law (refine step_append_int (by rfl) _ _ 22 (by rfl) W2.heap.size 24 i0 (.agg #[.int .i64 0, .int .i64 0]) 2 16 Try.underlying22 hi hz0 hz1 hz2 rfl (by decide) (.slice (some ⟨g, 0, none⟩) (m + 1) oc) (m + 1) (flat (o ++ [(f, t)])) (by rfl) (by have := HO3.out; unfold OwnS at this; rw [HLM.out] at this; exact this) ⟨wr.heap.size, 0, none⟩ 1 1 [.int .i64 a, .int .i64 b] (by rfl) rfl HN3.out (one_cells a b) (by unfold maxLen; omega) (by omega) (by show W2.heap.size ≤ _; have := hB.size; simp; omega) ?_; intro v' w6 hown hgrow)
                all_goals
                  have HO4 := Lib.hid (show OwnS w6 W2.heap.size v' (runOf p es (k + 1)) from by rw [HS.out]; unfold OwnS; rw [flat_snoc, List.length_append, HLM.out]; exact hown)
                  have hB4 := HB3.out.grown hgrow HB3.out.size (fun q hq => (World.ownsRow.lt HO3.out q hq).1)
                  clear hown hgrow
                  go_wp2_with fail
                  go_roundw
                  case rel => exact ⟨k + 1, by omega, by go_num, HO4.out, hB4⟩
                  case measure => simp [intOf]; omega
    · have hk1' : k + 1 = n := by omega
      have HFIN := Lib.hid (show IsSet what l (x, y) (runOf p es k) from by
        have hr := run_set (what := what) (e := es) HG.out HR.out HSE.out.ord (fun u hu => by
          constructor
          · rw [HSE.out.mem]
            rcases List.mem_append.1 hu with hu | hu
            · exact List.mem_append.2 (.inl (List.mem_flatMap.2 ⟨u, hu, by simp⟩))
            · simp at hu; subst hu; simp
          · rw [HSE.out.mem]
            rcases List.mem_append.1 hu with hu | hu
            · exact List.mem_append.2 (.inl (List.mem_flatMap.2 ⟨u, hu, by simp⟩))
            · simp at hu; subst hu; simp) (fun z hz => by
          rw [HSE.out.mem] at hz
          rcases List.mem_append.1 hz with hz | hz
          · obtain ⟨u, hu, hz⟩ := List.mem_flatMap.1 hz
            have := good_low HG.out u hu
            simp at hz
            rcases hz with rfl | rfl <;> omega
          · have h1 := HR.out.low
            have h2 := HR.out.le
            simp at hz
            dsimp only at h1 h2
            rcases hz with rfl | rfl <;> omega)
        rw [← HN.out, show n - 1 = k from by omega, ← HPP.out] at hr
        exact hr)
      go_wp2_with fail
      go_ret
      exact ⟨_, _, rfl, HO.out.mono (by have := HB2.out.size; exact this), HFIN.out, by omega, Bl.next HB2.out hB⟩
end Go.Proofs.Ytifceaffglomaaa.Sn
