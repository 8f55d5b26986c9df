/-
  gatepostref14.Parse: what it returns. Condition: a text of at most 2^30 bytes.
-/
import Derived.Test.YthhnpdihgoiccaaRnParse
import Derived.Test.YthhnpdihgoiccaaRnRefOne
import Derived.Test.YthhnpdihgoiccaaRnAppR
import Derived.Test.YthhnpdihgoiccaaTokRefLower
import Derived.Test.YthhnpdihgoiccaaTokRefSplit
namespace Go.Proofs.Ythhnpdihgoiccaa.Rn
open Go.RowKit Go.Proofs.Ythhnpdihgoiccaa.Fd Go.Proofs.Ythhnpdihgoiccaa.Sn Go.Proofs.Ythhnpdihgoiccaa.Rm
set_option maxRecDepth 100000
set_option linter.unusedVariables false
set_option linter.unusedSimpArgs false

/-- What holds behind so many rounds. -/
structure Rr (w2 : World) (v : Value) (L : List Sp) (wr : World) : Prop where
  own : Rw.OwnS wr w2.heap.size v L
  bel : Below w2.heap.size w2 wr
theorem Rr.next {w2 : World} {v : Value} {L : List Sp} {wr wr' : World} (h : Rr w2 v L wr) (hb : Below wr.heap.size wr wr') : Rr w2 v L wr' :=
  ⟨h.own.kept hb, Bl.next h.bel hb⟩
theorem text_ne {H : ByteArray} (h : ¬ H = ⟨#[98, 121, 116, 101, 115, 61]⟩) : (H.toList == [98, 121, 116, 101, 115, 61]) = false := by
  rw [beq_eq_false_iff_ne, ByteArray.toList_eq]
  intro e; apply h
  cases H with
  | mk d => cases d with
    | mk l => simp at e; subst e; rfl
set_option maxHeartbeats 8000000 in
theorem refParse_any (s : ByteArray) (w : World) (hs : s.size ≤ 1073741824) :
    Calls Try.prog 7 #[.string s] w (ParsePost s.data.toList w) := by
  by_cases h6 : s.size < 6
  · have HN := Lib.hid (parse_short h6)
    go_enter Try.func7, Try.ntmps7
    go_wp2_with fail
    go_ret2
    exact post_none HN.out (Below.refl _ _)
  · have h6 : (6 : Int) ≤ s.size := by omega
    obtain ⟨H, hH⟩ : ∃ H : ByteArray, H = ⟨(Tk.lower (s.extract 0 6).data.toList).toArray⟩ := ⟨_, rfl⟩
    have HL := Lib.hid (show ∀ V : World, Calls Try.prog 16 #[.string (s.extract 0 6)] V fun e w' => e = .returned (.string H) ∧ Below V.heap.size V w' from fun V => by rw [hH]; exact Tk.refLower_any (s.extract 0 6) V (by unfold maxLen; simp; omega))
    by_cases hh : H = ⟨#[98, 121, 116, 101, 115, 61]⟩
    · have HS := Lib.hid (parse_split (s := s) (by
        have e := hH.symm.trans hh
        have := congrArg (fun b : ByteArray => b.data.toList) e
        simpa [hdL] using this))
      have hz : (s.extract 6 s.size).size ≤ 1073741824 := by simp; omega
      obtain ⟨R, hR⟩ : ∃ R, s.extract 6 s.size = R := ⟨_, rfl⟩
      rw [hR] at HS hz
      have HSP := Lib.hid (show ∀ V : World, Calls Try.prog 17 #[.string (s.extract 6 s.size)] V (Tk.SplitPost R.data.toList V) from fun V => by rw [hR]; exact Tk.refSplit_any R V (by omega))
      rw [hh] at HL
      clear hR hH hh
      go_enter Try.func7, Try.ntmps7
      go_wp2_with fail
      refine (HL.out _).mono ?_
      rintro e w1 ⟨rfl, hB1⟩
      go_wp2_with fail
      refine (HSP.out _).mono ?_
      rintro e w2 ⟨hb2, h2⟩
      have hB2 := Bl.next hB1 hb2
      clear HSP HL
      rcases h2 with ⟨h2, rfl⟩ | ⟨ls, lv, h2, rfl, ho⟩
      · have HN := Lib.hid (show parseR s.data.toList = none from by rw [HS.out, h2])
        clear h2 hb2 hB1
        go_wp2_with fail
        go_ret2
        exact post_none HN.out hB2
      · replace HS := Lib.hid (show parseR s.data.toList = if 1 ≤ ls.length ∧ ls.length ≤ 32 then allW ls else none from by rw [HS.out, h2])
        have HP := Lib.hid (split_piece h2)
        have hRs : R.data.toList.length = R.size := size_len R
        clear hb2 hB1 h2
        by_cases h0 : ls.length = 0
        · have HN := Lib.hid (show parseR s.data.toList = none from by rw [HS.out, if_neg (by omega)])
          obtain ⟨a, cap, hv⟩ : ∃ a cap, lv = .slice a 0 cap := by
            rcases ho.2 with ⟨hv, _⟩ | ⟨g, cap, cur, hv, _⟩
            · exact ⟨none, 0, hv⟩
            · exact ⟨_, cap, by rw [hv, h0]⟩
          rw [hv]
          clear hv ho
          go_wp2_with fail
          go_ret2
          exact post_none HN.out hB2
        · obtain ⟨g, cap, hv, hC⟩ := cells_of ho (by omega)
          rw [hv]
          clear hv ho
          have i1 : (1 : Int) ≤ ls.length := by omega
          by_cases h32 : 32 < ls.length
          · have HN := Lib.hid (show parseR s.data.toList = none from by rw [HS.out, if_neg (by omega)])
            go_wp2_with fail
            go_ret2
            exact post_none HN.out hB2
          · replace HS := Lib.hid (show parseR s.data.toList = allW ls from by rw [HS.out, if_pos (by omega)])
            have HQ := Lib.hid (show Rr w2 (.slice none 0 0) [] w2 from ⟨Rw.OwnS.nil _ _, Below.refl _ _⟩)
            have HC := Lib.hid hC
            have HB2 := Lib.hid hB2
            have hgl := hC.lt
            clear hC hB2
            have i32 : (ls.length : Int) ≤ 32 := by omega
            go_wp2_with fail
            go_loopw [6, 7] (fun v i wr => ∃ (k : Nat) (L : List Sp), k ≤ ls.length ∧ i = .int .i64 (k : Int) ∧ allW (ls.take k) = some L ∧ Rr w2 v L wr) (fun _ i _ => ls.length - (intOf i).toNat)
            case atStart => exact ⟨0, [], Nat.zero_le _, rfl, rfl, HQ.out⟩
            case round =>
              obtain ⟨k, L, hk, rfl, hL, hR⟩ := hrel
              clear HQ
              have hLk : L.length = k := by rw [allW_length _ hL, List.length_take]; omega
              subst hLk
              have HR := Lib.hid hR
              clear hR
              obtain ⟨oa, oc, hv⟩ := HR.out.own.form
              rw [hv] at HR ⊢
              clear hv
              by_cases hlt : L.length < ls.length
              · have c1 := (HC.out.next HR.out.bel hgl).cell L.length hlt
                have hxl := HP.out ls[L.length] (List.getElem_mem hlt)
                obtain ⟨x, hx⟩ : ∃ x : ByteArray, x = ⟨ls[L.length].toArray⟩ := ⟨_, rfl⟩
                have hxs : x.size ≤ maxLen := by rw [hx]; show ls[L.length].toArray.size ≤ _; rw [List.size_toArray]; unfold maxLen; omega
                unfold TS at c1
                rw [← hx] at c1
                have hxe : x.data.toList = ls[L.length] := by rw [hx]
                have HRA := Lib.hid (show Calls Try.prog 18 #[.string x] wr (OneP ls[L.length] wr) from by rw [← hxe]; exact refOne_any x wr hxs)
                clear hx hxe hxl hxs
                go_wp2_with fail
                refine (HRA.out).mono ?_
                rintro e w5 ⟨⟨px, py⟩, b, rfl, hO, hb5⟩
                have HV := Lib.hid hO
                have hR6 := (HR.out.next hb5).next ((Below.refl w5.heap.size w5).alloc (Nat.le_refl _) (.cells #[.int .i64 px, .int .i64 py] 30))
                clear hb5 HRA c1 hO
                unfold SV
                cases b with
                | false =>
                  have HN := Lib.hid (show parseR s.data.toList = none from by rw [HS.out]; exact allW_bad ls _ hlt HV.out)
                  have HB6 := Lib.hid (Bl.next HB2.out hR6.bel)
                  clear hR6
                  go_wp2_with fail
                  go_ret2
                  exact post_none HN.out HB6.out
                | true =>
                  have HN := Lib.hid (show allW (ls.take (L.length + 1)) = some (L ++ [(px, py)]) from by rw [take_snoc ls _ hlt]; exact allW_snoc _ hL HV.out)
                  have HR7 := Lib.hid (hR6.next ((Below.refl _ _).alloc (Nat.le_refl _) (.cells #[.int .i64 px, .int .i64 py] 30)))
                  have HX7 := Lib.hid (show Spans ((w5.alloc (.cells #[.int .i64 px, .int .i64 py] 30)).alloc (.cells #[.int .i64 px, .int .i64 py] 30)) (.slice (some ⟨w5.heap.size + 1, 0, none⟩) 1 1) [(px, py)] from
                    SAt.spans (l := [(px, py)]) (two_at (s := (px, py)) (new_block' _ _ (by simp))) rfl (Nat.le_refl _) (by omega) (by simp))
                  have hs7 := HR7.out.bel.size
                  clear hR6
                  go_wp2_with (at_builtin; refine Rw.wpList_append_spans _ rfl _ _ rfl w2.heap.size (.slice oa L.length oc) _ L [(px, py)] rfl rfl hs7 HR7.out.own HX7.out (by simp only [List.length_cons, List.length_nil]; omega) ?_; intro v' w8 happ; have HAP := Lib.hid happ; have hB8 := HR7.out.bel.grown happ.2.1 hs7 (fun k hk => (World.ownsRow.lt HR7.out.own k hk).1); clear happ)
                  go_roundw
                  case rel => exact ⟨L.length + 1, L ++ [(px, py)], by omega, by go_num, HN.out, ⟨HAP.out.1, hB8⟩⟩
                  case measure => simp [intOf]; omega
              · have hall : ls.take L.length = ls := List.take_of_length_le (by omega)
                rw [hall] at hL
                have HN := Lib.hid (show parseR s.data.toList = some L from by rw [HS.out]; exact hL)
                clear hL hall
                go_wp2_with fail
                go_ret2
                exact post_some HN.out HR.out.own.spans (Bl.next HB2.out HR.out.bel)
    · have hne := text_ne hh
      have HN := Lib.hid (parse_head (s := s) (fun e => hh (by rw [hH, e]; rfl)))
      clear hH
      go_enter Try.func7, Try.ntmps7
      go_wp2_with fail
      refine (HL.out _).mono ?_
      rintro e w1 ⟨rfl, hB1⟩
      go_wp2_with fail
      go_ret2
      exact post_none HN.out hB1
end Go.Proofs.Ythhnpdihgoiccaa.Rn
