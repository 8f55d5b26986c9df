/-
  gatepostref04.Names: what it returns. Conditions: fields of at most 2^20 bytes in all.
-/
import Derived.Test.YtcnipjmeillfeaaDoorFdNames
import Derived.Test.YtcnipjmeillfeaaDoorFdRefGet
import Derived.Test.YtcnipjmeillfeaaDoorTokRefSplit
namespace Go.Proofs.YtcnipjmeillfeaaDoor.Fd
open Go.RowKit Tk
set_option linter.unusedVariables false

theorem infoText : (Tryd.prog.info? 9).map (fun i => (i.zero, i.size, i.bytes)) = some (some (.string ⟨#[]⟩), 1, 16) := by kernel_rfl
theorem news_one {w : World} {g : Nat} {x : Value} {t : TypeId} (h : w.heap[g]? = some (.cells #[x] t (0, 0))) : ∀ j u, [x][j]? = some u → w.cell? ((⟨g, 0, none⟩ : Addr).add j) = some u := by
  intro j u hu
  match j, hu with
  | 0, hu =>
    simp at hu; subst hu
    show w.cell? ⟨g, 0, none⟩ = _
    rw [Lib.cell_of_heap h]; rfl
theorem one_text (x : ByteArray) : ∀ u ∈ [Value.string x], u.oneCell' = true := by intro u hu; simp at hu; subst hu; rfl
theorem lowers_next (ls : List Bs) (k : Nat) (h : k < ls.length) : (ls.take (k + 1)).map lower = (ls.take k).map lower ++ [lower ls[k]] := by rw [take_next ls k h, List.map_append]; rfl

set_option maxHeartbeats 4000000 in
theorem refNames_any (v : Value) (fs : List Fl) (nm : ByteArray) (w : World) (hf : Flds w v fs) (ht : tot fs ≤ 1048576) (hn : nm.size ≤ maxLen) :
    Calls Tryd.prog 18 #[v, .string nm] w (NamesPost (getT fs nm.data.toList) w) := by
  have hgl := getT_length fs nm.data.toList
  obtain ⟨G, hG⟩ : ∃ G : Bs, G = getT fs nm.data.toList := ⟨_, rfl⟩
  have HGV := Lib.hid (show getVal fs nm.data.toList = .tuple #[.string ⟨G.toArray⟩, .int .i64 (getN fs nm.data.toList : Int)] from by rw [hG]; rfl)
  rw [← hG] at hgl
  rw [← hG]
  have hGs : (⟨G.toArray⟩ : ByteArray).size ≤ 2097152 := by rw [show (⟨G.toArray⟩ : ByteArray).size = G.length from by show G.toArray.size = _; rw [List.size_toArray]]; omega
  have HGD := Lib.hid (show (⟨G.toArray⟩ : ByteArray).data.toList = G from rfl)
  obtain ⟨X, hX⟩ : ∃ X : ByteArray, X = ⟨G.toArray⟩ := ⟨_, rfl⟩
  rw [← hX] at HGV hGs HGD
  clear hG hX
  obtain ⟨i0, hi, hz0, hz1, hz2⟩ := info_parts infoText
  go_enter Tryd.func18, Tryd.ntmps18
  go_wp2_with fail
  refine (refGet_any v fs nm _ hf ht hn).mono ?_
  rintro e w1 ⟨rfl, hb1⟩
  rw [HGV.out]
  go_wp2_with fail
  refine (refSplit_any X _ (by omega)).mono ?_
  rintro e w2 ⟨hb2, h2⟩
  have hB2 := Bl.next hb1 hb2
  rw [HGD.out] at h2
  rcases h2 with ⟨h2, rfl⟩ | ⟨ls, u, hs, rfl, ho⟩
  · have HN := Lib.hid (names_none h2)
    clear h2 hb1 hb2
    go_wp2_with fail
    go_ret2
    exact ⟨hB2, .inl ⟨HN.out, rfl⟩⟩
  · have hll := split_length hs
    have HP := Lib.hid (split_piece hs)
    have HS := Lib.hid hs
    have HT := Lib.hid (Texts.of_owns ho rfl)
    by_cases h0 : ls.length = 0
    · obtain rfl : ls = [] := List.length_eq_zero_iff.1 h0
      obtain ⟨a, cap, hu⟩ := HT.out.shape
      rw [hu]
      have HO := Lib.hid (show w2.ownsRow w.heap.size 9 1 (.slice none 0 0) ([] : List Bs).length (([] : List Bs).map TS) from World.ownsRow_nil _ _ _ _)
      clear hu ho hs hb1 hb2 h0 HT
      go_wp2_with fail
      refine wp_loop_rounds 1 ?_
      rw [rounds_succ]
      go_wp2_with fail
      go_ret2
      exact ⟨hB2, .inr ⟨[], _, names_good HS.out rfl, rfl, HO.out⟩⟩
    · rcases HT.out with ⟨h, _⟩ | ⟨g, off, cap, hu, hc⟩
      · rw [h] at h0; exact absurd rfl h0
      have HC := Lib.hid hc
      have hgl2 : g < w2.heap.size := World.block_lt_of_cell? w2 _ (hc 0 (by omega))
      rw [hu]
      have HO := Lib.hid (show w2.ownsRow w2.heap.size 9 1 (.slice none 0 0) ((ls.take 0).map lower).length (((ls.take 0).map lower).map TS) from World.ownsRow_nil _ _ _ _)
      clear hu ho hs hb1 hb2 h0 hc HT
      go_wp2_with fail
      go_loopw [10, 11] (fun o i wr => ∃ k : Nat, k ≤ ls.length ∧ i = .int .i64 (k : Int) ∧ (ls.take k).all isTok = true ∧ wr.ownsRow w2.heap.size 9 1 o ((ls.take k).map lower).length (((ls.take k).map lower).map TS) ∧ Below w2.heap.size w2 wr) (fun _ i _ => ls.length - (intOf i).toNat)
      case atStart => exact ⟨0, Nat.zero_le _, rfl, rfl, HO.out, Below.refl _ _⟩
      case round =>
        obtain ⟨k, hk, rfl, hal, hO, hD⟩ := hrel
        have HAL := Lib.hid hal
        have HOk := Lib.hid hO
        clear hal hO HO
        have hszD := hD.size
        by_cases hlt2 : k < ls.length
        · have hxz := HP.out ls[k] (List.getElem_mem hlt2)
          have c1 : wr.cell? ⟨g, off + k, none⟩ = some (TS ls[k]) := (hD.cell (p := ⟨g, off + k, none⟩) hgl2).trans (HC.out k hlt2)
          obtain ⟨x, hx⟩ : ∃ x : ByteArray, x = ⟨ls[k].toArray⟩ := ⟨_, rfl⟩
          have HX := Lib.hid (show x.data.toList = ls[k] from by rw [hx])
          have hxs : x.size ≤ maxLen := by rw [hx]; show ls[k].toArray.size ≤ _; rw [List.size_toArray]; unfold maxLen; omega
          unfold TS at c1
          rw [← hx] at c1
          cases hh : isTok ls[k] with
          | false =>
            have HN := Lib.hid (names_bad HS.out k hlt2 hh)
            have HH := Lib.hid (show isTok x.data.toList = false from by rw [HX.out]; exact hh)
            clear hh hx hxz
            go_wp2_with fail
            refine (refIs_any x _ hxs).mono ?_
            rintro e w3 ⟨rfl, rfl⟩
            rw [HH.out]
            go_wp2_with fail
            go_ret2
            exact ⟨Bl.next hB2 hD, .inl ⟨HN.out, rfl⟩⟩
          | true =>
            have HN := Lib.hid (all_next ls k hlt2 HAL.out hh)
            have HH := Lib.hid (show isTok x.data.toList = true from by rw [HX.out]; exact hh)
            have HL2 := Lib.hid (lowers_next ls k hlt2)
            have hlen : ((ls.take k).map lower).length ≤ k := by rw [List.length_map]; exact List.length_take_le _ _
            clear hh hx hxz
            go_wp2_with fail
            refine (refIs_any x _ hxs).mono ?_
            rintro e w3 ⟨rfl, rfl⟩
            rw [HH.out]
            go_wp2_with fail
            refine (refLower_any x _ hxs).mono ?_
            rintro e w4 ⟨rfl, hb4⟩
            have hD4 := Bl.next hD hb4
            have hsz4 := hD4.size
            obtain ⟨L, hL⟩ : ∃ L : ByteArray, L = ⟨(lower x.data.toList).toArray⟩ := ⟨_, rfl⟩
            have HL := Lib.hid hL
            rw [← hL]
            have HN4 := Lib.hid (news_one (new_block w4 (.cells #[.string L] 9)))
            have HO5 := Lib.hid (owns_kept (owns_kept HOk.out hb4) ((Below.refl _ _).alloc (Nat.le_refl _) (.cells #[.string L] 9)))
            have hD5 := hD4.alloc hD4.size (.cells #[.string L] 9)
            clear hL c1 hb4 HOk hD hD4
            go_wp2_with (at_builtin; refine wpList_append_own _ rfl _ _ 23 rfl w2.heap.size 9 i0 (.string ⟨#[]⟩) 1 16 Tryd.underlying23 hi hz0 hz1 hz2 rfl (by decide) _ _ _ rfl HO5.out ⟨w4.heap.size, 0, none⟩ 1 1 [.string L] rfl rfl HN4.out (one_text L) (by unfold maxLen; omega) (by omega) (by simp; omega) ?_; intro v' w5 hown' hgrow hnil)
            have hD6 := hD5.grown hgrow hD5.size (fun q hq => (World.ownsRow.lt HO5.out q hq).1)
            go_roundw
            case rel => exact ⟨k + 1, by omega, by go_num, HN.out, by
              rw [HL2.out, List.length_append, List.map_append]
              have e : [Value.string L] = [lower ls[k]].map TS := by rw [← HX.out]; show [Value.string L] = [Value.string ⟨(lower x.data.toList).toArray⟩]; rw [HL.out]
              rw [← e]; exact hown', hD6⟩
            case measure => simp [intOf]; omega
        · have HE := Lib.hid (show k = ls.length from by omega)
          have HAL2 := Lib.hid (show ls.all isTok = true from by have h := HAL.out; rwa [HE.out, List.take_length] at h)
          have HO2 := Lib.hid (show wr.ownsRow w2.heap.size 9 1 _ (ls.map lower).length ((ls.map lower).map TS) from by have h := HOk.out; rw [HE.out, List.take_length] at h; exact h)
          clear HE HAL HOk
          go_wp2_with fail
          go_ret2
          exact ⟨Bl.next hB2 hD, .inr ⟨_, _, names_good HS.out HAL2.out, rfl, owns_mono HO2.out hB2.size⟩⟩
end Go.Proofs.YtcnipjmeillfeaaDoor.Fd
