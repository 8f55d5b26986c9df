/-
  span.without: what it returns. Condition: at most 2^40 spans.
-/
import Derived.Test.YtifceaffglomaaaSpApp
import Derived.Test.YtifceaffglomaaaSpFn
namespace Go.Proofs.Ytifceaffglomaaa.Sn
open Go.RowKit Go.Proofs.Ytifceaffglomaaa.Fd
set_option maxRecDepth 100000
set_option linter.unusedVariables false

theorem owns_same {w w' : World} {base : Nat} {e : TypeId} {sz : Nat} {v : Value} {n : Nat} {xs : List Value} (h : w.ownsRow base e sz v n xs) (hb : ∀ k, v.ownBlock = some k → w'.heap[k]? = w.heap[k]?) : w'.ownsRow base e sz v n xs := by
  refine ⟨h.1, ?_⟩
  rcases h.2 with h2 | ⟨g, cap, cur, hv, hg, hh, r⟩
  · exact .inl h2
  · exact .inr ⟨g, cap, cur, hv, hg, (hb g (by rw [hv]; rfl)).trans hh, r⟩
theorem OwnS.same {w w' : World} {base : Nat} {v : Value} {l : List Sp} (h : OwnS w base v l) (hb : ∀ k, v.ownBlock = some k → w'.heap[k]? = w.heap[k]?) : OwnS w' base v l := owns_same h hb
theorem OwnS.lt {w : World} {base : Nat} {v : Value} {l : List Sp} (h : OwnS w base v l) : ∀ k, v.ownBlock = some k → base ≤ k ∧ k < w.heap.size := fun k hk => World.ownsRow.lt h k hk
theorem set_other (w : World) (g i k : Nat) (x : Value) (h : k ≠ g) : (w.setCell ⟨g, i, none⟩ x).heap[k]? = w.heap[k]? := by
  simp [World.setCell, Array.getElem?_modify, Ne.symm h]
/-- A block that is not the row's own stays under an append. -/
theorem grown_old {w w' : World} {base g : Nat} {v : Value} {l : List Sp} (h : OwnS w base v l) (hg : w.grownBy w' v.ownBlock) (hl : g < w.heap.size) (hn : g < base) : w'.heap[g]? = w.heap[g]? :=
  hg.block g hl (fun e => by have := (h.lt g e.symm).1; omega)
/-- What was made behind the row stays under an append, too. -/
theorem grown_new {w0 w w' : World} {base g : Nat} {v : Value} {l : List Sp} (h : OwnS w0 base v l) (hg : w.grownBy w' v.ownBlock) (hl : g < w.heap.size) (hn : w0.heap.size ≤ g) : w'.heap[g]? = w.heap[g]? :=
  hg.block g hl (fun e => by have := (h.lt g e.symm).2; omega)

set_option maxHeartbeats 4000000 in
theorem without_any (v : Value) (l : List Sp) (x y : Int) (w : World) (h : Spans w v l) (hl : l.length ≤ 1099511627776) :
    Calls Try.prog 30 #[.agg #[.int .i64 x, .int .i64 y], v] w (OnePost (withoutL y x l) w) := by
  have hb0 := (Below.refl w.heap.size w).alloc (Nat.le_refl _) (.cells #[.int .i64 x, .int .i64 y] 24)
  have HK0 := Lib.hid (new_block w (.cells #[.int .i64 x, .int .i64 y] 24))
  have HT := Lib.hid (show ∀ (W : World) (x' : Int) (o : Value) (L : List Sp), OwnS W (w.heap.size + 1) o L → L.length ≤ 1099511627776 → Below w.heap.size w W → W.heap[w.heap.size]? = some (.cells #[.int .i64 x', .int .i64 y] 24 (0, 0)) →
      L ++ filledL (x', y) = withoutL y x l → ∀ v1 w1, OwnS w1 W.heap.size v1 (filledL (x', y)) → Below W.heap.size W w1 → ∀ v2 w2, AppS (w.heap.size + 1) o L (filledL (x', y)) w1 v2 w2 → OnePost (withoutL y x l) w (.returned v2) w2 from by
    intro W x' o L ho hL hB hg he v1 w1 h1 hb1 v2 w2 ⟨h2, hgr, _⟩
    have hsz := hB.size
    refine ⟨_, rfl, ?_, ?_⟩
    · rw [he] at h2; exact h2.mono (by omega)
    · have hB1 := Bl.next hB hb1
      exact hB1.grown hgr hB1.size (fun k hk => by have := (ho.lt k hk).1; omega))
  have hl2 := hl
  rcases h with ⟨rfl, a, cap, rfl⟩ | ⟨b, off, cap, rfl, _, _, hlt, _⟩
  · have HO := Lib.hid (OwnS.nil (w.alloc (.cells #[.int .i64 x, .int .i64 y] 24)) (w.heap.size + 1))
    have hB := hb0
    have hbox := HK0.out
    have c0 := two0 hbox
    have c1 := two1 hbox
    have hLl : ([] : List Sp).length ≤ 1099511627776 := by simp
    have HGL := Lib.hid (show ([] : List Sp) ++ filledL (x, y) = withoutL y x [] from rfl)
    have hsz : w.heap.size < (w.alloc (.cells #[.int .i64 x, .int .i64 y] 24)).heap.size := by simp
    go_enter Try.func30, Try.ntmps30
    go_wp2_with fail
    refine wp_loop_rounds 1 ?_
    rw [rounds_succ]
    go_wp2_with fail
    refine (filled_any x y _).mono ?_
    rintro e w1 ⟨v1, rfl, h1, hb1⟩
    have HF := Lib.hid h1
    have HX := Lib.hid h1.spans
    have HO1 := Lib.hid (HO.out.kept hb1)
    have hs1 := hb1.size
    have HB1 := Lib.hid hb1
    have hfl := filledL_len (x, y)
    clear h1 hb1 c0 c1
    go_wp2_with (at_builtin; refine wpList_append_spans _ rfl _ _ rfl (w.heap.size + 1) _ _ [] (filledL (x, y)) rfl rfl (by omega) HO1.out HX.out (by omega) ?_; intro v2 w2 happ)
    have HE := Lib.hid (HT.out _ x _ [] HO.out hLl hB hbox HGL.out _ _ HF.out HB1.out _ _ happ)
    clear happ
    go_ret
    exact HE.out
  · have HS := Lib.hid (show SAt w b off l from ‹_›)
    go_enter Try.func30, Try.ntmps30
    go_wp2_with fail
    go_loopw [5, 10] (fun o i wr => ∃ (k : Nat) (z : Int) (L : List Sp), k ≤ l.length ∧ i = .int .i64 (k : Int) ∧ OwnS wr (w.heap.size + 1) o L ∧ L.length ≤ k ∧ wr.heap[w.heap.size]? = some (.cells #[.int .i64 z, .int .i64 y] 24 (0, 0)) ∧ L ++ withoutL y z (l.drop k) = withoutL y x l ∧ Below w.heap.size w wr) (fun _ i _ => l.length - (intOf i).toNat)
    case atStart => exact ⟨0, x, [], Nat.zero_le _, rfl, OwnS.nil _ _, Nat.le_refl _, HK0.out, rfl, hb0⟩
    case round =>
      obtain ⟨k, z, L, hk, rfl, ho, hLk, hbox, hg, hB⟩ := hrel
      have HO := Lib.hid ho
      have HG := Lib.hid hg
      obtain ⟨oa, oc, rfl⟩ := ho.form
      clear ho hg
      have hsz : w.heap.size < wr.heap.size := block_lt hbox
      have hLl : L.length ≤ 1099511627776 := by omega
      have c0 := two0 hbox
      have c1 := two1 hbox
      by_cases hlt2 : k < l.length
      · have hd := drop_cons l k hlt2
        have d0 := (hB.cell (p := ⟨b, off + k * 2, none⟩) hlt).trans (HS.out k hlt2).1
        have d1 := (hB.cell (p := ⟨b, off + k * 2 + 1, none⟩) hlt).trans (HS.out k hlt2).2
        obtain ⟨p, hp⟩ : ∃ p, p = l[k].1 := ⟨_, rfl⟩
        obtain ⟨q, hq⟩ : ∃ q, q = l[k].2 := ⟨_, rfl⟩
        rw [show l[k] = (l[k].1, l[k].2) from rfl, ← hp, ← hq] at hd
        rw [← hp] at d0
        rw [← hq] at d1
        have HN := Lib.hid (show (L ++ filledL (z, max z p)) ++ withoutL y (min y q) (l.drop (k + 1)) = withoutL y x l from by have := HG.out; rw [hd] at this; rw [List.append_assoc]; exact this)
        clear hp hq hd
        have hA := (Below.refl wr.heap.size wr).alloc (Nat.le_refl _) (.cells #[.int .i64 p, .int .i64 q] 24)
        have hboxA := (old_block wr (.cells #[.int .i64 p, .int .i64 q] 24) hsz).trans hbox
        have hboxP := new_block wr (.cells #[.int .i64 p, .int .i64 q] 24)
        have HOA := Lib.hid (HO.out.kept hA)
        have hBA := hB.alloc (by omega) (.cells #[.int .i64 p, .int .i64 q] 24)
        have hszA : (wr.alloc (.cells #[.int .i64 p, .int .i64 q] 24)).heap.size = wr.heap.size + 1 := by simp
        clear hA hbox
        go_wp2_with fail
        all_goals
          refine (filled_any z _ _).mono ?_
          rintro e w1 ⟨v1, rfl, h1, hb1⟩
          have HX := Lib.hid h1.spans
          have HO1 := Lib.hid (HOA.out.kept hb1)
          have hs1 := hb1.size
          rw [hszA] at hs1
          have hbox1 := Bl.old hb1 (by omega) hboxA
          have hboxP1 := Bl.old hb1 (by omega) hboxP
          have hB1 := Bl.next hBA hb1
          have hfl := filledL_len (z, max z p)
          clear h1 hb1 c0 c1 d0 d1 hboxA hboxP hBA
          go_wp2_with (at_builtin; refine wpList_append_spans _ rfl _ _ rfl (w.heap.size + 1) (.slice oa L.length oc) _ L _ rfl rfl (by omega) HO1.out HX.out (by have := filledL_len (z, p); have := filledL_len (z, z); omega) ?_; intro v2 w2 happ; have HAP := Lib.hid happ; have hbox2 := (grown_old HO1.out happ.2.1 (block_lt hbox1) (Nat.lt_succ_self _)).trans hbox1; have hboxP2 := (grown_new HO.out happ.2.1 (block_lt hboxP1) (Nat.le_refl _)).trans hboxP1; have c0 := two0 hbox2; have c1 := two1 hbox2; have e0 := two0 hboxP2; have e1 := two1 hboxP2; have fz := free hbox2 0; have hB2 := hB1.grown happ.2.1 hB1.size (fun k hk => by have := (HO1.out.lt k hk).1; omega); clear happ)
          all_goals
            go_roundw
            case rel =>
              have hne : ∀ j, v2.ownBlock = some j → j ≠ w.heap.size := fun j hj => by have := (HAP.out.1.lt j hj).1; omega
              refine ⟨k + 1, _, _, by omega, by go_num, HAP.out.1.same (fun j hj => set_other _ _ _ _ _ (hne j hj)), ?_, heap_put hbox2 0 _, ?_, hB2.setCell (p := ⟨w.heap.size, 0, none⟩) (Nat.le_refl _) _⟩
              · rw [List.length_append]
                first
                  | (have := filledL_len (z, p); omega)
                  | (have := filledL_len (z, z); omega)
              · have this := HN.out
                rw [show min y q = (if q < y then q else y) from by split <;> omega] at this
                first
                  | (rw [show max z p = p from by omega] at this; exact this)
                  | (rw [show max z p = z from by omega] at this; exact this)
            case measure => simp [intOf]; omega
      · have HGL := Lib.hid (show L ++ filledL (z, y) = withoutL y x l from by have := HG.out; rw [List.drop_of_length_le (by omega)] at this; exact this)
        go_wp2_with fail
        refine (filled_any z y _).mono ?_
        rintro e w1 ⟨v1, rfl, h1, hb1⟩
        have HF := Lib.hid h1
        have HX := Lib.hid h1.spans
        have HO1 := Lib.hid (HO.out.kept hb1)
        have hs1 := hb1.size
        have HB1 := Lib.hid hb1
        have hfl := filledL_len (z, y)
        clear h1 hb1 c0 c1
        go_wp2_with (at_builtin; refine wpList_append_spans _ rfl _ _ rfl (w.heap.size + 1) _ _ L (filledL (z, y)) rfl rfl (by omega) HO1.out HX.out (by omega) ?_; intro v2 w2 happ)
        have HE := Lib.hid (HT.out _ z _ L HO.out hLl hB hbox HGL.out _ _ HF.out HB1.out _ _ happ)
        clear happ
        go_ret
        exact HE.out
end Go.Proofs.Ytifceaffglomaaa.Sn
