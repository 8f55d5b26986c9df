/-
  vary.Names: what it returns. Conditions: fields of at most 2^20 bytes in all; the table of token bytes.
-/
import Derived.Test.YtcnipjmeillfeaaDoorVrSort
import Derived.Test.YtcnipjmeillfeaaDoorVrShelf
import Derived.Test.YtcnipjmeillfeaaDoorFdNames
import Derived.Test.YtcnipjmeillfeaaDoorFdMap
namespace Go.Proofs.YtcnipjmeillfeaaDoor.Vr
open Go.RowKit Go.Maps Go.Proofs.YtcnipjmeillfeaaDoor.Tk Go.Proofs.YtcnipjmeillfeaaDoor.Fd
set_option linter.unusedVariables false

/-- What Names answers: nothing and false, or the names in memory of its own and true. -/
def VNamesPost (fs : List Fl) (w : World) (e : Ending) (w' : World) : Prop :=
  Below w.heap.size w w' ∧ ((namesV fs = none ∧ e = .returned (.tuple #[.slice none 0 0, .bool false])) ∨
    ∃ ls v, namesV fs = some ls ∧ e = .returned (.tuple #[v, .bool true]) ∧ w'.ownsRow w.heap.size 9 1 v ls.length (ls.map TS))
theorem has_vary : ∀ f : Fl, Fd.has [86, 97, 114, 121] f = Fd.has varyL f := fun f => by
  unfold Fd.has alike
  rw [show lower [86, 97, 114, 121] = lower varyL from by decide +kernel]
theorem getT_vary (fs : List Fl) : getT fs [86, 97, 114, 121] = getT fs varyL := by
  unfold getT sel
  rw [show Fd.has [86, 97, 114, 121] = Fd.has varyL from funext has_vary]
/-- What the names come to, with what is known of the list. -/
theorem names_any_case {t : Bs} {w : World} {e : Ending} {w' : World} (h : NamesPost t w e w') :
    Below w.heap.size w w' ∧ ∃ u ls ok, e = .returned (.tuple #[u, .bool ok]) ∧ w'.ownsRow w.heap.size 9 1 u ls.length (ls.map TS) ∧ ((ok = false ∧ namesOf t = none ∧ ls = []) ∨ (ok = true ∧ namesOf t = some ls)) := by
  obtain ⟨hb, ⟨h1, rfl⟩ | ⟨ls, v, h1, rfl, ho⟩⟩ := h
  · exact ⟨hb, _, [], false, rfl, World.ownsRow_nil _ _ _ _, .inl ⟨rfl, h1, rfl⟩⟩
  · exact ⟨hb, v, ls, true, rfl, ho, .inr ⟨rfl, h1⟩⟩
theorem names_len {t : Bs} {ls : List Bs} {ok : Bool} (h : (ok = false ∧ namesOf t = none ∧ ls = []) ∨ (ok = true ∧ namesOf t = some ls)) : ls.length ≤ t.length + 1 ∧ ∀ x ∈ ls, x.length ≤ t.length := by
  rcases h with ⟨_, _, rfl⟩ | ⟨_, h⟩
  · simp
  · exact ⟨names_length h, names_piece h⟩
theorem namesV_star {fs : List Fl} {ls : List Bs} {ok : Bool} {P : Prop} (h : (ok = false ∧ namesOf (getT fs varyL) = none ∧ P) ∨ (ok = true ∧ namesOf (getT fs varyL) = some ls)) (hs : ls.contains [42] = true) : namesV fs = none := by
  rcases h with ⟨_, h, _⟩ | ⟨_, h⟩
  · unfold namesV; rw [h]
  · unfold namesV; rw [h]; simp only [hs, if_true]
theorem namesV_some {fs : List Fl} {ls : List Bs} (h : namesOf (getT fs varyL) = some ls) (hs : ls.contains [42] = false) : namesV fs = some (sortU ls) := by
  unfold namesV; rw [h]; simp only [hs]; rfl
theorem namesV_none {fs : List Fl} (h : namesOf (getT fs varyL) = none) : namesV fs = none := by unfold namesV; rw [h]
/-- 'make(map[string]struct{}, n)'. -/
theorem make_hint (n : Int) (W : World) : (Instr.makeMap 40 (some (.int .i64 n))).run Tryd.prog W = .ok (.map (some W.heap.size)) (W.alloc (.map #[] 0)) := by
  unfold Instr.makeMap
  simp only [Sem.run_bind, run_underlying Tryd.underlying40, Result.andThen]
  rfl
/-- The map cleared. -/
theorem SetOf.clear {W : World} {M : Nat} {ls : List Bs} (h : SetOf W M ls) (ty : TypeId) :
    ∃ W', (Builtin.clear_ #[40] ty #[.map (some M)]).run Tryd.prog W = .ok (.tuple #[]) W' ∧ SetOf W' M [] ∧ W.mapTurned W' M := by
  have hlt := h.lt
  obtain ⟨es, c, hb, _⟩ := h
  refine ⟨Go.ChangeMaps.setBlock W M (.map #[] c), ?_, ⟨#[], c, ?_, ⟨by simp, MapKept.stamped_empty c, by simp⟩, Nat.le_refl _, rfl⟩, es, c, #[], c, hb, rfl⟩
  · simp [Builtin.clear_, run_underlying Tryd.underlying40, MapKept.run_getObj_map hb, MapKept.run_setObj_map _ hb, Result.andThen]; rfl
  · show (W.heap.setIfInBounds M _)[M]? = _
    rw [Array.getElem?_setIfInBounds_self_of_lt hlt]
theorem turned_below {B : Nat} {w0 W W' : World} {M : Nat} (h : Below B w0 W) (ht : W.mapTurned W' M) (hM : B ≤ M) (hB : B ≤ W.heap.size) : Below B w0 W' := h.grown ht.grown hB (fun k hk => by injection hk with hk; omega)
/-- What the library's Sorted hands back, told as texts. -/
theorem sorted_own {W : World} {base : Nat} {v : Value} {ss ls : List Bs} (h : W.ownsRow base 9 1 v ss.length ((ss.mergeSort (fun x y => decide (x ≤ y))).map encStr)) (hp : ss.Perm (strKeys (Maps.setOf (.agg [] : DataW Unit) (ls.map Lit.string)))) :
    W.ownsRow base 9 1 v (sortU ls).length ((sortU ls).map TS) ∧ (ls = [] → ss = []) := by
  obtain ⟨h1, h2⟩ := sorted_set (.agg [] : DataW Unit) ls ss hp
  rw [h1, h2] at h
  refine ⟨h, fun h0 => ?_⟩
  subst h0
  exact List.length_eq_zero_iff.1 h2

set_option maxHeartbeats 4000000 in
set_option maxRecDepth 100000 in
theorem vnames_any (v : Value) (fs : List Fl) (w : World) (hf : Flds w v fs) (ht : tot fs ≤ 1048576) (hT : Tab w) :
    Calls Tryd.prog 8 #[v] w (VNamesPost fs w) := by
  have hgl := getT_length fs varyL
  have HN := Lib.hid (names_any v fs ⟨#[86, 97, 114, 121]⟩ w hf ht (by decide) hT)
  have HG := Lib.hid (getT_vary fs)
  clear hf hT
  go_enter Tryd.func8, Tryd.ntmps8
  go_wp2_with fail
  refine HN.out.mono ?_
  rintro e w1 hpost
  obtain ⟨hB1, u, ls, ok, rfl, ho, hcase⟩ := names_any_case hpost
  rw [HG.out] at hcase
  obtain ⟨hll, hpc⟩ := names_len hcase
  have HCASE := Lib.hid hcase
  have HPC := Lib.hid hpc
  have hs1 := hB1.size
  obtain ⟨M, hM⟩ : ∃ M, M = w1.heap.size := ⟨_, rfl⟩
  have HSET0 := Lib.hid (show SetOf (w1.alloc (.map #[] 0)) M [] from by rw [hM]; exact SetOf.new w1)
  have hBM := hB1.alloc hs1 (.map #[] 0)
  have hwM : w.heap.size ≤ M := by omega
  have hM1 : w1.heap.size ≤ M := by omega
  have HM := Lib.hid hM
  have HT := Lib.hid (Texts.of_owns ho rfl)
  have hTl : ∀ g off cap, u = .slice (some ⟨g, off, none⟩) ls.length cap → 0 < ls.length → g < w1.heap.size := by
    intro g off cap hu h0
    rcases ho.2 with ⟨h1, h2⟩ | ⟨g', cap', cur, h1, _, h2, _⟩
    · omega
    · rw [hu] at h1; injection h1 with h1 _ _; injection h1 with h1; injection h1 with h1 _ _; rw [h1]; exact block_lt h2
  have HTL := Lib.hid hTl
  clear hpost hcase hpc ho HN hTl hM
  have hform : (ls = [] ∧ ∃ a cap, u = .slice a 0 cap) ∨ (0 < ls.length ∧ ∃ g off cap, u = .slice (some ⟨g, off, none⟩) ls.length cap ∧ ∀ j (hj : j < ls.length), w1.cell? ⟨g, off + j, none⟩ = some (TS ls[j])) := by
    rcases HT.out with ⟨h, a, cap, hu⟩ | ⟨g, off, cap, hu, hc⟩
    · exact .inl ⟨h, a, cap, hu⟩
    · by_cases h0 : ls.length = 0
      · rw [h0] at hu; exact .inl ⟨List.length_eq_zero_iff.1 h0, _, cap, hu⟩
      · exact .inr ⟨by omega, g, off, cap, hu, hc⟩
  rcases hform with ⟨rfl, a, cap, rfl⟩ | ⟨h00, g, off, cap, rfl, hc⟩
  · clear HT HTL HPC
    have hmk := fun n : Int => make_hint n w1
    go_wp2_with fail
    refine wp_loop_rounds 1 ?_
    rw [rounds_succ]
    rw [← HM.out]
    have HSET := HSET0
    have hBW := hBM
    clear HSET0 hBM
    generalize w1.alloc (.map #[] 0) = W at HSET hBW ⊢
    clear HM hM1 hB1 hs1 hmk
    have hsW := hBW.size
    have hMW := HSET.out.lt
    have hlen2 : ([] : List Bs).length ≤ 2097153 := by first | omega | simp
    have HS2 := Lib.hid (HSET.out.old ((Below.refl W.heap.size W).alloc (Nat.le_refl _) (.cells #[] 41)) hMW)
    have hB2 := hBW.alloc hsW (.cells #[] 41)
    obtain ⟨bb, hbb⟩ : ∃ bb, bb = ([] : List Bs).contains [42] := ⟨_, rfl⟩
    have hlook := HSET.out.look ⟨#[42]⟩ (by decide)
    rw [show (([] : List Bs).contains (⟨#[42]⟩ : ByteArray).data.toList) = bb from hbb.symm] at hlook
    cases bb with
    | false =>
      have HBB := Lib.hid hbb.symm
      clear hbb
      go_wp2_with fail
      generalize W.alloc (.cells #[] 41) = W2 at HS2 hB2 ⊢
      refine (callsIn_wide.1 (Vs.maps_Keys (some M) _)).mono ?_
      rintro e w2 ⟨rfl, rfl⟩
      go_wp2_with fail
      refine (callsIn_wide.1 (Vs.slices_Sorted_keys M ([] : List Bs).length _ _ _ HS2.out (Nat.le_trans (size_set _ _) (by unfold maxLen; omega)) (by have := size_set (.agg [] : DataW Unit) ([] : List Bs); omega))).mono ?_
      rintro e w3 ⟨x, ss, rfl, hS, hrow, hnil, hb3⟩
      obtain ⟨hrow2, hemp⟩ := sorted_own hrow hS
      have hB3 := (hB2.alloc hB2.size (.cells #[.map (some M)] 40))
      have hB4 := hB3.trans (hb3.mono hB3.size)
      have HR := Lib.hid (show w3.ownsRow w.heap.size 9 1 x _ _ from Fd.owns_mono hrow2 hB3.size)
      have HNL := Lib.hid (show ([] : List Bs) = [] → x = .slice none 0 0 from fun h => hnil.2 (hemp h))
      clear hrow hrow2 hS hnil hemp hb3
      go_wp2_with fail
      go_ret2
      refine ⟨hB4, ?_⟩
      rcases HCASE.out with ⟨rfl, h1, h2⟩ | ⟨rfl, h1⟩
      · exact .inl ⟨namesV_none h1, by rw [HNL.out (by first | exact h2 | rfl)]; rfl⟩
      · exact .inr ⟨_, x, namesV_some h1 HBB.out, rfl, HR.out⟩
    | true =>
      have HBB := Lib.hid (namesV_star HCASE.out hbb.symm)
      obtain ⟨W', hrun, hset, hturn⟩ := SetOf.clear HS2.out 0
      have HS3 := Lib.hid hset
      have hB5 := turned_below hB2 hturn hwM hB2.size
      clear hbb hset hturn
      go_wp2_with fail
      refine (callsIn_wide.1 (Vs.maps_Keys (some M) _)).mono ?_
      rintro e w2 ⟨rfl, rfl⟩
      go_wp2_with fail
      refine (callsIn_wide.1 (Vs.slices_Sorted_keys M 0 _ _ _ HS3.out (Nat.le_trans (size_set _ []) (by unfold maxLen; simp)) (by have := size_set (.agg [] : DataW Unit) []; simp at this; show Maps.size (Maps.setOf (.agg [] : DataW Unit) (List.map Lit.string [])) * 16 ≤ _; simp; omega))).mono ?_
      rintro e w3 ⟨x, ss, rfl, hS, hrow, hnil, hb3⟩
      obtain ⟨hrow2, hemp⟩ := sorted_own (ls := []) hrow hS
      have hB3 := (hB5.alloc hB5.size (.cells #[.map (some M)] 40))
      have hB4 := hB3.trans (hb3.mono hB3.size)
      have HNL := Lib.hid (show x = .slice none 0 0 from hnil.2 (hemp rfl))
      clear hrow hrow2 hS hnil hemp hb3
      go_wp2_with fail
      go_ret2
      exact ⟨hB4, .inl ⟨HBB.out, by rw [HNL.out]; rfl⟩⟩
  · have HC := Lib.hid hc
    have hgl1 := HTL.out g off cap rfl h00
    have hmk := fun n : Int => make_hint n w1
    clear hc HT HTL
    go_wp2_with fail
    rw [← HM.out]
    go_loopw [21] (fun i wr => ∃ k : Nat, k ≤ ls.length ∧ i = .int .i64 (k : Int) ∧ SetOf wr M (ls.take k) ∧ Below M (w1.alloc (.map #[] 0)) wr) (fun i _ => ls.length - (intOf i).toNat)
    case atStart => exact ⟨0, Nat.zero_le _, rfl, HSET0.out, Below.refl _ _⟩
    case round =>
      obtain ⟨k, hk, rfl, hSk, hBk⟩ := hrel
      by_cases hlt2 : k < ls.length
      · have c1 : wr.cell? ⟨g, off + k, none⟩ = some (TS ls[k]) := (hBk.cell (p := ⟨g, off + k, none⟩) (by show g < M; omega)).trans (((Below.refl w1.heap.size w1).alloc (Nat.le_refl _) _).cell (p := ⟨g, off + k, none⟩) hgl1 |>.trans (HC.out k hlt2))
        have hxz := HPC.out ls[k] (List.getElem_mem hlt2)
        have htk : (ls.take k).length ≤ k := List.length_take_le _ _
        obtain ⟨x, hx⟩ : ∃ x : ByteArray, x = ⟨ls[k].toArray⟩ := ⟨_, rfl⟩
        have hxs : x.size ≤ maxLen := by rw [hx]; show ls[k].toArray.size ≤ _; rw [List.size_toArray]; unfold maxLen; omega
        obtain ⟨W', hrun, hset, hturn⟩ := hSk.store x hxs (by unfold maxLen; omega)
        have HSET := Lib.hid (show SetOf W' M (ls.take (k + 1)) from by rw [take_next ls k hlt2]; have h := hset; rw [hx] at h; exact h)
        unfold TS at c1
        rw [← hx] at c1
        have hB' := turned_below hBk hturn (Nat.le_refl _) (by have := hSk.lt; omega)
        clear hx hset hturn hxz hSk
        go_wp2_with fail
        go_roundw
        case rel => exact ⟨k + 1, by omega, by go_num, HSET.out, hB'⟩
        case measure => simp [intOf]; omega
      · have hkl : k = ls.length := by omega
        have HSET := Lib.hid (show SetOf wr M ls from by have h := hSk; rw [hkl, List.take_of_length_le (Nat.le_refl _)] at h; exact h)
        have hBW : Below w.heap.size w wr := hBM.trans (hBk.mono hwM)
        have HKN := Lib.hid hkl
        clear hkl hSk hBk hBM HSET0 HM hM1 hmk hgl1 HC HPC hB1 hs1
        generalize wr = W at HSET hBW ⊢
        have hsW := hBW.size
        have hMW := HSET.out.lt
        have hlen2 : ls.length ≤ 2097153 := by first | omega | simp
        have HS2 := Lib.hid (HSET.out.old ((Below.refl W.heap.size W).alloc (Nat.le_refl _) (.cells #[] 41)) hMW)
        have hB2 := hBW.alloc hsW (.cells #[] 41)
        obtain ⟨bb, hbb⟩ : ∃ bb, bb = ls.contains [42] := ⟨_, rfl⟩
        have hlook := HSET.out.look ⟨#[42]⟩ (by decide)
        rw [show (ls.contains (⟨#[42]⟩ : ByteArray).data.toList) = bb from hbb.symm] at hlook
        cases bb with
        | false =>
          have HBB := Lib.hid hbb.symm
          clear hbb
          go_wp2_with fail
          generalize W.alloc (.cells #[] 41) = W2 at HS2 hB2 ⊢
          refine (callsIn_wide.1 (Vs.maps_Keys (some M) _)).mono ?_
          rintro e w2 ⟨rfl, rfl⟩
          go_wp2_with fail
          refine (callsIn_wide.1 (Vs.slices_Sorted_keys M ls.length _ _ _ HS2.out (Nat.le_trans (size_set _ _) (by unfold maxLen; omega)) (by have := size_set (.agg [] : DataW Unit) ls; omega))).mono ?_
          rintro e w3 ⟨x, ss, rfl, hS, hrow, hnil, hb3⟩
          obtain ⟨hrow2, hemp⟩ := sorted_own hrow hS
          have hB3 := (hB2.alloc hB2.size (.cells #[.map (some M)] 40))
          have hB4 := hB3.trans (hb3.mono hB3.size)
          have HR := Lib.hid (show w3.ownsRow w.heap.size 9 1 x _ _ from Fd.owns_mono hrow2 hB3.size)
          have HNL := Lib.hid (show ls = [] → x = .slice none 0 0 from fun h => hnil.2 (hemp h))
          clear hrow hrow2 hS hnil hemp hb3
          go_wp2_with fail
          go_ret2
          refine ⟨hB4, ?_⟩
          rcases HCASE.out with ⟨rfl, h1, h2⟩ | ⟨rfl, h1⟩
          · exact .inl ⟨namesV_none h1, by rw [HNL.out (by first | exact h2 | rfl)]; rfl⟩
          · exact .inr ⟨_, x, namesV_some h1 HBB.out, rfl, HR.out⟩
        | true =>
          have HBB := Lib.hid (namesV_star HCASE.out hbb.symm)
          obtain ⟨W', hrun, hset, hturn⟩ := SetOf.clear HS2.out 0
          have HS3 := Lib.hid hset
          have hB5 := turned_below hB2 hturn hwM hB2.size
          clear hbb hset hturn
          go_wp2_with fail
          refine (callsIn_wide.1 (Vs.maps_Keys (some M) _)).mono ?_
          rintro e w2 ⟨rfl, rfl⟩
          go_wp2_with fail
          refine (callsIn_wide.1 (Vs.slices_Sorted_keys M 0 _ _ _ HS3.out (Nat.le_trans (size_set _ []) (by unfold maxLen; simp)) (by have := size_set (.agg [] : DataW Unit) []; simp at this; show Maps.size (Maps.setOf (.agg [] : DataW Unit) (List.map Lit.string [])) * 16 ≤ _; simp; omega))).mono ?_
          rintro e w3 ⟨x, ss, rfl, hS, hrow, hnil, hb3⟩
          obtain ⟨hrow2, hemp⟩ := sorted_own (ls := []) hrow hS
          have hB3 := (hB5.alloc hB5.size (.cells #[.map (some M)] 40))
          have hB4 := hB3.trans (hb3.mono hB3.size)
          have HNL := Lib.hid (show x = .slice none 0 0 from hnil.2 (hemp rfl))
          clear hrow hrow2 hS hnil hemp hb3
          go_wp2_with fail
          go_ret2
          exact ⟨hB4, .inl ⟨HBB.out, by rw [HNL.out]; rfl⟩⟩
end Go.Proofs.YtcnipjmeillfeaaDoor.Vr
