/-
  TokenJoins: elements that are joined with commas, and blanks, are split as they were.
  Conditions: the table of token bytes holds what the program's text lays (the card ties it).
-/
import Derived.Test.YthccojahaadjoaaDoorTokTable
import Derived.Test.YthccojahaadjoaaDoorTokPair
import Derived.Test.YthccojahaadjoaaDoorTokJoinMath
import Derived.Test.YthccojahaadjoaaDoorTokTexts
import Derived.SliceStrings
import Derived.SizedLaws
namespace Go.Proofs.YthccojahaadjoaaDoor.tokenJoins
open Go.ChangeShapes Go.WideShapes Go.ChangeAt Go.RowKit
set_option linter.unusedVariables false

theorem below_drewN {B : Nat} {a w w' : World} {n : Nat} (h : Below B a w) (e : w' = w.drewN n) : Below B a w' := by
  subst e; exact ⟨h.os, h.tape, h.output, h.size, h.block⟩
theorem owns_kept {w w' : World} {base : Nat} {e : TypeId} {v : Value} {n : Nat} {xs : List Value} (h : w.ownsRow base e 1 v n xs) (hb : Below w.heap.size w w') : w'.ownsRow base e 1 v n xs := by
  refine ⟨h.1, ?_⟩
  rcases h.2 with h2 | ⟨g, cap, cur, hv, hg, hh, r⟩
  · exact .inl h2
  · exact .inr ⟨g, cap, cur, hv, hg, (hb.block g (lt_of_block hh)).trans hh, r⟩
theorem const_split : Tk.splitOf (⟨#[97, 44, 32, 98]⟩ : ByteArray).data.toList = some [[97], [98]] := by decide +kernel
theorem empty_split : Tk.splitOf (⟨#[]⟩ : ByteArray).data.toList = some [] := by decide +kernel
theorem pair_cases (l : Tk.Bs) : (Tk.pairOf l = none ∧ Tk.pairVal l = .tuple #[.string ⟨#[]⟩, .string ⟨#[]⟩, .bool false, .bool false]) ∨ (Tk.pairOf l ≠ none ∧ ∃ a b c, Tk.pairVal l = .tuple #[.string a, .string b, .bool c, .bool true]) := by
  unfold Tk.pairVal
  cases h : Tk.pairOf l with
  | none => exact .inl ⟨rfl, rfl⟩
  | some x =>
    obtain ⟨a, v⟩ := x
    cases v with
    | none => exact .inr ⟨by simp, _, _, _, rfl⟩
    | some v => exact .inr ⟨by simp, _, _, _, rfl⟩
/-- The first call: a list of two. -/
theorem first_two (w : World) {e : Ending} {w1 : World} (h : Tk.SplitPost (⟨#[97, 44, 32, 98]⟩ : ByteArray).data.toList w e w1) : Below w.heap.size w w1 ∧ ∃ a c, e = .returned (.tuple #[.slice a 2 c, .bool true]) := by
  obtain ⟨hb, h1⟩ := h
  rcases h1 with ⟨h, _⟩ | ⟨ls, v, h, he, ho⟩
  · rw [const_split] at h; cases h
  · rw [const_split] at h; injection h with h; subst h
    obtain ⟨a, c, hv⟩ := (Tk.Texts.of_owns ho rfl).shape
    exact ⟨hb, a, c, by rw [he, hv]; rfl⟩

set_option maxHeartbeats 4000000 in
theorem walk_none (a0 : Option Addr) (cap : Nat) (w : World) :
    Calls Tryd.prog 5 #[.slice a0 0 cap] w fun e w' => e = .returned (.bool true) ∧ Below w.heap.size w w' := by
  go_enter Tryd.func5, Tryd.ntmps5
  go_wp2_with fail
  refine (Tk.split_any _ _ (by decide)).mono ?_
  intro e w1 hp
  obtain ⟨hb1, a1, c1, he⟩ := first_two w hp
  rw [he]
  clear he hp
  go_wp2_with fail
  refine wp_loop_rounds 1 ?_
  rw [rounds_succ]
  go_wp2_with fail
  refine (Tk.split_any _ _ (by decide)).mono ?_
  rintro e w2 ⟨hb2, h2⟩
  rcases h2 with ⟨h, _⟩ | ⟨ls, v, h, he, ho⟩
  · rw [empty_split] at h; cases h
  · rw [empty_split] at h
    injection h with h
    subst h
    rw [he]
    clear he
    have HT := Lib.hid (Tk.Texts.of_owns ho rfl)
    obtain ⟨a2, c2, hv⟩ := HT.out.shape
    rw [hv]
    rw [hv] at HT
    have hB := hb1.trans (hb2.mono hb1.size)
    clear hv ho hb1 hb2
    go_wp2_with fail
    refine (Tk.texts_any _ _ [] [] _ HT.out (.inl ⟨rfl, _, _, rfl⟩) (by simp)).mono ?_
    rintro e w3 ⟨rfl, n3, hw3⟩
    have hB3 := below_drewN hB hw3
    clear hB hw3
    go_wp2_with fail
    go_ret
    exact ⟨rfl, hB3⟩

/-- What the loop keeps. -/
def Kept (w : World) (len : Nat) (x wt i : Value) (wr : World) : Prop :=
  ∃ (k : Nat) (X : ByteArray) (ls : List Tk.Bs), k ≤ len ∧ k ≤ 20 ∧ i = .int .i64 (k : Int) ∧ x = .string X ∧ X.data.toList = Tk.joinL ls ∧ X.size ≤ 503 * k ∧ (∀ e ∈ ls, Tk.Solid e) ∧
    wr.ownsRow w.heap.size 9 1 wt ls.length (ls.map Tk.S) ∧ Below w.heap.size w wr ∧ ls.length ≤ k
theorem text_nil {X : ByteArray} {l : Tk.Bs} (h : X.data.toList = l) (h0 : l = []) : X.toList = [] := by rw [ByteArray.toList_eq, h, h0]
theorem text_more {X : ByteArray} {l : Tk.Bs} (h : X.data.toList = l) (h0 : l ≠ []) : X.toList.isEmpty = false := by
  rw [ByteArray.toList_eq, h]; cases l with
  | nil => exact absurd rfl h0
  | cons => rfl
theorem solid_snoc {ls : List Tk.Bs} (h : ∀ e ∈ ls, Tk.Solid e) {x : Tk.Bs} (hx : Tk.Solid x) : ∀ e ∈ ls ++ [x], Tk.Solid e := by
  intro e he; rw [List.mem_append] at he
  rcases he with he | he
  · exact h e he
  · simp at he; subst he; exact hx
theorem s_text {Y : ByteArray} : Tk.S Y.data.toList = .string Y := by unfold Tk.S; rw [← Tk.bytes_ext' (t := Y) rfl]
theorem owns_more {w1 : World} {base : Nat} {v' : Value} {ls : List Tk.Bs} {E : ByteArray} {t : TypeId} (h : w1.ownsRow base t 1 v' (ls.length + 1) (ls.map Tk.S ++ [.string E])) : w1.ownsRow base t 1 v' (ls ++ [E.data.toList]).length ((ls ++ [E.data.toList]).map Tk.S) := by
  rw [List.map_append, List.map_singleton, s_text, List.length_append]; exact h

set_option maxHeartbeats 8000000 in
theorem walk_some (b off len cap : Nat) (ss : Nat → ByteArray) (w : World) (hT : Tk.Tab w) (hlen : len ≤ 9223372036854775807) (hb : b < w.heap.size)
    (hS : ∀ i, i < len → w.cell? ⟨b, off + i, none⟩ = some (.string (ss i)) ∧ (ss i).size ≤ 140737488351232) :
    Calls Tryd.prog 5 #[.slice (some ⟨b, off, none⟩) len cap] w fun e w' => e = .returned (.bool true) ∧ Below w.heap.size w w' := by
  have HT := Lib.hid hT
  have HS := Lib.hid hS
  clear hT hS
  obtain ⟨i0, hi, hz0, hz1, hz2⟩ := info_parts Tk.infoString
  go_enter Tryd.func5, Tryd.ntmps5
  go_wp2_with fail
  refine (Tk.split_any _ _ (by decide)).mono ?_
  intro e w1 hp
  obtain ⟨hb1, a1, c1, he⟩ := first_two w hp
  rw [he]
  clear he hp
  go_wp2_with fail
  go_loopw [5, 6, 7] (fun x wt i wr => Kept w len x wt i wr) (fun _ _ i _ => 20 - (intOf i).toNat)
  case atStart => exact ⟨0, ⟨#[]⟩, [], Nat.zero_le _, by omega, rfl, rfl, rfl, Nat.zero_le _, (fun _ h => by cases h), World.ownsRow_nil _ _ _ _, hb1, Nat.zero_le _⟩
  case round =>
    obtain ⟨k, X, ls, hk, hk20, rfl, rfl, hX, hXs, hsol, hown, hbel, hls⟩ := hrel
    have HX := Lib.hid hX
    have HSOL := Lib.hid hsol
    have hsz := hbel.size
    clear hX hsol hb1
    by_cases hlt : k < len
    · by_cases h20 : k < 20
      · have hc := (hbel.cell (p := ⟨b, off + k, none⟩) hb).trans (HS.out k hlt).1
        have HEs := Lib.hid (HS.out k hlt).2
        obtain ⟨E, hE⟩ : ∃ E, E = ss k := ⟨_, rfl⟩
        rw [← hE] at hc HEs
        clear hE
        have HTr := Lib.hid (HT.out.below hbel HT.out.lt)
        rcases pair_cases E.data.toList with ⟨hp, hv⟩ | ⟨hp, a, d, c, hv⟩
        · have HV := Lib.hid hv
          clear hp hv
          go_wp2_with fail
          refine (Tk.pair_any E _ HEs.out HTr.out).mono ?_
          rintro e w2 ⟨rfl, hb2⟩
          rw [HV.out]
          have hB2 := hbel.trans (hb2.mono hsz)
          have HO := Lib.hid (owns_kept hown hb2)
          have hc2 := (hb2.cell (p := ⟨b, off + k, none⟩) (by show b < _; omega)).trans hc
          clear hb2 hown hbel hc
          go_wp2_with fail
          go_roundw
          case rel => exact ⟨k + 1, X, ls, by omega, by omega, by go_num, rfl, HX.out, by omega, HSOL.out, HO.out, hB2, by omega⟩
          case measure => simp [intOf]; omega
        · have HV := Lib.hid hv
          have HP := Lib.hid (Tk.pair_solid hp)
          clear hp hv
          by_cases h500 : 500 < E.size
          · have hd5 : decide ((500 : Int) < (E.size : Int)) = true := by rw [decide_eq_true_iff]; omega
            go_wp2_with fail
            refine (Tk.pair_any E _ HEs.out HTr.out).mono ?_
            rintro e w2 ⟨rfl, hb2⟩
            rw [HV.out]
            have hB2 := hbel.trans (hb2.mono hsz)
            have HO := Lib.hid (owns_kept hown hb2)
            have hc2 := (hb2.cell (p := ⟨b, off + k, none⟩) (by show b < _; omega)).trans hc
            clear hb2 hown hbel hc
            go_wp2_with fail
            go_roundw
            case rel => exact ⟨k + 1, X, ls, by omega, by omega, by go_num, rfl, HX.out, by omega, HSOL.out, HO.out, hB2, by omega⟩
            case measure => simp [intOf]; omega
          · have hd5 : decide ((500 : Int) < (E.size : Int)) = false := by rw [decide_eq_false_iff_not]; omega
            by_cases hl0 : ls = []
            · subst hl0
              have he := text_nil HX.out rfl
              have HXe := Lib.hid (show (X ++ E).data.toList = Tk.joinL ([] ++ [E.data.toList]) from by rw [Tk.join_first, ByteArray.data_append, Array.toList_append, HX.out]; rfl)
              have HXz := Lib.hid (show X.size = 0 from by
                have h1 : X.data.toList.length = X.size := by simp
                rw [HX.out] at h1; exact h1.symm)
              go_wp2_with fail
              refine (Tk.pair_any E _ HEs.out HTr.out).mono ?_
              rintro e w2 ⟨rfl, hb2⟩
              rw [HV.out]
              have hB2 := hbel.trans (hb2.mono hsz)
              have hO := owns_kept hown hb2
              have hc2 := (hb2.cell (p := ⟨b, off + k, none⟩) (by show b < _; omega)).trans hc
              have hsz2 := hB2.size
              clear hb2 hown hbel hc
              go_wp2_with (at_builtin; refine wpList_append_own _ rfl _ _ 29 rfl w.heap.size 9 i0 (.string ⟨#[]⟩) 1 16 Tryd.underlying29 hi hz0 hz1 hz2 rfl (by decide) _ _ _ rfl (hO.alloc _) ⟨w2.heap.size, 0, none⟩ 1 1 [.string E] rfl rfl ?c1 ?c2 ?c3 ?c4 ?c5 ?_)
              case c1 =>
                intro j u hj
                match j, hj with
                | 0, hj => simp at hj; subst hj; simp [Addr.add]
              case c2 => intro u hu; simp at hu; subst hu; rfl
              case c3 => unfold maxLen; simp
              case c4 => simp
              case c5 => simp; omega
              intro v' w3 hown' hgrow _
              have hB3 := (hB2.alloc hsz2 _).grown hgrow (by rw [World.size_alloc]; omega) (fun j hj => (hO.lt j hj).1)
              have HO := Lib.hid (owns_more (ls := []) hown')
              clear hown' hgrow hO
              go_wp2_with fail
              go_roundw
              case rel => exact ⟨k + 1, X ++ E, [E.data.toList], by omega, by omega, by go_num, rfl, HXe.out, by rw [ByteArray.size_append, HXz.out]; omega, solid_snoc HSOL.out HP.out, HO.out, hB3, by simp⟩
              case measure => simp [intOf]; omega
            · have he := text_more HX.out (Tk.join_ne HSOL.out hl0)
              have HXe := Lib.hid (show ((X ++ (⟨#[32, 44, 9]⟩ : ByteArray)) ++ E).data.toList = Tk.joinL (ls ++ [E.data.toList]) from by
                rw [Tk.join_next hl0, ByteArray.data_append, Array.toList_append, ByteArray.data_append, Array.toList_append, HX.out]; rfl)
              have hone : ((X ++ (⟨#[32, 44, 9]⟩ : ByteArray))).size = X.size + 3 := by rw [ByteArray.size_append]; rfl
              have HON := Lib.hid hone
              clear hone
              go_wp2_with fail
              refine (Tk.pair_any E _ HEs.out HTr.out).mono ?_
              rintro e w2 ⟨rfl, hb2⟩
              rw [HV.out]
              have hB2 := hbel.trans (hb2.mono hsz)
              have hO := owns_kept hown hb2
              have hc2 := (hb2.cell (p := ⟨b, off + k, none⟩) (by show b < _; omega)).trans hc
              have hsz2 := hB2.size
              clear hb2 hown hbel hc
              go_wp2_with (at_builtin; refine wpList_append_own _ rfl _ _ 29 rfl w.heap.size 9 i0 (.string ⟨#[]⟩) 1 16 Tryd.underlying29 hi hz0 hz1 hz2 rfl (by decide) _ _ _ rfl (hO.alloc _) ⟨w2.heap.size, 0, none⟩ 1 1 [.string E] rfl rfl ?d1 ?d2 ?d3 ?d4 ?d5 ?_)
              case d1 =>
                intro j u hj
                match j, hj with
                | 0, hj => simp at hj; subst hj; simp [Addr.add]
              case d2 => intro u hu; simp at hu; subst hu; rfl
              case d3 => unfold maxLen; omega
              case d4 => omega
              case d5 => simp; omega
              intro v' w3 hown' hgrow _
              have hB3 := (hB2.alloc hsz2 _).grown hgrow (by rw [World.size_alloc]; omega) (fun j hj => (hO.lt j hj).1)
              have HO := Lib.hid (owns_more hown')
              clear hown' hgrow hO
              go_wp2_with fail
              go_roundw
              case rel => exact ⟨k + 1, _, ls ++ [E.data.toList], by omega, by omega, by go_num, rfl, HXe.out, by rw [ByteArray.size_append, HON.out]; omega, solid_snoc HSOL.out HP.out, HO.out, hB3, by simp; omega⟩
              case measure => simp [intOf]; omega
      · skip
        have HSP := Lib.hid (show Tk.splitOf X.data.toList = some ls from by rw [HX.out]; exact Tk.split_joined ls HSOL.out)
        go_wp2_with fail
        refine (Tk.split_any X _ (by omega)).mono ?_
        rintro e w2 ⟨hb2, h2⟩
        rcases h2 with ⟨h, _⟩ | ⟨ls2, v, h, he, ho⟩
        · rw [HSP.out] at h; cases h
        · rw [HSP.out] at h
          injection h with h
          subst h
          rw [he]
          clear he
          have HT1 := Lib.hid (Tk.Texts.of_owns ho rfl)
          have HT2 := Lib.hid (Tk.Texts.of_owns (owns_kept hown hb2) rfl)
          obtain ⟨a2, c2, hv⟩ := HT1.out.shape
          rw [hv]
          rw [hv] at HT1
          have hB := hbel.trans (hb2.mono hsz)
          clear hv ho hb2 hbel hown
          go_wp2_with fail
          refine (Tk.texts_any _ _ ls ls _ HT1.out HT2.out (by omega)).mono ?_
          rintro e w3 ⟨rfl, n3, hw3⟩
          have hB3 := below_drewN hB hw3
          have HE := Lib.hid (show (ls == ls) = true from by simp)
          clear hB hw3 HT1 HT2
          rw [HE.out]
          go_wp2_with fail
          go_ret
          exact ⟨rfl, hB3⟩
    · skip
      have HSP := Lib.hid (show Tk.splitOf X.data.toList = some ls from by rw [HX.out]; exact Tk.split_joined ls HSOL.out)
      go_wp2_with fail
      refine (Tk.split_any X _ (by omega)).mono ?_
      rintro e w2 ⟨hb2, h2⟩
      rcases h2 with ⟨h, _⟩ | ⟨ls2, v, h, he, ho⟩
      · rw [HSP.out] at h; cases h
      · rw [HSP.out] at h
        injection h with h
        subst h
        rw [he]
        clear he
        have HT1 := Lib.hid (Tk.Texts.of_owns ho rfl)
        have HT2 := Lib.hid (Tk.Texts.of_owns (owns_kept hown hb2) rfl)
        obtain ⟨a2, c2, hv⟩ := HT1.out.shape
        rw [hv]
        rw [hv] at HT1
        have hB := hbel.trans (hb2.mono hsz)
        clear hv ho hb2 hbel hown
        go_wp2_with fail
        refine (Tk.texts_any _ _ ls ls _ HT1.out HT2.out (by omega)).mono ?_
        rintro e w3 ⟨rfl, n3, hw3⟩
        have hB3 := below_drewN hB hw3
        have HE := Lib.hid (show (ls == ls) = true from by simp)
        clear hB hw3 HT1 HT2
        rw [HE.out]
        go_wp2_with fail
        go_ret
        exact ⟨rfl, hB3⟩


theorem weights_in {H : Type} {P : Program} {e : TypeId} : ∀ {l : List (DataW H)} {d : DataW H}, d ∈ l → ∀ n ∈ d.weights P e, n ∈ DataW.weightsAll P e l
  | x :: r, d, hd, n, hn => by
    rw [DataW.weightsAll, List.mem_append]
    rw [List.mem_cons] at hd
    rcases hd with rfl | hd
    · exact .inl hn
    · exact .inr (weights_in hd n hn)
theorem cellsString : Tryd.prog.cellsOf 9 = 1 := by kernel_rfl

theorem contract (H : Type) (enc : TypeId × Value → H) (W : World) (base : Nat) (args : Array Value) (ds gs : List (DataW H)) (before : List MemPlace)
    (hval : ∀ (j : Nat) t v, Tryd.f5.params[j]? = some t → args[j]? = some v → Value.okWide Tryd.prog W .any base t v)
    (hW : DataW.Whole enc Tryd.prog Tryd.f5.params.toList Rows.tokenJoinsSpec.vars false W args.toList ds gs before)
    (ts : List TypeId) (hsz : (DataW.weightsEach Tryd.prog (Tryd.f5.params.toList ++ ts) (ds ++ gs)).all (· ≤ reachBytes) = true) (hL : laidMetH Tryd.prog Rows.tokenJoinsRow.laid W) :
    Calls Tryd.prog 5 args W fun e W' => ∃ v, e = .returned v ∧ Rows.tokenJoinsSpec.post enc Tryd.prog Tryd.f5 false true false false W args v W' := by
  have hW' := hW
  obtain ⟨p, q, hA0, hV, rfl, hfz, hnd⟩ := hW
  have hA : DataW.TrodAll enc Tryd.prog W 0 (fun _ => true) true Tryd.f5.params.toList args.toList ds p := hA0
  rw [Tryd.params5] at hA hval hsz
  obtain ⟨v0, vs0, d0, ds0, p0, q0, hargs, rfl, rfl, h0, r0⟩ := trodAll_cons hA
  obtain ⟨rfl, rfl, rfl⟩ := trodAll_nil r0
  obtain rfl : args = #[v0] := by cases args; simp_all
  obtain ⟨rfl, rfl⟩ := trodVars_none hV
  obtain ⟨a0, len0, cap0, rfl⟩ := okWide_slice Tryd.underlying29 (hval 0 29 v0 rfl rfl)
  have k0 := h0
  have lt0 : ∀ x ∈ p0, x.block < W.heap.size := by obtain ⟨m, hm⟩ := k0; exact DataW.trod_lt m _ _ _ hm
  clear hA0
  simp only [List.append_nil] at hW'
  have fin : Calls Tryd.prog 5 #[.slice a0 len0 cap0] W fun e W' => e = .returned (.bool true) ∧ Below W.heap.size W W' := by
    obtain ⟨fuel, hf⟩ := h0
    rcases open_strings Tryd.underlying29 Tryd.underlying9 cellsString hf with ⟨hcs, _⟩ | ⟨x, l, c, ss, hcs, _, hl, hm, hz, hx, hcell, _⟩
    · simp [Value.cells] at hcs
      obtain ⟨rfl, rfl, rfl⟩ := hcs
      exact walk_none none 0 W
    · simp [Value.cells] at hcs
      obtain ⟨rfl, rfl, rfl⟩ := hcs
      by_cases hl0 : len0 = 0
      · subst hl0; exact walk_none _ _ W
      · have hz' : ss.length = cap0 := by simpa using hz
        obtain ⟨b, off, spot⟩ := x
        have hc0 := hcell 0 (by omega)
        have hspot : spot = none := by simpa [Addr.add] using World.cell?_spot hc0
        subst hspot
        have hbl : b < W.heap.size := World.block_lt_of_cell? W _ (show W.cell? ⟨b, off, none⟩ = _ by simpa [Addr.add] using hc0)
        have hd0 : d0 = .slice (strs (ss.take len0)) (strs (ss.drop len0)) := congrArg Prod.fst hx
        refine walk_some b off len0 cap0 (fun i => ss.getD i ByteArray.empty) W (Tk.table hL) (by unfold maxLen at hm; omega) hbl fun i hi => ⟨?_, ?_⟩
        · have := hcell i (by omega)
          rwa [Addr.add_lit] at this
        · have hi2 : i < ss.length := by omega
          have hg : ss.getD i ByteArray.empty = ss[i] := by simp [List.getD, hi2]
          show (ss.getD i ByteArray.empty).size ≤ _
          rw [hg]
          have hm1 : (DataW.lit (.string ss[i].data.toList) : DataW H) ∈ strs (ss.take len0) := by
            unfold strs; rw [List.mem_map]
            refine ⟨ss[i], ?_, rfl⟩
            rw [List.mem_take_iff_getElem]
            exact ⟨i, by omega, rfl⟩
          have hm2 : ss[i].data.toList.length ∈ DataW.weightsEach Tryd.prog (#[29].toList ++ ts) ([d0] ++ []) := by
            refine DataW.weights_mem_each (j := 0) (t := 29) (d := d0) rfl rfl _ ?_
            rw [hd0, DataW.weights, Tryd.underlying29]
            simp only [List.mem_cons, List.mem_append]
            exact .inr (.inl (weights_in hm1 _ (by simp [DataW.weights])))
          have hm3 := List.all_eq_true.1 hsz _ hm2
          have hm4 : ss[i].data.toList.length ≤ reachBytes := by simpa using hm3
          have h5 : ss[i].data.toList.length = ss[i].size := by simp
          rw [h5] at hm4
          exact hm4
  refine fin.mono fun e W' ⟨he, bel⟩ => ?_
  subst he
  exact ⟨_, rfl, _, _, _, [], _, [], hW', trodAll_mk1 (shut_bool Tryd.underlying4 _), (trodAll_cons_mk (Below.trod Tk.laidOut (by kernel_rfl) (of_decide_eq_true (by kernel_rfl)) k0 bel lt0) trodAll_mk0), rfl, bel.frame _, fun h => by cases h⟩

theorem laid_met (os : Os) : laidMet Tryd.prog Rows.tokenJoinsRow.laid ((Tk.laidWorld os).forCall (fun _ _ => 0) ⟨#[], #[.slice none 0 0], []⟩).memory :=
  laidMet_of_run' 8 (by kernel_rfl) (by kernel_rfl)
theorem reads (os : Os) {H : Type} (enc : TypeId × Value → H) : ∃ places, DataW.whole enc Tryd.prog ((Tk.laidWorld os).forCall (fun _ _ => 0) ⟨#[], #[.slice none 0 0], []⟩).memory Tryd.f5.params.toList Rows.tokenJoinsSpec.vars false (#[.slice none 0 0] : Array Value).toList 8 = some ([.nil], [], places) :=
  ⟨[], by kernel_rfl⟩

set_option maxRecDepth 100000 in
theorem lifted (os : Os) (started : os.Started) (H : Type) (enc : TypeId × Value → H) (F : Stop.Interp) :
    ReturnsInHanded {} Tryd.checked os 5 .any ((OpenSpec.ofChange Rows.tokenJoinsSpec).preRow enc Tryd.prog Tryd.f5 Rows.tokenJoinsRow.domain false Rows.tokenJoinsRow.laid) (((OpenSpec.ofChange Rows.tokenJoinsSpec).at F).post enc Tryd.prog Tryd.f5 false true false false) := by
  obtain ⟨places, hx⟩ := reads os enc
  refine returnsInHanded_of_row (C := Tryd.checked) (s := OpenSpec.ofChange Rows.tokenJoinsSpec) Tk.own started (by kernel_rfl) Tryd.func5
    (witness_row_at (enc := enc) (C := Tryd.checked) false (Tk.laidWorld os) #[.slice none 0 0] rfl (by kernel_rfl) (by kernel_rfl) (by kernel_rfl)
      (OpenSpec.preRow_of_cond 8 hx (by kernel_rfl) (fun k hk => by cases hk) (by kernel_rfl) (laid_met os))) ?_
  intro W base args ds gs before hval hW _ _ hsz hL _ _
  exact contract H enc W base args ds gs before hval hW _ hsz hL

theorem said : Rows.TokenJoinsSaid :=
  OpenClaim.holds_of_cond 5 Tryd.f5 rfl rfl rfl rfl rfl rfl rfl ⟨rfl, rfl, rfl, rfl, rfl⟩ rfl rfl rfl rfl rfl (by kernel_rfl) Tryd.func5 (by kernel_rfl)
    (of_decide_eq_true (by kernel_rfl)) (by unfold Func.isWrapper; first | (rw [if_pos (by decide +kernel)]; kernel_rfl) | (rw [if_neg (by decide +kernel)]; exact ⟨rfl, rfl⟩))
    (fun os started H enc _ F => by rw [OpenClaim.pre_eq_preRow]; exact lifted os started H enc F)

theorem plain (f : FuncId) (fn : Func) (hf : Tryd.pinned.checked.prog.funcNamed "gatepost/gatepostlaw01.TokenJoins" = some f) (hfn : Tryd.pinned.checked.prog.funcs[f]? = some fn) :
    false = Tryd.pinned.checked.prog.looks [] ∧ ∀ (j : Nat) t, fn.params[j]? = some t → Tryd.pinned.checked.prog.wantsStandIn t = false := by
  obtain rfl : f = 5 := Option.some.inj ((show Tryd.prog.funcNamed "gatepost/gatepostlaw01.TokenJoins" = some 5 by kernel_rfl).symm.trans hf) |>.symm
  obtain rfl : fn = Tryd.f5 := (Option.some.inj (Tryd.func5.symm.trans hfn)).symm
  refine ⟨by kernel_rfl, fun j t ht => ?_⟩
  rw [Tryd.params5] at ht
  have hm := Array.mem_of_getElem? ht
  simp at hm
  subst hm
  exact (show Tryd.prog.wantsStandIn 29 = false by kernel_rfl)

theorem card : Rows.TokenJoinsCardSaid :=
  Claim7.holds_tied_plain_at .later [] _ _ _ _ said (fun _ h => by cases h) (by kernel_rfl) (fun _ h => by cases h) tokenJoins_row_tie rfl ⟨rfl, rfl⟩ (by kernel_rfl) rfl plain (by kernel_rfl)
end Go.Proofs.YthccojahaadjoaaDoor.tokenJoins
