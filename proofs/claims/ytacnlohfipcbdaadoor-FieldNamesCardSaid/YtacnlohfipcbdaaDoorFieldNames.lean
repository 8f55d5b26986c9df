/-
  FieldNames: names are the tokens of all fields of a name, in small letters; one that is no token makes them none.
  Conditions: the listed tables hold what the program's text lays (the card ties them).
-/
import Derived.Test.YtacnlohfipcbdaaDoorTabs
import Derived.Test.YtacnlohfipcbdaaDoorFdOpen
import Derived.SizedLaws
import Derived.Carry
import Derived.Test.YtacnlohfipcbdaaDoorFdOpen
import Derived.Test.YtacnlohfipcbdaaDoorFdRefNames
import Derived.Test.YtacnlohfipcbdaaDoorFdTokMath
import Derived.WideKeyPair
namespace Go.Proofs.YtacnlohfipcbdaaDoor.fieldNames
open Go.ChangeShapes Go.WideShapes Go.ChangeAt Go.RowKit
open Go.ChangeMaps (open_string shut_string)
set_option linter.unusedVariables false

theorem flds_three (w : World) (a b : ByteArray) {g : Nat} (h : w.heap[g]? = some (.cells #[.string ⟨#[118]⟩, .string a, .string ⟨#[120]⟩, .string ⟨#[110, 111]⟩, .string ⟨#[86]⟩, .string b] 23 (0, 0))) : Fd.Flds w (.slice (some ⟨g, 0, none⟩) 3 3) (Fd.three a b) := by
  refine .inr ⟨_, 0, 3, rfl, Fd.block_lt h, fun j hj => ?_⟩
  have hj' : j < 3 := hj
  have hc := fun i => Lib.cell_of_heap h i
  rcases (by omega : j = 0 ∨ j = 1 ∨ j = 2) with rfl | rfl | rfl
  · exact ⟨hc 0, hc 1⟩
  · exact ⟨hc 2, hc 3⟩
  · exact ⟨hc 4, hc 5⟩

theorem row_two {w : World} {base : Nat} {v : Value} {x y : Tk.Bs} (h : w.ownsRow base 9 1 v [x, y].length ([x, y].map Fd.TS)) : ∃ g cap, v = .slice (some ⟨g, 0, none⟩) 2 cap ∧ g < w.heap.size ∧ w.cell? ⟨g, 0, none⟩ = some (.string ⟨x.toArray⟩) ∧ w.cell? ⟨g, 1, none⟩ = some (.string ⟨y.toArray⟩) := by
  rcases h.2 with ⟨_, h0⟩ | ⟨g, cap, cur, hv, _, hg, _⟩
  · simp at h0
  · rw [hv] at h
    exact ⟨g, cap, hv, Fd.block_lt hg, Fd.row_at h 0 (by simp) rfl, Fd.row_at h 1 (by simp) rfl⟩

set_option maxHeartbeats 4000000 in
theorem way00 (a0 a1 : ByteArray) (hs : a0.size + a1.size ≤ 1000) (h1 : Tk.isTok a0.data.toList = false) (w : World) (hT : Tk.Tab w) :
    Calls Tryd.prog 7 #[.string a0, .string a1] w fun e w' => e = .returned (.bool true) ∧ Below w.heap.size w w' := by
  have HT := Lib.hid hT
  have hg := hT.lt
  have hd : decide ((1000 : Int) < (a0.size : Int) + (a1.size : Int)) = false := by rw [decide_eq_false_iff_not]; omega
  have hbl := (Below.refl w.heap.size w).alloc (Nat.le_refl _) (.cells #[.string ⟨#[118]⟩, .string a0, .string ⟨#[120]⟩, .string ⟨#[110, 111]⟩, .string ⟨#[86]⟩, .string a1] 23)
  have HF := Lib.hid (flds_three _ a0 a1 (Fd.new_block w (.cells #[.string ⟨#[118]⟩, .string a0, .string ⟨#[120]⟩, .string ⟨#[110, 111]⟩, .string ⟨#[86]⟩, .string a1] 23)))
  have HTA := Lib.hid (HT.out.below hbl hg)
  have ht3 := Fd.tot_three a0 a1
  have HG := Lib.hid (Fd.get_three a0 a1)
  have H1 := Lib.hid h1
  clear hT h1
  go_enter Tryd.func7, Tryd.ntmps7
  go_wp2_with fail
  refine (Fd.names_any _ (Fd.three a0 a1) ⟨#[86]⟩ _ HF.out (by omega) (by decide) HTA.out).mono ?_
  rintro e x1 ⟨hb1, h1⟩
  have hB1 := Fd.Bl.next hbl hb1
  have HT1 := Lib.hid (HT.out.below hB1 hg)
  have hbl2 := hB1.alloc hB1.size (.cells #[.string ⟨#[118]⟩, .string ⟨#[65, 44, 32, 98]⟩] 23)
  have HF2 := Lib.hid (Fd.flds_one (Fd.new_block x1 (.cells #[.string ⟨#[118]⟩, .string ⟨#[65, 44, 32, 98]⟩] 23)))
  have HT2 := Lib.hid (HT.out.below hbl2 hg)
  clear hbl hb1 HF HTA
  rcases h1 with ⟨_, rfl⟩ | ⟨_, u, _, rfl, _⟩
  all_goals
    go_wp2_with fail
    refine (Tk.is_any a0 _ (by unfold maxLen; omega) HT1.out).mono ?_
    rintro e x2 ⟨rfl, rfl⟩
    rw [H1.out]
    go_wp2_with fail
    refine (Fd.names_any _ Fd.one ⟨#[118]⟩ _ HF2.out (by decide) (by decide) HT2.out).mono ?_
    rintro e x3 ⟨hb3, h3⟩
    have hB3 := Fd.Bl.next hbl2 hb3
    clear hB1 hbl2 hb3 HT1 HT2 HF2
    rcases h3 with ⟨h3, _⟩ | ⟨ls, u3, h3, rfl, ho⟩
    · exact absurd (h3.symm.trans (Fd.names_one)) (by simp)
    · obtain rfl : [[97], [98]] = ls := Option.some.inj (Fd.names_one.symm.trans h3)
      obtain ⟨g, cap, hu, _, c0, _⟩ := row_two ho
      rw [hu]
      clear hu ho h3
      go_wp2_with fail
      go_ret
      exact ⟨rfl, hB3⟩

set_option maxHeartbeats 4000000 in
theorem way10 (a0 a1 : ByteArray) (hs : a0.size + a1.size ≤ 1000) (h1 : Tk.isTok a0.data.toList = true) (h2 : Tk.isTok a1.data.toList = false) (w : World) (hT : Tk.Tab w) :
    Calls Tryd.prog 7 #[.string a0, .string a1] w fun e w' => e = .returned (.bool true) ∧ Below w.heap.size w w' := by
  have HT := Lib.hid hT
  have hg := hT.lt
  have hd : decide ((1000 : Int) < (a0.size : Int) + (a1.size : Int)) = false := by rw [decide_eq_false_iff_not]; omega
  have hbl := (Below.refl w.heap.size w).alloc (Nat.le_refl _) (.cells #[.string ⟨#[118]⟩, .string a0, .string ⟨#[120]⟩, .string ⟨#[110, 111]⟩, .string ⟨#[86]⟩, .string a1] 23)
  have HF := Lib.hid (flds_three _ a0 a1 (Fd.new_block w (.cells #[.string ⟨#[118]⟩, .string a0, .string ⟨#[120]⟩, .string ⟨#[110, 111]⟩, .string ⟨#[86]⟩, .string a1] 23)))
  have HTA := Lib.hid (HT.out.below hbl hg)
  have ht3 := Fd.tot_three a0 a1
  have HG := Lib.hid (Fd.get_three a0 a1)
  have H1 := Lib.hid h1
  have H2 := Lib.hid h2
  clear hT h1 h2
  go_enter Tryd.func7, Tryd.ntmps7
  go_wp2_with fail
  refine (Fd.names_any _ (Fd.three a0 a1) ⟨#[86]⟩ _ HF.out (by omega) (by decide) HTA.out).mono ?_
  rintro e x1 ⟨hb1, h1⟩
  have hB1 := Fd.Bl.next hbl hb1
  have HT1 := Lib.hid (HT.out.below hB1 hg)
  have hbl2 := hB1.alloc hB1.size (.cells #[.string ⟨#[118]⟩, .string ⟨#[65, 44, 32, 98]⟩] 23)
  have HF2 := Lib.hid (Fd.flds_one (Fd.new_block x1 (.cells #[.string ⟨#[118]⟩, .string ⟨#[65, 44, 32, 98]⟩] 23)))
  have HT2 := Lib.hid (HT.out.below hbl2 hg)
  clear hbl hb1 HF HTA
  rcases h1 with ⟨_, rfl⟩ | ⟨_, u, _, rfl, _⟩
  all_goals
    go_wp2_with fail
    refine (Tk.is_any a0 _ (by unfold maxLen; omega) HT1.out).mono ?_
    rintro e x2 ⟨rfl, rfl⟩
    rw [H1.out]
    go_wp2_with fail
    refine (Tk.is_any a1 _ (by unfold maxLen; omega) HT1.out).mono ?_
    rintro e x2 ⟨rfl, rfl⟩
    rw [H2.out]
    go_wp2_with fail
    refine (Fd.names_any _ Fd.one ⟨#[118]⟩ _ HF2.out (by decide) (by decide) HT2.out).mono ?_
    rintro e x3 ⟨hb3, h3⟩
    have hB3 := Fd.Bl.next hbl2 hb3
    clear hB1 hbl2 hb3 HT1 HT2 HF2
    rcases h3 with ⟨h3, _⟩ | ⟨ls, u3, h3, rfl, ho⟩
    · exact absurd (h3.symm.trans (Fd.names_one)) (by simp)
    · obtain rfl : [[97], [98]] = ls := Option.some.inj (Fd.names_one.symm.trans h3)
      obtain ⟨g, cap, hu, _, c0, _⟩ := row_two ho
      rw [hu]
      clear hu ho h3
      go_wp2_with fail
      go_ret
      exact ⟨rfl, hB3⟩

/-- The names' row and all that was there. -/
structure KR (w : World) (g : Nat) (x y : ByteArray) (W : World) : Prop where
  c0 : W.cell? ⟨g, 0, none⟩ = some (.string x)
  c1 : W.cell? ⟨g, 1, none⟩ = some (.string y)
  lt : g < W.heap.size
  bel : Below w.heap.size w W
theorem KR.more {w : World} {g : Nat} {x y : ByteArray} {W W' : World} (h : KR w g x y W) (hb : Below W.heap.size W W') : KR w g x y W' :=
  ⟨(hb.cell (p := ⟨g, 0, none⟩) h.lt).trans h.c0, (hb.cell (p := ⟨g, 1, none⟩) h.lt).trans h.c1, Nat.lt_of_lt_of_le h.lt hb.size, Fd.Bl.next h.bel hb⟩
theorem KR.drew {w : World} {g : Nat} {x y : ByteArray} {W : World} (h : KR w g x y W) : KR w g x y W.drew := ⟨h.c0, h.c1, h.lt, h.bel.drew⟩
theorem KR.cells {w : World} {g : Nat} {x y : ByteArray} {W : World} (h : KR w g x y W) : W.cell? ⟨g, 0, none⟩ = some (.string x) ∧ W.cell? ⟨g, 1, none⟩ = some (.string y) := ⟨h.c0, h.c1⟩

set_option maxHeartbeats 4000000 in
theorem way11 (a0 a1 : ByteArray) (hs : a0.size + a1.size ≤ 1000) (h1 : Tk.isTok a0.data.toList = true) (h2 : Tk.isTok a1.data.toList = true) (w : World) (hT : Tk.Tab w) :
    Calls Tryd.prog 7 #[.string a0, .string a1] w fun e w' => e = .returned (.bool true) ∧ Below w.heap.size w w' := by
  have HT := Lib.hid hT
  have hg := hT.lt
  have hd : decide ((1000 : Int) < (a0.size : Int) + (a1.size : Int)) = false := by rw [decide_eq_false_iff_not]; omega
  have hbl := (Below.refl w.heap.size w).alloc (Nat.le_refl _) (.cells #[.string ⟨#[118]⟩, .string a0, .string ⟨#[120]⟩, .string ⟨#[110, 111]⟩, .string ⟨#[86]⟩, .string a1] 23)
  have HF := Lib.hid (flds_three _ a0 a1 (Fd.new_block w (.cells #[.string ⟨#[118]⟩, .string a0, .string ⟨#[120]⟩, .string ⟨#[110, 111]⟩, .string ⟨#[86]⟩, .string a1] 23)))
  have HTA := Lib.hid (HT.out.below hbl hg)
  have ht3 := Fd.tot_three a0 a1
  have HG := Lib.hid (Fd.get_three a0 a1)
  have H1 := Lib.hid h1
  have H2 := Lib.hid h2
  have HN := Lib.hid (Fd.names_two h1 h2)
  clear hT h1 h2
  go_enter Tryd.func7, Tryd.ntmps7
  go_wp2_with fail
  refine (Fd.names_any _ (Fd.three a0 a1) ⟨#[86]⟩ _ HF.out (by omega) (by decide) HTA.out).mono ?_
  rintro e x1 ⟨hb1, h1⟩
  have hB1 := Fd.Bl.next hbl hb1
  have HT1 := Lib.hid (HT.out.below hB1 hg)
  clear hbl hb1 HF HTA
  rcases h1 with ⟨h1, _⟩ | ⟨ls, u, h1, rfl, ho⟩
  · exact absurd (h1.symm.trans HN.out) (by simp)
  · obtain rfl : [Tk.lower a0.data.toList, Tk.lower a1.data.toList] = ls := Option.some.inj (HN.out.symm.trans h1)
    obtain ⟨g, cap, hu, hgl, c0, c1⟩ := row_two ho
    obtain ⟨X, hX⟩ : ∃ X : ByteArray, X = ⟨(Tk.lower a0.data.toList).toArray⟩ := ⟨_, rfl⟩
    obtain ⟨Y, hY⟩ : ∃ Y : ByteArray, Y = ⟨(Tk.lower a1.data.toList).toArray⟩ := ⟨_, rfl⟩
    rw [← hX] at c0
    rw [← hY] at c1
    rw [hu]
    have HX := Lib.hid hX
    have HY := Lib.hid hY
    have HK := Lib.hid (show KR w g X Y x1 from ⟨c0, c1, hgl, hB1⟩)
    have tX : (X.toList == X.toList) = true := by simp
    have tY : (Y.toList == Y.toList) = true := by simp
    clear hu ho h1 hX hY c0 c1 hB1 HN
    go_wp2_with fail
    refine (Tk.is_any a0 _ (by unfold maxLen; omega) HT1.out).mono ?_
    rintro e x2 ⟨rfl, rfl⟩
    rw [H1.out]
    go_wp2_with fail
    refine (Tk.is_any a1 _ (by unfold maxLen; omega) HT1.out).mono ?_
    rintro e x2 ⟨rfl, rfl⟩
    rw [H2.out]
    go_wp2_with fail
    go_region_held3 (fun W => W.cell? ⟨g, 0, none⟩ = some (.string X) ∧ W.cell? ⟨g, 1, none⟩ = some (.string Y))
      (first | exact HK.out.drew.cells | exact (HK.out.drew.more hba).cells | exact (HK.out.drew.more hbb).cells | exact ((HK.out.drew.more hba).more hbb).cells | exact ((HK.out.drew.more hbb).more hba).cells) (first
      | (go_at_call_of 26 (Value.string a0); refine (Tk.lower_any a0 _ (by unfold maxLen; omega)).mono ?_; rintro e wa ⟨rfl, hba⟩; rw [← HX.out])
      | (go_at_call_of 26 (Value.string a1); refine (Tk.lower_any a1 _ (by unfold maxLen; omega)).mono ?_; rintro e wb ⟨rfl, hbb⟩; rw [← HY.out]))
    all_goals go_wp2_with fail
    all_goals
      go_ret
      first
        | exact ⟨rfl, ((HK.out.drew.more hba).more hbb).bel⟩
        | exact ⟨rfl, ((HK.out.drew.more hbb).more hba).bel⟩

set_option maxHeartbeats 4000000 in
theorem walk (a0 : ByteArray) (s0 : a0.size ≤ reachBytes) (a1 : ByteArray) (s1 : a1.size ≤ reachBytes) (w : World) (hT : Tk.Tab w) :
    Calls Tryd.prog 7 #[.string a0, .string a1] w fun e w' => e = .returned (.bool true) ∧ Below w.heap.size w w' := by
  unfold reachBytes at s0 s1
  by_cases hs : a0.size + a1.size ≤ 1000
  · cases h1 : Tk.isTok a0.data.toList with
    | false => exact way00 a0 a1 hs h1 w hT
    | true =>
      cases h2 : Tk.isTok a1.data.toList with
      | false => exact way10 a0 a1 hs h1 h2 w hT
      | true => exact way11 a0 a1 hs h1 h2 w hT
  · have hd : decide ((1000 : Int) < (a0.size : Int) + (a1.size : Int)) = true := by rw [decide_eq_true_eq]; omega
    clear hT
    go_enter Tryd.func7, Tryd.ntmps7
    go_wp2_with fail
    go_ret
    exact ⟨rfl, Below.refl _ _⟩

theorem contract (H : Type) (enc : TypeId × Value → H) (W : World) (base : Nat) (args : Array Value) (ds gs : List (DataW H)) (before : List MemPlace)
    (hval : ∀ (j : Nat) t v, Tryd.f7.params[j]? = some t → args[j]? = some v → Value.okWide Tryd.prog W .any base t v)
    (hW : DataW.Whole enc Tryd.prog Tryd.f7.params.toList Rows.fieldNamesSpec.vars false W args.toList ds gs before) (ts : List TypeId) (hsz : (DataW.weightsEach Tryd.prog (Tryd.f7.params.toList ++ ts) (ds ++ gs)).all (· ≤ reachBytes) = true) (hL : laidMetH Tryd.prog Rows.fieldNamesRow.laid W) :
    Calls Tryd.prog 7 args W fun e W' => ∃ v, e = .returned v ∧ Rows.fieldNamesSpec.post enc Tryd.prog Tryd.f7 false true false false W args v W' := by
  have hW' := hW
  obtain ⟨p, q, hA0, hV, rfl, hfz, hnd⟩ := hW
  have hA : DataW.TrodAll enc Tryd.prog W 0 (fun _ => true) true Tryd.f7.params.toList args.toList ds p := hA0
  rw [Tryd.params7] at hA hval hsz
  obtain ⟨v0, vs0, d0, ds0, p0, q0, hargs, rfl, rfl, h0, r0⟩ := trodAll_cons hA
  obtain ⟨v1, vs1, d1, ds1, p1, q1, rfl, rfl, rfl, h1, r1⟩ := trodAll_cons r0
  obtain ⟨rfl, rfl, rfl⟩ := trodAll_nil r1
  have hw0 : ∀ n ∈ d0.weights Tryd.prog 9, n ≤ reachBytes := fun n hn => by simpa using List.all_eq_true.1 hsz n (DataW.weights_mem_each (j := 0) (t := 9) (d := d0) rfl rfl _ hn)
  have hw1 : ∀ n ∈ d1.weights Tryd.prog 9, n ≤ reachBytes := fun n hn => by simpa using List.all_eq_true.1 hsz n (DataW.weights_mem_each (j := 1) (t := 9) (d := d1) rfl rfl _ hn)
  obtain rfl : args = #[v0, v1] := by cases args; simp_all
  obtain ⟨rfl, rfl⟩ := trodVars_none hV
  obtain ⟨a0, rfl, rfl, rfl, w0⟩ := open_string Tryd.underlying9 (hval 0 9 v0 rfl rfl) h0
  have s0 : a0.size ≤ reachBytes := by simpa [DataW.weights] using hw0
  obtain ⟨a1, rfl, rfl, rfl, w1⟩ := open_string Tryd.underlying9 (hval 1 9 v1 rfl rfl) h1
  have s1 : a1.size ≤ reachBytes := by simpa [DataW.weights] using hw1
  clear hA0
  simp only [List.append_nil] at hW'
  refine (walk a0 s0 a1 s1 W (Tb.tok_of_head hL)).mono fun e W' ⟨he, bel⟩ => ?_
  subst he
  exact ⟨_, rfl, _, _, _, [], _, [], hW', trodAll_mk1 (shut_bool Tryd.underlying4 _), (trodAll_cons_mk (shut_string Tryd.underlying9 w0) (trodAll_cons_mk (shut_string Tryd.underlying9 w1) trodAll_mk0)), rfl, bel.frame _, fun h => by cases h⟩

theorem laid_met (os : Os) : laidMet Tryd.prog Rows.fieldNamesRow.laid ((Tb.laidWorld os).forCall (fun _ _ => 0) ⟨#[], #[.string ByteArray.empty, .string ByteArray.empty], []⟩).memory :=
  laidMet_of_run' 8 (by kernel_rfl) (by kernel_rfl)
theorem reads (os : Os) {H : Type} (enc : TypeId × Value → H) : ∃ places, DataW.whole enc Tryd.prog ((Tb.laidWorld os).forCall (fun _ _ => 0) ⟨#[], #[.string ByteArray.empty, .string ByteArray.empty], []⟩).memory Tryd.f7.params.toList Rows.fieldNamesSpec.vars false (#[.string ByteArray.empty, .string ByteArray.empty] : Array Value).toList 8 = some ([.lit (.string []), .lit (.string [])], [], places) :=
  ⟨[], by kernel_rfl⟩

set_option maxRecDepth 100000 in
theorem lifted (os : Os) (started : os.Started) (H : Type) (enc : TypeId × Value → H) (F : Stop.Interp) :
    ReturnsInHanded {} Tryd.checked os 7 .any ((OpenSpec.ofChange Rows.fieldNamesSpec).preRow enc Tryd.prog Tryd.f7 Rows.fieldNamesRow.domain false Rows.fieldNamesRow.laid) (((OpenSpec.ofChange Rows.fieldNamesSpec).at F).post enc Tryd.prog Tryd.f7 false true false false) := by
  obtain ⟨places, hx⟩ := reads os enc
  refine returnsInHanded_of_row (C := Tryd.checked) (s := OpenSpec.ofChange Rows.fieldNamesSpec) Tb.own started (by kernel_rfl) Tryd.func7
    (witness_row_at (enc := enc) (C := Tryd.checked) false (Tb.laidWorld os) #[.string ByteArray.empty, .string ByteArray.empty] rfl (by kernel_rfl) (by kernel_rfl) (by kernel_rfl)
      (OpenSpec.preRow_of_cond 8 hx (by kernel_rfl) (fun k hk => by cases hk) (by kernel_rfl) (laid_met os))) ?_
  intro W base args ds gs before hval hW _ _ hsz hL _ _
  exact contract H enc W base args ds gs before hval hW _ hsz hL

theorem said : Rows.FieldNamesSaid :=
  OpenClaim.holds_of_cond 7 Tryd.f7 rfl rfl rfl rfl rfl rfl rfl ⟨rfl, rfl, rfl, rfl, rfl⟩ rfl rfl rfl rfl rfl (by kernel_rfl) Tryd.func7 (by kernel_rfl)
    (of_decide_eq_true (by kernel_rfl)) (by unfold Func.isWrapper; first | (rw [if_pos (by decide +kernel)]; kernel_rfl) | (rw [if_neg (by decide +kernel)]; exact ⟨rfl, rfl⟩))
    (fun os started H enc _ F => by rw [OpenClaim.pre_eq_preRow]; exact lifted os started H enc F)

theorem plain (f : FuncId) (fn : Func) (hf : Tryd.pinned.checked.prog.funcNamed "gatepost/gatepostlaw04.FieldNames" = some f) (hfn : Tryd.pinned.checked.prog.funcs[f]? = some fn) :
    false = Tryd.pinned.checked.prog.looks [] ∧ ∀ (j : Nat) t, fn.params[j]? = some t → Tryd.pinned.checked.prog.wantsStandIn t = false := by
  obtain rfl : f = 7 := Option.some.inj ((show Tryd.prog.funcNamed "gatepost/gatepostlaw04.FieldNames" = some 7 by kernel_rfl).symm.trans hf) |>.symm
  obtain rfl : fn = Tryd.f7 := (Option.some.inj (Tryd.func7.symm.trans hfn)).symm
  refine ⟨by kernel_rfl, fun j t ht => ?_⟩
  rw [Tryd.params7] at ht
  have hm := Array.mem_of_getElem? ht
  simp at hm
  subst hm
  exact (show Tryd.prog.wantsStandIn 9 = false by kernel_rfl)

theorem card : Rows.FieldNamesCardSaid :=
  Claim7.holds_tied_plain_at .later [] _ _ _ _ said (fun _ h => by cases h) (by kernel_rfl) (fun _ h => by cases h) fieldNames_row_tie rfl ⟨rfl, rfl⟩ (by kernel_rfl) rfl plain (by kernel_rfl)
end Go.Proofs.YtacnlohfipcbdaaDoor.fieldNames
