/-
  DateLeaps: there is a 29th of February just in each fourth year, but not in each hundredth, but in each four hundredth.
  Conditions: the listed tables hold what the program's text lays (the card ties them).
-/
import Derived.Test.YtipooddkpbkfhaaDoorDateTab
import Derived.Test.YtipooddkpbkfhaaDoorDateTab
namespace Go.Proofs.YtipooddkpbkfhaaDoor.dateLeaps
open Go.ChangeShapes Go.WideShapes Go.ChangeAt Go.RowKit
open Go.ChangeMaps (open_string shut_string)
set_option linter.unusedVariables false

open Go.Proofs.YtipooddkpbkfhaaDoor.Dt

theorem valid_feb (y : Int) (h0 : 1970 ≤ y) (h1 : y ≤ 9999) : Valid y 1 28 := ⟨h0, h1, by omega, by omega, by have := mlen_pos y 1 (by omega); omega⟩
theorem valid_jan (y : Int) (h0 : 1970 ≤ y) (h1 : y ≤ 9999) : Valid y 0 1 := ⟨h0, h1, by omega, by omega, by have := mlen_pos y 0 (by omega); omega⟩
theorem valid_dec (y : Int) (h0 : 1970 ≤ y) (h1 : y ≤ 9999) : Valid y 11 31 := ⟨h0, h1, by omega, by omega, by rw [mlen_dec]; omega⟩
theorem long_year (y : Int) : dayOf y 11 31 - dayOf y 0 1 + 1 = if lp (y - 1) < lp y then 366 else 365 := by
  rw [← msum_year]
  have e : msum y 12 = msum y 11 + mlen y 11 := rfl
  rw [e, mlen_dec]
  unfold dayOf mst
  have e0 : msum y 0 = 0 := rfl
  omega

set_option maxHeartbeats 4000000 in
theorem walk_late (a0 r : Int) (W : World) (hr : bits BinOp.and IntKind.i64 a0 8191 = r) (h0 : 0 ≤ r) (h1 : r ≤ 8191) (hy : 9999 < 1970 + r) :
    Calls Tryd.prog 7 #[.int .i64 a0] W fun e w' => e = .returned (.bool true) ∧ Below W.heap.size W w' := by
  rcases (by omega : ((1970 + r) % 4 ≠ 0) ∨ ((1970 + r) % 4 = 0 ∧ (1970 + r) % 100 ≠ 0) ∨ ((1970 + r) % 4 = 0 ∧ (1970 + r) % 100 = 0)) with h | ⟨h, h'⟩ | ⟨h, h'⟩
  all_goals
    go_enter Tryd.func7, Tryd.ntmps7
    go_wp2_with (go_at_call 12; refine (days_late _ _ _ _ hy).mono ?_; rintro e w' ⟨rfl, rfl⟩)
    go_ret
    exact ⟨rfl, Below.refl _ _⟩

set_option maxHeartbeats 4000000 in
theorem walk_leap (a0 r : Int) (W : World) (hT : MD W) (hr : bits BinOp.and IntKind.i64 a0 8191 = r) (h0 : 0 ≤ r) (h1 : 1970 + r ≤ 9999) (h4 : (1970 + r) % 4 = 0) (h100 : (1970 + r) % 100 ≠ 0 ∨ (1970 + r) % 400 = 0) :
    Calls Tryd.prog 7 #[.int .i64 a0] W fun e w' => e = .returned (.bool true) ∧ Below W.heap.size W w' := by
  have hl : lp (1970 + r - 1) < lp (1970 + r) := (leap_iff _).2 ⟨h4, h100⟩
  have HT := Lib.hid hT
  have V29 := Lib.hid (show Valid (1970 + r) 1 29 from ⟨by omega, h1, by omega, by omega, by rw [mlen_feb, if_pos hl]; omega⟩)
  have VF := Lib.hid (valid_feb (1970 + r) (by omega) h1)
  have VJ := Lib.hid (valid_jan (1970 + r) (by omega) h1)
  have VD := Lib.hid (valid_dec (1970 + r) (by omega) h1)
  have hlong := long_year (1970 + r)
  rw [if_pos hl] at hlong
  have b1 := V29.out.range
  have b2 := VF.out.range
  have b3 := VJ.out.range
  have b4 := VD.out.range
  obtain ⟨d29, e29⟩ : ∃ x, x = dayOf (1970 + r) 1 29 := ⟨_, rfl⟩
  obtain ⟨d28, e28⟩ : ∃ x, x = dayOf (1970 + r) 1 28 := ⟨_, rfl⟩
  obtain ⟨dj, ej⟩ : ∃ x, x = dayOf (1970 + r) 0 1 := ⟨_, rfl⟩
  obtain ⟨dd, ed⟩ : ∃ x, x = dayOf (1970 + r) 11 31 := ⟨_, rfl⟩
  rw [← e29] at b1
  rw [← e28] at b2
  rw [← ej] at b3
  rw [← ed] at b4
  rw [← ej, ← ed] at hlong
  have E29 := Lib.hid e29
  have E28 := Lib.hid e28
  have EJ := Lib.hid ej
  have ED := Lib.hid ed
  clear hT hl e29 e28 ej ed
  rcases (by omega : ((1970 + r) % 100 ≠ 0) ∨ ((1970 + r) % 100 = 0 ∧ (1970 + r) % 400 = 0)) with h' | ⟨h', h''⟩
  all_goals
    clear h100
    go_enter Tryd.func7, Tryd.ntmps7
    go_wp2_with fail
    refine (days_valid _ 2 29 1 _ rfl V29.out HT.out).mono ?_
    rintro e w' ⟨rfl, rfl⟩
    rw [← E29.out]
    go_wp2_with fail
    refine (days_valid _ 12 31 11 _ rfl VD.out HT.out).mono ?_
    rintro e w' ⟨rfl, rfl⟩
    rw [← ED.out]
    go_wp2_with fail
    refine (days_valid _ 1 1 0 _ rfl VJ.out HT.out).mono ?_
    rintro e w' ⟨rfl, rfl⟩
    rw [← EJ.out]
    go_wp2_with fail
    refine (days_valid _ 2 28 1 _ rfl VF.out HT.out).mono ?_
    rintro e w' ⟨rfl, rfl⟩
    rw [← E28.out]
    go_wp2_with fail
    refine (days_month _ 13 1 _ (by omega) (by omega) (by omega)).mono ?_
    rintro e w' ⟨rfl, rfl⟩
    go_wp2_with fail
    go_ret
    exact ⟨rfl, Below.refl _ _⟩

set_option maxHeartbeats 4000000 in
theorem walk_plain (a0 r : Int) (W : World) (hT : MD W) (hr : bits BinOp.and IntKind.i64 a0 8191 = r) (h0 : 0 ≤ r) (h1 : 1970 + r ≤ 9999) (hn : ¬ ((1970 + r) % 4 = 0 ∧ ((1970 + r) % 100 ≠ 0 ∨ (1970 + r) % 400 = 0))) :
    Calls Tryd.prog 7 #[.int .i64 a0] W fun e w' => e = .returned (.bool true) ∧ Below W.heap.size W w' := by
  have hl : ¬ lp (1970 + r - 1) < lp (1970 + r) := fun h => hn ((leap_iff _).1 h)
  have HT := Lib.hid hT
  have V29 := Lib.hid (show mlen (1970 + r) 1 < 29 from by rw [mlen_feb, if_neg hl]; omega)
  have VF := Lib.hid (valid_feb (1970 + r) (by omega) h1)
  have VJ := Lib.hid (valid_jan (1970 + r) (by omega) h1)
  have VD := Lib.hid (valid_dec (1970 + r) (by omega) h1)
  have hlong := long_year (1970 + r)
  rw [if_neg hl] at hlong
  have b2 := VF.out.range
  have b3 := VJ.out.range
  have b4 := VD.out.range
  obtain ⟨d28, e28⟩ : ∃ x, x = dayOf (1970 + r) 1 28 := ⟨_, rfl⟩
  obtain ⟨dj, ej⟩ : ∃ x, x = dayOf (1970 + r) 0 1 := ⟨_, rfl⟩
  obtain ⟨dd, ed⟩ : ∃ x, x = dayOf (1970 + r) 11 31 := ⟨_, rfl⟩
  rw [← e28] at b2
  rw [← ej] at b3
  rw [← ed] at b4
  rw [← ej, ← ed] at hlong
  have E28 := Lib.hid e28
  have EJ := Lib.hid ej
  have ED := Lib.hid ed
  clear hT hl e28 ej ed
  rcases (by omega : ((1970 + r) % 4 ≠ 0) ∨ ((1970 + r) % 4 = 0 ∧ (1970 + r) % 100 = 0 ∧ (1970 + r) % 400 ≠ 0)) with h' | ⟨h', h'', h'''⟩
  all_goals
    have b400 : ((1970 + r) % 400 == 0) = false := beq_eq_false_iff_ne.2 (by omega)
    clear hn
    go_enter Tryd.func7, Tryd.ntmps7
    go_wp2_with fail
    refine (days_long _ 29 1 _ (by omega) (by omega) (by omega) V29.out HT.out).mono ?_
    rintro e w' ⟨rfl, rfl⟩
    go_wp2_with fail
    refine (days_valid _ 12 31 11 _ rfl VD.out HT.out).mono ?_
    rintro e w' ⟨rfl, rfl⟩
    rw [← ED.out]
    go_wp2_with fail
    refine (days_valid _ 1 1 0 _ rfl VJ.out HT.out).mono ?_
    rintro e w' ⟨rfl, rfl⟩
    rw [← EJ.out]
    go_wp2_with fail
    refine (days_valid _ 2 28 1 _ rfl VF.out HT.out).mono ?_
    rintro e w' ⟨rfl, rfl⟩
    rw [← E28.out]
    go_wp2_with fail
    refine (days_month _ 13 1 _ (by omega) (by omega) (by omega)).mono ?_
    rintro e w' ⟨rfl, rfl⟩
    go_wp2_with fail
    go_ret
    exact ⟨rfl, Below.refl _ _⟩

theorem walk (a0 : Int) (w0 : (Lit.int .i64 a0).wf = true) (W : World) (hT : MD W) :
    Calls Tryd.prog 7 #[.int .i64 a0] W fun e w' => e = .returned (.bool true) ∧ Below W.heap.size W w' := by
  obtain ⟨r, hr⟩ : ∃ r, bits BinOp.and IntKind.i64 a0 8191 = r := ⟨_, rfl⟩
  have hm : 0 ≤ bits BinOp.and IntKind.i64 a0 8191 ∧ bits BinOp.and IntKind.i64 a0 8191 ≤ 8191 := mask a0 8191 (by omega)
  rw [hr] at hm
  by_cases hy : 9999 < 1970 + r
  · exact walk_late a0 r W hr hm.1 (by omega) hy
  · by_cases hl : (1970 + r) % 4 = 0 ∧ ((1970 + r) % 100 ≠ 0 ∨ (1970 + r) % 400 = 0)
    · exact walk_leap a0 r W hT hr hm.1 (by omega) hl.1 hl.2
    · exact walk_plain a0 r W hT hr hm.1 (by omega) hl

theorem contract (H : Type) (enc : TypeId × Value → H) (W : World) (base : Nat) (args : Array Value) (ds gs : List (DataW H)) (before : List MemPlace)
    (hval : ∀ (j : Nat) t v, Tryd.f7.params[j]? = some t → args[j]? = some v → Value.okWide Tryd.prog W .any base t v)
    (hW : DataW.Whole enc Tryd.prog Tryd.f7.params.toList Rows.dateLeapsSpec.vars false W args.toList ds gs before) (hL : laidMetH Tryd.prog Rows.dateLeapsRow.laid W) :
    Calls Tryd.prog 7 args W fun e W' => ∃ v, e = .returned v ∧ Rows.dateLeapsSpec.post enc Tryd.prog Tryd.f7 false true false false W args v W' := by
  have hW' := hW
  obtain ⟨p, q, hA0, hV, rfl, hfz, hnd⟩ := hW
  have hA : DataW.TrodAll enc Tryd.prog W 0 (fun _ => true) true Tryd.f7.params.toList args.toList ds p := hA0
  rw [Tryd.params7] at hA hval
  obtain ⟨v0, vs0, d0, ds0, p0, q0, hargs, rfl, rfl, h0, r0⟩ := trodAll_cons hA
  obtain ⟨rfl, rfl, rfl⟩ := trodAll_nil r0
  obtain rfl : args = #[v0] := by cases args; simp_all
  obtain ⟨rfl, rfl⟩ := trodVars_none hV
  obtain ⟨a0, rfl, rfl, rfl, w0⟩ := open_int Tryd.underlying3 (hval 0 3 v0 rfl rfl) h0
  clear hA0
  simp only [List.append_nil] at hW'
  refine (walk a0 w0 W (Dt.tabLeaps hL)).mono fun e W' ⟨he, bel⟩ => ?_
  subst he
  exact ⟨_, rfl, _, _, _, [], _, [], hW', trodAll_mk1 (shut_bool Tryd.underlying4 _), (trodAll_cons_mk (shut_int Tryd.underlying3 w0) trodAll_mk0), rfl, bel.frame _, fun h => by cases h⟩

theorem laid_met (os : Os) : laidMet Tryd.prog Rows.dateLeapsRow.laid ((Dt.laidWorld os).forCall (fun _ _ => 0) ⟨#[], #[.int .i64 0], []⟩).memory :=
  laidMet_of_run' 8 (by kernel_rfl) (by kernel_rfl)
theorem reads (os : Os) {H : Type} (enc : TypeId × Value → H) : ∃ places, DataW.whole enc Tryd.prog ((Dt.laidWorld os).forCall (fun _ _ => 0) ⟨#[], #[.int .i64 0], []⟩).memory Tryd.f7.params.toList Rows.dateLeapsSpec.vars false (#[.int .i64 0] : Array Value).toList 8 = some ([.lit (.int .i64 0)], [], places) :=
  ⟨[], by kernel_rfl⟩

set_option maxRecDepth 100000 in
theorem lifted (os : Os) (started : os.Started) (H : Type) (enc : TypeId × Value → H) (F : Stop.Interp) :
    ReturnsInHanded {} Tryd.checked os 7 .any ((OpenSpec.ofChange Rows.dateLeapsSpec).preRow enc Tryd.prog Tryd.f7 Rows.dateLeapsRow.domain false Rows.dateLeapsRow.laid) (((OpenSpec.ofChange Rows.dateLeapsSpec).at F).post enc Tryd.prog Tryd.f7 false true false false) := by
  obtain ⟨places, hx⟩ := reads os enc
  refine returnsInHanded_of_row (C := Tryd.checked) (s := OpenSpec.ofChange Rows.dateLeapsSpec) Dt.own started (by kernel_rfl) Tryd.func7
    (witness_row_at (enc := enc) (C := Tryd.checked) false (Dt.laidWorld os) #[.int .i64 0] rfl (by kernel_rfl) (by kernel_rfl) (by kernel_rfl)
      (OpenSpec.preRow_of_cond 8 hx (by kernel_rfl) (fun k hk => by cases hk) (by kernel_rfl) (laid_met os))) ?_
  intro W base args ds gs before hval hW _ _ _ hL _ _
  exact contract H enc W base args ds gs before hval hW hL

theorem said : Rows.DateLeapsSaid :=
  OpenClaim.holds_of_cond 7 Tryd.f7 rfl rfl rfl rfl rfl rfl rfl ⟨rfl, rfl, rfl, rfl, rfl⟩ rfl rfl rfl rfl rfl (by kernel_rfl) Tryd.func7 (by kernel_rfl)
    (of_decide_eq_true (by kernel_rfl)) (by unfold Func.isWrapper; first | (rw [if_pos (by decide +kernel)]; kernel_rfl) | (rw [if_neg (by decide +kernel)]; exact ⟨rfl, rfl⟩))
    (fun os started H enc _ F => by rw [OpenClaim.pre_eq_preRow]; exact lifted os started H enc F)

theorem plain (f : FuncId) (fn : Func) (hf : Tryd.pinned.checked.prog.funcNamed "gatepost/gatepostlaw02.DateLeaps" = some f) (hfn : Tryd.pinned.checked.prog.funcs[f]? = some fn) :
    false = Tryd.pinned.checked.prog.looks [] ∧ ∀ (j : Nat) t, fn.params[j]? = some t → Tryd.pinned.checked.prog.wantsStandIn t = false := by
  obtain rfl : f = 7 := Option.some.inj ((show Tryd.prog.funcNamed "gatepost/gatepostlaw02.DateLeaps" = some 7 by kernel_rfl).symm.trans hf) |>.symm
  obtain rfl : fn = Tryd.f7 := (Option.some.inj (Tryd.func7.symm.trans hfn)).symm
  refine ⟨by kernel_rfl, fun j t ht => ?_⟩
  rw [Tryd.params7] at ht
  have hm := Array.mem_of_getElem? ht
  simp at hm
  subst hm
  exact (show Tryd.prog.wantsStandIn 3 = false by kernel_rfl)

theorem card : Rows.DateLeapsCardSaid :=
  Claim7.holds_tied_plain_at .later [] _ _ _ _ said (fun _ h => by cases h) (by kernel_rfl) (fun _ h => by cases h) dateLeaps_row_tie rfl ⟨rfl, rfl⟩ (by kernel_rfl) rfl plain (by kernel_rfl)
end Go.Proofs.YtipooddkpbkfhaaDoor.dateLeaps
