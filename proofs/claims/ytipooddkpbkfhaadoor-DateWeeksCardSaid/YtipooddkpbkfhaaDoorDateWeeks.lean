/-
  DateWeeks: a day and one seven days later have the same name, the next one another, and the day's part of a second does not matter.
  Conditions: the listed tables hold what the program's text lays (the card ties them).
-/
import Derived.Test.YtipooddkpbkfhaaDoorDateTab
import Derived.Test.YtipooddkpbkfhaaDoorFormText
import Derived.Deep.QuietTactic
import Derived.BigQuiet
namespace Go.Proofs.YtipooddkpbkfhaaDoor.dateWeeks
open Go.ChangeShapes Go.WideShapes Go.ChangeAt Go.RowKit
open Go.ChangeMaps (open_string shut_string)
set_option linter.unusedVariables false

open Go.Proofs.YtipooddkpbkfhaaDoor.Dt

theorem below_drawn {C : Nat} {a w w' : World} {n : Nat} (h : Below C a w) (e : w' = w.drewN n) : Below C a w' := by
  subst e; exact ⟨h.os, h.tape, h.output, h.size, h.block⟩

set_option maxHeartbeats 4000000 in
theorem walk_at (a0 a1 n m : Int) (W : World) (hE : Env W) (h0 : bits BinOp.and IntKind.i64 a0 262143 = n) (n0 : 0 ≤ n) (n1 : n ≤ 262143) (h1 : bits BinOp.and IntKind.i64 a1 131071 = m) (m0 : 0 ≤ m) :
    Calls Tryd.prog 6 #[.int .i64 a0, .int .i64 a1] W fun e w' => e = .returned (.bool true) ∧ Below W.heap.size W w' := by
  have HE := Lib.hid hE
  clear hE
  have m1 : 0 ≤ m % 86400 ∧ m % 86400 ≤ 86399 := by omega
  go_enter Tryd.func6, Tryd.ntmps6
  go_wp2_with fail
  refine (format_in (86400 * n) W (by omega) (by omega) HE.out).mono ?_
  rintro e w1 ⟨⟨y1, k1, d1, rfl, hv1, -⟩, hb1⟩
  have HB1 := Lib.hid hb1
  have HE1 := Lib.hid (HE.out.below hb1 (Nat.le_refl _))
  have hk1 := hv1.k1
  obtain ⟨wd, hwd, hwd7⟩ : ∃ wd : Nat, ((86400 * n / 86400 + 3) % 7).toNat = wd ∧ wd < 7 := ⟨_, rfl, by omega⟩
  rw [hwd, show (86400 * n % 86400).toNat = 0 by omega]
  have HWD := Lib.hid hwd
  obtain ⟨a, ha⟩ : ∃ a, a = B (form1 wd y1.toNat k1 d1.toNat 0) := ⟨_, rfl⟩
  obtain ⟨X, hX⟩ : ∃ X, X = B (short wd) := ⟨_, rfl⟩
  have sa : a.size = 29 := by rw [ha, B_size, form1_length _ _ _ _ _ hwd7 hk1]
  have xa : a.extract 0 3 = X := by rw [ha, B_extract, hX, show 3 - 0 = 3 from rfl, form1_day _ _ _ _ _ hwd7]
  have ca : a.extract 17 25 = ⟨#[48, 48, 58, 48, 48, 58, 48, 48]⟩ := by rw [ha, B_extract, show 25 - 17 = 8 from rfl, form1_clk _ _ _ _ _ hwd7 hk1, clk_zero]; rfl
  rw [← ha]
  clear hb1 hv1 hwd ha
  go_wp2_with fail
  refine (format_in (86400 * (n + 7) + m % 86400) w1 (by omega) (by omega) HE1.out).mono ?_
  rintro e w2 ⟨⟨y2, k2, d2, rfl, hv2, -⟩, hb2⟩
  have HB2 := Lib.hid (below_then HB1.out hb2)
  have HE2 := Lib.hid (HE1.out.below hb2 (Nat.le_refl _))
  have hk2 := hv2.k1
  rw [show (((86400 * (n + 7) + m % 86400) / 86400 + 3) % 7).toNat = wd by have := HWD.out; omega]
  obtain ⟨b, hb⟩ : ∃ b, b = B (form1 wd y2.toNat k2 d2.toNat ((86400 * (n + 7) + m % 86400) % 86400).toNat) := ⟨_, rfl⟩
  have sb : b.size = 29 := by rw [hb, B_size, form1_length _ _ _ _ _ hwd7 hk2]
  have xb : b.extract 0 3 = X := by rw [hb, B_extract, hX, show 3 - 0 = 3 from rfl, form1_day _ _ _ _ _ hwd7]
  rw [← hb]
  clear hb2 hv2 HB1 HE1 hb
  go_wp2_with fail
  refine (format_in (86400 * (n + 1)) w2 (by omega) (by omega) HE2.out).mono ?_
  rintro e w3 ⟨⟨y3, k3, d3, rfl, hv3, -⟩, hb3⟩
  have HB3 := Lib.hid (below_then HB2.out hb3)
  have hk3 := hv3.k1
  rw [show ((86400 * (n + 1) / 86400 + 3) % 7).toNat = (wd + 1) % 7 by have := HWD.out; omega]
  obtain ⟨d, hd⟩ : ∃ d, d = B (form1 ((wd + 1) % 7) y3.toNat k3 d3.toNat (86400 * (n + 1) % 86400).toNat) := ⟨_, rfl⟩
  obtain ⟨Y, hY⟩ : ∃ Y, Y = B (short ((wd + 1) % 7)) := ⟨_, rfl⟩
  have sd : d.size = 29 := by rw [hd, B_size, form1_length _ _ _ _ _ (by omega) hk3]
  have xd : d.extract 0 3 = Y := by rw [hd, B_extract, hY, show 3 - 0 = 3 from rfl, form1_day _ _ _ _ _ (by omega)]
  have hxy : ¬ X.toList = Y.toList := by
    rw [hX, hY, ByteArray.toList_eq, ByteArray.toList_eq, B_list, B_list]; exact short_next wd hwd7
  have hxy1 : (X.toList == Y.toList) = false := beq_eq_false_iff_ne.2 hxy
  have hxy2 : (X.toList != Y.toList) = true := by rw [bne, hxy1]; rfl
  rw [← hd]
  clear hb3 hv3 HB2 HE2 HE HWD hd hX hY
  go_wp2_with fail
  go_quiet (fail)
  go_wp2_with fail
  go_ret
  exact ⟨rfl, below_drawn HB3.out rfl⟩

theorem walk (a0 : Int) (w0 : (Lit.int .i64 a0).wf = true) (a1 : Int) (w1 : (Lit.int .i64 a1).wf = true) (W : World) (hE : Env W) :
    Calls Tryd.prog 6 #[.int .i64 a0, .int .i64 a1] W fun e w' => e = .returned (.bool true) ∧ Below W.heap.size W w' := by
  obtain ⟨n, hn⟩ : ∃ r, bits BinOp.and IntKind.i64 a0 262143 = r := ⟨_, rfl⟩
  obtain ⟨m, hm⟩ : ∃ r, bits BinOp.and IntKind.i64 a1 131071 = r := ⟨_, rfl⟩
  have b0 : 0 ≤ bits BinOp.and IntKind.i64 a0 262143 ∧ bits BinOp.and IntKind.i64 a0 262143 ≤ 262143 := mask a0 262143 (by omega)
  have b1 : 0 ≤ bits BinOp.and IntKind.i64 a1 131071 ∧ bits BinOp.and IntKind.i64 a1 131071 ≤ 131071 := mask a1 131071 (by omega)
  rw [hn] at b0
  rw [hm] at b1
  exact walk_at a0 a1 n m W hE hn b0.1 b0.2 hm b1.1

theorem contract (H : Type) (enc : TypeId × Value → H) (W : World) (base : Nat) (args : Array Value) (ds gs : List (DataW H)) (before : List MemPlace)
    (hval : ∀ (j : Nat) t v, Tryd.f6.params[j]? = some t → args[j]? = some v → Value.okWide Tryd.prog W .any base t v)
    (hW : DataW.Whole enc Tryd.prog Tryd.f6.params.toList Rows.dateWeeksSpec.vars false W args.toList ds gs before) (hL : laidMetH Tryd.prog Rows.dateWeeksRow.laid W) :
    Calls Tryd.prog 6 args W fun e W' => ∃ v, e = .returned v ∧ Rows.dateWeeksSpec.post enc Tryd.prog Tryd.f6 false true false false W args v W' := by
  have hW' := hW
  obtain ⟨p, q, hA0, hV, rfl, hfz, hnd⟩ := hW
  have hA : DataW.TrodAll enc Tryd.prog W 0 (fun _ => true) true Tryd.f6.params.toList args.toList ds p := hA0
  rw [Tryd.params6] at hA hval
  obtain ⟨v0, vs0, d0, ds0, p0, q0, hargs, rfl, rfl, h0, r0⟩ := trodAll_cons hA
  obtain ⟨v1, vs1, d1, ds1, p1, q1, rfl, rfl, rfl, h1, r1⟩ := trodAll_cons r0
  obtain ⟨rfl, rfl, rfl⟩ := trodAll_nil r1
  obtain rfl : args = #[v0, v1] := by cases args; simp_all
  obtain ⟨rfl, rfl⟩ := trodVars_none hV
  obtain ⟨a0, rfl, rfl, rfl, w0⟩ := open_int Tryd.underlying3 (hval 0 3 v0 rfl rfl) h0
  obtain ⟨a1, rfl, rfl, rfl, w1⟩ := open_int Tryd.underlying3 (hval 1 3 v1 rfl rfl) h1
  clear hA0
  simp only [List.append_nil] at hW'
  refine (walk a0 w0 a1 w1 W (Dt.tabWeeks hL)).mono fun e W' ⟨he, bel⟩ => ?_
  subst he
  exact ⟨_, rfl, _, _, _, [], _, [], hW', trodAll_mk1 (shut_bool Tryd.underlying4 _), (trodAll_cons_mk (shut_int Tryd.underlying3 w0) (trodAll_cons_mk (shut_int Tryd.underlying3 w1) trodAll_mk0)), rfl, bel.frame _, fun h => by cases h⟩

theorem laid_met (os : Os) : laidMet Tryd.prog Rows.dateWeeksRow.laid ((Dt.laidWorld os).forCall (fun _ _ => 0) ⟨#[], #[.int .i64 0, .int .i64 0], []⟩).memory :=
  laidMet_of_run' 8 (by kernel_rfl) (by kernel_rfl)
theorem reads (os : Os) {H : Type} (enc : TypeId × Value → H) : ∃ places, DataW.whole enc Tryd.prog ((Dt.laidWorld os).forCall (fun _ _ => 0) ⟨#[], #[.int .i64 0, .int .i64 0], []⟩).memory Tryd.f6.params.toList Rows.dateWeeksSpec.vars false (#[.int .i64 0, .int .i64 0] : Array Value).toList 8 = some ([.lit (.int .i64 0), .lit (.int .i64 0)], [], places) :=
  ⟨[], by kernel_rfl⟩

set_option maxRecDepth 100000 in
theorem lifted (os : Os) (started : os.Started) (H : Type) (enc : TypeId × Value → H) (F : Stop.Interp) :
    ReturnsInHanded {} Tryd.checked os 6 .any ((OpenSpec.ofChange Rows.dateWeeksSpec).preRow enc Tryd.prog Tryd.f6 Rows.dateWeeksRow.domain false Rows.dateWeeksRow.laid) (((OpenSpec.ofChange Rows.dateWeeksSpec).at F).post enc Tryd.prog Tryd.f6 false true false false) := by
  obtain ⟨places, hx⟩ := reads os enc
  refine returnsInHanded_of_row (C := Tryd.checked) (s := OpenSpec.ofChange Rows.dateWeeksSpec) Dt.own started (by kernel_rfl) Tryd.func6
    (witness_row_at (enc := enc) (C := Tryd.checked) false (Dt.laidWorld os) #[.int .i64 0, .int .i64 0] rfl (by kernel_rfl) (by kernel_rfl) (by kernel_rfl)
      (OpenSpec.preRow_of_cond 8 hx (by kernel_rfl) (fun k hk => by cases hk) (by kernel_rfl) (laid_met os))) ?_
  intro W base args ds gs before hval hW _ _ _ hL _ _
  exact contract H enc W base args ds gs before hval hW hL

theorem said : Rows.DateWeeksSaid :=
  OpenClaim.holds_of_cond 6 Tryd.f6 rfl rfl rfl rfl rfl rfl rfl ⟨rfl, rfl, rfl, rfl, rfl⟩ rfl rfl rfl rfl rfl (by kernel_rfl) Tryd.func6 (by kernel_rfl)
    (of_decide_eq_true (by kernel_rfl)) (by unfold Func.isWrapper; first | (rw [if_pos (by decide +kernel)]; kernel_rfl) | (rw [if_neg (by decide +kernel)]; exact ⟨rfl, rfl⟩))
    (fun os started H enc _ F => by rw [OpenClaim.pre_eq_preRow]; exact lifted os started H enc F)

theorem plain (f : FuncId) (fn : Func) (hf : Tryd.pinned.checked.prog.funcNamed "gatepost/gatepostlaw02.DateWeeks" = some f) (hfn : Tryd.pinned.checked.prog.funcs[f]? = some fn) :
    false = Tryd.pinned.checked.prog.looks [] ∧ ∀ (j : Nat) t, fn.params[j]? = some t → Tryd.pinned.checked.prog.wantsStandIn t = false := by
  obtain rfl : f = 6 := Option.some.inj ((show Tryd.prog.funcNamed "gatepost/gatepostlaw02.DateWeeks" = some 6 by kernel_rfl).symm.trans hf) |>.symm
  obtain rfl : fn = Tryd.f6 := (Option.some.inj (Tryd.func6.symm.trans hfn)).symm
  refine ⟨by kernel_rfl, fun j t ht => ?_⟩
  rw [Tryd.params6] at ht
  have hm := Array.mem_of_getElem? ht
  simp at hm
  subst hm
  exact (show Tryd.prog.wantsStandIn 3 = false by kernel_rfl)

theorem card : Rows.DateWeeksCardSaid :=
  Claim7.holds_tied_plain_at .later [] _ _ _ _ said (fun _ h => by cases h) (by kernel_rfl) (fun _ h => by cases h) dateWeeks_row_tie rfl ⟨rfl, rfl⟩ (by kernel_rfl) rfl plain (by kernel_rfl)
end Go.Proofs.YtipooddkpbkfhaaDoor.dateWeeks
