/-
  DateForms: a second's three forms are parsed alike, the one with two digits of the year from 1970 to 2069.
  Conditions: the listed tables hold what the program's text lays (the card ties them).
-/
import Derived.Test.YtipooddkpbkfhaaDoorDateTab
import Derived.Test.YtipooddkpbkfhaaDoorFormParts
namespace Go.Proofs.YtipooddkpbkfhaaDoor.dateForms
open Go.ChangeShapes Go.WideShapes Go.ChangeAt Go.RowKit
open Go.ChangeMaps (open_string shut_string)
set_option linter.unusedVariables false

open Go.Proofs.YtipooddkpbkfhaaDoor.Dt

/-- The place that was found. -/
def found (wd j : Nat) : Int := if wd < j then (wd : Int) else -1
theorem found_hit (wd : Nat) : found wd (wd + 1) = (wd : Int) := by unfold found; rw [if_pos (by omega)]
theorem found_on {wd j : Nat} (h : j ≠ wd) : found wd (j + 1) = found wd j := by
  unfold found
  by_cases h1 : wd < j
  · rw [if_pos (by omega), if_pos h1]
  · rw [if_neg (by omega), if_neg h1]

theorem drewN_add (w : World) (a b : Nat) : (w.drewN a).drewN b = w.drewN (a + b) := by
  simp [World.drewN, Nat.add_assoc]

set_option maxHeartbeats 4000000 in
theorem walk_at (a0 r n : Int) (W : World) (hE : Env W) (hF : FM W) (h0 : bits BinOp.and IntKind.i64 a0 137438953471 = r) (r0 : 0 ≤ r) (hn : r % 3155760000 = n) :
    Calls Tryd.prog 5 #[.int .i64 a0] W fun e w' => e = .returned (.bool true) ∧ Below W.heap.size W w' := by
  have HE := Lib.hid hE
  have HF := Lib.hid hF
  have n0 : 0 ≤ n ∧ n < 3155760000 := by omega
  clear hE hF
  go_enter Tryd.func5, Tryd.ntmps5
  go_wp2_with fail
  refine (format_in n W n0.1 (by omega) HE.out).mono ?_
  rintro e w1 ⟨⟨y, k, d, rfl, hv, hd⟩, hb1⟩
  have HB1 := Lib.hid hb1
  have HV := Lib.hid hv
  have HD := Lib.hid hd
  obtain ⟨p1, p2, p3, p4⟩ := small_parts (sec := n) hv
  have hk := hv.k1
  clear hb1 hv hd
  obtain ⟨wd, hwd⟩ : ∃ x, x = ((n / 86400 + 3) % 7).toNat := ⟨_, rfl⟩
  obtain ⟨yn, hyn⟩ : ∃ x, x = y.toNat := ⟨_, rfl⟩
  obtain ⟨dn, hdn⟩ : ∃ x, x = d.toNat := ⟨_, rfl⟩
  obtain ⟨cn, hcn⟩ : ∃ x, x = (n % 86400).toNat := ⟨_, rfl⟩
  have HN := Lib.hid (And.intro hwd (And.intro hyn (And.intro hdn hcn)))
  rw [← hwd] at p1
  rw [← hyn] at p2
  rw [← hdn] at p3
  rw [← hwd, ← hyn, ← hdn, ← hcn]
  obtain ⟨S, hS⟩ : ∃ S, S = B (form1 wd yn k dn cn) := ⟨_, rfl⟩
  rw [← hS]
  have sa : S.size = 29 := by rw [hS, B_size, form1_length _ _ _ _ _ p1 hk]
  obtain ⟨X, hX⟩ : ∃ X, X = B (short wd) := ⟨_, rfl⟩
  obtain ⟨D2, hD2⟩ : ∃ X, X = B (two dn) := ⟨_, rfl⟩
  obtain ⟨M, hM⟩ : ∃ X, X = B (monNames.getD k []) := ⟨_, rfl⟩
  obtain ⟨Y2, hY2⟩ : ∃ X, X = B (two (yn % 100)) := ⟨_, rfl⟩
  obtain ⟨Y4, hY4⟩ : ∃ X, X = B (four yn) := ⟨_, rfl⟩
  obtain ⟨C, hC⟩ : ∃ X, X = B (clk cn) := ⟨_, rfl⟩
  obtain ⟨Z, hZ⟩ : ∃ X, X = B (32 :: (clk cn ++ [32, 71, 77, 84])) := ⟨_, rfl⟩
  have x0 : S.extract 0 3 = X := by rw [hS, B_extract, hX]; exact congrArg B (form1_day _ _ _ _ _ p1)
  have x5 : S.extract 5 7 = D2 := by rw [hS, B_extract, hD2]; exact congrArg B (form1_dd _ _ _ _ _ p1)
  have x8 : S.extract 8 11 = M := by rw [hS, B_extract, hM]; exact congrArg B (form1_mon _ _ _ _ _ p1 hk)
  have x12 : S.extract 12 16 = Y4 := by rw [hS, B_extract, hY4]; exact congrArg B (form1_yyyy _ _ _ _ _ p1 hk)
  have x14 : S.extract 14 16 = Y2 := by rw [hS, B_extract, hY2]; exact congrArg B (form1_yy _ _ _ _ _ p1 hk)
  have x17 : S.extract 17 25 = C := by rw [hS, B_extract, hC]; exact congrArg B (form1_clk _ _ _ _ _ p1 hk)
  have x16 : S.extract 16 29 = Z := by rw [hS, B_extract, hZ]; exact congrArg B (form1_end _ _ _ _ _ p1 hk)
  have x16' : S.extract 16 S.size = Z := by rw [sa]; exact x16
  have sX : X.size = 3 := by rw [hX, B_size, short_length wd p1]
  have sD : D2.size = 2 := by rw [hD2, B_size]; rfl
  have sM : M.size = 3 := by rw [hM, B_size, mon_length k hk]
  have sY2 : Y2.size = 2 := by rw [hY2, B_size]; rfl
  have sY4 : Y4.size = 4 := by rw [hY4, B_size]; rfl
  have sC : C.size = 8 := by rw [hC, B_size]; rfl
  have sZ : Z.size = 13 := by rw [hZ, B_size]; rfl
  have HX := Lib.hid hX
  have HD2 := Lib.hid hD2
  have HM := Lib.hid hM
  have HY2 := Lib.hid hY2
  have HY4 := Lib.hid hY4
  have HC := Lib.hid hC
  have HZ := Lib.hid hZ
  clear hwd hyn hdn hcn hS hX hD2 hM hY2 hY4 hC hZ
  go_wp2_with fail
  generalize hwa : w1.alloc (.cells #[.string ⟨#[77, 111, 110, 100, 97, 121]⟩, .string ⟨#[84, 117, 101, 115, 100, 97, 121]⟩, .string ⟨#[87, 101, 100, 110, 101, 115, 100, 97, 121]⟩, .string ⟨#[84, 104, 117, 114, 115, 100, 97, 121]⟩, .string ⟨#[70, 114, 105, 100, 97, 121]⟩, .string ⟨#[83, 97, 116, 117, 114, 100, 97, 121]⟩, .string ⟨#[83, 117, 110, 100, 97, 121]⟩] 9) = wa
  have hva : wa.heap[w1.heap.size]? = some (.cells (tabCells longNames) 9 (0, 0)) := by rw [← hwa]; exact heap_alloc_new _ _
  have HBA := Lib.hid (show Below W.heap.size W wa from by rw [← hwa]; exact HB1.out.alloc HB1.out.size _)
  have HVA := Lib.hid hva
  clear hwa hva
  go_loopw [5, 6] (fun v i wr => ∃ j : Nat, j ≤ 7 ∧ i = .int .i64 (j : Int) ∧ v = .int .i64 (found wd j) ∧ Hid (∃ m, wr = wa.drewN m)) (fun _ i _ => 7 - (intOf i).toNat)
  case atStart => exact ⟨0, Nat.zero_le _, rfl, rfl, Lib.hid ⟨0, rfl⟩⟩
  case round =>
    obtain ⟨j, hj, rfl, rfl, HWR⟩ := hrel
    by_cases hlt : j < 7
    · obtain ⟨m, hm⟩ := HWR.out
      have hcell : wr.cell? ⟨w1.heap.size, j, none⟩ = some (.string (B (longNames.getD j []))) := by rw [hm]; exact texts_at (w := wa) HVA.out j hlt
      obtain ⟨L, hL⟩ : ∃ L, L = B (longNames.getD j []) := ⟨_, rfl⟩
      have sL := long_size j hlt
      have xL := long_cut j
      obtain ⟨V, hV⟩ : ∃ V, V = B (short j) := ⟨_, rfl⟩
      rw [← hL] at hcell sL xL
      rw [← hV] at xL
      have sL3 : (3 : Int) ≤ (L.size : Int) := by omega
      by_cases hjw : j = wd
      · subst hjw
        have hVX : V = X := by rw [hV, HX.out]
        rw [hVX] at xL
        have HFO := Lib.hid (show (j : Int) = found j (j + 1) from (found_hit j).symm)
        have HM2 := Lib.hid hm
        clear hL hV hVX hm
        go_wp2_with fail
        go_quiet (fail)
        go_wp2_with fail
        go_roundw
        case rel => exact ⟨j + 1, by omega, by go_num, by rw [HFO.out], Lib.hid ⟨m + nq, by rw [HM2.out]; exact drewN_add _ _ _⟩⟩
        case measure => simp [intOf]; omega
      · have hne : ¬ V.toList = X.toList := by
          rw [hV, HX.out, ByteArray.toList_eq, ByteArray.toList_eq, B_list, B_list]
          exact fun e => hjw (short_inj j wd hlt p1 e)
        have hne1 : (V.toList == X.toList) = false := beq_eq_false_iff_ne.2 hne
        have HFO := Lib.hid (found_on hjw)
        have HM2 := Lib.hid hm
        clear hL hV hm
        go_wp2_with fail
        go_quiet (fail)
        go_wp2_with fail
        go_roundw
        case rel => exact ⟨j + 1, by omega, by go_num, by rw [HFO.out], Lib.hid ⟨m + nq, by rw [HM2.out]; exact drewN_add _ _ _⟩⟩
        case measure => simp [intOf]; omega
    · obtain rfl : j = 7 := by omega
      obtain ⟨m, hm⟩ := HWR.out
      have hfo : found wd 7 = (wd : Int) := by unfold found; rw [if_pos p1]
      rw [hfo]
      have hcell : wr.cell? ⟨w1.heap.size, wd, none⟩ = some (.string (B (longNames.getD wd []))) := by rw [hm]; exact texts_at (w := wa) HVA.out wd p1
      obtain ⟨L, hL⟩ : ∃ L, L = B (longNames.getD wd []) := ⟨_, rfl⟩
      have sL := long_size wd p1
      rw [← hL] at hcell sL
      have HBR := Lib.hid (show Below W.heap.size W wr from below_drawn HBA.out hm)
      have HL := Lib.hid hL
      have HP2 := Lib.hid (show ∀ w' : World, Env w' → FM w' → Calls Tryd.prog 8 #[.string (L ++ ⟨#[44, 32]⟩ ++ D2 ++ ⟨#[45]⟩ ++ M ++ ⟨#[45]⟩ ++ Y2 ++ Z)] w' (fun e w'' => e = .returned (.tuple #[.int .i64 n, .bool true]) ∧ Below w'.heap.size w' w'') from fun w' e f => by
        have h := parse_form2 n y d k w' e f HV.out HD.out (Dt.early HV.out HD.out n0.2)
        obtain ⟨e1, e2, e3, e4⟩ := HN.out
        rw [← e1, ← e2, ← e3, ← e4, ← old_eq, ← hL, ← HD2.out, ← HM.out, ← HY2.out, ← HZ.out] at h
        exact h)
      have HP3 := Lib.hid (show ∀ (w' : World) (T : ByteArray), T = B (dayText dn) → Env w' → FM w' → Calls Tryd.prog 8 #[.string (X ++ ⟨#[32]⟩ ++ M ++ ⟨#[32]⟩ ++ T ++ ⟨#[32]⟩ ++ C ++ ⟨#[32]⟩ ++ Y4)] w' (fun e w'' => e = .returned (.tuple #[.int .i64 n, .bool true]) ∧ Below w'.heap.size w' w'') from fun w' T hT e f => by
        have h := parse_form3 n y d k w' e f HV.out HD.out
        obtain ⟨e1, e2, e3, e4⟩ := HN.out
        rw [← e1, ← e2, ← e3, ← e4, ← plain_eq, ← HX.out, ← HM.out, ← HC.out, ← HY4.out, ← hT] at h
        exact h)
      have HED := Lib.hid (fun m : Nat => (HE.out.below HBR.out (Nat.le_refl _)).below (below_drawn (n := m) (Below.refl wr.heap.size wr) rfl) (Nat.le_refl _))
      have HFD := Lib.hid (fun m : Nat => (HF.out.below HBR.out (Nat.le_refl _)).below (below_drawn (n := m) (Below.refl wr.heap.size wr) rfl) (Nat.le_refl _))
      have HBD := Lib.hid (fun m : Nat => below_drawn (n := m) HBR.out rfl)
      clear hm hL hfo HBA HVA
      by_cases hten : dn < 10
      · have t0 : D2[0]'(by omega) = 48 := by
          have e := HD2.out
          subst e
          show UInt8.ofNat (48 + dn / 10) = 48
          rw [show dn / 10 = 0 by omega]; rfl
        obtain ⟨E, hE⟩ : ∃ E, E = B [UInt8.ofNat (48 + dn)] := ⟨_, rfl⟩
        have x1 : D2.extract 1 2 = E := by rw [HD2.out, B_extract, hE]; show B [UInt8.ofNat (48 + dn % 10)] = _; rw [show dn % 10 = dn by omega]
        have x1' : D2.extract 1 D2.size = E := by rw [sD]; exact x1
        have sE : E.size = 1 := by rw [hE, B_size]; rfl
        have HT := Lib.hid (show (⟨#[32]⟩ : ByteArray) ++ E = B (dayText dn) from by rw [hE, show (⟨#[32]⟩ : ByteArray) = B [32] from rfl, B_append]; unfold dayText; rw [if_pos hten]; rfl)
        clear hE hten
        go_wp2_with fail
        go_quiet (fail)
        go_wp2_with fail
        go_quiet (fail)
        go_wp2_with fail
        refine (HP2.out _ (HED.out _) (HFD.out _)).mono ?_
        rintro e w3 ⟨rfl, hb3⟩
        have HB3 := Lib.hid ((HBD.out _).trans (hb3.mono (HBD.out _).size))
        clear hb3
        go_wp2_with fail
        refine (HP3.out _ _ HT.out (HE.out.below HB3.out (Nat.le_refl _)) (HF.out.below HB3.out (Nat.le_refl _))).mono ?_
        rintro e w4 ⟨rfl, hb4⟩
        have HB4 := Lib.hid (HB3.out.trans (hb4.mono HB3.out.size))
        clear hb4
        go_wp2_with fail
        go_ret
        exact ⟨rfl, HB4.out⟩
      · have t0 : ((D2[0]'(by omega)).toNat : Int) ≠ 48 := by
          have e := HD2.out
          subst e
          show ((UInt8.ofNat (48 + dn / 10)).toNat : Int) ≠ 48
          rw [dig (dn / 10) (by omega)]; omega
        have t1 : (((D2[0]'(by omega)).toNat : Int) == 48) = false := beq_eq_false_iff_ne.2 t0
        have HT := Lib.hid (show D2 = B (dayText dn) from by rw [HD2.out]; unfold dayText; rw [if_neg hten])
        clear t0 hten
        go_wp2_with fail
        go_quiet (fail)
        go_wp2_with fail
        go_quiet (fail)
        go_wp2_with fail
        refine (HP2.out _ (HED.out _) (HFD.out _)).mono ?_
        rintro e w3 ⟨rfl, hb3⟩
        have HB3 := Lib.hid ((HBD.out _).trans (hb3.mono (HBD.out _).size))
        clear hb3
        go_wp2_with fail
        refine (HP3.out _ _ HT.out (HE.out.below HB3.out (Nat.le_refl _)) (HF.out.below HB3.out (Nat.le_refl _))).mono ?_
        rintro e w4 ⟨rfl, hb4⟩
        have HB4 := Lib.hid (HB3.out.trans (hb4.mono HB3.out.size))
        clear hb4
        go_wp2_with fail
        go_ret
        exact ⟨rfl, HB4.out⟩

theorem walk (a0 : Int) (w0 : (Lit.int .i64 a0).wf = true) (W : World) (hE : Env W ∧ FM W) :
    Calls Tryd.prog 5 #[.int .i64 a0] W fun e w' => e = .returned (.bool true) ∧ Below W.heap.size W w' := by
  have b0 : 0 ≤ bits BinOp.and IntKind.i64 a0 137438953471 ∧ _ := mask a0 137438953471 (by omega)
  exact walk_at a0 _ _ W hE.1 hE.2 rfl b0.1 rfl

theorem contract (H : Type) (enc : TypeId × Value → H) (W : World) (base : Nat) (args : Array Value) (ds gs : List (DataW H)) (before : List MemPlace)
    (hval : ∀ (j : Nat) t v, Tryd.f5.params[j]? = some t → args[j]? = some v → Value.okWide Tryd.prog W .any base t v)
    (hW : DataW.Whole enc Tryd.prog Tryd.f5.params.toList Rows.dateFormsSpec.vars false W args.toList ds gs before) (hL : laidMetH Tryd.prog Rows.dateFormsRow.laid W) :
    Calls Tryd.prog 5 args W fun e W' => ∃ v, e = .returned v ∧ Rows.dateFormsSpec.post enc Tryd.prog Tryd.f5 false true false false W args v W' := by
  have hW' := hW
  obtain ⟨p, q, hA0, hV, rfl, hfz, hnd⟩ := hW
  have hA : DataW.TrodAll enc Tryd.prog W 0 (fun _ => true) true Tryd.f5.params.toList args.toList ds p := hA0
  rw [Tryd.params5] at hA hval
  obtain ⟨v0, vs0, d0, ds0, p0, q0, hargs, rfl, rfl, h0, r0⟩ := trodAll_cons hA
  obtain ⟨rfl, rfl, rfl⟩ := trodAll_nil r0
  obtain rfl : args = #[v0] := by cases args; simp_all
  obtain ⟨rfl, rfl⟩ := trodVars_none hV
  obtain ⟨a0, rfl, rfl, rfl, w0⟩ := open_int Tryd.underlying3 (hval 0 3 v0 rfl rfl) h0
  clear hA0
  simp only [List.append_nil] at hW'
  refine (walk a0 w0 W (Dt.tabAll hL)).mono fun e W' ⟨he, bel⟩ => ?_
  subst he
  exact ⟨_, rfl, _, _, _, [], _, [], hW', trodAll_mk1 (shut_bool Tryd.underlying4 _), (trodAll_cons_mk (shut_int Tryd.underlying3 w0) trodAll_mk0), rfl, bel.frame _, fun h => by cases h⟩

theorem laid_met (os : Os) : laidMet Tryd.prog Rows.dateFormsRow.laid ((Dt.laidWorld os).forCall (fun _ _ => 0) ⟨#[], #[.int .i64 0], []⟩).memory :=
  laidMet_of_run' 8 (by kernel_rfl) (by kernel_rfl)
theorem reads (os : Os) {H : Type} (enc : TypeId × Value → H) : ∃ places, DataW.whole enc Tryd.prog ((Dt.laidWorld os).forCall (fun _ _ => 0) ⟨#[], #[.int .i64 0], []⟩).memory Tryd.f5.params.toList Rows.dateFormsSpec.vars false (#[.int .i64 0] : Array Value).toList 8 = some ([.lit (.int .i64 0)], [], places) :=
  ⟨[], by kernel_rfl⟩

set_option maxRecDepth 100000 in
theorem lifted (os : Os) (started : os.Started) (H : Type) (enc : TypeId × Value → H) (F : Stop.Interp) :
    ReturnsInHanded {} Tryd.checked os 5 .any ((OpenSpec.ofChange Rows.dateFormsSpec).preRow enc Tryd.prog Tryd.f5 Rows.dateFormsRow.domain false Rows.dateFormsRow.laid) (((OpenSpec.ofChange Rows.dateFormsSpec).at F).post enc Tryd.prog Tryd.f5 false true false false) := by
  obtain ⟨places, hx⟩ := reads os enc
  refine returnsInHanded_of_row (C := Tryd.checked) (s := OpenSpec.ofChange Rows.dateFormsSpec) Dt.own started (by kernel_rfl) Tryd.func5
    (witness_row_at (enc := enc) (C := Tryd.checked) false (Dt.laidWorld os) #[.int .i64 0] rfl (by kernel_rfl) (by kernel_rfl) (by kernel_rfl)
      (OpenSpec.preRow_of_cond 8 hx (by kernel_rfl) (fun k hk => by cases hk) (by kernel_rfl) (laid_met os))) ?_
  intro W base args ds gs before hval hW _ _ _ hL _ _
  exact contract H enc W base args ds gs before hval hW hL

theorem said : Rows.DateFormsSaid :=
  OpenClaim.holds_of_cond 5 Tryd.f5 rfl rfl rfl rfl rfl rfl rfl ⟨rfl, rfl, rfl, rfl, rfl⟩ rfl rfl rfl rfl rfl (by kernel_rfl) Tryd.func5 (by kernel_rfl)
    (of_decide_eq_true (by kernel_rfl)) (by unfold Func.isWrapper; first | (rw [if_pos (by decide +kernel)]; kernel_rfl) | (rw [if_neg (by decide +kernel)]; exact ⟨rfl, rfl⟩))
    (fun os started H enc _ F => by rw [OpenClaim.pre_eq_preRow]; exact lifted os started H enc F)

theorem plain (f : FuncId) (fn : Func) (hf : Tryd.pinned.checked.prog.funcNamed "gatepost/gatepostlaw02.DateForms" = some f) (hfn : Tryd.pinned.checked.prog.funcs[f]? = some fn) :
    false = Tryd.pinned.checked.prog.looks [] ∧ ∀ (j : Nat) t, fn.params[j]? = some t → Tryd.pinned.checked.prog.wantsStandIn t = false := by
  obtain rfl : f = 5 := Option.some.inj ((show Tryd.prog.funcNamed "gatepost/gatepostlaw02.DateForms" = some 5 by kernel_rfl).symm.trans hf) |>.symm
  obtain rfl : fn = Tryd.f5 := (Option.some.inj (Tryd.func5.symm.trans hfn)).symm
  refine ⟨by kernel_rfl, fun j t ht => ?_⟩
  rw [Tryd.params5] at ht
  have hm := Array.mem_of_getElem? ht
  simp at hm
  subst hm
  exact (show Tryd.prog.wantsStandIn 3 = false by kernel_rfl)

theorem card : Rows.DateFormsCardSaid :=
  Claim7.holds_tied_plain_at .later [] _ _ _ _ said (fun _ h => by cases h) (by kernel_rfl) (fun _ h => by cases h) dateForms_row_tie rfl ⟨rfl, rfl⟩ (by kernel_rfl) rfl plain (by kernel_rfl)
end Go.Proofs.YtipooddkpbkfhaaDoor.dateForms
