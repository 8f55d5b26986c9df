/-
  FieldSets: behind Set Get tells the value, once, and of other names what it told ahead; behind Del nothing.
  Conditions: none.
-/
import Derived.Test.YtacnlohfipcbdaaRows
import Derived.Test.YtacnlohfipcbdaaFdOpen
import Derived.Test.YtacnlohfipcbdaaFdDel
import Derived.Test.YtacnlohfipcbdaaFdGet
import Derived.Test.YtacnlohfipcbdaaFdSame
import Derived.Test.YtacnlohfipcbdaaFdSetMath
import Derived.Test.YtacnlohfipcbdaaFdOpen
import Derived.WalkKit
import Derived.WalkLawsBesides
import Derived.ProofKit
import Derived.OpenShut
import Derived.ShutString
import Derived.SizedLaws
import Derived.Carry
import Derived.Below
import Derived.Outline
import Derived.Lib.Hide
namespace Go.Proofs.Ytacnlohfipcbdaa.fieldSets
open Go.ChangeShapes Go.WideShapes Go.ChangeAt Go.RowKit
open Go.ChangeMaps (open_string shut_string)
set_option linter.unusedVariables false

theorem own : ownKnob Try.prog.godebug = none := by kernel_rfl
theorem laidOut : laidOutB Try.prog = true := by kernel_rfl

theorem get_eq {fs : List Fd.Fl} {nm : Tk.Bs} {t : Tk.Bs} {n : Nat} (h : Fd.getT fs nm = t ∧ Fd.getN fs nm = n) : Fd.getVal fs nm = .tuple #[.string ⟨t.toArray⟩, .int .i64 (n : Int)] := by
  unfold Fd.getVal; rw [h.1, h.2]

set_option maxHeartbeats 4000000 in
theorem way1 (v0 : Value) (fs0 : List Fd.Fl) (a1 a2 : ByteArray) (w : World) (hf : Fd.Flds w v0 fs0) (l0 : fs0.length ≤ 140737488355328) (z0 : ∀ f ∈ fs0, f.1.size ≤ 140737488355328 ∧ f.2.size ≤ 140737488355328)
    (hfw : Fd.fewB fs0 = true) (hs : a1.size + a2.size ≤ 2000) (ha : Tk.same a1.data.toList a2.data.toList = true) :
    Calls Try.prog 3 #[v0, .string a1, .string a2] w fun e w' => e = .returned (.bool true) ∧ Below w.heap.size w w' := by
  have HF := Lib.hid hf
  have HFW := Lib.hid hfw
  have HA := Lib.hid ha
  have HZ := Lib.hid z0
  have ht : Fd.tot fs0 ≤ 4000 := by unfold Fd.fewB at hfw; have := of_decide_eq_true hfw; omega
  have hts := Fd.tot_set fs0 a1 ⟨#[118]⟩
  have htd := Fd.tot_del fs0 a1.data.toList
  have h1s : (⟨#[118]⟩ : ByteArray).size = 1 := rfl
  have HG1 := Lib.hid (get_eq (Fd.get_set fs0 a1 ⟨#[118]⟩))
  have HG2 := Lib.hid (get_eq (Fd.get_del fs0 a1.data.toList))
  have hd : decide ((2000 : Int) < (a1.size : Int) + (a2.size : Int)) = false := by rw [decide_eq_false_iff_not]; omega
  have hts2 : Fd.tot (Fd.setF fs0 a1 ⟨#[118]⟩) ≤ 1048576 := by omega
  have htd2 : Fd.tot (Fd.del fs0 a1.data.toList) ≤ 1048576 := by omega
  clear hts htd h1s
  obtain ⟨S, hS⟩ : ∃ S, S = Fd.setF fs0 a1 ⟨#[118]⟩ := ⟨_, rfl⟩
  obtain ⟨D, hD⟩ : ∃ D, D = Fd.del fs0 a1.data.toList := ⟨_, rfl⟩
  rw [← hS] at HG1 hts2
  rw [← hD] at HG2 htd2
  have HS := Lib.hid (show Fd.del fs0 a1.data.toList ++ [(a1, ⟨#[118]⟩)] = S from hS.symm)
  have HD := Lib.hid hD
  clear hS hD
  clear hf hfw ha z0
  go_enter Try.func3, Try.ntmps3
  go_wp2_with fail
  refine (Fd.few_any v0 fs0 _ HF.out l0 HZ.out).mono ?_
  rintro e x1 ⟨rfl, nd4, hw5⟩
  have hb2 := Fd.Bl.drewN' (Below.refl w.heap.size _) hw5
  clear hw5
  rw [HFW.out]
  have hB3 := hb2
  clear hb2
  go_wp2_with fail
  refine (Fd.set_any v0 fs0 a1 ⟨#[118]⟩ _ (HF.out.below hB3 (Nat.le_refl _)) (by omega) (by omega) (by decide)).mono ?_
  rintro e x6 ⟨r9, rfl, hO10, hb7⟩
  rw [HS.out] at hO10
  have HO11 := Lib.hid hO10
  obtain ⟨ra12, rc13, hr14⟩ := hO10.form
  clear hO10
  rw [hr14] at HO11
  rw [hr14]
  clear hr14
  have hB8 := Fd.Bl.next hB3 hb7
  clear hb7 hB3
  go_wp2_with fail
  refine (Fd.get_any _ S a1 _ HO11.out.flds hts2 (by unfold maxLen; omega)).mono ?_
  rintro e x15 ⟨rfl, hb16⟩
  rw [HG1.out]
  have hB17 := Fd.Bl.next hB8 hb16
  have HL18 := Lib.hid (HO11.out.kept hb16)
  clear HO11
  clear hb16 hB8
  go_wp2_with fail
  refine (Fd.del_any v0 fs0 a1 _ (HF.out.below hB17 (Nat.le_refl _)) (by omega) (by omega)).mono ?_
  rintro e x19 ⟨r22, rfl, hO23, hb20⟩
  rw [← HD.out] at hO23
  have HO24 := Lib.hid hO23
  obtain ⟨ra25, rc26, hr27⟩ := hO23.form
  clear hO23
  rw [hr27] at HO24
  rw [hr27]
  clear hr27
  have hB21 := Fd.Bl.next hB17 hb20
  have HL28 := Lib.hid (HL18.out.kept hb20)
  clear HL18
  clear hb20 hB17
  go_wp2_with fail
  refine (Fd.get_any _ D a1 _ HO24.out.flds htd2 (by unfold maxLen; omega)).mono ?_
  rintro e x29 ⟨rfl, hb30⟩
  rw [HG2.out]
  have hB31 := Fd.Bl.next hB21 hb30
  have HL32 := Lib.hid (HL28.out.kept hb30)
  clear HL28
  have HL33 := Lib.hid (HO24.out.kept hb30)
  clear HO24
  clear hb30 hB21
  go_wp2_with fail
  refine (Tk.same_any a1 a2 _ (by unfold maxLen; omega)).mono ?_
  rintro e x34 ⟨rfl, nd37, hw38⟩
  have hb35 := Fd.Bl.drewN' (Below.refl x29.heap.size _) hw38
  clear hw38
  rw [HA.out]
  have hB36 := Fd.Bl.next hB31 hb35
  have HL39 := Lib.hid (HL32.out.kept hb35)
  clear HL32
  have HL40 := Lib.hid (HL33.out.kept hb35)
  clear HL33
  clear hb35 hB31
  go_wp2_with fail
  go_ret
  exact ⟨rfl, hB36⟩

set_option maxHeartbeats 4000000 in
theorem way0 (v0 : Value) (fs0 : List Fd.Fl) (a1 a2 : ByteArray) (w : World) (hf : Fd.Flds w v0 fs0) (l0 : fs0.length ≤ 140737488355328) (z0 : ∀ f ∈ fs0, f.1.size ≤ 140737488355328 ∧ f.2.size ≤ 140737488355328)
    (hfw : Fd.fewB fs0 = true) (hs : a1.size + a2.size ≤ 2000) (ha : Tk.same a1.data.toList a2.data.toList = false) :
    Calls Try.prog 3 #[v0, .string a1, .string a2] w fun e w' => e = .returned (.bool true) ∧ Below w.heap.size w w' := by
  have HF := Lib.hid hf
  have HFW := Lib.hid hfw
  have HA := Lib.hid ha
  have HZ := Lib.hid z0
  have ht : Fd.tot fs0 ≤ 4000 := by unfold Fd.fewB at hfw; have := of_decide_eq_true hfw; omega
  have hts := Fd.tot_set fs0 a1 ⟨#[118]⟩
  have htd := Fd.tot_del fs0 a1.data.toList
  have h1s : (⟨#[118]⟩ : ByteArray).size = 1 := rfl
  have HG1 := Lib.hid (get_eq (Fd.get_set fs0 a1 ⟨#[118]⟩))
  have HG2 := Lib.hid (get_eq (Fd.get_del fs0 a1.data.toList))
  have hd : decide ((2000 : Int) < (a1.size : Int) + (a2.size : Int)) = false := by rw [decide_eq_false_iff_not]; omega
  have hts2 : Fd.tot (Fd.setF fs0 a1 ⟨#[118]⟩) ≤ 1048576 := by omega
  have htd2 : Fd.tot (Fd.del fs0 a1.data.toList) ≤ 1048576 := by omega
  clear hts htd h1s
  obtain ⟨S, hS⟩ : ∃ S, S = Fd.setF fs0 a1 ⟨#[118]⟩ := ⟨_, rfl⟩
  obtain ⟨D, hD⟩ : ∃ D, D = Fd.del fs0 a1.data.toList := ⟨_, rfl⟩
  have HG3 := Lib.hid (get_eq (t := Fd.getT fs0 a2.data.toList) (n := Fd.getN fs0 a2.data.toList) (Fd.get_set_other fs0 a1 ⟨#[118]⟩ ha))
  have HG4 := Lib.hid (get_eq (t := Fd.getT fs0 a2.data.toList) (n := Fd.getN fs0 a2.data.toList) (Fd.get_del_other fs0 ha))
  have HG5 := Lib.hid (get_eq (fs := fs0) (nm := a2.data.toList) ⟨rfl, rfl⟩)
  obtain ⟨T, hT⟩ : ∃ T : ByteArray, T = ⟨(Fd.getT fs0 a2.data.toList).toArray⟩ := ⟨_, rfl⟩
  obtain ⟨N, hN⟩ : ∃ N : Nat, N = Fd.getN fs0 a2.data.toList := ⟨_, rfl⟩
  rw [← hT, ← hN] at HG3 HG4 HG5
  rw [← hS] at HG3
  rw [← hD] at HG4
  have tT : (T.toList == T.toList) = true := by simp
  have tN : ((N : Int) == (N : Int)) = true := by simp
  clear hT hN
  have HDS := Lib.hid (show Fd.del S a1.data.toList = D from by rw [hS, hD]; exact Fd.del_set fs0 a1 ⟨#[118]⟩)
  have hDl : D.length ≤ 1099511627776 := by rw [hD]; have := Fd.tot_len (Fd.del fs0 a1.data.toList); omega
  rw [← hS] at HG1 hts2
  rw [← hD] at HG2 htd2
  have HS := Lib.hid (show Fd.del fs0 a1.data.toList ++ [(a1, ⟨#[118]⟩)] = S from hS.symm)
  have HD := Lib.hid hD
  clear hS hD
  clear hf hfw ha z0
  go_enter Try.func3, Try.ntmps3
  go_wp2_with fail
  refine (Fd.few_any v0 fs0 _ HF.out l0 HZ.out).mono ?_
  rintro e x1 ⟨rfl, nd4, hw5⟩
  have hb2 := Fd.Bl.drewN' (Below.refl w.heap.size _) hw5
  clear hw5
  rw [HFW.out]
  have hB3 := hb2
  clear hb2
  go_wp2_with fail
  refine (Fd.set_any v0 fs0 a1 ⟨#[118]⟩ _ (HF.out.below hB3 (Nat.le_refl _)) (by omega) (by omega) (by decide)).mono ?_
  rintro e x6 ⟨r9, rfl, hO10, hb7⟩
  rw [HS.out] at hO10
  have HO11 := Lib.hid hO10
  obtain ⟨ra12, rc13, hr14⟩ := hO10.form
  clear hO10
  rw [hr14] at HO11
  rw [hr14]
  clear hr14
  have hB8 := Fd.Bl.next hB3 hb7
  clear hb7 hB3
  go_wp2_with fail
  refine (Fd.get_any _ S a1 _ HO11.out.flds hts2 (by unfold maxLen; omega)).mono ?_
  rintro e x15 ⟨rfl, hb16⟩
  rw [HG1.out]
  have hB17 := Fd.Bl.next hB8 hb16
  have HL18 := Lib.hid (HO11.out.kept hb16)
  clear HO11
  clear hb16 hB8
  go_wp2_with fail
  refine (Fd.del_any v0 fs0 a1 _ (HF.out.below hB17 (Nat.le_refl _)) (by omega) (by omega)).mono ?_
  rintro e x19 ⟨r22, rfl, hO23, hb20⟩
  rw [← HD.out] at hO23
  have HO24 := Lib.hid hO23
  obtain ⟨ra25, rc26, hr27⟩ := hO23.form
  clear hO23
  rw [hr27] at HO24
  rw [hr27]
  clear hr27
  have hB21 := Fd.Bl.next hB17 hb20
  have HL28 := Lib.hid (HL18.out.kept hb20)
  clear HL18
  clear hb20 hB17
  go_wp2_with fail
  refine (Fd.get_any _ D a1 _ HO24.out.flds htd2 (by unfold maxLen; omega)).mono ?_
  rintro e x29 ⟨rfl, hb30⟩
  rw [HG2.out]
  have hB31 := Fd.Bl.next hB21 hb30
  have HL32 := Lib.hid (HL28.out.kept hb30)
  clear HL28
  have HL33 := Lib.hid (HO24.out.kept hb30)
  clear HO24
  clear hb30 hB21
  go_wp2_with fail
  refine (Tk.same_any a1 a2 _ (by unfold maxLen; omega)).mono ?_
  rintro e x34 ⟨rfl, nd37, hw38⟩
  have hb35 := Fd.Bl.drewN' (Below.refl x29.heap.size _) hw38
  clear hw38
  rw [HA.out]
  have hB36 := Fd.Bl.next hB31 hb35
  have HL39 := Lib.hid (HL32.out.kept hb35)
  clear HL32
  have HL40 := Lib.hid (HL33.out.kept hb35)
  clear HL33
  clear hb35 hB31
  go_wp2_with fail
  refine (Fd.get_any _ S a2 _ HL39.out.flds hts2 (by unfold maxLen; omega)).mono ?_
  rintro e x41 ⟨rfl, hb42⟩
  rw [HG3.out]
  have hB43 := Fd.Bl.next hB36 hb42
  have HL44 := Lib.hid (HL39.out.kept hb42)
  clear HL39
  have HL45 := Lib.hid (HL40.out.kept hb42)
  clear HL40
  clear hb42 hB36
  go_wp2_with fail
  refine (Fd.get_any v0 fs0 a2 _ (HF.out.below hB43 (Nat.le_refl _)) (by omega) (by unfold maxLen; omega)).mono ?_
  rintro e x46 ⟨rfl, hb47⟩
  rw [HG5.out]
  have hB48 := Fd.Bl.next hB43 hb47
  have HL49 := Lib.hid (HL44.out.kept hb47)
  clear HL44
  have HL50 := Lib.hid (HL45.out.kept hb47)
  clear HL45
  clear hb47 hB43
  go_wp2_with fail
  refine (Fd.del_any v0 fs0 a1 _ (HF.out.below hB48 (Nat.le_refl _)) (by omega) (by omega)).mono ?_
  rintro e x51 ⟨r54, rfl, hO55, hb52⟩
  rw [← HD.out] at hO55
  have HO56 := Lib.hid hO55
  obtain ⟨ra57, rc58, hr59⟩ := hO55.form
  clear hO55
  rw [hr59] at HO56
  rw [hr59]
  clear hr59
  have hB53 := Fd.Bl.next hB48 hb52
  have HL60 := Lib.hid (HL49.out.kept hb52)
  clear HL49
  have HL61 := Lib.hid (HL50.out.kept hb52)
  clear HL50
  clear hb52 hB48
  go_wp2_with fail
  refine (Fd.get_any _ D a2 _ HO56.out.flds htd2 (by unfold maxLen; omega)).mono ?_
  rintro e x62 ⟨rfl, hb63⟩
  rw [HG4.out]
  have hB64 := Fd.Bl.next hB53 hb63
  have HL65 := Lib.hid (HL60.out.kept hb63)
  clear HL60
  have HL66 := Lib.hid (HL61.out.kept hb63)
  clear HL61
  have HL67 := Lib.hid (HO56.out.kept hb63)
  clear HO56
  clear hb63 hB53
  go_wp2_with fail
  refine (Fd.del_any _ S a1 _ HL65.out.flds hts2 (by omega)).mono ?_
  rintro e x68 ⟨r71, rfl, hO72, hb69⟩
  rw [HDS.out] at hO72
  have HO73 := Lib.hid hO72
  obtain ⟨ra74, rc75, hr76⟩ := hO72.form
  clear hO72
  rw [hr76] at HO73
  rw [hr76]
  clear hr76
  have hB70 := Fd.Bl.next hB64 hb69
  have HL77 := Lib.hid (HL65.out.kept hb69)
  clear HL65
  have HL78 := Lib.hid (HL66.out.kept hb69)
  clear HL66
  have HL79 := Lib.hid (HL67.out.kept hb69)
  clear HL67
  clear hb69 hB64
  go_wp2_with fail
  refine (Fd.del_any v0 fs0 a1 _ (HF.out.below hB70 (Nat.le_refl _)) (by omega) (by omega)).mono ?_
  rintro e x80 ⟨r83, rfl, hO84, hb81⟩
  rw [← HD.out] at hO84
  have HO85 := Lib.hid hO84
  obtain ⟨ra86, rc87, hr88⟩ := hO84.form
  clear hO84
  rw [hr88] at HO85
  rw [hr88]
  clear hr88
  have hB82 := Fd.Bl.next hB70 hb81
  have HL89 := Lib.hid (HL77.out.kept hb81)
  clear HL77
  have HL90 := Lib.hid (HL78.out.kept hb81)
  clear HL78
  have HL91 := Lib.hid (HL79.out.kept hb81)
  clear HL79
  have HL92 := Lib.hid (HO73.out.kept hb81)
  clear HO73
  clear hb81 hB70
  go_wp2_with fail
  refine (Fd.sameL_any _ _ D _ HL92.out.flds HO85.out.flds hDl).mono ?_
  rintro e x93 ⟨rfl, nd96, hw97⟩
  have hb94 := Fd.Bl.drewN' (Below.refl x80.heap.size _) hw97
  clear hw97
  have hB95 := Fd.Bl.next hB82 hb94
  have HL98 := Lib.hid (HL89.out.kept hb94)
  clear HL89
  have HL99 := Lib.hid (HL90.out.kept hb94)
  clear HL90
  have HL100 := Lib.hid (HL91.out.kept hb94)
  clear HL91
  have HL101 := Lib.hid (HL92.out.kept hb94)
  clear HL92
  have HL102 := Lib.hid (HO85.out.kept hb94)
  clear HO85
  clear hb94 hB82
  go_wp2_with fail
  go_ret
  exact ⟨rfl, hB95⟩

set_option maxHeartbeats 4000000 in
theorem walk (v0 : Value) (fs0 : List Fd.Fl) (a1 : ByteArray) (s1 : a1.size ≤ reachBytes) (a2 : ByteArray) (s2 : a2.size ≤ reachBytes) (w : World) (f0 : Fd.Flds w v0 fs0) (l0 : fs0.length ≤ 140737488355328) (z0 : ∀ f ∈ fs0, f.1.size ≤ 140737488355328 ∧ f.2.size ≤ 140737488355328) :
    Calls Try.prog 3 #[v0, .string a1, .string a2] w fun e w' => e = .returned (.bool true) ∧ Below w.heap.size w w' := by
  unfold reachBytes at s1 s2
  cases hfw : Fd.fewB fs0 with
  | false =>
    have HF := Lib.hid f0
    have HFW := Lib.hid hfw
    have HZ := Lib.hid z0
    clear f0 hfw z0
    go_enter Try.func3, Try.ntmps3
    go_wp2_with fail
    refine (Fd.few_any v0 fs0 _ HF.out l0 HZ.out).mono ?_
    rintro e x0 ⟨rfl, n, hx⟩
    rw [HFW.out]
    have hB := Fd.Bl.drewN' (Below.refl w.heap.size _) hx
    clear hx
    go_wp2_with fail
    go_ret
    exact ⟨rfl, hB⟩
  | true =>
    by_cases hs : a1.size + a2.size ≤ 2000
    · cases ha : Tk.same a1.data.toList a2.data.toList with
      | true => exact way1 v0 fs0 a1 a2 w f0 l0 z0 hfw hs ha
      | false => exact way0 v0 fs0 a1 a2 w f0 l0 z0 hfw hs ha
    · have HF := Lib.hid f0
      have HFW := Lib.hid hfw
      have HZ := Lib.hid z0
      have hd : decide ((2000 : Int) < (a1.size : Int) + (a2.size : Int)) = true := by rw [decide_eq_true_eq]; omega
      clear f0 hfw z0
      go_enter Try.func3, Try.ntmps3
      go_wp2_with fail
      refine (Fd.few_any v0 fs0 _ HF.out l0 HZ.out).mono ?_
      rintro e x0 ⟨rfl, n, hx⟩
      rw [HFW.out]
      have hB := Fd.Bl.drewN' (Below.refl w.heap.size _) hx
      clear hx
      go_wp2_with fail
      go_ret
      exact ⟨rfl, hB⟩

set_option maxRecDepth 100000 in
theorem lifted (os : Os) (started : os.Started) (H : Type) (enc : TypeId × Value → H) :
    ReturnsInHanded {} Try.checked os 3 .any (Rows.fieldSetsSpec.pre6 enc Try.prog Try.f3 Rows.fieldSetsRow.domain false) (Rows.fieldSetsSpec.post enc Try.prog Try.f3 false true false false) := by
  refine returnsInHanded_of_change_sized (C := Try.checked) own started (by kernel_rfl) Try.func3
    (ChangeSpec.witness6 (enc := enc) (C := Try.checked) false ⟨#[], #[.slice none 0 0, .string ByteArray.empty, .string ByteArray.empty], []⟩ 8 (by kernel_rfl) (by kernel_rfl) (by kernel_rfl) (by kernel_rfl)) ?_
  intro W base args ds gs before hval0 hW hcnd hsz _
  have hval : ∀ (j : Nat) t v, Try.f3.params[j]? = some t → args[j]? = some v → Value.okWide Try.prog W .any base t v := hval0
  have hW' := hW
  obtain ⟨p, q, hA0, hV, rfl, hfz, hnd⟩ := hW
  have hA : DataW.TrodAll enc Try.prog W 0 (fun _ => true) true Try.f3.params.toList args.toList ds p := hA0
  rw [Try.params3] at hA hval hsz
  obtain ⟨v0, vs0, d0, ds0, p0, q0, hargs, rfl, rfl, h0, r0⟩ := trodAll_cons hA
  obtain ⟨v1, vs1, d1, ds1, p1, q1, rfl, rfl, rfl, h1, r1⟩ := trodAll_cons r0
  obtain ⟨v2, vs2, d2, ds2, p2, q2, rfl, rfl, rfl, h2, r2⟩ := trodAll_cons r1
  obtain ⟨rfl, rfl, rfl⟩ := trodAll_nil r2
  have hw0 : ∀ n ∈ d0.weights Try.prog 22, n ≤ reachBytes := fun n hn => by simpa using List.all_eq_true.1 hsz n (DataW.weights_mem_each (j := 0) (t := 22) (d := d0) rfl rfl _ hn)
  have hw1 : ∀ n ∈ d1.weights Try.prog 9, n ≤ reachBytes := fun n hn => by simpa using List.all_eq_true.1 hsz n (DataW.weights_mem_each (j := 1) (t := 9) (d := d1) rfl rfl _ hn)
  have hw2 : ∀ n ∈ d2.weights Try.prog 9, n ≤ reachBytes := fun n hn => by simpa using List.all_eq_true.1 hsz n (DataW.weights_mem_each (j := 2) (t := 9) (d := d2) rfl rfl _ hn)
  obtain rfl : args = #[v0, v1, v2] := by cases args; simp_all
  obtain ⟨rfl, rfl⟩ := trodVars_none hV
  have k0 := h0
  have lt0 : ∀ x ∈ p0, x.block < W.heap.size := by obtain ⟨m, hm⟩ := k0; exact DataW.trod_lt m _ _ _ hm
  obtain ⟨fs0, f0, l0, z0⟩ := Fd.open_flds (hval 0 22 v0 rfl rfl) h0 hw0
  obtain ⟨a1, rfl, rfl, rfl, w1⟩ := open_string Try.underlying9 (hval 1 9 v1 rfl rfl) h1
  have s1 : a1.size ≤ reachBytes := by simpa [DataW.weights] using hw1
  obtain ⟨a2, rfl, rfl, rfl, w2⟩ := open_string Try.underlying9 (hval 2 9 v2 rfl rfl) h2
  have s2 : a2.size ≤ reachBytes := by simpa [DataW.weights] using hw2
  clear hA0 hval0
  simp only [List.append_nil] at hW'
  refine (walk v0 fs0 a1 s1 a2 s2 W f0 l0 z0).mono fun e W' ⟨he, bel⟩ => ?_
  subst he
  exact ⟨_, rfl, _, _, _, [], _, [], hW', trodAll_mk1 (shut_bool Try.underlying4 _), (trodAll_cons_mk (Below.trod laidOut (by kernel_rfl) (of_decide_eq_true (by kernel_rfl)) k0 bel lt0) (trodAll_cons_mk (shut_string Try.underlying9 w1) (trodAll_cons_mk (shut_string Try.underlying9 w2) trodAll_mk0))), rfl, bel.frame _, fun h => by cases h⟩

theorem over : Rows.fieldSetsRow.holds Try.pinned (OpenSpec.ofChange Rows.fieldSetsSpec) :=
  OpenClaim.holds_of_wide 3 Try.f3 rfl rfl rfl rfl rfl rfl rfl ⟨rfl, rfl, rfl, rfl, rfl⟩ rfl rfl rfl rfl rfl (by kernel_rfl) Try.func3 (by kernel_rfl)
    (of_decide_eq_true (by kernel_rfl)) (by unfold Func.isWrapper; first | (rw [if_pos (by decide +kernel)]; kernel_rfl) | (rw [if_neg (by decide +kernel)]; exact ⟨rfl, rfl⟩))
    (fun os started H enc _ => lifted os started H enc)

theorem proved : Rows.FieldSetsSaid := over
end Go.Proofs.Ytacnlohfipcbdaa.fieldSets
