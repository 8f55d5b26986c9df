/-
  FieldGets: any fields have the document's values of a name, and are the document's without it, with another one, and without those of one connection.
  Conditions: the listed tables hold what the program's text lays (the card ties them).
-/
import Derived.Test.YtacnlohfipcbdaaDoorTabs
import Derived.Test.YtacnlohfipcbdaaDoorFdOpen
import Derived.SizedLaws
import Derived.Carry
import Derived.Test.YtacnlohfipcbdaaDoorFdOpen2
import Derived.Test.YtacnlohfipcbdaaDoorFdRefStrip
import Derived.Test.YtacnlohfipcbdaaDoorFdSame
import Derived.Test.YtacnlohfipcbdaaDoorFdTexts
import Derived.Test.YtacnlohfipcbdaaDoorFdDel
import Derived.WideKeyPair
namespace Go.Proofs.YtacnlohfipcbdaaDoor.fieldGets
open Go.ChangeShapes Go.WideShapes Go.ChangeAt Go.RowKit
open Go.ChangeMaps (open_string shut_string)
set_option linter.unusedVariables false

theorem few_small {fs : List Fd.Fl} (h : Fd.fewB fs = true) : Fd.tot fs < 4000 := by unfold Fd.fewB at h; exact of_decide_eq_true h
/-- The two fields of the law's own list. -/
def two : List Fd.Fl := [(⟨#[65]⟩, ⟨#[49]⟩), (⟨#[97]⟩, ⟨#[50]⟩)]
theorem flds_two {w : World} {g : Nat} (h : w.heap[g]? = some (.cells #[.string ⟨#[65]⟩, .string ⟨#[49]⟩, .string ⟨#[97]⟩, .string ⟨#[50]⟩] 23 (0, 0))) : Fd.Flds w (.slice (some ⟨g, 0, none⟩) 2 2) two := by
  refine .inr ⟨_, 0, 2, rfl, Fd.block_lt h, fun j hj => ?_⟩
  have hj' : j < 2 := hj
  have hc := fun i => Lib.cell_of_heap h i
  rcases (by omega : j = 0 ∨ j = 1) with rfl | rfl
  · exact ⟨hc 0, hc 1⟩
  · exact ⟨hc 2, hc 3⟩
theorem get_two : Fd.getVal two [97] = .tuple #[.string ⟨#[49, 44, 32, 50]⟩, .int .i64 2] := by kernel_rfl
/-- What Names answers, by cases: both calls alike. -/
theorem names_cases {t : Tk.Bs} {w w' : World} {e : Ending} (h : Fd.NamesPost t w e w') :
    ∃ (u : Value) (b : Bool) (ls : List Tk.Bs), e = .returned (.tuple #[u, .bool b]) ∧ w'.ownsRow w.heap.size 9 1 u ls.length (ls.map Fd.TS) ∧ Below w.heap.size w w' ∧ (match Fd.namesOf t with | none => b = false ∧ ls = [] | some ms => b = true ∧ ls = ms) := by
  obtain ⟨hb, h⟩ := h
  rcases h with ⟨hn, he⟩ | ⟨ls, u, hn, he, ho⟩
  · exact ⟨_, false, [], he, World.ownsRow_nil _ _ _ _, hb, by rw [hn]; exact ⟨rfl, rfl⟩⟩
  · exact ⟨u, true, ls, he, ho, hb, by rw [hn]; exact ⟨rfl, rfl⟩⟩
theorem names_same {t : Tk.Bs} {b b' : Bool} {ls ls' : List Tk.Bs} (h : match Fd.namesOf t with | none => b = false ∧ ls = [] | some ms => b = true ∧ ls = ms) (h' : match Fd.namesOf t with | none => b' = false ∧ ls' = [] | some ms => b' = true ∧ ls' = ms) : b = b' ∧ ls = ls' := by
  cases hn : Fd.namesOf t with
  | none => rw [hn] at h h'; exact ⟨h.1.trans h'.1.symm, h.2.trans h'.2.symm⟩
  | some ms => rw [hn] at h h'; exact ⟨h.1.trans h'.1.symm, h.2.trans h'.2.symm⟩
theorem names_len {t : Tk.Bs} {b : Bool} {ls : List Tk.Bs} (h : match Fd.namesOf t with | none => b = false ∧ ls = [] | some ms => b = true ∧ ls = ms) : ls.length ≤ t.length + 1 := by
  cases hn : Fd.namesOf t with
  | none => rw [hn] at h; rw [h.2]; simp
  | some ms => rw [hn] at h; rw [h.2]; exact Fd.names_length hn
theorem texts_below {w w' : World} {v : Value} {ls : List Tk.Bs} {base : Nat} (h : w.ownsRow base 9 1 v ls.length (ls.map Fd.TS)) (hb : Below w.heap.size w w') : Fd.Texts w' v ls := Fd.Texts.of_owns (Fd.owns_kept h hb) rfl

set_option maxHeartbeats 8000000 in
theorem way (v0 : Value) (fs0 : List Fd.Fl) (a1 a2 : ByteArray) (w : World) (hT : Tk.Tab w) (f0 : Fd.Flds w v0 fs0) (l0 : fs0.length ≤ 140737488355328) (z0 : ∀ f ∈ fs0, f.1.size ≤ 140737488355328 ∧ f.2.size ≤ 140737488355328)
    (hfw : Fd.fewB fs0 = true) (hs : a1.size + a2.size ≤ 2000) :
    Calls Tryd.prog 4 #[v0, .string a1, .string a2] w fun e w' => e = .returned (.bool true) ∧ Below w.heap.size w w' := by
  have HF := Lib.hid f0
  have HFW := Lib.hid hfw
  have HZ := Lib.hid z0
  have hts := few_small hfw
  have HT := Lib.hid hT
  have hg := hT.lt
  have hgl := Fd.getT_length fs0 a1.data.toList
  have hd : decide ((2000 : Int) < (a1.size : Int) + (a2.size : Int)) = false := by rw [decide_eq_false_iff_not]; omega
  obtain ⟨N, hN⟩ : ∃ N : Nat, N = Fd.getN fs0 a1.data.toList := ⟨_, rfl⟩
  obtain ⟨X, hX⟩ : ∃ X : ByteArray, X = ⟨(Fd.getT fs0 a1.data.toList).toArray⟩ := ⟨_, rfl⟩
  have HG := Lib.hid (show Fd.getVal fs0 a1.data.toList = .tuple #[.string X, .int .i64 (N : Int)] from by unfold Fd.getVal; rw [hX, hN])
  have tX : (X.toList == X.toList) = true := by simp
  have tN : ((N : Int) == (N : Int)) = true := by simp
  clear hN hX
  obtain ⟨D, hD⟩ : ∃ D, D = Fd.del fs0 a1.data.toList := ⟨_, rfl⟩
  obtain ⟨S, hS⟩ : ∃ S, S = Fd.del fs0 a1.data.toList ++ [(a1, a2)] := ⟨_, rfl⟩
  obtain ⟨R, hR⟩ : ∃ R, R = Fd.stripF fs0 := ⟨_, rfl⟩
  have hDl : D.length ≤ 1099511627776 := by rw [hD]; have h1 := Fd.tot_len (Fd.del fs0 a1.data.toList); have h2 : Fd.tot (Fd.del fs0 a1.data.toList) ≤ Fd.tot fs0 := Fd.tot_filter _ _; omega
  have hSl : S.length ≤ 1099511627776 := by rw [hS, List.length_append]; rw [hD] at hDl; have h1 := Fd.tot_len (Fd.del fs0 a1.data.toList); have h2 : Fd.tot (Fd.del fs0 a1.data.toList) ≤ Fd.tot fs0 := Fd.tot_filter _ _; simp; omega
  have hRl : R.length ≤ 1099511627776 := by rw [hR]; have h1 := Fd.tot_len (Fd.stripF fs0); have h2 := Fd.tot_strip fs0; omega
  have HD := Lib.hid hD
  have HS := Lib.hid hS
  have HR := Lib.hid hR
  clear hD hS hR f0 hfw z0 hT
  go_enter Tryd.func4, Tryd.ntmps4
  go_wp2_with fail
  refine (Fd.few_any v0 fs0 _ HF.out l0 HZ.out).mono ?_
  rintro e x1 ⟨rfl, nd4, hw5⟩
  have hb2 := Fd.Bl.drewN' (Below.refl w.heap.size _) hw5
  clear hw5
  rw [HFW.out]
  have hB3 := hb2
  clear hb2
  go_wp2_with fail
  refine (Fd.get_any v0 fs0 a1 _ (HF.out.below hB3 (Nat.le_refl _)) (by omega) (by unfold maxLen; omega)).mono ?_
  rintro e x6 ⟨rfl, hb7⟩
  rw [HG.out]
  have hB8 := Fd.Bl.next hB3 hb7
  clear hb7 hB3
  go_wp2_with fail
  refine (Fd.refGet_any v0 fs0 a1 _ (HF.out.below hB8 (Nat.le_refl _)) (by omega) (by unfold maxLen; omega)).mono ?_
  rintro e x9 ⟨rfl, hb10⟩
  rw [HG.out]
  have hB11 := Fd.Bl.next hB8 hb10
  clear hb10 hB8
  go_wp2_with fail
  refine (Fd.names_any v0 fs0 a1 _ (HF.out.below hB11 (Nat.le_refl _)) (by omega) (by unfold maxLen; omega) (HT.out.below hB11 hg)).mono ?_
  rintro e y1 hp1
  obtain ⟨u1, b1, ls1, rfl, ho1, hb1, hm1⟩ := names_cases hp1
  have hB12 := Fd.Bl.next hB11 hb1
  have HO1 := Lib.hid ho1
  have HM1 := Lib.hid hm1
  clear hb1 hp1 ho1 hm1 hB11
  go_wp2_with fail
  refine (Fd.refNames_any v0 fs0 a1 _ (HF.out.below hB12 (Nat.le_refl _)) (by omega) (by unfold maxLen; omega)).mono ?_
  rintro e y2 hp2
  obtain ⟨u2, b2, ls2, rfl, ho2, hb2, hm2⟩ := names_cases hp2
  have hB13 := Fd.Bl.next hB12 hb2
  have HO2 := Lib.hid ho2
  have HM2 := Lib.hid hm2
  have HO1b := Lib.hid (Fd.owns_kept HO1.out hb2)
  clear hb2 hp2 ho2 hm2 HO1 hB12
  obtain ⟨hbb, hll⟩ := names_same HM1.out HM2.out
  subst hbb hll
  have hlsl := names_len HM1.out
  have hln : ls1.length ≤ 1099511627776 := by omega
  clear HM1 HM2 hlsl
  have HF2 := Lib.hid (flds_two (Fd.new_block y2 (.cells #[.string ⟨#[65]⟩, .string ⟨#[49]⟩, .string ⟨#[97]⟩, .string ⟨#[50]⟩] 23)))
  have hBt := hB13.alloc hB13.size (.cells #[.string ⟨#[65]⟩, .string ⟨#[49]⟩, .string ⟨#[97]⟩, .string ⟨#[50]⟩] 23)
  have HO1c := Lib.hid (Fd.owns_kept HO1b.out ((Below.refl _ _).alloc (Nat.le_refl _) (.cells #[.string ⟨#[65]⟩, .string ⟨#[49]⟩, .string ⟨#[97]⟩, .string ⟨#[50]⟩] 23)))
  have HO2c := Lib.hid (Fd.owns_kept HO2.out ((Below.refl _ _).alloc (Nat.le_refl _) (.cells #[.string ⟨#[65]⟩, .string ⟨#[49]⟩, .string ⟨#[97]⟩, .string ⟨#[50]⟩] 23)))
  clear HO1b HO2
  clear hB13
  go_wp2_with fail
  refine (Fd.get_any _ two ⟨#[97]⟩ _ HF2.out (by decide +kernel) (by decide)).mono ?_
  rintro e y3 ⟨rfl, hb3⟩
  rw [get_two]
  have hBu := Fd.Bl.next hBt hb3
  have HT1 := Lib.hid (texts_below (w := y2.alloc (.cells #[.string ⟨#[65]⟩, .string ⟨#[49]⟩, .string ⟨#[97]⟩, .string ⟨#[50]⟩] 23)) HO1c.out hb3)
  have HT2 := Lib.hid (texts_below (w := y2.alloc (.cells #[.string ⟨#[65]⟩, .string ⟨#[49]⟩, .string ⟨#[97]⟩, .string ⟨#[50]⟩] 23)) HO2c.out hb3)
  clear hb3 hBt HO1c HO2c HF2
  have tls : (ls1 == ls1) = true := by simp
  have tb : (b1 == b1) = true := by simp
  go_wp2_with fail
  refine (Fd.texts_any _ _ ls1 ls1 _ HT1.out HT2.out hln).mono ?_
  rintro e x14 ⟨rfl, nd17, hw18⟩
  have hb15 := Fd.Bl.drewN' (Below.refl y3.heap.size _) hw18
  clear hw18
  rw [tls]
  have hB16 := Fd.Bl.next hBu hb15
  clear hb15 hBu
  go_wp2_with fail
  refine (Fd.del_any v0 fs0 a1 _ (HF.out.below hB16 (Nat.le_refl _)) (by omega) (by omega)).mono ?_
  rintro e x19 ⟨r22, rfl, hO23, hb20⟩
  rw [← HD.out] at hO23
  have HO24 := Lib.hid hO23
  obtain ⟨ra25, rc26, hr27⟩ := hO23.form
  clear hO23
  rw [hr27] at HO24
  rw [hr27]
  clear hr27
  have hB21 := Fd.Bl.next hB16 hb20
  clear hb20 hB16
  go_wp2_with fail
  refine (Fd.refDel_any v0 fs0 a1 _ (HF.out.below hB21 (Nat.le_refl _)) (by omega) (by unfold maxLen; omega)).mono ?_
  rintro e x28 ⟨r31, rfl, hO32, hb29⟩
  rw [← HD.out] at hO32
  have HO33 := Lib.hid hO32
  obtain ⟨ra34, rc35, hr36⟩ := hO32.form
  clear hO32
  rw [hr36] at HO33
  rw [hr36]
  clear hr36
  have hB30 := Fd.Bl.next hB21 hb29
  have HL37 := Lib.hid (HO24.out.kept hb29)
  clear HO24
  clear hb29 hB21
  go_wp2_with fail
  refine (Fd.sameL_any _ _ D _ HL37.out.flds HO33.out.flds hDl).mono ?_
  rintro e x38 ⟨rfl, nd41, hw42⟩
  have hb39 := Fd.Bl.drewN' (Below.refl x28.heap.size _) hw42
  clear hw42
  have hB40 := Fd.Bl.next hB30 hb39
  have HL43 := Lib.hid (HL37.out.kept hb39)
  clear HL37
  have HL44 := Lib.hid (HO33.out.kept hb39)
  clear HO33
  clear hb39 hB30
  clear HL43 HL44
  go_wp2_with fail
  refine (Fd.set_any v0 fs0 a1 a2 _ (HF.out.below hB40 (Nat.le_refl _)) (by omega) (by omega) (by omega)).mono ?_
  rintro e x45 ⟨r48, rfl, hO49, hb46⟩
  rw [← HS.out] at hO49
  have HO50 := Lib.hid hO49
  obtain ⟨ra51, rc52, hr53⟩ := hO49.form
  clear hO49
  rw [hr53] at HO50
  rw [hr53]
  clear hr53
  have hB47 := Fd.Bl.next hB40 hb46
  clear hb46 hB40
  go_wp2_with fail
  refine (Fd.refSet_any v0 fs0 a1 a2 _ (HF.out.below hB47 (Nat.le_refl _)) (by omega) (by unfold maxLen; omega)).mono ?_
  rintro e x54 ⟨r57, rfl, hO58, hb55⟩
  rw [← HS.out] at hO58
  have HO59 := Lib.hid hO58
  obtain ⟨ra60, rc61, hr62⟩ := hO58.form
  clear hO58
  rw [hr62] at HO59
  rw [hr62]
  clear hr62
  have hB56 := Fd.Bl.next hB47 hb55
  have HL63 := Lib.hid (HO50.out.kept hb55)
  clear HO50
  clear hb55 hB47
  go_wp2_with fail
  refine (Fd.sameL_any _ _ S _ HL63.out.flds HO59.out.flds hSl).mono ?_
  rintro e x64 ⟨rfl, nd67, hw68⟩
  have hb65 := Fd.Bl.drewN' (Below.refl x54.heap.size _) hw68
  clear hw68
  have hB66 := Fd.Bl.next hB56 hb65
  have HL69 := Lib.hid (HL63.out.kept hb65)
  clear HL63
  have HL70 := Lib.hid (HO59.out.kept hb65)
  clear HO59
  clear hb65 hB56
  clear HL69 HL70
  go_wp2_with fail
  refine (Fd.strip_any v0 fs0 _ (HF.out.below hB66 (Nat.le_refl _)) (by omega) (HT.out.below hB66 hg)).mono ?_
  rintro e x71 ⟨r74, rfl, hO75, hb72⟩
  rw [← HR.out] at hO75
  have HO76 := Lib.hid hO75
  obtain ⟨ra77, rc78, hr79⟩ := hO75.form
  clear hO75
  rw [hr79] at HO76
  rw [hr79]
  clear hr79
  have hB73 := Fd.Bl.next hB66 hb72
  clear hb72 hB66
  go_wp2_with fail
  refine (Fd.refStrip_any v0 fs0 _ (HF.out.below hB73 (Nat.le_refl _)) (by omega)).mono ?_
  rintro e x80 ⟨r83, rfl, hO84, hb81⟩
  rw [← HR.out] at hO84
  have HO85 := Lib.hid hO84
  obtain ⟨ra86, rc87, hr88⟩ := hO84.form
  clear hO84
  rw [hr88] at HO85
  rw [hr88]
  clear hr88
  have hB82 := Fd.Bl.next hB73 hb81
  have HL89 := Lib.hid (HO76.out.kept hb81)
  clear HO76
  clear hb81 hB73
  go_wp2_with fail
  refine (Fd.sameL_any _ _ R _ HL89.out.flds HO85.out.flds hRl).mono ?_
  rintro e x90 ⟨rfl, nd93, hw94⟩
  have hb91 := Fd.Bl.drewN' (Below.refl x80.heap.size _) hw94
  clear hw94
  have hB92 := Fd.Bl.next hB82 hb91
  have HL95 := Lib.hid (HL89.out.kept hb91)
  clear HL89
  have HL96 := Lib.hid (HO85.out.kept hb91)
  clear HO85
  clear hb91 hB82
  go_wp2_with fail
  go_ret
  exact ⟨rfl, hB92⟩

set_option maxHeartbeats 4000000 in
theorem walk (v0 : Value) (fs0 : List Fd.Fl) (a1 : ByteArray) (s1 : a1.size ≤ reachBytes) (a2 : ByteArray) (s2 : a2.size ≤ reachBytes) (w : World) (hT : Tk.Tab w) (f0 : Fd.Flds w v0 fs0) (l0 : fs0.length ≤ 140737488355328) (z0 : ∀ f ∈ fs0, f.1.size ≤ 140737488355328 ∧ f.2.size ≤ 140737488355328) :
    Calls Tryd.prog 4 #[v0, .string a1, .string a2] w fun e w' => e = .returned (.bool true) ∧ Below w.heap.size w w' := by
  unfold reachBytes at s1 s2
  cases hfw : Fd.fewB fs0 with
  | false =>
    have HF := Lib.hid f0
    have HFW := Lib.hid hfw
    have HZ := Lib.hid z0
    clear f0 hfw z0 hT
    go_enter Tryd.func4, Tryd.ntmps4
    go_wp2_with fail
    refine (Fd.few_any v0 fs0 _ HF.out l0 HZ.out).mono ?_
    rintro e x0 ⟨rfl, n, hx⟩
    rw [HFW.out]
    have hB := Fd.Bl.drewN' (Below.refl w.heap.size _) hx
    clear hx
    go_wp2_with fail
    go_ret
    exact ⟨rfl, hB⟩
  | true =>
    by_cases hs : a1.size + a2.size ≤ 2000
    · exact way v0 fs0 a1 a2 w hT f0 l0 z0 hfw hs
    · have HF := Lib.hid f0
      have HFW := Lib.hid hfw
      have HZ := Lib.hid z0
      have hd : decide ((2000 : Int) < (a1.size : Int) + (a2.size : Int)) = true := by rw [decide_eq_true_eq]; omega
      clear f0 hfw z0 hT
      go_enter Tryd.func4, Tryd.ntmps4
      go_wp2_with fail
      refine (Fd.few_any v0 fs0 _ HF.out l0 HZ.out).mono ?_
      rintro e x0 ⟨rfl, n, hx⟩
      rw [HFW.out]
      have hB := Fd.Bl.drewN' (Below.refl w.heap.size _) hx
      clear hx
      go_wp2_with fail
      go_ret
      exact ⟨rfl, hB⟩

theorem contract (H : Type) (enc : TypeId × Value → H) (W : World) (base : Nat) (args : Array Value) (ds gs : List (DataW H)) (before : List MemPlace)
    (hval : ∀ (j : Nat) t v, Tryd.f4.params[j]? = some t → args[j]? = some v → Value.okWide Tryd.prog W .any base t v)
    (hW : DataW.Whole enc Tryd.prog Tryd.f4.params.toList Rows.fieldGetsSpec.vars false W args.toList ds gs before) (ts : List TypeId) (hsz : (DataW.weightsEach Tryd.prog (Tryd.f4.params.toList ++ ts) (ds ++ gs)).all (· ≤ reachBytes) = true) (hL : laidMetH Tryd.prog Rows.fieldGetsRow.laid W) :
    Calls Tryd.prog 4 args W fun e W' => ∃ v, e = .returned v ∧ Rows.fieldGetsSpec.post enc Tryd.prog Tryd.f4 false true false false W args v W' := by
  have hW' := hW
  obtain ⟨p, q, hA0, hV, rfl, hfz, hnd⟩ := hW
  have hA : DataW.TrodAll enc Tryd.prog W 0 (fun _ => true) true Tryd.f4.params.toList args.toList ds p := hA0
  rw [Tryd.params4] at hA hval hsz
  obtain ⟨v0, vs0, d0, ds0, p0, q0, hargs, rfl, rfl, h0, r0⟩ := trodAll_cons hA
  obtain ⟨v1, vs1, d1, ds1, p1, q1, rfl, rfl, rfl, h1, r1⟩ := trodAll_cons r0
  obtain ⟨v2, vs2, d2, ds2, p2, q2, rfl, rfl, rfl, h2, r2⟩ := trodAll_cons r1
  obtain ⟨rfl, rfl, rfl⟩ := trodAll_nil r2
  have hw0 : ∀ n ∈ d0.weights Tryd.prog 25, n ≤ reachBytes := fun n hn => by simpa using List.all_eq_true.1 hsz n (DataW.weights_mem_each (j := 0) (t := 25) (d := d0) rfl rfl _ hn)
  have hw1 : ∀ n ∈ d1.weights Tryd.prog 9, n ≤ reachBytes := fun n hn => by simpa using List.all_eq_true.1 hsz n (DataW.weights_mem_each (j := 1) (t := 9) (d := d1) rfl rfl _ hn)
  have hw2 : ∀ n ∈ d2.weights Tryd.prog 9, n ≤ reachBytes := fun n hn => by simpa using List.all_eq_true.1 hsz n (DataW.weights_mem_each (j := 2) (t := 9) (d := d2) rfl rfl _ hn)
  obtain rfl : args = #[v0, v1, v2] := by cases args; simp_all
  obtain ⟨rfl, rfl⟩ := trodVars_none hV
  have k0 := h0
  have lt0 : ∀ x ∈ p0, x.block < W.heap.size := by obtain ⟨m, hm⟩ := k0; exact DataW.trod_lt m _ _ _ hm
  obtain ⟨fs0, f0, l0, z0⟩ := Fd.open_flds (hval 0 25 v0 rfl rfl) h0 hw0
  obtain ⟨a1, rfl, rfl, rfl, w1⟩ := open_string Tryd.underlying9 (hval 1 9 v1 rfl rfl) h1
  have s1 : a1.size ≤ reachBytes := by simpa [DataW.weights] using hw1
  obtain ⟨a2, rfl, rfl, rfl, w2⟩ := open_string Tryd.underlying9 (hval 2 9 v2 rfl rfl) h2
  have s2 : a2.size ≤ reachBytes := by simpa [DataW.weights] using hw2
  clear hA0
  simp only [List.append_nil] at hW'
  refine (walk v0 fs0 a1 s1 a2 s2 W (Tb.tok_of_head hL) f0 l0 z0).mono fun e W' ⟨he, bel⟩ => ?_
  subst he
  exact ⟨_, rfl, _, _, _, [], _, [], hW', trodAll_mk1 (shut_bool Tryd.underlying4 _), (trodAll_cons_mk (Below.trod Tb.laidOut (by kernel_rfl) (of_decide_eq_true (by kernel_rfl)) k0 bel lt0) (trodAll_cons_mk (shut_string Tryd.underlying9 w1) (trodAll_cons_mk (shut_string Tryd.underlying9 w2) trodAll_mk0))), rfl, bel.frame _, fun h => by cases h⟩

theorem laid_met (os : Os) : laidMet Tryd.prog Rows.fieldGetsRow.laid ((Tb.laidWorld os).forCall (fun _ _ => 0) ⟨#[], #[.slice none 0 0, .string ByteArray.empty, .string ByteArray.empty], []⟩).memory :=
  laidMet_of_run' 8 (by kernel_rfl) (by kernel_rfl)
theorem reads (os : Os) {H : Type} (enc : TypeId × Value → H) : ∃ places, DataW.whole enc Tryd.prog ((Tb.laidWorld os).forCall (fun _ _ => 0) ⟨#[], #[.slice none 0 0, .string ByteArray.empty, .string ByteArray.empty], []⟩).memory Tryd.f4.params.toList Rows.fieldGetsSpec.vars false (#[.slice none 0 0, .string ByteArray.empty, .string ByteArray.empty] : Array Value).toList 8 = some ([.nil, .lit (.string []), .lit (.string [])], [], places) :=
  ⟨[], by kernel_rfl⟩

set_option maxRecDepth 100000 in
theorem lifted (os : Os) (started : os.Started) (H : Type) (enc : TypeId × Value → H) (F : Stop.Interp) :
    ReturnsInHanded {} Tryd.checked os 4 .any ((OpenSpec.ofChange Rows.fieldGetsSpec).preRow enc Tryd.prog Tryd.f4 Rows.fieldGetsRow.domain false Rows.fieldGetsRow.laid) (((OpenSpec.ofChange Rows.fieldGetsSpec).at F).post enc Tryd.prog Tryd.f4 false true false false) := by
  obtain ⟨places, hx⟩ := reads os enc
  refine returnsInHanded_of_row (C := Tryd.checked) (s := OpenSpec.ofChange Rows.fieldGetsSpec) Tb.own started (by kernel_rfl) Tryd.func4
    (witness_row_at (enc := enc) (C := Tryd.checked) false (Tb.laidWorld os) #[.slice none 0 0, .string ByteArray.empty, .string ByteArray.empty] rfl (by kernel_rfl) (by kernel_rfl) (by kernel_rfl)
      (OpenSpec.preRow_of_cond 8 hx (by kernel_rfl) (fun k hk => by cases hk) (by kernel_rfl) (laid_met os))) ?_
  intro W base args ds gs before hval hW _ _ hsz hL _ _
  exact contract H enc W base args ds gs before hval hW _ hsz hL

theorem said : Rows.FieldGetsSaid :=
  OpenClaim.holds_of_cond 4 Tryd.f4 rfl rfl rfl rfl rfl rfl rfl ⟨rfl, rfl, rfl, rfl, rfl⟩ rfl rfl rfl rfl rfl (by kernel_rfl) Tryd.func4 (by kernel_rfl)
    (of_decide_eq_true (by kernel_rfl)) (by unfold Func.isWrapper; first | (rw [if_pos (by decide +kernel)]; kernel_rfl) | (rw [if_neg (by decide +kernel)]; exact ⟨rfl, rfl⟩))
    (fun os started H enc _ F => by rw [OpenClaim.pre_eq_preRow]; exact lifted os started H enc F)

theorem plain (f : FuncId) (fn : Func) (hf : Tryd.pinned.checked.prog.funcNamed "gatepost/gatepostlaw04.FieldGets" = some f) (hfn : Tryd.pinned.checked.prog.funcs[f]? = some fn) :
    false = Tryd.pinned.checked.prog.looks [] ∧ ∀ (j : Nat) t, fn.params[j]? = some t → Tryd.pinned.checked.prog.wantsStandIn t = false := by
  obtain rfl : f = 4 := Option.some.inj ((show Tryd.prog.funcNamed "gatepost/gatepostlaw04.FieldGets" = some 4 by kernel_rfl).symm.trans hf) |>.symm
  obtain rfl : fn = Tryd.f4 := (Option.some.inj (Tryd.func4.symm.trans hfn)).symm
  refine ⟨by kernel_rfl, fun j t ht => ?_⟩
  rw [Tryd.params4] at ht
  have hm := Array.mem_of_getElem? ht
  simp at hm
  rcases hm with rfl | rfl
  · exact (show Tryd.prog.wantsStandIn 25 = false by kernel_rfl)
  · exact (show Tryd.prog.wantsStandIn 9 = false by kernel_rfl)

theorem card : Rows.FieldGetsCardSaid :=
  Claim7.holds_tied_plain_at .later [] _ _ _ _ said (fun _ h => by cases h) (by kernel_rfl) (fun _ h => by cases h) fieldGets_row_tie rfl ⟨rfl, rfl⟩ (by kernel_rfl) rfl plain (by kernel_rfl)
end Go.Proofs.YtacnlohfipcbdaaDoor.fieldGets
