/-
  FieldStrips: what is for one connection alone is taken away, whatever its letters; what Connection does not name stays; and it can be done again without a change.
  Conditions: the listed tables hold what the program's text lays (the card ties them).
-/
import Derived.Test.YtacnlohfipcbdaaDoorTabs
import Derived.Test.YtacnlohfipcbdaaDoorFdOpen
import Derived.SizedLaws
import Derived.Carry
import Derived.Test.YtacnlohfipcbdaaDoorFdOpen2
import Derived.Test.YtacnlohfipcbdaaDoorFdRefStrip
import Derived.Test.YtacnlohfipcbdaaDoorFdSame
import Derived.WideKeyPair
namespace Go.Proofs.YtacnlohfipcbdaaDoor.fieldStrips
open Go.ChangeShapes Go.WideShapes Go.ChangeAt Go.RowKit
open Go.ChangeMaps (open_string shut_string)
set_option linter.unusedVariables false

theorem few_small {fs : List Fd.Fl} (h : Fd.fewB fs = true) : Fd.tot fs < 4000 := by unfold Fd.fewB at h; exact of_decide_eq_true h
theorem flds_four {w : World} {g : Nat} (h : w.heap[g]? = some (.cells #[.string ⟨#[65]⟩, .string ⟨#[49]⟩, .string ⟨#[99, 111, 110, 110, 101, 99, 116, 105, 111, 110]⟩, .string ⟨#[98, 44, 32, 97]⟩, .string ⟨#[66]⟩, .string ⟨#[50]⟩, .string ⟨#[67]⟩, .string ⟨#[51]⟩] 23 (0, 0))) : Fd.Flds w (.slice (some ⟨g, 0, none⟩) 4 4) Fd.four := by
  refine .inr ⟨_, 0, 4, rfl, Fd.block_lt h, fun j hj => ?_⟩
  have hj' : j < 4 := hj
  have hc := fun i => Lib.cell_of_heap h i
  rcases (by omega : j = 0 ∨ j = 1 ∨ j = 2 ∨ j = 3) with rfl | rfl | rfl | rfl
  · exact ⟨hc 0, hc 1⟩
  · exact ⟨hc 2, hc 3⟩
  · exact ⟨hc 4, hc 5⟩
  · exact ⟨hc 6, hc 7⟩
theorem idx (a : Int) : ∃ j : Nat, j < 7 ∧ -6 ≤ a.tmod 7 ∧ a.tmod 7 ≤ 6 ∧ (a.tmod 7 + 7) % 7 = (j : Int) := by
  have h1 : -6 ≤ a.tmod 7 ∧ a.tmod 7 ≤ 6 := by
    have h2 := Int.tmod_lt_of_pos a (b := 7) (by omega)
    have h3 := Int.lt_tmod_of_pos a (b := 7) (by omega)
    omega
  exact ⟨((a.tmod 7 + 7) % 7).toNat, by omega, h1.1, h1.2, by omega⟩
theorem one_field {w : World} {base : Nat} {v : Value} {x y : ByteArray} (h : Fd.OwnF w base v [(x, y)]) : ∃ g cap, v = .slice (some ⟨g, 0, none⟩) 1 cap ∧ w.cell? ⟨g, 0, none⟩ = some (.string x) := by
  rcases h.2 with ⟨_, h0⟩ | ⟨g, cap, cur, hv, _⟩
  · simp at h0
  · have h' : w.ownsRow base 23 2 (.slice (some ⟨g, 0, none⟩) 1 cap) 1 (Fd.flat [(x, y)]) := by have e : v = .slice (some ⟨g, 0, none⟩) 1 cap := hv; rw [← e]; exact h
    exact ⟨g, cap, hv, by rw [h'.cellAt 0 (by omega)]; rfl⟩

/-- What the choice of a name leaves. -/
def Chosen (w : World) (s : Value) (wx : World) : Prop := ∃ x : ByteArray, s = .string x ∧ x.size ≤ 100 ∧ Tk.lower x.data.toList ∈ Fd.sevenL ∧ Below w.heap.size w wx

set_option maxHeartbeats 8000000 in
theorem way_nil (fs0 : List Fd.Fl) (a1 : Int) (w : World) (hT : Tk.Tab w) (f0 : Fd.Flds w (.slice none 0 0) fs0) (l0 : fs0.length ≤ 140737488355328) (z0 : ∀ f ∈ fs0, f.1.size ≤ 140737488355328 ∧ f.2.size ≤ 140737488355328) (hfw : Fd.fewB fs0 = true) :
    Calls Tryd.prog 6 #[(.slice none 0 0), .int .i64 a1] w fun e w' => e = .returned (.bool true) ∧ Below w.heap.size w w' := by
  have hlen := Fd.flds_len f0
  have HF := Lib.hid f0
  have HFW := Lib.hid hfw
  have HZ := Lib.hid z0
  have hts := few_small hfw
  have htl := Fd.tot_len fs0
  have HT := Lib.hid hT
  have hg := hT.lt
  obtain ⟨j, hj, hj1, hj2, hj3⟩ := idx a1
  obtain ⟨t, ht⟩ : ∃ t, t = a1.tmod 7 := ⟨_, rfl⟩
  rw [← ht] at hj1 hj2 hj3
  have hfs : fs0 = [] := List.length_eq_zero_iff.1 hlen.symm
  have HLEN := Lib.hid hlen
  clear hlen
  obtain ⟨i0, hi, hz0, hz1, hz2⟩ := info_parts Fd.infoField
  clear f0 hfw z0 hT
  go_enter Tryd.func6, Tryd.ntmps6
  go_wp2_with fail
  refine (Fd.few_any (.slice none 0 0) fs0 _ HF.out l0 HZ.out).mono ?_
  rintro e x1 ⟨rfl, nd4, hw5⟩
  have hb2 := Fd.Bl.drewN' (Below.refl w.heap.size _) hw5
  clear hw5
  rw [HFW.out]
  have hB3 := hb2
  clear hb2
  have hBR := hB3.alloc hB3.size (.cells #[.string ⟨#[67, 111, 110, 110, 101, 99, 116, 105, 111, 110]⟩, .string ⟨#[75, 69, 69, 80, 45, 65, 76, 73, 86, 69]⟩, .string ⟨#[116, 101]⟩, .string ⟨#[84, 114, 97, 105, 108, 101, 114]⟩, .string ⟨#[116, 114, 97, 110, 115, 102, 101, 114, 45, 69, 110, 99, 111, 100, 105, 110, 103]⟩, .string ⟨#[117, 112, 103, 114, 97, 100, 101]⟩, .string ⟨#[80, 114, 111, 120, 121, 45, 67, 111, 110, 110, 101, 99, 116, 105, 111, 110]⟩] 9)
  go_upto_region 4 with fail
  go_cut [6] (fun s6 wx => Chosen w s6 wx)
  case first =>
    have ht2 := ht.symm
    clear ht
    rcases (by omega : j = 0 ∨ j = 1 ∨ j = 2 ∨ j = 3 ∨ j = 4 ∨ j = 5 ∨ j = 6) with rfl | rfl | rfl | rfl | rfl | rfl | rfl
    all_goals
      go_wp2_with fail
      go_meet
      exact ⟨_, rfl, by decide, by decide +kernel, hBR⟩
  case rest =>
    obtain ⟨x, rfl, hxs, hxm, hBx⟩ := hcut
    have HXM := Lib.hid hxm
    have hszx := hBx.size
    clear hxm hBR ht hj hj1 hj2 hj3
    have hB0 := hBx.alloc hszx (.cells #[] 23)
    have HR0 := Lib.hid (show (wc.alloc (.cells #[] 23)).ownsRow w.heap.size 23 2 (.slice (some ⟨wc.heap.size, 0, none⟩) 0 0) 0 (#[] : Array Value).toList from World.ownsRow_lit (base := w.heap.size) (e := 23) (size := 2) wc #[] 0 hszx (by unfold maxLen; omega) rfl)
    have HR1 := Lib.hid (Fd.owns_kept HR0.out ((Below.refl _ _).alloc (Nat.le_refl _) (.cells #[.string x, .string ⟨#[122, 122]⟩] 23)))
    have HN1 := Lib.hid (Fd.news_at (Fd.new_block' (wc.alloc (.cells #[] 23)) (.cells #[.string x, .string ⟨#[122, 122]⟩] 23) (g := wc.heap.size + 1) (by simp)))
    have hB1 := hB0.alloc hB0.size (.cells #[.string x, .string ⟨#[122, 122]⟩] 23)
    go_wp2_with (first | (at_builtin; refine wpList_append_own_none _ rfl _ _ 25 rfl w.heap.size 23 i0 2 Tryd.underlying25 hi _ 0 [] rfl HR0.out rfl ?_) | (at_builtin; refine wpList_append_own _ rfl _ _ 25 rfl w.heap.size 23 i0 (.agg #[.string ⟨#[]⟩, .string ⟨#[]⟩]) 2 32 Tryd.underlying25 hi hz0 hz1 hz2 rfl (by decide) _ _ _ rfl HR1.out ⟨wc.heap.size + 1, 0, none⟩ 1 1 [.string x, .string ⟨#[122, 122]⟩] rfl rfl HN1.out (Fd.one_cells x _) (by unfold maxLen; omega) (by omega) (by simp; omega) ?_; intro v2 w2 hown2 hgrow2 hnil2))
    have hB2 := hB1.grown hgrow2 hB1.size (fun q hq => (World.ownsRow.lt HR1.out q hq).1)
    have HO2 := Lib.hid (show Fd.OwnF w2 w.heap.size v2 (fs0 ++ [(x, ⟨#[122, 122]⟩)]) from by rw [hfs]; exact hown2)
    clear HR1 HN1 hB1 hB0 HR0
    clear hown2 hgrow2 hnil2 hBx hszx
    have hta := Fd.tot_append fs0 [(x, (⟨#[122, 122]⟩ : ByteArray))]
    have ht1 : Fd.tot [(x, (⟨#[122, 122]⟩ : ByteArray))] = x.size + 2 + 1 := by simp [Fd.tot]; rfl
    obtain ⟨F1, hF1⟩ : ∃ F1, F1 = fs0 ++ [(x, (⟨#[122, 122]⟩ : ByteArray))] := ⟨_, rfl⟩
    rw [← hF1] at HO2 hta
    have htF : Fd.tot F1 ≤ 262144 := by omega
    clear hF1 hta ht1
    obtain ⟨S, hS⟩ : ∃ S, S = Fd.stripF F1 := ⟨_, rfl⟩
    have HS := Lib.hid hS
    have htS : Fd.tot S ≤ 262144 := by rw [hS]; exact Nat.le_trans (Fd.tot_strip F1) htF
    have HSS := Lib.hid (show Fd.stripF S = S from by rw [hS]; exact Fd.strip_strip F1)
    have hSl : S.length ≤ 1099511627776 := by have := Fd.tot_len S; omega
    have HGX := Lib.hid (show Fd.getVal S x.data.toList = .tuple #[.string ⟨#[]⟩, .int .i64 0] from by unfold Fd.getVal; rw [hS, (Fd.strip_get HXM.out).1, (Fd.strip_get HXM.out).2]; rfl)
    clear hS
    refine (Fd.strip_any v2 F1 _ HO2.out.flds htF (HT.out.below hB2 hg)).mono ?_
    rintro e x6 ⟨r9, rfl, hO10, hb7⟩
    rw [← HS.out] at hO10
    have HO11 := Lib.hid hO10
    obtain ⟨ra12, rc13, hr14⟩ := hO10.form
    clear hO10
    rw [hr14] at HO11
    rw [hr14]
    clear hr14
    have hB8 := Fd.Bl.next hB2 hb7
    have HL15 := Lib.hid (HO2.out.kept hb7)
    clear HO2
    clear hb7 hB2
    go_wp2_with fail
    refine (Fd.get_any _ S x _ HO11.out.flds (by omega) (by unfold maxLen; omega)).mono ?_
    rintro e x16 ⟨rfl, hb17⟩
    rw [HGX.out]
    have hB18 := Fd.Bl.next hB8 hb17
    have HL19 := Lib.hid (HO11.out.kept hb17)
    clear HO11
    clear hb17 hB8
    go_wp2_with fail
    refine (Fd.strip_any _ S _ HL19.out.flds htS (HT.out.below hB18 hg)).mono ?_
    rintro e x20 ⟨r23, rfl, hO24, hb21⟩
    rw [HSS.out] at hO24
    have HO25 := Lib.hid hO24
    obtain ⟨ra26, rc27, hr28⟩ := hO24.form
    clear hO24
    rw [hr28] at HO25
    rw [hr28]
    clear hr28
    have hB22 := Fd.Bl.next hB18 hb21
    have HL29 := Lib.hid (HL19.out.kept hb21)
    clear HL19
    clear hb21 hB18
    go_wp2_with fail
    refine (Fd.sameL_any _ _ S _ HO25.out.flds HL29.out.flds hSl).mono ?_
    rintro e x30 ⟨rfl, nd33, hw34⟩
    have hb31 := Fd.Bl.drewN' (Below.refl x20.heap.size _) hw34
    clear hw34
    have hB32 := Fd.Bl.next hB22 hb31
    have HL35 := Lib.hid (HL29.out.kept hb31)
    clear HL29
    have HL36 := Lib.hid (HO25.out.kept hb31)
    clear HO25
    clear hb31 hB22
    have HF4 := Lib.hid (flds_four (Fd.new_block x30 (.cells #[.string ⟨#[65]⟩, .string ⟨#[49]⟩, .string ⟨#[99, 111, 110, 110, 101, 99, 116, 105, 111, 110]⟩, .string ⟨#[98, 44, 32, 97]⟩, .string ⟨#[66]⟩, .string ⟨#[50]⟩, .string ⟨#[67]⟩, .string ⟨#[51]⟩] 23)))
    have hB37 := hB32.alloc hB32.size (.cells #[.string ⟨#[65]⟩, .string ⟨#[49]⟩, .string ⟨#[99, 111, 110, 110, 101, 99, 116, 105, 111, 110]⟩, .string ⟨#[98, 44, 32, 97]⟩, .string ⟨#[66]⟩, .string ⟨#[50]⟩, .string ⟨#[67]⟩, .string ⟨#[51]⟩] 23)
    go_wp2_with fail
    refine (Fd.strip_any _ Fd.four _ HF4.out (by decide +kernel) (HT.out.below hB37 hg)).mono ?_
    rintro e x9 ⟨r9, rfl, hO9, hb9⟩
    rw [Fd.strip_four] at hO9
    obtain ⟨g9, c9, h9, hc9⟩ := one_field hO9
    rw [h9]
    have hB9 := Fd.Bl.next hB37 hb9
    clear h9 hO9 hb9
    go_wp2_with fail
    go_ret
    exact ⟨rfl, hB9⟩

set_option maxHeartbeats 8000000 in
theorem way_some (a : Addr) (n0 c0 : Nat) (fs0 : List Fd.Fl) (a1 : Int) (w : World) (hT : Tk.Tab w) (f0 : Fd.Flds w (.slice (some a) n0 c0) fs0) (l0 : fs0.length ≤ 140737488355328) (z0 : ∀ f ∈ fs0, f.1.size ≤ 140737488355328 ∧ f.2.size ≤ 140737488355328) (hfw : Fd.fewB fs0 = true) :
    Calls Tryd.prog 6 #[(.slice (some a) n0 c0), .int .i64 a1] w fun e w' => e = .returned (.bool true) ∧ Below w.heap.size w w' := by
  have hlen := Fd.flds_len f0
  have HF := Lib.hid f0
  have HFW := Lib.hid hfw
  have HZ := Lib.hid z0
  have hts := few_small hfw
  have htl := Fd.tot_len fs0
  have HT := Lib.hid hT
  have hg := hT.lt
  obtain ⟨j, hj, hj1, hj2, hj3⟩ := idx a1
  obtain ⟨t, ht⟩ : ∃ t, t = a1.tmod 7 := ⟨_, rfl⟩
  rw [← ht] at hj1 hj2 hj3
  have hn0 : n0 ≤ 4000 := by omega
  have HLEN := Lib.hid hlen
  clear hlen
  obtain ⟨i0, hi, hz0, hz1, hz2⟩ := info_parts Fd.infoField
  clear f0 hfw z0 hT
  go_enter Tryd.func6, Tryd.ntmps6
  go_wp2_with fail
  refine (Fd.few_any (.slice (some a) n0 c0) fs0 _ HF.out l0 HZ.out).mono ?_
  rintro e x1 ⟨rfl, nd4, hw5⟩
  have hb2 := Fd.Bl.drewN' (Below.refl w.heap.size _) hw5
  clear hw5
  rw [HFW.out]
  have hB3 := hb2
  clear hb2
  have hBR := hB3.alloc hB3.size (.cells #[.string ⟨#[67, 111, 110, 110, 101, 99, 116, 105, 111, 110]⟩, .string ⟨#[75, 69, 69, 80, 45, 65, 76, 73, 86, 69]⟩, .string ⟨#[116, 101]⟩, .string ⟨#[84, 114, 97, 105, 108, 101, 114]⟩, .string ⟨#[116, 114, 97, 110, 115, 102, 101, 114, 45, 69, 110, 99, 111, 100, 105, 110, 103]⟩, .string ⟨#[117, 112, 103, 114, 97, 100, 101]⟩, .string ⟨#[80, 114, 111, 120, 121, 45, 67, 111, 110, 110, 101, 99, 116, 105, 111, 110]⟩] 9)
  go_upto_region 4 with fail
  go_cut [6] (fun s6 wx => Chosen w s6 wx)
  case first =>
    have ht2 := ht.symm
    clear ht
    rcases (by omega : j = 0 ∨ j = 1 ∨ j = 2 ∨ j = 3 ∨ j = 4 ∨ j = 5 ∨ j = 6) with rfl | rfl | rfl | rfl | rfl | rfl | rfl
    all_goals
      go_wp2_with fail
      go_meet
      exact ⟨_, rfl, by decide, by decide +kernel, hBR⟩
  case rest =>
    obtain ⟨x, rfl, hxs, hxm, hBx⟩ := hcut
    have HXM := Lib.hid hxm
    have hszx := hBx.size
    clear hxm hBR ht hj hj1 hj2 hj3
    have hB0 := hBx.alloc hszx (.cells #[] 23)
    have HR0 := Lib.hid (show (wc.alloc (.cells #[] 23)).ownsRow w.heap.size 23 2 (.slice (some ⟨wc.heap.size, 0, none⟩) 0 0) 0 (#[] : Array Value).toList from World.ownsRow_lit (base := w.heap.size) (e := 23) (size := 2) wc #[] 0 hszx (by unfold maxLen; omega) rfl)
    have HN0 := Lib.hid (Fd.flds_news (HF.out.below hB0 (Nat.le_refl _)))
    have HFL := Lib.hid (show (Fd.flat fs0).length = n0 * 2 from by rw [Fd.flat_length, HLEN.out])
    have HF1 := Lib.hid (fun u hu => Fd.flat_one fs0 u hu)
    go_wp2_with (first | (at_builtin; refine wpList_append_own _ rfl _ _ 25 rfl w.heap.size 23 i0 (.agg #[.string ⟨#[]⟩, .string ⟨#[]⟩]) 2 32 Tryd.underlying25 hi hz0 hz1 hz2 rfl (by decide) _ _ _ rfl HR0.out a n0 c0 (Fd.flat fs0) rfl HFL.out HN0.out HF1.out (by unfold maxLen; omega) (by omega) hB0.size ?_; intro v1 w1 hown1 hgrow1 hnil1) | (at_builtin; refine wpList_append_own _ rfl _ _ 25 rfl w.heap.size 23 i0 (.agg #[.string ⟨#[]⟩, .string ⟨#[]⟩]) 2 32 Tryd.underlying25 hi hz0 hz1 hz2 rfl (by decide) _ _ _ rfl (Fd.owns_kept hown1 ((Below.refl _ _).alloc (Nat.le_refl _) (.cells #[.string x, .string ⟨#[122, 122]⟩] 23))) ⟨w1.heap.size, 0, none⟩ 1 1 [.string x, .string ⟨#[122, 122]⟩] rfl rfl (Fd.news_at (Fd.new_block w1 (.cells #[.string x, .string ⟨#[122, 122]⟩] 23))) (Fd.one_cells x _) (by unfold maxLen; omega) (by omega) (by have := hgrow1.size; simp at this ⊢; omega) ?_; intro v2 w2 hown2 hgrow2 hnil2))
    have hB1 := (hB0.grown hgrow1 hB0.size (fun q hq => (World.ownsRow.lt HR0.out q hq).1))
    have hB1' := hB1.alloc hB1.size (.cells #[.string x, .string ⟨#[122, 122]⟩] 23)
    have hB2 := hB1'.grown hgrow2 hB1'.size (fun q hq => (World.ownsRow.lt hown1 q hq).1)
    have HO2 := Lib.hid (show Fd.OwnF w2 w.heap.size v2 (fs0 ++ [(x, ⟨#[122, 122]⟩)]) from by unfold Fd.OwnF; rw [Fd.flat_snoc, List.length_append]; have h := hown2; rw [List.nil_append, Nat.zero_add, HLEN.out] at h; exact h)
    clear hown1 hgrow1 hnil1 hB1 hB1' hB0 HR0 HN0 HFL HF1
    clear hown2 hgrow2 hnil2 hBx hszx
    have hta := Fd.tot_append fs0 [(x, (⟨#[122, 122]⟩ : ByteArray))]
    have ht1 : Fd.tot [(x, (⟨#[122, 122]⟩ : ByteArray))] = x.size + 2 + 1 := by simp [Fd.tot]; rfl
    obtain ⟨F1, hF1⟩ : ∃ F1, F1 = fs0 ++ [(x, (⟨#[122, 122]⟩ : ByteArray))] := ⟨_, rfl⟩
    rw [← hF1] at HO2 hta
    have htF : Fd.tot F1 ≤ 262144 := by omega
    clear hF1 hta ht1
    obtain ⟨S, hS⟩ : ∃ S, S = Fd.stripF F1 := ⟨_, rfl⟩
    have HS := Lib.hid hS
    have htS : Fd.tot S ≤ 262144 := by rw [hS]; exact Nat.le_trans (Fd.tot_strip F1) htF
    have HSS := Lib.hid (show Fd.stripF S = S from by rw [hS]; exact Fd.strip_strip F1)
    have hSl : S.length ≤ 1099511627776 := by have := Fd.tot_len S; omega
    have HGX := Lib.hid (show Fd.getVal S x.data.toList = .tuple #[.string ⟨#[]⟩, .int .i64 0] from by unfold Fd.getVal; rw [hS, (Fd.strip_get HXM.out).1, (Fd.strip_get HXM.out).2]; rfl)
    clear hS
    refine (Fd.strip_any v2 F1 _ HO2.out.flds htF (HT.out.below hB2 hg)).mono ?_
    rintro e x6 ⟨r9, rfl, hO10, hb7⟩
    rw [← HS.out] at hO10
    have HO11 := Lib.hid hO10
    obtain ⟨ra12, rc13, hr14⟩ := hO10.form
    clear hO10
    rw [hr14] at HO11
    rw [hr14]
    clear hr14
    have hB8 := Fd.Bl.next hB2 hb7
    have HL15 := Lib.hid (HO2.out.kept hb7)
    clear HO2
    clear hb7 hB2
    go_wp2_with fail
    refine (Fd.get_any _ S x _ HO11.out.flds (by omega) (by unfold maxLen; omega)).mono ?_
    rintro e x16 ⟨rfl, hb17⟩
    rw [HGX.out]
    have hB18 := Fd.Bl.next hB8 hb17
    have HL19 := Lib.hid (HO11.out.kept hb17)
    clear HO11
    clear hb17 hB8
    go_wp2_with fail
    refine (Fd.strip_any _ S _ HL19.out.flds htS (HT.out.below hB18 hg)).mono ?_
    rintro e x20 ⟨r23, rfl, hO24, hb21⟩
    rw [HSS.out] at hO24
    have HO25 := Lib.hid hO24
    obtain ⟨ra26, rc27, hr28⟩ := hO24.form
    clear hO24
    rw [hr28] at HO25
    rw [hr28]
    clear hr28
    have hB22 := Fd.Bl.next hB18 hb21
    have HL29 := Lib.hid (HL19.out.kept hb21)
    clear HL19
    clear hb21 hB18
    go_wp2_with fail
    refine (Fd.sameL_any _ _ S _ HO25.out.flds HL29.out.flds hSl).mono ?_
    rintro e x30 ⟨rfl, nd33, hw34⟩
    have hb31 := Fd.Bl.drewN' (Below.refl x20.heap.size _) hw34
    clear hw34
    have hB32 := Fd.Bl.next hB22 hb31
    have HL35 := Lib.hid (HL29.out.kept hb31)
    clear HL29
    have HL36 := Lib.hid (HO25.out.kept hb31)
    clear HO25
    clear hb31 hB22
    have HF4 := Lib.hid (flds_four (Fd.new_block x30 (.cells #[.string ⟨#[65]⟩, .string ⟨#[49]⟩, .string ⟨#[99, 111, 110, 110, 101, 99, 116, 105, 111, 110]⟩, .string ⟨#[98, 44, 32, 97]⟩, .string ⟨#[66]⟩, .string ⟨#[50]⟩, .string ⟨#[67]⟩, .string ⟨#[51]⟩] 23)))
    have hB37 := hB32.alloc hB32.size (.cells #[.string ⟨#[65]⟩, .string ⟨#[49]⟩, .string ⟨#[99, 111, 110, 110, 101, 99, 116, 105, 111, 110]⟩, .string ⟨#[98, 44, 32, 97]⟩, .string ⟨#[66]⟩, .string ⟨#[50]⟩, .string ⟨#[67]⟩, .string ⟨#[51]⟩] 23)
    go_wp2_with fail
    refine (Fd.strip_any _ Fd.four _ HF4.out (by decide +kernel) (HT.out.below hB37 hg)).mono ?_
    rintro e x9 ⟨r9, rfl, hO9, hb9⟩
    rw [Fd.strip_four] at hO9
    obtain ⟨g9, c9, h9, hc9⟩ := one_field hO9
    rw [h9]
    have hB9 := Fd.Bl.next hB37 hb9
    clear h9 hO9 hb9
    go_wp2_with fail
    go_ret
    exact ⟨rfl, hB9⟩

set_option maxHeartbeats 4000000 in
theorem walk (v0 : Value) (fs0 : List Fd.Fl) (a1 : Int) (_w1 : (Lit.int .i64 a1).wf = true) (w : World) (hT : Tk.Tab w) (f0 : Fd.Flds w v0 fs0) (l0 : fs0.length ≤ 140737488355328) (z0 : ∀ f ∈ fs0, f.1.size ≤ 140737488355328 ∧ f.2.size ≤ 140737488355328) (n0 : Fd.Shape v0) :
    Calls Tryd.prog 6 #[v0, .int .i64 a1] w fun e w' => e = .returned (.bool true) ∧ Below w.heap.size w w' := by
  cases hfw : Fd.fewB fs0 with
  | false =>
    have HF := Lib.hid f0
    have HFW := Lib.hid hfw
    have HZ := Lib.hid z0
    clear f0 hfw z0 hT n0
    go_enter Tryd.func6, Tryd.ntmps6
    go_wp2_with fail
    refine (Fd.few_any v0 fs0 _ HF.out l0 HZ.out).mono ?_
    rintro e x0 ⟨rfl, n, hx⟩
    rw [HFW.out]
    have hB := Fd.Bl.drewN' (Below.refl w.heap.size _) hx
    clear hx
    go_wp2_with fail
    go_ret
    exact ⟨rfl, hB⟩
  | true =>
    rcases n0 with rfl | ⟨a, n, c, rfl⟩
    · exact way_nil fs0 a1 w hT f0 l0 z0 hfw
    · exact way_some a n c fs0 a1 w hT f0 l0 z0 hfw

theorem contract (H : Type) (enc : TypeId × Value → H) (W : World) (base : Nat) (args : Array Value) (ds gs : List (DataW H)) (before : List MemPlace)
    (hval : ∀ (j : Nat) t v, Tryd.f6.params[j]? = some t → args[j]? = some v → Value.okWide Tryd.prog W .any base t v)
    (hW : DataW.Whole enc Tryd.prog Tryd.f6.params.toList Rows.fieldStripsSpec.vars false W args.toList ds gs before) (ts : List TypeId) (hsz : (DataW.weightsEach Tryd.prog (Tryd.f6.params.toList ++ ts) (ds ++ gs)).all (· ≤ reachBytes) = true) (hL : laidMetH Tryd.prog Rows.fieldStripsRow.laid W) :
    Calls Tryd.prog 6 args W fun e W' => ∃ v, e = .returned v ∧ Rows.fieldStripsSpec.post enc Tryd.prog Tryd.f6 false true false false W args v W' := by
  have hW' := hW
  obtain ⟨p, q, hA0, hV, rfl, hfz, hnd⟩ := hW
  have hA : DataW.TrodAll enc Tryd.prog W 0 (fun _ => true) true Tryd.f6.params.toList args.toList ds p := hA0
  rw [Tryd.params6] at hA hval hsz
  obtain ⟨v0, vs0, d0, ds0, p0, q0, hargs, rfl, rfl, h0, r0⟩ := trodAll_cons hA
  obtain ⟨v1, vs1, d1, ds1, p1, q1, rfl, rfl, rfl, h1, r1⟩ := trodAll_cons r0
  obtain ⟨rfl, rfl, rfl⟩ := trodAll_nil r1
  have hw0 : ∀ n ∈ d0.weights Tryd.prog 25, n ≤ reachBytes := fun n hn => by simpa using List.all_eq_true.1 hsz n (DataW.weights_mem_each (j := 0) (t := 25) (d := d0) rfl rfl _ hn)
  obtain rfl : args = #[v0, v1] := by cases args; simp_all
  obtain ⟨rfl, rfl⟩ := trodVars_none hV
  have k0 := h0
  have lt0 : ∀ x ∈ p0, x.block < W.heap.size := by obtain ⟨m, hm⟩ := k0; exact DataW.trod_lt m _ _ _ hm
  obtain ⟨fs0, f0, l0, z0⟩ := Fd.open_flds (hval 0 25 v0 rfl rfl) h0 hw0
  have n0 := Fd.open_shape (hval 0 25 v0 rfl rfl) k0
  obtain ⟨a1, rfl, rfl, rfl, w1⟩ := open_int Tryd.underlying3 (hval 1 3 v1 rfl rfl) h1
  clear hA0
  simp only [List.append_nil] at hW'
  refine (walk v0 fs0 a1 w1 W (Tb.tok_of_head hL) f0 l0 z0 n0).mono fun e W' ⟨he, bel⟩ => ?_
  subst he
  exact ⟨_, rfl, _, _, _, [], _, [], hW', trodAll_mk1 (shut_bool Tryd.underlying4 _), (trodAll_cons_mk (Below.trod Tb.laidOut (by kernel_rfl) (of_decide_eq_true (by kernel_rfl)) k0 bel lt0) (trodAll_cons_mk (shut_int Tryd.underlying3 w1) trodAll_mk0)), rfl, bel.frame _, fun h => by cases h⟩

theorem laid_met (os : Os) : laidMet Tryd.prog Rows.fieldStripsRow.laid ((Tb.laidWorld os).forCall (fun _ _ => 0) ⟨#[], #[.slice none 0 0, .int .i64 0], []⟩).memory :=
  laidMet_of_run' 8 (by kernel_rfl) (by kernel_rfl)
theorem reads (os : Os) {H : Type} (enc : TypeId × Value → H) : ∃ places, DataW.whole enc Tryd.prog ((Tb.laidWorld os).forCall (fun _ _ => 0) ⟨#[], #[.slice none 0 0, .int .i64 0], []⟩).memory Tryd.f6.params.toList Rows.fieldStripsSpec.vars false (#[.slice none 0 0, .int .i64 0] : Array Value).toList 8 = some ([.nil, .lit (.int .i64 0)], [], places) :=
  ⟨[], by kernel_rfl⟩

set_option maxRecDepth 100000 in
theorem lifted (os : Os) (started : os.Started) (H : Type) (enc : TypeId × Value → H) (F : Stop.Interp) :
    ReturnsInHanded {} Tryd.checked os 6 .any ((OpenSpec.ofChange Rows.fieldStripsSpec).preRow enc Tryd.prog Tryd.f6 Rows.fieldStripsRow.domain false Rows.fieldStripsRow.laid) (((OpenSpec.ofChange Rows.fieldStripsSpec).at F).post enc Tryd.prog Tryd.f6 false true false false) := by
  obtain ⟨places, hx⟩ := reads os enc
  refine returnsInHanded_of_row (C := Tryd.checked) (s := OpenSpec.ofChange Rows.fieldStripsSpec) Tb.own started (by kernel_rfl) Tryd.func6
    (witness_row_at (enc := enc) (C := Tryd.checked) false (Tb.laidWorld os) #[.slice none 0 0, .int .i64 0] rfl (by kernel_rfl) (by kernel_rfl) (by kernel_rfl)
      (OpenSpec.preRow_of_cond 8 hx (by kernel_rfl) (fun k hk => by cases hk) (by kernel_rfl) (laid_met os))) ?_
  intro W base args ds gs before hval hW _ _ hsz hL _ _
  exact contract H enc W base args ds gs before hval hW _ hsz hL

theorem said : Rows.FieldStripsSaid :=
  OpenClaim.holds_of_cond 6 Tryd.f6 rfl rfl rfl rfl rfl rfl rfl ⟨rfl, rfl, rfl, rfl, rfl⟩ rfl rfl rfl rfl rfl (by kernel_rfl) Tryd.func6 (by kernel_rfl)
    (of_decide_eq_true (by kernel_rfl)) (by unfold Func.isWrapper; first | (rw [if_pos (by decide +kernel)]; kernel_rfl) | (rw [if_neg (by decide +kernel)]; exact ⟨rfl, rfl⟩))
    (fun os started H enc _ F => by rw [OpenClaim.pre_eq_preRow]; exact lifted os started H enc F)

theorem plain (f : FuncId) (fn : Func) (hf : Tryd.pinned.checked.prog.funcNamed "gatepost/gatepostlaw04.FieldStrips" = some f) (hfn : Tryd.pinned.checked.prog.funcs[f]? = some fn) :
    false = Tryd.pinned.checked.prog.looks [] ∧ ∀ (j : Nat) t, fn.params[j]? = some t → Tryd.pinned.checked.prog.wantsStandIn t = false := by
  obtain rfl : f = 6 := Option.some.inj ((show Tryd.prog.funcNamed "gatepost/gatepostlaw04.FieldStrips" = some 6 by kernel_rfl).symm.trans hf) |>.symm
  obtain rfl : fn = Tryd.f6 := (Option.some.inj (Tryd.func6.symm.trans hfn)).symm
  refine ⟨by kernel_rfl, fun j t ht => ?_⟩
  rw [Tryd.params6] at ht
  have hm := Array.mem_of_getElem? ht
  simp at hm
  rcases hm with rfl | rfl
  · exact (show Tryd.prog.wantsStandIn 25 = false by kernel_rfl)
  · exact (show Tryd.prog.wantsStandIn 3 = false by kernel_rfl)

theorem card : Rows.FieldStripsCardSaid :=
  Claim7.holds_tied_plain_at .later [] _ _ _ _ said (fun _ h => by cases h) (by kernel_rfl) (fun _ h => by cases h) fieldStrips_row_tie rfl ⟨rfl, rfl⟩ (by kernel_rfl) rfl plain (by kernel_rfl)
end Go.Proofs.YtacnlohfipcbdaaDoor.fieldStrips
