/-
  SlabNobody: SlabNobody: for any handle the law's call returns true.
  Conditions: none.
-/
import Derived.Test.YtheljldoboiekaaRows
import Derived.Test.YtheljldoboiekaaSlNo
import Derived.Test.YtheljldoboiekaaSlOpen
import Derived.Deep.DeepCutAuto
import Derived.Deep.RegionHeld3
import Derived.WalkKit
import Derived.WalkLawsBesides
import Derived.ProofKit
import Derived.OpenShut
import Derived.ShutString
import Derived.SizedLaws
import Derived.Carry
import Derived.Below
import Derived.Outline
import Derived.Lib.Hide
namespace Go.Proofs.Ytheljldoboiekaa.slabNobody
open Go.ChangeShapes Go.WideShapes Go.ChangeAt Go.RowKit
open Go.ChangeMaps (open_string shut_string)
set_option linter.unusedVariables false

theorem own : ownKnob Try.prog.godebug = none := by kernel_rfl
theorem laidOut : laidOutB Try.prog = true := by kernel_rfl

open Go.Proofs.Ytheljldoboiekaa.Fd Go.Proofs.Ytheljldoboiekaa.Sl
set_option maxRecDepth 100000 in
set_option maxHeartbeats 16000000 in
theorem walk (x y z : Int) (w : World) :
    Calls Try.prog 4 #[.agg #[.int .i64 x, .int .i64 y, .int .i64 z]] w fun e w' => e = .returned (.bool true) ∧ Below w.heap.size w w' := by
  obtain ⟨w1, hw1⟩ : ∃ w1, w1 = w.alloc (.cells #[.int .i64 x, .int .i64 y, .int .i64 z] 34) := ⟨_, rfl⟩
  obtain ⟨w2, hw2⟩ : ∃ w2, w2 = w1.alloc (.cells #[.int .i64 0, .slice none 0 0, .int .i64 0, .slice none 0 0, .int .i64 0, .slice none 0 0, .int .i64 0, .slice none 0 0] 59) := ⟨_, rfl⟩
  obtain ⟨w3, hw3⟩ : ∃ w3, w3 = w2.alloc (.cells #[.pointer none, .pointer (some ⟨w1.heap.size, 0, none⟩)] 24) := ⟨_, rfl⟩
  have hB1 : Below w.heap.size w w1 := by rw [hw1]; exact (Below.refl _ _).alloc (Nat.le_refl _) _
  have hB2 : Below w1.heap.size w1 w2 := by rw [hw2]; exact (Below.refl _ _).alloc (Nat.le_refl _) _
  have hB3 : Below w2.heap.size w2 w3 := by rw [hw3]; exact (Below.refl _ _).alloc (Nat.le_refl _) _
  have hx1 : Bx w.heap.size (x, y, z) w1 := by rw [hw1]; exact new_block w _
  have ha2 : w2.heap[w1.heap.size]? = some (.cells #[.int .i64 0, .slice none 0 0, .int .i64 0, .slice none 0 0, .int .i64 0, .slice none 0 0, .int .i64 0, .slice none 0 0] 59 (0, 0)) := by rw [hw2]; exact new_block w1 _
  have hs3 : w3.heap[w2.heap.size]? = some (.cells #[.pointer none, .pointer (some ⟨w1.heap.size, 0, none⟩)] 24 (0, 0)) := by rw [hw3]; exact new_block w2 _
  have hx3 := (hx1.next hB2).next hB3
  have ha3 := Bl.old hB3 (block_lt ha2) ha2
  have hno : ∀ k, k < 2 → ∃ pv, w3.cell? ⟨w2.heap.size, k, none⟩ = some pv ∧ NoA pv w3 ∧ ∃ o, pv = .pointer o := by
    intro k hk
    rw [Lib.cell_of_heap hs3]
    rcases (by omega : k = 0 ∨ k = 1) with rfl | rfl
    · exact ⟨_, rfl, .inl rfl, _, rfl⟩
    · refine ⟨_, rfl, .inr ⟨_, rfl, ?_, block_lt ha3⟩, _, rfl⟩
      rw [Lib.cell_of_heap ha3]; rfl
  have hsl := block_lt hs3
  have HB := Lib.hid (Bl.next (Bl.next hB1 hB2) hB3)
  have HNo := Lib.hid hno
  have HX3 := Lib.hid hx3
  have HW3 := Lib.hid (show w3 = ((w.alloc (.cells #[.int .i64 x, .int .i64 y, .int .i64 z] 34)).alloc (.cells #[.int .i64 0, .slice none 0 0, .int .i64 0, .slice none 0 0, .int .i64 0, .slice none 0 0, .int .i64 0, .slice none 0 0] 59)).alloc (.cells #[.pointer none, .pointer (some ⟨w.heap.size + 1, 0, none⟩)] 24) from by rw [hw3, show w1.heap.size = w.heap.size + 1 from by rw [hw1]; simp, hw2, hw1])
  have hsz : w2.heap.size = w.heap.size + 1 + 1 := by rw [hw2, hw1]; simp
  rw [hsz] at hsl HNo
  clear hw1 hw2 hw3 hB1 hB2 hB3 hx1 ha2 hs3 hx3 ha3 hno hsz w2 w1
  go_enter Try.func4, Try.ntmps4
  go_upto_region 2 with fail
  rw [← HW3.out]
  go_loopw [13] (fun j wr => ∃ k : Nat, k ≤ 2 ∧ j = .int .i64 (k : Int) ∧ Below w3.heap.size w3 wr) (fun j _ => 2 - (intOf j).toNat)
  case atStart => exact ⟨0, Nat.zero_le _, rfl, Below.refl _ _⟩
  case round =>
    obtain ⟨k, hk, rfl, hB⟩ := hrel
    by_cases hlt : k < 2
    · obtain ⟨pv, hpv, hnoA, o, ho⟩ := HNo.out k hlt
      subst ho
      have c0 := (hB.cell (p := ⟨w.heap.size + 1 + 1, k, none⟩) hsl).trans hpv
      have HA := Lib.hid (hnoA.next hB)
      have HX := Lib.hid (HX3.out.next hB)
      have HBr := Lib.hid hB
      clear hpv hnoA hB
      go_wp2_with fail
      refine (no_alloc _ 5 wr HA.out).mono ?_
      rintro e w4 ⟨rfl, hb4⟩
      have hB5 := (Below.refl w4.heap.size w4).alloc (Nat.le_refl _) (.cells #[.int .i64 0, .int .i64 0, .int .i64 0] 34)
      have hB45 := Bl.next hb4 hB5
      have HY5 := Lib.hid (show Bx w4.heap.size (0, 0, 0) _ from new_block w4 (.cells #[.int .i64 0, .int .i64 0, .int .i64 0] 34))
      have HA5 := Lib.hid (HA.out.next hB45)
      have HX5 := Lib.hid (HX.out.next hB45)
      have HB5 := Lib.hid (Bl.next HBr.out hB45)
      obtain ⟨x0, x1, x2⟩ := HX5.out.cells
      clear hb4 hB5 hB45 HA HX HBr c0
      go_wp2_with fail
      refine (no_read _ x y z 0 0 _ HA5.out).mono ?_
      rintro e w6 ⟨⟨ra, rc, rfl⟩, hb6⟩
      have HA6 := Lib.hid (HA5.out.next hb6)
      have HX6 := Lib.hid (HX5.out.next hb6)
      have HY6 := Lib.hid (HY5.out.next hb6)
      have HB6 := Lib.hid (Bl.next HB5.out hb6)
      clear hb6 HA5 HX5 HY5 HB5 x0 x1 x2
      generalize w4.heap.size = yx at *
      obtain ⟨x0, x1, x2⟩ := HX6.out.cells
      obtain ⟨y0, y1, y2⟩ := HY6.out.cells
      go_wp2_with fail
      refine (no_hold _ x y z _ HA6.out).mono ?_
      rintro e w7 ⟨rfl, hb7⟩
      have HA7 := Lib.hid (HA6.out.next hb7)
      have HX7 := Lib.hid (HX6.out.next hb7)
      have HB7 := Lib.hid (Bl.next HB6.out hb7)
      clear hb7 HA6 HX6 HY6 HB6 x0 x1 x2 y0 y1 y2
      obtain ⟨x0, x1, x2⟩ := HX7.out.cells
      go_wp2_with fail
      refine (no_drop _ x y z _ HA7.out).mono ?_
      rintro e w8 ⟨rfl, hb8⟩
      have HA8 := Lib.hid (HA7.out.next hb8)
      have HX8 := Lib.hid (HX7.out.next hb8)
      have HB8 := Lib.hid (Bl.next HB7.out hb8)
      clear hb8 HA7 HX7 HB7 x0 x1 x2
      obtain ⟨x0, x1, x2⟩ := HX8.out.cells
      go_wp2_with fail
      refine (no_write _ x y z 0 _ HA8.out).mono ?_
      rintro e w9 ⟨rfl, hb9⟩
      have HA9 := Lib.hid (HA8.out.next hb9)
      have HX9 := Lib.hid (HX8.out.next hb9)
      have HB9 := Lib.hid (Bl.next HB8.out hb9)
      clear hb9 HA8 HX8 HB8 x0 x1 x2
      obtain ⟨x0, x1, x2⟩ := HX9.out.cells
      go_wp2_with fail
      refine (no_held _ x y z _ HA9.out).mono ?_
      rintro e w10 ⟨rfl, hb10⟩
      have HA10 := Lib.hid (HA9.out.next hb10)
      have HB10 := Lib.hid (Bl.next HB9.out hb10)
      clear hb10 HA9 HX9 HB9 x0 x1 x2
      go_wp2_with fail
      refine (no_live _ 0 _ HA10.out).mono ?_
      rintro e w11 ⟨rfl, hb11⟩
      have HB11 := Lib.hid (Bl.next HB10.out hb11)
      clear hb11 HA10 HB10
      go_wp2_with fail
      go_roundw
      case rel => exact ⟨k + 1, by omega, by go_num, HB11.out⟩
      case measure => simp [intOf]; omega
    · have HBr := Lib.hid hB
      clear hB
      go_wp2_with fail
      refine (sizesP_any 0 wr).mono ?_
      rintro e w4 ⟨rfl, hb4⟩
      have HB4 := Lib.hid (Bl.next HB.out (Bl.next HBr.out hb4))
      rw [show sizesI 0 = 64 from rfl]
      clear hb4
      go_wp2_with fail
      go_ret
      exact ⟨rfl, HB4.out⟩

set_option maxRecDepth 100000 in
theorem lifted (os : Os) (started : os.Started) (H : Type) (enc : TypeId × Value → H) :
    ReturnsInHanded {} Try.checked os 4 .any (Rows.slabNobodySpec.pre6 enc Try.prog Try.f4 Rows.slabNobodyRow.domain false) (Rows.slabNobodySpec.post enc Try.prog Try.f4 false true false false) := by
  refine returnsInHanded_of_change_sized (C := Try.checked) own started (by kernel_rfl) Try.func4
    (ChangeSpec.witness6 (enc := enc) (C := Try.checked) false ⟨#[], #[.agg #[.int .i64 0, .int .i64 0, .int .i64 0]], []⟩ 8 (by kernel_rfl) (by kernel_rfl) (by kernel_rfl) (by kernel_rfl)) ?_
  intro W base args ds gs before hval0 hW hcnd hsz _
  have hval : ∀ (j : Nat) t v, Try.f4.params[j]? = some t → args[j]? = some v → Value.okWide Try.prog W .any base t v := hval0
  have hW' := hW
  obtain ⟨p, q, hA0, hV, rfl, hfz, hnd⟩ := hW
  have hA : DataW.TrodAll enc Try.prog W 0 (fun _ => true) true Try.f4.params.toList args.toList ds p := hA0
  rw [Try.params4] at hA hval hsz
  obtain ⟨v0, vs0, d0, ds0, p0, q0, hargs, rfl, rfl, h0, r0⟩ := trodAll_cons hA
  obtain ⟨rfl, rfl, rfl⟩ := trodAll_nil r0
  obtain rfl : args = #[v0] := by cases args; simp_all
  obtain ⟨rfl, rfl⟩ := trodVars_none hV
  have k0 := h0
  have lt0 : ∀ x ∈ p0, x.block < W.heap.size := by obtain ⟨m, hm⟩ := k0; exact DataW.trod_lt m _ _ _ hm
  obtain ⟨⟨x0, y0, z0⟩, rfl⟩ := Sl.open_hd (hval 0 34 v0 rfl rfl) h0
  clear hA0 hval0
  simp only [List.append_nil] at hW'
  refine (walk x0 y0 z0 W).mono fun e W' ⟨he, bel⟩ => ?_
  subst he
  exact ⟨_, rfl, _, _, _, [], _, [], hW', trodAll_mk1 (shut_bool Try.underlying4 _), (trodAll_cons_mk (Below.trod laidOut (by kernel_rfl) (of_decide_eq_true (by kernel_rfl)) k0 bel lt0) trodAll_mk0), rfl, bel.frame _, fun h => by cases h⟩

theorem over : Rows.slabNobodyRow.holds Try.pinned (OpenSpec.ofChange Rows.slabNobodySpec) :=
  OpenClaim.holds_of_wide 4 Try.f4 rfl rfl rfl rfl rfl rfl rfl ⟨rfl, rfl, rfl, rfl, rfl⟩ rfl rfl rfl rfl rfl (by kernel_rfl) Try.func4 (by kernel_rfl)
    (of_decide_eq_true (by kernel_rfl)) (by unfold Func.isWrapper; first | (rw [if_pos (by decide +kernel)]; kernel_rfl) | (rw [if_neg (by decide +kernel)]; exact ⟨rfl, rfl⟩))
    (fun os started H enc _ => lifted os started H enc)

theorem proved : Rows.SlabNobodySaid := over
end Go.Proofs.Ytheljldoboiekaa.slabNobody
