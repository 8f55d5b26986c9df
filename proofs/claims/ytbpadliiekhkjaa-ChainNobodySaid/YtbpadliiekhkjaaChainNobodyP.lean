/-
  ChainNobody: A chain that is nil or of no arena answers so.
  Conditions: none.
-/
import Derived.Test.YtbpadliiekhkjaaRows
import Derived.Test.YtbpadliiekhkjaaCHNP20
import Derived.Test.YtbpadliiekhkjaaCHNP17
import Derived.Deep.DeepCutAuto
import Derived.Deep.RegionHeld3
import Derived.WalkKit
import Derived.WalkLawsBesides
import Derived.ProofKit
import Derived.OpenShut
import Derived.ShutString
import Derived.SizedLaws
import Derived.Carry
import Derived.Below
import Derived.Outline
import Derived.Lib.Hide
namespace Go.Proofs.Ytbpadliiekhkjaa.chainNobody
open Go.ChangeShapes Go.WideShapes Go.ChangeAt Go.RowKit
open Go.ChangeMaps (open_string shut_string)
set_option linter.unusedVariables false

theorem own : ownKnob Try.prog.godebug = none := by kernel_rfl
theorem laidOut : laidOutB Try.prog = true := by kernel_rfl

open Go.Proofs.Ytbpadliiekhkjaa.Fd Go.Proofs.Ytbpadliiekhkjaa.Sl Go.Proofs.Ytbpadliiekhkjaa.Ch
set_option maxRecDepth 100000 in
set_option maxHeartbeats 16000000 in
theorem walk (v0 : Value) (ls0 : List UInt8) (w : World) (f0 : Hd.Byts w v0 ls0) (l0 : ls0.length ≤ maxLen) :
    Calls Try.prog 4 #[v0] w fun e w' => e = .returned (.bool true) ∧ Below w.heap.size w w' := by
  clear f0 l0
  obtain ⟨w1, hw1⟩ : ∃ w1, w1 = w.alloc (.cells #[.pointer none, .slice none 0 0, .int .i64 0, .int .i64 0, .bool false, .bool false] 60) := ⟨_, rfl⟩
  have hB1 : Below w.heap.size w w1 := by rw [hw1]; exact (Below.refl _ _).alloc (Nat.le_refl _) _
  have hN1 : NoC (.pointer (some ⟨w.heap.size, 0, none⟩)) w1 := by
    rw [hw1]
    exact .inr ⟨_, rfl, by rw [Lib.cell_of_heap (new_block w _)]; rfl, by simp⟩
  have HW1 := Lib.hid hw1
  clear hw1
  go_enter Try.func4, Try.ntmps4
  go_wp2_with fail
  rw [← HW1.out]
  refine (no_new _ w1 (.inl rfl)).mono ?_
  rintro e w2 ⟨b2, rfl, hN2, hB2⟩
  obtain ⟨w3, hw3⟩ : ∃ w3, w3 = w2.alloc (.cells #[.int .i64 0, .slice none 0 0, .int .i64 0, .slice none 0 0, .int .i64 0, .slice none 0 0, .int .i64 0, .slice none 0 0] 66) := ⟨_, rfl⟩
  have hB3 : Below w2.heap.size w2 w3 := by rw [hw3]; exact (Below.refl _ _).alloc (Nat.le_refl _) _
  have hA3 : NoA (.pointer (some ⟨w2.heap.size, 0, none⟩)) w3 := by
    rw [hw3]
    exact .inr ⟨_, rfl, by rw [Lib.cell_of_heap (new_block w2 _)]; rfl, by simp⟩
  have HB3 := Lib.hid (Bl.next (Bl.next hB1 hB2) hB3)
  have HN1 := Lib.hid ((hN1.next hB2).next hB3)
  have HN2 := Lib.hid (hN2.next hB3)
  have HA3 := Lib.hid hA3
  have HW3 := Lib.hid hw3
  clear hB1 hN1 hN2 hB2 hB3 hA3 hw3
  have HNW := Lib.hid (no_new _ w3 HA3.out)
  rw [HW3.out] at HNW
  rw [← HW3.out] at HNW
  go_wp2_with fail
  rw [← HW3.out]
  refine (no_new _ w3 HA3.out).mono ?_
  rintro e w4 ⟨b4, rfl, hN4, hB4⟩
  have HN1 := Lib.hid (HN1.out.next hB4)
  have HN2 := Lib.hid (HN2.out.next hB4)
  have HN4 := Lib.hid hN4
  have HB4 := Lib.hid (Bl.next HB3.out hB4)
  clear HB3 HA3 HW3 HNW hN4 hB4
  generalize w.heap.size = b1 at HN1 ⊢
  obtain ⟨w5, hw5⟩ : ∃ w5, w5 = w4.alloc (.cells #[.pointer none, .pointer (some ⟨b1, 0, none⟩), .pointer (some ⟨b2, 0, none⟩), .pointer (some ⟨b4, 0, none⟩)] 31) := ⟨_, rfl⟩
  have hB5 : Below w4.heap.size w4 w5 := by rw [hw5]; exact (Below.refl _ _).alloc (Nat.le_refl _) _
  have HN1 := Lib.hid (HN1.out.next hB5)
  have HN2 := Lib.hid (HN2.out.next hB5)
  have HN4 := Lib.hid (HN4.out.next hB5)
  have HX5 := new_block w4 (.cells #[.pointer none, .pointer (some ⟨b1, 0, none⟩), .pointer (some ⟨b2, 0, none⟩), .pointer (some ⟨b4, 0, none⟩)] 31)
  rw [← hw5] at HX5
  have HX5 := Lib.hid HX5
  have HB5 := Lib.hid (Bl.next HB4.out hB5)
  obtain ⟨sb, hsb⟩ : ∃ sb, sb = w4.heap.size := ⟨_, rfl⟩
  have HW5 := Lib.hid hw5
  clear hB5 hw5
  go_wp2_with fail
  rw [← HW5.out]
  rw [← hsb] at HX5 ⊢
  clear hsb HW5 HB4
  go_loopw [17] (fun s17 wr => ∃ k : Nat, k ≤ 4 ∧ s17 = .int .i64 (k : Int) ∧ Below w.heap.size w wr ∧ Below w5.heap.size w5 wr) (fun s17 _ => 4 - (intOf s17).toNat)
  case atStart => exact ⟨0, Nat.zero_le _, rfl, HB5.out, Below.refl _ _⟩
  case round =>
    clear HB5
    obtain ⟨k, hk, rfl, hBr, hBw⟩ := hrel
    have hXr : wr.heap[sb]? = some (.cells #[.pointer none, .pointer (some ⟨b1, 0, none⟩), .pointer (some ⟨b2, 0, none⟩), .pointer (some ⟨b4, 0, none⟩)] 31 (0, 0)) := (hBw.block _ (block_lt HX5.out)).trans HX5.out
    have n1 := HN1.out.next hBw
    have n2 := HN2.out.next hBw
    have n4 := HN4.out.next hBw
    by_cases hlt : k < 4
    · have hlti : (k : Int) < 4 := by omega
      obtain ⟨pv, d0, hpv⟩ : ∃ pv, wr.cell? ⟨sb, k, none⟩ = some pv ∧ NoC pv wr := by
        rcases (show k = 0 ∨ k = 1 ∨ k = 2 ∨ k = 3 by omega) with rfl | rfl | rfl | rfl
        · exact ⟨_, by rw [Lib.cell_of_heap hXr]; rfl, .inl rfl⟩
        · exact ⟨_, by rw [Lib.cell_of_heap hXr]; rfl, n1⟩
        · exact ⟨_, by rw [Lib.cell_of_heap hXr]; rfl, n2⟩
        · exact ⟨_, by rw [Lib.cell_of_heap hXr]; rfl, n4⟩
      have H1 := Lib.hid (no_readC pv 0 0 wr hpv)
      have H2 := Lib.hid (no_share pv wr hpv)
      have H3 := Lib.hid (no_append pv v0 wr hpv)
      have H4 := Lib.hid (no_free pv wr hpv)
      have H5 := Lib.hid (no_len pv wr hpv)
      have H6 := Lib.hid (no_charge pv wr hpv)
      have H7 := Lib.hid (no_alike pv wr hpv)
      have HBr := Lib.hid hBr
      have HBw := Lib.hid hBw
      clear hBr hBw hXr n1 n2 n4 HN1 HN2 HN4 HX5 hpv
      go_wp2_with fail
      refine H1.out.mono ?_
      rintro e w6 ⟨rfl, hw⟩
      subst hw
      go_wp2_with fail
      refine H2.out.mono ?_
      rintro e w6 ⟨rfl, hw⟩
      subst hw
      go_wp2_with fail
      refine H3.out.mono ?_
      rintro e w6 ⟨rfl, hw⟩
      subst hw
      go_wp2_with fail
      refine H4.out.mono ?_
      rintro e w6 ⟨rfl, hw⟩
      subst hw
      go_wp2_with fail
      refine H5.out.mono ?_
      rintro e w6 ⟨rfl, hw⟩
      subst hw
      go_wp2_with fail
      refine H6.out.mono ?_
      rintro e w6 ⟨rfl, hw⟩
      subst hw
      go_wp2_with fail
      refine H7.out.mono ?_
      rintro e w6 ⟨rfl, hw⟩
      subst hw
      go_wp2_with fail
      go_roundw
      case rel => exact ⟨k + 1, by omega, by go_num, HBr.out, HBw.out⟩
      case measure => simp [intOf]; omega
    · have hlti : ¬ (k : Int) < 4 := by omega
      have HBr := Lib.hid hBr
      clear hBr hBw hXr n1 n2 n4 HN1 HN2 HN4 HX5
      go_wp2_with fail
      go_ret
      exact ⟨rfl, HBr.out⟩

set_option maxRecDepth 100000 in
theorem lifted (os : Os) (started : os.Started) (H : Type) (enc : TypeId × Value → H) :
    ReturnsInHanded {} Try.checked os 4 .any (Rows.chainNobodySpec.pre6 enc Try.prog Try.f4 Rows.chainNobodyRow.domain false) (Rows.chainNobodySpec.post enc Try.prog Try.f4 false true false false) := by
  refine returnsInHanded_of_change_sized (C := Try.checked) own started (by kernel_rfl) Try.func4
    (ChangeSpec.witness6 (enc := enc) (C := Try.checked) false ⟨#[], #[.slice none 0 0], []⟩ 8 (by kernel_rfl) (by kernel_rfl) (by kernel_rfl) (by kernel_rfl)) ?_
  intro W base args ds gs before hval0 hW hcnd hsz _
  have hval : ∀ (j : Nat) t v, Try.f4.params[j]? = some t → args[j]? = some v → Value.okWide Try.prog W .any base t v := hval0
  have hW' := hW
  obtain ⟨p, q, hA0, hV, rfl, hfz, hnd⟩ := hW
  have hA : DataW.TrodAll enc Try.prog W 0 (fun _ => true) true Try.f4.params.toList args.toList ds p := hA0
  rw [Try.params4] at hA hval hsz
  obtain ⟨v0, vs0, d0, ds0, p0, q0, hargs, rfl, rfl, h0, r0⟩ := trodAll_cons hA
  obtain ⟨rfl, rfl, rfl⟩ := trodAll_nil r0
  obtain rfl : args = #[v0] := by cases args; simp_all
  obtain ⟨rfl, rfl⟩ := trodVars_none hV
  have k0 := h0
  have lt0 : ∀ x ∈ p0, x.block < W.heap.size := by obtain ⟨m, hm⟩ := k0; exact DataW.trod_lt m _ _ _ hm
  obtain ⟨ls0, f0, l0⟩ := Hd.open_byts (hval 0 36 v0 rfl rfl) h0
  clear hA0 hval0
  simp only [List.append_nil] at hW'
  refine (walk v0 ls0 W f0 l0).mono fun e W' ⟨he, bel⟩ => ?_
  subst he
  exact ⟨_, rfl, _, _, _, [], _, [], hW', trodAll_mk1 (shut_bool Try.underlying4 _), (trodAll_cons_mk (Below.trod laidOut (by kernel_rfl) (of_decide_eq_true (by kernel_rfl)) k0 bel lt0) trodAll_mk0), rfl, bel.frame _, fun h => by cases h⟩

theorem over : Rows.chainNobodyRow.holds Try.pinned (OpenSpec.ofChange Rows.chainNobodySpec) :=
  OpenClaim.holds_of_wide 4 Try.f4 rfl rfl rfl rfl rfl rfl rfl ⟨rfl, rfl, rfl, rfl, rfl⟩ rfl rfl rfl rfl rfl (by kernel_rfl) Try.func4 (by kernel_rfl)
    (of_decide_eq_true (by kernel_rfl)) (by unfold Func.isWrapper; first | (rw [if_pos (by decide +kernel)]; kernel_rfl) | (rw [if_neg (by decide +kernel)]; exact ⟨rfl, rfl⟩))
    (fun os started H enc _ => lifted os started H enc)

theorem proved : Rows.ChainNobodySaid := over
end Go.Proofs.Ytbpadliiekhkjaa.chainNobody
