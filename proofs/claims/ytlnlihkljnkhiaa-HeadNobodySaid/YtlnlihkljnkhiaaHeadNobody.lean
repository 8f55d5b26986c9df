/-
  HeadNobody: readers that no call made read nothing.
  Conditions: none.
-/
import Derived.Test.YtlnlihkljnkhiaaRows
import Derived.Test.YtlnlihkljnkhiaaHdNobody
import Derived.Test.YtlnlihkljnkhiaaHdByts
import Derived.Test.YtlnlihkljnkhiaaFdOpen
import Derived.WalkKit
import Derived.WalkLawsBesides
import Derived.ProofKit
import Derived.OpenShut
import Derived.ShutString
import Derived.SizedLaws
import Derived.Carry
import Derived.Below
import Derived.Outline
import Derived.Lib.Hide
namespace Go.Proofs.Ytlnlihkljnkhiaa.headNobody
open Go.ChangeShapes Go.WideShapes Go.ChangeAt Go.RowKit
open Go.ChangeMaps (open_string shut_string)
set_option linter.unusedVariables false

theorem own : ownKnob Try.prog.godebug = none := by kernel_rfl
theorem laidOut : laidOutB Try.prog = true := by kernel_rfl

open Go.Proofs.Ytlnlihkljnkhiaa.Hd Go.Proofs.Ytlnlihkljnkhiaa.Fd in
set_option maxHeartbeats 4000000 in
theorem walk (v0 : Value) (ls0 : Tk.Bs) (w : World) (f0 : Hd.Byts w v0 ls0) (l0 : ls0.length ≤ maxLen) :
    Calls Try.prog 3 #[v0] w fun e w' => e = .returned (.bool true) ∧ Below w.heap.size w w' := by
  clear f0 l0
  have hB1 := (Below.refl w.heap.size w).alloc (Nat.le_refl _) (.cells #[.bool false, .int .i64 0, .nilFunc, .slice none 0 0, .int .i64 0, .bool false, .int .i64 0, .string ⟨#[]⟩, .string ⟨#[]⟩, .int .i64 0, .slice none 0 0, .int .i64 0, .int .i64 0, .string ⟨#[]⟩, .slice none 0 0, .slice none 0 0] 34)
  have K2 := Fd.new_block w (.cells #[.bool false, .int .i64 0, .nilFunc, .slice none 0 0, .int .i64 0, .bool false, .int .i64 0, .string ⟨#[]⟩, .string ⟨#[]⟩, .int .i64 0, .slice none 0 0, .int .i64 0, .int .i64 0, .string ⟨#[]⟩, .slice none 0 0, .slice none 0 0] 34)
  have hB3 := hB1.alloc hB1.size (.cells #[.pointer none, .pointer (some ⟨w.heap.size, 0, none⟩)] 23)
  have K4 := (Fd.old_block (w.alloc (.cells #[.bool false, .int .i64 0, .nilFunc, .slice none 0 0, .int .i64 0, .bool false, .int .i64 0, .string ⟨#[]⟩, .string ⟨#[]⟩, .int .i64 0, .slice none 0 0, .int .i64 0, .int .i64 0, .string ⟨#[]⟩, .slice none 0 0, .slice none 0 0] 34)) (.cells #[.pointer none, .pointer (some ⟨w.heap.size, 0, none⟩)] 23) (Fd.block_lt K2)).trans K2
  clear K2
  have K5 := Fd.new_block (w.alloc (.cells #[.bool false, .int .i64 0, .nilFunc, .slice none 0 0, .int .i64 0, .bool false, .int .i64 0, .string ⟨#[]⟩, .string ⟨#[]⟩, .int .i64 0, .slice none 0 0, .int .i64 0, .int .i64 0, .string ⟨#[]⟩, .slice none 0 0, .slice none 0 0] 34)) (.cells #[.pointer none, .pointer (some ⟨w.heap.size, 0, none⟩)] 23)
  clear hB1
  go_enter Try.func3, Try.ntmps3
  go_wp2_with fail
  rw [show (w.alloc (.cells #[.bool false, .int .i64 0, .nilFunc, .slice none 0 0, .int .i64 0, .bool false, .int .i64 0, .string ⟨#[]⟩, .string ⟨#[]⟩, .int .i64 0, .slice none 0 0, .int .i64 0, .int .i64 0, .string ⟨#[]⟩, .slice none 0 0, .slice none 0 0] 34)).heap.size = w.heap.size + 1 from by simp] at K5
  refine wp_loop_rounds 3 ?_
  rw [rounds_succ]
  have c0 := Lib.cell_of_heap K5 0
  simp only [List.getElem?_toArray, List.getElem?_cons_zero] at c0
  go_wp2_with fail
  clear c0
  refine (feed_no none v0 _ (.inl rfl)).mono ?_
  rintro e x6 ⟨rfl, rfl⟩
  go_wp2_with fail
  refine (request_no none _ (.inl rfl)).mono ?_
  rintro e x7 ⟨rfl, hb8⟩
  have hB9 := Fd.Bl.next hB3 hb8
  have K10 := Fd.Bl.old hb8 (Fd.block_lt K4) K4
  clear K4
  have K11 := Fd.Bl.old hb8 (Fd.block_lt K5) K5
  clear K5
  clear hb8 hB3
  unfold reqZero
  go_wp2_with fail
  have hB12 := hB9.alloc hB9.size (.cells #[.string ⟨#[]⟩, .string ⟨#[]⟩, .int .i64 0, .slice none 0 0] 30)
  have K13 := (Fd.old_block x7 (.cells #[.string ⟨#[]⟩, .string ⟨#[]⟩, .int .i64 0, .slice none 0 0] 30) (Fd.block_lt K10)).trans K10
  clear K10
  have K14 := (Fd.old_block x7 (.cells #[.string ⟨#[]⟩, .string ⟨#[]⟩, .int .i64 0, .slice none 0 0] 30) (Fd.block_lt K11)).trans K11
  clear K11
  clear hB9
  refine (response_no none _ (.inl rfl)).mono ?_
  rintro e x15 ⟨rfl, hb16⟩
  have hB17 := Fd.Bl.next hB12 hb16
  have K18 := Fd.Bl.old hb16 (Fd.block_lt K13) K13
  clear K13
  have K19 := Fd.Bl.old hb16 (Fd.block_lt K14) K14
  clear K14
  clear hb16 hB12
  unfold resZero
  go_wp2_with fail
  have hB20 := hB17.alloc hB17.size (.cells #[.int .i64 0, .int .i64 0, .string ⟨#[]⟩, .slice none 0 0] 32)
  have K21 := (Fd.old_block x15 (.cells #[.int .i64 0, .int .i64 0, .string ⟨#[]⟩, .slice none 0 0] 32) (Fd.block_lt K18)).trans K18
  clear K18
  have K22 := (Fd.old_block x15 (.cells #[.int .i64 0, .int .i64 0, .string ⟨#[]⟩, .slice none 0 0] 32) (Fd.block_lt K19)).trans K19
  clear K19
  clear hB17
  rw [rounds_succ]
  have c1 := Lib.cell_of_heap K22 1
  simp only [List.getElem?_toArray, List.getElem?_cons_zero, List.getElem?_cons_succ] at c1
  go_wp2_with fail
  clear c1
  refine (feed_no (some ⟨w.heap.size, 0, none⟩) v0 _ (.inr ⟨_, rfl, by rw [Lib.cell_of_heap K21]; rfl⟩)).mono ?_
  rintro e x23 ⟨rfl, rfl⟩
  go_wp2_with fail
  refine (request_no (some ⟨w.heap.size, 0, none⟩) _ (.inr ⟨_, rfl, by rw [Lib.cell_of_heap K21]; rfl⟩)).mono ?_
  rintro e x24 ⟨rfl, hb25⟩
  have hB26 := Fd.Bl.next hB20 hb25
  have K27 := Fd.Bl.old hb25 (Fd.block_lt K21) K21
  clear K21
  have K28 := Fd.Bl.old hb25 (Fd.block_lt K22) K22
  clear K22
  clear hb25 hB20
  unfold reqZero
  go_wp2_with fail
  have hB29 := hB26.alloc hB26.size (.cells #[.string ⟨#[]⟩, .string ⟨#[]⟩, .int .i64 0, .slice none 0 0] 30)
  have K30 := (Fd.old_block x24 (.cells #[.string ⟨#[]⟩, .string ⟨#[]⟩, .int .i64 0, .slice none 0 0] 30) (Fd.block_lt K27)).trans K27
  clear K27
  have K31 := (Fd.old_block x24 (.cells #[.string ⟨#[]⟩, .string ⟨#[]⟩, .int .i64 0, .slice none 0 0] 30) (Fd.block_lt K28)).trans K28
  clear K28
  clear hB26
  refine (response_no (some ⟨w.heap.size, 0, none⟩) _ (.inr ⟨_, rfl, by rw [Lib.cell_of_heap K30]; rfl⟩)).mono ?_
  rintro e x32 ⟨rfl, hb33⟩
  have hB34 := Fd.Bl.next hB29 hb33
  have K35 := Fd.Bl.old hb33 (Fd.block_lt K30) K30
  clear K30
  have K36 := Fd.Bl.old hb33 (Fd.block_lt K31) K31
  clear K31
  clear hb33 hB29
  unfold resZero
  go_wp2_with fail
  have hB37 := hB34.alloc hB34.size (.cells #[.int .i64 0, .int .i64 0, .string ⟨#[]⟩, .slice none 0 0] 32)
  have K38 := (Fd.old_block x32 (.cells #[.int .i64 0, .int .i64 0, .string ⟨#[]⟩, .slice none 0 0] 32) (Fd.block_lt K35)).trans K35
  clear K35
  have K39 := (Fd.old_block x32 (.cells #[.int .i64 0, .int .i64 0, .string ⟨#[]⟩, .slice none 0 0] 32) (Fd.block_lt K36)).trans K36
  clear K36
  clear hB34
  rw [rounds_succ]
  go_wp2_with fail
  go_ret
  exact ⟨rfl, hB37⟩

set_option maxRecDepth 100000 in
theorem lifted (os : Os) (started : os.Started) (H : Type) (enc : TypeId × Value → H) :
    ReturnsInHanded {} Try.checked os 3 .any (Rows.headNobodySpec.pre6 enc Try.prog Try.f3 Rows.headNobodyRow.domain false) (Rows.headNobodySpec.post enc Try.prog Try.f3 false true false false) := by
  refine returnsInHanded_of_change_sized (C := Try.checked) own started (by kernel_rfl) Try.func3
    (ChangeSpec.witness6 (enc := enc) (C := Try.checked) false ⟨#[], #[.slice none 0 0], []⟩ 8 (by kernel_rfl) (by kernel_rfl) (by kernel_rfl) (by kernel_rfl)) ?_
  intro W base args ds gs before hval0 hW hcnd hsz _
  have hval : ∀ (j : Nat) t v, Try.f3.params[j]? = some t → args[j]? = some v → Value.okWide Try.prog W .any base t v := hval0
  have hW' := hW
  obtain ⟨p, q, hA0, hV, rfl, hfz, hnd⟩ := hW
  have hA : DataW.TrodAll enc Try.prog W 0 (fun _ => true) true Try.f3.params.toList args.toList ds p := hA0
  rw [Try.params3] at hA hval hsz
  obtain ⟨v0, vs0, d0, ds0, p0, q0, hargs, rfl, rfl, h0, r0⟩ := trodAll_cons hA
  obtain ⟨rfl, rfl, rfl⟩ := trodAll_nil r0
  obtain rfl : args = #[v0] := by cases args; simp_all
  obtain ⟨rfl, rfl⟩ := trodVars_none hV
  have k0 := h0
  have lt0 : ∀ x ∈ p0, x.block < W.heap.size := by obtain ⟨m, hm⟩ := k0; exact DataW.trod_lt m _ _ _ hm
  obtain ⟨ls0, f0, l0⟩ := Hd.open_byts (hval 0 22 v0 rfl rfl) h0
  clear hA0 hval0
  simp only [List.append_nil] at hW'
  refine (walk v0 ls0 W f0 l0).mono fun e W' ⟨he, bel⟩ => ?_
  subst he
  exact ⟨_, rfl, _, _, _, [], _, [], hW', trodAll_mk1 (shut_bool Try.underlying4 _), (trodAll_cons_mk (Below.trod laidOut (by kernel_rfl) (of_decide_eq_true (by kernel_rfl)) k0 bel lt0) trodAll_mk0), rfl, bel.frame _, fun h => by cases h⟩

theorem over : Rows.headNobodyRow.holds Try.pinned (OpenSpec.ofChange Rows.headNobodySpec) :=
  OpenClaim.holds_of_wide 3 Try.f3 rfl rfl rfl rfl rfl rfl rfl ⟨rfl, rfl, rfl, rfl, rfl⟩ rfl rfl rfl rfl rfl (by kernel_rfl) Try.func3 (by kernel_rfl)
    (of_decide_eq_true (by kernel_rfl)) (by unfold Func.isWrapper; first | (rw [if_pos (by decide +kernel)]; kernel_rfl) | (rw [if_neg (by decide +kernel)]; exact ⟨rfl, rfl⟩))
    (fun os started H enc _ => lifted os started H enc)

theorem proved : Rows.HeadNobodySaid := over
end Go.Proofs.Ytlnlihkljnkhiaa.headNobody
