/-
  LinePaths: for every text of at most 1048576 letters the call returns true.
  Conditions: at most 1048576 values and letters in all; beside that none.
-/
import Derived.Test.YtldlhnppinodbaaRows
import Derived.Test.YtldlhnppinodbaaLnRefPath
import Derived.WalkKit
import Derived.WalkLawsBesides
import Derived.ProofKit
import Derived.OpenShut
import Derived.ShutString
import Derived.JoinedCond
import Derived.Below
import Derived.Outline
import Derived.Lib.Hide
import Derived.WideKeyPair
namespace Go.Proofs.Ytldlhnppinodbaa.linePaths
open Go.ChangeShapes Go.WideShapes Go.ChangeAt Go.RowKit
open Go.ChangeMaps (open_string shut_string)
set_option linter.unusedVariables false

theorem own : ownKnob Try.prog.godebug = none := by kernel_rfl
theorem ans_shape (p : Option (Tk.Bs × Tk.Bs)) : ∃ (A B : ByteArray) (b : Bool), Ln.ansVal p = .tuple #[.string A, .string B, .bool b] := by
  cases p with
  | none => exact ⟨_, _, _, rfl⟩
  | some q => obtain ⟨a, b⟩ := q; exact ⟨_, _, _, rfl⟩
theorem one : Ln.ansVal (Ln.pathParts (⟨#[47, 120]⟩ : ByteArray).data.toList) = .tuple #[.string ⟨#[47, 120]⟩, .string ⟨#[]⟩, .bool true] := by
  kernel_rfl

set_option maxHeartbeats 4000000 in
theorem walk (a0 : ByteArray) (s0 : a0.size ≤ 1048576) (w : World) :
    Calls Try.prog 3 #[.string a0] w fun e w' => e = .returned (.bool true) ∧ Below w.heap.size w w' := by
  obtain ⟨A, B, b, hv⟩ := ans_shape (Ln.pathParts a0.data.toList)
  have HV := Lib.hid hv
  clear hv
  have tA : (A.toList == A.toList) = true := by simp
  have tB : (B.toList == B.toList) = true := by simp
  have tb : (b == b) = true := by simp
  go_enter Try.func3, Try.ntmps3
  go_wp2_with fail
  refine (Ln.path_any a0 _ (by omega)).mono ?_
  rintro e x1 ⟨rfl, hb1⟩
  rw [HV.out]
  go_wp2_with fail
  refine (Ln.refPath_any a0 _ (by omega)).mono ?_
  rintro e x2 ⟨rfl, hb2⟩
  rw [HV.out]
  go_wp2_with fail
  refine (Ln.path_any ⟨#[47, 120]⟩ _ (by decide)).mono ?_
  rintro e x3 ⟨rfl, hb3⟩
  rw [one]
  have hB := (hb1.trans (hb2.mono hb1.size)).trans (hb3.mono (Nat.le_trans hb1.size hb2.size))
  clear hb1 hb2 hb3
  go_wp2_with fail
  go_ret
  exact ⟨rfl, hB⟩


theorem contract (H : Type) (enc : TypeId × Value → H) (W : World) (base : Nat) (args : Array Value) (ds gs : List (DataW H)) (before : List MemPlace)
    (hval : ∀ (j : Nat) t v, Try.f3.params[j]? = some t → args[j]? = some v → Value.okWide Try.prog W .any base t v)
    (hW : DataW.Whole enc Try.prog Try.f3.params.toList Rows.linePathsSpec.vars false W args.toList ds gs before) (hk : Rows.uptoSmall H (ds ++ gs) = true) :
    Calls Try.prog 3 args W fun e W' => ∃ v, e = .returned v ∧ Rows.linePathsSpec.post enc Try.prog Try.f3 false true false false W args v W' := by
  have hW' := hW
  obtain ⟨p, q, hA0, hV, rfl, hfz, hnd⟩ := hW
  have hA : DataW.TrodAll enc Try.prog W 0 (fun _ => true) true Try.f3.params.toList args.toList ds p := hA0
  rw [Try.params3] at hA hval
  obtain ⟨v0, vs0, d0, ds0, p0, q0, hargs, rfl, rfl, h0, r0⟩ := trodAll_cons hA
  obtain ⟨rfl, rfl, rfl⟩ := trodAll_nil r0
  obtain rfl : args = #[v0] := by cases args; simp_all
  obtain ⟨rfl, rfl⟩ := trodVars_none hV
  obtain ⟨a0, rfl, rfl, rfl, w0⟩ := open_string Try.underlying9 (hval 0 9 v0 rfl rfl) h0
  have hb := of_decide_eq_true hk
  simp only [List.append_nil, Rows.uptoBulkAll, Rows.uptoBulk, Array.length_toList] at hb
  have s0 : a0.size ≤ 1048576 := by have e : a0.data.size = a0.size := rfl; omega
  clear hA0
  simp only [List.append_nil] at hW'
  refine (walk a0 s0 W).mono fun e W' ⟨he, bel⟩ => ?_
  subst he
  exact ⟨_, rfl, _, _, _, [], _, [], hW', trodAll_mk1 (shut_bool Try.underlying4 _), (trodAll_cons_mk (shut_string Try.underlying9 w0) trodAll_mk0), rfl, bel.frame _, fun h => by cases h⟩

set_option maxRecDepth 100000 in
theorem lifted (os : Os) (started : os.Started) (H : Type) (enc : TypeId × Value → H) (F : Stop.Interp) :
    ReturnsInHanded {} Try.checked os 3 .any ((Rows.OpenSpec.upto Rows.linePathsSpec).pre6 enc Try.prog Try.f3 Rows.linePathsUptoRow.domain false) (((Rows.OpenSpec.upto Rows.linePathsSpec).at F).post enc Try.prog Try.f3 false true false false) := by
  refine returnsInHanded_of_cond (C := Try.checked) (s := Rows.OpenSpec.upto Rows.linePathsSpec) (k := Rows.uptoSmall) rfl own started (by kernel_rfl) Try.func3
    (OpenSpec.witness (enc := enc) (C := Try.checked) (s := Rows.OpenSpec.upto Rows.linePathsSpec) (k := Rows.uptoSmall) rfl false ⟨#[], #[.string ByteArray.empty], []⟩ 8 (by kernel_rfl) (by kernel_rfl) (by kernel_rfl)
      (x := ([.lit (.string [])], [], [])) (by kernel_rfl) rfl (by kernel_rfl)) ?_
  intro W base args ds gs before hval hW _ hk _
  exact contract H enc W base args ds gs before hval hW hk

theorem over : Rows.linePathsUptoRow.holds Try.pinned (Rows.OpenSpec.upto Rows.linePathsSpec) :=
  OpenClaim.holds_of_cond 3 Try.f3 rfl rfl rfl rfl rfl rfl rfl ⟨rfl, rfl, rfl, rfl, rfl⟩ rfl rfl rfl rfl rfl (by kernel_rfl) Try.func3 (by kernel_rfl)
    (of_decide_eq_true (by kernel_rfl)) (by unfold Func.isWrapper; first | (rw [if_pos (by decide +kernel)]; kernel_rfl) | (rw [if_neg (by decide +kernel)]; exact ⟨rfl, rfl⟩))
    (fun os started H enc _ F => lifted os started H enc F)

theorem proved : Rows.LinePathsUptoSaid := over
end Go.Proofs.Ytldlhnppinodbaa.linePaths
