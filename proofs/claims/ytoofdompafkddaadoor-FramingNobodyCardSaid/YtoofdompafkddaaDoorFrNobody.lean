/-
  A decoder that is nil, or that no call made: what its methods return. No condition.
-/
import Derived.Test.YtoofdompafkddaaDoorFdKit
namespace Go.Proofs.YtoofdompafkddaaDoor.Fr
open Go.RowKit Go.Proofs.YtoofdompafkddaaDoor.Fd
set_option linter.unusedVariables false

theorem four_results {fn : Func} {a b c d : Tmp} (h : fn.results = #[.tmp a, .tmp b, .tmp c, .tmp d]) (tmps : Array Value) (P : Program) (w : World) :
    (results fn tmps).run P w = .ok (.tuple #[tmps.getD a undef, tmps.getD b undef, tmps.getD c undef, tmps.getD d undef]) w := by
  simp [results, h]
/-- A decoder that no call made: nil, or a plain one. -/
def NoDec (w : World) (p : Option Addr) : Prop := p = none ∨ ∃ g, p = some ⟨g, 0, none⟩ ∧ w.cell? ⟨g, 0, none⟩ = some (Value.int .i64 0)
set_option maxHeartbeats 1000000 in
theorem made_none (w : World) : Calls Tryd.prog 55 #[.pointer none] w fun e w' => e = .returned (.bool false) ∧ w = w' := by
  go_enter Tryd.func55, Tryd.ntmps55
  go_wp2_with fail
  go_ret
  exact ⟨rfl, rfl⟩
set_option maxHeartbeats 1000000 in
theorem made_plain (g : Nat) (w : World) (h : w.cell? ⟨g, 0, none⟩ = some (Value.int .i64 0)) : Calls Tryd.prog 55 #[.pointer (some ⟨g, 0, none⟩)] w fun e w' => e = .returned (.bool false) ∧ w = w' := by
  go_enter Tryd.func55, Tryd.ntmps55
  go_wp2_with fail
  go_ret
  exact ⟨rfl, rfl⟩
theorem made_no (p : Option Addr) (w : World) (h : NoDec w p) : Calls Tryd.prog 55 #[.pointer p] w fun e w' => e = .returned (.bool false) ∧ w = w' := by
  rcases h with rfl | ⟨g, rfl, h⟩
  · exact made_none w
  · exact made_plain g w h
set_option maxHeartbeats 1000000 in
theorem feed_no (p : Option Addr) (v : Value) (w : World) (h : NoDec w p) : Calls Tryd.prog 34 #[.pointer p, v] w fun e w' => e = .returned (.tuple #[.slice none 0 0, .int .i64 0, .bool false, .int .i64 1]) ∧ w = w' := by
  go_enter Tryd.func34, Tryd.ntmps34
  go_wp2_with fail
  refine (made_no p _ h).mono ?_
  rintro e w' ⟨rfl, rfl⟩
  go_wp2_with fail
  refine bodyPost_ret (four_results rfl _ _ _) rfl ?_
  exact ⟨rfl, rfl⟩
set_option maxHeartbeats 1000000 in
theorem end_no (p : Option Addr) (w : World) (h : NoDec w p) : Calls Tryd.prog 36 #[.pointer p] w fun e w' => e = .returned (.tuple #[.bool false, .int .i64 1]) ∧ w = w' := by
  go_enter Tryd.func36, Tryd.ntmps36
  go_wp2_with fail
  refine (made_no p _ h).mono ?_
  rintro e w' ⟨rfl, rfl⟩
  go_wp2_with fail
  go_ret2
  exact ⟨rfl, rfl⟩
end Go.Proofs.YtoofdompafkddaaDoor.Fr
