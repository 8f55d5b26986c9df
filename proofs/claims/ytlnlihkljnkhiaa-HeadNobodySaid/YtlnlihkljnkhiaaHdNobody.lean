/-
  A reader that is nil, or that no call made: what its methods return. No condition.
-/
import Derived.Test.YtlnlihkljnkhiaaFdKit
namespace Go.Proofs.Ytlnlihkljnkhiaa.Hd
open Go.RowKit Go.Proofs.Ytlnlihkljnkhiaa.Fd
set_option linter.unusedVariables false

/-- A reader that no call made: nil, or a plain one. -/
def NoReader (w : World) (p : Option Addr) : Prop := p = none ∨ ∃ g, p = some ⟨g, 0, none⟩ ∧ w.cell? ⟨g, 2, none⟩ = some Value.nilFunc
def reqZero : Value := .agg #[.string ⟨#[]⟩, .string ⟨#[]⟩, .int .i64 0, .slice none 0 0]
def resZero : Value := .agg #[.int .i64 0, .int .i64 0, .string ⟨#[]⟩, .slice none 0 0]

theorem neq_nil (w : World) : (binOp .neq 24 .nilFunc .nilFunc).run Try.prog w = .ok (.bool false) w := by kernel_rfl
theorem neq_fun (w : World) (fn : Fn) (fi ca : Array Value) : (binOp .neq 24 (.func fn fi ca) .nilFunc).run Try.prog w = .ok (.bool true) w := by kernel_rfl
set_option maxHeartbeats 1000000 in
theorem made_none (w : World) : Calls Try.prog 7 #[.pointer none] w fun e w' => e = .returned (.bool false) ∧ w = w' := by
  go_enter Try.func7, Try.ntmps7
  go_wp2_with fail
  go_ret
  exact ⟨rfl, rfl⟩
set_option maxHeartbeats 1000000 in
theorem made_plain (g : Nat) (w : World) (h : w.cell? ⟨g, 2, none⟩ = some Value.nilFunc) : Calls Try.prog 7 #[.pointer (some ⟨g, 0, none⟩)] w fun e w' => e = .returned (.bool false) ∧ w = w' := by
  have hq := neq_nil
  go_enter Try.func7, Try.ntmps7
  go_wp2_with fail
  go_ret
  exact ⟨rfl, rfl⟩
theorem made_no (p : Option Addr) (w : World) (h : NoReader w p) : Calls Try.prog 7 #[.pointer p] w fun e w' => e = .returned (.bool false) ∧ w = w' := by
  rcases h with rfl | ⟨g, rfl, h⟩
  · exact made_none w
  · exact made_plain g w h
set_option maxHeartbeats 1000000 in
theorem feed_no (p : Option Addr) (v : Value) (w : World) (h : NoReader w p) : Calls Try.prog 4 #[.pointer p, v] w fun e w' => e = .returned (.tuple #[.int .i64 0, .bool false, .int .i64 1]) ∧ w = w' := by
  go_enter Try.func4, Try.ntmps4
  go_wp2_with fail
  refine (made_no p _ h).mono ?_
  rintro e w' ⟨rfl, rfl⟩
  go_wp2_with fail
  go_ret3
  exact ⟨rfl, rfl⟩
set_option maxHeartbeats 1000000 in
theorem untold_no (p : Option Addr) (b : Bool) (w : World) (h : NoReader w p) : Calls Try.prog 9 #[.pointer p, .bool b] w fun e w' => e = .returned (.int .i64 1) ∧ w = w' := by
  go_enter Try.func9, Try.ntmps9
  go_wp2_with fail
  refine (made_no p _ h).mono ?_
  rintro e w' ⟨rfl, rfl⟩
  go_wp2_with fail
  go_ret
  exact ⟨rfl, rfl⟩
theorem nobody_alloc {w : World} {p : Option Addr} (h : NoReader w p) (o : Obj) : NoReader (w.alloc o) p := by
  rcases h with h | ⟨g, h, hc⟩
  · exact .inl h
  · refine .inr ⟨g, h, ?_⟩
    have hlt := World.block_lt_of_cell? w _ hc
    exact ((Below.refl w.heap.size w).alloc (Nat.le_refl _) o).cell (p := ⟨g, 2, none⟩) hlt |>.trans hc
theorem infoReq : (Try.prog.info? 30).map (·.size) = some 4 := by kernel_rfl
theorem infoRes : (Try.prog.info? 32).map (·.size) = some 4 := by kernel_rfl
theorem put4 {w : World} {g : Nat} {a b c d : Value} {t : TypeId} {fr : Nat × Nat} (h : w.heap[g]? = some (.cells #[a, b, c, d] t fr)) (x y z u : Value) :
    ((((w.setCell ⟨g, 0, none⟩ x).setCell ⟨g, 1, none⟩ y).setCell ⟨g, 2, none⟩ z).setCell ⟨g, 3, none⟩ u).heap[g]? = some (.cells #[x, y, z, u] t fr) := by
  rw [heap_put (heap_put (heap_put (heap_put h 0 x) 1 y) 2 z) 3 u]; rfl
set_option maxHeartbeats 1000000 in
theorem request_no (p : Option Addr) (w : World) (h : NoReader w p) : Calls Try.prog 5 #[.pointer p] w fun e w' => e = .returned (.tuple #[reqZero, .int .i64 1]) ∧ Below w.heap.size w w' := by
  have HN := Lib.hid h
  clear h
  go_enter Try.func5, Try.ntmps5
  go_wp2_with fail
  refine (untold_no p false _ (nobody_alloc HN.out _)).mono ?_
  rintro e w' ⟨rfl, rfl⟩
  go_wp2_with fail
  refine bodyPost_ret (results_pair rfl _ _ w.heap.size 30 _ (0, 0) _ rfl (new_block _ _) Try.underlying30 rfl infoReq) rfl ?_
  exact ⟨rfl, (Below.refl _ _).alloc (Nat.le_refl _) _⟩
set_option maxHeartbeats 1000000 in
theorem response_no (p : Option Addr) (w : World) (h : NoReader w p) : Calls Try.prog 6 #[.pointer p] w fun e w' => e = .returned (.tuple #[resZero, .int .i64 1]) ∧ Below w.heap.size w w' := by
  have HN := Lib.hid h
  clear h
  go_enter Try.func6, Try.ntmps6
  go_wp2_with fail
  refine (untold_no p true _ (nobody_alloc HN.out _)).mono ?_
  rintro e w' ⟨rfl, rfl⟩
  go_wp2_with fail
  refine bodyPost_ret (results_pair rfl _ _ w.heap.size 32 _ (0, 0) _ rfl (new_block _ _) Try.underlying32 rfl infoRes) rfl ?_
  exact ⟨rfl, (Below.refl _ _).alloc (Nat.le_refl _) _⟩
end Go.Proofs.Ytlnlihkljnkhiaa.Hd
