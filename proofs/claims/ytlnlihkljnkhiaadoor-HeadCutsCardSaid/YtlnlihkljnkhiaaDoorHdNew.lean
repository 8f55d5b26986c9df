/-
  head.New: what it returns. No condition.
-/
import Derived.Test.YtlnlihkljnkhiaaDoorHdLine
namespace Go.Proofs.YtlnlihkljnkhiaaDoor.Hd
open Go.RowKit Go.Proofs.YtlnlihkljnkhiaaDoor.Tk Go.Proofs.YtlnlihkljnkhiaaDoor.Fd
set_option linter.unusedVariables false

theorem infoPart : (Tryd.prog.info? 61).map (·.size) = some 2 := by kernel_rfl
def OpenPost (F1 : Value) (w : World) (e : Ending) (w' : World) : Prop :=
  e = .returned (.agg #[.int .i64 1026, fnOf w.heap.size none]) ∧ w'.heap[w.heap.size]? = some (.cells #[F1] 58 (0, 0)) ∧ Below w.heap.size w w'
set_option maxRecDepth 100000 in
set_option maxHeartbeats 4000000 in
theorem open_any (fn : Fn) (w : World) :
    Calls Tryd.prog 21 #[.func fn #[] #[]] w (OpenPost (.func fn #[] #[]) w) := by
  have HX := Lib.hid (fun o => (old_block (w.alloc (.cells #[.func fn #[] #[]] 58)) o (b := w.heap.size) (by simp)).trans (new_block w (.cells #[.func fn #[] #[]] 58)))
  have HB := Lib.hid ((((Below.refl w.heap.size w).alloc (Nat.le_refl _) (.cells #[.func fn #[] #[]] 58)).alloc (by simp) (.cells #[.int .i64 1026, fnOf w.heap.size none] 61)))
  have HN := Lib.hid (new_block' (w.alloc (.cells #[.func fn #[] #[]] 58)) (.cells #[.int .i64 1026, fnOf w.heap.size none] 61) (g := w.heap.size + 1) (by simp))
  go_enter Tryd.func21, Tryd.ntmps21
  go_wp2_with fail
  refine bodyPost_ret (results_one rfl _ _ (w.heap.size + 1) 61 _ (0, 0) _ rfl HN.out Tryd.underlying61 rfl infoPart) rfl ?_
  exact ⟨rfl, HX.out _, HB.out⟩
def NewPost (resp : Bool) (w : World) (e : Ending) (w' : World) : Prop :=
  ∃ g, e = .returned (.pointer (some ⟨g, 0, none⟩)) ∧ Rdr w' (fun k => w.heap.size ≤ k) resp g start ∧ Below w.heap.size w w'
theorem new_made (resp : Bool) (w w1 : World) (h1 : w1.heap[w.heap.size]? = some (.cells #[firstFn resp] 58 (0, 0))) (hb : Below w.heap.size w w1) :
    NewPost resp w (.returned (.pointer (some ⟨w1.heap.size, 0, none⟩))) (w1.alloc (.cells (rc resp 1026 (fnOf w.heap.size none) (.slice none 0 0) 0 false 0 resp .none (.slice none 0 0)) 64)) := by
  refine ⟨_, rfl, ⟨w.heap.size, .slice none 0 0, .slice none 0 0, new_block _ _, (old_block _ _ (block_lt h1)).trans h1, OwnB.nil _, OwnF.nil _ _, hb.size, Nat.le_refl _, (fun k hk => by cases hk), (fun k hk => by cases hk)⟩, hb.alloc hb.size _⟩
set_option maxRecDepth 100000 in
set_option maxHeartbeats 4000000 in
theorem new_any (resp : Bool) (w : World) : Calls Tryd.prog 7 #[.bool resp] w (NewPost resp w) := by
  cases resp with
  | false =>
    go_enter Tryd.func7, Tryd.ntmps7
    go_wp2_with fail
    refine (open_any (.func 19) w).mono ?_
    rintro e w1 ⟨rfl, h1, hb1⟩
    have HM := Lib.hid (new_made false w w1 h1 hb1)
    clear h1 hb1
    go_wp2_with fail
    go_ret
    exact HM.out
  | true =>
    go_enter Tryd.func7, Tryd.ntmps7
    go_wp2_with fail
    refine (open_any (.func 20) w).mono ?_
    rintro e w1 ⟨rfl, h1, hb1⟩
    have HM := Lib.hid (new_made true w w1 h1 hb1)
    clear h1 hb1
    go_wp2_with fail
    go_ret
    exact HM.out
end Go.Proofs.YtlnlihkljnkhiaaDoor.Hd
