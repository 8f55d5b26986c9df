/-
  The closures that read a directive's number, and what makes them: what each returns and leaves. No condition but what each states.
-/
import Derived.Test.YtmnnbefigepgfaaDoorCtCells
import Derived.Test.YtmnnbefigepgfaaDoorNum
import Derived.Deep.RegionWith
import Derived.Laws.EntriesVeiled
namespace Go.Proofs.YtmnnbefigepgfaaDoor.Ct
open Go.RowKit Go.Proofs.YtmnnbefigepgfaaDoor.Tk Go.Proofs.YtmnnbefigepgfaaDoor.Fd Go.Proofs.YtmnnbefigepgfaaDoor.Hd
set_option linter.unusedVariables false

/-- The number that a directive tells: bare, where it has no value; wrong, where that is no number. -/
def told (bare wrong : Int) (v : ByteArray) (has : Bool) : Int := if has = false then bare else if (Num.numOf v most).2 = false then wrong else (Num.numOf v most).1
/-- A variable of one cell. -/
def Var (w : World) (b : Nat) (x : Value) (t : TypeId) : Prop := w.heap[b]? = some (.cells #[x] t (0, 0))
theorem Var.cell {w : World} {b : Nat} {x : Value} {t : TypeId} (h : Var w b x t) : w.cell? ⟨b, 0, none⟩ = some x := by rw [Lib.cell_of_heap h]; rfl
theorem Var.more {w w' : World} {b : Nat} {x : Value} {t : TypeId} (h : Var w b x t) {B : Nat} (hb : Below B w w') (hl : b < B) : Var w' b x t := Bl.old hb hl h

set_option maxHeartbeats 4000000 in
theorem number1_any (g i b0 b1 b2 : Nat) (x bare wrong : Int) (v : ByteArray) (has : Bool) (w : World) (hv : v.size ≤ maxLen) (h0 : Var w b0 (.int .i64 bare) 3) (h1 : Var w b1 (.int .i64 wrong) 3) (h2 : Var w b2 (.pointer (some ⟨g, i, none⟩)) 62)
    (hx : w.cell? ⟨g, i, none⟩ = some (.int .i64 x)) (hf : w.frozen? ⟨g, i, none⟩ = false) :
    Calls Tryd.prog 46 #[.string v, .bool has, .pointer (some ⟨b0, 0, none⟩), .pointer (some ⟨b1, 0, none⟩), .pointer (some ⟨b2, 0, none⟩)] w fun e w' => e = .returned (.tuple #[]) ∧ PutAt w w' ⟨g, i, none⟩ (.int .i64 (leastP x (told bare wrong v has))) := by
  have c0 := h0.cell
  have c1 := h1.cell
  have c2 := h2.cell
  clear h0 h1 h2
  obtain ⟨N, ok, hN⟩ : ∃ N ok, Num.numOf v most = (N, ok) := ⟨_, _, rfl⟩
  have HN1 := Lib.hid (show (Num.numOf v most).1 = N from by rw [hN])
  have HN2 := Lib.hid (show (Num.numOf v most).2 = ok from by rw [hN])
  have HC := Lib.hid (show Calls Tryd.prog 47 #[.string v, .int .i64 2147483648] w fun e w' => e = .returned (.tuple #[.int .i64 N, .bool ok]) ∧ w = w' from by
    have h := Num.number_any v most w hv (by decide)
    rw [hN] at h
    exact h)
  clear hN
  cases has with
  | false =>
    have HT := Lib.hid (show told bare wrong v false = bare from rfl)
    rw [HT.out]
    go_enter Tryd.func46, Tryd.ntmps46
    go_wp2_with (go_at_call 47; refine HC.out.mono ?_; rintro e w2 ⟨rfl, rfl⟩)
    go_region_with (go_at_call 48; refine (leastP_any _ _ _).mono ?_; rintro e w2 ⟨rfl, rfl⟩)
    all_goals
      go_wp2_with fail
      go_end0
      exact ⟨rfl, rfl, rfl, rfl, rfl⟩
  | true =>
    cases ok with
    | false =>
      have HT := Lib.hid (show told bare wrong v true = wrong from by unfold told; rw [if_neg (by decide), if_pos HN2.out])
      rw [HT.out]
      go_enter Tryd.func46, Tryd.ntmps46
      go_wp2_with (go_at_call 47; refine HC.out.mono ?_; rintro e w2 ⟨rfl, rfl⟩)
      go_region_with (go_at_call 48; refine (leastP_any _ _ _).mono ?_; rintro e w2 ⟨rfl, rfl⟩)
      all_goals
        go_wp2_with fail
        go_end0
        exact ⟨rfl, rfl, rfl, rfl, rfl⟩
    | true =>
      have HT := Lib.hid (show told bare wrong v true = N from by unfold told; rw [if_neg (by decide), if_neg (by rw [HN2.out]; decide), HN1.out])
      rw [HT.out]
      go_enter Tryd.func46, Tryd.ntmps46
      go_wp2_with (go_at_call 47; refine HC.out.mono ?_; rintro e w2 ⟨rfl, rfl⟩)
      go_region_with (go_at_call 48; refine (leastP_any _ _ _).mono ?_; rintro e w2 ⟨rfl, rfl⟩)
      all_goals
        go_wp2_with fail
        go_end0
        exact ⟨rfl, rfl, rfl, rfl, rfl⟩

/-- What a directive is: it sets the flag of a cell, or tells a cell's number. -/
inductive Kind where
  | flag (i : Nat)
  | num (i : Nat) (bare wrong : Int)
/-- A directive's value: a closure, and what it has captured. -/
def DirOf (w : World) (g : Nat) : Kind → Value → Prop
  | .flag i, v => ∃ b, v = .agg #[.func (.func 45) #[] #[.pointer (some ⟨b, 0, none⟩)]] ∧ g < b ∧ Var w b (.pointer (some ⟨g, i, none⟩)) 60
  | .num i bare wrong, v => ∃ b0 b1 b2, v = .agg #[.func (.func 46) #[] #[.pointer (some ⟨b0, 0, none⟩), .pointer (some ⟨b1, 0, none⟩), .pointer (some ⟨b2, 0, none⟩)]] ∧ g < b0 ∧ g < b1 ∧ g < b2 ∧
      Var w b0 (.int .i64 bare) 3 ∧ Var w b1 (.int .i64 wrong) 3 ∧ Var w b2 (.pointer (some ⟨g, i, none⟩)) 62
theorem DirOf.same {w w' : World} {g : Nat} {k : Kind} {v : Value} (h : DirOf w g k v) (hb : ∀ b, g < b → b < w.heap.size → w'.heap[b]? = w.heap[b]?) : DirOf w' g k v := by
  cases k with
  | flag i =>
    obtain ⟨b, e, hg, hv⟩ := h
    exact ⟨b, e, hg, (hb b hg (block_lt hv)).trans hv⟩
  | num i bare wrong =>
    obtain ⟨b0, b1, b2, e, g0, g1, g2, v0, v1, v2⟩ := h
    exact ⟨b0, b1, b2, e, g0, g1, g2, (hb b0 g0 (block_lt v0)).trans v0, (hb b1 g1 (block_lt v1)).trans v1, (hb b2 g2 (block_lt v2)).trans v2⟩
theorem infoDir : (Tryd.prog.info? 47).map (·.size) = some 1 := by kernel_rfl

set_option maxHeartbeats 4000000 in
theorem flag_any (g i : Nat) (w : World) (hg : g < w.heap.size) : Calls Tryd.prog 29 #[.pointer (some ⟨g, i, none⟩)] w fun e w' => ∃ v, e = .returned v ∧ DirOf w' g (.flag i) v ∧ Below w.heap.size w w' := by
  go_enter Tryd.func29, Tryd.ntmps29
  go_wp2_with fail
  refine bodyPost_ret (results_one rfl _ _ (w.heap.size + 1) 47 _ (0, 0) _ rfl (new_block' _ _ (by simp)) Tryd.underlying47 rfl infoDir) rfl ?_
  refine ⟨_, rfl, ⟨w.heap.size, rfl, hg, ?_⟩, ((Below.refl _ _).alloc (Nat.le_refl _) _).alloc (by simp) _⟩
  exact (old_block _ _ (by simp)).trans (new_block _ _)
set_option maxHeartbeats 4000000 in
theorem number_any (g i : Nat) (bare wrong : Int) (w : World) (hg : g < w.heap.size) : Calls Tryd.prog 30 #[.pointer (some ⟨g, i, none⟩), .int .i64 bare, .int .i64 wrong] w fun e w' => ∃ v, e = .returned v ∧ DirOf w' g (.num i bare wrong) v ∧ Below w.heap.size w w' := by
  go_enter Tryd.func30, Tryd.ntmps30
  go_wp2_with fail
  refine bodyPost_ret (results_one rfl _ _ (w.heap.size + 3) 47 _ (0, 0) _ rfl (new_block' _ _ (by simp <;> omega)) Tryd.underlying47 rfl infoDir) rfl ?_
  refine ⟨_, rfl, ⟨w.heap.size + 1, w.heap.size + 2, w.heap.size, rfl, by omega, by omega, hg, ?_, ?_, ?_⟩, ((((Below.refl _ _).alloc (Nat.le_refl _) _).alloc (by simp <;> omega) _).alloc (by simp <;> omega) _).alloc (by simp <;> omega) _⟩
  · exact (old_block _ _ (by simp <;> omega)).trans ((old_block _ _ (by simp <;> omega)).trans (new_block' _ _ (by simp <;> omega)))
  · exact (old_block _ _ (by simp <;> omega)).trans (new_block' _ _ (by simp <;> omega))
  · exact (old_block _ _ (by simp <;> omega)).trans ((old_block _ _ (by simp <;> omega)).trans ((old_block _ _ (by simp <;> omega)).trans (new_block _ _)))
end Go.Proofs.YtmnnbefigepgfaaDoor.Ct
