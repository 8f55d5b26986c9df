/-
  slices.Clone at fields; a reader's untold, Request and Response: what each returns. Conditions: fields of at most 2^20 bytes in all.
-/
import Derived.Test.YtlnlihkljnkhiaaDoorHdFeed
import Derived.Laws.AppendOwnNone
import Derived.WalkSpells
import Derived.Lib.LazyBuf
namespace Go.Proofs.YtlnlihkljnkhiaaDoor.Hd
open Go.RowKit Go.Proofs.YtlnlihkljnkhiaaDoor.Tk Go.Proofs.YtlnlihkljnkhiaaDoor.Fd
set_option linter.unusedVariables false

def ListPost (fs : List Fl) (w : World) (e : Ending) (w' : World) : Prop := ∃ u, e = .returned u ∧ OwnF w' w.heap.size u fs ∧ Below w.heap.size w w'
theorem flat_one (fs : List Fl) : ∀ u ∈ flat fs, u.oneCell' = true := by
  intro u hu
  unfold flat at hu
  rw [List.mem_flatMap] at hu
  obtain ⟨f, _, hf⟩ := hu
  exact one_cells f.1 f.2 u hf
set_option maxRecDepth 100000 in
set_option maxHeartbeats 4000000 in
theorem clone_any (v : Value) (fs : List Fl) (w : World) (h : OwnF w 0 v fs) (hl : fs.length ≤ 1048576) : Calls Tryd.prog 26 #[v] w (ListPost fs w) := by
  have hq := fun (w : World) (a : Option Addr) (n c : Nat) => Lib.run_eql_slice_nil (P := Tryd.prog) w 27 56 a n c 0 0 Tryd.underlying27
  rcases h.2 with ⟨rfl, h0⟩ | ⟨q, C, cur, hv, _, hh, hlc, hcm, hcs, htk⟩
  · have hfs : fs = [] := List.length_eq_zero_iff.1 h0
    subst hfs
    clear h h0
    go_enter Tryd.func26, Tryd.ntmps26
    go_wp2_with fail
    go_ret
    exact ⟨_, rfl, OwnF.nil _ _, Below.refl _ _⟩
  · subst hv
    obtain ⟨i0, hi, hz0, hz1, hz2⟩ := info_parts infoField
    have HO := Lib.hid h
    have HW := Lib.hid (show (w.alloc (.cells #[] 56)).ownsRow w.heap.size 56 2 (.slice (some ⟨w.heap.size, 0, none⟩) 0 0) 0 [] from World.ownsRow_lit (base := w.heap.size) (e := 56) (size := 2) w #[] 0 (Nat.le_refl _) (Nat.zero_le _) rfl)
    have hB1 := (Below.refl w.heap.size w).alloc (Nat.le_refl _) (.cells #[] 56)
    have HN := Lib.hid (World.ownsRow.cells (owns_kept HO.out hB1) (g := q) rfl)
    clear h hh htk hcs
    go_enter Tryd.func26, Tryd.ntmps26
    go_wp2_with (at_builtin; refine wpList_append_own _ rfl _ _ 27 rfl w.heap.size 56 i0 (.agg #[.string ⟨#[]⟩, .string ⟨#[]⟩]) 2 32 Tryd.underlying27 hi hz0 hz1 hz2 rfl (by decide) _ _ _ rfl HW.out ⟨q, 0, none⟩ fs.length C (flat fs) rfl (flat_length _) HN.out (fun y hy => flat_one _ y hy) (by unfold maxLen; omega) (by omega) hB1.size ?_; intro v' w6 hown' hgrow hnil)
    have HB6 := Lib.hid (hB1.grown hgrow hB1.size (fun k hk => by injection hk with hk; subst hk; exact Nat.le_refl _))
    have HO6 := Lib.hid (show OwnF w6 w.heap.size v' fs from by unfold OwnF; rw [Nat.zero_add, List.nil_append] at hown'; exact hown')
    clear hown' hgrow hnil
    go_wp2_with fail
    go_ret
    exact ⟨_, rfl, HO6.out, HB6.out⟩

set_option maxHeartbeats 2000000 in
theorem untold_any (O : Nat → Prop) (resp want : Bool) (g : Nat) (s : St) (w : World) (h : Rdr w O resp g s) :
    Calls Tryd.prog 25 #[.pointer (some ⟨g, 0, none⟩), .bool want] w fun e w' => e = .returned (.int .i64 (if doneOf s && resp == want then 0 else 16)) ∧ w = w' := by
  obtain ⟨⟨F, hF, c2⟩, c5, c6⟩ := h.tells
  obtain ⟨D, hD⟩ : ∃ D, D = doneOf s := ⟨_, rfl⟩
  rw [← hD] at c5 ⊢
  cases D with
  | false =>
    clear h hD c6
    go_enter Tryd.func25, Tryd.ntmps25
    go_wp2_with fail
    refine (made_yes g F _ hF c2).mono ?_
    rintro e w' ⟨rfl, rfl⟩
    go_wp2_with fail
    go_ret
    exact ⟨rfl, rfl⟩
  | true =>
    have c0 : w.cell? ⟨g, 0, none⟩ = some (.bool resp) := by
      cases s with
      | on => simp [doneOf] at hD
      | done q fs => obtain ⟨M, F, lv, n, fv, hF, hb, _⟩ := h; exact rc0 hb
      | bad => simp [doneOf] at hD
    clear h hD c6
    cases resp <;> cases want
    all_goals
      go_enter Tryd.func25, Tryd.ntmps25
      go_wp2_with fail
      refine (made_yes g F _ hF c2).mono ?_
      rintro e w' ⟨rfl, rfl⟩
      go_wp2_with fail
      go_ret
      exact ⟨rfl, rfl⟩
end Go.Proofs.YtlnlihkljnkhiaaDoor.Hd
