/-
  Texts that the laws' proofs stand on, 3 of them in one file; each one's head says what it proves and under which condition.
-/
import Derived.Test.YtjbdgndejbiikaaDoorSgAP15
import Derived.Test.YtjbdgndejbiikaaDoorSgAP8
import Derived.Deep.QuietTactic
import Derived.BigQuiet
import Derived.Test.YtjbdgndejbiikaaDoorSgAP1
import Derived.Lib.SmallJoins
import Derived.SizedLaws
import Derived.ProofKit
import Derived.ChangeArms
import Derived.OpenShut
/-
  Slices of fields as the model has them. No condition.
-/
namespace Go.Proofs.YtjbdgndejbiikaaDoor.Fd
open Go.RowKit Tk
set_option linter.unusedVariables false

/-- The fields' cells lie from off on. -/
def FAt (w : World) (b off : Nat) (fs : List Fl) : Prop := ∀ j (hj : j < fs.length), w.cell? ⟨b, off + j * 2, none⟩ = some (.string fs[j].1) ∧ w.cell? ⟨b, off + j * 2 + 1, none⟩ = some (.string fs[j].2)
/-- A slice value that reads as these fields. -/
def Flds (w : World) (v : Value) (fs : List Fl) : Prop :=
  (fs = [] ∧ ∃ a cap, v = .slice a 0 cap) ∨ ∃ b off cap, v = .slice (some ⟨b, off, none⟩) fs.length cap ∧ b < w.heap.size ∧ FAt w b off fs
theorem Flds.below {B : Nat} {w w' : World} {v : Value} {fs : List Fl} (h : Flds w v fs) (hb : Below B w w') (hB : w.heap.size ≤ B) : Flds w' v fs := by
  rcases h with h | ⟨b, off, cap, hv, hlt, hc⟩
  · exact .inl h
  · refine .inr ⟨b, off, cap, hv, Nat.lt_of_lt_of_le hlt hb.size, fun j hj => ?_⟩
    rw [hb.cell (p := ⟨b, off + j * 2, none⟩) (by show b < B; omega), hb.cell (p := ⟨b, off + j * 2 + 1, none⟩) (by show b < B; omega)]
    exact hc j hj
theorem Flds.shape {w : World} {v : Value} {fs : List Fl} (h : Flds w v fs) : ∃ a cap, v = .slice a fs.length cap := by
  rcases h with ⟨rfl, a, cap, hv⟩ | ⟨b, off, cap, hv, _⟩
  · exact ⟨a, cap, hv⟩
  · exact ⟨_, cap, hv⟩
theorem FAt.drewN {w : World} {b off : Nat} {fs : List Fl} (h : FAt w b off fs) (n : Nat) : FAt (w.drewN n) b off fs := h

theorem flds_one {w : World} {g : Nat} {a b : ByteArray} (h : w.heap[g]? = some (.cells #[.string a, .string b] 27 (0, 0))) : Flds w (.slice (some ⟨g, 0, none⟩) 1 1) [(a, b)] := by
  refine .inr ⟨_, 0, 1, rfl, block_lt h, fun j hj => ?_⟩
  have : j = 0 := by simpa using hj
  subst this
  exact ⟨two0 h, two1 h⟩
end Go.Proofs.YtjbdgndejbiikaaDoor.Fd
/-
  Lists of fields that calls made: rows of cells of their own. No condition.
-/
namespace Go.Proofs.YtjbdgndejbiikaaDoor.Fd
open Go.RowKit Tk
set_option linter.unusedVariables false

/-- Fields as cells. -/
def flat (fs : List Fl) : List Value := fs.flatMap fun f => [.string f.1, .string f.2]
theorem flat_snoc (fs : List Fl) (f : Fl) : flat (fs ++ [f]) = flat fs ++ [.string f.1, .string f.2] := by simp [flat]
theorem flat_length (fs : List Fl) : (flat fs).length = fs.length * 2 := by
  induction fs with
  | nil => rfl
  | cons f r ih => simp only [flat, List.flatMap_cons, List.length_append, List.length_cons, List.length_nil] at ih ⊢; omega
theorem flat_at (fs : List Fl) (j : Nat) (h : j < fs.length) : (flat fs)[j * 2]? = some (.string fs[j].1) ∧ (flat fs)[j * 2 + 1]? = some (.string fs[j].2) := by
  induction fs generalizing j with
  | nil => simp at h
  | cons f r ih =>
    cases j with
    | zero => exact ⟨rfl, rfl⟩
    | succ j =>
      have h2 := ih j (by simpa using h)
      have e1 : (j + 1) * 2 = j * 2 + 2 := by omega
      have e2 : (j + 1) * 2 + 1 = j * 2 + 1 + 2 := by omega
      rw [e2, e1]
      exact ⟨h2.1, h2.2⟩
theorem owns_kept {w w' : World} {base : Nat} {e : TypeId} {sz : Nat} {v : Value} {n : Nat} {xs : List Value} (h : w.ownsRow base e sz v n xs) (hb : Below w.heap.size w w') : w'.ownsRow base e sz v n xs := by
  refine ⟨h.1, ?_⟩
  rcases h.2 with h2 | ⟨g, cap, cur, hv, hg, hh, r⟩
  · exact .inl h2
  · exact .inr ⟨g, cap, cur, hv, hg, (hb.block g (block_lt hh)).trans hh, r⟩
theorem owns_mono {w : World} {base base' : Nat} {e : TypeId} {size : Nat} {v : Value} {n : Nat} {xs : List Value} (h : w.ownsRow base e size v n xs) (hb : base' ≤ base) : w.ownsRow base' e size v n xs := by
  refine ⟨h.1, ?_⟩
  rcases h.2 with h2 | ⟨g, cap, cur, hv, hg, r⟩
  · exact .inl h2
  · exact .inr ⟨g, cap, cur, hv, by omega, r⟩
/-- A slice of fields that a call made, in memory from base on. -/
def OwnF (w : World) (base : Nat) (v : Value) (fs : List Fl) : Prop := w.ownsRow base 27 2 v fs.length (flat fs)
theorem OwnF.nil (w : World) (base : Nat) : OwnF w base (.slice none 0 0) [] := World.ownsRow_nil _ _ _ _
theorem OwnF.flds {w : World} {base : Nat} {v : Value} {fs : List Fl} (h : OwnF w base v fs) : Flds w v fs := by
  rcases h.2 with ⟨hv, h0⟩ | ⟨g, cap, cur, hv, _, hg, _⟩
  · exact .inl ⟨List.length_eq_zero_iff.1 h0, none, 0, hv⟩
  · refine .inr ⟨g, 0, cap, hv, block_lt hg, fun j hj => ?_⟩
    have h' : w.ownsRow base 27 2 (.slice (some ⟨g, 0, none⟩) fs.length cap) fs.length (flat fs) := by rw [← hv]; exact h
    obtain ⟨a, b⟩ := flat_at fs j hj
    rw [Nat.zero_add, h'.cellAt (j * 2) (by omega), h'.cellAt (j * 2 + 1) (by omega), a, b]
    exact ⟨rfl, rfl⟩
theorem OwnF.kept {w w' : World} {base : Nat} {v : Value} {fs : List Fl} (h : OwnF w base v fs) (hb : Below w.heap.size w w') : OwnF w' base v fs := owns_kept h hb
theorem OwnF.form {w : World} {base : Nat} {v : Value} {fs : List Fl} (h : OwnF w base v fs) : ∃ a cap, v = .slice a fs.length cap := h.flds.shape
theorem OwnF.row {w : World} {base : Nat} {v : Value} {fs : List Fl} (h : OwnF w base v fs) : ∀ k, v.ownBlock = some k → base ≤ k := fun k hk => (World.ownsRow.lt h k hk).1
theorem one_cells (x y : ByteArray) : ∀ u ∈ [Value.string x, Value.string y], u.oneCell' = true := by intro u hu; simp at hu; rcases hu with rfl | rfl <;> rfl
theorem news_at {w : World} {g : Nat} {x y : Value} {t : TypeId} (h : w.heap[g]? = some (.cells #[x, y] t (0, 0))) : ∀ j u, [x, y][j]? = some u → w.cell? ((⟨g, 0, none⟩ : Addr).add j) = some u := by
  intro j u hu
  match j, hu with
  | 0, hu => simp at hu; subst hu; exact two0 h
  | 1, hu => simp at hu; subst hu; exact two1 h

end Go.Proofs.YtjbdgndejbiikaaDoor.Fd
/-
  A slice of bytes, as it reads; one that came in. Condition: what the form says of what is read.
-/
namespace Go.Proofs.YtjbdgndejbiikaaDoor.Hd
open Go.RowKit Go.Proofs.YtjbdgndejbiikaaDoor.Tk Go.ChangeShapes Go.WideShapes
set_option linter.unusedVariables false

/-- A slice value that reads as these bytes. -/
def Byts (w : World) (v : Value) (l : Bs) : Prop :=
  (l = [] ∧ ∃ a cap, v = .slice a 0 cap) ∨ ∃ b off cap, v = .slice (some ⟨b, off, none⟩) l.length cap ∧ l.length ≤ cap ∧ cap ≤ maxLen ∧ b < w.heap.size ∧ Holds w b off l
theorem holds_below {B : Nat} {w w' : World} {b off : Nat} {l : Bs} (h : Holds w b off l) (hb : Below B w w') (hB : b < B) : Holds w' b off l := fun j hj => by
  rw [hb.cell (p := ⟨b, off + j, none⟩) hB]; exact h j hj
theorem Byts.below {B : Nat} {w w' : World} {v : Value} {l : Bs} (h : Byts w v l) (hb : Below B w w') (hB : w.heap.size ≤ B) : Byts w' v l := by
  rcases h with h | ⟨b, off, cap, hv, hc, hm, hlt, hh⟩
  · exact .inl h
  · exact .inr ⟨b, off, cap, hv, hc, hm, Nat.lt_of_lt_of_le hlt hb.size, holds_below hh hb (by omega)⟩
theorem Byts.shape {w : World} {v : Value} {l : Bs} (h : Byts w v l) : ∃ a cap, v = .slice a l.length cap := by
  rcases h with ⟨rfl, a, cap, hv⟩ | ⟨b, off, cap, hv, _⟩
  · exact ⟨a, cap, hv⟩
  · exact ⟨_, cap, hv⟩

theorem cellsByte : Tryd.prog.cellsOf 5 = 1 := by kernel_rfl
theorem byte_back {n : Int} (h : (Lit.int .u8 n).wf = true) : (((UInt8.ofNat n.toNat).toNat : Nat) : Int) = n := by
  have h2 : 0 ≤ n ∧ n < 256 := by
    have e1 : IntKind.u8.min = 0 := rfl
    have e2 : IntKind.u8.max = 255 := rfl
    simp [Lit.wf, e1, e2] at h
    omega
  rw [UInt8.toNat_ofNat']
  omega
set_option maxRecDepth 100000 in
theorem open_byts {H : Type} {enc : TypeId × Value → H} {W : World} {base : Nat} {v : Value} {d : DataW H} {p : List MemPlace} (hv : Value.okWide Tryd.prog W .any base 77 v)
    (h : DataW.Trod enc Tryd.prog W 0 (fun _ => true) true 77 v d p) :
    ∃ l : Bs, Byts W v l ∧ l.length ≤ maxLen := by
  obtain ⟨a0, len0, cap0, rfl⟩ := okWide_slice Tryd.underlying77 hv
  obtain ⟨fuel, hf⟩ := h
  rcases open_ints Tryd.underlying77 Tryd.underlying5 cellsByte hf with ⟨hcs, _⟩ | ⟨a, len, cap, zs, hcs, _, hl, hm, hz, hx, hcell, hwz⟩
  · simp [Value.cells] at hcs
    obtain ⟨rfl, rfl, rfl⟩ := hcs
    exact ⟨[], .inl ⟨rfl, _, _, rfl⟩, by simp⟩
  · simp [Value.cells] at hcs
    obtain ⟨rfl, rfl, rfl⟩ := hcs
    simp only [if_true] at hz
    by_cases h0 : len0 = 0
    · subst h0; exact ⟨[], .inl ⟨rfl, _, _, rfl⟩, by simp⟩
    · obtain ⟨b, off, spot⟩ := a
      have hc0 := hcell 0 (by omega)
      have hspot : spot = none := by simpa [Addr.add] using World.cell?_spot hc0
      subst hspot
      have hlen : ((zs.take len0).map fun n => UInt8.ofNat n.toNat).length = len0 := by simp; omega
      refine ⟨(zs.take len0).map fun n => UInt8.ofNat n.toNat, .inr ⟨b, off, cap0, by rw [hlen], by rw [hlen]; exact hl, hm, ?_, fun j hj => ?_⟩, by rw [hlen]; omega⟩
      · rw [Addr.add_lit] at hc0
        exact World.block_lt_of_cell? W _ hc0
      · rw [hlen] at hj
        have hcj := hcell j (by omega)
        rw [Addr.add_lit] at hcj
        have hjz : j < zs.length := by omega
        have hw := hwz zs[j] (List.getElem_mem hjz)
        have e : zs.getD j 0 = zs[j] := by simp [List.getD, List.getElem?_eq_getElem hjz]
        rw [hcj, e]
        simp only [List.getElem_map, List.getElem_take]
        rw [byte_back hw]
end Go.Proofs.YtjbdgndejbiikaaDoor.Hd
