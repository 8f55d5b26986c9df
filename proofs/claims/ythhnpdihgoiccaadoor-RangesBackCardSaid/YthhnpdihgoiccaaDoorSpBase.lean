/-
  Slices of spans as the model has them: those that came in, and those that calls made. No condition.
-/
import Derived.Test.YthhnpdihgoiccaaDoorKit
import Derived.Test.YthhnpdihgoiccaaDoorSpLaw
import Derived.Deep.QuietTactic
import Derived.BigQuiet
namespace Go.Proofs.YthhnpdihgoiccaaDoor.Sn
open Go.RowKit Go.Proofs.YthhnpdihgoiccaaDoor.Fd
set_option linter.unusedVariables false

/-- A span as a value. -/
def SV (s : Sp) : Value := .agg #[.int .i64 s.1, .int .i64 s.2]
/-- The spans' cells lie from off on. -/
def SAt (w : World) (b off : Nat) (l : List Sp) : Prop := ∀ j (hj : j < l.length), w.cell? ⟨b, off + j * 2, none⟩ = some (.int .i64 l[j].1) ∧ w.cell? ⟨b, off + j * 2 + 1, none⟩ = some (.int .i64 l[j].2)
/-- A slice value that reads as these spans. -/
def Spans (w : World) (v : Value) (l : List Sp) : Prop :=
  (l = [] ∧ ∃ a cap, v = .slice a 0 cap) ∨ ∃ b off cap, v = .slice (some ⟨b, off, none⟩) l.length cap ∧ l.length ≤ cap ∧ cap ≤ 9223372036854775807 ∧ b < w.heap.size ∧ SAt w b off l
theorem Spans.nil (w : World) : Spans w (.slice none 0 0) [] := .inl ⟨rfl, _, _, rfl⟩
theorem Spans.below {B : Nat} {w w' : World} {v : Value} {l : List Sp} (h : Spans w v l) (hb : Below B w w') (hB : w.heap.size ≤ B) : Spans w' v l := by
  rcases h with h | ⟨b, off, cap, hv, hc, hm, hlt, hs⟩
  · exact .inl h
  · refine .inr ⟨b, off, cap, hv, hc, hm, Nat.lt_of_lt_of_le hlt hb.size, fun j hj => ?_⟩
    rw [hb.cell (p := ⟨b, off + j * 2, none⟩) (by show b < B; omega), hb.cell (p := ⟨b, off + j * 2 + 1, none⟩) (by show b < B; omega)]
    exact hs j hj
theorem Spans.next {w w' : World} {v : Value} {l : List Sp} (h : Spans w v l) (hb : Below w.heap.size w w') : Spans w' v l := h.below hb (Nat.le_refl _)
theorem Spans.shape {w : World} {v : Value} {l : List Sp} (h : Spans w v l) : ∃ a cap, v = .slice a l.length cap := by
  rcases h with ⟨rfl, a, cap, hv⟩ | ⟨b, off, cap, hv, _⟩
  · exact ⟨a, cap, hv⟩
  · exact ⟨_, cap, hv⟩
theorem Spans.cap_le {w : World} {a : Option Addr} {n cap : Nat} {l : List Sp} (h : Spans w (.slice a n cap) l) : l.length ≤ cap := by
  rcases h with ⟨rfl, _⟩ | ⟨b, off, cap', hv, hc, _⟩
  · simp
  · injection hv with e1 e2 e3
    omega
theorem SAt.sub {w : World} {b off : Nat} {l : List Sp} (h : SAt w b off l) (i k : Nat) (hk : i + k ≤ l.length) : SAt w b (off + i * 2) ((l.drop i).take k) := by
  intro j hj
  have hj' : j < k := by simp at hj; omega
  obtain ⟨h0, h1⟩ := h (i + j) (by omega)
  simp only [List.getElem_take, List.getElem_drop]
  rw [show off + i * 2 + j * 2 = off + (i + j) * 2 from by omega]
  exact ⟨h0, h1⟩
theorem SAt.spans {w : World} {b off n cap : Nat} {l : List Sp} (h : SAt w b off l) (hn : n = l.length) (hc : l.length ≤ cap) (hm : cap ≤ 9223372036854775807) (hb : b < w.heap.size) : Spans w (.slice (some ⟨b, off, none⟩) n cap) l := by
  subst hn; exact .inr ⟨b, off, cap, rfl, hc, hm, hb, h⟩
theorem infoSpan : (Tryd.prog.info? 23).map (fun i => (i.zero, i.size, i.bytes)) = some (some (.agg #[.int .i64 0, .int .i64 0]), 2, 16) := by kernel_rfl
theorem cellsSpan : Tryd.prog.cellsOf 23 = 2 := by kernel_rfl
theorem cellsInt : Tryd.prog.cellsOf 3 = 1 := by kernel_rfl

/-- Spans as cells. -/
def flat (l : List Sp) : List Value := l.flatMap fun s => [.int .i64 s.1, .int .i64 s.2]
theorem flat_snoc (l : List Sp) (s : Sp) : flat (l ++ [s]) = flat l ++ [.int .i64 s.1, .int .i64 s.2] := by simp [flat]
theorem flat_append (l m : List Sp) : flat (l ++ m) = flat l ++ flat m := by simp [flat]
theorem flat_length (l : List Sp) : (flat l).length = l.length * 2 := by
  induction l with
  | nil => rfl
  | cons f r ih => simp only [flat, List.flatMap_cons, List.length_append, List.length_cons, List.length_nil] at ih ⊢; omega
theorem flat_at (l : List Sp) (j : Nat) (h : j < l.length) : (flat l)[j * 2]? = some (.int .i64 l[j].1) ∧ (flat l)[j * 2 + 1]? = some (.int .i64 l[j].2) := by
  induction l generalizing j with
  | nil => simp at h
  | cons f r ih =>
    cases j with
    | zero => exact ⟨rfl, rfl⟩
    | succ j =>
      have h2 := ih j (by simpa using h)
      have e1 : (j + 1) * 2 = j * 2 + 2 := by omega
      have e2 : (j + 1) * 2 + 1 = j * 2 + 1 + 2 := by omega
      rw [e2, e1]
      exact ⟨h2.1, h2.2⟩
theorem flat_cells (l : List Sp) : ∀ u ∈ flat l, u.oneCell' = true := by
  intro u hu
  obtain ⟨s, _, hs⟩ := List.mem_flatMap.1 hu
  simp at hs
  rcases hs with rfl | rfl <;> rfl
/-- What lies at an address, cell by cell. -/
theorem SAt.news {w : World} {b off : Nat} {l : List Sp} (h : SAt w b off l) : ∀ j u, (flat l)[j]? = some u → w.cell? ((⟨b, off, none⟩ : Addr).add j) = some u := by
  intro j u hu
  have hj : j < (flat l).length := by
    rcases Nat.lt_or_ge j (flat l).length with h' | h'
    · exact h'
    · rw [List.getElem?_eq_none h'] at hu; simp at hu
  rw [flat_length] at hj
  have hd : j / 2 < l.length := by omega
  obtain ⟨h0, h1⟩ := h (j / 2) hd
  obtain ⟨f0, f1⟩ := flat_at l (j / 2) hd
  rw [Addr.add_lit]
  rcases Nat.mod_two_eq_zero_or_one j with hm | hm
  · have e : j / 2 * 2 = j := by omega
    rw [e] at h0 f0
    rw [h0, ← hu, f0]
  · have e : j / 2 * 2 + 1 = j := by omega
    rw [e] at f1
    rw [show off + j / 2 * 2 + 1 = off + j from by omega] at h1
    rw [h1, ← hu, f1]
theorem owns_kept {w w' : World} {base : Nat} {e : TypeId} {sz : Nat} {v : Value} {n : Nat} {xs : List Value} (h : w.ownsRow base e sz v n xs) (hb : Below w.heap.size w w') : w'.ownsRow base e sz v n xs := by
  refine ⟨h.1, ?_⟩
  rcases h.2 with h2 | ⟨g, cap, cur, hv, hg, hh, r⟩
  · exact .inl h2
  · exact .inr ⟨g, cap, cur, hv, hg, (hb.block g (block_lt hh)).trans hh, r⟩
theorem owns_mono {w : World} {base base' : Nat} {e : TypeId} {size : Nat} {v : Value} {n : Nat} {xs : List Value} (h : w.ownsRow base e size v n xs) (hb : base' ≤ base) : w.ownsRow base' e size v n xs := by
  refine ⟨h.1, ?_⟩
  rcases h.2 with h2 | ⟨g, cap, cur, hv, hg, r⟩
  · exact .inl h2
  · exact .inr ⟨g, cap, cur, hv, by omega, r⟩
/-- A slice of spans that a call made, in memory from base on. -/
def OwnS (w : World) (base : Nat) (v : Value) (l : List Sp) : Prop := w.ownsRow base 23 2 v l.length (flat l)
theorem OwnS.nil (w : World) (base : Nat) : OwnS w base (.slice none 0 0) [] := World.ownsRow_nil _ _ _ _
theorem OwnS.kept {w w' : World} {base : Nat} {v : Value} {l : List Sp} (h : OwnS w base v l) (hb : Below w.heap.size w w') : OwnS w' base v l := owns_kept h hb
theorem OwnS.row {w : World} {base : Nat} {v : Value} {l : List Sp} (h : OwnS w base v l) : ∀ k, v.ownBlock = some k → base ≤ k := fun k hk => (World.ownsRow.lt h k hk).1
theorem OwnS.at {w : World} {base g n cap : Nat} {l : List Sp} (h : OwnS w base (.slice (some ⟨g, 0, none⟩) n cap) l) : SAt w g 0 l := by
  have hn : n = l.length := by
    rcases h.2 with ⟨hv, _⟩ | ⟨g', cap', cur, hv, _⟩ <;> cases hv
    rfl
  subst hn
  intro j hj
  obtain ⟨a, b⟩ := flat_at l j hj
  rw [Nat.zero_add, World.ownsRow.cellAt h (j * 2) (by omega), World.ownsRow.cellAt h (j * 2 + 1) (by omega), a, b]
  exact ⟨rfl, rfl⟩
theorem two_at {w : World} {g : Nat} {s : Sp} {t : TypeId} (h : w.heap[g]? = some (.cells #[.int .i64 s.1, .int .i64 s.2] t (0, 0))) : SAt w g 0 [s] := by
  intro j hj
  have : j = 0 := by simpa using hj
  subst this
  exact ⟨two0 h, two1 h⟩
theorem one_cells (x y : Int) : ∀ u ∈ [Value.int .i64 x, Value.int .i64 y], u.oneCell' = true := by intro u hu; simp at hu; rcases hu with rfl | rfl <;> rfl
theorem news_at {w : World} {g : Nat} {x y : Value} {t : TypeId} (h : w.heap[g]? = some (.cells #[x, y] t (0, 0))) : ∀ j u, [x, y][j]? = some u → w.cell? ((⟨g, 0, none⟩ : Addr).add j) = some u := by
  intro j u hu
  match j, hu with
  | 0, hu => simp at hu; subst hu; exact two0 h
  | 1, hu => simp at hu; subst hu; exact two1 h
end Go.Proofs.YthhnpdihgoiccaaDoor.Sn
