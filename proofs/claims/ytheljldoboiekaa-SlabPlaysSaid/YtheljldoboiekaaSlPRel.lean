/-
  The program's arena beside the plain one. No condition.
-/
import Derived.Test.YtheljldoboiekaaSlPRight
import Derived.Test.YtheljldoboiekaaSlTn
namespace Go.Proofs.Ytheljldoboiekaa.Sl
open Go.RowKit Go.Proofs.Ytheljldoboiekaa.Fd
set_option maxRecDepth 100000
set_option linter.unusedVariables false
set_option linter.unusedSimpArgs false

/-- The types of the program's blocks. -/
def TP (t : TypeId) : Bool := t == 59 || t == 77 || t == 5
theorem PAt.tn {T : TypeId → Bool} {b0 : Nat} {w w' : World} {base p : Nat} {n gs : Nat → Nat} {Q : Mp} {M : Nat → Nat → Tk.Bs} {A : Ar} (h : PAt w base p n gs Q M A) (ht : Tn T b0 w w') (hT : ∀ t, TP t = true → T t = false) : PAt w' base p n gs Q M A := by
  refine ⟨ht.other h.arena (hT _ rfl), fun c hc => ?_, h.len, fun c i q hq => ⟨ht.other (h.mem c i q hq).1 (hT _ rfl), (h.mem c i q hq).2⟩, h.apP, h.apG, h.apGG, h.apQ, h.apQQ⟩
  obtain ⟨cur, h1, h2⟩ := h.row c hc
  exact ⟨cur, ht.other h1 (hT _ rfl), h2⟩
theorem PAt.rowIs {w : World} {base p : Nat} {n gs : Nat → Nat} {Q : Mp} {M : Nat → Nat → Tk.Bs} {A : Ar} (h : PAt w base p n gs Q M A) {c : Nat} (hc : c < 4) : IsT TP w (gs c) ∧ base ≤ gs c := by
  obtain ⟨cur, h1, h2⟩ := h.row c hc
  exact ⟨⟨_, _, _, h1, rfl⟩, (h.apG c hc).1⟩
theorem PAt.memIs {w : World} {base p : Nat} {n gs : Nat → Nat} {Q : Mp} {M : Nat → Nat → Tk.Bs} {A : Ar} (h : PAt w base p n gs Q M A) {c i q : Nat} (hq : Q c i = some q) : IsT TP w q ∧ base ≤ q :=
  ⟨⟨_, _, _, (h.mem c i q hq).1, rfl⟩, (h.apQ c i q hq).2.1⟩
/-- What the memory says of the plain arena; no block was taken or held too often. -/
structure PGood (Q : Mp) (M : Nat → Nat → Tk.Bs) (A : Ar) (G : Nat) : Prop where
  busy : ∀ (c i : Nat) (b : Blk), c < 4 → (A c)[i]? = some b → b.held ≠ 0 → b.gen ≠ 0 ∧ (∃ q, Q c i = some q) ∧ M c i = b.mem
  idle : ∀ (c i : Nat) (b : Blk) (q : Nat), c < 4 → (A c)[i]? = some b → b.held = 0 → Q c i = some q → M c i = List.replicate (sizeC c) 0
  small : ∀ (c i : Nat) (b : Blk), c < 4 → (A c)[i]? = some b → b.gen ≤ G ∧ b.held ≤ 1048576
theorem PGood.aged {Q : Mp} {M : Nat → Nat → Tk.Bs} {A : Ar} {G : Nat} (h : PGood Q M A G) : Aged A := fun c i b hc hb hh => (h.busy c i b hc hb hh).1
/-- One block is changed. -/
theorem PGood.put {Q Q' : Mp} {M M' : Nat → Nat → Tk.Bs} {A : Ar} {G G' : Nat} (h : PGood Q M A G) {c i : Nat} {y : Blk} (hQ : ∀ d j, ¬ (d = c ∧ j = i) → Q' d j = Q d j) (hM : ∀ d j, ¬ (d = c ∧ j = i) → M' d j = M d j) (hG : G ≤ G')
    (h1 : y.held ≠ 0 → y.gen ≠ 0 ∧ (∃ q, Q' c i = some q) ∧ M' c i = y.mem) (h2 : y.held = 0 → ∀ q, Q' c i = some q → M' c i = List.replicate (sizeC c) 0) (h3 : y.gen ≤ G' ∧ y.held ≤ 1048576) :
    PGood Q' M' (upd A c ((A c).set i y)) G' := by
  have key : ∀ (d j : Nat) (b : Blk), (upd A c ((A c).set i y) d)[j]? = some b → (d = c ∧ j = i ∧ b = y) ∨ (¬ (d = c ∧ j = i) ∧ (A d)[j]? = some b) := by
    intro d j b hb
    by_cases e : d = c
    · subst e
      rw [upd_same] at hb
      by_cases e2 : i = j
      · subst e2
        left
        obtain ⟨hl, hv⟩ := List.getElem?_eq_some_iff.1 hb
        rw [List.getElem_set_self] at hv
        exact ⟨rfl, rfl, hv.symm⟩
      · rw [List.getElem?_set_ne e2] at hb
        exact .inr ⟨fun q => e2 q.2.symm, hb⟩
    · rw [upd_other _ _ e] at hb
      exact .inr ⟨fun q => e q.1, hb⟩
  refine ⟨fun d j b hd hb hh => ?_, fun d j b q hd hb hh hq => ?_, fun d j b hd hb => ?_⟩
  · rcases key d j b hb with ⟨rfl, rfl, rfl⟩ | ⟨hn, hb2⟩
    · exact h1 hh
    · rw [hQ d j hn, hM d j hn]; exact h.busy d j b hd hb2 hh
  · rcases key d j b hb with ⟨rfl, rfl, rfl⟩ | ⟨hn, hb2⟩
    · exact h2 hh q hq
    · rw [hQ d j hn] at hq
      rw [hM d j hn]; exact h.idle d j b q hd hb2 hh hq
  · rcases key d j b hb with ⟨rfl, rfl, rfl⟩ | ⟨hn, hb2⟩
    · exact h3
    · obtain ⟨h4, h5⟩ := h.small d j b hd hb2
      exact ⟨by omega, h5⟩
structure PRel (w : World) (base p : Nat) (n : Nat → Nat) (A : Ar) (G : Nat) : Prop where
  it : ∃ gs Q M, PAt w base p n gs Q M A ∧ PGood Q M A G
  few : ∀ c, c < 4 → n c ≤ 4096
  small : G ≤ 1099511627776
theorem PRel.same {w w' : World} {base p : Nat} {n : Nat → Nat} {A : Ar} {G : Nat} (h : PRel w base p n A G) (hb : Below w.heap.size w w') : PRel w' base p n A G := by
  obtain ⟨gs, Q, M, h1, h2⟩ := h.it
  exact ⟨⟨gs, Q, M, h1.same hb, h2⟩, h.few, h.small⟩
theorem PRel.tn {T : TypeId → Bool} {b0 : Nat} {w w' : World} {base p : Nat} {n : Nat → Nat} {A : Ar} {G : Nat} (h : PRel w base p n A G) (ht : Tn T b0 w w') (hT : ∀ t, TP t = true → T t = false) : PRel w' base p n A G := by
  obtain ⟨gs, Q, M, h1, h2⟩ := h.it
  exact ⟨⟨gs, Q, M, h1.tn ht hT, h2⟩, h.few, h.small⟩
theorem PRel.lt {w : World} {base p : Nat} {n : Nat → Nat} {A : Ar} {G : Nat} (h : PRel w base p n A G) : base ≤ p ∧ p < w.heap.size := by
  obtain ⟨gs, Q, M, h1, h2⟩ := h.it
  exact ⟨h1.apP, h1.lt⟩
theorem PRel.more {w : World} {base p : Nat} {n : Nat → Nat} {A : Ar} {G G' : Nat} (h : PRel w base p n A G) (hg : G ≤ G') (hs : G' ≤ 1099511627776) : PRel w base p n A G' := by
  obtain ⟨gs, Q, M, h1, h2⟩ := h.it
  exact ⟨⟨gs, Q, M, h1, ⟨h2.busy, h2.idle, fun c i b hc hb => by obtain ⟨h4, h5⟩ := h2.small c i b hc hb; exact ⟨by omega, h5⟩⟩⟩, h.few, hs⟩
/-- What a call leaves: an error, the two related, nothing else changed. -/
def DoneP (base p : Nat) (n : Nat → Nat) (r : Int × Ar) (G : Nat) (w : World) (e : Ending) (w' : World) : Prop := e = .returned (.int .i64 r.1) ∧ PRel w' base p n r.2 G ∧ Tn TP base w w'
/-- What a handle is. -/
theorem right_ways {A : Ar} (gs : Nat → Nat) (c i g : Int) :
    (rightA A (c, i, g) = none ∧ rightV gs A (c, i, g) = .tuple #[.pointer none, .int .i64 15]) ∨
    ∃ (cn im : Nat) (b : Blk), c = (cn : Int) ∧ i = (im : Int) ∧ cn < 4 ∧ (A cn)[im]? = some b ∧ b.held ≠ 0 ∧ (b.gen : Int) = g ∧ rightA A (c, i, g) = some b ∧ rightV gs A (c, i, g) = .tuple #[.pointer (some ⟨gs cn, im * 5, none⟩), .int .i64 0] := by
  cases hr : rightA A (c, i, g) with
  | none => exact .inl ⟨rfl, by unfold rightV; rw [hr]⟩
  | some b =>
    right
    have h := hr
    unfold rightA at h
    split at h
    · rename_i hc
      simp only at hc
      obtain ⟨cn, rfl⟩ : ∃ x : Nat, c = x := ⟨c.toNat, by omega⟩
      obtain ⟨im, rfl⟩ : ∃ x : Nat, i = x := ⟨i.toNat, by omega⟩
      have h2 := right_at (A := A) (c := cn) (i := im) (g := g) (by omega)
      rw [hr] at h2
      cases hb : (A cn)[im]? with
      | none => rw [hb] at h2; cases h2
      | some x =>
        rw [hb] at h2
        replace h2 : some b = if x.held ≠ 0 ∧ (x.gen : Int) = g then some x else none := h2
        split at h2
        · rename_i hq
          injection h2 with h2
          subst h2
          exact ⟨cn, im, b, rfl, rfl, by omega, hb, hq.1, hq.2, rfl, by unfold rightV; rw [hr]; rfl⟩
        · cases h2
    · cases h
/-- A held number is stored. -/
theorem PAt.setHeld {w : World} {base p : Nat} {n gs : Nat → Nat} {Q : Mp} {M : Nat → Nat → Tk.Bs} {A : Ar} (h : PAt w base p n gs Q M A) {c i : Nat} {b : Blk} (hc : c < 4) (hb : (A c)[i]? = some b) (h' : Nat) :
    PAt (w.setCell ⟨gs c, i * 5 + 3, none⟩ (.int .i64 (h' : Int))) base p n gs Q M (upd A c ((A c).set i { b with held := h' })) ∧ Tn TP base w (w.setCell ⟨gs c, i * 5 + 3, none⟩ (.int .i64 (h' : Int))) :=
  ⟨h.store hc hb (t := 3) (by decide) (b' := { b with held := h' }) rfl, Tn.set (h.rowIs hc).1 (h.rowIs hc).2 _⟩
end Go.Proofs.Ytheljldoboiekaa.Sl
