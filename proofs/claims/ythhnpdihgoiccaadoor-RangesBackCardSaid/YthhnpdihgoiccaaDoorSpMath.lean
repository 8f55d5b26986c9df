/-
  Sets of places as lists of spans: two of the same places are one list; how many places there are; the set that a rising list of ends cuts out. No program, no condition.
-/
import Derived.WalkKit
namespace Go.Proofs.YthhnpdihgoiccaaDoor.Sn
set_option linter.unusedVariables false

abbrev Sp := Int × Int
/-- Each span is not empty, and lies behind b and the one ahead of it, with a gap. -/
def Good : Int → List Sp → Prop
  | _, [] => True
  | b, (f, t) :: r => b < f ∧ f < t ∧ Good t r
def mem (l : List Sp) (x : Int) : Prop := ∃ s ∈ l, s.1 ≤ x ∧ x < s.2
theorem mem_nil (x : Int) : ¬ mem [] x := fun ⟨s, h, _⟩ => by simp at h
theorem mem_cons (s : Sp) (r : List Sp) (x : Int) : mem (s :: r) x ↔ (s.1 ≤ x ∧ x < s.2) ∨ mem r x := by
  constructor
  · rintro ⟨u, h, h2⟩
    rcases List.mem_cons.1 h with rfl | h
    · exact .inl h2
    · exact .inr ⟨u, h, h2⟩
  · rintro (h | ⟨u, h, h2⟩)
    · exact ⟨s, by simp, h⟩
    · exact ⟨u, by simp [h], h2⟩
theorem Good.above : ∀ {l : List Sp} {b : Int}, Good b l → ∀ x, mem l x → b < x
  | [], _, _, x, hx => absurd hx (mem_nil x)
  | (f, t) :: r, b, h, x, hx => by
    obtain ⟨h1, h2, h3⟩ := h
    rcases (mem_cons _ _ _).1 hx with h4 | h4
    · have := h4.1; simp only at this; omega
    · have := h3.above x h4; omega
theorem Good.lower : ∀ {l : List Sp} {b c : Int}, Good b l → c ≤ b → Good c l
  | [], _, _, _, _ => trivial
  | (f, t) :: r, b, c, h, hc => ⟨by have := h.1; omega, h.2.1, h.2.2⟩
/-- Two sets of the same places are one list. -/
theorem Good.unique : ∀ {a c : List Sp} {b b' : Int}, Good b a → Good b' c → (∀ x, mem a x ↔ mem c x) → a = c
  | [], [], _, _, _, _, _ => rfl
  | [], (f, t) :: r, _, _, _, h, he => by
    exact absurd ((he f).2 ((mem_cons _ _ _).2 (.inl ⟨Int.le_refl _, h.2.1⟩))) (mem_nil f)
  | (f, t) :: r, [], _, _, h, _, he => by
    exact absurd ((he f).1 ((mem_cons _ _ _).2 (.inl ⟨Int.le_refl _, h.2.1⟩))) (mem_nil f)
  | (f, t) :: r, (f', t') :: r', b, b', h, h', he => by
    obtain ⟨h1, h2, h3⟩ := h
    obtain ⟨g1, g2, g3⟩ := h'
    have hf : f' ≤ f := by
      rcases (mem_cons _ _ _).1 ((he f).1 ((mem_cons _ _ _).2 (.inl ⟨Int.le_refl _, h2⟩))) with h4 | h4
      · exact h4.1
      · have := g3.above f h4; omega
    have hg : f ≤ f' := by
      rcases (mem_cons _ _ _).1 ((he f').2 ((mem_cons _ _ _).2 (.inl ⟨Int.le_refl _, g2⟩))) with h4 | h4
      · exact h4.1
      · have := h3.above f' h4; omega
    obtain rfl : f = f' := by omega
    have ht : ¬ t < t' := fun hlt => by
      rcases (mem_cons _ _ _).1 ((he t).2 ((mem_cons _ _ _).2 (.inl ⟨by show f ≤ t; omega, hlt⟩))) with h4 | h4
      · have := h4.2; simp only at this; omega
      · have := h3.above t h4; omega
    have ht' : ¬ t' < t := fun hlt => by
      rcases (mem_cons _ _ _).1 ((he t').1 ((mem_cons _ _ _).2 (.inl ⟨by show f ≤ t'; omega, hlt⟩))) with h4 | h4
      · have := h4.2; simp only at this; omega
      · have := g3.above t' h4; omega
    obtain rfl : t = t' := by omega
    have := Good.unique h3 g3 (fun x => by
      have hx := he x
      rw [mem_cons, mem_cons] at hx
      constructor
      · intro hm
        have := h3.above x hm
        rcases hx.1 (.inr hm) with h5 | h5
        · have := h5.2; simp only at this; omega
        · exact h5
      · intro hm
        have := g3.above x hm
        rcases hx.2 (.inr hm) with h5 | h5
        · have := h5.2; simp only at this; omega
        · exact h5)
    rw [this]
/-- A span more behind all. -/
theorem Good.snoc : ∀ {l : List Sp} {b : Int}, Good b l → ∀ f t, b < f → f < t → (∀ s ∈ l, s.2 < f) → Good b (l ++ [(f, t)])
  | [], _, _, f, t, h1, h2, _ => ⟨h1, h2, trivial⟩
  | (f', t') :: r, b, h, f, t, h1, h2, h3 => ⟨h.1, h.2.1, h.2.2.snoc f t (h3 (f', t') (by simp)) h2 (fun s hs => h3 s (by simp [hs]))⟩
/-- The last span made longer. -/
theorem Good.longer : ∀ {l : List Sp} {b : Int} {f t : Int}, Good b (l ++ [(f, t)]) → ∀ t', t ≤ t' → Good b (l ++ [(f, t')])
  | [], _, _, _, h, t', ht => ⟨h.1, by have := h.2.1; omega, trivial⟩
  | (f', u) :: r, b, f, t, h, t', ht => ⟨h.1, h.2.1, Good.longer (l := r) h.2.2 t' ht⟩
theorem mem_append (a c : List Sp) (x : Int) : mem (a ++ c) x ↔ mem a x ∨ mem c x := by
  constructor
  · rintro ⟨s, h, h2⟩
    rcases List.mem_append.1 h with h | h
    · exact .inl ⟨s, h, h2⟩
    · exact .inr ⟨s, h, h2⟩
  · rintro (⟨s, h, h2⟩ | ⟨s, h, h2⟩)
    · exact ⟨s, by simp [h], h2⟩
    · exact ⟨s, by simp [h], h2⟩

/-! How many places. -/
def size (l : List Sp) : Int := (l.map fun s => s.2 - s.1).sum
def memB (l : List Sp) (x : Int) : Bool := l.any fun s => decide (s.1 ≤ x ∧ x < s.2)
theorem memB_iff (l : List Sp) (x : Int) : memB l x = true ↔ mem l x := by
  unfold memB mem
  rw [List.any_eq_true]
  simp
theorem memB_of {l : List Sp} {x : Int} {p : Prop} [Decidable p] (h : mem l x ↔ p) : memB l x = decide p := by
  rw [Bool.eq_iff_iff, memB_iff, h, decide_eq_true_eq]
theorem count_span (f t : Nat) (h : f ≤ t) : ∀ N, t ≤ N → ((List.range N).countP fun n : Nat => decide ((f : Int) ≤ (n : Int) ∧ (n : Int) < (t : Int))) = t - f
  | 0, h2 => by simp; omega
  | N + 1, h2 => by
    rw [List.range_succ, List.countP_append]
    by_cases e : t = N + 1
    · subst e
      by_cases e2 : f = N + 1
      · subst e2
        have h3 : ∀ M, M ≤ N → ((List.range M).countP fun n : Nat => decide (((N + 1 : Nat) : Int) ≤ (n : Int) ∧ (n : Int) < ((N + 1 : Nat) : Int))) = 0 := fun M hM => by
          rw [List.countP_eq_zero]
          intro a ha
          have := List.mem_range.1 ha
          simp <;> omega
        rw [h3 N (Nat.le_refl _)]
        simp
      · have h3 : ((List.range N).countP fun n : Nat => decide ((f : Int) ≤ (n : Int) ∧ (n : Int) < ((N + 1 : Nat) : Int))) = ((List.range N).countP fun n : Nat => decide ((f : Int) ≤ (n : Int) ∧ (n : Int) < ((N : Nat) : Int))) := by
          apply List.countP_congr
          intro a ha
          have := List.mem_range.1 ha
          simp; omega
        rw [h3, count_span f N (by omega) N (Nat.le_refl _)]
        have h4 : ([N].countP fun n : Nat => decide ((f : Int) ≤ (n : Int) ∧ (n : Int) < ((N + 1 : Nat) : Int))) = 1 := by
          rw [List.countP_cons, List.countP_nil, if_pos (by simp; omega)]
        rw [h4]; omega
    · rw [count_span f t h N (by omega)]
      have h4 : ([N].countP fun n : Nat => decide ((f : Int) ≤ (n : Int) ∧ (n : Int) < (t : Int))) = 0 := by
        rw [List.countP_cons, List.countP_nil, if_neg (by simp; omega)]
      rw [h4]; omega
theorem count_or {α : Type} (p q : α → Bool) (h : ∀ x, p x = true → q x = false) : ∀ l : List α, l.countP (fun x => p x || q x) = l.countP p + l.countP q
  | [] => rfl
  | a :: r => by
    rw [List.countP_cons, List.countP_cons, List.countP_cons, count_or p q h r]
    cases hp : p a with
    | true => rw [h a hp]; simp; omega
    | false => cases hq : q a <;> simp <;> omega
/-- How many places a set has below N. -/
def cnt (N : Nat) (l : List Sp) : Nat := (List.range N).countP fun n : Nat => memB l (n : Int)
theorem size_cnt : ∀ {l : List Sp} {b : Int}, Good b l → -1 ≤ b → ∀ N : Nat, (∀ s ∈ l, s.2 ≤ (N : Int)) → size l = (cnt N l : Int)
  | [], _, _, _, N, _ => by
    have : cnt N [] = 0 := by unfold cnt; rw [List.countP_eq_zero]; intro a _; simp [memB]
    rw [this]; rfl
  | (f, t) :: r, b, h, hb, N, hN => by
    obtain ⟨h1, h2, h3⟩ := h
    have ih := size_cnt h3 (by omega) N (fun s hs => hN s (by simp [hs]))
    have ht := hN (f, t) (by simp)
    simp only at ht
    obtain ⟨F, hF⟩ : ∃ F : Nat, (F : Int) = f := ⟨f.toNat, by omega⟩
    obtain ⟨T, hT⟩ : ∃ T : Nat, (T : Int) = t := ⟨t.toNat, by omega⟩
    have e : cnt N ((f, t) :: r) = (T - F) + cnt N r := by
      have h4 := count_or (fun n : Nat => decide ((F : Int) ≤ (n : Int) ∧ (n : Int) < (T : Int))) (fun n : Nat => memB r (n : Int)) (fun n hn => by
        have h5 : (F : Int) ≤ (n : Int) ∧ (n : Int) < (T : Int) := of_decide_eq_true hn
        cases hm : memB r (n : Int) with
        | false => rfl
        | true => have := h3.above _ ((memB_iff _ _).1 hm); omega) (List.range N)
      rw [count_span F T (by omega) N (by omega)] at h4
      unfold cnt
      rw [← h4]
      apply List.countP_congr
      intro a _
      unfold memB
      rw [List.any_cons, hF, hT]
    have e2 : size ((f, t) :: r) = (t - f) + size r := by simp [size]
    rw [e2, ih, e]
    omega
/-- Two parts of a set that have no place in common. -/
theorem size_parts {a c u : List Sp} {b : Int} (ha : Good b a) (hc : Good b c) (hu : Good b u) (hb : -1 ≤ b) (N : Nat) (ha2 : ∀ s ∈ a, s.2 ≤ (N : Int)) (hc2 : ∀ s ∈ c, s.2 ≤ (N : Int)) (hu2 : ∀ s ∈ u, s.2 ≤ (N : Int))
    (h : ∀ x, mem u x ↔ mem a x ∨ mem c x) (hd : ∀ x, mem a x → ¬ mem c x) : size a + size c = size u := by
  rw [size_cnt ha hb N ha2, size_cnt hc hb N hc2, size_cnt hu hb N hu2]
  have e : cnt N u = cnt N a + cnt N c := by
    unfold cnt
    rw [← count_or (fun n : Nat => memB a (n : Int)) (fun n : Nat => memB c (n : Int)) (fun n hn => by
      cases hm : memB c (n : Int) with
      | false => rfl
      | true => exact absurd ((memB_iff _ _).1 hm) (hd _ ((memB_iff _ _).1 hn))) (List.range N)]
    apply List.countP_congr
    intro n _
    rw [Bool.or_eq_true, memB_iff, memB_iff, memB_iff]
    exact h n
  omega
theorem size_same {a c : List Sp} (h : a = c) : size a = size c := by rw [h]
end Go.Proofs.YthhnpdihgoiccaaDoor.Sn
