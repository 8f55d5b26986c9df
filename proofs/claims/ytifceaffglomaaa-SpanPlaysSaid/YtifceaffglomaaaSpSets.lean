/-
  What span's calls tell is the set that the document asks for. No program, no condition.
-/
import Derived.Test.YtifceaffglomaaaSpTold
namespace Go.Proofs.Ytifceaffglomaaa.Sn
set_option linter.unusedVariables false
set_option linter.unusedSimpArgs false

theorem join_pairs {l : List Sp} {b : Int} (h : Good b l) {s : Sp} (hs : s.1 ≤ s.2) : (∀ u ∈ aheadL l s, ∀ v ∈ metL l s ++ behindL l s, u.2 < v.1) ∧ ∀ u ∈ metL l s, ∀ v ∈ behindL l s, u.2 < v.1 := by
  have hp := h.pairs
  rw [← parts_join h hs] at hp
  obtain ⟨_, h2, h3⟩ := List.pairwise_append.1 hp
  obtain ⟨_, _, h4⟩ := List.pairwise_append.1 h2
  exact ⟨fun u hu v hv => (h3 u hu v hv).2.1, fun u hu v hv => (h4 u hu v hv).2.1⟩
theorem ahead_good {l : List Sp} {b : Int} (h : Good b l) (s : Sp) : Good b (aheadL l s) := h.take _
theorem met_good {l : List Sp} {b : Int} (h : Good b l) (s : Sp) : Good b (metL l s) := (h.drop' _).take _
theorem behind_good {l : List Sp} {b : Int} (h : Good b l) (s : Sp) : Good b (behindL l s) := h.drop' _
theorem met_pos {l : List Sp} {s : Sp} {u : Sp} (hs : s.1 ≤ s.2) (hu : u ∈ metL l s) : s.1 < s.2 := by
  rcases Int.lt_or_eq_of_le hs with h | h
  · exact h
  · simp [metL, firstOf, endOf, h] at hu
theorem mem_split {l : List Sp} {b : Int} (h : Good b l) {s : Sp} (hs : s.1 ≤ s.2) (z : Int) : mem l z ↔ mem (aheadL l s) z ∨ mem (metL l s) z ∨ mem (behindL l s) z := by
  conv => lhs; rw [← parts_join h hs]
  rw [mem_append, mem_append]
/-- Within the span only those that are met have places. -/
theorem mem_met {l : List Sp} {b : Int} (h : Good b l) {s : Sp} {z : Int} (h1 : s.1 ≤ z) (h2 : z < s.2) : mem l z ↔ mem (metL l s) z := by
  have hs : s.1 ≤ s.2 := by omega
  rw [mem_split h hs]
  refine ⟨?_, fun h3 => .inr (.inl h3)⟩
  rintro (⟨u, hu, h3⟩ | h3 | ⟨u, hu, h3⟩)
  · have := ahead_mem h hs u hu
    omega
  · exact h3
  · have := behind_mem h u hu
    omega
theorem own_dec (s : Sp) (z : Int) : own s z = true ↔ s.1 ≤ z ∧ z < s.2 := own_iff s z
theorem pick3 (a b : Bool) : pick 3 a b = true ↔ b = true ∧ ¬ a = true := by cases a <;> cases b <;> simp [pick]
theorem pick4 (a b : Bool) : pick 4 a b = true ↔ a = true ∧ b = true := by cases a <;> cases b <;> simp [pick]
theorem pick2 (a b : Bool) : pick 2 a b = true ↔ a = true ∧ ¬ b = true := by cases a <;> cases b <;> simp [pick]
theorem pick1 (a b : Bool) : pick 1 a b = true ↔ a = true ∨ b = true := by cases a <;> cases b <;> simp [pick]
theorem gaps_set {l : List Sp} {s : Sp} (hl : Good (-1) l) (hs : Right s) : IsSet 3 l s (gapsOf l s) := by
  obtain ⟨g1, g2, _⟩ := without_set (metL l s) s.2 s.1 (-1) (met_good hl s) (met_mem hl hs.le) hs.le (-1) (by have := hs.low; omega)
  refine ⟨g1, fun z => ?_⟩
  rw [pick3, own_dec, memB_iff]
  refine (g2 z).trans ?_
  exact ⟨fun ⟨a, b, c⟩ => ⟨⟨a, b⟩, fun h => c ((mem_met hl a b).1 h)⟩, fun ⟨⟨a, b⟩, c⟩ => ⟨a, b, fun h => c ((mem_met hl a b).2 h)⟩⟩
theorem map_good (x y : Int) (hxy : x < y) : ∀ (l : List Sp) (b : Int), Good b l → (∀ u ∈ l, x < u.2 ∧ u.1 < y) → ∀ c, c < x → Good c (l.map fun p => (max x p.1, min y p.2))
  | [], _, _, _, _, _ => trivial
  | (f, t) :: r, b, h, hm, c, hc => by
    have h0 := hm (f, t) (by simp)
    dsimp only at h0
    have hft := h.2.1
    have ih := map_good x y hxy r t h.2.2 (fun u hu => hm u (by simp [hu])) c hc
    refine ⟨by dsimp only; omega, by dsimp only; omega, ih.mono_low (fun v hv => ?_)⟩
    obtain ⟨u, hu, rfl⟩ := List.mem_map.1 hv
    have := good_low h.2.2 u hu
    dsimp only
    omega
theorem cut_set {l : List Sp} {s : Sp} (hl : Good (-1) l) (hs : Right s) : IsSet 4 l s (cutOf l s) := by
  have hmem : ∀ z, mem (cutOf l s) z ↔ mem (metL l s) z ∧ s.1 ≤ z ∧ z < s.2 := by
    intro z
    unfold cutOf
    constructor
    · rintro ⟨v, hv, h1, h2⟩
      obtain ⟨u, hu, rfl⟩ := List.mem_map.1 hv
      dsimp only at h1 h2
      exact ⟨⟨u, hu, by omega, by omega⟩, by omega, by omega⟩
    · rintro ⟨⟨u, hu, h1, h2⟩, h3, h4⟩
      exact ⟨_, List.mem_map.2 ⟨u, hu, rfl⟩, by dsimp only; omega, by dsimp only; omega⟩
  refine ⟨?_, fun z => ?_⟩
  · rcases Int.lt_or_eq_of_le hs.le with h | h
    · exact map_good s.1 s.2 h _ _ (met_good hl s) (met_mem hl hs.le) (-1) (by have := hs.low; omega)
    · have : cutOf l s = [] := by simp [cutOf, metL, firstOf, endOf, h]
      rw [this]; trivial
  · rw [pick4, own_dec, memB_iff, hmem]
    exact ⟨fun ⟨a, b, c⟩ => ⟨(mem_met hl b c).2 a, b, c⟩, fun ⟨a, b, c⟩ => ⟨(mem_met hl b c).1 a, b, c⟩⟩
theorem left_set (s : Sp) (hs : s.1 < s.2) : ∀ (l : List Sp) (b : Int), Good b l → (∀ p ∈ l, s.1 < p.2 ∧ p.1 < s.2) →
    Good b (l.flatMap fun p => withoutL p.2 p.1 [s]) ∧ (∀ z, mem (l.flatMap fun p => withoutL p.2 p.1 [s]) z ↔ mem l z ∧ ¬ (s.1 ≤ z ∧ z < s.2)) ∧ ∀ u ∈ l.flatMap (fun p => withoutL p.2 p.1 [s]), ∃ p ∈ l, p.1 ≤ u.1 ∧ u.2 ≤ p.2
  | [], b, _, _ => ⟨trivial, fun z => ⟨fun h => absurd h (mem_nil z), fun h => absurd h.1 (mem_nil z)⟩, fun u hu => by simp at hu⟩
  | (f, t) :: r, b, h, hm => by
    have h0 := hm (f, t) (by simp)
    dsimp only at h0
    have hft := h.2.1
    obtain ⟨i1, i2, i3⟩ := left_set s hs r t h.2.2 (fun p hp => hm p (by simp [hp]))
    obtain ⟨w1, w2, w3⟩ := without_set [s] t f (s.1 - 1) ⟨by omega, hs, trivial⟩ (fun u hu => by simp at hu; subst hu; omega) (by omega) b h.1
    have hone : ∀ z, mem [s] z ↔ s.1 ≤ z ∧ z < s.2 := fun z => by rw [mem_cons]; exact ⟨fun h => h.elim id (fun h => absurd h (mem_nil z)), fun h => .inl h⟩
    have w4 : ∀ u ∈ withoutL t f [s], u.2 ≤ t := top_of w1 (fun z hz => ((w2 z).1 hz).2.1)
    rw [List.flatMap_cons]
    refine ⟨w1.append (i1.mono_low (fun v hv => ?_)) (fun u hu v hv => ?_), fun z => ?_, fun u hu => ?_⟩
    · obtain ⟨p, hp, h1, _⟩ := i3 v hv
      have := good_low h.2.2 p hp
      have := h.1
      omega
    · obtain ⟨p, hp, h1, _⟩ := i3 v hv
      have := good_low h.2.2 p hp
      have := w4 u hu
      omega
    · rw [mem_append, w2, hone, i2, mem_cons (f, t) r]
      dsimp only
      constructor
      · rintro (⟨a, c, d⟩ | ⟨a, c⟩)
        · exact ⟨.inl ⟨a, c⟩, d⟩
        · exact ⟨.inr a, c⟩
      · rintro ⟨a | a, c⟩
        · exact .inl ⟨a.1, a.2, c⟩
        · exact .inr ⟨a, c⟩
    · rcases List.mem_append.1 hu with hu | hu
      · exact ⟨(f, t), by simp, w3 u hu, w4 u hu⟩
      · obtain ⟨p, hp, h1⟩ := i3 u hu
        exact ⟨p, by simp [hp], h1⟩
theorem rem_set {l : List Sp} {s : Sp} (hl : Good (-1) l) (hs : Right s) : IsSet 2 l s (remOf l s) := by
  obtain ⟨j1, j2⟩ := join_pairs hl hs.le
  have hL : Good (-1) (leftOf l s) ∧ (∀ z, mem (leftOf l s) z ↔ mem (metL l s) z ∧ ¬ (s.1 ≤ z ∧ z < s.2)) ∧ ∀ u ∈ leftOf l s, ∃ p ∈ metL l s, p.1 ≤ u.1 ∧ u.2 ≤ p.2 := by
    rcases Int.lt_or_eq_of_le hs.le with h | h
    · exact left_set s h _ _ (met_good hl s) (met_mem hl hs.le)
    · have e : metL l s = [] := by simp [metL, firstOf, endOf, h]
      unfold leftOf
      rw [e]
      exact ⟨trivial, fun z => ⟨fun h => absurd h (mem_nil z), fun h => absurd h.1 (mem_nil z)⟩, fun u hu => by simp at hu⟩
  obtain ⟨g1, g2, g3⟩ := hL
  refine ⟨(ahead_good hl s).append (g1.append (behind_good hl s) (fun u hu v hv => ?_)) (fun u hu v hv => ?_), fun z => ?_⟩
  · obtain ⟨p, hp, _, h2⟩ := g3 u hu
    have := j2 p hp v hv
    omega
  · rcases List.mem_append.1 hv with hv | hv
    · obtain ⟨p, hp, h1, _⟩ := g3 v hv
      have := j1 u hu p (List.mem_append.2 (.inl hp))
      omega
    · exact j1 u hu v (List.mem_append.2 (.inr hv))
  · rw [pick2, own_dec, memB_iff, mem_split hl hs.le]
    show mem (aheadL l s ++ (leftOf l s ++ behindL l s)) z ↔ _
    rw [mem_append, mem_append, g2]
    constructor
    · rintro (⟨u, hu, h1⟩ | ⟨h1, h2⟩ | ⟨u, hu, h1⟩)
      · exact ⟨.inl ⟨u, hu, h1⟩, by have := ahead_mem hl hs.le u hu; omega⟩
      · exact ⟨.inr (.inl h1), h2⟩
      · exact ⟨.inr (.inr ⟨u, hu, h1⟩), by have := behind_mem hl u hu; omega⟩
    · rintro ⟨h1 | h1 | h1, h2⟩
      · exact .inl h1
      · exact .inr (.inl ⟨h1, h2⟩)
      · exact .inr (.inr h1)
theorem all_mem : ∀ (ps : List Sp) (s : Sp), s.1 ≤ s.2 → (∀ p ∈ ps, p.1 < p.2 ∧ s.1 ≤ p.2 ∧ p.1 ≤ s.2) →
    (allOf s ps).1 ≤ (allOf s ps).2 ∧ (∀ z, ((allOf s ps).1 ≤ z ∧ z < (allOf s ps).2) ↔ (s.1 ≤ z ∧ z < s.2) ∨ mem ps z) ∧ (∀ c, c < s.1 → (∀ p ∈ ps, c < p.1) → c < (allOf s ps).1) ∧ ∀ c, s.2 < c → (∀ p ∈ ps, p.2 < c) → (allOf s ps).2 < c
  | [], s, hs, _ => ⟨hs, fun z => ⟨fun h => .inl h, fun h => h.elim id (fun h => absurd h (mem_nil z))⟩, fun c h _ => h, fun c h _ => h⟩
  | p :: r, s, hs, h => by
    have h0 := h p (by simp)
    have e1 : (join1 s p).1 = min s.1 p.1 := rfl
    have e2 : (join1 s p).2 = max s.2 p.2 := rfl
    obtain ⟨i1, i2, i3, i4⟩ := all_mem r (join1 s p) (by rw [e1, e2]; omega) (fun q hq => by have := h q (by simp [hq]); rw [e1, e2]; omega)
    refine ⟨i1, fun z => ?_, fun c h1 h2 => i3 c (by rw [e1]; have := h2 p (by simp); omega) (fun q hq => h2 q (by simp [hq])), fun c h1 h2 => i4 c (by rw [e2]; have := h2 p (by simp); omega) (fun q hq => h2 q (by simp [hq]))⟩
    refine (i2 z).trans ?_
    rw [e1, e2, mem_cons]
    constructor
    · rintro (h1 | h1)
      · by_cases h3 : s.1 ≤ z ∧ z < s.2
        · exact .inl h3
        · exact .inr (.inl (by omega))
      · exact .inr (.inr h1)
    · rintro (h1 | h1 | h1)
      · exact .inl (by omega)
      · exact .inl (by omega)
      · exact .inr h1
theorem add_set {l : List Sp} {s : Sp} (hl : Good (-1) l) (hs : Right s) : IsSet 1 l s (addOf l s) := by
  have hw : (wide s).1 ≤ (wide s).2 := by have := hs.le; simp only [wide]; omega
  have ew1 : (wide s).1 = s.1 - 1 := rfl
  have ew2 : (wide s).2 = s.2 + 1 := rfl
  have hle := hs.le
  have hlow := hs.low
  obtain ⟨j1, j2⟩ := join_pairs hl hw
  have hA : ∀ u ∈ aheadL l (wide s), u.2 < s.1 := fun u hu => by have := ahead_mem hl hw u hu; omega
  have hB : ∀ v ∈ behindL l (wide s), s.2 < v.1 := fun v hv => by have := behind_mem hl v hv; omega
  have hM : ∀ p ∈ metL l (wide s), p.1 < p.2 ∧ s.1 ≤ p.2 ∧ p.1 ≤ s.2 := fun p hp => by
    have h1 := met_mem hl hw p hp
    have h2 := good_low (met_good hl (wide s)) p hp
    omega
  obtain ⟨a1, a2, a3, a4⟩ := all_mem (metL l (wide s)) s hle hM
  refine ⟨(ahead_good hl _).append ((filled_good a1 (a3 (-1) (by omega) (fun p hp => (good_low (met_good hl _) p hp).1))).append (behind_good hl _) (fun u hu v hv => ?_)) (fun u hu v hv => ?_), fun z => ?_⟩
  · have h1 := a4 v.1 (hB v hv) (fun p hp => j2 p hp v hv)
    simp only [filledL] at hu
    split at hu
    · simp at hu
    · simp at hu; subst hu; exact h1
  · rcases List.mem_append.1 hv with hv | hv
    · have h1 := a3 u.2 (hA u hu) (fun p hp => j1 u hu p (List.mem_append.2 (.inl hp)))
      simp only [filledL] at hv
      split at hv
      · simp at hv
      · simp at hv; subst hv; exact h1
    · exact j1 u hu v (List.mem_append.2 (.inr hv))
  · rw [pick1, own_dec, memB_iff, mem_split hl hw]
    show mem (aheadL l (wide s) ++ (filledL (allOf s (metL l (wide s))) ++ behindL l (wide s))) z ↔ _
    rw [mem_append, mem_append, filled_mem' _ a1, a2]
    constructor
    · rintro (h | (h | h) | h)
      · exact .inl (.inl h)
      · exact .inr h
      · exact .inl (.inr (.inl h))
      · exact .inl (.inr (.inr h))
    · rintro ((h | h | h) | h)
      · exact .inl h
      · exact .inr (.inl (.inr h))
      · exact .inr (.inr h)
      · exact .inr (.inl (.inl h))
theorem met_len (l : List Sp) (s : Sp) : (metL l s).length ≤ l.length := by unfold metL; rw [List.length_take, List.length_drop]; omega
theorem ahead_len (l : List Sp) (s : Sp) : (aheadL l s).length ≤ l.length := by unfold aheadL; rw [List.length_take]; omega
theorem behind_len (l : List Sp) (s : Sp) : (behindL l s).length ≤ l.length := by unfold behindL; rw [List.length_drop]; omega
theorem filledL_len (s : Sp) : (filledL s).length ≤ 1 := by unfold filledL; split <;> simp
theorem without_len : ∀ (l : List Sp) (y x : Int), (withoutL y x l).length ≤ l.length + 1
  | [], y, x => filledL_len _
  | u :: r, y, x => by
    have h1 := without_len r (min y u.2) y
    have h2 := filledL_len (x, max x u.1)
    have h3 := without_len r y (min y u.2)
    simp only [withoutL, List.length_append, List.length_cons]
    omega
theorem left_len (s : Sp) : ∀ l : List Sp, (l.flatMap fun p => withoutL p.2 p.1 [s]).length ≤ l.length * 2
  | [] => by simp
  | p :: r => by
    have h1 := left_len s r
    have h2 := without_len [s] p.2 p.1
    simp only [List.length_cons, List.length_nil] at h2
    rw [List.flatMap_cons, List.length_append, List.length_cons]
    omega
end Go.Proofs.Ytifceaffglomaaa.Sn
