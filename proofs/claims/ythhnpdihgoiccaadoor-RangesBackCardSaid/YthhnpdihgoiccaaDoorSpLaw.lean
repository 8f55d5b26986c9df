/-
  The sets that spans and one span more make, as plain facts, and what the laws of layer 13 say of them. No program, no condition.
-/
import Derived.Test.YthhnpdihgoiccaaDoorSpOf
import Derived.Test.YthhnpdihgoiccaaDoorSpSort
namespace Go.Proofs.YthhnpdihgoiccaaDoor.Sn
set_option linter.unusedVariables false
set_option linter.unusedSimpArgs false

def mostB : Int := 1048576
/-- A set: at most so many spans, each in its place, and none beyond the last place that may be. -/
structure Valid (l : List Sp) : Prop where
  len : l.length ≤ 32
  good : Good (-1) l
  top : ∀ s ∈ l, s.2 ≤ mostB
structure Right (s : Sp) : Prop where
  low : 0 ≤ s.1
  le : s.1 ≤ s.2
  top : s.2 ≤ mostB
def own (s : Sp) (z : Int) : Bool := decide (s.1 ≤ z ∧ z < s.2)
/-- The set of the places that are so. -/
structure IsSet (what : Int) (l : List Sp) (s : Sp) (out : List Sp) : Prop where
  good : Good (-1) out
  mem : ∀ z, mem out z ↔ pick what (memB l z) (own s z) = true
theorem IsSet.unique {what : Int} {l : List Sp} {s : Sp} {a b : List Sp} (ha : IsSet what l s a) (hb : IsSet what l s b) : a = b := Good.unique ha.good hb.good (fun z => by rw [ha.mem, hb.mem])
theorem good_low : ∀ {l : List Sp} {b : Int}, Good b l → ∀ s ∈ l, b < s.1 ∧ s.1 < s.2
  | [], _, _, s, h => by simp at h
  | (f, t) :: r, b, h, s, hs => by
    rcases List.mem_cons.1 hs with rfl | hs
    · exact ⟨h.1, h.2.1⟩
    · have := good_low h.2.2 s hs
      have := h.1; have := h.2.1
      omega
/-- No place beyond: no end beyond. -/
theorem top_of {l : List Sp} {b M : Int} (h : Good b l) (hm : ∀ z, mem l z → z < M) : ∀ s ∈ l, s.2 ≤ M := by
  intro s hs
  have h1 := good_low h s hs
  have := hm (s.2 - 1) ⟨s, hs, by omega, by omega⟩
  omega
theorem own_iff (s : Sp) (z : Int) : own s z = true ↔ s.1 ≤ z ∧ z < s.2 := by unfold own; rw [decide_eq_true_eq]
theorem place_bd {l : List Sp} {s : Sp} {what : Int} (hl : Good (-1) l) (ht : ∀ u ∈ l, u.2 ≤ mostB) (hs : Right s) {z : Int} (h : pick what (memB l z) (own s z) = true) : 0 ≤ z ∧ z < mostB := by
  have h1 : memB l z = true ∨ own s z = true := by
    cases ha : memB l z with
    | true => exact .inl rfl
    | false =>
      cases hb : own s z with
      | true => exact .inr rfl
      | false => rw [ha, hb, pick_none] at h; cases h
  rcases h1 with h1 | h1
  · obtain ⟨u, hu, h2, h3⟩ := (memB_iff _ _).1 h1
    have := good_low hl u hu
    have := ht u hu
    omega
  · have h2 := (own_iff _ _).1 h1
    have := hs.low; have := hs.top
    omega
theorem IsSet.top {what : Int} {l : List Sp} {s : Sp} {out : List Sp} (h : IsSet what l s out) (hl : Good (-1) l) (ht : ∀ u ∈ l, u.2 ≤ mostB) (hs : Right s) : ∀ u ∈ out, u.2 ≤ mostB :=
  top_of h.good (fun z hz => (place_bd hl ht hs ((h.mem z).1 hz)).2)
/-- The set that is cut out of a rising list that has all ends. -/
theorem run_set {what : Int} {l : List Sp} {s : Sp} {e : List Int} (hl : Good (-1) l) (hs : Right s) (hr : ∀ i j (hi : i < e.length) (hj : j < e.length), i ≤ j → e[i] ≤ e[j])
    (hall : ∀ u ∈ l ++ [s], u.1 ∈ e ∧ u.2 ∈ e) (hno : ∀ x ∈ e, 0 ≤ x) : IsSet what l s (runOf (fun z => pick what (memB l z) (own s z)) e (e.length - 1)) := by
  have h0 : 0 < e.length := by
    have := (hall s (by simp)).1
    exact List.length_pos_of_mem this
  have hpiece : ∀ i (hi : i + 1 < e.length) z, e[i] ≤ z → z < e[i + 1] → pick what (memB l z) (own s z) = pick what (memB l e[i]) (own s e[i]) := by
    intro i hi z h1 h2
    have a1 := piece (l := l) hr (fun u hu => hall u (by simp [hu])) i hi z h1 h2
    have a2 := piece (l := [s]) hr (fun u hu => hall u (by simp at hu; simp [hu])) i hi z h1 h2
    have e2 : ∀ x, memB [s] x = own s x := fun x => by unfold memB own; simp
    rw [e2, e2] at a2
    rw [a1, a2]
  have hU := run_upto (b := -1) hr hpiece h0 (by have := hno e[0] (List.getElem_mem h0); omega) (e.length - 1) (by omega)
  refine ⟨hU.good, fun z => ?_⟩
  rw [hU.mem]
  constructor
  · exact fun h => h.2.2
  · intro h
    have hz : memB l z = true ∨ own s z = true := by
      cases ha : memB l z with
      | true => exact .inl rfl
      | false =>
        cases hb : own s z with
        | true => exact .inr rfl
        | false => rw [ha, hb, pick_none] at h; cases h
    have hu : ∃ u ∈ l ++ [s], u.1 ≤ z ∧ z < u.2 := by
      rcases hz with hz | hz
      · obtain ⟨u, hu, h2⟩ := (memB_iff _ _).1 hz
        exact ⟨u, by simp [hu], h2⟩
      · exact ⟨s, by simp, (own_iff _ _).1 hz⟩
    obtain ⟨u, hu, h2, h3⟩ := hu
    obtain ⟨b1, b2⟩ := hall u hu
    obtain ⟨i, hi, e1⟩ := List.mem_iff_getElem.1 b1
    obtain ⟨j, hj, e2⟩ := List.mem_iff_getElem.1 b2
    have c1 := hr 0 i h0 hi (by omega)
    have c2 := hr j (e.length - 1) hj (by omega) (by omega)
    exact ⟨by omega, by omega, h⟩

/-! What the laws say. -/
theorem size_one (s : Sp) : size [s] = s.2 - s.1 := by simp [size]
theorem own_good {s : Sp} (hs : Right s) (h : s.1 < s.2) : Good (-1) [s] := ⟨by have := hs.low; omega, h, trivial⟩
/-- A set's part of a span, and what lacks: their places. -/
theorem parts_size {l : List Sp} {s : Sp} {gaps cut : List Sp} (hl : Good (-1) l) (ht : ∀ u ∈ l, u.2 ≤ mostB) (hs : Right s) (hg : IsSet 3 l s gaps) (hc : IsSet 4 l s cut) : size cut + size gaps = s.2 - s.1 := by
  by_cases he : s.1 = s.2
  · have none : ∀ z, own s z = false := fun z => by unfold own; rw [decide_eq_false_iff_not]; omega
    have e1 : gaps = [] := Good.unique (b := -1) (b' := -1) hg.good trivial (fun z => by rw [hg.mem, none]; simp [pick, mem_nil])
    have e2 : cut = [] := Good.unique (b := -1) (b' := -1) hc.good trivial (fun z => by rw [hc.mem, none]; simp [pick, mem_nil])
    rw [e1, e2, he]; simp [size]
  · have hlt : s.1 < s.2 := by have := hs.le; omega
    rw [← size_one s]
    refine size_parts hc.good hg.good (own_good hs hlt) (Int.le_refl _) 1048576 (hc.top hl ht hs) (hg.top hl ht hs) (fun u hu => by simp at hu; subst hu; exact hs.top) (fun x => ?_) (fun x h1 h2 => ?_)
    · rw [hc.mem, hg.mem, mem_cons]
      have := own_iff s x
      cases memB l x <;> cases ho : own s x <;> simp [pick, mem_nil, ho] at this ⊢ <;> omega
    · rw [hc.mem] at h1
      rw [hg.mem] at h2
      revert h1 h2
      cases memB l x <;> cases own s x <;> simp [pick]
theorem parts_at {l : List Sp} {s : Sp} {gaps cut : List Sp} (hg : IsSet 3 l s gaps) (hc : IsSet 4 l s cut) {z : Int} (hz : s.1 ≤ z ∧ z < s.2) : memB gaps z = !memB cut z ∧ memB cut z = memB l z := by
  have ho := (own_iff s z).2 hz
  have e1 : memB gaps z = !memB l z := by
    rw [Bool.eq_iff_iff, memB_iff, hg.mem, ho]
    cases memB l z <;> simp [pick]
  have e2 : memB cut z = memB l z := by
    rw [Bool.eq_iff_iff, memB_iff, hc.mem, ho]
    cases memB l z <;> simp [pick]
  rw [e1, e2]; exact ⟨rfl, rfl⟩
theorem parts_none {l : List Sp} {s : Sp} {gaps cut : List Sp} (hg : IsSet 3 l s gaps) (hc : IsSet 4 l s cut) (he : s.1 = s.2) : gaps = [] ∧ cut = [] := by
  have none : ∀ z, own s z = false := fun z => by unfold own; rw [decide_eq_false_iff_not]; omega
  exact ⟨Good.unique (b := -1) (b' := -1) hg.good trivial (fun z => by rw [hg.mem, none]; simp [pick, mem_nil]), Good.unique (b := -1) (b' := -1) hc.good trivial (fun z => by rw [hc.mem, none]; simp [pick, mem_nil])⟩
/-- Nothing lacks just if each place is there. -/
theorem gaps_none {l : List Sp} {s : Sp} {gaps : List Sp} (hg : IsSet 3 l s gaps) : gaps = [] ↔ ∀ z, own s z = true → memB l z = true := by
  constructor
  · intro h z hz
    cases hm : memB l z with
    | true => rfl
    | false =>
      have : mem gaps z := (hg.mem z).2 (by rw [hm, hz]; simp [pick])
      rw [h] at this
      exact absurd this (mem_nil z)
  · intro h
    refine Good.unique (b := -1) (b' := -1) hg.good trivial (fun z => ?_)
    rw [hg.mem]
    constructor
    · intro h2
      have h3 := h z
      revert h2 h3
      cases memB l z <;> cases own s z <;> simp [pick]
    · intro h2; exact absurd h2 (mem_nil z)
theorem cut_none {l : List Sp} {s : Sp} {cut : List Sp} (hc : IsSet 4 l s cut) : cut = [] ↔ ∀ z, own s z = true → memB l z = false := by
  constructor
  · intro h z hz
    cases hm : memB l z with
    | false => rfl
    | true =>
      have : mem cut z := (hc.mem z).2 (by rw [hm, hz]; simp [pick])
      rw [h] at this
      exact absurd this (mem_nil z)
  · intro h
    refine Good.unique (b := -1) (b' := -1) hc.good trivial (fun z => ?_)
    rw [hc.mem]
    constructor
    · intro h2
      have h3 := h z
      revert h2 h3
      cases memB l z <;> cases own s z <;> simp [pick]
    · intro h2; exact absurd h2 (mem_nil z)
/-- What is added is there; what is taken away is not; each other place is as it was. -/
theorem added {l : List Sp} {s : Sp} {x : List Sp} (h : IsSet 1 l s x) : (∀ z, memB x z = (memB l z || own s z)) ∧ ∀ g, IsSet 3 x s g → g = [] := by
  have e : ∀ z, memB x z = (memB l z || own s z) := fun z => by
    rw [Bool.eq_iff_iff, memB_iff, h.mem]
    cases memB l z <;> cases own s z <;> simp [pick]
  exact ⟨e, fun g hg => (gaps_none hg).2 (fun z hz => by rw [e, hz]; simp)⟩
theorem removed {l : List Sp} {s : Sp} {x : List Sp} (h : IsSet 2 l s x) : (∀ z, memB x z = (memB l z && !own s z)) ∧ ∀ g, IsSet 4 x s g → g = [] := by
  have e : ∀ z, memB x z = (memB l z && !own s z) := fun z => by
    rw [Bool.eq_iff_iff, memB_iff, h.mem]
    cases memB l z <;> cases own s z <;> simp [pick]
  exact ⟨e, fun g hg => (cut_none hg).2 (fun z hz => by rw [e, hz]; simp)⟩
/-- Sets of the same places are one. -/
theorem same_places {a b : List Sp} (ha : Good (-1) a) (hb : Good (-1) b) (h : ∀ z, memB a z = memB b z) : a = b :=
  Good.unique ha hb (fun z => by rw [← memB_iff, ← memB_iff, h])
/-! How many spans. -/
theorem pick_one (a b : Bool) : pick 1 a b = (a || b) := by cases a <;> cases b <;> rfl
theorem nodup_len : ∀ (a L : List Int), a.Nodup → (∀ x ∈ a, x ∈ L) → a.length ≤ L.length
  | [], L, _, _ => Nat.zero_le _
  | x :: a, L, h, hs => by
    rw [List.nodup_cons] at h
    have hx := hs x (by simp)
    have h1 := nodup_len a (L.erase x) h.2 (fun y hy => (List.mem_erase_of_ne (fun e => h.1 (by rw [← e]; exact hy))).2 (hs y (by simp [hy])))
    rw [List.length_erase_of_mem hx] at h1
    have := List.length_pos_of_mem hx
    rw [List.length_cons]; omega
theorem good_nodup : ∀ {l : List Sp} {b : Int}, Good b l → (l.map fun s => s.1).Nodup
  | [], _, _ => List.nodup_nil
  | (f, t) :: r, b, h => by
    rw [List.map_cons, List.nodup_cons]
    refine ⟨fun hm => ?_, good_nodup h.2.2⟩
    obtain ⟨s, hs, e⟩ := List.mem_map.1 hm
    have := good_low h.2.2 s hs
    have := h.2.1
    simp only at e
    omega
/-- Ahead of a span there is a gap. -/
theorem good_gap : ∀ {l : List Sp} {b : Int}, Good b l → ∀ s ∈ l, ¬ mem l (s.1 - 1)
  | [], _, _, s, h => by simp at h
  | (f, t) :: r, b, h, s, hs => by
    rw [mem_cons]
    rintro (h1 | h1)
    · simp only at h1
      rcases List.mem_cons.1 hs with rfl | hs
      · simp only at h1; omega
      · have := good_low h.2.2 s hs; omega
    · rcases List.mem_cons.1 hs with rfl | hs
      · have h4 := h.2.1; have h5 := h.2.2.above _ h1; simp only at h5; omega
      · exact good_gap h.2.2 s hs h1
/-- One span more makes a set at most one span longer. -/
theorem add_len {l : List Sp} {s : Sp} {x : List Sp} (h : IsSet 1 l s x) : x.length ≤ l.length + 1 := by
  have h1 := nodup_len (x.map fun u => u.1) ((s :: l).map fun u => u.1) (good_nodup h.good) (fun f hf => by
    obtain ⟨u, hu, rfl⟩ := List.mem_map.1 hf
    have hlow := good_low h.good u hu
    have h2 : mem x u.1 := ⟨u, hu, Int.le_refl _, hlow.2⟩
    have h3 := good_gap h.good u hu
    rw [h.mem] at h2 h3
    have e : ∀ z, pick 1 (memB l z) (own s z) = (memB l z || own s z) := fun z => pick_one _ _
    rw [e] at h2 h3
    rw [Bool.or_eq_true] at h2
    rw [Bool.not_eq_true, Bool.or_eq_false_iff] at h3
    rcases h2 with h2 | h2
    · obtain ⟨v, hv, h4, h5⟩ := (memB_iff _ _).1 h2
      have h6 : v.1 = u.1 := by
        by_cases h7 : v.1 = u.1
        · exact h7
        · have : memB l (u.1 - 1) = true := (memB_iff _ _).2 ⟨v, hv, by omega, by omega⟩
          rw [h3.1] at this; cases this
      exact List.mem_map.2 ⟨v, List.mem_cons_of_mem _ hv, h6⟩
    · have h4 := (own_iff _ _).1 h2
      have h6 : s.1 = u.1 := by
        by_cases h7 : s.1 = u.1
        · exact h7
        · have : own s (u.1 - 1) = true := (own_iff _ _).2 ⟨by omega, by omega⟩
          rw [h3.2] at this; cases this
      exact List.mem_map.2 ⟨s, List.mem_cons_self, h6⟩)
  simpa using h1
/-- Adding again changes nothing. -/
theorem again {a : List Sp} {s : Sp} {x : List Sp} (ha : Good (-1) a) (hx : IsSet 1 a s x) (h : ∀ z, own s z = true → memB a z = true) : x = a := by
  refine same_places hx.good ha (fun z => ?_)
  rw [(added hx).1]
  have := h z
  revert this
  cases memB a z <;> cases own s z <;> simp
/-! Spans added one behind the other. -/
inductive Adds : List Sp → List Sp → Prop
  | nil : Adds [] []
  | snoc {l x y : List Sp} {s : Sp} : Adds l x → IsSet 1 x s y → Adds (l ++ [s]) y
theorem Adds.good : ∀ {l x : List Sp}, Adds l x → Good (-1) x
  | _, _, .nil => trivial
  | _, _, .snoc _ h => h.good
theorem Adds.len : ∀ {l x : List Sp}, Adds l x → x.length ≤ l.length
  | _, _, .nil => Nat.le_refl _
  | _, _, .snoc h1 h2 => by have := h1.len; have := add_len h2; simp; omega
theorem Adds.mem : ∀ {l x : List Sp}, Adds l x → ∀ z, memB x z = l.any fun s => own s z
  | _, _, .nil, z => rfl
  | _, _, .snoc h1 h2, z => by rw [(added h2).1, h1.mem]; simp
theorem Adds.top : ∀ {l x : List Sp}, Adds l x → (∀ s ∈ l, Right s) → ∀ u ∈ x, u.2 ≤ mostB
  | _, _, .nil, _, u, hu => by simp at hu
  | _, _, .snoc h1 h2, h, u, hu => h2.top h1.good (h1.top (fun s hs => h s (by simp [hs]))) (h _ (by simp)) u hu
/-- In either order it is one set. -/
theorem adds_order {l x y : List Sp} (h1 : Adds l x) (h2 : Adds l.reverse y) : x = y :=
  same_places h1.good h2.good (fun z => by rw [h1.mem, h2.mem, List.any_reverse])
theorem adds_again {l x : List Sp} (h : Adds l x) {s : Sp} (hs : s ∈ l) {y : List Sp} (hy : IsSet 1 x s y) : y = x :=
  again h.good hy (fun z hz => by rw [h.mem, List.any_eq_true]; exact ⟨s, hs, hz⟩)
theorem adds_has {l x : List Sp} (h : Adds l x) {s : Sp} (hs : s ∈ l) {g : List Sp} (hg : IsSet 3 x s g) : g = [] :=
  (gaps_none hg).2 (fun z hz => by rw [h.mem, List.any_eq_true]; exact ⟨s, hs, hz⟩)
theorem Adds.valid {l x : List Sp} (h : Adds l x) (hr : ∀ s ∈ l, Right s) (hl : l.length ≤ 32) : Valid x := ⟨Nat.le_trans h.len hl, h.good, h.top hr⟩
end Go.Proofs.YthhnpdihgoiccaaDoor.Sn
