/-
  The names that Vary tells, rising and each once; the key that names and fields have; both as plain functions, and what the laws of layer 11 say of them. No program, no condition.
-/
import Derived.Test.YtcnipjmeillfeaaDoorDecMath
import Derived.Test.YtcnipjmeillfeaaDoorFdNamesMath
namespace Go.Proofs.YtcnipjmeillfeaaDoor.Vr
open Go.Proofs.YtcnipjmeillfeaaDoor.Tk Go.Proofs.YtcnipjmeillfeaaDoor.Fd Go.Proofs.YtcnipjmeillfeaaDoor.Ct
set_option linter.unusedVariables false
set_option linter.unusedSimpArgs false

/-! Texts in order. -/
def lt : Bs → Bs → Bool
  | _, [] => false
  | [], _ :: _ => true
  | a :: x, b :: y => if a.toNat < b.toNat then true else if b.toNat < a.toNat then false else lt x y
theorem lt_irr : ∀ a : Bs, lt a a = false
  | [] => rfl
  | a :: x => by unfold lt; simp [lt_irr x]
theorem lt_trans : ∀ {a b c : Bs}, lt a b = true → lt b c = true → lt a c = true
  | _, [], _, h, _ => by unfold lt at h; cases h
  | _, _ :: _, [], _, h => by unfold lt at h; cases h
  | [], _ :: _, _ :: _, _, _ => rfl
  | a :: x, b :: y, c :: z, h1, h2 => by
    unfold lt at h1 h2 ⊢
    by_cases ha : a.toNat < b.toNat
    · by_cases hb : b.toNat < c.toNat
      · rw [if_pos (by omega)]
      · by_cases hb2 : c.toNat < b.toNat
        · rw [if_neg hb, if_pos hb2] at h2; cases h2
        · rw [if_pos (by omega)]
    · by_cases ha2 : b.toNat < a.toNat
      · rw [if_neg ha, if_pos ha2] at h1; cases h1
      · rw [if_neg ha, if_neg ha2] at h1
        by_cases hb : b.toNat < c.toNat
        · rw [if_pos (by omega)]
        · by_cases hb2 : c.toNat < b.toNat
          · rw [if_neg hb, if_pos hb2] at h2; cases h2
          · rw [if_neg hb, if_neg hb2] at h2
            rw [if_neg (by omega), if_neg (by omega)]
            exact lt_trans h1 h2
theorem lt_or : ∀ a b : Bs, lt a b = true ∨ a = b ∨ lt b a = true
  | [], [] => .inr (.inl rfl)
  | [], _ :: _ => .inl rfl
  | _ :: _, [] => .inr (.inr rfl)
  | a :: x, b :: y => by
    by_cases h : a.toNat < b.toNat
    · left; unfold lt; rw [if_pos h]
    · by_cases h2 : b.toNat < a.toNat
      · right; right; unfold lt; rw [if_pos h2]
      · have e : a = b := UInt8.toNat_inj.1 (by omega)
        subst e
        rcases lt_or x y with h3 | h3 | h3
        · left; unfold lt; simp [h3]
        · right; left; rw [h3]
        · right; right; unfold lt; simp [h3]
theorem lt_asym {a b : Bs} (h : lt a b = true) : lt b a = false := by
  cases h2 : lt b a with
  | false => rfl
  | true => have := lt_trans h h2; rw [lt_irr] at this; cases this

/-! Rising lists. -/
def Up (l : List Bs) : Prop := l.Pairwise fun a b => lt a b = true
theorem Up.unique : ∀ {a b : List Bs}, Up a → Up b → (∀ x, x ∈ a ↔ x ∈ b) → a = b
  | [], [], _, _, _ => rfl
  | [], y :: b, _, _, h => absurd ((h y).2 (by simp)) (by simp)
  | x :: a, [], _, _, h => absurd ((h x).1 (by simp)) (by simp)
  | x :: a, y :: b, ha, hb, h => by
    unfold Up at ha hb
    rw [List.pairwise_cons] at ha hb
    have e : x = y := by
      rcases List.mem_cons.1 ((h x).1 (by simp)) with h1 | h1
      · exact h1
      · rcases List.mem_cons.1 ((h y).2 (by simp)) with h2 | h2
        · exact h2.symm
        · have := lt_trans (hb.1 x h1) (ha.1 y h2); rw [lt_irr] at this; cases this
    subst e
    rw [Up.unique ha.2 hb.2 (fun z => ?_)]
    constructor
    · intro hz
      rcases List.mem_cons.1 ((h z).1 (by simp [hz])) with rfl | h1
      · have := ha.1 z hz; rw [lt_irr] at this; cases this
      · exact h1
    · intro hz
      rcases List.mem_cons.1 ((h z).2 (by simp [hz])) with rfl | h1
      · have := hb.1 z hz; rw [lt_irr] at this; cases this
      · exact h1
/-- A text put in its place, if it is not there. -/
def ins (x : Bs) : List Bs → List Bs
  | [] => [x]
  | y :: r => if lt x y then x :: y :: r else if x = y then y :: r else y :: ins x r
def sortU (l : List Bs) : List Bs := l.foldr ins []
theorem mem_ins (x : Bs) : ∀ (l : List Bs) (z : Bs), z ∈ ins x l ↔ z = x ∨ z ∈ l
  | [], z => by simp [ins]
  | y :: r, z => by
    unfold ins
    split
    · simp
    · split
      · rename_i h; subst h; simp
      · rw [List.mem_cons, mem_ins x r z, List.mem_cons]
        constructor
        · rintro (h | h | h)
          · exact .inr (.inl h)
          · exact .inl h
          · exact .inr (.inr h)
        · rintro (h | h | h)
          · exact .inr (.inl h)
          · exact .inl h
          · exact .inr (.inr h)
theorem up_ins (x : Bs) : ∀ {l : List Bs}, Up l → Up (ins x l)
  | [], _ => by unfold Up ins; simp
  | y :: r, h => by
    have h2 := h
    unfold Up at h2
    rw [List.pairwise_cons] at h2
    unfold ins
    split
    · rename_i h3
      unfold Up
      rw [List.pairwise_cons]
      refine ⟨fun z hz => ?_, h⟩
      rcases List.mem_cons.1 hz with rfl | hz
      · exact h3
      · exact lt_trans h3 (h2.1 z hz)
    · split
      · exact h
      · rename_i h3 h4
        unfold Up
        rw [List.pairwise_cons]
        refine ⟨fun z hz => ?_, up_ins x h2.2⟩
        rcases (mem_ins x r z).1 hz with rfl | hz
        · rcases lt_or z y with h5 | h5 | h5
          · exact absurd h5 h3
          · exact absurd h5 h4
          · exact h5
        · exact h2.1 z hz
theorem up_sort : ∀ l : List Bs, Up (sortU l)
  | [] => by unfold Up sortU; simp
  | x :: r => up_ins x (up_sort r)
theorem mem_sort : ∀ (l : List Bs) (z : Bs), z ∈ sortU l ↔ z ∈ l
  | [], z => by simp [sortU]
  | x :: r, z => by
    show z ∈ ins x (sortU r) ↔ _
    rw [mem_ins, mem_sort r z, List.mem_cons]
/-- Whatever rises and has these texts is this list. -/
theorem sort_is {l u : List Bs} (h : Up u) (hm : ∀ x, x ∈ u ↔ x ∈ l) : u = sortU l := Up.unique h (up_sort l) (fun x => by rw [hm, mem_sort])
theorem sort_length : ∀ l : List Bs, (sortU l).length ≤ l.length
  | [] => by simp [sortU]
  | x :: r => by
    have : ∀ l : List Bs, (ins x l).length ≤ l.length + 1 := by
      intro l
      induction l with
      | nil => simp [ins]
      | cons y r ih =>
        unfold ins
        split
        · simp
        · split
          · simp
          · simp; omega
    have h1 := this (sortU r)
    have h2 := sort_length r
    show (ins x (sortU r)).length ≤ _
    rw [List.length_cons]; omega

/-! The names that Vary tells. -/
def varyL : Bs := [118, 97, 114, 121]
def namesV (fs : List Fl) : Option (List Bs) := match namesOf (getT fs varyL) with
  | none => none
  | some ns => if ns.contains [42] then none else some (sortU ns)
theorem namesV_is {fs : List Fl} {ns u : List Bs} (h : namesOf (getT fs varyL) = some ns) (hs : ns.contains [42] = false) (hu : Up u) (hm : ∀ x, x ∈ u ↔ x ∈ ns) : namesV fs = some u := by
  unfold namesV; rw [h]; simp only [hs, sort_is hu hm]; rfl

/-! Keys. -/
def partOf (nm v : Bs) (n : Nat) : Bs := if n = 0 then nm ++ [58, 45, 44] else nm ++ 58 :: (decL v.length ++ 58 :: (v ++ [44]))
def keyOf (fs : List Fl) (ns : List Bs) : Bs := ns.flatMap fun nm => partOf nm (getT fs nm) (getN fs nm)
/-- A number's digits, up to the colon. -/
theorem upto_colon : ∀ {a b r s : Bs}, (∀ c ∈ a, c ≠ 58) → (∀ c ∈ b, c ≠ 58) → a ++ 58 :: r = b ++ 58 :: s → a = b ∧ r = s
  | [], [], r, s, _, _, h => by simpa using h
  | [], c :: b, r, s, _, hb, h => by
    rw [List.nil_append, List.cons_append, List.cons.injEq] at h
    exact absurd h.1.symm (hb c (by simp))
  | c :: a, [], r, s, ha, _, h => by
    rw [List.nil_append, List.cons_append, List.cons.injEq] at h
    exact absurd h.1 (ha c (by simp))
  | c :: a, d :: b, r, s, ha, hb, h => by
    rw [List.cons_append, List.cons_append, List.cons.injEq] at h
    obtain ⟨h1, h2⟩ := upto_colon (fun x hx => ha x (by simp [hx])) (fun x hx => hb x (by simp [hx])) h.2
    exact ⟨by rw [h.1, h1], h2⟩
theorem decL_pos (n : Nat) : ∃ c r, decL n = c :: r ∧ c ≠ 45 := by
  have hl := decL_all n n (dec_big n)
  match h : decL n with
  | [] => have := hl.pos; rw [h] at this; simp at this
  | c :: r => exact ⟨c, r, rfl, (dec_no (n := n) c (by rw [h]; simp)).2.1⟩
/-- Two parts of one name with the same text are alike, and so is what is behind. -/
theorem part_one {nm v u : Bs} {n m : Nat} {r s : Bs} (h : partOf nm v n ++ r = partOf nm u m ++ s) : (n = 0 ↔ m = 0) ∧ (n ≠ 0 → v = u) ∧ r = s := by
  unfold partOf at h
  by_cases hn : n = 0
  · by_cases hm : m = 0
    · rw [if_pos hn, if_pos hm] at h
      exact ⟨⟨fun _ => hm, fun _ => hn⟩, fun x => absurd hn x, List.append_cancel_left h⟩
    · rw [if_pos hn, if_neg hm] at h
      obtain ⟨c, t, e, hc⟩ := decL_pos u.length
      rw [e] at h
      simp at h
      exact absurd h.1.symm hc
  · by_cases hm : m = 0
    · rw [if_neg hn, if_pos hm] at h
      obtain ⟨c, t, e, hc⟩ := decL_pos v.length
      rw [e] at h
      simp at h
      exact absurd h.1 hc
    · rw [if_neg hn, if_neg hm] at h
      simp only [List.append_assoc, List.cons_append, List.append_cancel_left_eq, List.cons.injEq, true_and] at h
      obtain ⟨h1, h2⟩ := upto_colon (fun c hc => (dec_no c hc).1) (fun c hc => (dec_no c hc).1) h
      have hl : v.length = u.length := dec_inj h1
      obtain ⟨h3, h4⟩ := List.append_inj h2 hl
      refine ⟨⟨fun x => absurd x hn, fun x => absurd x hm⟩, fun _ => h3, ?_⟩
      simpa using h4
/-- One key just if each name is alike. -/
theorem key_one (a b : List Fl) : ∀ ns : List Bs, keyOf a ns = keyOf b ns ↔ ∀ nm ∈ ns, getT a nm = getT b nm ∧ (getN a nm = 0 ↔ getN b nm = 0)
  | [] => by simp [keyOf]
  | nm :: ns => by
    have ih := key_one a b ns
    have ea : ∀ f : List Fl, keyOf f (nm :: ns) = partOf nm (getT f nm) (getN f nm) ++ keyOf f ns := fun f => rfl
    rw [ea, ea]
    constructor
    · intro h
      obtain ⟨h1, h2, h3⟩ := part_one h
      intro x hx
      rcases List.mem_cons.1 hx with rfl | hx
      · refine ⟨?_, h1⟩
        by_cases h0 : getN a x = 0
        · have e : ∀ f : List Fl, getN f x = 0 → getT f x = [] := by
            intro f hf
            unfold getN at hf
            unfold getT; rw [List.length_eq_zero_iff.1 hf]; rfl
          rw [e a h0, e b (h1.1 h0)]
        · exact h2 h0
      · exact ih.1 h3 x hx
    · intro h
      have h0 := h nm (by simp)
      rw [ih.2 (fun x hx => h x (by simp [hx]))]
      congr 1
      unfold partOf
      rw [h0.1]
      by_cases hz : getN a nm = 0
      · rw [if_pos hz, if_pos (h0.2.1 hz)]
      · rw [if_neg hz, if_neg (fun x => hz (h0.2.2 x))]
theorem key_a : keyOf [] [[97]] = [97, 58, 45, 44] := by decide +kernel
theorem key_q : keyOf [] [[113]] = [113, 58, 45, 44] := by decide +kernel

/-! In which order, how often and in which letters names are told. -/
def nmK : Nat → Bs
  | 0 => [97, 99, 99, 101, 112, 116]
  | 1 => [98]
  | _ => [120, 45, 121]
def nmU : Nat → Bs
  | 0 => [65, 67, 67, 69, 80, 84]
  | 1 => [66]
  | _ => [88, 45, 89]
def nmP (p : Nat × Bool) : Bs := if p.2 then nmU p.1 else nmK p.1
def ordT (os : List (Nat × Bool)) : Bs := os.flatMap fun p => nmP p ++ [32, 44]
theorem sp_plain : ∀ (x own r : Bs), (∀ c ∈ x, c ≠ 44 ∧ c ≠ 34) → sp false own (x ++ r) = sp false (own ++ x) r
  | [], own, r, _ => by simp
  | c :: x, own, r, h => by
    have h1 := h c (by simp)
    rw [List.cons_append, sp_other _ _ h1.1 h1.2, sp_plain x _ r (fun d hd => h d (by simp [hd]))]
    simp
def okP (p : Nat × Bool) : Bool := ((nmP p).all fun c => c != 44 && c != 34) && (trim (nmP p ++ [32]) == nmP p) && !(nmP p).isEmpty && isTok (nmP p) && (lower (nmP p) == nmK p.1)
theorem ok_all : ∀ k : Fin 3, ∀ u : Bool, okP (k.val, u) = true := by decide +kernel
theorem ok_at {p : Nat × Bool} (h : p.1 < 3) : (∀ c ∈ nmP p, c ≠ 44 ∧ c ≠ 34) ∧ trim (nmP p ++ [32]) = nmP p ∧ nmP p ≠ [] ∧ isTok (nmP p) = true ∧ lower (nmP p) = nmK p.1 := by
  have h1 : okP p = true := ok_all ⟨p.1, h⟩ p.2
  unfold okP at h1
  simp only [Bool.and_eq_true, List.all_eq_true, bne_iff_ne, beq_iff_eq, Bool.not_eq_true', List.isEmpty_eq_false_iff] at h1
  exact ⟨h1.1.1.1.1, h1.1.1.1.2, h1.1.1.2, h1.1.2, h1.2⟩
theorem split_ord : ∀ os : List (Nat × Bool), (∀ p ∈ os, p.1 < 3) → splitOf (ordT os) = some (os.map nmP)
  | [], _ => by decide +kernel
  | p :: os, h => by
    obtain ⟨h1, h2, h3, _, _⟩ := ok_at (h p (by simp))
    have ih := split_ord os (fun q hq => h q (by simp [hq]))
    have e : ordT (p :: os) = nmP p ++ 32 :: 44 :: ordT os := by unfold ordT; simp
    unfold splitOf at ih ⊢
    rw [e, sp_plain _ _ _ h1, List.nil_append, sp_other _ _ (by decide) (by decide), sp_comma, ih]
    show some (put (nmP p ++ [32]) (os.map nmP)) = _
    unfold put
    rw [h2, if_neg h3]; rfl
theorem names_ord (os : List (Nat × Bool)) (h : ∀ p ∈ os, p.1 < 3) : namesOf (ordT os) = some (os.map fun p => nmK p.1) := by
  have ht : (os.map nmP).all isTok = true := by
    rw [List.all_eq_true]
    intro x hx
    obtain ⟨p, hp, rfl⟩ := List.mem_map.1 hx
    exact (ok_at (h p hp)).2.2.2.1
  rw [names_good (split_ord os h) ht, List.map_map]
  congr 1
  apply List.map_congr_left
  intro p hp
  exact (ok_at (h p hp)).2.2.2.2
def wantK (seen : Nat → Bool) : List Bs := ([0, 1, 2].filter seen).map nmK
theorem want_up (seen : Nat → Bool) : Up (wantK seen) := by
  unfold wantK
  have h : Up ([0, 1, 2].map nmK) := by
    unfold Up
    have e1 : lt (nmK 0) (nmK 1) = true := by decide +kernel
    have e2 : lt (nmK 0) (nmK 2) = true := by decide +kernel
    have e3 : lt (nmK 1) (nmK 2) = true := by decide +kernel
    simp [e1, e2, e3]
  exact List.Pairwise.sublist (List.Sublist.map _ List.filter_sublist) h
theorem vary_low : has varyL (⟨varyL.toArray⟩, ⟨#[]⟩) = true := by decide +kernel
theorem order_one (os : List (Nat × Bool)) (h : ∀ p ∈ os, p.1 < 3) : namesV [(⟨varyL.toArray⟩, ⟨(ordT os).toArray⟩)] = some (wantK fun k => os.any fun p => p.1 == k) := by
  have e : getT [((⟨varyL.toArray⟩ : ByteArray), (⟨(ordT os).toArray⟩ : ByteArray))] varyL = ordT os := by
    have h1 : has varyL ((⟨varyL.toArray⟩ : ByteArray), (⟨(ordT os).toArray⟩ : ByteArray)) = true := vary_low
    unfold getT sel
    simp [h1, joinC]
  refine namesV_is (by rw [e]; exact names_ord os h) ?_ (want_up _) ?_
  · rw [List.contains_eq_mem, decide_eq_false_iff_not, List.mem_map]
    rintro ⟨p, hp, h1⟩
    have hk : ∀ k : Fin 3, nmK k.val ≠ [42] := by decide
    exact hk ⟨p.1, h p hp⟩ h1
  · intro x
    unfold wantK
    rw [List.mem_map, List.mem_map]
    constructor
    · rintro ⟨k, hk, rfl⟩
      rw [List.mem_filter, List.any_eq_true] at hk
      obtain ⟨p, hp, h1⟩ := hk.2
      exact ⟨p, hp, by rw [beq_iff_eq] at h1; rw [h1]⟩
    · rintro ⟨p, hp, rfl⟩
      refine ⟨p.1, ?_, rfl⟩
      rw [List.mem_filter, List.any_eq_true]
      have := h p hp
      refine ⟨?_, p, hp, by simp⟩
      simp; omega
end Go.Proofs.YtcnipjmeillfeaaDoor.Vr
