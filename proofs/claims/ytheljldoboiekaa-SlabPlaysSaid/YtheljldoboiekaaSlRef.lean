/-
  The reference's arena (a list of the blocks that were ever taken) beside the plain one: each call keeps what relates them. No program, no condition.
-/
import Derived.Test.YtheljldoboiekaaSlMath
namespace Go.Proofs.Ytheljldoboiekaa.Sl
open Go.Proofs.Ytheljldoboiekaa.Tk
set_option linter.unusedVariables false
set_option linter.unusedSimpArgs false

/-- A block that was taken: class, index, generation, holds, bytes. -/
structure RB where
  c : Nat
  i : Nat
  gen : Nat
  held : Nat
  mem : Bs
def isKey (c i : Int) (r : RB) : Bool := decide ((r.c : Int) = c ∧ (r.i : Int) = i)
/-- Where a block stands first; the list's length: nowhere. -/
def findR (c i : Int) : List RB → Nat
  | [] => 0
  | r :: l => if isKey c i r then 0 else findR c i l + 1
theorem findR_le (c i : Int) : ∀ L : List RB, findR c i L ≤ L.length
  | [] => Nat.le_refl _
  | r :: l => by unfold findR; have := findR_le c i l; split <;> simp <;> omega
theorem findR_key {c i : Int} : ∀ {L : List RB} {r : RB}, L[findR c i L]? = some r → isKey c i r = true
  | [], r, h => by simp [findR] at h
  | x :: l, r, h => by
    by_cases hx : isKey c i x = true
    · have e : findR c i (x :: l) = 0 := by unfold findR; rw [if_pos hx]
      rw [e] at h; injection h with h; subst h; exact hx
    · have e : findR c i (x :: l) = findR c i l + 1 := by rw [findR, if_neg hx]
      rw [e, List.getElem?_cons_succ] at h
      exact findR_key h
/-- The keys alone say where. -/
theorem findR_congr {c i : Int} : ∀ {L M : List RB}, L.map (fun r => (r.c, r.i)) = M.map (fun r => (r.c, r.i)) → findR c i L = findR c i M
  | [], [], _ => rfl
  | [], y :: m, h => by cases h
  | x :: l, [], h => by cases h
  | x :: l, y :: m, h => by
    injection h with h1 h2
    injection h1 with h3 h4
    have e : isKey c i x = isKey c i y := by unfold isKey; rw [h3, h4]
    unfold findR
    rw [e, findR_congr h2]
theorem keys_set {L : List RB} {k : Nat} {r x : RB} (h : L[k]? = some r) (hc : x.c = r.c) (hi : x.i = r.i) : (L.set k x).map (fun r => (r.c, r.i)) = L.map (fun r => (r.c, r.i)) := by
  obtain ⟨hlt, e⟩ := List.getElem?_eq_some_iff.1 h
  rw [List.map_set, hc, hi, ← e]
  apply List.ext_getElem?
  intro j
  by_cases hj : k = j
  · subst hj; rw [List.getElem?_set_self (by simpa using hlt)]; simp [hlt]
  · rw [List.getElem?_set_ne hj]
theorem findR_set {c i : Int} {L : List RB} {k : Nat} {r x : RB} (h : L[k]? = some r) (hc : x.c = r.c) (hi : x.i = r.i) : findR c i (L.set k x) = findR c i L := findR_congr (keys_set h hc hi)
theorem findR_snoc {c i : Int} : ∀ {L : List RB} {x : RB}, findR c i (L ++ [x]) = if findR c i L < L.length then findR c i L else if isKey c i x then L.length else L.length + 1
  | [], x => by
    show findR c i [x] = _
    simp only [findR, List.length_nil, Nat.lt_irrefl, if_false]
  | y :: l, x => by
    have ih := findR_snoc (c := c) (i := i) (L := l) (x := x)
    show findR c i (y :: (l ++ [x])) = _
    unfold findR
    by_cases hy : isKey c i y = true
    · rw [if_pos hy, if_pos hy, if_pos (by simp)]
    · rw [if_neg hy, if_neg hy, ih, List.length_cons]
      by_cases h1 : findR c i l < l.length
      · simp only [h1, if_true, Nat.add_lt_add_iff_right]
      · simp only [h1, if_false, Nat.add_lt_add_iff_right]
        split <;> rfl
def liveP (c : Nat) (r : RB) : Bool := r.c == c && r.held != 0
def heldP (b : Blk) : Bool := b.held != 0
/-- What relates the two. -/
structure RelR (A : Ar) (ns : Nat → Nat) (L : List RB) : Prop where
  len : ∀ c, c < 4 → (A c).length = ns c
  tell : ∀ (c i : Nat) (b : Blk), c < 4 → (A c)[i]? = some b → (findR c i L = L.length ∧ b.gen = 0 ∧ b.held = 0) ∨ ∃ r, L[findR c i L]? = some r ∧ r.gen = b.gen ∧ r.held = b.held ∧ (b.held ≠ 0 → r.mem = b.mem)
  inside : ∀ r ∈ L, r.c < 4 ∧ r.i < ns r.c
  live : ∀ c, c < 4 → L.countP (liveP c) = (A c).countP heldP
theorem RelR.start (ns : Nat → Nat) : RelR (newA ns) ns [] := by
  refine ⟨fun c _ => by simp [newA], fun c i b _ h => .inl ?_, fun r hr => by (cases hr), fun c _ => ?_⟩
  · unfold newA at h
    rw [List.getElem?_replicate] at h
    split at h
    · injection h with h; subst h; exact ⟨rfl, rfl, rfl⟩
    · cases h
  · unfold newA
    rw [List.countP_replicate]; rfl
theorem find_none {A : Ar} {ns : Nat → Nat} {L : List RB} (h : RelR A ns L) {c i : Int} (hn : ¬ (0 ≤ c ∧ c < 4 ∧ 0 ≤ i ∧ i < ns c.toNat)) : findR c i L = L.length := by
  rcases Nat.lt_or_ge (findR c i L) L.length with h1 | h1
  · exfalso
    have e := List.getElem?_eq_getElem h1
    have hk := of_decide_eq_true (findR_key e)
    obtain ⟨h2, h3⟩ := h.inside _ (List.getElem_mem h1)
    apply hn
    generalize L[findR c i L] = r at hk h2 h3
    obtain ⟨rfl, rfl⟩ := hk
    rw [Int.toNat_natCast]
    omega
  · exact Nat.le_antisymm (findR_le _ _ _) h1
/-- A handle that is right. -/
theorem RelR.right {A : Ar} {ns : Nat → Nat} {L : List RB} (h : RelR A ns L) (c i g : Int) :
    (rightA A (c, i, g) = none ∧ ∀ r, L[findR c i L]? = some r → r.held = 0 ∨ (r.gen : Int) ≠ g) ∨
    ∃ b r, rightA A (c, i, g) = some b ∧ L[findR c i L]? = some r ∧ r.held = b.held ∧ r.gen = b.gen ∧ r.mem = b.mem ∧ b.held ≠ 0 ∧ (b.gen : Int) = g ∧ 0 ≤ c ∧ c < 4 ∧ 0 ≤ i ∧ (A c.toNat)[i.toNat]? = some b := by
  by_cases hin : 0 ≤ c ∧ c < 4 ∧ 0 ≤ i ∧ i < ns c.toNat
  · obtain ⟨h1, h2, h3, h4⟩ := hin
    obtain ⟨cn, rfl⟩ : ∃ n : Nat, c = n := ⟨c.toNat, by omega⟩
    obtain ⟨im, rfl⟩ : ∃ n : Nat, i = n := ⟨i.toNat, by omega⟩
    rw [Int.toNat_natCast] at h4
    have hl := h.len cn (by omega)
    obtain ⟨b, hb⟩ : ∃ b, (A cn)[im]? = some b := ⟨_, List.getElem?_eq_getElem (by omega)⟩
    have hr := right_at (A := A) (c := cn) (i := im) (g := g) (by omega)
    rw [hb] at hr
    rcases h.tell cn im b (by omega) hb with ⟨e1, e2, e3⟩ | ⟨r, e1, e2, e3, e4⟩
    · left
      refine ⟨by rw [hr]; show (if _ then _ else _) = _; rw [if_neg (fun q => q.1 e3)], fun r hr2 => ?_⟩
      rw [e1, List.getElem?_eq_none (Nat.le_refl _)] at hr2
      cases hr2
    · by_cases hq : b.held ≠ 0 ∧ (b.gen : Int) = g
      · right
        refine ⟨b, r, by rw [hr]; show (if _ then _ else _) = _; rw [if_pos hq], e1, e3, e2, e4 hq.1, hq.1, hq.2, by omega, by omega, by omega, by rw [Int.toNat_natCast, Int.toNat_natCast]; exact hb⟩
      · left
        refine ⟨by rw [hr]; show (if _ then _ else _) = _; rw [if_neg hq], fun r2 hr2 => ?_⟩
        rw [e1] at hr2
        injection hr2 with hr2
        subst hr2
        by_cases h0 : r.held = 0
        · exact .inl h0
        · right; intro hg; exact hq ⟨by omega, by rw [← e2]; exact hg⟩
  · left
    have hf := find_none h hin
    refine ⟨?_, fun r hr => ?_⟩
    · unfold rightA
      split
      · rename_i hc
        have hl : (A c.toNat)[i.toNat]? = none := by
          have := h.len c.toNat (by simp only at hc; omega)
          exact List.getElem?_eq_none (by simp only at hc; omega)
        simp only [hl]
      · rfl
    · rw [hf, List.getElem?_eq_none (Nat.le_refl _)] at hr
      cases hr
theorem countP_swap {α : Type} {p : α → Bool} {l : List α} {k : Nat} {x y : α} (h : l[k]? = some x) : (l.set k y).countP p + (if p x then 1 else 0) = l.countP p + if p y then 1 else 0 := by
  induction l generalizing k with
  | nil => simp at h
  | cons a r ih =>
    cases k with
    | zero =>
      injection h with h; subst h
      rw [List.set_cons_zero, List.countP_cons, List.countP_cons]; omega
    | succ k =>
      rw [List.getElem?_cons_succ] at h
      rw [List.set_cons_succ, List.countP_cons, List.countP_cons]
      have := ih h; omega
/-- One block is changed, here and there. -/
theorem RelR.change {A : Ar} {ns : Nat → Nat} {L : List RB} (h : RelR A ns L) {c i : Nat} (hc : c < 4) {b y : Blk} {r x : RB} (hb : (A c)[i]? = some b) (hr : L[findR c i L]? = some r)
    (hh : r.held = b.held) (kc : x.c = r.c) (ki : x.i = r.i) (kg : x.gen = y.gen) (kh : x.held = y.held) (km : y.held ≠ 0 → x.mem = y.mem) :
    RelR (upd A c ((A c).set i y)) ns (L.set (findR c i L) x) := by
  have hk := of_decide_eq_true (findR_key hr)
  have hrc : r.c = c := by exact_mod_cast hk.1
  have hri : r.i = i := by exact_mod_cast hk.2
  obtain ⟨hlt, _⟩ := List.getElem?_eq_some_iff.1 hr
  obtain ⟨hbl, _⟩ := List.getElem?_eq_some_iff.1 hb
  refine ⟨fun d hd => ?_, fun d j z hd hz => ?_, fun q hq => ?_, fun d hd => ?_⟩
  · by_cases e : d = c
    · subst e; rw [upd_same, List.length_set]; exact h.len d hd
    · rw [upd_other _ _ e]; exact h.len d hd
  · rw [findR_set hr kc ki]
    by_cases e : d = c ∧ j = i
    · obtain ⟨rfl, rfl⟩ := e
      rw [upd_same, List.getElem?_set_self hbl] at hz
      injection hz with hz
      subst hz
      right
      exact ⟨x, List.getElem?_set_self hlt, kg, kh, km⟩
    · have hz2 : (A d)[j]? = some z := by
        by_cases e2 : d = c
        · subst e2
          rw [upd_same, List.getElem?_set_ne (fun q => e ⟨rfl, q.symm⟩)] at hz
          exact hz
        · rw [upd_other _ _ e2] at hz; exact hz
      rcases h.tell d j z hd hz2 with h1 | ⟨s, h1, h2⟩
      · left; rw [List.length_set]; exact h1
      · right
        refine ⟨s, ?_, h2⟩
        have hs := of_decide_eq_true (findR_key h1)
        rw [List.getElem?_set_ne, h1]
        intro q
        rw [← q] at h1
        rw [hr] at h1
        injection h1 with h1
        subst h1
        have e1 : r.c = d := by exact_mod_cast hs.1
        have e2 : r.i = j := by exact_mod_cast hs.2
        exact e ⟨by omega, by omega⟩
  · rcases List.mem_or_eq_of_mem_set hq with hq | rfl
    · exact h.inside q hq
    · rw [kc, ki]; exact h.inside r (List.mem_of_getElem? hr)
  · have hL := countP_swap (p := liveP d) (y := x) hr
    have h0 := h.live d hd
    by_cases e : d = c
    · subst e
      rw [upd_same]
      have hA := countP_swap (p := heldP) (y := y) hb
      have p1 : liveP d r = heldP b := by unfold liveP heldP; rw [hrc, hh]; simp
      have p2 : liveP d x = heldP y := by unfold liveP heldP; rw [kc, hrc, kh]; simp
      rw [p1, p2] at hL
      omega
    · rw [upd_other _ _ e]
      have p1 : liveP d r = false := by unfold liveP; rw [hrc]; simp; omega
      have p2 : liveP d x = false := by unfold liveP; rw [kc, hrc]; simp; omega
      rw [p1, p2] at hL
      simp at hL
      omega
/-- A block that was never taken is taken. -/
theorem RelR.more {A : Ar} {ns : Nat → Nat} {L : List RB} (h : RelR A ns L) {c i : Nat} (hc : c < 4) {b : Blk} {x : RB} (hb : (A c)[i]? = some b) (hn : findR c i L = L.length) (hh : b.held = 0)
    (kc : x.c = c) (ki : x.i = i) {y : Blk} (kg : x.gen = y.gen) (kh : x.held = y.held) (km : y.held ≠ 0 → x.mem = y.mem) :
    RelR (upd A c ((A c).set i y)) ns (L ++ [x]) := by
  obtain ⟨hbl, _⟩ := List.getElem?_eq_some_iff.1 hb
  refine ⟨fun d hd => ?_, fun d j z hd hz => ?_, fun q hq => ?_, fun d hd => ?_⟩
  · by_cases e : d = c
    · subst e; rw [upd_same, List.length_set]; exact h.len d hd
    · rw [upd_other _ _ e]; exact h.len d hd
  · by_cases e : d = c ∧ j = i
    · obtain ⟨rfl, rfl⟩ := e
      rw [upd_same, List.getElem?_set_self hbl] at hz
      injection hz with hz
      subst hz
      right
      have hf : findR d j (L ++ [x]) = L.length := by
        rw [findR_snoc, if_neg (by omega), if_pos (by unfold isKey; rw [kc, ki]; simp)]
      exact ⟨x, by rw [hf]; simp, kg, kh, km⟩
    · have hz2 : (A d)[j]? = some z := by
        by_cases e2 : d = c
        · subst e2
          rw [upd_same, List.getElem?_set_ne (fun q => e ⟨rfl, q.symm⟩)] at hz
          exact hz
        · rw [upd_other _ _ e2] at hz; exact hz
      rcases h.tell d j z hd hz2 with ⟨h1, h2⟩ | ⟨s, h1, h2⟩
      · left
        refine ⟨?_, h2⟩
        rw [findR_snoc, if_neg (by omega), if_neg (by
          unfold isKey; rw [kc, ki]; simp only [decide_eq_true_iff]
          intro q; exact e ⟨by omega, by omega⟩)]
        simp
      · right
        obtain ⟨hlt, _⟩ := List.getElem?_eq_some_iff.1 h1
        have hf : findR d j (L ++ [x]) = findR d j L := by rw [findR_snoc, if_pos hlt]
        exact ⟨s, by rw [hf, List.getElem?_append_left hlt]; exact h1, h2⟩
  · rcases List.mem_append.1 hq with hq | hq
    · exact h.inside q hq
    · rw [List.mem_singleton] at hq
      subst hq
      rw [kc, ki]
      exact ⟨hc, by rw [← h.len c hc]; exact hbl⟩
  · rw [List.countP_append, List.countP_cons, List.countP_nil]
    have h0 := h.live d hd
    by_cases e : d = c
    · subst e
      rw [upd_same]
      have hA := countP_swap (p := heldP) (y := y) hb
      have p1 : heldP b = false := by unfold heldP; rw [hh]; rfl
      have p2 : liveP d x = heldP y := by unfold liveP heldP; rw [kc, kh]; simp
      rw [p1] at hA
      rw [p2]
      simp at hA
      omega
    · rw [upd_other _ _ e]
      have p2 : liveP d x = false := by unfold liveP; rw [kc]; simp; omega
      rw [p2]
      simp
      omega
/-- What the search for a free block meets. -/
theorem RelR.busy {A : Ar} {ns : Nat → Nat} {L : List RB} (h : RelR A ns L) {c j : Nat} (hc : c < 4) (hj : j < freeAt (A c)) : ∃ r, L[findR c j L]? = some r ∧ r.held ≠ 0 := by
  have hl : j < (A c).length := Nat.lt_of_lt_of_le hj (freeAt_le _)
  have hb := List.getElem?_eq_getElem hl
  have h0 := freeAt_below (A c) j hj
  rcases h.tell c j _ hc hb with ⟨_, _, e⟩ | ⟨r, h1, _, h3, _⟩
  · exact absurd e h0
  · exact ⟨r, h1, by rw [h3]; exact h0⟩
theorem RelR.free {A : Ar} {ns : Nat → Nat} {L : List RB} (h : RelR A ns L) {c : Nat} (hc : c < 4) {b : Blk} (hb : (A c)[freeAt (A c)]? = some b) :
    b.held = 0 ∧ ((findR c (freeAt (A c)) L = L.length ∧ b.gen = 0) ∨ ∃ r, L[findR c (freeAt (A c)) L]? = some r ∧ r.held = 0 ∧ r.gen = b.gen) := by
  obtain ⟨hl, e⟩ := List.getElem?_eq_some_iff.1 hb
  have h0 := freeAt_free (A c) hl
  rw [e] at h0
  refine ⟨h0, ?_⟩
  rcases h.tell c _ b hc hb with ⟨h1, h2, _⟩ | ⟨r, h1, h2, h3, _⟩
  · exact .inl ⟨h1, h2⟩
  · exact .inr ⟨r, h1, by rw [h3]; exact h0, h2⟩
/-- A block that was never taken is taken: the first time. -/
theorem RelR.alloc_new {A : Ar} {ns : Nat → Nat} {L : List RB} (h : RelR A ns L) {c : Nat} (hc : c < 4) {b : Blk} (hb : (A c)[freeAt (A c)]? = some b) (hn : findR c (freeAt (A c)) L = L.length) (m : Bs) (hg : b.gen = 0) :
    RelR (upd A c ((A c).set (freeAt (A c)) ⟨b.gen + 1, 1, m⟩)) ns (L ++ [⟨c, freeAt (A c), 1, 1, m⟩]) :=
  h.more hc hb hn (h.free hc hb).1 rfl rfl (y := ⟨b.gen + 1, 1, m⟩) (by simp [hg]) rfl (fun _ => rfl)
theorem RelR.alloc_old {A : Ar} {ns : Nat → Nat} {L : List RB} (h : RelR A ns L) {c : Nat} (hc : c < 4) {b : Blk} (hb : (A c)[freeAt (A c)]? = some b) {r : RB} (hr : L[findR c (freeAt (A c)) L]? = some r) (h0 : r.held = 0) (hg : r.gen = b.gen) (m : Bs) :
    RelR (upd A c ((A c).set (freeAt (A c)) ⟨b.gen + 1, 1, m⟩)) ns (L.set (findR c (freeAt (A c)) L) { r with gen := r.gen + 1, held := 1, mem := m }) :=
  h.change hc hb hr (by rw [h0, (h.free hc hb).1]) rfl rfl (by simp [hg]) rfl (fun _ => rfl)
/-- The block of a right handle is changed: its holds, its bytes. -/
theorem RelR.put {A : Ar} {ns : Nat → Nat} {L : List RB} (h : RelR A ns L) {c i g : Int} {b : Blk} {r : RB} (c0 : 0 ≤ c) (c4 : c < 4) (i0 : 0 ≤ i) (hb : (A c.toNat)[i.toNat]? = some b) (hr : L[findR c i L]? = some r)
    (hh : r.held = b.held) {x : RB} {y : Blk} (kc : x.c = r.c) (ki : x.i = r.i) (kg : x.gen = y.gen) (kh : x.held = y.held) (km : y.held ≠ 0 → x.mem = y.mem) :
    RelR (putA A (c, i, g) y) ns (L.set (findR c i L) x) := by
  obtain ⟨cn, rfl⟩ : ∃ n : Nat, c = n := ⟨c.toNat, by omega⟩
  obtain ⟨im, rfl⟩ : ∃ n : Nat, i = n := ⟨i.toNat, by omega⟩
  rw [Int.toNat_natCast, Int.toNat_natCast] at hb
  exact h.change (by omega) hb hr hh kc ki kg kh km
theorem RelR.live_eq {A : Ar} {ns : Nat → Nat} {L : List RB} (h : RelR A ns L) (c : Int) : liveA A c = ((L.countP fun r => decide ((r.c : Int) = c) && r.held != 0 : Nat) : Int) := by
  unfold liveA
  by_cases hc : 0 ≤ c ∧ c ≤ 3
  · rw [if_pos hc]
    have e := h.live c.toNat (by omega)
    have e2 : L.countP (fun r => decide ((r.c : Int) = c) && r.held != 0) = L.countP (liveP c.toNat) := by
      congr 1; funext r; unfold liveP
      congr 1
      rw [Bool.eq_iff_iff, decide_eq_true_iff, beq_iff_eq]; omega
    rw [e2, e]; rfl
  · rw [if_neg hc]
    have e2 : L.countP (fun r => decide ((r.c : Int) = c) && r.held != 0) = 0 := by
      rw [List.countP_eq_zero]
      intro r hr
      have := (h.inside r hr).1
      simp only [Bool.and_eq_true, decide_eq_true_iff]
      rintro ⟨e, _⟩; omega
    rw [e2]; rfl
end Go.Proofs.Ytheljldoboiekaa.Sl
