/-
  Texts that the laws' proofs stand on, 3 of them in one file; each one's head says what it proves and under which condition.
-/
import Derived.Test.YtbpadliiekhkjaaCHNP1
/-
  The reference's arena (a list of the blocks that were ever taken) beside the plain one: each call keeps what relates them. No program, no condition.
-/
namespace Go.Proofs.Ytbpadliiekhkjaa.Sl
open Go.Proofs.Ytbpadliiekhkjaa.Tk
set_option linter.unusedVariables false
set_option linter.unusedSimpArgs false

/-- A block that was taken: class, index, generation, holds, bytes. -/
structure RB where
  c : Nat
  i : Nat
  gen : Nat
  held : Nat
  mem : Bs
def isKey (c i : Int) (r : RB) : Bool := decide ((r.c : Int) = c ∧ (r.i : Int) = i)
/-- Where a block stands first; the list's length: nowhere. -/
def findR (c i : Int) : List RB → Nat
  | [] => 0
  | r :: l => if isKey c i r then 0 else findR c i l + 1
theorem findR_le (c i : Int) : ∀ L : List RB, findR c i L ≤ L.length
  | [] => Nat.le_refl _
  | r :: l => by unfold findR; have := findR_le c i l; split <;> simp <;> omega
theorem findR_key {c i : Int} : ∀ {L : List RB} {r : RB}, L[findR c i L]? = some r → isKey c i r = true
  | [], r, h => by simp [findR] at h
  | x :: l, r, h => by
    by_cases hx : isKey c i x = true
    · have e : findR c i (x :: l) = 0 := by unfold findR; rw [if_pos hx]
      rw [e] at h; injection h with h; subst h; exact hx
    · have e : findR c i (x :: l) = findR c i l + 1 := by rw [findR, if_neg hx]
      rw [e, List.getElem?_cons_succ] at h
      exact findR_key h
/-- The keys alone say where. -/
theorem findR_congr {c i : Int} : ∀ {L M : List RB}, L.map (fun r => (r.c, r.i)) = M.map (fun r => (r.c, r.i)) → findR c i L = findR c i M
  | [], [], _ => rfl
  | [], y :: m, h => by cases h
  | x :: l, [], h => by cases h
  | x :: l, y :: m, h => by
    injection h with h1 h2
    injection h1 with h3 h4
    have e : isKey c i x = isKey c i y := by unfold isKey; rw [h3, h4]
    unfold findR
    rw [e, findR_congr h2]
theorem keys_set {L : List RB} {k : Nat} {r x : RB} (h : L[k]? = some r) (hc : x.c = r.c) (hi : x.i = r.i) : (L.set k x).map (fun r => (r.c, r.i)) = L.map (fun r => (r.c, r.i)) := by
  obtain ⟨hlt, e⟩ := List.getElem?_eq_some_iff.1 h
  rw [List.map_set, hc, hi, ← e]
  apply List.ext_getElem?
  intro j
  by_cases hj : k = j
  · subst hj; rw [List.getElem?_set_self (by simpa using hlt)]; simp [hlt]
  · rw [List.getElem?_set_ne hj]
theorem findR_set {c i : Int} {L : List RB} {k : Nat} {r x : RB} (h : L[k]? = some r) (hc : x.c = r.c) (hi : x.i = r.i) : findR c i (L.set k x) = findR c i L := findR_congr (keys_set h hc hi)
theorem findR_snoc {c i : Int} : ∀ {L : List RB} {x : RB}, findR c i (L ++ [x]) = if findR c i L < L.length then findR c i L else if isKey c i x then L.length else L.length + 1
  | [], x => by
    show findR c i [x] = _
    simp only [findR, List.length_nil, Nat.lt_irrefl, if_false]
  | y :: l, x => by
    have ih := findR_snoc (c := c) (i := i) (L := l) (x := x)
    show findR c i (y :: (l ++ [x])) = _
    unfold findR
    by_cases hy : isKey c i y = true
    · rw [if_pos hy, if_pos hy, if_pos (by simp)]
    · rw [if_neg hy, if_neg hy, ih, List.length_cons]
      by_cases h1 : findR c i l < l.length
      · simp only [h1, if_true, Nat.add_lt_add_iff_right]
      · simp only [h1, if_false, Nat.add_lt_add_iff_right]
        split <;> rfl
def liveP (c : Nat) (r : RB) : Bool := r.c == c && r.held != 0
def heldP (b : Blk) : Bool := b.held != 0
/-- What relates the two. -/
structure RelR (A : Ar) (ns : Nat → Nat) (L : List RB) : Prop where
  len : ∀ c, c < 4 → (A c).length = ns c
  tell : ∀ (c i : Nat) (b : Blk), c < 4 → (A c)[i]? = some b → (findR c i L = L.length ∧ b.gen = 0 ∧ b.held = 0) ∨ ∃ r, L[findR c i L]? = some r ∧ r.gen = b.gen ∧ r.held = b.held ∧ (b.held ≠ 0 → r.mem = b.mem)
  inside : ∀ r ∈ L, r.c < 4 ∧ r.i < ns r.c
  live : ∀ c, c < 4 → L.countP (liveP c) = (A c).countP heldP
theorem RelR.start (ns : Nat → Nat) : RelR (newA ns) ns [] := by
  refine ⟨fun c _ => by simp [newA], fun c i b _ h => .inl ?_, fun r hr => by (cases hr), fun c _ => ?_⟩
  · unfold newA at h
    rw [List.getElem?_replicate] at h
    split at h
    · injection h with h; subst h; exact ⟨rfl, rfl, rfl⟩
    · cases h
  · unfold newA
    rw [List.countP_replicate]; rfl
theorem find_none {A : Ar} {ns : Nat → Nat} {L : List RB} (h : RelR A ns L) {c i : Int} (hn : ¬ (0 ≤ c ∧ c < 4 ∧ 0 ≤ i ∧ i < ns c.toNat)) : findR c i L = L.length := by
  rcases Nat.lt_or_ge (findR c i L) L.length with h1 | h1
  · exfalso
    have e := List.getElem?_eq_getElem h1
    have hk := of_decide_eq_true (findR_key e)
    obtain ⟨h2, h3⟩ := h.inside _ (List.getElem_mem h1)
    apply hn
    generalize L[findR c i L] = r at hk h2 h3
    obtain ⟨rfl, rfl⟩ := hk
    rw [Int.toNat_natCast]
    omega
  · exact Nat.le_antisymm (findR_le _ _ _) h1
/-- A handle that is right. -/
theorem RelR.right {A : Ar} {ns : Nat → Nat} {L : List RB} (h : RelR A ns L) (c i g : Int) :
    (rightA A (c, i, g) = none ∧ ∀ r, L[findR c i L]? = some r → r.held = 0 ∨ (r.gen : Int) ≠ g) ∨
    ∃ b r, rightA A (c, i, g) = some b ∧ L[findR c i L]? = some r ∧ r.held = b.held ∧ r.gen = b.gen ∧ r.mem = b.mem ∧ b.held ≠ 0 ∧ (b.gen : Int) = g ∧ 0 ≤ c ∧ c < 4 ∧ 0 ≤ i ∧ (A c.toNat)[i.toNat]? = some b := by
  by_cases hin : 0 ≤ c ∧ c < 4 ∧ 0 ≤ i ∧ i < ns c.toNat
  · obtain ⟨h1, h2, h3, h4⟩ := hin
    obtain ⟨cn, rfl⟩ : ∃ n : Nat, c = n := ⟨c.toNat, by omega⟩
    obtain ⟨im, rfl⟩ : ∃ n : Nat, i = n := ⟨i.toNat, by omega⟩
    rw [Int.toNat_natCast] at h4
    have hl := h.len cn (by omega)
    obtain ⟨b, hb⟩ : ∃ b, (A cn)[im]? = some b := ⟨_, List.getElem?_eq_getElem (by omega)⟩
    have hr := right_at (A := A) (c := cn) (i := im) (g := g) (by omega)
    rw [hb] at hr
    rcases h.tell cn im b (by omega) hb with ⟨e1, e2, e3⟩ | ⟨r, e1, e2, e3, e4⟩
    · left
      refine ⟨by rw [hr]; show (if _ then _ else _) = _; rw [if_neg (fun q => q.1 e3)], fun r hr2 => ?_⟩
      rw [e1, List.getElem?_eq_none (Nat.le_refl _)] at hr2
      cases hr2
    · by_cases hq : b.held ≠ 0 ∧ (b.gen : Int) = g
      · right
        refine ⟨b, r, by rw [hr]; show (if _ then _ else _) = _; rw [if_pos hq], e1, e3, e2, e4 hq.1, hq.1, hq.2, by omega, by omega, by omega, by rw [Int.toNat_natCast, Int.toNat_natCast]; exact hb⟩
      · left
        refine ⟨by rw [hr]; show (if _ then _ else _) = _; rw [if_neg hq], fun r2 hr2 => ?_⟩
        rw [e1] at hr2
        injection hr2 with hr2
        subst hr2
        by_cases h0 : r.held = 0
        · exact .inl h0
        · right; intro hg; exact hq ⟨by omega, by rw [← e2]; exact hg⟩
  · left
    have hf := find_none h hin
    refine ⟨?_, fun r hr => ?_⟩
    · unfold rightA
      split
      · rename_i hc
        have hl : (A c.toNat)[i.toNat]? = none := by
          have := h.len c.toNat (by simp only at hc; omega)
          exact List.getElem?_eq_none (by simp only at hc; omega)
        simp only [hl]
      · rfl
    · rw [hf, List.getElem?_eq_none (Nat.le_refl _)] at hr
      cases hr
theorem countP_swap {α : Type} {p : α → Bool} {l : List α} {k : Nat} {x y : α} (h : l[k]? = some x) : (l.set k y).countP p + (if p x then 1 else 0) = l.countP p + if p y then 1 else 0 := by
  induction l generalizing k with
  | nil => simp at h
  | cons a r ih =>
    cases k with
    | zero =>
      injection h with h; subst h
      rw [List.set_cons_zero, List.countP_cons, List.countP_cons]; omega
    | succ k =>
      rw [List.getElem?_cons_succ] at h
      rw [List.set_cons_succ, List.countP_cons, List.countP_cons]
      have := ih h; omega
/-- One block is changed, here and there. -/
theorem RelR.change {A : Ar} {ns : Nat → Nat} {L : List RB} (h : RelR A ns L) {c i : Nat} (hc : c < 4) {b y : Blk} {r x : RB} (hb : (A c)[i]? = some b) (hr : L[findR c i L]? = some r)
    (hh : r.held = b.held) (kc : x.c = r.c) (ki : x.i = r.i) (kg : x.gen = y.gen) (kh : x.held = y.held) (km : y.held ≠ 0 → x.mem = y.mem) :
    RelR (upd A c ((A c).set i y)) ns (L.set (findR c i L) x) := by
  have hk := of_decide_eq_true (findR_key hr)
  have hrc : r.c = c := by exact_mod_cast hk.1
  have hri : r.i = i := by exact_mod_cast hk.2
  obtain ⟨hlt, _⟩ := List.getElem?_eq_some_iff.1 hr
  obtain ⟨hbl, _⟩ := List.getElem?_eq_some_iff.1 hb
  refine ⟨fun d hd => ?_, fun d j z hd hz => ?_, fun q hq => ?_, fun d hd => ?_⟩
  · by_cases e : d = c
    · subst e; rw [upd_same, List.length_set]; exact h.len d hd
    · rw [upd_other _ _ e]; exact h.len d hd
  · rw [findR_set hr kc ki]
    by_cases e : d = c ∧ j = i
    · obtain ⟨rfl, rfl⟩ := e
      rw [upd_same, List.getElem?_set_self hbl] at hz
      injection hz with hz
      subst hz
      right
      exact ⟨x, List.getElem?_set_self hlt, kg, kh, km⟩
    · have hz2 : (A d)[j]? = some z := by
        by_cases e2 : d = c
        · subst e2
          rw [upd_same, List.getElem?_set_ne (fun q => e ⟨rfl, q.symm⟩)] at hz
          exact hz
        · rw [upd_other _ _ e2] at hz; exact hz
      rcases h.tell d j z hd hz2 with h1 | ⟨s, h1, h2⟩
      · left; rw [List.length_set]; exact h1
      · right
        refine ⟨s, ?_, h2⟩
        have hs := of_decide_eq_true (findR_key h1)
        rw [List.getElem?_set_ne, h1]
        intro q
        rw [← q] at h1
        rw [hr] at h1
        injection h1 with h1
        subst h1
        have e1 : r.c = d := by exact_mod_cast hs.1
        have e2 : r.i = j := by exact_mod_cast hs.2
        exact e ⟨by omega, by omega⟩
  · rcases List.mem_or_eq_of_mem_set hq with hq | rfl
    · exact h.inside q hq
    · rw [kc, ki]; exact h.inside r (List.mem_of_getElem? hr)
  · have hL := countP_swap (p := liveP d) (y := x) hr
    have h0 := h.live d hd
    by_cases e : d = c
    · subst e
      rw [upd_same]
      have hA := countP_swap (p := heldP) (y := y) hb
      have p1 : liveP d r = heldP b := by unfold liveP heldP; rw [hrc, hh]; simp
      have p2 : liveP d x = heldP y := by unfold liveP heldP; rw [kc, hrc, kh]; simp
      rw [p1, p2] at hL
      omega
    · rw [upd_other _ _ e]
      have p1 : liveP d r = false := by unfold liveP; rw [hrc]; simp; omega
      have p2 : liveP d x = false := by unfold liveP; rw [kc, hrc]; simp; omega
      rw [p1, p2] at hL
      simp at hL
      omega
/-- A block that was never taken is taken. -/
theorem RelR.more {A : Ar} {ns : Nat → Nat} {L : List RB} (h : RelR A ns L) {c i : Nat} (hc : c < 4) {b : Blk} {x : RB} (hb : (A c)[i]? = some b) (hn : findR c i L = L.length) (hh : b.held = 0)
    (kc : x.c = c) (ki : x.i = i) {y : Blk} (kg : x.gen = y.gen) (kh : x.held = y.held) (km : y.held ≠ 0 → x.mem = y.mem) :
    RelR (upd A c ((A c).set i y)) ns (L ++ [x]) := by
  obtain ⟨hbl, _⟩ := List.getElem?_eq_some_iff.1 hb
  refine ⟨fun d hd => ?_, fun d j z hd hz => ?_, fun q hq => ?_, fun d hd => ?_⟩
  · by_cases e : d = c
    · subst e; rw [upd_same, List.length_set]; exact h.len d hd
    · rw [upd_other _ _ e]; exact h.len d hd
  · by_cases e : d = c ∧ j = i
    · obtain ⟨rfl, rfl⟩ := e
      rw [upd_same, List.getElem?_set_self hbl] at hz
      injection hz with hz
      subst hz
      right
      have hf : findR d j (L ++ [x]) = L.length := by
        rw [findR_snoc, if_neg (by omega), if_pos (by unfold isKey; rw [kc, ki]; simp)]
      exact ⟨x, by rw [hf]; simp, kg, kh, km⟩
    · have hz2 : (A d)[j]? = some z := by
        by_cases e2 : d = c
        · subst e2
          rw [upd_same, List.getElem?_set_ne (fun q => e ⟨rfl, q.symm⟩)] at hz
          exact hz
        · rw [upd_other _ _ e2] at hz; exact hz
      rcases h.tell d j z hd hz2 with ⟨h1, h2⟩ | ⟨s, h1, h2⟩
      · left
        refine ⟨?_, h2⟩
        rw [findR_snoc, if_neg (by omega), if_neg (by
          unfold isKey; rw [kc, ki]; simp only [decide_eq_true_iff]
          intro q; exact e ⟨by omega, by omega⟩)]
        simp
      · right
        obtain ⟨hlt, _⟩ := List.getElem?_eq_some_iff.1 h1
        have hf : findR d j (L ++ [x]) = findR d j L := by rw [findR_snoc, if_pos hlt]
        exact ⟨s, by rw [hf, List.getElem?_append_left hlt]; exact h1, h2⟩
  · rcases List.mem_append.1 hq with hq | hq
    · exact h.inside q hq
    · rw [List.mem_singleton] at hq
      subst hq
      rw [kc, ki]
      exact ⟨hc, by rw [← h.len c hc]; exact hbl⟩
  · rw [List.countP_append, List.countP_cons, List.countP_nil]
    have h0 := h.live d hd
    by_cases e : d = c
    · subst e
      rw [upd_same]
      have hA := countP_swap (p := heldP) (y := y) hb
      have p1 : heldP b = false := by unfold heldP; rw [hh]; rfl
      have p2 : liveP d x = heldP y := by unfold liveP heldP; rw [kc, kh]; simp
      rw [p1] at hA
      rw [p2]
      simp at hA
      omega
    · rw [upd_other _ _ e]
      have p2 : liveP d x = false := by unfold liveP; rw [kc]; simp; omega
      rw [p2]
      simp
      omega
/-- What the search for a free block meets. -/
theorem RelR.busy {A : Ar} {ns : Nat → Nat} {L : List RB} (h : RelR A ns L) {c j : Nat} (hc : c < 4) (hj : j < freeAt (A c)) : ∃ r, L[findR c j L]? = some r ∧ r.held ≠ 0 := by
  have hl : j < (A c).length := Nat.lt_of_lt_of_le hj (freeAt_le _)
  have hb := List.getElem?_eq_getElem hl
  have h0 := freeAt_below (A c) j hj
  rcases h.tell c j _ hc hb with ⟨_, _, e⟩ | ⟨r, h1, _, h3, _⟩
  · exact absurd e h0
  · exact ⟨r, h1, by rw [h3]; exact h0⟩
theorem RelR.free {A : Ar} {ns : Nat → Nat} {L : List RB} (h : RelR A ns L) {c : Nat} (hc : c < 4) {b : Blk} (hb : (A c)[freeAt (A c)]? = some b) :
    b.held = 0 ∧ ((findR c (freeAt (A c)) L = L.length ∧ b.gen = 0) ∨ ∃ r, L[findR c (freeAt (A c)) L]? = some r ∧ r.held = 0 ∧ r.gen = b.gen) := by
  obtain ⟨hl, e⟩ := List.getElem?_eq_some_iff.1 hb
  have h0 := freeAt_free (A c) hl
  rw [e] at h0
  refine ⟨h0, ?_⟩
  rcases h.tell c _ b hc hb with ⟨h1, h2, _⟩ | ⟨r, h1, h2, h3, _⟩
  · exact .inl ⟨h1, h2⟩
  · exact .inr ⟨r, h1, by rw [h3]; exact h0, h2⟩
/-- A block that was never taken is taken: the first time. -/
theorem RelR.alloc_new {A : Ar} {ns : Nat → Nat} {L : List RB} (h : RelR A ns L) {c : Nat} (hc : c < 4) {b : Blk} (hb : (A c)[freeAt (A c)]? = some b) (hn : findR c (freeAt (A c)) L = L.length) (m : Bs) (hg : b.gen = 0) :
    RelR (upd A c ((A c).set (freeAt (A c)) ⟨b.gen + 1, 1, m⟩)) ns (L ++ [⟨c, freeAt (A c), 1, 1, m⟩]) :=
  h.more hc hb hn (h.free hc hb).1 rfl rfl (y := ⟨b.gen + 1, 1, m⟩) (by simp [hg]) rfl (fun _ => rfl)
theorem RelR.alloc_old {A : Ar} {ns : Nat → Nat} {L : List RB} (h : RelR A ns L) {c : Nat} (hc : c < 4) {b : Blk} (hb : (A c)[freeAt (A c)]? = some b) {r : RB} (hr : L[findR c (freeAt (A c)) L]? = some r) (h0 : r.held = 0) (hg : r.gen = b.gen) (m : Bs) :
    RelR (upd A c ((A c).set (freeAt (A c)) ⟨b.gen + 1, 1, m⟩)) ns (L.set (findR c (freeAt (A c)) L) { r with gen := r.gen + 1, held := 1, mem := m }) :=
  h.change hc hb hr (by rw [h0, (h.free hc hb).1]) rfl rfl (by simp [hg]) rfl (fun _ => rfl)
/-- The block of a right handle is changed: its holds, its bytes. -/
theorem RelR.put {A : Ar} {ns : Nat → Nat} {L : List RB} (h : RelR A ns L) {c i g : Int} {b : Blk} {r : RB} (c0 : 0 ≤ c) (c4 : c < 4) (i0 : 0 ≤ i) (hb : (A c.toNat)[i.toNat]? = some b) (hr : L[findR c i L]? = some r)
    (hh : r.held = b.held) {x : RB} {y : Blk} (kc : x.c = r.c) (ki : x.i = r.i) (kg : x.gen = y.gen) (kh : x.held = y.held) (km : y.held ≠ 0 → x.mem = y.mem) :
    RelR (putA A (c, i, g) y) ns (L.set (findR c i L) x) := by
  obtain ⟨cn, rfl⟩ : ∃ n : Nat, c = n := ⟨c.toNat, by omega⟩
  obtain ⟨im, rfl⟩ : ∃ n : Nat, i = n := ⟨i.toNat, by omega⟩
  rw [Int.toNat_natCast, Int.toNat_natCast] at hb
  exact h.change (by omega) hb hr hh kc ki kg kh km
theorem RelR.live_eq {A : Ar} {ns : Nat → Nat} {L : List RB} (h : RelR A ns L) (c : Int) : liveA A c = ((L.countP fun r => decide ((r.c : Int) = c) && r.held != 0 : Nat) : Int) := by
  unfold liveA
  by_cases hc : 0 ≤ c ∧ c ≤ 3
  · rw [if_pos hc]
    have e := h.live c.toNat (by omega)
    have e2 : L.countP (fun r => decide ((r.c : Int) = c) && r.held != 0) = L.countP (liveP c.toNat) := by
      congr 1; funext r; unfold liveP
      congr 1
      rw [Bool.eq_iff_iff, decide_eq_true_iff, beq_iff_eq]; omega
    rw [e2, e]; rfl
  · rw [if_neg hc]
    have e2 : L.countP (fun r => decide ((r.c : Int) = c) && r.held != 0) = 0 := by
      rw [List.countP_eq_zero]
      intro r hr
      have := (h.inside r hr).1
      simp only [Bool.and_eq_true, decide_eq_true_iff]
      rintro ⟨e, _⟩; omega
    rw [e2]; rfl
end Go.Proofs.Ytbpadliiekhkjaa.Sl
/-
  Chains of blocks of a plain arena: what each call tells and leaves. No program, no condition.
-/
namespace Go.Proofs.Ytbpadliiekhkjaa.Ch
open Go.Proofs.Ytbpadliiekhkjaa.Tk Go.Proofs.Ytbpadliiekhkjaa.Sl
set_option linter.unusedVariables false
set_option linter.unusedSimpArgs false

def mostN : Nat := 1048576
/-- A chain: its blocks, its bytes, whether it was shared (or made so), whether it was freed. -/
structure Chn where
  hs : List Hd
  bytes : Bs
  shared : Bool
  freed : Bool
def newC : Chn := ⟨[], [], false, false⟩
def sizesOf (hs : List Hd) : Nat := (hs.map fun h => sizeC h.1.toNat).sum
/-- A block of this class, or of the next one below that has one. -/
def takeOne (A : Ar) (c : Nat) : Option (Hd × Ar) := if (allocA A (sizeC c : Nat)).2.1 = 0 then some ((allocA A (sizeC c : Nat)).1, (allocA A (sizeC c : Nat)).2.2) else none
def takeFrom (A : Ar) : Nat → Option (Hd × Ar)
  | 0 => takeOne A 0
  | c + 1 => match takeOne A (c + 1) with
    | some r => some r
    | none => takeFrom A c
def classFor (n : Nat) : Nat := if n ≤ 4096 then classN n else 3
theorem classFor_lt (n : Nat) : classFor n < 4 := by
  unfold classFor; split
  · exact classN_lt _
  · decide
/-- What a call that takes a block does, if it finds one. -/
theorem alloc_ok {A : Ar} {c : Nat} (hc : c < 4) (h : (allocA A (sizeC c : Nat)).2.1 = 0) : ∃ (i : Nat) (b : Blk), i = freeAt (A c) ∧ (A c)[i]? = some b ∧ b.held = 0 ∧
    allocA A (sizeC c : Nat) = (((c : Int), (i : Int), (b.gen : Int) + 1), 0, upd A c ((A c).set i ⟨b.gen + 1, 1, List.replicate (sizeC c) 0⟩)) := by
  obtain ⟨e1, e2⟩ := class_size hc
  unfold allocA at h ⊢
  rw [if_neg (by omega), Int.toNat_natCast, e1] at h ⊢
  cases hb : (A c)[freeAt (A c)]? with
  | none => rw [hb] at h; replace h : (14 : Int) = 0 := h; omega
  | some b =>
    obtain ⟨hl, e⟩ := List.getElem?_eq_some_iff.1 hb
    have h0 := freeAt_free (A c) hl
    rw [e] at h0
    exact ⟨_, b, rfl, hb, h0, rfl⟩
theorem alloc_no {A : Ar} {c : Nat} (hc : c < 4) (h : (allocA A (sizeC c : Nat)).2.1 ≠ 0) : ∀ b ∈ A c, b.held ≠ 0 := by
  obtain ⟨e1, e2⟩ := class_size hc
  unfold allocA at h
  rw [if_neg (by omega), Int.toNat_natCast, e1] at h
  cases hb : (A c)[freeAt (A c)]? with
  | some b => rw [hb] at h; exact absurd rfl h
  | none =>
    intro b hm
    have hle := freeAt_le (A c)
    have hge : (A c).length ≤ freeAt (A c) := by
      rcases Nat.lt_or_ge (freeAt (A c)) (A c).length with h1 | h1
      · rw [List.getElem?_eq_getElem h1] at hb; cases hb
      · exact h1
    obtain ⟨i, hi, rfl⟩ := List.mem_iff_getElem.1 hm
    exact freeAt_below (A c) i (by omega)
theorem takeOne_some {A A' : Ar} {h : Hd} {c : Nat} (hc : c < 4) (ht : takeOne A c = some (h, A')) : ∃ (i : Nat) (b : Blk), i = freeAt (A c) ∧ (A c)[i]? = some b ∧ b.held = 0 ∧ h = ((c : Int), (i : Int), (b.gen : Int) + 1) ∧
    A' = upd A c ((A c).set i ⟨b.gen + 1, 1, List.replicate (sizeC c) 0⟩) := by
  unfold takeOne at ht
  split at ht
  · rename_i h0
    obtain ⟨i, b, h1, h2, h3, h4⟩ := alloc_ok hc h0
    rw [h4] at ht
    injection ht with ht
    injection ht with e1 e2
    exact ⟨i, b, h1, h2, h3, e1.symm, e2.symm⟩
  · cases ht
theorem takeOne_none {A : Ar} {c : Nat} (hc : c < 4) (ht : takeOne A c = none) : ∀ b ∈ A c, b.held ≠ 0 := by
  unfold takeOne at ht
  split at ht
  · cases ht
  · rename_i h0; exact alloc_no hc h0
/-- The one that was taken. -/
theorem takeFrom_some {A A' : Ar} {h : Hd} : ∀ {c : Nat}, c < 4 → takeFrom A c = some (h, A') → ∃ (d i : Nat) (b : Blk), d ≤ c ∧ (∀ k, d < k → k ≤ c → ∀ x ∈ A k, x.held ≠ 0) ∧ i = freeAt (A d) ∧ (A d)[i]? = some b ∧ b.held = 0 ∧ h = ((d : Int), (i : Int), (b.gen : Int) + 1) ∧
    A' = upd A d ((A d).set i ⟨b.gen + 1, 1, List.replicate (sizeC d) 0⟩)
  | 0, hc, ht => by
    obtain ⟨i, b, h1⟩ := takeOne_some hc ht
    exact ⟨0, i, b, Nat.le_refl _, fun k hk1 hk2 => by omega, h1⟩
  | c + 1, hc, ht => by
    unfold takeFrom at ht
    cases ho : takeOne A (c + 1) with
    | some r =>
      rw [ho] at ht
      injection ht with ht
      subst ht
      obtain ⟨i, b, h1⟩ := takeOne_some hc ho
      exact ⟨c + 1, i, b, Nat.le_refl _, fun k hk1 hk2 => by omega, h1⟩
    | none =>
      rw [ho] at ht
      obtain ⟨d, i, b, h1, h2, h3⟩ := takeFrom_some (c := c) (by omega) ht
      refine ⟨d, i, b, by omega, fun k hk1 hk2 => ?_, h3⟩
      by_cases e : k = c + 1
      · subst e; exact takeOne_none hc ho
      · exact h2 k hk1 (by omega)
theorem takeFrom_none {A : Ar} : ∀ {c : Nat}, c < 4 → takeFrom A c = none → ∀ k, k ≤ c → ∀ x ∈ A k, x.held ≠ 0
  | 0, hc, ht => by
    intro k hk
    obtain rfl : k = 0 := by omega
    exact takeOne_none hc ht
  | c + 1, hc, ht => by
    unfold takeFrom at ht
    cases ho : takeOne A (c + 1) with
    | some r => rw [ho] at ht; cases ht
    | none =>
      rw [ho] at ht
      intro k hk
      by_cases e : k = c + 1
      · subst e; exact takeOne_none hc ho
      · exact takeFrom_none (c := c) (by omega) ht k (by omega)
theorem sizeC_pos {c : Nat} (hc : c < 4) : 64 ≤ sizeC c := by
  rcases (by omega : c = 0 ∨ c = 1 ∨ c = 2 ∨ c = 3) with rfl | rfl | rfl | rfl <;> decide
/-- Blocks for so many bytes: those that were taken, the arena behind it, whether they were enough. Fuel: one for each block. -/
def takeAll : Nat → Ar → Nat → List Hd × Ar × Bool
  | 0, A, n => ([], A, n == 0)
  | f + 1, A, n => if n = 0 then ([], A, true) else match takeFrom A (classFor n) with
    | none => ([], A, false)
    | some (h, A') => let r := takeAll f A' (n - sizeC h.1.toNat); (h :: r.1, r.2)
def dropAll (A : Ar) (hs : List Hd) : Ar := hs.foldl (fun B h => (dropA B h).2) A
def holdAll (A : Ar) (hs : List Hd) : Ar := hs.foldl (fun B h => (holdA B h).2) A
/-- What a call that puts behind tells and leaves. -/
def appendC (A : Ar) (c : Chn) (b : Bs) : Int × Ar × Chn :=
  if c.freed then (16, A, c) else if c.shared then (2, A, c) else if mostN - c.bytes.length < b.length then (3, A, c)
  else let r := takeAll (b.length + 1) A (b.length - (sizesOf c.hs - c.bytes.length))
    if r.2.2 then (0, r.2.1, { c with hs := c.hs ++ r.1, bytes := c.bytes ++ b }) else (14, dropAll r.2.1 r.1, c)
def readC (c : Chn) (i n : Int) : Bs × Int := if c.freed then ([], 16) else if 0 ≤ i ∧ 0 ≤ n ∧ i ≤ c.bytes.length ∧ n ≤ c.bytes.length - i then ((c.bytes.drop i.toNat).take n.toNat, 0) else ([], 2)
def lenC (c : Chn) : Nat := if c.freed then 0 else c.bytes.length
def chargeC (c : Chn) : Nat := if c.freed then 0 else sizesOf c.hs
def shareC (A : Ar) (c : Chn) : Int × Ar × Chn × Option Chn := if c.freed then (16, A, c, none) else (0, holdAll A c.hs, { c with shared := true }, some { c with shared := true })
def freeC (A : Ar) (c : Chn) : Int × Ar × Chn := if c.freed then (16, A, c) else (0, dropAll A c.hs, { c with freed := true })
def alikeC (a b : Chn) : Bool := !a.freed && !b.freed && decide (a.hs = b.hs) && decide (a.bytes.length = b.bytes.length)

/-! What is free: how many bytes the blocks have that nobody holds. -/
def freeP (b : Blk) : Bool := b.held == 0
def freeN (A : Ar) (c : Nat) : Nat := (A c).countP freeP
def freeAll (A : Ar) : Nat := freeN A 0 * 64 + freeN A 1 * 256 + freeN A 2 * 1024 + freeN A 3 * 4096
theorem freeN_set {A : Ar} {c i : Nat} {b y : Blk} (hb : (A c)[i]? = some b) (d : Nat) :
    freeN (upd A c ((A c).set i y)) d + (if d = c ∧ b.held = 0 then 1 else 0) = freeN A d + if d = c ∧ y.held = 0 then 1 else 0 := by
  unfold freeN
  by_cases e : d = c
  · subst e
    rw [upd_same]
    have h := countP_swap (p := freeP) (y := y) hb
    unfold freeP at h ⊢
    simp only [beq_iff_eq] at h
    simp only [true_and]
    exact h
  · rw [upd_other _ _ e]; simp [e]
theorem free_taken {A : Ar} {c i : Nat} {b : Blk} {m : Bs} {g : Nat} (hc : c < 4) (hb : (A c)[i]? = some b) (h0 : b.held = 0) : freeAll (upd A c ((A c).set i ⟨g, 1, m⟩)) + sizeC c = freeAll A := by
  have k := fun d => freeN_set (y := ⟨g, 1, m⟩) hb d
  simp only [h0, and_true] at k
  have k0 := k 0
  have k1 := k 1
  have k2 := k 2
  have k3 := k 3
  unfold freeAll
  rcases (by omega : c = 0 ∨ c = 1 ∨ c = 2 ∨ c = 3) with rfl | rfl | rfl | rfl
  all_goals
    simp only [sizeC]
    simp at k0 k1 k2 k3
    omega
/-- What was taken was free, and is enough where it is told so. -/
theorem takeAll_free : ∀ (f : Nat) (A : Ar) (n : Nat), freeAll (takeAll f A n).2.1 + sizesOf (takeAll f A n).1 = freeAll A
  | 0, A, n => by simp [takeAll, sizesOf]
  | f + 1, A, n => by
    unfold takeAll
    split
    · simp [sizesOf]
    · cases ht : takeFrom A (classFor n) with
      | none => simp [sizesOf]
      | some q =>
        obtain ⟨h, A'⟩ := q
        obtain ⟨d, i, b, h1, _, _, h4, h5, rfl, rfl⟩ := takeFrom_some (classFor_lt n) ht
        have hd : d < 4 := by have := classFor_lt n; omega
        have ih := takeAll_free f (upd A d ((A d).set i ⟨b.gen + 1, 1, List.replicate (sizeC d) 0⟩)) (n - sizeC d)
        have hf := free_taken (g := b.gen + 1) (m := List.replicate (sizeC d) 0) hd h4 h5
        simp only [Int.toNat_natCast]
        have e : sizesOf (((d : Int), (i : Int), (b.gen : Int) + 1) :: (takeAll f (upd A d ((A d).set i ⟨b.gen + 1, 1, List.replicate (sizeC d) 0⟩)) (n - sizeC d)).1) = sizeC d + sizesOf (takeAll f (upd A d ((A d).set i ⟨b.gen + 1, 1, List.replicate (sizeC d) 0⟩)) (n - sizeC d)).1 := by
          unfold sizesOf; rw [List.map_cons, List.sum_cons, Int.toNat_natCast]
        rw [e]
        omega
theorem takeAll_enough : ∀ (f : Nat) (A : Ar) (n : Nat), (takeAll f A n).2.2 = true → n ≤ sizesOf (takeAll f A n).1
  | 0, A, n => by intro h; simp [takeAll] at h; omega
  | f + 1, A, n => by
    intro h
    unfold takeAll at h ⊢
    split
    · omega
    · rename_i hn
      rw [if_neg hn] at h
      cases ht : takeFrom A (classFor n) with
      | none => rw [ht] at h; cases h
      | some q =>
        rw [ht] at h
        obtain ⟨x, A'⟩ := q
        have ih := takeAll_enough f A' (n - sizeC x.1.toNat) h
        show n ≤ sizesOf (x :: (takeAll f A' (n - sizeC x.1.toNat)).1)
        have e : sizesOf (x :: (takeAll f A' (n - sizeC x.1.toNat)).1) = sizeC x.1.toNat + sizesOf (takeAll f A' (n - sizeC x.1.toNat)).1 := by
          unfold sizesOf; rw [List.map_cons, List.sum_cons]
        rw [e]; omega
/-- Enough fuel: where it fails, none of the classes up to the last one asked has a free block. -/
theorem takeAll_fuel : ∀ (f : Nat) (A : Ar) (n : Nat), n < f → (takeAll f A n).2.2 = false → 0 < n
  | 0, A, n => by intro h; omega
  | f + 1, A, n => by
    intro hf h
    unfold takeAll at h
    split at h
    · cases h
    · omega
end Go.Proofs.Ytbpadliiekhkjaa.Ch
/-
  Blocks that are taken and let go beside those that are held: what stays. No program, no condition.
-/
namespace Go.Proofs.Ytbpadliiekhkjaa.Ch
open Go.Proofs.Ytbpadliiekhkjaa.Tk Go.Proofs.Ytbpadliiekhkjaa.Sl
set_option linter.unusedVariables false
set_option linter.unusedSimpArgs false

/-- A handle that is right, told by its place. -/
theorem right_form {A : Ar} {h : Hd} {b : Blk} (hr : rightA A h = some b) : ∃ c i : Nat, c < 4 ∧ (A c)[i]? = some b ∧ b.held ≠ 0 ∧ h = ((c : Int), (i : Int), (b.gen : Int)) := by
  obtain ⟨hc, hi, hg⟩ := h
  unfold rightA at hr
  split at hr
  · rename_i hq
    simp only at hq
    cases hb : (A hc.toNat)[hi.toNat]? with
    | none => simp only [hb] at hr; cases hr
    | some x =>
      simp only [hb] at hr
      split at hr
      · rename_i hp
        injection hr with hr
        subst hr
        refine ⟨hc.toNat, hi.toNat, by omega, hb, hp.1, ?_⟩
        have e1 : ((hc.toNat : Nat) : Int) = hc := by omega
        have e2 : ((hi.toNat : Nat) : Int) = hi := by omega
        rw [e1, e2, hp.2]
      · cases hr
  · cases hr
/-- One block is changed: the others stay. -/
theorem right_other {A : Ar} {d i : Nat} {y : Blk} {c j : Nat} {g : Int} (hc : c < 4) (hne : ¬ (c = d ∧ j = i)) : rightA (upd A d ((A d).set i y)) ((c : Int), (j : Int), g) = rightA A ((c : Int), (j : Int), g) := by
  rw [right_at hc, right_at hc]
  have e : (upd A d ((A d).set i y) c)[j]? = (A c)[j]? := by
    by_cases e : c = d
    · subst e
      rw [upd_same, List.getElem?_set_ne (fun q => hne ⟨rfl, q.symm⟩)]
    · rw [upd_other _ _ e]
  rw [e]
theorem right_new {A : Ar} {d i : Nat} {b y : Blk} (hd : d < 4) (hb : (A d)[i]? = some b) (hy : y.held ≠ 0) : rightA (upd A d ((A d).set i y)) ((d : Int), (i : Int), (y.gen : Int)) = some y := by
  obtain ⟨hl, _⟩ := List.getElem?_eq_some_iff.1 hb
  exact right_some hd (by rw [upd_same, List.getElem?_set_self hl]) hy
/-- A block that is held is not taken. -/
theorem right_kept {A : Ar} {d i : Nat} {b y : Blk} {h : Hd} {x : Blk} (hb : (A d)[i]? = some b) (h0 : b.held = 0) (hr : rightA A h = some x) : rightA (upd A d ((A d).set i y)) h = some x := by
  obtain ⟨c, j, hc, hx, hx0, rfl⟩ := right_form hr
  rw [right_other hc (fun e => by
    obtain ⟨rfl, rfl⟩ := e
    rw [hb] at hx
    injection hx with hx
    subst hx
    exact hx0 h0)]
  exact hr
theorem takeFrom_kept {A A' : Ar} {c : Nat} {h q : Hd} {x : Blk} (hc : c < 4) (ht : takeFrom A c = some (q, A')) (hr : rightA A h = some x) : rightA A' h = some x := by
  obtain ⟨d, i, b, h1, _, _, h4, h5, rfl, rfl⟩ := takeFrom_some hc ht
  exact right_kept h4 h5 hr
theorem takeFrom_new {A A' : Ar} {c : Nat} {q : Hd} (hc : c < 4) (ht : takeFrom A c = some (q, A')) : ∃ (d i g : Nat), d ≤ c ∧ q = ((d : Int), (i : Int), (g : Int)) ∧ rightA A' q = some ⟨g, 1, List.replicate (sizeC d) 0⟩ ∧ rightA A q = none := by
  obtain ⟨d, i, b, h1, _, _, h4, h5, rfl, rfl⟩ := takeFrom_some hc ht
  refine ⟨d, i, b.gen + 1, h1, rfl, right_new (y := ⟨b.gen + 1, 1, List.replicate (sizeC d) 0⟩) (by omega) h4 (Nat.succ_ne_zero _), ?_⟩
  exact right_old (by omega) h4 (.inr h5)
theorem takeAll_kept : ∀ (f : Nat) (A : Ar) (n : Nat) {h : Hd} {x : Blk}, rightA A h = some x → rightA (takeAll f A n).2.1 h = some x
  | 0, A, n, h, x, hr => hr
  | f + 1, A, n, h, x, hr => by
    unfold takeAll
    split
    · exact hr
    · cases ht : takeFrom A (classFor n) with
      | none => exact hr
      | some q =>
        obtain ⟨q, A'⟩ := q
        exact takeAll_kept f A' _ (takeFrom_kept (classFor_lt n) ht hr)
/-- Those that were taken are right, held once, of bytes 0; they were not right before. -/
theorem takeAll_new : ∀ (f : Nat) (A : Ar) (n : Nat) (h : Hd), h ∈ (takeAll f A n).1 → rightA A h = none ∧ ∃ (d i g : Nat), d < 4 ∧ h = ((d : Int), (i : Int), (g : Int)) ∧ rightA (takeAll f A n).2.1 h = some ⟨g, 1, List.replicate (sizeC d) 0⟩
  | 0, A, n, h, hm => by simp [takeAll] at hm
  | f + 1, A, n, h, hm => by
    unfold takeAll at hm ⊢
    split at hm
    · simp at hm
    · rename_i hn
      cases ht : takeFrom A (classFor n) with
      | none => rw [ht] at hm; simp at hm
      | some q =>
        obtain ⟨q, A'⟩ := q
        rw [ht] at hm
        simp only [hn, if_false]
        obtain ⟨d, i, g, hd, e, h1, h2⟩ := takeFrom_new (classFor_lt n) ht
        have hd4 : d < 4 := by have := classFor_lt n; omega
        rcases List.mem_cons.1 hm with rfl | hm
        · exact ⟨h2, d, i, g, hd4, e, takeAll_kept f A' _ h1⟩
        · obtain ⟨h3, h4⟩ := takeAll_new f A' _ h hm
          refine ⟨?_, h4⟩
          cases hA : rightA A h with
          | none => rfl
          | some x => rw [takeFrom_kept (classFor_lt n) ht hA] at h3; cases h3
theorem takeAll_nodup : ∀ (f : Nat) (A : Ar) (n : Nat), (takeAll f A n).1.Nodup
  | 0, A, n => by simp [takeAll]
  | f + 1, A, n => by
    unfold takeAll
    split
    · exact List.nodup_nil
    · cases ht : takeFrom A (classFor n) with
      | none => exact List.nodup_nil
      | some q =>
        obtain ⟨q, A'⟩ := q
        obtain ⟨d, i, g, hd, e, h1, h2⟩ := takeFrom_new (classFor_lt n) ht
        show (q :: (takeAll f A' _).1).Nodup
        rw [List.nodup_cons]
        refine ⟨fun hm => ?_, takeAll_nodup f A' _⟩
        have h3 := (takeAll_new f A' _ q hm).1
        rw [h1] at h3; cases h3
/-- One is let go: the others stay. -/
theorem drop_kept {A : Ar} {q h : Hd} {x : Blk} (hq : q ≠ h) (hr : rightA A h = some x) : rightA (dropA A q).2 h = some x := by
  unfold dropA
  cases hb : rightA A q with
  | none => exact hr
  | some b =>
    obtain ⟨c, i, hc, h1, h2, rfl⟩ := right_form hb
    obtain ⟨d, j, hd, h3, h4, rfl⟩ := right_form hr
    show rightA (putA A _ _) _ = _
    rw [put_at, right_other hd (fun e => by
      obtain ⟨rfl, rfl⟩ := e
      rw [h1] at h3
      injection h3 with h3
      subst h3
      exact hq rfl)]
    exact hr
theorem dropAll_kept : ∀ (hs : List Hd) (A : Ar) {h : Hd} {x : Blk}, h ∉ hs → rightA A h = some x → rightA (dropAll A hs) h = some x
  | [], A, h, x, _, hr => hr
  | q :: r, A, h, x, hn, hr => by
    show rightA (dropAll (dropA A q).2 r) h = _
    exact dropAll_kept r _ (fun hm => hn (List.mem_cons_of_mem _ hm)) (drop_kept (fun e => hn (by rw [e]; exact List.mem_cons_self ..)) hr)
/-- How many of a class are in use. -/
theorem live_n (A : Ar) (d : Nat) (hd : d < 4) : liveA A (d : Int) = ((A d).countP heldP : Nat) := by
  unfold liveA
  rw [if_pos (by omega)]; rfl
theorem live_set {A : Ar} {c i : Nat} {b y : Blk} (hb : (A c)[i]? = some b) (d : Nat) : ((upd A c ((A c).set i y)) d).countP heldP + (if d = c ∧ b.held ≠ 0 then 1 else 0) = (A d).countP heldP + if d = c ∧ y.held ≠ 0 then 1 else 0 := by
  by_cases e : d = c
  · subst e
    rw [upd_same]
    have h := countP_swap (p := heldP) (y := y) hb
    unfold heldP at h ⊢
    simp only [bne_iff_ne] at h
    simp only [true_and]
    exact h
  · rw [upd_other _ _ e]; simp [e]
def inClass (d : Nat) (h : Hd) : Bool := h.1 == (d : Int)
theorem takeAll_live : ∀ (f : Nat) (A : Ar) (n d : Nat), ((takeAll f A n).2.1 d).countP heldP = (A d).countP heldP + (takeAll f A n).1.countP (inClass d)
  | 0, A, n, d => by simp [takeAll]
  | f + 1, A, n, d => by
    unfold takeAll
    split
    · simp
    · cases ht : takeFrom A (classFor n) with
      | none => simp
      | some q =>
        obtain ⟨q, A'⟩ := q
        obtain ⟨e, i, b, h1, _, _, h4, h5, rfl, rfl⟩ := takeFrom_some (classFor_lt n) ht
        have hl := live_set (y := ⟨b.gen + 1, 1, List.replicate (sizeC e) 0⟩) h4 d
        have ih := takeAll_live f (upd A e ((A e).set i ⟨b.gen + 1, 1, List.replicate (sizeC e) 0⟩)) (n - sizeC e) d
        simp only [Int.toNat_natCast]
        rw [List.countP_cons, ih]
        simp only [h5, ne_eq, not_true_eq_false, and_false, if_false, Nat.succ_ne_zero, not_false_eq_true, and_true, Nat.add_zero] at hl
        have hin : (inClass d ((e : Int), (i : Int), (b.gen : Int) + 1) = true) ↔ d = e := by
          unfold inClass; simp only [beq_iff_eq]; omega
        by_cases hde : d = e
        · rw [if_pos (hin.2 hde)]; rw [if_pos hde] at hl; omega
        · rw [if_neg (fun q => hde (hin.1 q))]; rw [if_neg hde] at hl; omega
theorem dropAll_live : ∀ (hs : List Hd) (A : Ar) (d : Nat), hs.Nodup → (∀ h ∈ hs, ∃ b, rightA A h = some b ∧ b.held = 1) → ((dropAll A hs) d).countP heldP + hs.countP (inClass d) = (A d).countP heldP
  | [], A, d, _, _ => by simp [dropAll]
  | q :: r, A, d, hn, hr => by
    rw [List.nodup_cons] at hn
    obtain ⟨b, hb, hb1⟩ := hr q (List.mem_cons_self ..)
    show ((dropAll (dropA A q).2 r) d).countP heldP + _ = _
    have hnext : ∀ h ∈ r, ∃ b, rightA (dropA A q).2 h = some b ∧ b.held = 1 := fun h hm => by
      obtain ⟨x, h1, h2⟩ := hr h (List.mem_cons_of_mem _ hm)
      exact ⟨x, drop_kept (fun e => hn.1 (by rw [e]; exact hm)) h1, h2⟩
    have ih := dropAll_live r (dropA A q).2 d hn.2 hnext
    obtain ⟨c, i, hc, h1, h2, rfl⟩ := right_form hb
    have hd : (dropA A ((c : Int), (i : Int), (b.gen : Int))).2 = upd A c ((A c).set i { b with held := b.held - 1 }) := by unfold dropA; rw [hb]; rfl
    rw [hd] at ih
    have hl := live_set (y := { b with held := b.held - 1 }) h1 d
    rw [List.countP_cons, hd]
    have hin : (inClass d ((c : Int), (i : Int), (b.gen : Int)) = true) ↔ d = c := by
      unfold inClass; simp only [beq_iff_eq]; omega
    have hy : ¬ ({ b with held := b.held - 1 } : Blk).held ≠ 0 := by show ¬ b.held - 1 ≠ 0; omega
    by_cases hde : d = c
    · rw [if_pos (hin.2 hde)]; rw [if_pos ⟨hde, h2⟩, if_neg (fun q => hy q.2)] at hl; omega
    · rw [if_neg (fun q => hde (hin.1 q))]; rw [if_neg (fun q => hde q.1), if_neg (fun q => hde q.1)] at hl; omega
/-- What finds no room leaves as many blocks in use as there were. -/
theorem none_live (f : Nat) (A : Ar) (n d : Nat) : ((dropAll (takeAll f A n).2.1 (takeAll f A n).1) d).countP heldP = (A d).countP heldP := by
  have h1 := takeAll_live f A n d
  have h2 := dropAll_live (takeAll f A n).1 (takeAll f A n).2.1 d (takeAll_nodup f A n) (fun h hm => by
    obtain ⟨_, c, i, g, _, _, h3⟩ := takeAll_new f A n h hm
    exact ⟨_, h3, rfl⟩)
  omega
end Go.Proofs.Ytbpadliiekhkjaa.Ch
