/-
  Elements that are joined are split as they were; a text that is quoted is, as a pair's value, the text. Plain functions; no program, no condition.
-/
import Derived.Test.YthhnpdihgoiccaaDoorTokPairMath
namespace Go.Proofs.YthhnpdihgoiccaaDoor.Tk

/-- A text that is passed as it is, outside of quoted texts: no comma of it cuts. -/
def Pass (e : Bs) : Prop := ∀ own rest, sp false own (e ++ rest) = sp false (own ++ e) rest
theorem Pass.nil : Pass [] := fun own rest => by simp
theorem Pass.append {a b : Bs} (ha : Pass a) (hb : Pass b) : Pass (a ++ b) := fun own rest => by
  rw [List.append_assoc, ha, hb, List.append_assoc]
theorem Pass.byte {c : UInt8} (h1 : c ≠ 44) (h2 : c ≠ 34) : Pass [c] := fun own rest => by
  rw [List.singleton_append, sp_other _ _ h1 h2]
theorem Pass.all : ∀ (e : Bs), (∀ c ∈ e, c ≠ 44 ∧ c ≠ 34) → Pass e
  | [], _ => Pass.nil
  | c :: e, h => by
    have h1 := h c (by simp)
    exact Pass.append (a := [c]) (Pass.byte h1.1 h1.2) (Pass.all e fun d hd => h d (by simp [hd]))
theorem tchar_pass {c : UInt8} (h : tchar c = true) : c ≠ 44 ∧ c ≠ 34 ∧ blank c = false ∧ c ≠ 61 := by
  have hh : ∀ n : Nat, n < 256 → tchar (UInt8.ofNat n) = true → UInt8.ofNat n ≠ 44 ∧ UInt8.ofNat n ≠ 34 ∧ blank (UInt8.ofNat n) = false ∧ UInt8.ofNat n ≠ 61 := by decide +kernel
  have := hh c.toNat c.toNat_lt
  rw [UInt8.ofNat_toNat] at this
  exact this h
theorem isTok_all {e : Bs} (h : isTok e = true) : ∀ c ∈ e, tchar c = true := by
  simp only [isTok, Bool.and_eq_true, List.all_eq_true] at h; exact h.2
theorem isTok_ne {e : Bs} (h : isTok e = true) : e ≠ [] := by
  intro e0; subst e0; simp [isTok] at h
theorem isTok_pass {e : Bs} (h : isTok e = true) : Pass e := Pass.all e fun c hc => ⟨(tchar_pass (isTok_all h c hc)).1, (tchar_pass (isTok_all h c hc)).2.1⟩

/-- A quoted text is as long as it says. -/
theorem qe_unq : ∀ (n : Nat) (u : Bs), u.length ≤ n → ∀ v, unqGo u = some v → ∀ rest, qe (u ++ rest) = some u.length
  | 0, u, h, v, hv, rest => by
    have : u = [] := List.length_eq_zero_iff.1 (by omega)
    subst this; rw [unqGo_nil] at hv; cases hv
  | n + 1, u, h, v, hv, rest => by
    match u with
    | [] => rw [unqGo_nil] at hv; cases hv
    | c :: r =>
      by_cases h1 : c = 34
      · subst h1
        by_cases hr : r = []
        · subst hr; rw [List.singleton_append, qe_end]; rfl
        · rw [unqGo_early r hr] at hv; cases hv
      · by_cases h2 : c = 92
        · subst h2
          match r with
          | [] => rw [unqGo_back1] at hv; cases hv
          | d :: r' =>
            cases hd : textByte d with
            | false => rw [unqGo_backno d r' hd] at hv; cases hv
            | true =>
              rw [unqGo_back d r' hd, Option.map_eq_some_iff] at hv
              obtain ⟨x, hx, _⟩ := hv
              have := qe_unq n r' (by simp at h; omega) x hx rest
              rw [List.cons_append, List.cons_append, qe_back]
              simp [this]
        · cases hc : textByte c with
          | false => rw [unqGo_otherno c r h1 h2 hc] at hv; cases hv
          | true =>
            rw [unqGo_other c r h1 h2 hc, Option.map_eq_some_iff] at hv
            obtain ⟨x, hx, _⟩ := hv
            have := qe_unq n r (by simp at h; omega) x hx rest
            rw [List.cons_append, qe_other _ h1 h2, this]; simp
theorem quoted_pass {u v : Bs} (h : unqGo u = some v) : Pass (34 :: u) := fun own rest => by
  rw [List.cons_append, sp_open, sp_quote', qe_unq _ u (Nat.le_refl _) v h rest]
  simp
theorem unq_shape {q v : Bs} (h : unq q = some v) : ∃ u, q = 34 :: u ∧ unqGo u = some v := by
  match q with
  | [] => cases h
  | c :: r =>
    unfold unq at h
    by_cases hc : c = 34
    · subst hc; simp at h; exact ⟨r, rfl, h⟩
    · simp [hc] at h

/-- An element: it is passed, is not empty, and has no blank at its ends. -/
structure Solid (e : Bs) : Prop where
  pass : Pass e
  first : ∃ c t, e = c :: t ∧ blank c = false
  last : ∃ i c, e = i ++ [c] ∧ blank c = false
theorem Solid.ne {e : Bs} (h : Solid e) : e ≠ [] := by obtain ⟨c, t, rfl, _⟩ := h.first; simp
theorem tok_first {e : Bs} (h : isTok e = true) : ∃ c t, e = c :: t ∧ blank c = false := by
  match e, isTok_ne h with
  | c :: t, _ => exact ⟨c, t, rfl, (tchar_pass (isTok_all h c (by simp))).2.2.1⟩
theorem tok_last {e : Bs} (h : isTok e = true) : ∃ i c, e = i ++ [c] ∧ blank c = false := by
  rcases snoc_cases e with h0 | ⟨i, c, rfl⟩
  · exact absurd h0 (isTok_ne h)
  · exact ⟨i, c, rfl, (tchar_pass (isTok_all h c (by simp))).2.2.1⟩
theorem take_split (l : Bs) (h : eqIdx l ≠ l.length) : l = l.take (eqIdx l) ++ ([61] ++ l.drop (eqIdx l + 1)) := by
  have hlt : eqIdx l < l.length := by have := eqIdx_le l; omega
  have h1 : l.drop (eqIdx l) = 61 :: l.drop (eqIdx l + 1) := by rw [drop_at l _ hlt, eqIdx_at l hlt]
  conv => lhs; rw [← List.take_append_drop (eqIdx l) l, h1]
  rfl
theorem pair_solid {l : Bs} (h : pairOf l ≠ none) : Solid l := by
  unfold pairOf at h
  by_cases h1 : isTok (l.take (eqIdx l)) = false
  · rw [if_pos h1] at h; exact absurd rfl h
  · have ht : isTok (l.take (eqIdx l)) = true := by simpa using h1
    rw [if_neg h1] at h
    by_cases hk : eqIdx l = l.length
    · rw [hk, List.take_length] at ht
      exact ⟨isTok_pass ht, tok_first ht, tok_last ht⟩
    · rw [if_neg hk] at h
      have hs := take_split l hk
      have p61 : Pass [61] := Pass.byte (by decide) (by decide)
      clear hk h1
      generalize l.take (eqIdx l) = a at *
      generalize l.drop (eqIdx l + 1) = b at *
      subst hs
      obtain ⟨c, t, hc, hcb⟩ := tok_first ht
      have hfirst : ∃ c t, a ++ ([61] ++ b) = c :: t ∧ blank c = false := ⟨c, t ++ ([61] ++ b), by rw [hc]; rfl, hcb⟩
      by_cases h2 : isTok b = true
      · obtain ⟨i, d, hd, hdb⟩ := tok_last h2
        exact ⟨(isTok_pass ht).append (p61.append (isTok_pass h2)), hfirst, a ++ ([61] ++ i), d, by rw [hd]; simp, hdb⟩
      · rw [if_neg h2] at h
        cases hu : unq b with
        | none => rw [hu] at h; exact absurd rfl h
        | some v =>
          obtain ⟨u, hq, hv⟩ := unq_shape hu
          obtain ⟨i, hi⟩ := unqGo_end _ u (Nat.le_refl _) v hv
          refine ⟨?_, hfirst, a ++ ([61] ++ (34 :: i)), 34, by rw [hq, hi]; simp, rfl⟩
          rw [hq]; exact (isTok_pass ht).append (p61.append (quoted_pass hv))

theorem trim_solid {e : Bs} (h : Solid e) : trim e = e := by
  obtain ⟨c, t, he, hc⟩ := h.first
  obtain ⟨i, d, he2, hd⟩ := h.last
  unfold trim
  have h1 : ltrim e = e := by rw [he, ltrim_cons_other t hc]
  rw [h1]
  conv => lhs; rw [he2, rtrim_snoc_other i hd]
  exact he2.symm
/-- A blank, a comma and a blank. -/
def sep : Bs := [32, 44, 9]
/-- Elements, joined. -/
def joinL : List Bs → Bs
  | [] => []
  | e :: r => e ++ r.flatMap fun x => sep ++ x
theorem put_solid {e : Bs} (h : Solid e) (r : List Bs) : put e r = e :: r := by
  unfold put; rw [trim_solid h, if_neg h.ne]
theorem put_tab {e : Bs} (h : Solid e) (r : List Bs) : put (9 :: e) r = e :: r := by
  unfold put; rw [trim_cons_blank e rfl, trim_solid h, if_neg h.ne]
theorem put_space (own : Bs) (r : List Bs) : put (own ++ [32]) r = put own r := by
  unfold put; rw [trim_snoc_blank own rfl]
theorem sp_joined : ∀ (r : List Bs), (∀ e ∈ r, Solid e) → ∀ own, sp false own (r.flatMap fun x => sep ++ x) = some (put own r)
  | [], _, own => by simp [sp_nil]
  | e :: r, h, own => by
    have he := h e (by simp)
    have ih := sp_joined r (fun x hx => h x (by simp [hx])) ([9] ++ e)
    rw [List.flatMap_cons]
    show sp false own (32 :: 44 :: 9 :: (e ++ r.flatMap fun x => sep ++ x)) = _
    rw [sp_other _ _ (by decide) (by decide), sp_comma, sp_other _ _ (by decide) (by decide), he.pass]
    rw [show ([] ++ [9] ++ e : Bs) = [9] ++ e from rfl, ih]
    rw [Option.map_some, put_space]
    rw [show ([9] ++ e : Bs) = 9 :: e from rfl, put_tab he]
theorem split_joined (ls : List Bs) (h : ∀ e ∈ ls, Solid e) : splitOf (joinL ls) = some ls := by
  match ls with
  | [] => unfold splitOf joinL; rw [sp_nil]; rfl
  | e :: r =>
    have he := h e (by simp)
    unfold splitOf joinL
    rw [he.pass, List.nil_append, sp_joined r (fun x hx => h x (by simp [hx])), put_solid he]
theorem join_first (e : Bs) : joinL ([] ++ [e]) = e := by simp [joinL]
theorem join_next {ls : List Bs} (h : ls ≠ []) (e : Bs) : joinL (ls ++ [e]) = joinL ls ++ sep ++ e := by
  match ls, h with
  | a :: r, _ => simp [joinL, List.flatMap_append]
theorem join_ne {ls : List Bs} (h : ∀ e ∈ ls, Solid e) (hl : ls ≠ []) : joinL ls ≠ [] := by
  match ls, hl with
  | e :: r, _ =>
    have := (h e (by simp)).ne
    unfold joinL; intro e0; rw [List.append_eq_nil_iff] at e0; exact this e0.1

/-! Quoting. -/
theorem unqGo_esc : ∀ (l : Bs), l.all textByte = true → unqGo (l.flatMap esc ++ [34]) = some l
  | [], _ => by rw [List.flatMap_nil, List.nil_append, unqGo_last]
  | c :: l, h => by
    simp only [List.all_cons, Bool.and_eq_true] at h
    have ih := unqGo_esc l h.2
    rw [List.flatMap_cons]
    by_cases hc : c = 34 ∨ c = 92
    · rw [show esc c = [92, c] from by unfold esc; rw [if_pos hc]]
      show unqGo (92 :: c :: (l.flatMap esc ++ [34])) = _
      rw [unqGo_back c _ h.1, ih]; rfl
    · rw [show esc c = [c] from by unfold esc; rw [if_neg hc]]
      show unqGo (c :: (l.flatMap esc ++ [34])) = _
      rw [unqGo_other c _ (fun e => hc (.inl e)) (fun e => hc (.inr e)) h.1, ih]; rfl
theorem quote_shape {l q : Bs} (h : quoteOf l = some q) : ∃ u, q = 34 :: u ∧ unqGo u = some l := by
  unfold quoteOf at h
  by_cases ha : l.all textByte = true
  · rw [if_pos ha] at h; injection h with h
    exact ⟨_, h.symm, unqGo_esc l ha⟩
  · rw [if_neg ha] at h; cases h
theorem quote_notTok {q u : Bs} (h : q = 34 :: u) : isTok q = false := by
  subst h; unfold isTok; simp; intro hh; exact absurd hh (by decide)
theorem pair_of_quote {l q : Bs} (h : quoteOf l = some q) : pairOf ([120, 61] ++ q) = some ([120], some l) := by
  obtain ⟨u, hq, hu⟩ := quote_shape h
  have hi : eqIdx ([120, 61] ++ q) = 1 := by simp [eqIdx]
  have hun : unq q = some l := by rw [hq]; unfold unq; simp [hu]
  unfold pairOf
  rw [hi]
  have e1 : (([120, 61] ++ q : Bs)).take 1 = [120] := rfl
  have e2 : (([120, 61] ++ q : Bs)).drop (1 + 1) = q := rfl
  rw [e1, e2, if_neg (by decide), if_neg (by simp), if_neg (by rw [quote_notTok hq]; simp), hun]; rfl
theorem quote_last {l q : Bs} (h : quoteOf l = some q) : ∃ i, q = i ++ [34] := by
  obtain ⟨u, hq, hu⟩ := quote_shape h
  obtain ⟨i, hi⟩ := unqGo_end _ u (Nat.le_refl _) l hu
  exact ⟨34 :: i, by rw [hq, hi]; rfl⟩
theorem quote_solid {l q : Bs} (h : quoteOf l = some q) : Solid ([120, 61] ++ q) :=
  pair_solid (by rw [pair_of_quote h]; simp)
/-- A list with a quoted text between. -/
theorem split_quote {l q : Bs} (h : quoteOf l = some q) : splitOf ([121, 44, 32, 120, 61] ++ q ++ [44, 32, 122]) = some [[121], [120, 61] ++ q, [122]] := by
  have hs := quote_solid h
  unfold splitOf
  show sp false [] (121 :: 44 :: 32 :: (([120, 61] ++ q) ++ [44, 32, 122])) = _
  rw [sp_other _ _ (by decide) (by decide), sp_comma, sp_other _ _ (by decide) (by decide), hs.pass]
  show Option.map _ (sp false ([32] ++ ([120, 61] ++ q)) (44 :: 32 :: 122 :: [])) = _
  rw [sp_comma, sp_other _ _ (by decide) (by decide), sp_other _ _ (by decide) (by decide), sp_nil]
  have e3 : put (([] : Bs) ++ [32] ++ [122]) [] = [[122]] := by decide
  have e2 : put ([32] ++ ([120, 61] ++ q)) [[122]] = [[120, 61] ++ q, [122]] := by
    unfold put; rw [show ([32] ++ ([120, 61] ++ q) : Bs) = 32 :: ([120, 61] ++ q) from rfl, trim_cons_blank _ rfl, trim_solid hs, if_neg hs.ne]
  have e1 : put (([] : Bs) ++ [121]) [[120, 61] ++ q, [122]] = [[121], [120, 61] ++ q, [122]] := rfl
  rw [e3, Option.map_some, e2, Option.map_some, e1]
theorem quote_length {l q : Bs} (h : quoteOf l = some q) : q.length ≤ 2 * l.length + 2 := by
  unfold quoteOf at h
  split at h
  · injection h with h; subst h
    have := esc_length l
    simp only [List.length_cons, List.length_append, List.length_nil]; omega
  · cases h
end Go.Proofs.YthhnpdihgoiccaaDoor.Tk
