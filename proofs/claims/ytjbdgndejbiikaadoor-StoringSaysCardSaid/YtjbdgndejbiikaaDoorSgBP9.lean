/-
  Texts that the laws' proofs stand on, 3 of them in one file; each one's head says what it proves and under which condition.
-/
import Derived.Test.YtjbdgndejbiikaaDoorSgBP2
import Derived.Test.YtjbdgndejbiikaaDoorSgBP7
import Derived.Lib.Bytealg
import Derived.Test.YtjbdgndejbiikaaDoorRows
import Derived.WalkKit
import Derived.WalkLawsBesides
import Derived.Outline
import Derived.Lib.Hide
/-
  Pairs, quoted texts and quoting: plain functions on bytes, and their steps. No program, no condition.
-/
namespace Go.Proofs.YtjbdgndejbiikaaDoor.Tk

/-- Where the first = stands; the length, if there is none. -/
def eqIdx : Bs → Nat
  | [] => 0
  | c :: r => if c = 61 then 0 else eqIdx r + 1
theorem eqIdx_le (l : Bs) : eqIdx l ≤ l.length := by
  induction l with
  | nil => exact Nat.le_refl _
  | cons c r ih => unfold eqIdx; split <;> simp; omega
theorem eqIdx_at (l : Bs) (h : eqIdx l < l.length) : l[eqIdx l] = 61 := by
  induction l with
  | nil => simp at h
  | cons c r ih =>
    unfold eqIdx at h ⊢
    by_cases hc : c = 61
    · simp [hc]
    · simp only [hc, if_false] at h ⊢
      simp only [List.length_cons] at h
      exact ih (by omega)
theorem eqIdx_before (l : Bs) (j : Nat) (hj : j < eqIdx l) : l[j]'(by have := eqIdx_le l; omega) ≠ 61 := by
  induction l generalizing j with
  | nil => simp [eqIdx] at hj
  | cons c r ih =>
    by_cases hc : c = 61
    · simp [eqIdx, hc] at hj
    · cases j with
      | zero => simpa using hc
      | succ j =>
        simp only [eqIdx, hc, if_false] at hj
        simpa using ih j (by omega)
/-- A place ahead of which there is no =, and which has one, or is the end. -/
theorem eqIdx_is (l : Bs) (k : Nat) (hk : k ≤ l.length) (h1 : ∀ j (hj : j < k), l[j]'(by omega) ≠ 61) (h2 : ∀ h : k < l.length, l[k] = 61) : eqIdx l = k := by
  rcases Nat.lt_trichotomy (eqIdx l) k with h | h | h
  · exact absurd (eqIdx_at l (by omega)) (h1 _ h)
  · exact h
  · have := eqIdx_le l
    exact absurd (h2 (by omega)) (eqIdx_before l k h)
theorem indexByte_eq (l : Bs) : Lib.indexByte l 61 = if eqIdx l < l.length then (eqIdx l : Int) else -1 := by
  induction l with
  | nil => simp [Lib.indexByte, eqIdx]
  | cons c r ih =>
    unfold Lib.indexByte eqIdx
    by_cases hc : c = 61
    · simp [hc]
    · have hc' : (c == 61) = false := by simpa using hc
      simp only [hc', hc, if_false, ih, List.length_cons, Bool.false_eq_true]
      by_cases h : eqIdx r < r.length
      · have h2 : eqIdx r + 1 < r.length + 1 := by omega
        have h3 : (((eqIdx r : Nat) : Int) == -1) = false := beq_eq_false_iff_ne.2 (by omega)
        simp only [h, h2, if_true, h3, Bool.false_eq_true, if_false]; omega
      · have h2 : ¬ eqIdx r + 1 < r.length + 1 := by omega
        simp [h, h2]

/-- What stands behind the first quote of a quoted text. -/
def unqGo : Bs → Option Bs
  | [] => none
  | c :: r =>
    if c = 34 then (if r = [] then some [] else none)
    else if c = 92 then
      match r with
      | [] => none
      | d :: r' => if textByte d then (unqGo r').map (d :: ·) else none
    else if textByte c then (unqGo r).map (c :: ·) else none
def unq : Bs → Option Bs
  | [] => none
  | c :: r => if c = 34 then unqGo r else none
theorem unqGo_nil : unqGo [] = none := by rw [unqGo.eq_def]
theorem unqGo_last : unqGo [34] = some [] := by rw [unqGo.eq_def]; simp
theorem unqGo_early (r : Bs) (h : r ≠ []) : unqGo (34 :: r) = none := by rw [unqGo.eq_def]; simp [h]
theorem unqGo_back1 : unqGo [92] = none := by rw [unqGo.eq_def]; simp
theorem unqGo_back (d : UInt8) (r : Bs) (h : textByte d = true) : unqGo (92 :: d :: r) = (unqGo r).map (d :: ·) := by rw [unqGo.eq_def]; simp [h]
theorem unqGo_backno (d : UInt8) (r : Bs) (h : textByte d = false) : unqGo (92 :: d :: r) = none := by rw [unqGo.eq_def]; simp [h]
theorem unqGo_other (c : UInt8) (r : Bs) (h1 : c ≠ 34) (h2 : c ≠ 92) (h : textByte c = true) : unqGo (c :: r) = (unqGo r).map (c :: ·) := by rw [unqGo.eq_def]; simp [h1, h2, h]
theorem unqGo_otherno (c : UInt8) (r : Bs) (h1 : c ≠ 34) (h2 : c ≠ 92) (h : textByte c = false) : unqGo (c :: r) = none := by rw [unqGo.eq_def]; simp [h1, h2, h]
/-- A quoted text ends with a quote. -/
theorem unqGo_end : ∀ (n : Nat) (r : Bs), r.length ≤ n → ∀ u, unqGo r = some u → ∃ i, r = i ++ [34]
  | 0, r, h, u, hu => by
    have : r = [] := List.length_eq_zero_iff.1 (by omega)
    subst this; rw [unqGo_nil] at hu; cases hu
  | n + 1, r, h, u, hu => by
    match r with
    | [] => rw [unqGo_nil] at hu; cases hu
    | c :: r =>
      by_cases h1 : c = 34
      · subst h1
        by_cases hr : r = []
        · subst hr; exact ⟨[], rfl⟩
        · rw [unqGo_early r hr] at hu; cases hu
      · by_cases h2 : c = 92
        · subst h2
          match r with
          | [] => rw [unqGo_back1] at hu; cases hu
          | d :: r' =>
            cases hd : textByte d with
            | false => rw [unqGo_backno d r' hd] at hu; cases hu
            | true =>
              rw [unqGo_back d r' hd, Option.map_eq_some_iff] at hu
              obtain ⟨x, hx, _⟩ := hu
              obtain ⟨i, hi⟩ := unqGo_end n r' (by simp at h; omega) x hx
              exact ⟨92 :: d :: i, by rw [hi]; rfl⟩
        · cases hc : textByte c with
          | false => rw [unqGo_otherno c r h1 h2 hc] at hu; cases hu
          | true =>
            rw [unqGo_other c r h1 h2 hc, Option.map_eq_some_iff] at hu
            obtain ⟨x, hx, _⟩ := hu
            obtain ⟨i, hi⟩ := unqGo_end n r (by simp at h; omega) x hx
            exact ⟨c :: i, by rw [hi]; rfl⟩
theorem unq_notail (l : Bs) (h : 1 < l.length) (hl : l[l.length - 1] ≠ 34) : unq l = none := by
  match l, h, hl with
  | c :: r, h, hl =>
    unfold unq
    by_cases hc : c = 34
    · simp only [hc, if_true]
      cases hu : unqGo r with
      | none => rfl
      | some u =>
        obtain ⟨i, hi⟩ := unqGo_end _ r (Nat.le_refl _) u hu
        exfalso; apply hl; subst hi; simp
    · simp [hc]
theorem unq_short (l : Bs) (h : l.length ≤ 1) : unq l = none := by
  match l with
  | [] => rfl
  | [c] =>
    by_cases hc : c = 34
    · simp [unq, hc, unqGo_nil]
    · simp [unq, hc]
  | _ :: _ :: _ => simp at h
theorem unq_nohead (l : Bs) (h : 0 < l.length) (hl : l[0] ≠ 34) : unq l = none := by
  match l, h, hl with
  | c :: r, h, hl => unfold unq; simp at hl; simp [hl]
theorem unq_head (l : Bs) (h : 0 < l.length) (hl : l[0] = 34) : unq l = unqGo (l.drop 1) := by
  match l, h, hl with
  | c :: r, h, hl => unfold unq; simp at hl; simp [hl]

/-- What has been read of a quoted text so far, and what is left. -/
def Rest (l : Bs) (acc : Bs) (i : Nat) : Prop := unq l = (unqGo (l.drop i)).map (acc ++ ·)
theorem Rest.start {l : Bs} (h : 0 < l.length) (hl : l[0] = 34) : Rest l [] 1 := by
  show unq l = _; rw [unq_head l h hl]; cases unqGo (l.drop 1) <;> simp
theorem map_snoc (o : Option Bs) (acc : Bs) (d : UInt8) : (o.map (d :: ·)).map (acc ++ ·) = o.map (acc ++ [d] ++ ·) := by cases o <;> simp
theorem Rest.other {l acc : Bs} {i : Nat} (h : Rest l acc i) (hi : i < l.length) (h1 : l[i] ≠ 34) (h2 : l[i] ≠ 92) (ht : textByte l[i] = true) : Rest l (acc ++ [l[i]]) (i + 1) := by
  unfold Rest at *; rw [h, drop_at l i hi, unqGo_other _ _ h1 h2 ht, map_snoc]
theorem Rest.otherno {l acc : Bs} {i : Nat} (h : Rest l acc i) (hi : i < l.length) (h1 : l[i] ≠ 34) (h2 : l[i] ≠ 92) (ht : textByte l[i] = false) : unq l = none := by
  unfold Rest at h; rw [h, drop_at l i hi, unqGo_otherno _ _ h1 h2 ht]; rfl
theorem Rest.back {l acc : Bs} {i : Nat} (h : Rest l acc i) (hi : i + 1 < l.length) (h2 : l[i] = 92) (ht : textByte l[i + 1] = true) : Rest l (acc ++ [l[i + 1]]) (i + 2) := by
  unfold Rest at *; rw [h, drop_at l i (by omega), h2, drop_at l (i + 1) hi, unqGo_back _ _ ht, map_snoc]
theorem Rest.backno {l acc : Bs} {i : Nat} (h : Rest l acc i) (hi : i + 1 < l.length) (h2 : l[i] = 92) (ht : textByte l[i + 1] = false) : unq l = none := by
  unfold Rest at h; rw [h, drop_at l i (by omega), h2, drop_at l (i + 1) hi, unqGo_backno _ _ ht]; rfl
theorem Rest.back1 {l acc : Bs} {i : Nat} (h : Rest l acc i) (hi : i + 1 = l.length) (h2 : l[i] = 92) : unq l = none := by
  unfold Rest at h
  have : l.drop (i + 1) = [] := List.drop_eq_nil_of_le (by omega)
  rw [h, drop_at l i (by omega), h2, this, unqGo_back1]; rfl
theorem Rest.backEnd {l acc : Bs} {i : Nat} (h : Rest l acc i) (hi : i + 2 = l.length) (h2 : l[i] = 92) : unq l = none := by
  unfold Rest at h
  have : l.drop (i + 1 + 1) = [] := List.drop_eq_nil_of_le (by omega)
  rw [h, drop_at l i (by omega), h2, drop_at l (i + 1) (by omega), this]
  cases ht : textByte l[i + 1] with
  | true => rw [unqGo_back _ _ ht, unqGo_nil]; rfl
  | false => rw [unqGo_backno _ _ ht]; rfl
theorem Rest.early {l acc : Bs} {i : Nat} (h : Rest l acc i) (hi : i + 1 < l.length) (h1 : l[i] = 34) : unq l = none := by
  unfold Rest at h
  rw [h, drop_at l i (by omega), h1, unqGo_early _ (by intro e; have := congrArg List.length e; simp at this; omega)]; rfl
theorem Rest.stop {l acc : Bs} {i : Nat} (h : Rest l acc i) (hi : i + 1 = l.length) (h1 : l[i] = 34) : unq l = some acc := by
  unfold Rest at h
  have : l.drop (i + 1) = [] := List.drop_eq_nil_of_le (by omega)
  rw [h, drop_at l i (by omega), h1, this, unqGo_last]; simp
theorem Rest.none {l acc : Bs} {i : Nat} (h : Rest l acc i) (hi : l.length ≤ i) : unq l = none := by
  unfold Rest at h; rw [h, List.drop_eq_nil_of_le hi, unqGo_nil]; rfl

/-- An element's name, and its value if it has one. -/
def pairOf (l : Bs) : Option (Bs × Option Bs) :=
  if isTok (l.take (eqIdx l)) = false then none
  else if eqIdx l = l.length then some (l, none)
  else if isTok (l.drop (eqIdx l + 1)) then some (l.take (eqIdx l), some (l.drop (eqIdx l + 1)))
  else (unq (l.drop (eqIdx l + 1))).map fun u => (l.take (eqIdx l), some u)

/-- A byte in a quoted text. -/
def esc (c : UInt8) : Bs := if c = 34 ∨ c = 92 then [92, c] else [c]
def quoteOf (l : Bs) : Option Bs := if l.all textByte then some (34 :: (l.flatMap esc ++ [34])) else none
theorem esc_length (l : Bs) : (l.flatMap esc).length ≤ 2 * l.length := by
  induction l with
  | nil => simp
  | cons c r ih =>
    have : (esc c).length ≤ 2 := by unfold esc; split <;> simp
    simp only [List.flatMap_cons, List.length_append, List.length_cons]; omega
theorem esc_snoc (s : ByteArray) (k : Nat) (hk : k < s.size) : (s.data.toList.take (k + 1)).flatMap esc = (s.data.toList.take k).flatMap esc ++ esc s[k] := by
  rw [take_snoc s k hk, List.flatMap_append]; simp
end Go.Proofs.YtjbdgndejbiikaaDoor.Tk
/-
  Elements that are joined are split as they were; a text that is quoted is, as a pair's value, the text. Plain functions; no program, no condition.
-/
namespace Go.Proofs.YtjbdgndejbiikaaDoor.Tk

/-- A text that is passed as it is, outside of quoted texts: no comma of it cuts. -/
def Pass (e : Bs) : Prop := ∀ own rest, sp false own (e ++ rest) = sp false (own ++ e) rest
theorem Pass.nil : Pass [] := fun own rest => by simp
theorem Pass.append {a b : Bs} (ha : Pass a) (hb : Pass b) : Pass (a ++ b) := fun own rest => by
  rw [List.append_assoc, ha, hb, List.append_assoc]
theorem Pass.byte {c : UInt8} (h1 : c ≠ 44) (h2 : c ≠ 34) : Pass [c] := fun own rest => by
  rw [List.singleton_append, sp_other _ _ h1 h2]
theorem Pass.all : ∀ (e : Bs), (∀ c ∈ e, c ≠ 44 ∧ c ≠ 34) → Pass e
  | [], _ => Pass.nil
  | c :: e, h => by
    have h1 := h c (by simp)
    exact Pass.append (a := [c]) (Pass.byte h1.1 h1.2) (Pass.all e fun d hd => h d (by simp [hd]))
theorem tchar_pass {c : UInt8} (h : tchar c = true) : c ≠ 44 ∧ c ≠ 34 ∧ blank c = false ∧ c ≠ 61 := by
  have hh : ∀ n : Nat, n < 256 → tchar (UInt8.ofNat n) = true → UInt8.ofNat n ≠ 44 ∧ UInt8.ofNat n ≠ 34 ∧ blank (UInt8.ofNat n) = false ∧ UInt8.ofNat n ≠ 61 := by decide +kernel
  have := hh c.toNat c.toNat_lt
  rw [UInt8.ofNat_toNat] at this
  exact this h
theorem isTok_all {e : Bs} (h : isTok e = true) : ∀ c ∈ e, tchar c = true := by
  simp only [isTok, Bool.and_eq_true, List.all_eq_true] at h; exact h.2
theorem isTok_ne {e : Bs} (h : isTok e = true) : e ≠ [] := by
  intro e0; subst e0; simp [isTok] at h
theorem isTok_pass {e : Bs} (h : isTok e = true) : Pass e := Pass.all e fun c hc => ⟨(tchar_pass (isTok_all h c hc)).1, (tchar_pass (isTok_all h c hc)).2.1⟩

/-- A quoted text is as long as it says. -/
theorem qe_unq : ∀ (n : Nat) (u : Bs), u.length ≤ n → ∀ v, unqGo u = some v → ∀ rest, qe (u ++ rest) = some u.length
  | 0, u, h, v, hv, rest => by
    have : u = [] := List.length_eq_zero_iff.1 (by omega)
    subst this; rw [unqGo_nil] at hv; cases hv
  | n + 1, u, h, v, hv, rest => by
    match u with
    | [] => rw [unqGo_nil] at hv; cases hv
    | c :: r =>
      by_cases h1 : c = 34
      · subst h1
        by_cases hr : r = []
        · subst hr; rw [List.singleton_append, qe_end]; rfl
        · rw [unqGo_early r hr] at hv; cases hv
      · by_cases h2 : c = 92
        · subst h2
          match r with
          | [] => rw [unqGo_back1] at hv; cases hv
          | d :: r' =>
            cases hd : textByte d with
            | false => rw [unqGo_backno d r' hd] at hv; cases hv
            | true =>
              rw [unqGo_back d r' hd, Option.map_eq_some_iff] at hv
              obtain ⟨x, hx, _⟩ := hv
              have := qe_unq n r' (by simp at h; omega) x hx rest
              rw [List.cons_append, List.cons_append, qe_back]
              simp [this]
        · cases hc : textByte c with
          | false => rw [unqGo_otherno c r h1 h2 hc] at hv; cases hv
          | true =>
            rw [unqGo_other c r h1 h2 hc, Option.map_eq_some_iff] at hv
            obtain ⟨x, hx, _⟩ := hv
            have := qe_unq n r (by simp at h; omega) x hx rest
            rw [List.cons_append, qe_other _ h1 h2, this]; simp
theorem quoted_pass {u v : Bs} (h : unqGo u = some v) : Pass (34 :: u) := fun own rest => by
  rw [List.cons_append, sp_open, sp_quote', qe_unq _ u (Nat.le_refl _) v h rest]
  simp
theorem unq_shape {q v : Bs} (h : unq q = some v) : ∃ u, q = 34 :: u ∧ unqGo u = some v := by
  match q with
  | [] => cases h
  | c :: r =>
    unfold unq at h
    by_cases hc : c = 34
    · subst hc; simp at h; exact ⟨r, rfl, h⟩
    · simp [hc] at h

/-- An element: it is passed, is not empty, and has no blank at its ends. -/
structure Solid (e : Bs) : Prop where
  pass : Pass e
  first : ∃ c t, e = c :: t ∧ blank c = false
  last : ∃ i c, e = i ++ [c] ∧ blank c = false
theorem Solid.ne {e : Bs} (h : Solid e) : e ≠ [] := by obtain ⟨c, t, rfl, _⟩ := h.first; simp
theorem tok_first {e : Bs} (h : isTok e = true) : ∃ c t, e = c :: t ∧ blank c = false := by
  match e, isTok_ne h with
  | c :: t, _ => exact ⟨c, t, rfl, (tchar_pass (isTok_all h c (by simp))).2.2.1⟩
theorem tok_last {e : Bs} (h : isTok e = true) : ∃ i c, e = i ++ [c] ∧ blank c = false := by
  rcases snoc_cases e with h0 | ⟨i, c, rfl⟩
  · exact absurd h0 (isTok_ne h)
  · exact ⟨i, c, rfl, (tchar_pass (isTok_all h c (by simp))).2.2.1⟩
theorem take_split (l : Bs) (h : eqIdx l ≠ l.length) : l = l.take (eqIdx l) ++ ([61] ++ l.drop (eqIdx l + 1)) := by
  have hlt : eqIdx l < l.length := by have := eqIdx_le l; omega
  have h1 : l.drop (eqIdx l) = 61 :: l.drop (eqIdx l + 1) := by rw [drop_at l _ hlt, eqIdx_at l hlt]
  conv => lhs; rw [← List.take_append_drop (eqIdx l) l, h1]
  rfl
theorem pair_solid {l : Bs} (h : pairOf l ≠ none) : Solid l := by
  unfold pairOf at h
  by_cases h1 : isTok (l.take (eqIdx l)) = false
  · rw [if_pos h1] at h; exact absurd rfl h
  · have ht : isTok (l.take (eqIdx l)) = true := by simpa using h1
    rw [if_neg h1] at h
    by_cases hk : eqIdx l = l.length
    · rw [hk, List.take_length] at ht
      exact ⟨isTok_pass ht, tok_first ht, tok_last ht⟩
    · rw [if_neg hk] at h
      have hs := take_split l hk
      have p61 : Pass [61] := Pass.byte (by decide) (by decide)
      clear hk h1
      generalize l.take (eqIdx l) = a at *
      generalize l.drop (eqIdx l + 1) = b at *
      subst hs
      obtain ⟨c, t, hc, hcb⟩ := tok_first ht
      have hfirst : ∃ c t, a ++ ([61] ++ b) = c :: t ∧ blank c = false := ⟨c, t ++ ([61] ++ b), by rw [hc]; rfl, hcb⟩
      by_cases h2 : isTok b = true
      · obtain ⟨i, d, hd, hdb⟩ := tok_last h2
        exact ⟨(isTok_pass ht).append (p61.append (isTok_pass h2)), hfirst, a ++ ([61] ++ i), d, by rw [hd]; simp, hdb⟩
      · rw [if_neg h2] at h
        cases hu : unq b with
        | none => rw [hu] at h; exact absurd rfl h
        | some v =>
          obtain ⟨u, hq, hv⟩ := unq_shape hu
          obtain ⟨i, hi⟩ := unqGo_end _ u (Nat.le_refl _) v hv
          refine ⟨?_, hfirst, a ++ ([61] ++ (34 :: i)), 34, by rw [hq, hi]; simp, rfl⟩
          rw [hq]; exact (isTok_pass ht).append (p61.append (quoted_pass hv))

theorem trim_solid {e : Bs} (h : Solid e) : trim e = e := by
  obtain ⟨c, t, he, hc⟩ := h.first
  obtain ⟨i, d, he2, hd⟩ := h.last
  unfold trim
  have h1 : ltrim e = e := by rw [he, ltrim_cons_other t hc]
  rw [h1]
  conv => lhs; rw [he2, rtrim_snoc_other i hd]
  exact he2.symm
/-- A blank, a comma and a blank. -/
def sep : Bs := [32, 44, 9]
/-- Elements, joined. -/
def joinL : List Bs → Bs
  | [] => []
  | e :: r => e ++ r.flatMap fun x => sep ++ x
theorem put_solid {e : Bs} (h : Solid e) (r : List Bs) : put e r = e :: r := by
  unfold put; rw [trim_solid h, if_neg h.ne]
theorem put_tab {e : Bs} (h : Solid e) (r : List Bs) : put (9 :: e) r = e :: r := by
  unfold put; rw [trim_cons_blank e rfl, trim_solid h, if_neg h.ne]
theorem put_space (own : Bs) (r : List Bs) : put (own ++ [32]) r = put own r := by
  unfold put; rw [trim_snoc_blank own rfl]
theorem sp_joined : ∀ (r : List Bs), (∀ e ∈ r, Solid e) → ∀ own, sp false own (r.flatMap fun x => sep ++ x) = some (put own r)
  | [], _, own => by simp [sp_nil]
  | e :: r, h, own => by
    have he := h e (by simp)
    have ih := sp_joined r (fun x hx => h x (by simp [hx])) ([9] ++ e)
    rw [List.flatMap_cons]
    show sp false own (32 :: 44 :: 9 :: (e ++ r.flatMap fun x => sep ++ x)) = _
    rw [sp_other _ _ (by decide) (by decide), sp_comma, sp_other _ _ (by decide) (by decide), he.pass]
    rw [show ([] ++ [9] ++ e : Bs) = [9] ++ e from rfl, ih]
    rw [Option.map_some, put_space]
    rw [show ([9] ++ e : Bs) = 9 :: e from rfl, put_tab he]
theorem split_joined (ls : List Bs) (h : ∀ e ∈ ls, Solid e) : splitOf (joinL ls) = some ls := by
  match ls with
  | [] => unfold splitOf joinL; rw [sp_nil]; rfl
  | e :: r =>
    have he := h e (by simp)
    unfold splitOf joinL
    rw [he.pass, List.nil_append, sp_joined r (fun x hx => h x (by simp [hx])), put_solid he]
theorem join_first (e : Bs) : joinL ([] ++ [e]) = e := by simp [joinL]
theorem join_next {ls : List Bs} (h : ls ≠ []) (e : Bs) : joinL (ls ++ [e]) = joinL ls ++ sep ++ e := by
  match ls, h with
  | a :: r, _ => simp [joinL, List.flatMap_append]
theorem join_ne {ls : List Bs} (h : ∀ e ∈ ls, Solid e) (hl : ls ≠ []) : joinL ls ≠ [] := by
  match ls, hl with
  | e :: r, _ =>
    have := (h e (by simp)).ne
    unfold joinL; intro e0; rw [List.append_eq_nil_iff] at e0; exact this e0.1

/-! Quoting. -/
theorem unqGo_esc : ∀ (l : Bs), l.all textByte = true → unqGo (l.flatMap esc ++ [34]) = some l
  | [], _ => by rw [List.flatMap_nil, List.nil_append, unqGo_last]
  | c :: l, h => by
    simp only [List.all_cons, Bool.and_eq_true] at h
    have ih := unqGo_esc l h.2
    rw [List.flatMap_cons]
    by_cases hc : c = 34 ∨ c = 92
    · rw [show esc c = [92, c] from by unfold esc; rw [if_pos hc]]
      show unqGo (92 :: c :: (l.flatMap esc ++ [34])) = _
      rw [unqGo_back c _ h.1, ih]; rfl
    · rw [show esc c = [c] from by unfold esc; rw [if_neg hc]]
      show unqGo (c :: (l.flatMap esc ++ [34])) = _
      rw [unqGo_other c _ (fun e => hc (.inl e)) (fun e => hc (.inr e)) h.1, ih]; rfl
theorem quote_shape {l q : Bs} (h : quoteOf l = some q) : ∃ u, q = 34 :: u ∧ unqGo u = some l := by
  unfold quoteOf at h
  by_cases ha : l.all textByte = true
  · rw [if_pos ha] at h; injection h with h
    exact ⟨_, h.symm, unqGo_esc l ha⟩
  · rw [if_neg ha] at h; cases h
theorem quote_notTok {q u : Bs} (h : q = 34 :: u) : isTok q = false := by
  subst h; unfold isTok; simp; intro hh; exact absurd hh (by decide)
theorem pair_of_quote {l q : Bs} (h : quoteOf l = some q) : pairOf ([120, 61] ++ q) = some ([120], some l) := by
  obtain ⟨u, hq, hu⟩ := quote_shape h
  have hi : eqIdx ([120, 61] ++ q) = 1 := by simp [eqIdx]
  have hun : unq q = some l := by rw [hq]; unfold unq; simp [hu]
  unfold pairOf
  rw [hi]
  have e1 : (([120, 61] ++ q : Bs)).take 1 = [120] := rfl
  have e2 : (([120, 61] ++ q : Bs)).drop (1 + 1) = q := rfl
  rw [e1, e2, if_neg (by decide), if_neg (by simp), if_neg (by rw [quote_notTok hq]; simp), hun]; rfl
theorem quote_last {l q : Bs} (h : quoteOf l = some q) : ∃ i, q = i ++ [34] := by
  obtain ⟨u, hq, hu⟩ := quote_shape h
  obtain ⟨i, hi⟩ := unqGo_end _ u (Nat.le_refl _) l hu
  exact ⟨34 :: i, by rw [hq, hi]; rfl⟩
theorem quote_solid {l q : Bs} (h : quoteOf l = some q) : Solid ([120, 61] ++ q) :=
  pair_solid (by rw [pair_of_quote h]; simp)
/-- A list with a quoted text between. -/
theorem split_quote {l q : Bs} (h : quoteOf l = some q) : splitOf ([121, 44, 32, 120, 61] ++ q ++ [44, 32, 122]) = some [[121], [120, 61] ++ q, [122]] := by
  have hs := quote_solid h
  unfold splitOf
  show sp false [] (121 :: 44 :: 32 :: (([120, 61] ++ q) ++ [44, 32, 122])) = _
  rw [sp_other _ _ (by decide) (by decide), sp_comma, sp_other _ _ (by decide) (by decide), hs.pass]
  show Option.map _ (sp false ([32] ++ ([120, 61] ++ q)) (44 :: 32 :: 122 :: [])) = _
  rw [sp_comma, sp_other _ _ (by decide) (by decide), sp_other _ _ (by decide) (by decide), sp_nil]
  have e3 : put (([] : Bs) ++ [32] ++ [122]) [] = [[122]] := by decide
  have e2 : put ([32] ++ ([120, 61] ++ q)) [[122]] = [[120, 61] ++ q, [122]] := by
    unfold put; rw [show ([32] ++ ([120, 61] ++ q) : Bs) = 32 :: ([120, 61] ++ q) from rfl, trim_cons_blank _ rfl, trim_solid hs, if_neg hs.ne]
  have e1 : put (([] : Bs) ++ [121]) [[120, 61] ++ q, [122]] = [[121], [120, 61] ++ q, [122]] := rfl
  rw [e3, Option.map_some, e2, Option.map_some, e1]
theorem quote_length {l q : Bs} (h : quoteOf l = some q) : q.length ≤ 2 * l.length + 2 := by
  unfold quoteOf at h
  split at h
  · injection h with h; subst h
    have := esc_length l
    simp only [List.length_cons, List.length_append, List.length_nil]; omega
  · cases h
end Go.Proofs.YtjbdgndejbiikaaDoor.Tk
/-
  token.appendDigit, token.Number and gatepostref01.Number: what each returns, for every text and every bound.
  Conditions: none beyond the lengths that a string can have.
-/
-- cut by strips.py
namespace Go.Proofs.YtjbdgndejbiikaaDoor.Num
open Go.RowKit

/-- A digit's byte. -/
def dg (c : UInt8) : Bool := 48 ≤ c.toNat && c.toNat ≤ 57
/-- One digit more, at most 'most'. -/
def step (most n d : Int) : Int := if most < n * 10 + d then most else n * 10 + d
def num (most n : Int) (l : List UInt8) : Int := l.foldl (fun n c => step most n ((c.toNat : Int) - 48)) n

theorem step_bd (most n d : Int) (hm : 0 ≤ most) (hn : 0 ≤ n) (hd : 0 ≤ d) : 0 ≤ step most n d ∧ step most n d ≤ most := by
  unfold step; split <;> omega
theorem dg_bd {c : UInt8} (h : dg c = true) : 48 ≤ (c.toNat : Int) ∧ (c.toNat : Int) ≤ 57 := by
  simp [dg] at h; omega
theorem num_bd (most : Int) (hm : 0 ≤ most) (l : List UInt8) : ∀ (n : Int), 0 ≤ n → n ≤ most → l.all dg = true → 0 ≤ num most n l ∧ num most n l ≤ most := by
  induction l with
  | nil => intro n h0 h1 _; exact ⟨h0, h1⟩
  | cons c l ih =>
    intro n h0 h1 ha
    simp only [List.all_cons, Bool.and_eq_true] at ha
    have hb := dg_bd ha.1
    have hs := step_bd most n ((c.toNat : Int) - 48) hm h0 (by omega)
    exact ih _ hs.1 hs.2 ha.2
theorem num_stay (most : Int) (hm : 0 ≤ most) (l : List UInt8) : l.all dg = true → num most most l = most := by
  induction l with
  | nil => intro _; rfl
  | cons c l ih =>
    intro ha
    simp only [List.all_cons, Bool.and_eq_true] at ha
    have hb := dg_bd ha.1
    have hs : step most most ((c.toNat : Int) - 48) = most := by unfold step; split <;> omega
    show num most (step most most ((c.toNat : Int) - 48)) l = most
    rw [hs]; exact ih ha.2
theorem num_snoc (most n : Int) (l : List UInt8) (c : UInt8) : num most n (l ++ [c]) = step most (num most n l) ((c.toNat : Int) - 48) := by
  simp [num, List.foldl_append]
theorem num_append (most n : Int) (l k : List UInt8) : num most n (l ++ k) = num most (num most n l) k := by
  simp [num, List.foldl_append]
theorem take_snoc (s : ByteArray) (k : Nat) (h : k < s.size) : s.data.toList.take (k + 1) = s.data.toList.take k ++ [s[k]] := by
  rw [List.take_succ_eq_append_getElem (by simpa using h)]; rfl
theorem all_snoc (s : ByteArray) (k : Nat) (h : k < s.size) : (s.data.toList.take (k + 1)).all dg = ((s.data.toList.take k).all dg && dg s[k]) := by
  rw [take_snoc s k h, List.all_append]; simp
theorem all_take (l : List UInt8) (k : Nat) (h : l.all dg = true) : (l.take k).all dg = true := by
  rw [List.all_eq_true] at h ⊢
  intro x hx; exact h x (List.mem_of_mem_take hx)
theorem not_all (s : ByteArray) (k : Nat) (h : k < s.size) (hd : dg s[k] = false) : s.data.toList.all dg = false := by
  rw [List.all_eq_false]
  exact ⟨s[k], by show s.data[k] ∈ _; simp, by simp [hd]⟩

/-- What Number answers. -/
def numOf (s : ByteArray) (most : Int) : Int × Bool := if s.size = 0 ∨ most < 0 ∨ s.data.toList.all dg = false then (0, false) else (num most 0 s.data.toList, true)

set_option maxHeartbeats 400000 in
theorem digit_any (n d most : Int) (w : World) (h0 : 0 ≤ n) (h1 : n ≤ most) (h2 : 0 ≤ d) (h3 : d ≤ 9) (h4 : most ≤ 9223372036854775807) :
    Calls Tryd.prog 56 #[.int .i64 n, .int .i64 d, .int .i64 most] w fun e w' => e = .returned (.int .i64 (step most n d)) ∧ w = w' := by
  by_cases ha : most / 10 < n
  · have HS := Lib.hid (show step most n d = most from by unfold step; rw [if_pos (by omega)])
    go_enter Tryd.func56, Tryd.ntmps56
    go_wp2
    go_ret
    exact ⟨by rw [HS.out]; rfl, rfl⟩
  · by_cases hb : most - n * 10 < d
    · have HS := Lib.hid (show step most n d = most from by unfold step; rw [if_pos (by omega)])
      go_enter Tryd.func56, Tryd.ntmps56
      go_wp2
      go_ret
      exact ⟨by rw [HS.out]; rfl, rfl⟩
    · have HS := Lib.hid (show step most n d = n * 10 + d from by unfold step; rw [if_neg (by omega)])
      go_enter Tryd.func56, Tryd.ntmps56
      go_wp2
      go_ret
      exact ⟨by rw [HS.out]; rfl, rfl⟩

theorem numOf_none {s : ByteArray} {most : Int} (h : s.size = 0 ∨ most < 0 ∨ s.data.toList.all dg = false) : numOf s most = (0, false) := by
  unfold numOf; rw [if_pos h]
theorem numOf_some {s : ByteArray} {most : Int} (h0 : 0 < s.size) (hm : 0 ≤ most) (h : s.data.toList.all dg = true) : numOf s most = (num most 0 s.data.toList, true) := by
  unfold numOf; rw [if_neg (by rw [h]; intro hh; rcases hh with hh | hh | hh <;> first | omega | simp at hh)]
/-- Two results as the walk leaves them. -/
theorem ret2 {a b : Int} {x y : Bool} {p : Int × Bool} (h : p = (b, y)) (h1 : a = b) (h2 : x = y) : Ending.returned (.tuple #[.int .i64 a, .bool x]) = .returned (.tuple #[.int .i64 p.1, .bool p.2]) := by
  rw [h, h1, h2]
theorem empty_of {s : ByteArray} (h : s.size = 0) : s.toList = [] := by
  rw [ByteArray.toList_eq, ← List.length_eq_zero_iff]; simpa using h
theorem full_of {s : ByteArray} (h : 0 < s.size) : s.toList.isEmpty = false := by
  rw [ByteArray.toList_eq]
  cases hl : s.data.toList with
  | nil => have h1 : s.data.toList.length = 0 := by rw [hl]; rfl
           rw [Array.length_toList] at h1
           have h2 : s.size = s.data.size := rfl
           omega
  | cons => rfl
theorem all_of_take {s : ByteArray} (h : (s.data.toList.take s.size).all dg = true) : s.data.toList.all dg = true := by
  rwa [List.take_of_length_le (by simp)] at h
theorem num_of_take (s : ByteArray) (most : Int) : num most 0 (s.data.toList.take s.size) = num most 0 s.data.toList := by
  rw [List.take_of_length_le (by simp)]

set_option maxHeartbeats 1000000 in
theorem number_any (s : ByteArray) (most : Int) (w : World) (hs : s.size ≤ maxLen) (h4 : most ≤ 9223372036854775807) :
    Calls Tryd.prog 42 #[.string s, .int .i64 most] w fun e w' => e = .returned (.tuple #[.int .i64 (numOf s most).1, .bool (numOf s most).2]) ∧ w = w' := by
  unfold maxLen at hs
  by_cases hz : s.size = 0
  · have HN := Lib.hid (numOf_none (most := most) (.inl hz))
    have he := empty_of hz
    clear hz
    go_enter Tryd.func42, Tryd.ntmps42
    go_wp2
    go_ret2
    exact ⟨ret2 HN.out rfl rfl, rfl⟩
  · have he := full_of (s := s) (by omega)
    by_cases hm : most < 0
    · have HN := Lib.hid (numOf_none (s := s) (.inr (.inl hm)))
      go_enter Tryd.func42, Tryd.ntmps42
      go_wp2
      go_ret2
      exact ⟨ret2 HN.out rfl rfl, rfl⟩
    · have hm' : 0 ≤ most := by omega
      go_enter Tryd.func42, Tryd.ntmps42
      go_wp2
      go_loop [6, 16] (fun n i => ∃ k : Nat, k ≤ s.size ∧ i = .int .i64 k ∧ (s.data.toList.take k).all dg = true ∧ n = .int .i64 (num most 0 (s.data.toList.take k))) (fun _ i => s.size - (intOf i).toNat)
      case atStart => exact ⟨0, Nat.zero_le _, rfl, rfl, rfl⟩
      case round =>
        obtain ⟨k, hk, rfl, hal, rfl⟩ := hrel
        have hb := num_bd most hm' (s.data.toList.take k) 0 (by omega) hm' hal
        have HAL := Lib.hid hal
        clear hal
        by_cases hlt : k < s.size
        · by_cases hd : dg s[k] = true
          · have hc := dg_bd hd
            have HS := Lib.hid (show num most 0 (s.data.toList.take (k + 1)) = step most (num most 0 (s.data.toList.take k)) ((s[k].toNat : Int) - 48) from by rw [take_snoc s k hlt, num_snoc])
            have HA := Lib.hid (show (s.data.toList.take (k + 1)).all dg = true from by rw [all_snoc s k hlt, HAL.out, hd]; rfl)
            clear hd
            go_wp2_with (go_at_call 56; refine (digit_any _ _ _ _ (by omega) (by omega) (by omega) (by omega) (by omega)).mono ?_; rintro e w' ⟨rfl, rfl⟩)
            go_round
            case rel => exact ⟨k + 1, by omega, by go_num, HA.out, by rw [HS.out]⟩
            case measure => simp [intOf]; omega
          · have HN := Lib.hid (numOf_none (s := s) (most := most) (.inr (.inr (not_all s k hlt (by simpa using hd)))))
            have hc : (s[k].toNat : Int) < 48 ∨ 57 < (s[k].toNat : Int) := by
              simp [dg] at hd; omega
            clear hd
            rcases hc with hc | hc
            all_goals
              go_wp2
              go_ret2
              exact ⟨ret2 HN.out rfl rfl, rfl⟩
        · obtain rfl : k = s.size := by omega
          have HN := Lib.hid (numOf_some (by omega) hm' (all_of_take HAL.out))
          go_wp2
          go_ret2
          exact ⟨ret2 HN.out (num_of_take _ _) rfl, rfl⟩

theorem early (s : ByteArray) (most : Int) (k : Nat) (hk : k < s.size) (hm : 0 ≤ most) (ha : s.data.toList.all dg = true) (hs : most < num most 0 (s.data.toList.take k) * 10 + ((s[k].toNat : Int) - 48)) :
    num most 0 s.data.toList = most := by
  have h1 : num most 0 (s.data.toList.take (k + 1)) = most := by
    rw [take_snoc s k hk, num_snoc]; unfold step; rw [if_pos hs]
  have h2 : num most 0 s.data.toList = num most 0 (s.data.toList.take (k + 1) ++ s.data.toList.drop (k + 1)) := by rw [List.take_append_drop]
  rw [h2, num_append, h1]
  refine num_stay most hm _ ?_
  rw [List.all_eq_true] at ha ⊢
  intro x hx; exact ha x (List.mem_of_mem_drop hx)
theorem get_dg (s : ByteArray) (k : Nat) (hk : k < s.size) (ha : s.data.toList.all dg = true) : dg s[k] = true := by
  rw [List.all_eq_true] at ha
  exact ha _ (by show s.data[k] ∈ _; simp)

end Go.Proofs.YtjbdgndejbiikaaDoor.Num
