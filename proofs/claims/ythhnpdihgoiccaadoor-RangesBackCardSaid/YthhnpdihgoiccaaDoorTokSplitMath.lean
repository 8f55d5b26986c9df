/-
  Cutting a text at its commas, outside of quoted texts: the plain function, and its steps. No program, no condition.
-/
import Derived.Test.YthhnpdihgoiccaaDoorTokMath
namespace Go.Proofs.YthhnpdihgoiccaaDoor.Tk

/-- An element ahead of others: without its blanks, and not at all if it is then empty. -/
def put (own : Bs) (rest : List Bs) : List Bs := if trim own = [] then rest else trim own :: rest
/-- An element behind others. -/
def fin (out : List Bs) (own : Bs) : List Bs := if trim own = [] then out else out ++ [trim own]
theorem fin_put (out : List Bs) (own : Bs) (rest : List Bs) : fin out own ++ rest = out ++ put own rest := by
  unfold fin put; split <;> simp
theorem fin_length (out : List Bs) (own : Bs) : (fin out own).length ≤ out.length + 1 := by
  unfold fin; split <;> simp

/-- The elements; 'q': we are in a quoted text; 'own': what the element has so far. -/
def sp (q : Bool) (own : Bs) : Bs → Option (List Bs)
  | [] => if q then none else some (put own [])
  | c :: r =>
    if q then
      if c == 92 then
        match r with
        | [] => none
        | d :: r' => sp true (own ++ [c, d]) r'
      else sp (c != 34) (own ++ [c]) r
    else if c == 44 then (sp false [] r).map (put own) else sp (c == 34) (own ++ [c]) r
def splitOf (l : Bs) : Option (List Bs) := sp false [] l

/-- How many bytes come up to the quote that ends a quoted text, with it. -/
def qe : Bs → Option Nat
  | [] => none
  | c :: r =>
    if c == 34 then some 1
    else if c == 92 then
      match r with
      | [] => none
      | _ :: r' => (qe r').map (· + 2)
    else (qe r).map (· + 1)
theorem qe_back (r : Bs) : qe (92 :: r) = (qe (r.drop 1)).map (· + 2) := by
  cases r with
  | nil => simp [qe]
  | cons d r' => simp [qe]
theorem qe_end (r : Bs) : qe (34 :: r) = some 1 := by rw [qe.eq_def]; simp
theorem qe_other {c : UInt8} (r : Bs) (h1 : c ≠ 34) (h2 : c ≠ 92) : qe (c :: r) = (qe r).map (· + 1) := by
  rw [qe.eq_def]; simp [h1, h2]

theorem sp_nil (own : Bs) : sp false own [] = some (put own []) := by simp [sp]
theorem sp_nil_q (own : Bs) : sp true own [] = none := by simp [sp]
theorem sp_comma (own r : Bs) : sp false own (44 :: r) = (sp false [] r).map (put own) := by rw [sp.eq_def]; simp
theorem sp_open (own r : Bs) : sp false own (34 :: r) = sp true (own ++ [34]) r := by rw [sp.eq_def]; simp
theorem sp_other {c : UInt8} (own r : Bs) (h1 : c ≠ 44) (h2 : c ≠ 34) : sp false own (c :: r) = sp false (own ++ [c]) r := by
  have e : (c == 34) = false := by simpa using h2
  rw [sp.eq_def]; simp [h1, e]
theorem sp_q_back (own r : Bs) (d : UInt8) : sp true own (92 :: d :: r) = sp true (own ++ [92, d]) r := by rw [sp.eq_def]; simp
theorem sp_q_last (own : Bs) : sp true own [92] = none := by rw [sp.eq_def]; simp
theorem sp_q_close (own r : Bs) : sp true own (34 :: r) = sp false (own ++ [34]) r := by rw [sp.eq_def]; simp
theorem sp_q_other {c : UInt8} (own r : Bs) (h1 : c ≠ 34) (h2 : c ≠ 92) : sp true own (c :: r) = sp true (own ++ [c]) r := by
  have e : (c != 34) = true := by simpa using h1
  rw [sp.eq_def]; simp [h2, e]

/-- A quoted text is passed as a whole. -/
theorem sp_quote : ∀ (n : Nat) (r : Bs), r.length ≤ n → ∀ own, sp true own r = match qe r with | none => none | some m => sp false (own ++ r.take m) (r.drop m)
  | 0, r, h, own => by
    have : r = [] := List.length_eq_zero_iff.1 (by omega)
    subst this; simp [sp, qe]
  | n + 1, r, h, own => by
    match r with
    | [] => simp [sp, qe]
    | c :: r =>
      by_cases h1 : c = 34
      · subst h1; rw [sp_q_close, qe_end]; simp
      · by_cases h2 : c = 92
        · subst h2
          match r with
          | [] => rw [sp_q_last, qe_back]; simp [qe]
          | d :: r' =>
            rw [sp_q_back, qe_back, sp_quote n r' (by simp at h; omega)]
            simp only [List.drop_succ_cons, List.drop_zero]
            cases qe r' with
            | none => rfl
            | some m => simp
        · rw [sp_q_other _ _ h1 h2, qe_other _ h1 h2, sp_quote n r (by simp at h; omega)]
          cases qe r with
          | none => rfl
          | some m => simp
theorem sp_quote' (own r : Bs) : sp true own r = match qe r with | none => none | some m => sp false (own ++ r.take m) (r.drop m) := sp_quote _ r (Nat.le_refl _) own
theorem qe_le : ∀ (n : Nat) (r : Bs), r.length ≤ n → ∀ m, qe r = some m → 1 ≤ m ∧ m ≤ r.length
  | 0, r, h, m, hm => by
    have : r = [] := List.length_eq_zero_iff.1 (by omega)
    subst this; simp [qe] at hm
  | n + 1, r, h, m, hm => by
    match r with
    | [] => simp [qe] at hm
    | c :: r =>
      by_cases h1 : c = 34
      · subst h1; rw [qe_end] at hm; injection hm with hm; simp; omega
      · by_cases h2 : c = 92
        · subst h2
          match r with
          | [] => rw [qe_back] at hm; simp [qe] at hm
          | d :: r' =>
            rw [qe_back] at hm
            simp only [List.drop_succ_cons, List.drop_zero, Option.map_eq_some_iff] at hm
            obtain ⟨a, ha, rfl⟩ := hm
            have := qe_le n r' (by simp at h; omega) a ha
            simp; omega
        · rw [qe_other _ h1 h2, Option.map_eq_some_iff] at hm
          obtain ⟨a, ha, rfl⟩ := hm
          have := qe_le n r (by simp at h; omega) a ha
          simp; omega

/-! The steps over places of a text. -/
theorem drop_at (l : Bs) (k : Nat) (hk : k < l.length) : l.drop k = l[k] :: l.drop (k + 1) := List.drop_eq_getElem_cons hk
/-- What has been cut so far, and what is left. -/
def Left (l : Bs) (out : List Bs) (q : Bool) (own : Bs) (k : Nat) : Prop := splitOf l = (sp q own (l.drop k)).map (out ++ ·)
theorem Left.start (l : Bs) : Left l [] false [] 0 := by
  show splitOf l = Option.map _ (sp false [] (l.drop 0))
  rw [List.drop_zero]; unfold splitOf
  cases sp false [] l <;> simp
theorem Left.comma {l : Bs} {out : List Bs} {own : Bs} {k : Nat} (h : Left l out false own k) (hk : k < l.length) (hc : l[k] = 44) : Left l (fin out own) false [] (k + 1) := by
  unfold Left at *
  rw [h, drop_at l k hk, hc, sp_comma]
  cases sp false [] (l.drop (k + 1)) with
  | none => rfl
  | some x => simp [fin_put]
theorem Left.open {l : Bs} {out : List Bs} {own : Bs} {k : Nat} (h : Left l out false own k) (hk : k < l.length) (hc : l[k] = 34) : Left l out true (own ++ [34]) (k + 1) := by
  unfold Left at *
  rw [h, drop_at l k hk, hc, sp_open]
theorem Left.other {l : Bs} {out : List Bs} {own : Bs} {k : Nat} (h : Left l out false own k) (hk : k < l.length) (h1 : l[k] ≠ 44) (h2 : l[k] ≠ 34) : Left l out false (own ++ [l[k]]) (k + 1) := by
  unfold Left at *
  rw [h, drop_at l k hk, sp_other _ _ h1 h2]
theorem Left.qback {l : Bs} {out : List Bs} {own : Bs} {k : Nat} (h : Left l out true own k) (hk : k + 1 < l.length) (hc : l[k] = 92) : Left l out true (own ++ [92] ++ [l[k + 1]]) (k + 2) := by
  unfold Left at *
  rw [h, drop_at l k (by omega), hc, drop_at l (k + 1) hk, sp_q_back]; simp
theorem Left.qlast {l : Bs} {out : List Bs} {own : Bs} {k : Nat} (h : Left l out true own k) (hk : k < l.length) (hl : k + 1 = l.length) (hc : l[k] = 92) : Left l out true (own ++ [92]) (k + 1) := by
  unfold Left at *
  have : l.drop (k + 1) = [] := List.drop_eq_nil_of_le (by omega)
  rw [h, drop_at l k hk, hc, this, sp_q_last, sp_nil_q]
theorem Left.qclose {l : Bs} {out : List Bs} {own : Bs} {k : Nat} (h : Left l out true own k) (hk : k < l.length) (hc : l[k] = 34) : Left l out false (own ++ [34]) (k + 1) := by
  unfold Left at *
  rw [h, drop_at l k hk, hc, sp_q_close]
theorem Left.qother {l : Bs} {out : List Bs} {own : Bs} {k : Nat} (h : Left l out true own k) (hk : k < l.length) (h1 : l[k] ≠ 34) (h2 : l[k] ≠ 92) : Left l out true (own ++ [l[k]]) (k + 1) := by
  unfold Left at *
  rw [h, drop_at l k hk, sp_q_other _ _ h1 h2]
theorem Left.stop {l : Bs} {out : List Bs} {own : Bs} {k : Nat} (h : Left l out false own k) (hk : l.length ≤ k) : splitOf l = some (fin out own) := by
  unfold Left at h
  rw [h, List.drop_eq_nil_of_le hk, sp_nil]; simp [← fin_put]
theorem Left.qstop {l : Bs} {out : List Bs} {own : Bs} {k : Nat} (h : Left l out true own k) (hk : l.length ≤ k) : splitOf l = none := by
  unfold Left at h
  rw [h, List.drop_eq_nil_of_le hk, sp_nil_q]; rfl
theorem Left.quoteNone {l : Bs} {out : List Bs} {own : Bs} {k : Nat} (h : Left l out false own k) (hk : k < l.length) (hc : l[k] = 34) (hq : qe (l.drop (k + 1)) = none) : splitOf l = none := by
  have h1 := h.open hk hc
  unfold Left at h1
  rw [h1, sp_quote', hq]; rfl
theorem Left.quoteSome {l : Bs} {out : List Bs} {fr k m : Nat} (h : Left l out false ((l.take k).drop fr) k) (hf : fr ≤ k) (hk : k < l.length) (hc : l[k] = 34) (hq : qe (l.drop (k + 1)) = some m) :
    Left l out false ((l.take (k + m + 1)).drop fr) (k + m + 1) := by
  have hm := qe_le _ _ (Nat.le_refl _) _ hq
  have h1 := h.open hk hc
  unfold Left at *
  rw [h1, sp_quote', hq]
  have e1 : (l.drop (k + 1)).drop m = l.drop (k + m + 1) := by rw [List.drop_drop]; congr 1; omega
  have e2 : (l.take k).drop fr ++ [34] ++ (l.drop (k + 1)).take m = (l.take (k + m + 1)).drop fr := by
    have e3 : l.take (k + m + 1) = l.take k ++ ([34] ++ (l.drop (k + 1)).take m) := by
      rw [show k + m + 1 = k + (1 + m) from by omega, List.take_add, drop_at l k hk, hc]
      simp [Nat.add_comm 1 m]
    rw [e3, List.drop_append_of_le_length (by simp; omega)]; simp
  simp only [e1, e2]
theorem Left.otherPart {l : Bs} {out : List Bs} {fr k : Nat} (h : Left l out false ((l.take k).drop fr) k) (hf : fr ≤ k) (hk : k < l.length) (h1 : l[k] ≠ 44) (h2 : l[k] ≠ 34) : Left l out false ((l.take (k + 1)).drop fr) (k + 1) := by
  have := h.other hk h1 h2
  rw [part_snoc l fr (k + 1) (by omega) (by omega)]
  exact this
theorem Left.commaPart {l : Bs} {out : List Bs} {own : Bs} {k : Nat} (h : Left l out false own k) (hk : k < l.length) (hc : l[k] = 44) : Left l (fin out own) false ((l.take (k + 1)).drop (k + 1)) (k + 1) := by
  have := h.comma hk hc
  have e : (l.take (k + 1)).drop (k + 1) = [] := List.drop_eq_nil_of_le (List.length_take_le _ _)
  rw [e]; exact this
theorem put_length (own : Bs) (rest : List Bs) : (put own rest).length ≤ rest.length + 1 := by
  unfold put; split <;> simp
/-- There are no more elements than bytes, and one. -/
theorem sp_length : ∀ (n : Nat) (r : Bs), r.length ≤ n → ∀ q own ls, sp q own r = some ls → ls.length ≤ r.length + 1
  | 0, r, h, q, own, ls, hs => by
    have : r = [] := List.length_eq_zero_iff.1 (by omega)
    subst this
    cases q with
    | true => rw [sp_nil_q] at hs; cases hs
    | false => rw [sp_nil] at hs; injection hs with hs; subst hs; exact put_length own []
  | n + 1, r, h, q, own, ls, hs => by
    match r with
    | [] =>
      cases q with
      | true => rw [sp_nil_q] at hs; cases hs
      | false => rw [sp_nil] at hs; injection hs with hs; subst hs; exact put_length own []
    | c :: r =>
      have hr : r.length ≤ n := by simp at h; omega
      cases q with
      | false =>
        by_cases h44 : c = 44
        · subst h44
          rw [sp_comma, Option.map_eq_some_iff] at hs
          obtain ⟨x, hx, rfl⟩ := hs
          have h1 := sp_length n r hr _ _ _ hx
          have h2 := put_length own x
          simp; omega
        · by_cases h34 : c = 34
          · subst h34; rw [sp_open] at hs
            have := sp_length n r hr _ _ _ hs; simp; omega
          · rw [sp_other _ _ h44 h34] at hs
            have := sp_length n r hr _ _ _ hs; simp; omega
      | true =>
        by_cases h34 : c = 34
        · subst h34; rw [sp_q_close] at hs
          have := sp_length n r hr _ _ _ hs; simp; omega
        · by_cases h92 : c = 92
          · subst h92
            match r with
            | [] => rw [sp_q_last] at hs; cases hs
            | d :: r' =>
              rw [sp_q_back] at hs
              have := sp_length n r' (by simp at h; omega) _ _ _ hs; simp; omega
          · rw [sp_q_other _ _ h34 h92] at hs
            have := sp_length n r hr _ _ _ hs; simp; omega
theorem split_length {l : Bs} {ls : List Bs} (h : splitOf l = some ls) : ls.length ≤ l.length + 1 := sp_length _ l (Nat.le_refl _) _ _ _ h
end Go.Proofs.YthhnpdihgoiccaaDoor.Tk
