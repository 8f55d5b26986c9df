/-
  Texts that the laws' proofs stand on, 3 of them in one file; each one's head says what it proves and under which condition.
-/
import Derived.Test.YtledjiikpajdaaaDoorVtAllP8
import Derived.Lib.Bytealg
import Derived.Test.YtledjiikpajdaaaDoorVtAllP7
import Derived.Deep.QuietTactic
import Derived.BigQuiet
/-
  Cutting a text at its commas, outside of quoted texts: the plain function, and its steps. No program, no condition.
-/
namespace Go.Proofs.YtledjiikpajdaaaDoor.Tk

/-- An element ahead of others: without its blanks, and not at all if it is then empty. -/
def put (own : Bs) (rest : List Bs) : List Bs := if trim own = [] then rest else trim own :: rest
/-- An element behind others. -/
def fin (out : List Bs) (own : Bs) : List Bs := if trim own = [] then out else out ++ [trim own]
theorem fin_put (out : List Bs) (own : Bs) (rest : List Bs) : fin out own ++ rest = out ++ put own rest := by
  unfold fin put; split <;> simp
theorem fin_length (out : List Bs) (own : Bs) : (fin out own).length ≤ out.length + 1 := by
  unfold fin; split <;> simp

/-- The elements; 'q': we are in a quoted text; 'own': what the element has so far. -/
def sp (q : Bool) (own : Bs) : Bs → Option (List Bs)
  | [] => if q then none else some (put own [])
  | c :: r =>
    if q then
      if c == 92 then
        match r with
        | [] => none
        | d :: r' => sp true (own ++ [c, d]) r'
      else sp (c != 34) (own ++ [c]) r
    else if c == 44 then (sp false [] r).map (put own) else sp (c == 34) (own ++ [c]) r
def splitOf (l : Bs) : Option (List Bs) := sp false [] l

/-- How many bytes come up to the quote that ends a quoted text, with it. -/
def qe : Bs → Option Nat
  | [] => none
  | c :: r =>
    if c == 34 then some 1
    else if c == 92 then
      match r with
      | [] => none
      | _ :: r' => (qe r').map (· + 2)
    else (qe r).map (· + 1)
theorem qe_back (r : Bs) : qe (92 :: r) = (qe (r.drop 1)).map (· + 2) := by
  cases r with
  | nil => simp [qe]
  | cons d r' => simp [qe]
theorem qe_end (r : Bs) : qe (34 :: r) = some 1 := by rw [qe.eq_def]; simp
theorem qe_other {c : UInt8} (r : Bs) (h1 : c ≠ 34) (h2 : c ≠ 92) : qe (c :: r) = (qe r).map (· + 1) := by
  rw [qe.eq_def]; simp [h1, h2]

theorem sp_nil (own : Bs) : sp false own [] = some (put own []) := by simp [sp]
theorem sp_nil_q (own : Bs) : sp true own [] = none := by simp [sp]
theorem sp_comma (own r : Bs) : sp false own (44 :: r) = (sp false [] r).map (put own) := by rw [sp.eq_def]; simp
theorem sp_open (own r : Bs) : sp false own (34 :: r) = sp true (own ++ [34]) r := by rw [sp.eq_def]; simp
theorem sp_other {c : UInt8} (own r : Bs) (h1 : c ≠ 44) (h2 : c ≠ 34) : sp false own (c :: r) = sp false (own ++ [c]) r := by
  have e : (c == 34) = false := by simpa using h2
  rw [sp.eq_def]; simp [h1, e]
theorem sp_q_back (own r : Bs) (d : UInt8) : sp true own (92 :: d :: r) = sp true (own ++ [92, d]) r := by rw [sp.eq_def]; simp
theorem sp_q_last (own : Bs) : sp true own [92] = none := by rw [sp.eq_def]; simp
theorem sp_q_close (own r : Bs) : sp true own (34 :: r) = sp false (own ++ [34]) r := by rw [sp.eq_def]; simp
theorem sp_q_other {c : UInt8} (own r : Bs) (h1 : c ≠ 34) (h2 : c ≠ 92) : sp true own (c :: r) = sp true (own ++ [c]) r := by
  have e : (c != 34) = true := by simpa using h1
  rw [sp.eq_def]; simp [h2, e]

/-- A quoted text is passed as a whole. -/
theorem sp_quote : ∀ (n : Nat) (r : Bs), r.length ≤ n → ∀ own, sp true own r = match qe r with | none => none | some m => sp false (own ++ r.take m) (r.drop m)
  | 0, r, h, own => by
    have : r = [] := List.length_eq_zero_iff.1 (by omega)
    subst this; simp [sp, qe]
  | n + 1, r, h, own => by
    match r with
    | [] => simp [sp, qe]
    | c :: r =>
      by_cases h1 : c = 34
      · subst h1; rw [sp_q_close, qe_end]; simp
      · by_cases h2 : c = 92
        · subst h2
          match r with
          | [] => rw [sp_q_last, qe_back]; simp [qe]
          | d :: r' =>
            rw [sp_q_back, qe_back, sp_quote n r' (by simp at h; omega)]
            simp only [List.drop_succ_cons, List.drop_zero]
            cases qe r' with
            | none => rfl
            | some m => simp
        · rw [sp_q_other _ _ h1 h2, qe_other _ h1 h2, sp_quote n r (by simp at h; omega)]
          cases qe r with
          | none => rfl
          | some m => simp
theorem sp_quote' (own r : Bs) : sp true own r = match qe r with | none => none | some m => sp false (own ++ r.take m) (r.drop m) := sp_quote _ r (Nat.le_refl _) own
theorem qe_le : ∀ (n : Nat) (r : Bs), r.length ≤ n → ∀ m, qe r = some m → 1 ≤ m ∧ m ≤ r.length
  | 0, r, h, m, hm => by
    have : r = [] := List.length_eq_zero_iff.1 (by omega)
    subst this; simp [qe] at hm
  | n + 1, r, h, m, hm => by
    match r with
    | [] => simp [qe] at hm
    | c :: r =>
      by_cases h1 : c = 34
      · subst h1; rw [qe_end] at hm; injection hm with hm; simp; omega
      · by_cases h2 : c = 92
        · subst h2
          match r with
          | [] => rw [qe_back] at hm; simp [qe] at hm
          | d :: r' =>
            rw [qe_back] at hm
            simp only [List.drop_succ_cons, List.drop_zero, Option.map_eq_some_iff] at hm
            obtain ⟨a, ha, rfl⟩ := hm
            have := qe_le n r' (by simp at h; omega) a ha
            simp; omega
        · rw [qe_other _ h1 h2, Option.map_eq_some_iff] at hm
          obtain ⟨a, ha, rfl⟩ := hm
          have := qe_le n r (by simp at h; omega) a ha
          simp; omega

/-! The steps over places of a text. -/
theorem drop_at (l : Bs) (k : Nat) (hk : k < l.length) : l.drop k = l[k] :: l.drop (k + 1) := List.drop_eq_getElem_cons hk
/-- What has been cut so far, and what is left. -/
def Left (l : Bs) (out : List Bs) (q : Bool) (own : Bs) (k : Nat) : Prop := splitOf l = (sp q own (l.drop k)).map (out ++ ·)
theorem Left.start (l : Bs) : Left l [] false [] 0 := by
  show splitOf l = Option.map _ (sp false [] (l.drop 0))
  rw [List.drop_zero]; unfold splitOf
  cases sp false [] l <;> simp
theorem Left.comma {l : Bs} {out : List Bs} {own : Bs} {k : Nat} (h : Left l out false own k) (hk : k < l.length) (hc : l[k] = 44) : Left l (fin out own) false [] (k + 1) := by
  unfold Left at *
  rw [h, drop_at l k hk, hc, sp_comma]
  cases sp false [] (l.drop (k + 1)) with
  | none => rfl
  | some x => simp [fin_put]
theorem Left.open {l : Bs} {out : List Bs} {own : Bs} {k : Nat} (h : Left l out false own k) (hk : k < l.length) (hc : l[k] = 34) : Left l out true (own ++ [34]) (k + 1) := by
  unfold Left at *
  rw [h, drop_at l k hk, hc, sp_open]
theorem Left.other {l : Bs} {out : List Bs} {own : Bs} {k : Nat} (h : Left l out false own k) (hk : k < l.length) (h1 : l[k] ≠ 44) (h2 : l[k] ≠ 34) : Left l out false (own ++ [l[k]]) (k + 1) := by
  unfold Left at *
  rw [h, drop_at l k hk, sp_other _ _ h1 h2]
theorem Left.qback {l : Bs} {out : List Bs} {own : Bs} {k : Nat} (h : Left l out true own k) (hk : k + 1 < l.length) (hc : l[k] = 92) : Left l out true (own ++ [92] ++ [l[k + 1]]) (k + 2) := by
  unfold Left at *
  rw [h, drop_at l k (by omega), hc, drop_at l (k + 1) hk, sp_q_back]; simp
theorem Left.qlast {l : Bs} {out : List Bs} {own : Bs} {k : Nat} (h : Left l out true own k) (hk : k < l.length) (hl : k + 1 = l.length) (hc : l[k] = 92) : Left l out true (own ++ [92]) (k + 1) := by
  unfold Left at *
  have : l.drop (k + 1) = [] := List.drop_eq_nil_of_le (by omega)
  rw [h, drop_at l k hk, hc, this, sp_q_last, sp_nil_q]
theorem Left.qclose {l : Bs} {out : List Bs} {own : Bs} {k : Nat} (h : Left l out true own k) (hk : k < l.length) (hc : l[k] = 34) : Left l out false (own ++ [34]) (k + 1) := by
  unfold Left at *
  rw [h, drop_at l k hk, hc, sp_q_close]
theorem Left.qother {l : Bs} {out : List Bs} {own : Bs} {k : Nat} (h : Left l out true own k) (hk : k < l.length) (h1 : l[k] ≠ 34) (h2 : l[k] ≠ 92) : Left l out true (own ++ [l[k]]) (k + 1) := by
  unfold Left at *
  rw [h, drop_at l k hk, sp_q_other _ _ h1 h2]
theorem Left.stop {l : Bs} {out : List Bs} {own : Bs} {k : Nat} (h : Left l out false own k) (hk : l.length ≤ k) : splitOf l = some (fin out own) := by
  unfold Left at h
  rw [h, List.drop_eq_nil_of_le hk, sp_nil]; simp [← fin_put]
theorem Left.qstop {l : Bs} {out : List Bs} {own : Bs} {k : Nat} (h : Left l out true own k) (hk : l.length ≤ k) : splitOf l = none := by
  unfold Left at h
  rw [h, List.drop_eq_nil_of_le hk, sp_nil_q]; rfl
theorem Left.quoteNone {l : Bs} {out : List Bs} {own : Bs} {k : Nat} (h : Left l out false own k) (hk : k < l.length) (hc : l[k] = 34) (hq : qe (l.drop (k + 1)) = none) : splitOf l = none := by
  have h1 := h.open hk hc
  unfold Left at h1
  rw [h1, sp_quote', hq]; rfl
theorem Left.quoteSome {l : Bs} {out : List Bs} {fr k m : Nat} (h : Left l out false ((l.take k).drop fr) k) (hf : fr ≤ k) (hk : k < l.length) (hc : l[k] = 34) (hq : qe (l.drop (k + 1)) = some m) :
    Left l out false ((l.take (k + m + 1)).drop fr) (k + m + 1) := by
  have hm := qe_le _ _ (Nat.le_refl _) _ hq
  have h1 := h.open hk hc
  unfold Left at *
  rw [h1, sp_quote', hq]
  have e1 : (l.drop (k + 1)).drop m = l.drop (k + m + 1) := by rw [List.drop_drop]; congr 1; omega
  have e2 : (l.take k).drop fr ++ [34] ++ (l.drop (k + 1)).take m = (l.take (k + m + 1)).drop fr := by
    have e3 : l.take (k + m + 1) = l.take k ++ ([34] ++ (l.drop (k + 1)).take m) := by
      rw [show k + m + 1 = k + (1 + m) from by omega, List.take_add, drop_at l k hk, hc]
      simp [Nat.add_comm 1 m]
    rw [e3, List.drop_append_of_le_length (by simp; omega)]; simp
  simp only [e1, e2]
theorem Left.otherPart {l : Bs} {out : List Bs} {fr k : Nat} (h : Left l out false ((l.take k).drop fr) k) (hf : fr ≤ k) (hk : k < l.length) (h1 : l[k] ≠ 44) (h2 : l[k] ≠ 34) : Left l out false ((l.take (k + 1)).drop fr) (k + 1) := by
  have := h.other hk h1 h2
  rw [part_snoc l fr (k + 1) (by omega) (by omega)]
  exact this
theorem Left.commaPart {l : Bs} {out : List Bs} {own : Bs} {k : Nat} (h : Left l out false own k) (hk : k < l.length) (hc : l[k] = 44) : Left l (fin out own) false ((l.take (k + 1)).drop (k + 1)) (k + 1) := by
  have := h.comma hk hc
  have e : (l.take (k + 1)).drop (k + 1) = [] := List.drop_eq_nil_of_le (List.length_take_le _ _)
  rw [e]; exact this
theorem put_length (own : Bs) (rest : List Bs) : (put own rest).length ≤ rest.length + 1 := by
  unfold put; split <;> simp
/-- There are no more elements than bytes, and one. -/
theorem sp_length : ∀ (n : Nat) (r : Bs), r.length ≤ n → ∀ q own ls, sp q own r = some ls → ls.length ≤ r.length + 1
  | 0, r, h, q, own, ls, hs => by
    have : r = [] := List.length_eq_zero_iff.1 (by omega)
    subst this
    cases q with
    | true => rw [sp_nil_q] at hs; cases hs
    | false => rw [sp_nil] at hs; injection hs with hs; subst hs; exact put_length own []
  | n + 1, r, h, q, own, ls, hs => by
    match r with
    | [] =>
      cases q with
      | true => rw [sp_nil_q] at hs; cases hs
      | false => rw [sp_nil] at hs; injection hs with hs; subst hs; exact put_length own []
    | c :: r =>
      have hr : r.length ≤ n := by simp at h; omega
      cases q with
      | false =>
        by_cases h44 : c = 44
        · subst h44
          rw [sp_comma, Option.map_eq_some_iff] at hs
          obtain ⟨x, hx, rfl⟩ := hs
          have h1 := sp_length n r hr _ _ _ hx
          have h2 := put_length own x
          simp; omega
        · by_cases h34 : c = 34
          · subst h34; rw [sp_open] at hs
            have := sp_length n r hr _ _ _ hs; simp; omega
          · rw [sp_other _ _ h44 h34] at hs
            have := sp_length n r hr _ _ _ hs; simp; omega
      | true =>
        by_cases h34 : c = 34
        · subst h34; rw [sp_q_close] at hs
          have := sp_length n r hr _ _ _ hs; simp; omega
        · by_cases h92 : c = 92
          · subst h92
            match r with
            | [] => rw [sp_q_last] at hs; cases hs
            | d :: r' =>
              rw [sp_q_back] at hs
              have := sp_length n r' (by simp at h; omega) _ _ _ hs; simp; omega
          · rw [sp_q_other _ _ h34 h92] at hs
            have := sp_length n r hr _ _ _ hs; simp; omega
theorem split_length {l : Bs} {ls : List Bs} (h : splitOf l = some ls) : ls.length ≤ l.length + 1 := sp_length _ l (Nat.le_refl _) _ _ _ h
end Go.Proofs.YtledjiikpajdaaaDoor.Tk
/-
  Header fields: plain functions on bytes and on lists of fields; what holds of them. No program, no condition.
-/
namespace Go.Proofs.YtledjiikpajdaaaDoor.Fd
open Tk

/-- Where the first colon stands; the length, if there is none. -/
def colIdx : Bs → Nat
  | [] => 0
  | c :: r => if c = 58 then 0 else colIdx r + 1
theorem colIdx_le (l : Bs) : colIdx l ≤ l.length := by
  induction l with
  | nil => exact Nat.le_refl _
  | cons c r ih => unfold colIdx; split <;> simp; omega
theorem colIdx_at (l : Bs) (h : colIdx l < l.length) : l[colIdx l] = 58 := by
  induction l with
  | nil => simp at h
  | cons c r ih =>
    unfold colIdx at h ⊢
    by_cases hc : c = 58
    · simp [hc]
    · simp only [hc, if_false] at h ⊢
      simp only [List.length_cons] at h
      exact ih (by omega)
theorem colIdx_before (l : Bs) (j : Nat) (hj : j < colIdx l) : l[j]'(by have := colIdx_le l; omega) ≠ 58 := by
  induction l generalizing j with
  | nil => simp [colIdx] at hj
  | cons c r ih =>
    by_cases hc : c = 58
    · simp [colIdx, hc] at hj
    · cases j with
      | zero => simpa using hc
      | succ j =>
        simp only [colIdx, hc, if_false] at hj
        simpa using ih j (by omega)
/-- A place ahead of which there is no colon, and which has one, or is the end. -/
theorem colIdx_is (l : Bs) (k : Nat) (hk : k ≤ l.length) (h1 : ∀ j (hj : j < k), l[j]'(by omega) ≠ 58) (h2 : ∀ h : k < l.length, l[k] = 58) : colIdx l = k := by
  rcases Nat.lt_trichotomy (colIdx l) k with h | h | h
  · exact absurd (colIdx_at l (by omega)) (h1 _ h)
  · exact h
  · have := colIdx_le l
    exact absurd (h2 (by omega)) (colIdx_before l k h)
theorem indexByte_eq (l : Bs) : Lib.indexByte l 58 = if colIdx l < l.length then (colIdx l : Int) else -1 := by
  induction l with
  | nil => simp [Lib.indexByte, colIdx]
  | cons c r ih =>
    unfold Lib.indexByte colIdx
    by_cases hc : c = 58
    · simp [hc]
    · have hc' : (c == 58) = false := by simpa using hc
      simp only [hc', hc, if_false, ih, List.length_cons, Bool.false_eq_true]
      by_cases h : colIdx r < r.length
      · have h2 : colIdx r + 1 < r.length + 1 := by omega
        have h3 : (((colIdx r : Nat) : Int) == -1) = false := beq_eq_false_iff_ne.2 (by omega)
        simp only [h, h2, if_true, h3, Bool.false_eq_true, if_false]; omega
      · have h2 : ¬ colIdx r + 1 < r.length + 1 := by omega
        simp [h, h2]


/-! Lists of fields. -/
/-- A field: its name, its value. -/
abbrev Fl := ByteArray × ByteArray
/-- Are two texts alike but for the size of letters? -/
def alike (a b : Bs) : Bool := lower a == lower b
/-- Has a field this name? -/
def has (nm : Bs) (f : Fl) : Bool := alike f.1.data.toList nm
/-- The fields without those of a name. -/
def del (fs : List Fl) (nm : Bs) : List Fl := fs.filter fun f => !has nm f
/-- The values of a name. -/
def sel (fs : List Fl) (nm : Bs) : List Bs := (fs.filter (has nm)).map fun f => f.2.data.toList
/-- Texts with a comma and a byte 32 between. -/
def joinC : List Bs → Bs
  | [] => []
  | [x] => x
  | x :: y :: r => x ++ [44, 32] ++ joinC (y :: r)
def getT (fs : List Fl) (nm : Bs) : Bs := joinC (sel fs nm)
def getN (fs : List Fl) (nm : Bs) : Nat := (sel fs nm).length
/-- How many fields, and how many bytes in them. -/
def tot (fs : List Fl) : Nat := (fs.map fun f => f.1.size + f.2.size + 1).sum
/-- The fields that have none of these names. -/
def without (fs : List Fl) (ns : List Bs) : List Fl := fs.filter fun f => !ns.any fun n => has n f

theorem joinC_snoc (xs : List Bs) (y : Bs) : joinC (xs ++ [y]) = if xs = [] then y else joinC xs ++ [44, 32] ++ y := by
  induction xs with
  | nil => simp [joinC]
  | cons x r ih =>
    cases r with
    | nil => simp [joinC]
    | cons z r =>
      have h : joinC (x :: z :: r ++ [y]) = x ++ [44, 32] ++ joinC (z :: r ++ [y]) := by simp [joinC]
      rw [h, ih]
      simp [joinC]
theorem joinC_length (xs : List Bs) : (joinC xs).length ≤ (xs.map fun x => x.length + 2).sum := by
  induction xs with
  | nil => simp [joinC]
  | cons x r ih =>
    cases r with
    | nil => simp [joinC]
    | cons z r =>
      have h : joinC (x :: z :: r) = x ++ [44, 32] ++ joinC (z :: r) := by simp [joinC]
      rw [h, List.map_cons, List.sum_cons]
      simp only [List.length_append, List.length_cons, List.length_nil] at ih ⊢
      omega

theorem take_next {α : Type} (l : List α) (k : Nat) (h : k < l.length) : l.take (k + 1) = l.take k ++ [l[k]] := by
  rw [List.take_succ_eq_append_getElem h]
theorem tot_cons (f : Fl) (r : List Fl) : tot (f :: r) = (f.1.size + f.2.size + 1) + tot r := by simp [tot]
theorem tot_append (a b : List Fl) : tot (a ++ b) = tot a + tot b := by simp [tot]
theorem tot_len (fs : List Fl) : fs.length ≤ tot fs := by
  induction fs with
  | nil => simp
  | cons f r ih => rw [tot_cons, List.length_cons]; omega
theorem tot_at (fs : List Fl) (k : Nat) (h : k < fs.length) : fs[k].1.size + fs[k].2.size + 1 ≤ tot fs := by
  induction fs generalizing k with
  | nil => simp at h
  | cons f r ih =>
    rw [tot_cons]
    cases k with
    | zero => simp only [List.getElem_cons_zero]; omega
    | succ k => have := ih k (by simpa using h); simp only [List.getElem_cons_succ]; omega
theorem tot_take (fs : List Fl) (k : Nat) : tot (fs.take k) ≤ tot fs := by
  have := tot_append (fs.take k) (fs.drop k)
  rw [List.take_append_drop] at this; omega
theorem tot_filter (p : Fl → Bool) (fs : List Fl) : tot (fs.filter p) ≤ tot fs := by
  induction fs with
  | nil => simp
  | cons f r ih =>
    rw [List.filter_cons, tot_cons]
    split
    · rw [tot_cons]; omega
    · omega
theorem sel_sum (fs : List Fl) (nm : Bs) : ((sel fs nm).map fun x => x.length + 2).sum ≤ 2 * tot fs := by
  unfold sel
  induction fs with
  | nil => simp
  | cons f r ih =>
    rw [List.filter_cons, tot_cons]
    have e : f.2.data.toList.length = f.2.size := by simp
    split
    · simp only [List.map_cons, List.sum_cons]; omega
    · omega
theorem getT_length (fs : List Fl) (nm : Bs) : (getT fs nm).length ≤ 2 * tot fs := Nat.le_trans (joinC_length _) (sel_sum fs nm)

theorem filter_next {α : Type} (p : α → Bool) (l : List α) (k : Nat) (h : k < l.length) : (l.take (k + 1)).filter p = (l.take k).filter p ++ if p l[k] then [l[k]] else [] := by
  rw [take_next l k h, List.filter_append]; congr 1; by_cases hp : p l[k] <;> simp [hp]
theorem sel_next_yes (fs : List Fl) (nm : Bs) (k : Nat) (h : k < fs.length) (hp : has nm fs[k] = true) : sel (fs.take (k + 1)) nm = sel (fs.take k) nm ++ [fs[k].2.data.toList] := by
  unfold sel; rw [filter_next _ _ _ h, if_pos hp]; simp
theorem sel_next_no (fs : List Fl) (nm : Bs) (k : Nat) (h : k < fs.length) (hp : has nm fs[k] = false) : sel (fs.take (k + 1)) nm = sel (fs.take k) nm := by
  unfold sel; rw [filter_next _ _ _ h, hp]; simp
theorem getT_next_first (fs : List Fl) (nm : Bs) (k : Nat) (h : k < fs.length) (hp : has nm fs[k] = true) (h0 : getN (fs.take k) nm = 0) : getT (fs.take (k + 1)) nm = fs[k].2.data.toList := by
  unfold getT; rw [sel_next_yes fs nm k h hp, joinC_snoc, if_pos (List.length_eq_zero_iff.1 h0)]
theorem getT_next_more (fs : List Fl) (nm : Bs) (k : Nat) (h : k < fs.length) (hp : has nm fs[k] = true) (h0 : getN (fs.take k) nm ≠ 0) : getT (fs.take (k + 1)) nm = getT (fs.take k) nm ++ [44, 32] ++ fs[k].2.data.toList := by
  unfold getT; rw [sel_next_yes fs nm k h hp, joinC_snoc, if_neg (fun e => h0 (by unfold getN; rw [e]; rfl))]
theorem getN_next_yes (fs : List Fl) (nm : Bs) (k : Nat) (h : k < fs.length) (hp : has nm fs[k] = true) : getN (fs.take (k + 1)) nm = getN (fs.take k) nm + 1 := by
  unfold getN; rw [sel_next_yes fs nm k h hp]; simp
theorem get_next_no (fs : List Fl) (nm : Bs) (k : Nat) (h : k < fs.length) (hp : has nm fs[k] = false) : getT (fs.take (k + 1)) nm = getT (fs.take k) nm ∧ getN (fs.take (k + 1)) nm = getN (fs.take k) nm := by
  unfold getT getN; rw [sel_next_no fs nm k h hp]; exact ⟨rfl, rfl⟩
theorem getT_zero (fs : List Fl) (nm : Bs) : getT (fs.take 0) nm = [] ∧ getN (fs.take 0) nm = 0 := by simp [getT, getN, sel, joinC]
theorem getN_le (fs : List Fl) (nm : Bs) : getN fs nm ≤ fs.length := by unfold getN sel; simp [List.length_filter_le]
end Go.Proofs.YtledjiikpajdaaaDoor.Fd
/-
  Slices of fields as the model has them. No condition.
-/
namespace Go.Proofs.YtledjiikpajdaaaDoor.Fd
open Go.RowKit Tk
set_option linter.unusedVariables false

/-- The fields' cells lie from off on. -/
def FAt (w : World) (b off : Nat) (fs : List Fl) : Prop := ∀ j (hj : j < fs.length), w.cell? ⟨b, off + j * 2, none⟩ = some (.string fs[j].1) ∧ w.cell? ⟨b, off + j * 2 + 1, none⟩ = some (.string fs[j].2)
/-- A slice value that reads as these fields. -/
def Flds (w : World) (v : Value) (fs : List Fl) : Prop :=
  (fs = [] ∧ ∃ a cap, v = .slice a 0 cap) ∨ ∃ b off cap, v = .slice (some ⟨b, off, none⟩) fs.length cap ∧ b < w.heap.size ∧ FAt w b off fs
theorem Flds.below {B : Nat} {w w' : World} {v : Value} {fs : List Fl} (h : Flds w v fs) (hb : Below B w w') (hB : w.heap.size ≤ B) : Flds w' v fs := by
  rcases h with h | ⟨b, off, cap, hv, hlt, hc⟩
  · exact .inl h
  · refine .inr ⟨b, off, cap, hv, Nat.lt_of_lt_of_le hlt hb.size, fun j hj => ?_⟩
    rw [hb.cell (p := ⟨b, off + j * 2, none⟩) (by show b < B; omega), hb.cell (p := ⟨b, off + j * 2 + 1, none⟩) (by show b < B; omega)]
    exact hc j hj
theorem Flds.shape {w : World} {v : Value} {fs : List Fl} (h : Flds w v fs) : ∃ a cap, v = .slice a fs.length cap := by
  rcases h with ⟨rfl, a, cap, hv⟩ | ⟨b, off, cap, hv, _⟩
  · exact ⟨a, cap, hv⟩
  · exact ⟨_, cap, hv⟩
theorem FAt.drewN {w : World} {b off : Nat} {fs : List Fl} (h : FAt w b off fs) (n : Nat) : FAt (w.drewN n) b off fs := h

theorem flds_one {w : World} {g : Nat} {a b : ByteArray} (h : w.heap[g]? = some (.cells #[.string a, .string b] 35 (0, 0))) : Flds w (.slice (some ⟨g, 0, none⟩) 1 1) [(a, b)] := by
  refine .inr ⟨_, 0, 1, rfl, block_lt h, fun j hj => ?_⟩
  have : j = 0 := by simpa using hj
  subst this
  exact ⟨two0 h, two1 h⟩
end Go.Proofs.YtledjiikpajdaaaDoor.Fd
