/-
  Texts that the laws' proofs stand on, 3 of them in one file; each one's head says what it proves and under which condition.
-/
import Derived.Test.YtjbdgndejbiikaaDoorSgAP7
import Derived.Test.YtjbdgndejbiikaaDoorRows
import Derived.WalkKit
import Derived.WalkLawsBesides
import Derived.Outline
import Derived.Lib.Hide
import Derived.Test.YtjbdgndejbiikaaDoorSgAP2
import Derived.Lib.Bytealg
/-
  Elements that are joined are split as they were; a text that is quoted is, as a pair's value, the text. Plain functions; no program, no condition.
-/
namespace Go.Proofs.YtjbdgndejbiikaaDoor.Tk

/-- A text that is passed as it is, outside of quoted texts: no comma of it cuts. -/
def Pass (e : Bs) : Prop := ∀ own rest, sp false own (e ++ rest) = sp false (own ++ e) rest
theorem Pass.nil : Pass [] := fun own rest => by simp
theorem Pass.append {a b : Bs} (ha : Pass a) (hb : Pass b) : Pass (a ++ b) := fun own rest => by
  rw [List.append_assoc, ha, hb, List.append_assoc]
theorem Pass.byte {c : UInt8} (h1 : c ≠ 44) (h2 : c ≠ 34) : Pass [c] := fun own rest => by
  rw [List.singleton_append, sp_other _ _ h1 h2]
theorem Pass.all : ∀ (e : Bs), (∀ c ∈ e, c ≠ 44 ∧ c ≠ 34) → Pass e
  | [], _ => Pass.nil
  | c :: e, h => by
    have h1 := h c (by simp)
    exact Pass.append (a := [c]) (Pass.byte h1.1 h1.2) (Pass.all e fun d hd => h d (by simp [hd]))
theorem tchar_pass {c : UInt8} (h : tchar c = true) : c ≠ 44 ∧ c ≠ 34 ∧ blank c = false ∧ c ≠ 61 := by
  have hh : ∀ n : Nat, n < 256 → tchar (UInt8.ofNat n) = true → UInt8.ofNat n ≠ 44 ∧ UInt8.ofNat n ≠ 34 ∧ blank (UInt8.ofNat n) = false ∧ UInt8.ofNat n ≠ 61 := by decide +kernel
  have := hh c.toNat c.toNat_lt
  rw [UInt8.ofNat_toNat] at this
  exact this h
theorem isTok_all {e : Bs} (h : isTok e = true) : ∀ c ∈ e, tchar c = true := by
  simp only [isTok, Bool.and_eq_true, List.all_eq_true] at h; exact h.2
theorem isTok_ne {e : Bs} (h : isTok e = true) : e ≠ [] := by
  intro e0; subst e0; simp [isTok] at h
theorem isTok_pass {e : Bs} (h : isTok e = true) : Pass e := Pass.all e fun c hc => ⟨(tchar_pass (isTok_all h c hc)).1, (tchar_pass (isTok_all h c hc)).2.1⟩

/-- A quoted text is as long as it says. -/
theorem qe_unq : ∀ (n : Nat) (u : Bs), u.length ≤ n → ∀ v, unqGo u = some v → ∀ rest, qe (u ++ rest) = some u.length
  | 0, u, h, v, hv, rest => by
    have : u = [] := List.length_eq_zero_iff.1 (by omega)
    subst this; rw [unqGo_nil] at hv; cases hv
  | n + 1, u, h, v, hv, rest => by
    match u with
    | [] => rw [unqGo_nil] at hv; cases hv
    | c :: r =>
      by_cases h1 : c = 34
      · subst h1
        by_cases hr : r = []
        · subst hr; rw [List.singleton_append, qe_end]; rfl
        · rw [unqGo_early r hr] at hv; cases hv
      · by_cases h2 : c = 92
        · subst h2
          match r with
          | [] => rw [unqGo_back1] at hv; cases hv
          | d :: r' =>
            cases hd : textByte d with
            | false => rw [unqGo_backno d r' hd] at hv; cases hv
            | true =>
              rw [unqGo_back d r' hd, Option.map_eq_some_iff] at hv
              obtain ⟨x, hx, _⟩ := hv
              have := qe_unq n r' (by simp at h; omega) x hx rest
              rw [List.cons_append, List.cons_append, qe_back]
              simp [this]
        · cases hc : textByte c with
          | false => rw [unqGo_otherno c r h1 h2 hc] at hv; cases hv
          | true =>
            rw [unqGo_other c r h1 h2 hc, Option.map_eq_some_iff] at hv
            obtain ⟨x, hx, _⟩ := hv
            have := qe_unq n r (by simp at h; omega) x hx rest
            rw [List.cons_append, qe_other _ h1 h2, this]; simp
theorem quoted_pass {u v : Bs} (h : unqGo u = some v) : Pass (34 :: u) := fun own rest => by
  rw [List.cons_append, sp_open, sp_quote', qe_unq _ u (Nat.le_refl _) v h rest]
  simp
theorem unq_shape {q v : Bs} (h : unq q = some v) : ∃ u, q = 34 :: u ∧ unqGo u = some v := by
  match q with
  | [] => cases h
  | c :: r =>
    unfold unq at h
    by_cases hc : c = 34
    · subst hc; simp at h; exact ⟨r, rfl, h⟩
    · simp [hc] at h

/-- An element: it is passed, is not empty, and has no blank at its ends. -/
structure Solid (e : Bs) : Prop where
  pass : Pass e
  first : ∃ c t, e = c :: t ∧ blank c = false
  last : ∃ i c, e = i ++ [c] ∧ blank c = false
theorem Solid.ne {e : Bs} (h : Solid e) : e ≠ [] := by obtain ⟨c, t, rfl, _⟩ := h.first; simp
theorem tok_first {e : Bs} (h : isTok e = true) : ∃ c t, e = c :: t ∧ blank c = false := by
  match e, isTok_ne h with
  | c :: t, _ => exact ⟨c, t, rfl, (tchar_pass (isTok_all h c (by simp))).2.2.1⟩
theorem tok_last {e : Bs} (h : isTok e = true) : ∃ i c, e = i ++ [c] ∧ blank c = false := by
  rcases snoc_cases e with h0 | ⟨i, c, rfl⟩
  · exact absurd h0 (isTok_ne h)
  · exact ⟨i, c, rfl, (tchar_pass (isTok_all h c (by simp))).2.2.1⟩
theorem take_split (l : Bs) (h : eqIdx l ≠ l.length) : l = l.take (eqIdx l) ++ ([61] ++ l.drop (eqIdx l + 1)) := by
  have hlt : eqIdx l < l.length := by have := eqIdx_le l; omega
  have h1 : l.drop (eqIdx l) = 61 :: l.drop (eqIdx l + 1) := by rw [drop_at l _ hlt, eqIdx_at l hlt]
  conv => lhs; rw [← List.take_append_drop (eqIdx l) l, h1]
  rfl
theorem pair_solid {l : Bs} (h : pairOf l ≠ none) : Solid l := by
  unfold pairOf at h
  by_cases h1 : isTok (l.take (eqIdx l)) = false
  · rw [if_pos h1] at h; exact absurd rfl h
  · have ht : isTok (l.take (eqIdx l)) = true := by simpa using h1
    rw [if_neg h1] at h
    by_cases hk : eqIdx l = l.length
    · rw [hk, List.take_length] at ht
      exact ⟨isTok_pass ht, tok_first ht, tok_last ht⟩
    · rw [if_neg hk] at h
      have hs := take_split l hk
      have p61 : Pass [61] := Pass.byte (by decide) (by decide)
      clear hk h1
      generalize l.take (eqIdx l) = a at *
      generalize l.drop (eqIdx l + 1) = b at *
      subst hs
      obtain ⟨c, t, hc, hcb⟩ := tok_first ht
      have hfirst : ∃ c t, a ++ ([61] ++ b) = c :: t ∧ blank c = false := ⟨c, t ++ ([61] ++ b), by rw [hc]; rfl, hcb⟩
      by_cases h2 : isTok b = true
      · obtain ⟨i, d, hd, hdb⟩ := tok_last h2
        exact ⟨(isTok_pass ht).append (p61.append (isTok_pass h2)), hfirst, a ++ ([61] ++ i), d, by rw [hd]; simp, hdb⟩
      · rw [if_neg h2] at h
        cases hu : unq b with
        | none => rw [hu] at h; exact absurd rfl h
        | some v =>
          obtain ⟨u, hq, hv⟩ := unq_shape hu
          obtain ⟨i, hi⟩ := unqGo_end _ u (Nat.le_refl _) v hv
          refine ⟨?_, hfirst, a ++ ([61] ++ (34 :: i)), 34, by rw [hq, hi]; simp, rfl⟩
          rw [hq]; exact (isTok_pass ht).append (p61.append (quoted_pass hv))

theorem trim_solid {e : Bs} (h : Solid e) : trim e = e := by
  obtain ⟨c, t, he, hc⟩ := h.first
  obtain ⟨i, d, he2, hd⟩ := h.last
  unfold trim
  have h1 : ltrim e = e := by rw [he, ltrim_cons_other t hc]
  rw [h1]
  conv => lhs; rw [he2, rtrim_snoc_other i hd]
  exact he2.symm
/-- A blank, a comma and a blank. -/
def sep : Bs := [32, 44, 9]
/-- Elements, joined. -/
def joinL : List Bs → Bs
  | [] => []
  | e :: r => e ++ r.flatMap fun x => sep ++ x
theorem put_solid {e : Bs} (h : Solid e) (r : List Bs) : put e r = e :: r := by
  unfold put; rw [trim_solid h, if_neg h.ne]
theorem put_tab {e : Bs} (h : Solid e) (r : List Bs) : put (9 :: e) r = e :: r := by
  unfold put; rw [trim_cons_blank e rfl, trim_solid h, if_neg h.ne]
theorem put_space (own : Bs) (r : List Bs) : put (own ++ [32]) r = put own r := by
  unfold put; rw [trim_snoc_blank own rfl]
theorem sp_joined : ∀ (r : List Bs), (∀ e ∈ r, Solid e) → ∀ own, sp false own (r.flatMap fun x => sep ++ x) = some (put own r)
  | [], _, own => by simp [sp_nil]
  | e :: r, h, own => by
    have he := h e (by simp)
    have ih := sp_joined r (fun x hx => h x (by simp [hx])) ([9] ++ e)
    rw [List.flatMap_cons]
    show sp false own (32 :: 44 :: 9 :: (e ++ r.flatMap fun x => sep ++ x)) = _
    rw [sp_other _ _ (by decide) (by decide), sp_comma, sp_other _ _ (by decide) (by decide), he.pass]
    rw [show ([] ++ [9] ++ e : Bs) = [9] ++ e from rfl, ih]
    rw [Option.map_some, put_space]
    rw [show ([9] ++ e : Bs) = 9 :: e from rfl, put_tab he]
theorem split_joined (ls : List Bs) (h : ∀ e ∈ ls, Solid e) : splitOf (joinL ls) = some ls := by
  match ls with
  | [] => unfold splitOf joinL; rw [sp_nil]; rfl
  | e :: r =>
    have he := h e (by simp)
    unfold splitOf joinL
    rw [he.pass, List.nil_append, sp_joined r (fun x hx => h x (by simp [hx])), put_solid he]
theorem join_first (e : Bs) : joinL ([] ++ [e]) = e := by simp [joinL]
theorem join_next {ls : List Bs} (h : ls ≠ []) (e : Bs) : joinL (ls ++ [e]) = joinL ls ++ sep ++ e := by
  match ls, h with
  | a :: r, _ => simp [joinL, List.flatMap_append]
theorem join_ne {ls : List Bs} (h : ∀ e ∈ ls, Solid e) (hl : ls ≠ []) : joinL ls ≠ [] := by
  match ls, hl with
  | e :: r, _ =>
    have := (h e (by simp)).ne
    unfold joinL; intro e0; rw [List.append_eq_nil_iff] at e0; exact this e0.1

/-! Quoting. -/
theorem unqGo_esc : ∀ (l : Bs), l.all textByte = true → unqGo (l.flatMap esc ++ [34]) = some l
  | [], _ => by rw [List.flatMap_nil, List.nil_append, unqGo_last]
  | c :: l, h => by
    simp only [List.all_cons, Bool.and_eq_true] at h
    have ih := unqGo_esc l h.2
    rw [List.flatMap_cons]
    by_cases hc : c = 34 ∨ c = 92
    · rw [show esc c = [92, c] from by unfold esc; rw [if_pos hc]]
      show unqGo (92 :: c :: (l.flatMap esc ++ [34])) = _
      rw [unqGo_back c _ h.1, ih]; rfl
    · rw [show esc c = [c] from by unfold esc; rw [if_neg hc]]
      show unqGo (c :: (l.flatMap esc ++ [34])) = _
      rw [unqGo_other c _ (fun e => hc (.inl e)) (fun e => hc (.inr e)) h.1, ih]; rfl
theorem quote_shape {l q : Bs} (h : quoteOf l = some q) : ∃ u, q = 34 :: u ∧ unqGo u = some l := by
  unfold quoteOf at h
  by_cases ha : l.all textByte = true
  · rw [if_pos ha] at h; injection h with h
    exact ⟨_, h.symm, unqGo_esc l ha⟩
  · rw [if_neg ha] at h; cases h
theorem quote_notTok {q u : Bs} (h : q = 34 :: u) : isTok q = false := by
  subst h; unfold isTok; simp; intro hh; exact absurd hh (by decide)
theorem pair_of_quote {l q : Bs} (h : quoteOf l = some q) : pairOf ([120, 61] ++ q) = some ([120], some l) := by
  obtain ⟨u, hq, hu⟩ := quote_shape h
  have hi : eqIdx ([120, 61] ++ q) = 1 := by simp [eqIdx]
  have hun : unq q = some l := by rw [hq]; unfold unq; simp [hu]
  unfold pairOf
  rw [hi]
  have e1 : (([120, 61] ++ q : Bs)).take 1 = [120] := rfl
  have e2 : (([120, 61] ++ q : Bs)).drop (1 + 1) = q := rfl
  rw [e1, e2, if_neg (by decide), if_neg (by simp), if_neg (by rw [quote_notTok hq]; simp), hun]; rfl
theorem quote_last {l q : Bs} (h : quoteOf l = some q) : ∃ i, q = i ++ [34] := by
  obtain ⟨u, hq, hu⟩ := quote_shape h
  obtain ⟨i, hi⟩ := unqGo_end _ u (Nat.le_refl _) l hu
  exact ⟨34 :: i, by rw [hq, hi]; rfl⟩
theorem quote_solid {l q : Bs} (h : quoteOf l = some q) : Solid ([120, 61] ++ q) :=
  pair_solid (by rw [pair_of_quote h]; simp)
/-- A list with a quoted text between. -/
theorem split_quote {l q : Bs} (h : quoteOf l = some q) : splitOf ([121, 44, 32, 120, 61] ++ q ++ [44, 32, 122]) = some [[121], [120, 61] ++ q, [122]] := by
  have hs := quote_solid h
  unfold splitOf
  show sp false [] (121 :: 44 :: 32 :: (([120, 61] ++ q) ++ [44, 32, 122])) = _
  rw [sp_other _ _ (by decide) (by decide), sp_comma, sp_other _ _ (by decide) (by decide), hs.pass]
  show Option.map _ (sp false ([32] ++ ([120, 61] ++ q)) (44 :: 32 :: 122 :: [])) = _
  rw [sp_comma, sp_other _ _ (by decide) (by decide), sp_other _ _ (by decide) (by decide), sp_nil]
  have e3 : put (([] : Bs) ++ [32] ++ [122]) [] = [[122]] := by decide
  have e2 : put ([32] ++ ([120, 61] ++ q)) [[122]] = [[120, 61] ++ q, [122]] := by
    unfold put; rw [show ([32] ++ ([120, 61] ++ q) : Bs) = 32 :: ([120, 61] ++ q) from rfl, trim_cons_blank _ rfl, trim_solid hs, if_neg hs.ne]
  have e1 : put (([] : Bs) ++ [121]) [[120, 61] ++ q, [122]] = [[121], [120, 61] ++ q, [122]] := rfl
  rw [e3, Option.map_some, e2, Option.map_some, e1]
theorem quote_length {l q : Bs} (h : quoteOf l = some q) : q.length ≤ 2 * l.length + 2 := by
  unfold quoteOf at h
  split at h
  · injection h with h; subst h
    have := esc_length l
    simp only [List.length_cons, List.length_append, List.length_nil]; omega
  · cases h
end Go.Proofs.YtjbdgndejbiikaaDoor.Tk
/-
  token.appendDigit, token.Number and gatepostref01.Number: what each returns, for every text and every bound.
  Conditions: none beyond the lengths that a string can have.
-/
-- cut by strips.py
namespace Go.Proofs.YtjbdgndejbiikaaDoor.Num
open Go.RowKit

/-- A digit's byte. -/
def dg (c : UInt8) : Bool := 48 ≤ c.toNat && c.toNat ≤ 57
/-- One digit more, at most 'most'. -/
def step (most n d : Int) : Int := if most < n * 10 + d then most else n * 10 + d
def num (most n : Int) (l : List UInt8) : Int := l.foldl (fun n c => step most n ((c.toNat : Int) - 48)) n

theorem step_bd (most n d : Int) (hm : 0 ≤ most) (hn : 0 ≤ n) (hd : 0 ≤ d) : 0 ≤ step most n d ∧ step most n d ≤ most := by
  unfold step; split <;> omega
theorem dg_bd {c : UInt8} (h : dg c = true) : 48 ≤ (c.toNat : Int) ∧ (c.toNat : Int) ≤ 57 := by
  simp [dg] at h; omega
theorem num_bd (most : Int) (hm : 0 ≤ most) (l : List UInt8) : ∀ (n : Int), 0 ≤ n → n ≤ most → l.all dg = true → 0 ≤ num most n l ∧ num most n l ≤ most := by
  induction l with
  | nil => intro n h0 h1 _; exact ⟨h0, h1⟩
  | cons c l ih =>
    intro n h0 h1 ha
    simp only [List.all_cons, Bool.and_eq_true] at ha
    have hb := dg_bd ha.1
    have hs := step_bd most n ((c.toNat : Int) - 48) hm h0 (by omega)
    exact ih _ hs.1 hs.2 ha.2
theorem num_stay (most : Int) (hm : 0 ≤ most) (l : List UInt8) : l.all dg = true → num most most l = most := by
  induction l with
  | nil => intro _; rfl
  | cons c l ih =>
    intro ha
    simp only [List.all_cons, Bool.and_eq_true] at ha
    have hb := dg_bd ha.1
    have hs : step most most ((c.toNat : Int) - 48) = most := by unfold step; split <;> omega
    show num most (step most most ((c.toNat : Int) - 48)) l = most
    rw [hs]; exact ih ha.2
theorem num_snoc (most n : Int) (l : List UInt8) (c : UInt8) : num most n (l ++ [c]) = step most (num most n l) ((c.toNat : Int) - 48) := by
  simp [num, List.foldl_append]
theorem num_append (most n : Int) (l k : List UInt8) : num most n (l ++ k) = num most (num most n l) k := by
  simp [num, List.foldl_append]
theorem take_snoc (s : ByteArray) (k : Nat) (h : k < s.size) : s.data.toList.take (k + 1) = s.data.toList.take k ++ [s[k]] := by
  rw [List.take_succ_eq_append_getElem (by simpa using h)]; rfl
theorem all_snoc (s : ByteArray) (k : Nat) (h : k < s.size) : (s.data.toList.take (k + 1)).all dg = ((s.data.toList.take k).all dg && dg s[k]) := by
  rw [take_snoc s k h, List.all_append]; simp
theorem all_take (l : List UInt8) (k : Nat) (h : l.all dg = true) : (l.take k).all dg = true := by
  rw [List.all_eq_true] at h ⊢
  intro x hx; exact h x (List.mem_of_mem_take hx)
theorem not_all (s : ByteArray) (k : Nat) (h : k < s.size) (hd : dg s[k] = false) : s.data.toList.all dg = false := by
  rw [List.all_eq_false]
  exact ⟨s[k], by show s.data[k] ∈ _; simp, by simp [hd]⟩

/-- What Number answers. -/
def numOf (s : ByteArray) (most : Int) : Int × Bool := if s.size = 0 ∨ most < 0 ∨ s.data.toList.all dg = false then (0, false) else (num most 0 s.data.toList, true)

set_option maxHeartbeats 400000 in
theorem digit_any (n d most : Int) (w : World) (h0 : 0 ≤ n) (h1 : n ≤ most) (h2 : 0 ≤ d) (h3 : d ≤ 9) (h4 : most ≤ 9223372036854775807) :
    Calls Tryd.prog 56 #[.int .i64 n, .int .i64 d, .int .i64 most] w fun e w' => e = .returned (.int .i64 (step most n d)) ∧ w = w' := by
  by_cases ha : most / 10 < n
  · have HS := Lib.hid (show step most n d = most from by unfold step; rw [if_pos (by omega)])
    go_enter Tryd.func56, Tryd.ntmps56
    go_wp2
    go_ret
    exact ⟨by rw [HS.out]; rfl, rfl⟩
  · by_cases hb : most - n * 10 < d
    · have HS := Lib.hid (show step most n d = most from by unfold step; rw [if_pos (by omega)])
      go_enter Tryd.func56, Tryd.ntmps56
      go_wp2
      go_ret
      exact ⟨by rw [HS.out]; rfl, rfl⟩
    · have HS := Lib.hid (show step most n d = n * 10 + d from by unfold step; rw [if_neg (by omega)])
      go_enter Tryd.func56, Tryd.ntmps56
      go_wp2
      go_ret
      exact ⟨by rw [HS.out]; rfl, rfl⟩

theorem numOf_none {s : ByteArray} {most : Int} (h : s.size = 0 ∨ most < 0 ∨ s.data.toList.all dg = false) : numOf s most = (0, false) := by
  unfold numOf; rw [if_pos h]
theorem numOf_some {s : ByteArray} {most : Int} (h0 : 0 < s.size) (hm : 0 ≤ most) (h : s.data.toList.all dg = true) : numOf s most = (num most 0 s.data.toList, true) := by
  unfold numOf; rw [if_neg (by rw [h]; intro hh; rcases hh with hh | hh | hh <;> first | omega | simp at hh)]
/-- Two results as the walk leaves them. -/
theorem ret2 {a b : Int} {x y : Bool} {p : Int × Bool} (h : p = (b, y)) (h1 : a = b) (h2 : x = y) : Ending.returned (.tuple #[.int .i64 a, .bool x]) = .returned (.tuple #[.int .i64 p.1, .bool p.2]) := by
  rw [h, h1, h2]
theorem empty_of {s : ByteArray} (h : s.size = 0) : s.toList = [] := by
  rw [ByteArray.toList_eq, ← List.length_eq_zero_iff]; simpa using h
theorem full_of {s : ByteArray} (h : 0 < s.size) : s.toList.isEmpty = false := by
  rw [ByteArray.toList_eq]
  cases hl : s.data.toList with
  | nil => have h1 : s.data.toList.length = 0 := by rw [hl]; rfl
           rw [Array.length_toList] at h1
           have h2 : s.size = s.data.size := rfl
           omega
  | cons => rfl
theorem all_of_take {s : ByteArray} (h : (s.data.toList.take s.size).all dg = true) : s.data.toList.all dg = true := by
  rwa [List.take_of_length_le (by simp)] at h
theorem num_of_take (s : ByteArray) (most : Int) : num most 0 (s.data.toList.take s.size) = num most 0 s.data.toList := by
  rw [List.take_of_length_le (by simp)]

set_option maxHeartbeats 1000000 in
theorem number_any (s : ByteArray) (most : Int) (w : World) (hs : s.size ≤ maxLen) (h4 : most ≤ 9223372036854775807) :
    Calls Tryd.prog 42 #[.string s, .int .i64 most] w fun e w' => e = .returned (.tuple #[.int .i64 (numOf s most).1, .bool (numOf s most).2]) ∧ w = w' := by
  unfold maxLen at hs
  by_cases hz : s.size = 0
  · have HN := Lib.hid (numOf_none (most := most) (.inl hz))
    have he := empty_of hz
    clear hz
    go_enter Tryd.func42, Tryd.ntmps42
    go_wp2
    go_ret2
    exact ⟨ret2 HN.out rfl rfl, rfl⟩
  · have he := full_of (s := s) (by omega)
    by_cases hm : most < 0
    · have HN := Lib.hid (numOf_none (s := s) (.inr (.inl hm)))
      go_enter Tryd.func42, Tryd.ntmps42
      go_wp2
      go_ret2
      exact ⟨ret2 HN.out rfl rfl, rfl⟩
    · have hm' : 0 ≤ most := by omega
      go_enter Tryd.func42, Tryd.ntmps42
      go_wp2
      go_loop [6, 16] (fun n i => ∃ k : Nat, k ≤ s.size ∧ i = .int .i64 k ∧ (s.data.toList.take k).all dg = true ∧ n = .int .i64 (num most 0 (s.data.toList.take k))) (fun _ i => s.size - (intOf i).toNat)
      case atStart => exact ⟨0, Nat.zero_le _, rfl, rfl, rfl⟩
      case round =>
        obtain ⟨k, hk, rfl, hal, rfl⟩ := hrel
        have hb := num_bd most hm' (s.data.toList.take k) 0 (by omega) hm' hal
        have HAL := Lib.hid hal
        clear hal
        by_cases hlt : k < s.size
        · by_cases hd : dg s[k] = true
          · have hc := dg_bd hd
            have HS := Lib.hid (show num most 0 (s.data.toList.take (k + 1)) = step most (num most 0 (s.data.toList.take k)) ((s[k].toNat : Int) - 48) from by rw [take_snoc s k hlt, num_snoc])
            have HA := Lib.hid (show (s.data.toList.take (k + 1)).all dg = true from by rw [all_snoc s k hlt, HAL.out, hd]; rfl)
            clear hd
            go_wp2_with (go_at_call 56; refine (digit_any _ _ _ _ (by omega) (by omega) (by omega) (by omega) (by omega)).mono ?_; rintro e w' ⟨rfl, rfl⟩)
            go_round
            case rel => exact ⟨k + 1, by omega, by go_num, HA.out, by rw [HS.out]⟩
            case measure => simp [intOf]; omega
          · have HN := Lib.hid (numOf_none (s := s) (most := most) (.inr (.inr (not_all s k hlt (by simpa using hd)))))
            have hc : (s[k].toNat : Int) < 48 ∨ 57 < (s[k].toNat : Int) := by
              simp [dg] at hd; omega
            clear hd
            rcases hc with hc | hc
            all_goals
              go_wp2
              go_ret2
              exact ⟨ret2 HN.out rfl rfl, rfl⟩
        · obtain rfl : k = s.size := by omega
          have HN := Lib.hid (numOf_some (by omega) hm' (all_of_take HAL.out))
          go_wp2
          go_ret2
          exact ⟨ret2 HN.out (num_of_take _ _) rfl, rfl⟩

theorem early (s : ByteArray) (most : Int) (k : Nat) (hk : k < s.size) (hm : 0 ≤ most) (ha : s.data.toList.all dg = true) (hs : most < num most 0 (s.data.toList.take k) * 10 + ((s[k].toNat : Int) - 48)) :
    num most 0 s.data.toList = most := by
  have h1 : num most 0 (s.data.toList.take (k + 1)) = most := by
    rw [take_snoc s k hk, num_snoc]; unfold step; rw [if_pos hs]
  have h2 : num most 0 s.data.toList = num most 0 (s.data.toList.take (k + 1) ++ s.data.toList.drop (k + 1)) := by rw [List.take_append_drop]
  rw [h2, num_append, h1]
  refine num_stay most hm _ ?_
  rw [List.all_eq_true] at ha ⊢
  intro x hx; exact ha x (List.mem_of_mem_drop hx)
theorem get_dg (s : ByteArray) (k : Nat) (hk : k < s.size) (ha : s.data.toList.all dg = true) : dg s[k] = true := by
  rw [List.all_eq_true] at ha
  exact ha _ (by show s.data[k] ∈ _; simp)

end Go.Proofs.YtjbdgndejbiikaaDoor.Num
/-
  Header fields: plain functions on bytes and on lists of fields; what holds of them. No program, no condition.
-/
namespace Go.Proofs.YtjbdgndejbiikaaDoor.Fd
open Tk

/-- Where the first colon stands; the length, if there is none. -/
def colIdx : Bs → Nat
  | [] => 0
  | c :: r => if c = 58 then 0 else colIdx r + 1
theorem colIdx_le (l : Bs) : colIdx l ≤ l.length := by
  induction l with
  | nil => exact Nat.le_refl _
  | cons c r ih => unfold colIdx; split <;> simp; omega
theorem colIdx_at (l : Bs) (h : colIdx l < l.length) : l[colIdx l] = 58 := by
  induction l with
  | nil => simp at h
  | cons c r ih =>
    unfold colIdx at h ⊢
    by_cases hc : c = 58
    · simp [hc]
    · simp only [hc, if_false] at h ⊢
      simp only [List.length_cons] at h
      exact ih (by omega)
theorem colIdx_before (l : Bs) (j : Nat) (hj : j < colIdx l) : l[j]'(by have := colIdx_le l; omega) ≠ 58 := by
  induction l generalizing j with
  | nil => simp [colIdx] at hj
  | cons c r ih =>
    by_cases hc : c = 58
    · simp [colIdx, hc] at hj
    · cases j with
      | zero => simpa using hc
      | succ j =>
        simp only [colIdx, hc, if_false] at hj
        simpa using ih j (by omega)
/-- A place ahead of which there is no colon, and which has one, or is the end. -/
theorem colIdx_is (l : Bs) (k : Nat) (hk : k ≤ l.length) (h1 : ∀ j (hj : j < k), l[j]'(by omega) ≠ 58) (h2 : ∀ h : k < l.length, l[k] = 58) : colIdx l = k := by
  rcases Nat.lt_trichotomy (colIdx l) k with h | h | h
  · exact absurd (colIdx_at l (by omega)) (h1 _ h)
  · exact h
  · have := colIdx_le l
    exact absurd (h2 (by omega)) (colIdx_before l k h)
theorem indexByte_eq (l : Bs) : Lib.indexByte l 58 = if colIdx l < l.length then (colIdx l : Int) else -1 := by
  induction l with
  | nil => simp [Lib.indexByte, colIdx]
  | cons c r ih =>
    unfold Lib.indexByte colIdx
    by_cases hc : c = 58
    · simp [hc]
    · have hc' : (c == 58) = false := by simpa using hc
      simp only [hc', hc, if_false, ih, List.length_cons, Bool.false_eq_true]
      by_cases h : colIdx r < r.length
      · have h2 : colIdx r + 1 < r.length + 1 := by omega
        have h3 : (((colIdx r : Nat) : Int) == -1) = false := beq_eq_false_iff_ne.2 (by omega)
        simp only [h, h2, if_true, h3, Bool.false_eq_true, if_false]; omega
      · have h2 : ¬ colIdx r + 1 < r.length + 1 := by omega
        simp [h, h2]


/-! Lists of fields. -/
/-- A field: its name, its value. -/
abbrev Fl := ByteArray × ByteArray
/-- Are two texts alike but for the size of letters? -/
def alike (a b : Bs) : Bool := lower a == lower b
/-- Has a field this name? -/
def has (nm : Bs) (f : Fl) : Bool := alike f.1.data.toList nm
/-- The fields without those of a name. -/
def del (fs : List Fl) (nm : Bs) : List Fl := fs.filter fun f => !has nm f
/-- The values of a name. -/
def sel (fs : List Fl) (nm : Bs) : List Bs := (fs.filter (has nm)).map fun f => f.2.data.toList
/-- Texts with a comma and a byte 32 between. -/
def joinC : List Bs → Bs
  | [] => []
  | [x] => x
  | x :: y :: r => x ++ [44, 32] ++ joinC (y :: r)
def getT (fs : List Fl) (nm : Bs) : Bs := joinC (sel fs nm)
def getN (fs : List Fl) (nm : Bs) : Nat := (sel fs nm).length
/-- How many fields, and how many bytes in them. -/
def tot (fs : List Fl) : Nat := (fs.map fun f => f.1.size + f.2.size + 1).sum
/-- The fields that have none of these names. -/
def without (fs : List Fl) (ns : List Bs) : List Fl := fs.filter fun f => !ns.any fun n => has n f

theorem joinC_snoc (xs : List Bs) (y : Bs) : joinC (xs ++ [y]) = if xs = [] then y else joinC xs ++ [44, 32] ++ y := by
  induction xs with
  | nil => simp [joinC]
  | cons x r ih =>
    cases r with
    | nil => simp [joinC]
    | cons z r =>
      have h : joinC (x :: z :: r ++ [y]) = x ++ [44, 32] ++ joinC (z :: r ++ [y]) := by simp [joinC]
      rw [h, ih]
      simp [joinC]
theorem joinC_length (xs : List Bs) : (joinC xs).length ≤ (xs.map fun x => x.length + 2).sum := by
  induction xs with
  | nil => simp [joinC]
  | cons x r ih =>
    cases r with
    | nil => simp [joinC]
    | cons z r =>
      have h : joinC (x :: z :: r) = x ++ [44, 32] ++ joinC (z :: r) := by simp [joinC]
      rw [h, List.map_cons, List.sum_cons]
      simp only [List.length_append, List.length_cons, List.length_nil] at ih ⊢
      omega

theorem take_next {α : Type} (l : List α) (k : Nat) (h : k < l.length) : l.take (k + 1) = l.take k ++ [l[k]] := by
  rw [List.take_succ_eq_append_getElem h]
theorem tot_cons (f : Fl) (r : List Fl) : tot (f :: r) = (f.1.size + f.2.size + 1) + tot r := by simp [tot]
theorem tot_append (a b : List Fl) : tot (a ++ b) = tot a + tot b := by simp [tot]
theorem tot_len (fs : List Fl) : fs.length ≤ tot fs := by
  induction fs with
  | nil => simp
  | cons f r ih => rw [tot_cons, List.length_cons]; omega
theorem tot_at (fs : List Fl) (k : Nat) (h : k < fs.length) : fs[k].1.size + fs[k].2.size + 1 ≤ tot fs := by
  induction fs generalizing k with
  | nil => simp at h
  | cons f r ih =>
    rw [tot_cons]
    cases k with
    | zero => simp only [List.getElem_cons_zero]; omega
    | succ k => have := ih k (by simpa using h); simp only [List.getElem_cons_succ]; omega
theorem tot_take (fs : List Fl) (k : Nat) : tot (fs.take k) ≤ tot fs := by
  have := tot_append (fs.take k) (fs.drop k)
  rw [List.take_append_drop] at this; omega
theorem tot_filter (p : Fl → Bool) (fs : List Fl) : tot (fs.filter p) ≤ tot fs := by
  induction fs with
  | nil => simp
  | cons f r ih =>
    rw [List.filter_cons, tot_cons]
    split
    · rw [tot_cons]; omega
    · omega
theorem sel_sum (fs : List Fl) (nm : Bs) : ((sel fs nm).map fun x => x.length + 2).sum ≤ 2 * tot fs := by
  unfold sel
  induction fs with
  | nil => simp
  | cons f r ih =>
    rw [List.filter_cons, tot_cons]
    have e : f.2.data.toList.length = f.2.size := by simp
    split
    · simp only [List.map_cons, List.sum_cons]; omega
    · omega
theorem getT_length (fs : List Fl) (nm : Bs) : (getT fs nm).length ≤ 2 * tot fs := Nat.le_trans (joinC_length _) (sel_sum fs nm)

theorem filter_next {α : Type} (p : α → Bool) (l : List α) (k : Nat) (h : k < l.length) : (l.take (k + 1)).filter p = (l.take k).filter p ++ if p l[k] then [l[k]] else [] := by
  rw [take_next l k h, List.filter_append]; congr 1; by_cases hp : p l[k] <;> simp [hp]
theorem sel_next_yes (fs : List Fl) (nm : Bs) (k : Nat) (h : k < fs.length) (hp : has nm fs[k] = true) : sel (fs.take (k + 1)) nm = sel (fs.take k) nm ++ [fs[k].2.data.toList] := by
  unfold sel; rw [filter_next _ _ _ h, if_pos hp]; simp
theorem sel_next_no (fs : List Fl) (nm : Bs) (k : Nat) (h : k < fs.length) (hp : has nm fs[k] = false) : sel (fs.take (k + 1)) nm = sel (fs.take k) nm := by
  unfold sel; rw [filter_next _ _ _ h, hp]; simp
theorem getT_next_first (fs : List Fl) (nm : Bs) (k : Nat) (h : k < fs.length) (hp : has nm fs[k] = true) (h0 : getN (fs.take k) nm = 0) : getT (fs.take (k + 1)) nm = fs[k].2.data.toList := by
  unfold getT; rw [sel_next_yes fs nm k h hp, joinC_snoc, if_pos (List.length_eq_zero_iff.1 h0)]
theorem getT_next_more (fs : List Fl) (nm : Bs) (k : Nat) (h : k < fs.length) (hp : has nm fs[k] = true) (h0 : getN (fs.take k) nm ≠ 0) : getT (fs.take (k + 1)) nm = getT (fs.take k) nm ++ [44, 32] ++ fs[k].2.data.toList := by
  unfold getT; rw [sel_next_yes fs nm k h hp, joinC_snoc, if_neg (fun e => h0 (by unfold getN; rw [e]; rfl))]
theorem getN_next_yes (fs : List Fl) (nm : Bs) (k : Nat) (h : k < fs.length) (hp : has nm fs[k] = true) : getN (fs.take (k + 1)) nm = getN (fs.take k) nm + 1 := by
  unfold getN; rw [sel_next_yes fs nm k h hp]; simp
theorem get_next_no (fs : List Fl) (nm : Bs) (k : Nat) (h : k < fs.length) (hp : has nm fs[k] = false) : getT (fs.take (k + 1)) nm = getT (fs.take k) nm ∧ getN (fs.take (k + 1)) nm = getN (fs.take k) nm := by
  unfold getT getN; rw [sel_next_no fs nm k h hp]; exact ⟨rfl, rfl⟩
theorem getT_zero (fs : List Fl) (nm : Bs) : getT (fs.take 0) nm = [] ∧ getN (fs.take 0) nm = 0 := by simp [getT, getN, sel, joinC]
theorem getN_le (fs : List Fl) (nm : Bs) : getN fs nm ≤ fs.length := by unfold getN sel; simp [List.length_filter_le]
end Go.Proofs.YtjbdgndejbiikaaDoor.Fd
