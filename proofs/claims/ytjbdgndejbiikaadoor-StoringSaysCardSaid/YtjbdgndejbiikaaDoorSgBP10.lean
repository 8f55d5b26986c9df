/-
  Texts that the laws' proofs stand on, 3 of them in one file; each one's head says what it proves and under which condition.
-/
import Derived.Test.YtjbdgndejbiikaaDoorSgBP4
import Derived.Test.YtjbdgndejbiikaaDoorSgBP9
import Derived.Test.YtjbdgndejbiikaaDoorSgBP8
/-
  What a Cache-Control text says, as plain functions on bytes. No program, no condition.
-/
namespace Go.Proofs.YtjbdgndejbiikaaDoor.Ct
open Go.Proofs.YtjbdgndejbiikaaDoor.Tk Go.Proofs.YtjbdgndejbiikaaDoor.Fd
set_option linter.unusedVariables false

/-- A quoted text does not end. -/
def Con.broken : Con := ⟨true, true, false, false, false, false, false, -1, -1, -1, -1, -1, -1⟩
def nst : Bs := [110, 111, 45, 115, 116, 111, 114, 101]
def nca : Bs := [110, 111, 45, 99, 97, 99, 104, 101]
def pri : Bs := [112, 114, 105, 118, 97, 116, 101]
def pub : Bs := [112, 117, 98, 108, 105, 99]
def mus : Bs := [109, 117, 115, 116, 45, 114, 101, 118, 97, 108, 105, 100, 97, 116, 101]
def pro : Bs := [112, 114, 111, 120, 121, 45, 114, 101, 118, 97, 108, 105, 100, 97, 116, 101]
def onl : Bs := [111, 110, 108, 121, 45, 105, 102, 45, 99, 97, 99, 104, 101, 100]
def age : Bs := [109, 97, 120, 45, 97, 103, 101]
def sma : Bs := [115, 45, 109, 97, 120, 97, 103, 101]
def swr : Bs := [115, 116, 97, 108, 101, 45, 119, 104, 105, 108, 101, 45, 114, 101, 118, 97, 108, 105, 100, 97, 116, 101]
def sie : Bs := [115, 116, 97, 108, 101, 45, 105, 102, 45, 101, 114, 114, 111, 114]
def mif : Bs := [109, 105, 110, 45, 102, 114, 101, 115, 104]
def mst : Bs := [109, 97, 120, 45, 115, 116, 97, 108, 101]
def most : Int := 2147483648
/-- The less of two numbers of which the second is said. -/
def least (a b : Int) : Int := if a < 0 ∨ b < a then b else a
/-- A value's number, if it is one. -/
def numB (v : Bs) : Option Int := if (Num.numOf ⟨v.toArray⟩ most).2 then some (Num.numOf ⟨v.toArray⟩ most).1 else none
def numV (v : Option Bs) : Option Int := v.bind numB
def upd (a : Int) : Option Int → Int
  | none => a
  | some n => least a n
def stale (v : Option Bs) : Option Int := match v with | none => some most | some x => numB x
/-- What a directive of this name (in small letters) with this value makes of it. -/
def act (c : Con) (nm : Bs) (v : Option Bs) : Con :=
  if nm = nst then { c with ns := true }
  else if nm = nca then { c with nc := true }
  else if nm = pri then { c with pr := true }
  else if nm = pub then { c with pu := true }
  else if nm = mus then { c with mu := true }
  else if nm = pro then { c with px := true }
  else if nm = onl then { c with oc := true }
  else if nm = age then { c with ag := least c.ag ((numV v).getD 0) }
  else if nm = sma then { c with sh := least c.sh ((numV v).getD 0) }
  else if nm = swr then { c with wh := upd c.wh (numV v) }
  else if nm = sie then { c with ie := upd c.ie (numV v) }
  else if nm = mif then { c with mf := upd c.mf (numV v) }
  else if nm = mst then { c with ms := upd c.ms (stale v) }
  else c
def elem (c : Con) (x : Bs) : Con := match pairOf x with | none => c | some (a, v) => act c (lower a) v
def parseOf (l : Bs) : Con × Bool := match splitOf l with | none => (.broken, false) | some ls => (ls.foldl elem .zero, true)
def ccL : Bs := [99, 97, 99, 104, 101, 45, 99, 111, 110, 116, 114, 111, 108]
def prL : Bs := [112, 114, 97, 103, 109, 97]
/-- What fields say. -/
def ofOf (fs : List Fl) : Con :=
  if 0 < getN fs ccL then (parseOf (getT fs ccL)).1
  else match splitOf (lower (getT fs prL)) with
    | none => .zero
    | some ls => if ls.any (· == nca) then { Con.zero with nc := true } else .zero

/-! Two together. -/
/-- The less of two numbers, if both are said; else the one that is. -/
def less (a b : Int) : Int := if a < 0 ∨ (0 ≤ b ∧ b < a) then b else a
def both (a b : Con) : Con := ⟨a.ns || b.ns, a.nc || b.nc, a.pr || b.pr, a.pu || b.pu, a.mu || b.mu, a.px || b.px, a.oc || b.oc, less a.ag b.ag, less a.sh b.sh, less a.wh b.wh, less a.ie b.ie, less a.mf b.mf, less a.ms b.ms⟩
theorem less_least {a b n : Int} (ha : -1 ≤ a) (hb : -1 ≤ b) (hn : 0 ≤ n) : least (less a b) n = less a (least b n) := by
  unfold least less
  repeat' split <;> omega
theorem less_start {a : Int} (ha : -1 ≤ a) : less a (-1) = a := by unfold less; split <;> omega
theorem less_comm {a b : Int} (ha : -1 ≤ a) (hb : -1 ≤ b) : less a b = less b a := by unfold less; repeat' split <;> omega
/-- No number is below -1. -/
structure Fine (c : Con) : Prop where
  ag : -1 ≤ c.ag
  sh : -1 ≤ c.sh
  wh : -1 ≤ c.wh
  ie : -1 ≤ c.ie
  mf : -1 ≤ c.mf
  ms : -1 ≤ c.ms
theorem fine_zero : Fine .zero := by constructor <;> decide
theorem numB_bd {v : Bs} {n : Int} (h : numB v = some n) : 0 ≤ n ∧ n ≤ most := by
  unfold numB at h
  split at h
  · rename_i h2
    injection h with h
    unfold Num.numOf at h h2
    split at h
    · rename_i h3; rw [if_pos h3] at h2; cases h2
    · rename_i h3
      have h4 : (⟨v.toArray⟩ : ByteArray).data.toList.all Num.dg = true := by
        rcases Bool.eq_false_or_eq_true ((⟨v.toArray⟩ : ByteArray).data.toList.all Num.dg) with h5 | h5
        · exact h5
        · exact (h3 (.inr (.inr h5))).elim
      have := Num.num_bd most (by decide) _ 0 (by decide) (by decide) h4
      have e : Num.num most 0 (⟨v.toArray⟩ : ByteArray).data.toList = n := h
      rw [e] at this
      exact this
  · cases h
theorem numV_bd {v : Option Bs} {n : Int} (h : numV v = some n) : 0 ≤ n ∧ n ≤ most := by
  cases v with
  | none => cases h
  | some x => exact numB_bd h
theorem stale_bd {v : Option Bs} {n : Int} (h : stale v = some n) : 0 ≤ n ∧ n ≤ most := by
  cases v with
  | none => injection h with h; subst h; decide
  | some x => exact numB_bd h
theorem getD_bd (v : Option Bs) : 0 ≤ (numV v).getD 0 ∧ (numV v).getD 0 ≤ most := by
  cases h : numV v with
  | none => exact ⟨by decide, by decide⟩
  | some n => exact numV_bd h
theorem least_bd {a n : Int} (ha : -1 ≤ a) (hn : 0 ≤ n) : -1 ≤ least a n := by unfold least; split <;> omega
theorem upd_bd {a : Int} {o : Option Int} (ha : -1 ≤ a) (ho : ∀ n, o = some n → 0 ≤ n) : -1 ≤ upd a o := by
  cases o with
  | none => exact ha
  | some n => exact least_bd ha (ho n rfl)
theorem upd_less {a b : Int} {o : Option Int} (ha : -1 ≤ a) (hb : -1 ≤ b) (ho : ∀ n, o = some n → 0 ≤ n) : upd (less a b) o = less a (upd b o) := by
  cases o with
  | none => rfl
  | some n => exact less_least ha hb (ho n rfl)
theorem fine_act {c : Con} (h : Fine c) (nm : Bs) (v : Option Bs) : Fine (act c nm v) := by
  unfold act
  by_cases e0 : nm = nst
  · rw [if_pos e0]
    exact ⟨h.ag, h.sh, h.wh, h.ie, h.mf, h.ms⟩
  rw [if_neg e0]
  by_cases e1 : nm = nca
  · rw [if_pos e1]
    exact ⟨h.ag, h.sh, h.wh, h.ie, h.mf, h.ms⟩
  rw [if_neg e1]
  by_cases e2 : nm = pri
  · rw [if_pos e2]
    exact ⟨h.ag, h.sh, h.wh, h.ie, h.mf, h.ms⟩
  rw [if_neg e2]
  by_cases e3 : nm = pub
  · rw [if_pos e3]
    exact ⟨h.ag, h.sh, h.wh, h.ie, h.mf, h.ms⟩
  rw [if_neg e3]
  by_cases e4 : nm = mus
  · rw [if_pos e4]
    exact ⟨h.ag, h.sh, h.wh, h.ie, h.mf, h.ms⟩
  rw [if_neg e4]
  by_cases e5 : nm = pro
  · rw [if_pos e5]
    exact ⟨h.ag, h.sh, h.wh, h.ie, h.mf, h.ms⟩
  rw [if_neg e5]
  by_cases e6 : nm = onl
  · rw [if_pos e6]
    exact ⟨h.ag, h.sh, h.wh, h.ie, h.mf, h.ms⟩
  rw [if_neg e6]
  by_cases e7 : nm = age
  · rw [if_pos e7]
    exact ⟨least_bd h.ag (getD_bd v).1, h.sh, h.wh, h.ie, h.mf, h.ms⟩
  rw [if_neg e7]
  by_cases e8 : nm = sma
  · rw [if_pos e8]
    exact ⟨h.ag, least_bd h.sh (getD_bd v).1, h.wh, h.ie, h.mf, h.ms⟩
  rw [if_neg e8]
  by_cases e9 : nm = swr
  · rw [if_pos e9]
    exact ⟨h.ag, h.sh, upd_bd h.wh (fun n hn => (numV_bd hn).1), h.ie, h.mf, h.ms⟩
  rw [if_neg e9]
  by_cases e10 : nm = sie
  · rw [if_pos e10]
    exact ⟨h.ag, h.sh, h.wh, upd_bd h.ie (fun n hn => (numV_bd hn).1), h.mf, h.ms⟩
  rw [if_neg e10]
  by_cases e11 : nm = mif
  · rw [if_pos e11]
    exact ⟨h.ag, h.sh, h.wh, h.ie, upd_bd h.mf (fun n hn => (numV_bd hn).1), h.ms⟩
  rw [if_neg e11]
  by_cases e12 : nm = mst
  · rw [if_pos e12]
    exact ⟨h.ag, h.sh, h.wh, h.ie, h.mf, upd_bd h.ms (fun n hn => (stale_bd hn).1)⟩
  rw [if_neg e12]
  exact h
theorem fine_elem {c : Con} (h : Fine c) (x : Bs) : Fine (elem c x) := by
  unfold elem
  split
  · exact h
  · exact fine_act h _ _
theorem fine_all (ls : List Bs) {c : Con} (h : Fine c) : Fine (ls.foldl elem c) := by
  induction ls generalizing c with
  | nil => exact h
  | cons x r ih => exact ih (fine_elem h x)
theorem fine_broken : Fine .broken := by constructor <;> decide
theorem fine_parse (l : Bs) : Fine (parseOf l).1 := by
  unfold parseOf
  split
  · exact fine_broken
  · exact fine_all _ fine_zero
theorem act_both {a b : Con} (ha : Fine a) (hb : Fine b) (nm : Bs) (v : Option Bs) : act (both a b) nm v = both a (act b nm v) := by
  unfold act
  by_cases e0 : nm = nst
  · rw [if_pos e0, if_pos e0]
    simp [both]
  rw [if_neg e0, if_neg e0]
  by_cases e1 : nm = nca
  · rw [if_pos e1, if_pos e1]
    simp [both]
  rw [if_neg e1, if_neg e1]
  by_cases e2 : nm = pri
  · rw [if_pos e2, if_pos e2]
    simp [both]
  rw [if_neg e2, if_neg e2]
  by_cases e3 : nm = pub
  · rw [if_pos e3, if_pos e3]
    simp [both]
  rw [if_neg e3, if_neg e3]
  by_cases e4 : nm = mus
  · rw [if_pos e4, if_pos e4]
    simp [both]
  rw [if_neg e4, if_neg e4]
  by_cases e5 : nm = pro
  · rw [if_pos e5, if_pos e5]
    simp [both]
  rw [if_neg e5, if_neg e5]
  by_cases e6 : nm = onl
  · rw [if_pos e6, if_pos e6]
    simp [both]
  rw [if_neg e6, if_neg e6]
  by_cases e7 : nm = age
  · rw [if_pos e7, if_pos e7]
    show ({ both a b with ag := _ } : Con) = both a { b with ag := _ }; unfold both; simp only [Con.mk.injEq, and_true, true_and]; exact less_least ha.ag hb.ag (getD_bd v).1
  rw [if_neg e7, if_neg e7]
  by_cases e8 : nm = sma
  · rw [if_pos e8, if_pos e8]
    show ({ both a b with sh := _ } : Con) = both a { b with sh := _ }; unfold both; simp only [Con.mk.injEq, and_true, true_and]; exact less_least ha.sh hb.sh (getD_bd v).1
  rw [if_neg e8, if_neg e8]
  by_cases e9 : nm = swr
  · rw [if_pos e9, if_pos e9]
    show ({ both a b with wh := _ } : Con) = both a { b with wh := _ }; unfold both; simp only [Con.mk.injEq, and_true, true_and]; exact upd_less ha.wh hb.wh (fun n hn => (numV_bd hn).1)
  rw [if_neg e9, if_neg e9]
  by_cases e10 : nm = sie
  · rw [if_pos e10, if_pos e10]
    show ({ both a b with ie := _ } : Con) = both a { b with ie := _ }; unfold both; simp only [Con.mk.injEq, and_true, true_and]; exact upd_less ha.ie hb.ie (fun n hn => (numV_bd hn).1)
  rw [if_neg e10, if_neg e10]
  by_cases e11 : nm = mif
  · rw [if_pos e11, if_pos e11]
    show ({ both a b with mf := _ } : Con) = both a { b with mf := _ }; unfold both; simp only [Con.mk.injEq, and_true, true_and]; exact upd_less ha.mf hb.mf (fun n hn => (numV_bd hn).1)
  rw [if_neg e11, if_neg e11]
  by_cases e12 : nm = mst
  · rw [if_pos e12, if_pos e12]
    show ({ both a b with ms := _ } : Con) = both a { b with ms := _ }; unfold both; simp only [Con.mk.injEq, true_and]; exact upd_less ha.ms hb.ms (fun n hn => (stale_bd hn).1)
  rw [if_neg e12, if_neg e12]
theorem elem_both {a b : Con} (ha : Fine a) (hb : Fine b) (x : Bs) : elem (both a b) x = both a (elem b x) := by
  unfold elem
  split
  · rfl
  · exact act_both ha hb _ _
theorem fold_both (ls : List Bs) {a b : Con} (ha : Fine a) (hb : Fine b) : ls.foldl elem (both a b) = both a (ls.foldl elem b) := by
  induction ls generalizing b with
  | nil => rfl
  | cons x r ih =>
    show r.foldl elem (elem (both a b) x) = both a (r.foldl elem (elem b x))
    rw [elem_both ha hb, ih (fine_elem hb x)]
theorem both_zero {a : Con} (ha : Fine a) : both a .zero = a := by
  obtain ⟨ns, nc, pr, pu, mu, px, oc, ag, sh, wh, ie, mf, ms⟩ := a
  unfold both Con.zero
  simp only [Bool.or_false, Con.mk.injEq, true_and]
  exact ⟨less_start ha.ag, less_start ha.sh, less_start ha.wh, less_start ha.ie, less_start ha.mf, less_start ha.ms⟩
theorem fold_two (la lb : List Bs) : (la ++ lb).foldl elem .zero = both (la.foldl elem .zero) (lb.foldl elem .zero) := by
  rw [List.foldl_append]
  have h := fold_both lb (fine_all la fine_zero) fine_zero
  rw [both_zero (fine_all la fine_zero)] at h
  exact h
theorem both_comm {a b : Con} (ha : Fine a) (hb : Fine b) : both a b = both b a := by
  unfold both
  simp only [Con.mk.injEq]
  exact ⟨Bool.or_comm _ _, Bool.or_comm _ _, Bool.or_comm _ _, Bool.or_comm _ _, Bool.or_comm _ _, Bool.or_comm _ _, Bool.or_comm _ _, less_comm ha.ag hb.ag, less_comm ha.sh hb.sh, less_comm ha.wh hb.wh, less_comm ha.ie hb.ie, less_comm ha.mf hb.mf, less_comm ha.ms hb.ms⟩
/-! A comma between two texts. -/
theorem put_rest (own : Bs) (r : List Bs) : put own r = put own [] ++ r := by unfold put; split <;> simp
theorem sp_two : ∀ (n : Nat) (l : Bs), l.length ≤ n → ∀ (q : Bool) (own : Bs) (ls : List Bs), sp q own l = some ls → ∀ r, sp q own (l ++ 44 :: r) = (sp false [] r).map (ls ++ ·)
  | 0, l, h, q, own, ls, hs, r => by
    obtain rfl : l = [] := List.length_eq_zero_iff.1 (by omega)
    cases q with
    | true => rw [sp_nil_q] at hs; cases hs
    | false =>
      rw [sp_nil] at hs
      injection hs with hs
      rw [List.nil_append, sp_comma, ← hs]
      cases sp false [] r with
      | none => rfl
      | some x => show some (put own x) = some (put own [] ++ x); rw [put_rest]
  | n + 1, l, h, q, own, ls, hs, r => by
    match l, h, hs with
    | [], h, hs => exact sp_two 0 [] (by simp) q own ls hs r
    | c :: t, h, hs =>
      have ht : t.length ≤ n := by simp at h; omega
      cases q with
      | false =>
        by_cases h1 : c = 44
        · subst h1
          rw [sp_comma, Option.map_eq_some_iff] at hs
          obtain ⟨x, hx, rfl⟩ := hs
          rw [List.cons_append, sp_comma, sp_two n t ht false [] x hx r, Option.map_map]
          congr 1
          funext y
          show put own (x ++ y) = put own x ++ y
          rw [put_rest own (x ++ y), put_rest own x, List.append_assoc]
        · by_cases h2 : c = 34
          · subst h2
            rw [sp_open] at hs
            rw [List.cons_append, sp_open]
            exact sp_two n t ht true _ ls hs r
          · rw [sp_other own t h1 h2] at hs
            rw [List.cons_append, sp_other own _ h1 h2]
            exact sp_two n t ht false _ ls hs r
      | true =>
        by_cases h1 : c = 92
        · subst h1
          match t, ht, hs with
          | [], ht, hs => rw [sp_q_last] at hs; cases hs
          | d :: t', ht, hs =>
            rw [sp_q_back] at hs
            rw [List.cons_append, List.cons_append, sp_q_back]
            exact sp_two n t' (by simp at ht; omega) true _ ls hs r
        · by_cases h2 : c = 34
          · subst h2
            rw [sp_q_close] at hs
            rw [List.cons_append, sp_q_close]
            exact sp_two n t ht false _ ls hs r
          · rw [sp_q_other own t h2 h1] at hs
            rw [List.cons_append, sp_q_other own _ h2 h1]
            exact sp_two n t ht true _ ls hs r
theorem split_two {a b : Bs} {la lb : List Bs} (ha : splitOf a = some la) (hb : splitOf b = some lb) : splitOf (a ++ 44 :: b) = some (la ++ lb) := by
  unfold splitOf at ha hb ⊢
  rw [sp_two _ a (Nat.le_refl _) false [] la ha b, hb]
  rfl
/-- A blank ahead of an element, and one behind it, do not count. -/
theorem put_blank (own : Bs) (r : List Bs) : put (32 :: own) r = put own r := by unfold put; rw [trim_cons_blank own (by decide)]
theorem sp_lead : ∀ (n : Nat) (l : Bs), l.length ≤ n → ∀ (q : Bool) (own : Bs), sp q (32 :: own) l = sp q own l
  | 0, l, h, q, own => by
    obtain rfl : l = [] := List.length_eq_zero_iff.1 (by omega)
    cases q with
    | true => rw [sp_nil_q, sp_nil_q]
    | false => rw [sp_nil, sp_nil, put_blank]
  | n + 1, l, h, q, own => by
    match l, h with
    | [], h => exact sp_lead 0 [] (by simp) q own
    | c :: t, h =>
      have ht : t.length ≤ n := by simp at h; omega
      cases q with
      | false =>
        by_cases h1 : c = 44
        · subst h1
          rw [sp_comma, sp_comma]
          congr 1
        · by_cases h2 : c = 34
          · subst h2
            rw [sp_open, sp_open, List.cons_append]
            exact sp_lead n t ht true _
          · rw [sp_other _ t h1 h2, sp_other _ t h1 h2, List.cons_append]
            exact sp_lead n t ht false _
      | true =>
        by_cases h1 : c = 92
        · subst h1
          match t, ht with
          | [], ht => rw [sp_q_last, sp_q_last]
          | d :: t', ht =>
            rw [sp_q_back, sp_q_back, List.cons_append]
            exact sp_lead n t' (by simp at ht; omega) true _
        · by_cases h2 : c = 34
          · subst h2
            rw [sp_q_close, sp_q_close, List.cons_append]
            exact sp_lead n t ht false _
          · rw [sp_q_other _ t h2 h1, sp_q_other _ t h2 h1, List.cons_append]
            exact sp_lead n t ht true _
theorem split_lead (l : Bs) : splitOf (32 :: l) = splitOf l := by
  unfold splitOf
  rw [sp_other [] l (by decide) (by decide)]
  exact sp_lead _ l (Nat.le_refl _) false []
/-- A blank behind a text does not count. -/
theorem sp_tail : ∀ (n : Nat) (l : Bs), l.length ≤ n → ∀ (q : Bool) (own : Bs) (ls : List Bs), sp q own l = some ls → sp q own (l ++ [32]) = some ls
  | 0, l, h, q, own, ls, hs => by
    obtain rfl : l = [] := List.length_eq_zero_iff.1 (by omega)
    cases q with
    | true => rw [sp_nil_q] at hs; cases hs
    | false =>
      rw [sp_nil] at hs
      rw [List.nil_append, sp_other own [] (by decide) (by decide), sp_nil, put_space]
      exact hs
  | n + 1, l, h, q, own, ls, hs => by
    match l, h, hs with
    | [], h, hs => exact sp_tail 0 [] (by simp) q own ls hs
    | c :: t, h, hs =>
      have ht : t.length ≤ n := by simp at h; omega
      cases q with
      | false =>
        by_cases h1 : c = 44
        · subst h1
          rw [sp_comma, Option.map_eq_some_iff] at hs
          obtain ⟨x, hx, rfl⟩ := hs
          rw [List.cons_append, sp_comma, sp_tail n t ht false [] x hx]
          rfl
        · by_cases h2 : c = 34
          · subst h2
            rw [sp_open] at hs
            rw [List.cons_append, sp_open]
            exact sp_tail n t ht true _ ls hs
          · rw [sp_other own t h1 h2] at hs
            rw [List.cons_append, sp_other own _ h1 h2]
            exact sp_tail n t ht false _ ls hs
      | true =>
        by_cases h1 : c = 92
        · subst h1
          match t, ht, hs with
          | [], ht, hs => rw [sp_q_last] at hs; cases hs
          | d :: t', ht, hs =>
            rw [sp_q_back] at hs
            rw [List.cons_append, List.cons_append, sp_q_back]
            exact sp_tail n t' (by simp at ht; omega) true _ ls hs
        · by_cases h2 : c = 34
          · subst h2
            rw [sp_q_close] at hs
            rw [List.cons_append, sp_q_close]
            exact sp_tail n t ht false _ ls hs
          · rw [sp_q_other own t h2 h1] at hs
            rw [List.cons_append, sp_q_other own _ h2 h1]
            exact sp_tail n t ht true _ ls hs
theorem split_wide {a b : Bs} {la lb : List Bs} (ha : splitOf a = some la) (hb : splitOf b = some lb) : splitOf (a ++ [32, 44, 32] ++ b) = some (la ++ lb) := by
  have h1 : splitOf (a ++ [32]) = some la := sp_tail _ a (Nat.le_refl _) false [] la ha
  have h2 := split_two h1 (b := 32 :: b) (lb := lb) (by rw [split_lead]; exact hb)
  have e : a ++ [32, 44, 32] ++ b = a ++ [32] ++ 44 :: (32 :: b) := by simp
  rw [e]
  exact h2
/-- What two texts say together. -/
theorem parse_two {a b : Bs} (ha : (parseOf a).2 = true) (hb : (parseOf b).2 = true) : parseOf (a ++ 44 :: b) = (both (parseOf a).1 (parseOf b).1, true) ∧ parseOf (b ++ [32, 44, 32] ++ a) = (both (parseOf a).1 (parseOf b).1, true) := by
  have fa := fine_parse a
  have fb := fine_parse b
  unfold parseOf at ha hb fa fb ⊢
  cases hsa : splitOf a with
  | none => rw [hsa] at ha; cases ha
  | some la =>
    cases hsb : splitOf b with
    | none => rw [hsb] at hb; cases hb
    | some lb =>
      rw [hsa] at fa
      rw [hsb] at fb
      rw [split_two hsa hsb, split_wide hsb hsa]
      refine ⟨?_, ?_⟩
      · show ((la ++ lb).foldl elem .zero, true) = (both (la.foldl elem .zero) (lb.foldl elem .zero), true)
        rw [fold_two]
      · show ((lb ++ la).foldl elem .zero, true) = (both (la.foldl elem .zero) (lb.foldl elem .zero), true)
        rw [fold_two, both_comm fb fa]
end Go.Proofs.YtjbdgndejbiikaaDoor.Ct
/-
  Numbers as decimal digits, and what Number reads of them: plain functions on bytes. No program, no condition.
-/
namespace Go.Proofs.YtjbdgndejbiikaaDoor.Ct
open Go.Proofs.YtjbdgndejbiikaaDoor.Tk
set_option linter.unusedVariables false
set_option linter.unusedSimpArgs false

/-! Decimal digits. -/
def decD (d : Nat) : UInt8 := UInt8.ofNat (48 + d)
def decL (n : Nat) : Bs := if h : n < 10 then [decD n] else decL (n / 10) ++ [decD (n % 10)]
termination_by n
decreasing_by omega
theorem decL_small {n : Nat} (h : n < 10) : decL n = [decD n] := by rw [decL, dif_pos h]
theorem decL_big {n : Nat} (h : ¬ n < 10) : decL n = decL (n / 10) ++ [decD (n % 10)] := by rw [decL, dif_neg h]
theorem decD_facts : ∀ d, d < 10 → (decD d).toNat = 48 + d ∧ tchar (decD d) = true ∧ Num.dg (decD d) = true ∧ textByte (decD d) = true ∧ decD d ≠ 34 ∧ decD d ≠ 92 := by decide
/-- The less of a number and the most that is told. -/
def capped (n : Nat) (m : Int) : Int := if m < (n : Int) then m else n
structure Dec (l : Bs) (n k : Nat) : Prop where
  tok : l.all tchar = true
  dig : l.all Num.dg = true
  txt : l.all textByte = true
  esc : l.flatMap esc = l
  pos : 0 < l.length
  len : l.length ≤ k + 1
  num : ∀ m : Int, 0 ≤ m → Num.num m 0 l = capped n m
theorem decL_all : ∀ (k n : Nat), n < 10 ^ (k + 1) → Dec (decL n) n k
  | k, n, h => by
    by_cases hn : n < 10
    · obtain ⟨h1, h2, h3, h4, h5, h6⟩ := decD_facts n hn
      rw [decL_small hn]
      refine ⟨by simp [h2], by simp [h3], by simp [h4], by simp [Tk.esc, h5, h6], by simp, by simp, fun m hm => ?_⟩
      show Num.step m 0 (((decD n).toNat : Int) - 48) = _
      rw [h1]; unfold Num.step capped
      repeat' split <;> omega
    · cases k with
      | zero => omega
      | succ k =>
        have hd : n / 10 < 10 ^ (k + 1) := by rw [Nat.div_lt_iff_lt_mul (by omega)]; rw [Nat.pow_succ] at h; omega
        have ih := decL_all k (n / 10) hd
        obtain ⟨h1, h2, h3, h4, h5, h6⟩ := decD_facts (n % 10) (Nat.mod_lt _ (by omega))
        rw [decL_big hn]
        refine ⟨by rw [List.all_append, ih.tok]; simp [h2], by rw [List.all_append, ih.dig]; simp [h3], by rw [List.all_append, ih.txt]; simp [h4], ?_, by simp, by have := ih.len; simp; omega, fun m hm => ?_⟩
        · rw [List.flatMap_append, ih.esc]; simp [Tk.esc, h5, h6]
        · rw [Num.num_snoc, ih.num m hm, h1]
          unfold Num.step capped
          repeat' split <;> omega
theorem dec_big (n : Nat) : n < 10 ^ (n + 1) := Nat.lt_of_lt_of_le (Nat.lt_pow_self (by decide)) (Nat.pow_le_pow_right (by decide) (Nat.le_succ n))
theorem dec_inj {a b : Nat} (h : decL a = decL b) : a = b := by
  have ha := (decL_all a a (dec_big a)).num ((a : Int) + b) (by omega)
  have hb := (decL_all b b (dec_big b)).num ((a : Int) + b) (by omega)
  rw [h, hb] at ha
  unfold capped at ha
  split at ha <;> split at ha <;> omega
theorem dec_no {n : Nat} : ∀ c ∈ decL n, c ≠ 58 ∧ c ≠ 45 ∧ c ≠ 47 ∧ c ≠ 44 ∧ c ≠ 34 ∧ c ≠ 42 := by
  intro c hc
  have hl := decL_all n n (dec_big n)
  have h := hl.dig
  rw [List.all_eq_true] at h
  have h1 := h c hc
  refine ⟨?_, ?_, ?_, ?_, ?_, ?_⟩ <;> (rintro rfl; revert h1; decide)
end Go.Proofs.YtjbdgndejbiikaaDoor.Ct
/-
  A number that a Cache-Control text tells twice, as digits and in quotes: plain functions on bytes. No program, no condition.
-/
namespace Go.Proofs.YtjbdgndejbiikaaDoor.Ct
open Go.Proofs.YtjbdgndejbiikaaDoor.Tk Go.Proofs.YtjbdgndejbiikaaDoor.Fd
set_option linter.unusedVariables false
set_option linter.unusedSimpArgs false

theorem numB_dec {n : Nat} (h : n < 10000000000) : numB (decL n) = some (capped n most) := by
  have hd := decL_all 9 n (by omega)
  unfold numB Num.numOf
  have hc : ¬ ((⟨(decL n).toArray⟩ : ByteArray).size = 0 ∨ most < 0 ∨ (⟨(decL n).toArray⟩ : ByteArray).data.toList.all Num.dg = false) := by
    intro h
    rcases h with h | h | h
    · have : (decL n).length = 0 := by simpa [ByteArray.size] using h
      have := hd.pos
      omega
    · exact absurd h (by decide)
    · have : (decL n).all Num.dg = false := h
      rw [hd.dig] at this; cases this
  rw [if_neg hc]
  show some (Num.num most 0 (decL n)) = _
  rw [hd.num most (by decide)]
/-! A name, = and a value. -/
theorem eqIdx_name (nm r : Bs) (h : ∀ c ∈ nm, c ≠ 61) : eqIdx (nm ++ 61 :: r) = nm.length := by
  induction nm with
  | nil => simp [eqIdx]
  | cons c t ih =>
    rw [List.cons_append, eqIdx, if_neg (h c (by simp)), ih (fun x hx => h x (by simp [hx]))]
    rfl
theorem tok_no {nm : Bs} (h : isTok nm = true) : ∀ c ∈ nm, c ≠ 61 := fun c hc => (tchar_pass (isTok_all h c hc)).2.2.2
theorem pair_plain {nm v : Bs} (h : isTok nm = true) (hv : isTok v = true) : pairOf (nm ++ 61 :: v) = some (nm, some v) := by
  unfold pairOf
  rw [eqIdx_name nm v (tok_no h)]
  have e1 : (nm ++ 61 :: v).take nm.length = nm := by simp
  have e2 : (nm ++ 61 :: v).drop (nm.length + 1) = v := by rw [← List.drop_drop]; simp
  rw [e1, e2, if_neg (by rw [h]; simp), if_neg (by simp), if_pos hv]
theorem pair_quoted {nm v : Bs} (h : isTok nm = true) (ht : v.all textByte = true) (he : v.flatMap esc = v) : pairOf (nm ++ 61 :: 34 :: (v ++ [34])) = some (nm, some v) := by
  have hq := unqGo_esc v ht
  rw [he] at hq
  have hn : isTok (34 :: (v ++ [34])) = false := quote_notTok rfl
  have hu : unq (34 :: (v ++ [34])) = some v := hq
  unfold pairOf
  rw [eqIdx_name nm _ (tok_no h)]
  have e1 : (nm ++ 61 :: 34 :: (v ++ [34])).take nm.length = nm := by simp
  have e2 : (nm ++ 61 :: 34 :: (v ++ [34])).drop (nm.length + 1) = 34 :: (v ++ [34]) := by rw [← List.drop_drop]; simp
  rw [e1, e2, if_neg (by rw [h]; simp), if_neg (by simp), if_neg (by rw [hn]; simp), hu]
  rfl
theorem dec_tok {n : Nat} (h : n < 10000000000) : isTok (decL n) = true := by
  have hd := decL_all 9 n (by omega)
  unfold isTok
  rw [hd.tok]
  cases hl : decL n with
  | nil => have := hd.pos; rw [hl] at this; simp at this
  | cons c r => rfl
theorem split_one {e : Bs} (h : Solid e) : splitOf e = some [e] := by
  have h1 := split_joined [e] (fun x hx => by simp at hx; subst hx; exact h)
  rw [show joinL [e] = e from by simpa using join_first e] at h1
  exact h1
def pubL : Bs := [32, 80, 117, 98, 108, 105, 99, 32]
theorem split_pub : splitOf pubL = some [[80, 117, 98, 108, 105, 99]] := by decide +kernel
theorem pair_pub : pairOf [80, 117, 98, 108, 105, 99] = some ([80, 117, 98, 108, 105, 99], none) := by decide +kernel
theorem split_three {x y : Bs} (hx : Solid x) (hy : Solid y) : splitOf (x ++ 44 :: (pubL ++ 44 :: y)) = some [x, [80, 117, 98, 108, 105, 99], y] := by
  have h := split_two (split_one hx) (split_two split_pub (split_one hy))
  exact h
/-- The six names, as they are written. -/
def nameK : Nat → Bs
  | 0 => [109, 97, 120, 45, 97, 103, 101]
  | 1 => [83, 45, 77, 65, 88, 65, 71, 69]
  | 2 => [115, 116, 97, 108, 101, 45, 119, 104, 105, 108, 101, 45, 114, 101, 118, 97, 108, 105, 100, 97, 116, 101]
  | 3 => [115, 116, 97, 108, 101, 45, 105, 102, 45, 101, 114, 114, 111, 114]
  | 4 => [109, 105, 110, 45, 102, 114, 101, 115, 104]
  | _ => [109, 97, 120, 45, 115, 116, 97, 108, 101]
/-- Where one number and public alone are said. -/
def conK : Nat → Int → Con
  | 0, n => { Con.zero with pu := true, ag := n }
  | 1, n => { Con.zero with pu := true, sh := n }
  | 2, n => { Con.zero with pu := true, wh := n }
  | 3, n => { Con.zero with pu := true, ie := n }
  | 4, n => { Con.zero with pu := true, mf := n }
  | _, n => { Con.zero with pu := true, ms := n }
theorem act_ns (c : Con) (v : Option Bs) : act c nst v = { c with ns := true } := by
  unfold act
  rw [if_pos rfl]
theorem act_nc (c : Con) (v : Option Bs) : act c nca v = { c with nc := true } := by
  unfold act
  rw [if_neg (by decide), if_pos rfl]
theorem act_pr (c : Con) (v : Option Bs) : act c pri v = { c with pr := true } := by
  unfold act
  rw [if_neg (by decide), if_neg (by decide), if_pos rfl]
theorem act_pub (c : Con) (v : Option Bs) : act c pub v = { c with pu := true } := by
  unfold act
  rw [if_neg (by decide), if_neg (by decide), if_neg (by decide), if_pos rfl]
theorem act_mu (c : Con) (v : Option Bs) : act c mus v = { c with mu := true } := by
  unfold act
  rw [if_neg (by decide), if_neg (by decide), if_neg (by decide), if_neg (by decide), if_pos rfl]
theorem act_px (c : Con) (v : Option Bs) : act c pro v = { c with px := true } := by
  unfold act
  rw [if_neg (by decide), if_neg (by decide), if_neg (by decide), if_neg (by decide), if_neg (by decide), if_pos rfl]
theorem act_oc (c : Con) (v : Option Bs) : act c onl v = { c with oc := true } := by
  unfold act
  rw [if_neg (by decide), if_neg (by decide), if_neg (by decide), if_neg (by decide), if_neg (by decide), if_neg (by decide), if_pos rfl]
theorem act_ag (c : Con) (v : Option Bs) : act c age v = { c with ag := least c.ag ((numV v).getD 0) } := by
  unfold act
  rw [if_neg (by decide), if_neg (by decide), if_neg (by decide), if_neg (by decide), if_neg (by decide), if_neg (by decide), if_neg (by decide), if_pos rfl]
theorem act_sh (c : Con) (v : Option Bs) : act c sma v = { c with sh := least c.sh ((numV v).getD 0) } := by
  unfold act
  rw [if_neg (by decide), if_neg (by decide), if_neg (by decide), if_neg (by decide), if_neg (by decide), if_neg (by decide), if_neg (by decide), if_neg (by decide), if_pos rfl]
theorem act_wh (c : Con) (v : Option Bs) : act c swr v = { c with wh := upd c.wh (numV v) } := by
  unfold act
  rw [if_neg (by decide), if_neg (by decide), if_neg (by decide), if_neg (by decide), if_neg (by decide), if_neg (by decide), if_neg (by decide), if_neg (by decide), if_neg (by decide), if_pos rfl]
theorem act_ie (c : Con) (v : Option Bs) : act c sie v = { c with ie := upd c.ie (numV v) } := by
  unfold act
  rw [if_neg (by decide), if_neg (by decide), if_neg (by decide), if_neg (by decide), if_neg (by decide), if_neg (by decide), if_neg (by decide), if_neg (by decide), if_neg (by decide), if_neg (by decide), if_pos rfl]
theorem act_mf (c : Con) (v : Option Bs) : act c mif v = { c with mf := upd c.mf (numV v) } := by
  unfold act
  rw [if_neg (by decide), if_neg (by decide), if_neg (by decide), if_neg (by decide), if_neg (by decide), if_neg (by decide), if_neg (by decide), if_neg (by decide), if_neg (by decide), if_neg (by decide), if_neg (by decide), if_pos rfl]
theorem act_ms (c : Con) (v : Option Bs) : act c mst v = { c with ms := upd c.ms (stale v) } := by
  unfold act
  rw [if_neg (by decide), if_neg (by decide), if_neg (by decide), if_neg (by decide), if_neg (by decide), if_neg (by decide), if_neg (by decide), if_neg (by decide), if_neg (by decide), if_neg (by decide), if_neg (by decide), if_neg (by decide), if_pos rfl]
theorem nameK_tok (k : Nat) (hk : k < 6) : isTok (nameK k) = true := by
  match k, hk with
  | 0, _ => exact (by decide +kernel : isTok (nameK 0) = true)
  | 1, _ => exact (by decide +kernel : isTok (nameK 1) = true)
  | 2, _ => exact (by decide +kernel : isTok (nameK 2) = true)
  | 3, _ => exact (by decide +kernel : isTok (nameK 3) = true)
  | 4, _ => exact (by decide +kernel : isTok (nameK 4) = true)
  | 5, _ => exact (by decide +kernel : isTok (nameK 5) = true)
theorem capped_bd (n : Nat) : 0 ≤ capped n most := by unfold capped most; split <;> omega
/-- The least of both and of the most. -/
def min3 (a b : Nat) : Int := least (capped a most) (capped b most)
theorem act_k (k : Nat) (hk : k < 6) (a b : Nat) (x y : Bs) (hx : numB x = some (capped a most)) (hy : numB y = some (capped b most)) :
    act (act (act .zero (lower (nameK k)) (some x)) (lower [80, 117, 98, 108, 105, 99]) none) (lower (nameK k)) (some y) = conK k (min3 a b) := by
  have h0 : least (-1) (capped a most) = capped a most := by unfold least; rw [if_pos (by omega)]
  have ep : lower [80, 117, 98, 108, 105, 99] = pub := by decide +kernel
  rw [ep]
  match k, hk with
  | 0, _ =>
    have en : lower (nameK 0) = age := by decide +kernel
    rw [en]
    show act (act (act .zero age (some x)) pub none) age (some y) = { Con.zero with pu := true, ag := min3 a b }
    rw [act_ag, act_pub, act_ag]
    simp only [numV, stale, Option.bind_some, hx, hy, Option.getD_some, upd, Con.zero, h0, min3]
  | 1, _ =>
    have en : lower (nameK 1) = sma := by decide +kernel
    rw [en]
    show act (act (act .zero sma (some x)) pub none) sma (some y) = { Con.zero with pu := true, sh := min3 a b }
    rw [act_sh, act_pub, act_sh]
    simp only [numV, stale, Option.bind_some, hx, hy, Option.getD_some, upd, Con.zero, h0, min3]
  | 2, _ =>
    have en : lower (nameK 2) = swr := by decide +kernel
    rw [en]
    show act (act (act .zero swr (some x)) pub none) swr (some y) = { Con.zero with pu := true, wh := min3 a b }
    rw [act_wh, act_pub, act_wh]
    simp only [numV, stale, Option.bind_some, hx, hy, Option.getD_some, upd, Con.zero, h0, min3]
  | 3, _ =>
    have en : lower (nameK 3) = sie := by decide +kernel
    rw [en]
    show act (act (act .zero sie (some x)) pub none) sie (some y) = { Con.zero with pu := true, ie := min3 a b }
    rw [act_ie, act_pub, act_ie]
    simp only [numV, stale, Option.bind_some, hx, hy, Option.getD_some, upd, Con.zero, h0, min3]
  | 4, _ =>
    have en : lower (nameK 4) = mif := by decide +kernel
    rw [en]
    show act (act (act .zero mif (some x)) pub none) mif (some y) = { Con.zero with pu := true, mf := min3 a b }
    rw [act_mf, act_pub, act_mf]
    simp only [numV, stale, Option.bind_some, hx, hy, Option.getD_some, upd, Con.zero, h0, min3]
  | 5, _ =>
    have en : lower (nameK 5) = mst := by decide +kernel
    rw [en]
    show act (act (act .zero mst (some x)) pub none) mst (some y) = { Con.zero with pu := true, ms := min3 a b }
    rw [act_ms, act_pub, act_ms]
    simp only [numV, stale, Option.bind_some, hx, hy, Option.getD_some, upd, Con.zero, h0, min3]
theorem parse_k (k : Nat) (hk : k < 6) (a b : Nat) (ha : a < 10000000000) (hb : b < 10000000000) :
    parseOf ((nameK k ++ 61 :: decL a) ++ 44 :: (pubL ++ 44 :: (nameK k ++ 61 :: 34 :: (decL b ++ [34])))) = (conK k (min3 a b), true) := by
  have hn := nameK_tok k hk
  have hdb := decL_all 9 b (by omega)
  have p1 := pair_plain hn (dec_tok ha)
  have p2 := pair_quoted hn hdb.txt hdb.esc
  unfold parseOf
  rw [split_three (pair_solid (by rw [p1]; simp)) (pair_solid (by rw [p2]; simp))]
  show (elem (elem (elem .zero (nameK k ++ 61 :: decL a)) [80, 117, 98, 108, 105, 99]) (nameK k ++ 61 :: 34 :: (decL b ++ [34])), true) = _
  unfold elem
  rw [p1, pair_pub, p2]
  show (act (act (act .zero (lower (nameK k)) (some (decL a))) (lower [80, 117, 98, 108, 105, 99]) none) (lower (nameK k)) (some (decL b)), true) = _
  rw [act_k k hk a b _ _ (numB_dec ha) (numB_dec hb)]
end Go.Proofs.YtjbdgndejbiikaaDoor.Ct
