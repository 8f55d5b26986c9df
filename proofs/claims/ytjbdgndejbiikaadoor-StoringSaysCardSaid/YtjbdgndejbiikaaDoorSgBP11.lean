/-
  Texts that the laws' proofs stand on, 3 of them in one file; each one's head says what it proves and under which condition.
-/
import Derived.Test.YtjbdgndejbiikaaDoorSgBP8
/-
  What Set and Del leave, asked by Get: plain functions. No program, no condition.
-/
namespace Go.Proofs.YtjbdgndejbiikaaDoor.Fd
open Tk

/-- The fields behind Set. -/
def setF (fs : List Fl) (nm val : ByteArray) : List Fl := del fs nm.data.toList ++ [(nm, val)]
theorem alike_refl (a : Bs) : alike a a = true := by unfold alike; simp
theorem has_other {nm other : Bs} (h : alike nm other = false) {f : Fl} (hf : has nm f = true) : has other f = false := by
  unfold has alike at *
  rw [beq_iff_eq] at hf
  rw [hf]; exact h
theorem sel_del (fs : List Fl) (nm : Bs) : sel (del fs nm) nm = [] := by
  unfold sel del
  rw [List.filter_filter]
  have e : (fs.filter fun a => has nm a && !has nm a) = [] := by
    rw [List.filter_eq_nil_iff]; intro a _; cases has nm a <;> simp
  rw [e]; rfl
theorem sel_del_other (fs : List Fl) {nm other : Bs} (h : alike nm other = false) : sel (del fs nm) other = sel fs other := by
  unfold sel del
  rw [List.filter_filter]
  congr 1
  apply List.filter_congr
  intro a _
  cases ha : has nm a with
  | false => simp
  | true => rw [has_other h ha]; rfl
theorem sel_set (fs : List Fl) (nm val : ByteArray) : sel (setF fs nm val) nm.data.toList = [val.data.toList] := by
  have h := sel_del fs nm.data.toList
  unfold setF
  unfold sel at h ⊢
  rw [List.filter_append, List.map_append, h]
  have e : has nm.data.toList (nm, val) = true := alike_refl _
  simp [e]
theorem sel_set_other (fs : List Fl) (nm val : ByteArray) {other : Bs} (h : alike nm.data.toList other = false) : sel (setF fs nm val) other = sel fs other := by
  have h2 := sel_del_other fs h
  unfold setF
  unfold sel at h2 ⊢
  rw [List.filter_append, List.map_append, h2]
  have e : has other (nm, val) = false := h
  simp [e]
theorem del_del (fs : List Fl) (nm : Bs) : del (del fs nm) nm = del fs nm := by
  unfold del; rw [List.filter_filter]; congr 1; funext a; simp
theorem del_set (fs : List Fl) (nm val : ByteArray) : del (setF fs nm val) nm.data.toList = del fs nm.data.toList := by
  have h := del_del fs nm.data.toList
  unfold setF
  unfold del at h ⊢
  rw [List.filter_append, h]
  have e : has nm.data.toList (nm, val) = true := alike_refl _
  simp [e]
theorem tot_del (fs : List Fl) (nm : Bs) : tot (del fs nm) ≤ tot fs := tot_filter _ fs
theorem tot_set (fs : List Fl) (nm val : ByteArray) : tot (setF fs nm val) ≤ tot fs + nm.size + val.size + 1 := by
  unfold setF; rw [tot_append]
  have := tot_del fs nm.data.toList
  have e : tot [(nm, val)] = nm.size + val.size + 1 := by simp [tot]
  omega
theorem get_set (fs : List Fl) (nm val : ByteArray) : getT (setF fs nm val) nm.data.toList = val.data.toList ∧ getN (setF fs nm val) nm.data.toList = 1 := by
  unfold getT getN; rw [sel_set]; exact ⟨rfl, rfl⟩
theorem get_del (fs : List Fl) (nm : Bs) : getT (del fs nm) nm = [] ∧ getN (del fs nm) nm = 0 := by
  unfold getT getN; rw [sel_del]; exact ⟨rfl, rfl⟩
theorem get_set_other (fs : List Fl) (nm val : ByteArray) {other : Bs} (h : alike nm.data.toList other = false) : getT (setF fs nm val) other = getT fs other ∧ getN (setF fs nm val) other = getN fs other := by
  unfold getT getN; rw [sel_set_other fs nm val h]; exact ⟨rfl, rfl⟩
theorem get_del_other (fs : List Fl) {nm other : Bs} (h : alike nm other = false) : getT (del fs nm) other = getT fs other ∧ getN (del fs nm) other = getN fs other := by
  unfold getT getN; rw [sel_del_other fs h]; exact ⟨rfl, rfl⟩
end Go.Proofs.YtjbdgndejbiikaaDoor.Fd
/-
  The names that a text lists, and what Strip takes away: plain functions. No program, no condition.
-/
namespace Go.Proofs.YtjbdgndejbiikaaDoor.Fd
open Tk

theorem put_piece {own : Bs} {rest : List Bs} {n : Nat} (h1 : own.length ≤ n) (h2 : ∀ x ∈ rest, x.length ≤ n) : ∀ x ∈ put own rest, x.length ≤ n := by
  unfold put
  split
  · exact h2
  · intro x hx
    rw [List.mem_cons] at hx
    rcases hx with rfl | hx
    · exact Nat.le_trans (trim_length own) h1
    · exact h2 x hx
/-- No element is longer than the text. -/
theorem sp_piece : ∀ (n : Nat) (r : Bs), r.length ≤ n → ∀ q own ls, sp q own r = some ls → ∀ x ∈ ls, x.length ≤ own.length + r.length
  | 0, r, h, q, own, ls, hs => by
    have : r = [] := List.length_eq_zero_iff.1 (by omega)
    subst this
    cases q with
    | true => rw [sp_nil_q] at hs; cases hs
    | false => rw [sp_nil] at hs; injection hs with hs; subst hs; exact put_piece (by simp) (by simp)
  | n + 1, r, h, q, own, ls, hs => by
    match r with
    | [] =>
      cases q with
      | true => rw [sp_nil_q] at hs; cases hs
      | false => rw [sp_nil] at hs; injection hs with hs; subst hs; exact put_piece (by simp) (by simp)
    | c :: r =>
      have hr : r.length ≤ n := by simp at h; omega
      cases q with
      | false =>
        by_cases h44 : c = 44
        · subst h44
          rw [sp_comma, Option.map_eq_some_iff] at hs
          obtain ⟨x, hx, rfl⟩ := hs
          have h1 := sp_piece n r hr _ _ _ hx
          refine put_piece (by simp) (fun y hy => ?_)
          have := h1 y hy
          simp at this ⊢; omega
        · by_cases h34 : c = 34
          · subst h34; rw [sp_open] at hs
            intro y hy; have := sp_piece n r hr _ _ _ hs y hy; simp at this ⊢; omega
          · rw [sp_other _ _ h44 h34] at hs
            intro y hy; have := sp_piece n r hr _ _ _ hs y hy; simp at this ⊢; omega
      | true =>
        by_cases h34 : c = 34
        · subst h34; rw [sp_q_close] at hs
          intro y hy; have := sp_piece n r hr _ _ _ hs y hy; simp at this ⊢; omega
        · by_cases h92 : c = 92
          · subst h92
            match r with
            | [] => rw [sp_q_last] at hs; cases hs
            | d :: r' =>
              rw [sp_q_back] at hs
              intro y hy; have := sp_piece n r' (by simp at h; omega) _ _ _ hs y hy; simp at this ⊢; omega
          · rw [sp_q_other _ _ h34 h92] at hs
            intro y hy; have := sp_piece n r hr _ _ _ hs y hy; simp at this ⊢; omega
theorem split_piece {l : Bs} {ls : List Bs} (h : splitOf l = some ls) : ∀ x ∈ ls, x.length ≤ l.length := by
  intro x hx; have := sp_piece _ l (Nat.le_refl _) _ _ _ h x hx; simpa using this

/-- The names that a text lists: its elements in small letters; none, if one is no token. -/
def namesOf (t : Bs) : Option (List Bs) := match splitOf t with
  | none => none
  | some ls => if ls.all isTok then some (ls.map lower) else none
theorem names_none {t : Bs} (h : splitOf t = none) : namesOf t = none := by unfold namesOf; rw [h]
theorem names_bad {t : Bs} {ls : List Bs} (h : splitOf t = some ls) (j : Nat) (hj : j < ls.length) (hb : isTok ls[j] = false) : namesOf t = none := by
  unfold namesOf; rw [h]
  have : ls.all isTok = false := by rw [List.all_eq_false]; exact ⟨ls[j], List.getElem_mem hj, by simp [hb]⟩
  simp [this]
theorem names_good {t : Bs} {ls : List Bs} (h : splitOf t = some ls) (hb : ls.all isTok = true) : namesOf t = some (ls.map lower) := by
  unfold namesOf; rw [h]; simp [hb]
theorem names_length {t : Bs} {ls : List Bs} (h : namesOf t = some ls) : ls.length ≤ t.length + 1 := by
  unfold namesOf at h
  split at h
  · cases h
  · rename_i ms hs
    split at h
    · injection h with h; subst h; rw [List.length_map]; exact split_length hs
    · cases h
theorem names_piece {t : Bs} {ls : List Bs} (h : namesOf t = some ls) : ∀ x ∈ ls, x.length ≤ t.length := by
  unfold namesOf at h
  split at h
  · cases h
  · rename_i ms hs
    split at h
    · injection h with h; subst h
      intro x hx
      obtain ⟨y, hy, rfl⟩ := List.mem_map.1 hx
      rw [lower_length]; exact split_piece hs y hy
    · cases h
theorem all_next (ls : List Bs) (k : Nat) (h : k < ls.length) (h1 : (ls.take k).all isTok = true) (h2 : isTok ls[k] = true) : (ls.take (k + 1)).all isTok = true := by
  rw [take_next ls k h, List.all_append, h1]; simp [h2]
/-- A list whose first k elements stand in small letters. -/
def half (ls : List Bs) (k : Nat) : List Bs := (ls.take k).map lower ++ ls.drop k
theorem half_zero (ls : List Bs) : half ls 0 = ls := by simp [half]
theorem half_all (ls : List Bs) : half ls ls.length = ls.map lower := by simp [half]
theorem half_length (ls : List Bs) (k : Nat) (h : k ≤ ls.length) : (half ls k).length = ls.length := by simp [half]; omega
theorem half_len (ls : List Bs) (k : Nat) (h : k < ls.length) : ((ls.take k).map lower).length = k := by rw [List.length_map, List.length_take]; omega
theorem half_at (ls : List Bs) (k : Nat) (h : k < ls.length) : (half ls k)[k]? = some ls[k] := by
  have e := half_len ls k h
  unfold half
  rw [List.getElem?_append_right (by omega), e, Nat.sub_self, List.getElem?_drop, Nat.add_zero, List.getElem?_eq_getElem h]
theorem half_set (ls : List Bs) (k : Nat) (h : k < ls.length) : (half ls k).set k (lower ls[k]) = half ls (k + 1) := by
  have e := half_len ls k h
  unfold half
  rw [List.set_append_right _ _ (by omega), e, Nat.sub_self, List.drop_eq_getElem_cons h, List.set_cons_zero, take_next ls k h, List.map_append, List.map_cons, List.map_nil, List.append_assoc]
  rfl
end Go.Proofs.YtjbdgndejbiikaaDoor.Fd
/-
  Two tokens with a comma between are two names; some fixed texts' names: plain functions. No program, no condition.
-/
namespace Go.Proofs.YtjbdgndejbiikaaDoor.Fd
open Tk

theorem tch {c : UInt8} (h : tchar c = true) : c ≠ 44 ∧ c ≠ 34 ∧ Tk.blank c = false := by
  refine ⟨?_, ?_, ?_⟩
  · intro e; subst e; revert h; decide
  · intro e; subst e; revert h; decide
  · cases hb : Tk.blank c with
    | false => rfl
    | true =>
      unfold Tk.blank at hb
      rw [Bool.or_eq_true, beq_iff_eq, beq_iff_eq] at hb
      rcases hb with rfl | rfl <;> (revert h; decide)
theorem tok_all {l : Bs} (h : isTok l = true) : ∀ c ∈ l, tchar c = true := by
  unfold isTok at h; rw [Bool.and_eq_true] at h; exact List.all_eq_true.1 h.2
theorem tok_ne {l : Bs} (h : isTok l = true) : l ≠ [] := by rintro rfl; cases h
theorem sp_tok : ∀ (a : Bs), (∀ c ∈ a, tchar c = true) → ∀ own r, sp false own (a ++ r) = sp false (own ++ a) r
  | [], _, own, r => by simp
  | c :: a, h, own, r => by
    obtain ⟨h1, h2, _⟩ := tch (h c (by simp))
    rw [List.cons_append, sp_other _ _ h1 h2, sp_tok a (fun d hd => h d (by simp [hd]))]
    simp
theorem trim_tok {l : Bs} (h : isTok l = true) : trim l = l := by
  have ha := tok_all h
  rcases snoc_cases l with rfl | ⟨i, d, rfl⟩
  · cases h
  · have hd := (tch (ha d (by simp))).2.2
    unfold trim
    cases hi : i ++ [d] with
    | nil => simp at hi
    | cons c t =>
      have hc := (tch (ha c (by rw [hi]; simp))).2.2
      rw [ltrim_cons_other t hc, ← hi, rtrim_snoc_other i hd]
theorem split_two {a b : Bs} (ha : isTok a = true) (hb : isTok b = true) : splitOf (a ++ [44, 32] ++ b) = some [a, b] := by
  have e1 : splitOf (a ++ [44, 32] ++ b) = sp false [] (a ++ 44 :: 32 :: b) := by unfold splitOf; simp
  have e2 : sp false [32] b = some [b] := by
    have h := sp_tok b (tok_all hb) [32] []
    rw [List.append_nil] at h
    rw [h, sp_nil]
    have ht : trim ([32] ++ b) = b := by rw [List.singleton_append, trim_cons_blank b (by decide), trim_tok hb]
    unfold put; rw [ht, if_neg (tok_ne hb)]
  rw [e1, sp_tok a (tok_all ha), List.nil_append, sp_comma, sp_other [] b (by decide) (by decide), List.nil_append, e2]
  show some (put a [b]) = _
  unfold put; rw [trim_tok ha, if_neg (tok_ne ha)]
theorem names_two {a b : Bs} (ha : isTok a = true) (hb : isTok b = true) : namesOf (a ++ [44, 32] ++ b) = some [lower a, lower b] :=
  names_good (split_two ha hb) (by simp [ha, hb])
/-- The three fields of the law on names. -/
def three (a b : ByteArray) : List Fl := [(⟨#[118]⟩, a), (⟨#[120]⟩, ⟨#[110, 111]⟩), (⟨#[86]⟩, b)]
theorem get_three (a b : ByteArray) : getT (three a b) [86] = a.data.toList ++ [44, 32] ++ b.data.toList := rfl
theorem tot_three (a b : ByteArray) : tot (three a b) = a.size + b.size + 8 := by
  have e1 : (⟨#[118]⟩ : ByteArray).size = 1 := rfl
  have e2 : (⟨#[120]⟩ : ByteArray).size = 1 := rfl
  have e3 : (⟨#[110, 111]⟩ : ByteArray).size = 2 := rfl
  have e4 : (⟨#[86]⟩ : ByteArray).size = 1 := rfl
  simp only [three, tot, List.map_cons, List.map_nil, List.sum_cons, List.sum_nil, e1, e2, e3, e4]; omega
def one : List Fl := [(⟨#[118]⟩, ⟨#[65, 44, 32, 98]⟩)]
theorem get_one : getT one [118] = [65] ++ [44, 32] ++ [98] := rfl
theorem names_one : namesOf ([65] ++ [44, 32] ++ [98]) = some [[97], [98]] := names_two (a := [65]) (b := [98]) (by decide) (by decide)
theorem tot_one : tot one = 6 := rfl
end Go.Proofs.YtjbdgndejbiikaaDoor.Fd
