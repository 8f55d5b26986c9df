/-
  Ranges of bodies, as plain functions on bytes; and what the laws of layer 14 say of them. No program, no condition.
-/
import Derived.Test.YthhnpdihgoiccaaDoorDecMath
import Derived.Test.YthhnpdihgoiccaaDoorTokJoinMath
namespace Go.Proofs.YthhnpdihgoiccaaDoor.Rm
open Go.Proofs.YthhnpdihgoiccaaDoor.Tk Go.Proofs.YthhnpdihgoiccaaDoor.Ct
set_option linter.unusedVariables false
set_option linter.unusedSimpArgs false

def mostT : Int := 1099511627776
def mostB : Int := 1048576
/-- Where a byte stands first. -/
def ix (c : UInt8) : Bs → Nat
  | [] => 0
  | d :: r => if d = c then 0 else ix c r + 1
theorem ix_name {c : UInt8} {nm : Bs} (h : ∀ d ∈ nm, d ≠ c) (r : Bs) : ix c (nm ++ c :: r) = nm.length := by
  induction nm with
  | nil => simp [ix]
  | cons d t ih =>
    rw [List.cons_append, ix, if_neg (h d (by simp)), ih (fun x hx => h x (by simp [hx]))]
    rfl
theorem ix_le (c : UInt8) (l : Bs) : ix c l ≤ l.length := by
  induction l with
  | nil => simp [ix]
  | cons d t ih => unfold ix; split <;> simp <;> omega
/-- A number that is at most so much. -/
def numT (m : Int) (l : Bs) : Option Int := if (Num.numOf ⟨l.toArray⟩ m).2 then some (Num.numOf ⟨l.toArray⟩ m).1 else none
theorem numT_dec (n : Nat) {m : Int} (hm : 0 ≤ m) : numT m (decL n) = some (capped n m) := by
  have hd := decL_all n n (dec_big n)
  have h0 : 0 < (⟨(decL n).toArray⟩ : ByteArray).size := by
    have : (⟨(decL n).toArray⟩ : ByteArray).size = (decL n).length := by simp [ByteArray.size]
    rw [this]; exact hd.pos
  have e : Num.numOf ⟨(decL n).toArray⟩ m = (Num.num m 0 (decL n), true) := Num.numOf_some h0 hm hd.dig
  unfold numT
  rw [e]
  simp only [if_true, hd.num m hm]
theorem numT_nil (m : Int) : numT m [] = none := by
  unfold numT
  rw [Num.numOf_none (.inl rfl)]
  rfl
theorem numT_bd {m : Int} {l : Bs} {n : Int} (h : numT m l = some n) : 0 ≤ n ∧ n ≤ m := by
  unfold numT at h
  split at h
  · rename_i h2
    injection h with h
    unfold Num.numOf at h h2
    split at h
    · rename_i h3; rw [if_pos h3] at h2; cases h2
    · rename_i h3
      have hm : 0 ≤ m := by
        by_cases h5 : 0 ≤ m
        · exact h5
        · exact absurd (.inr (.inl (by omega))) h3
      have h4 : l.all Num.dg = true := by
        cases h5 : l.all Num.dg with
        | true => rfl
        | false => exact (h3 (.inr (.inr h5))).elim
      have := Num.num_bd m hm l 0 (by omega) hm h4
      have e : Num.num m 0 l = n := h
      rw [e] at this
      exact this
  · cases h
theorem capped_small {n : Nat} {m : Int} (h : (n : Int) ≤ m) : capped n m = n := by unfold capped; rw [if_neg (by omega)]

/-! One range, all of a text. -/
abbrev W := Int × Int
def oneW (s : Bs) : Option W :=
  if ix 45 s = s.length then none
  else if ix 45 s = 0 then (numT mostT (s.drop 1)).map fun b => (-1, b)
  else if ix 45 s + 1 = s.length then (numT mostT (s.take (ix 45 s))).map fun a => (a, -1)
  else match numT mostT (s.take (ix 45 s)), numT mostT (s.drop (ix 45 s + 1)) with
    | some a, some b => if a ≤ b then some (a, b) else none
    | _, _ => none
def allW : List Bs → Option (List W)
  | [] => some []
  | x :: r => match oneW x, allW r with
    | some w, some l => some (w :: l)
    | _, _ => none
def hdL : Bs := [98, 121, 116, 101, 115, 61]
def parseR (s : Bs) : Option (List W) :=
  if lower (s.take 6) = hdL then match splitOf (s.drop 6) with
    | none => none
    | some l => if 1 ≤ l.length ∧ l.length ≤ 32 then allW l else none
  else none
/-- What Parse may tell. -/
def fine (w : W) : Bool := decide (-1 ≤ w.1 ∧ -1 ≤ w.2 ∧ w.1 ≤ mostT ∧ w.2 ≤ mostT ∧ ¬ (w.1 = -1 ∧ w.2 = -1) ∧ ¬ (0 ≤ w.1 ∧ 0 ≤ w.2 ∧ w.2 < w.1))
def resolve (w : W) (long : Int) : Option W :=
  if long < 0 ∨ mostB < long ∨ fine w = false then none
  else if w.1 = -1 then (if w.2 = 0 ∨ long = 0 then none else some (if w.2 < long then long - w.2 else 0, long))
  else if long ≤ w.1 then none
  else if w.2 = -1 ∨ long ≤ w.2 then some (w.1, long)
  else some (w.1, w.2 + 1)
/-- A span that a range has lies in the body, and is not empty. -/
theorem resolve_in {w : W} {long : Int} {x : W} (h : resolve w long = some x) : 0 ≤ x.1 ∧ x.1 < x.2 ∧ x.2 ≤ long := by
  unfold resolve at h
  split at h
  · cases h
  · rename_i h0
    have hf : fine w = true := by
      cases hw : fine w with
      | true => rfl
      | false => exact absurd (.inr (.inr hw)) h0
    unfold fine at hf
    have hf := of_decide_eq_true hf
    split at h
    · rename_i h1
      split at h
      · cases h
      · injection h with h
        subst h
        simp only
        split <;> omega
    · split at h
      · cases h
      · split at h
        · injection h with h; subst h; simp only; omega
        · injection h with h; subst h; simp only; omega
/-- What the spans of all ranges make: 0 the whole, 1 a part, 2 refused. -/
def pickL : List W → W × Int
  | [] => ((0, 0), 2)
  | [x] => (x, 1)
  | _ => ((0, 0), 0)
def pick (s : Bs) (long : Int) : W × Int :=
  match parseR s with
  | none => ((0, 0), 0)
  | some l => if long < 0 ∨ mostB < long then ((0, 0), 0) else pickL (l.filterMap fun w => resolve w long)
theorem tok_solid {e : Bs} (h : isTok e = true) : Solid e := ⟨isTok_pass h, tok_first h, tok_last h⟩
theorem tok_of {e : Bs} (h0 : e ≠ []) (h : e.all tchar = true) : isTok e = true := by
  unfold isTok
  rw [h]
  cases e with
  | nil => exact absurd rfl h0
  | cons c r => rfl
def two (a b : Nat) : Bs := decL a ++ 45 :: decL b
theorem two_tok (a b : Nat) : isTok (two a b) = true := by
  refine tok_of (by unfold two; simp) ?_
  unfold two
  rw [List.all_append, List.all_cons, (decL_all a a (dec_big a)).tok, (decL_all b b (dec_big b)).tok]
  decide
theorem last_tok (a : Nat) : isTok (45 :: decL a) = true := by
  refine tok_of (by simp) ?_
  rw [List.all_cons, (decL_all a a (dec_big a)).tok]
  decide
theorem one_two {a b : Nat} (h : a ≤ b) (hb : (b : Int) ≤ mostT) : oneW (two a b) = some ((a : Int), (b : Int)) := by
  have hi : ix 45 (two a b) = (decL a).length := ix_name (fun d hd => (dec_no d hd).2.1) _
  have ha := (decL_all a a (dec_big a)).pos
  have hb2 := (decL_all b b (dec_big b)).pos
  have hl : (two a b).length = (decL a).length + 1 + (decL b).length := by unfold two; simp; omega
  have e1 : (two a b).take (decL a).length = decL a := by unfold two; simp
  have e2 : (two a b).drop ((decL a).length + 1) = decL b := by unfold two; rw [← List.drop_drop]; simp
  unfold oneW
  rw [hi, if_neg (by omega), if_neg (by omega), if_neg (by omega), e1, e2, numT_dec a (by decide), numT_dec b (by decide), capped_small (by omega), capped_small hb]
  show (if (a : Int) ≤ b then some ((a : Int), (b : Int)) else none) = _
  rw [if_pos (by omega)]
theorem one_last {a : Nat} (h : (a : Int) ≤ mostT) : oneW (45 :: decL a) = some (-1, (a : Int)) := by
  have hi : ix 45 (45 :: decL a) = 0 := by unfold ix; rw [if_pos rfl]
  have ha := (decL_all a a (dec_big a)).pos
  unfold oneW
  rw [hi, if_neg (by simp), if_pos rfl, List.drop_succ_cons, List.drop_zero, numT_dec a (by decide), capped_small h]
  rfl
theorem parse_of {hd t : Bs} (h : lower hd = hdL) {l : List Bs} (hs : splitOf t = some l) (h1 : 1 ≤ l.length) (h2 : l.length ≤ 32) : parseR (hd ++ t) = allW l := by
  have hl : hd.length = 6 := by have := congrArg List.length h; rw [lower_length] at this; exact this
  have e1 : (hd ++ t).take 6 = hd := by rw [← hl]; simp
  have e2 : (hd ++ t).drop 6 = t := by rw [← hl]; simp
  unfold parseR
  rw [e1, e2, if_pos h, hs]
  show (if 1 ≤ l.length ∧ l.length ≤ 32 then allW l else none) = _
  rw [if_pos ⟨h1, h2⟩]
theorem parse_many {hd t : Bs} (h : lower hd = hdL) {l : List Bs} (hs : splitOf t = some l) (h2 : 32 < l.length) : parseR (hd ++ t) = none := by
  have hl : hd.length = 6 := by have := congrArg List.length h; rw [lower_length] at this; exact this
  have e1 : (hd ++ t).take 6 = hd := by rw [← hl]; simp
  have e2 : (hd ++ t).drop 6 = t := by rw [← hl]; simp
  unfold parseR
  rw [e1, e2, if_pos h, hs]
  show (if 1 ≤ l.length ∧ l.length ≤ 32 then allW l else none) = _
  rw [if_neg (by omega)]
theorem split_tok {e : Bs} (h : Solid e) : splitOf e = some [e] := by
  have h1 := split_joined [e] (fun x hx => by simp at hx; subst hx; exact h)
  rw [show joinL [e] = e from by simp [joinL]] at h1
  exact h1
/-- One range of two numbers. -/
theorem pick_two {hd : Bs} (h : lower hd = hdL) {a b : Nat} (hab : a ≤ b) (hb : (b : Int) ≤ mostT) {long : Int} (h0 : 0 ≤ long) (h1 : long ≤ mostB) :
    pick (hd ++ two a b) long = if (a : Int) < long then (((a : Int), if (b : Int) + 1 ≤ long then (b : Int) + 1 else long), 1) else ((0, 0), 2) := by
  have hp := parse_of h (split_tok (tok_solid (two_tok a b))) (by simp) (by simp)
  have ha : allW [two a b] = some [((a : Int), (b : Int))] := by unfold allW; rw [one_two hab hb]; rfl
  rw [ha] at hp
  have hf : fine ((a : Int), (b : Int)) = true := by unfold fine; rw [decide_eq_true_eq]; simp only; omega
  unfold pick
  rw [hp]
  show (if long < 0 ∨ mostB < long then ((0, 0), 0) else pickL ([((a : Int), (b : Int))].filterMap fun w => resolve w long)) = _
  rw [if_neg (by omega)]
  have hr : resolve ((a : Int), (b : Int)) long = if (a : Int) < long then some ((a : Int), if (b : Int) + 1 ≤ long then (b : Int) + 1 else long) else none := by
    unfold resolve
    rw [if_neg (by rw [hf]; rintro (h | h | h) <;> first | omega | cases h), if_neg (by simp only; omega)]
    by_cases hl : (a : Int) < long
    · rw [if_neg (by simp only; omega), if_pos hl]
      by_cases hb2 : (b : Int) + 1 ≤ long
      · rw [if_neg (by simp only; omega), if_pos hb2]
      · rw [if_pos (by simp only; omega), if_neg hb2]
    · rw [if_pos (by simp only; omega), if_neg hl]
  rw [List.filterMap_cons, hr]
  by_cases hl : (a : Int) < long
  · rw [if_pos hl, if_pos hl]; rfl
  · rw [if_neg hl, if_neg hl]; rfl
theorem pick_last {hd : Bs} (h : lower hd = hdL) {a : Nat} (ha2 : (a : Int) ≤ mostT) {long : Int} (h0 : 0 ≤ long) (h1 : long ≤ mostB) :
    pick (hd ++ 45 :: decL a) long = if a = 0 ∨ long = 0 then ((0, 0), 2) else ((if (a : Int) < long then long - a else 0, long), 1) := by
  have hp := parse_of h (split_tok (tok_solid (last_tok a))) (by simp) (by simp)
  have ha : allW [45 :: decL a] = some [(-1, (a : Int))] := by unfold allW; rw [one_last ha2]; rfl
  rw [ha] at hp
  have hf : fine (-1, (a : Int)) = true := by unfold fine; rw [decide_eq_true_eq]; simp only; have : mostT = 1099511627776 := rfl; omega
  unfold pick
  rw [hp]
  show (if long < 0 ∨ mostB < long then ((0, 0), 0) else pickL ([((-1 : Int), (a : Int))].filterMap fun w => resolve w long)) = _
  rw [if_neg (by omega)]
  have hr : resolve (-1, (a : Int)) long = if a = 0 ∨ long = 0 then none else some (if (a : Int) < long then long - a else 0, long) := by
    unfold resolve
    rw [if_neg (by rw [hf]; rintro (h | h | h) <;> first | omega | cases h), if_pos rfl]
    by_cases hz : a = 0 ∨ long = 0
    · rw [if_pos (by simp only; omega), if_pos hz]
    · rw [if_neg (by simp only; omega), if_neg hz]
  rw [List.filterMap_cons, hr]
  by_cases hz : a = 0 ∨ long = 0
  · rw [if_pos hz, if_pos hz]; rfl
  · rw [if_neg hz, if_neg hz]; rfl
/-- Two ranges that are there. -/
theorem pick_both {hd : Bs} (h : lower hd = hdL) {a b : Nat} (hab : a ≤ b) (hb : (b : Int) ≤ mostT) {long : Int} (h0 : (a : Int) < long) (h1 : long ≤ mostB) :
    pick (hd ++ (two a b ++ [44, 32, 48, 45, 48])) long = ((0, 0), 0) := by
  have e : two a b ++ [44, 32, 48, 45, 48] = two a b ++ 44 :: (32 :: two 0 0) := by
    have e0 : decL 0 = [48] := decL_small (n := 0) (by decide)
    unfold two; rw [e0]; rfl
  have hs : splitOf (two a b ++ 44 :: (32 :: two 0 0)) = some [two a b, two 0 0] := by
    unfold splitOf
    rw [(isTok_pass (two_tok a b)), List.nil_append, sp_comma, sp_other _ _ (by decide) (by decide)]
    have h2 := isTok_pass (two_tok 0 0) ([32] : Bs) []
    rw [List.append_nil] at h2
    rw [List.nil_append, h2, sp_nil]
    show some (put (two a b) (put (32 :: two 0 0) [])) = _
    have h3 : put (32 :: two 0 0) [] = [two 0 0] := by unfold put; rw [trim_cons_blank _ (by decide), trim_solid (tok_solid (two_tok 0 0)), if_neg (tok_solid (two_tok 0 0)).ne]
    rw [h3, put_solid (tok_solid (two_tok a b))]
  have hp := parse_of h hs (by simp) (by simp)
  have ha : allW [two a b, two 0 0] = some [((a : Int), (b : Int)), (0, 0)] := by
    unfold allW; rw [one_two hab hb]
    unfold allW; rw [one_two (Nat.le_refl 0) (by decide)]
    rfl
  rw [ha] at hp
  have hf : fine ((a : Int), (b : Int)) = true := by unfold fine; rw [decide_eq_true_eq]; simp only; omega
  have hf0 : fine ((0 : Int), (0 : Int)) = true := by decide
  have s1 : ∃ x, resolve ((a : Int), (b : Int)) long = some x := by
    unfold resolve
    rw [if_neg (by rw [hf]; rintro (h | h | h) <;> first | omega | cases h), if_neg (by simp only; omega), if_neg (by simp only; omega)]
    split <;> exact ⟨_, rfl⟩
  have s2 : ∃ x, resolve ((0 : Int), (0 : Int)) long = some x := by
    unfold resolve
    rw [if_neg (by rw [hf0]; rintro (h | h | h) <;> first | omega | cases h), if_neg (by simp only; omega), if_neg (by simp only; omega)]
    split <;> exact ⟨_, rfl⟩
  obtain ⟨x, hx⟩ := s1
  obtain ⟨y, hy⟩ := s2
  rw [e]
  unfold pick
  rw [hp]
  show (if long < 0 ∨ mostB < long then ((0, 0), 0) else pickL ([((a : Int), (b : Int)), (0, 0)].filterMap fun w => resolve w long)) = _
  rw [if_neg (by omega), List.filterMap_cons, hx, List.filterMap_cons, hy]
  rfl

/-! As many ranges as may be. -/
def manyT (n : Nat) : Bs := (List.range n).flatMap fun i => two i i ++ [44]
theorem split_many : ∀ l : List Nat, splitOf (l.flatMap fun i => two i i ++ [44]) = some (l.map fun i => two i i)
  | [] => by decide +kernel
  | i :: l => by
    have ih := split_many l
    have e : ((i :: l).flatMap fun i => two i i ++ [44]) = two i i ++ 44 :: (l.flatMap fun i => two i i ++ [44]) := by simp
    unfold splitOf at ih ⊢
    rw [e, (isTok_pass (two_tok i i)), List.nil_append, sp_comma, ih]
    show some (put (two i i) _) = _
    rw [put_solid (tok_solid (two_tok i i))]
    rfl
theorem all_many : ∀ l : List Nat, (∀ i ∈ l, (i : Int) ≤ mostT) → allW (l.map fun i => two i i) = some (l.map fun i : Nat => ((i : Int), (i : Int)))
  | [], _ => rfl
  | i :: l, h => by
    rw [List.map_cons, List.map_cons]
    unfold allW
    rw [one_two (Nat.le_refl i) (h i (by simp)), all_many l (fun j hj => h j (by simp [hj]))]
theorem parse_more {hd : Bs} (h : lower hd = hdL) {n : Nat} (h1 : 1 ≤ n) (h2 : n ≤ 1000) : parseR (hd ++ manyT n) = if n ≤ 32 then some ((List.range n).map fun i : Nat => ((i : Int), (i : Int))) else none := by
  have hs := split_many (List.range n)
  by_cases hn : n ≤ 32
  · rw [if_pos hn]
    have := parse_of h hs (by simp; exact h1) (by simp; exact hn)
    unfold manyT
    rw [this]
    exact all_many _ (fun i hi => by have := List.mem_range.1 hi; unfold mostT; omega)
  · rw [if_neg hn]
    exact parse_many h hs (by simp; omega)
def manyOk (n : Nat) (long : Nat) : Bool :=
  pickL (((List.range n).map fun i : Nat => ((i : Int), (i : Int))).filterMap fun w => resolve w long) == if long = 0 then ((0, 0), 2) else if long = 1 then ((0, 1), 1) else ((0, 0), 0)
theorem many_all : ∀ n : Fin 5, ∀ long : Fin 64, manyOk (28 + n.val) long.val = true := by decide +kernel
theorem pick_many {hd : Bs} (h : lower hd = hdL) {n long : Nat} (h1 : 28 ≤ n) (h2 : n ≤ 32) (h3 : long < 64) : pick (hd ++ manyT n) long = if long = 0 then ((0, 0), 2) else if long = 1 then ((0, 1), 1) else ((0, 0), 0) := by
  have hp := parse_more h (n := n) (by omega) (by omega)
  rw [if_pos h2] at hp
  have hm := many_all ⟨n - 28, by omega⟩ ⟨long, h3⟩
  simp only at hm
  rw [show 28 + (n - 28) = n by omega] at hm
  unfold manyOk at hm
  rw [beq_iff_eq] at hm
  unfold pick
  rw [hp]
  simp only
  rw [if_neg (by unfold mostB; omega)]
  exact hm
end Go.Proofs.YthhnpdihgoiccaaDoor.Rm
