/-
  What a directive does, by its kind: plain functions. No program's run, no condition.
-/
import Derived.Test.YtmnnbefigepgfaaDoorCtDirs
import Derived.Test.YtmnnbefigepgfaaDoorCtNum
import Derived.Test.YtmnnbefigepgfaaDoorTokPair
namespace Go.Proofs.YtmnnbefigepgfaaDoor.Ct
open Go.RowKit Go.Proofs.YtmnnbefigepgfaaDoor.Tk Go.Proofs.YtmnnbefigepgfaaDoor.Fd Go.Proofs.YtmnnbefigepgfaaDoor.Hd
set_option linter.unusedVariables false

theorem act_none (c : Con) (nm : Bs) (v : Option Bs) (h : ∀ k, k < 13 → nm ≠ nameOf k) : act c nm v = c := by
  unfold act
  rw [if_neg (show ¬ nm = nst from h 0 (by omega)), if_neg (show ¬ nm = nca from h 1 (by omega)), if_neg (show ¬ nm = pri from h 2 (by omega)), if_neg (show ¬ nm = pub from h 3 (by omega)), if_neg (show ¬ nm = mus from h 4 (by omega)), if_neg (show ¬ nm = pro from h 5 (by omega)), if_neg (show ¬ nm = onl from h 6 (by omega)), if_neg (show ¬ nm = age from h 7 (by omega)), if_neg (show ¬ nm = sma from h 8 (by omega)), if_neg (show ¬ nm = swr from h 9 (by omega)), if_neg (show ¬ nm = sie from h 10 (by omega)), if_neg (show ¬ nm = mif from h 11 (by omega)), if_neg (show ¬ nm = mst from h 12 (by omega))]
theorem table_none (nm : Bs) (h : table.lookup nm = none) : ∀ k, k < 13 → nm ≠ nameOf k := by
  intro k hk e
  rw [e, table_at k hk] at h
  cases h
theorem table_some (nm : Bs) (d : Kind) (h : table.lookup nm = some d) : ∃ k, k < 13 ∧ nm = nameOf k ∧ d = kindOf k := by
  by_cases hx : ∃ k, k < 13 ∧ nm = nameOf k
  · obtain ⟨k, hk, rfl⟩ := hx
    rw [table_at k hk] at h
    injection h with h
    exact ⟨k, hk, rfl, h.symm⟩
  · rw [lookup_none (fun p hp => by obtain ⟨k, hk, rfl⟩ := List.mem_map.1 hp; intro e; exact hx ⟨k, List.mem_range.1 hk, e⟩)] at h
    cases h
/-- A pair's value, as both results of Pair have it. -/
def valB : Option Bs → ByteArray
  | none => ⟨#[]⟩
  | some x => ⟨x.toArray⟩
def hasB : Option Bs → Bool
  | none => false
  | some _ => true
theorem told_same (d : Int) (v : Option Bs) : told d d (valB v) (hasB v) = (numV v).getD d := by
  cases v with
  | none => rfl
  | some x =>
    show told d d ⟨x.toArray⟩ true = (numB x).getD d
    unfold told numB
    rw [if_neg (by decide)]
    cases h : (Num.numOf ⟨x.toArray⟩ most).2 with
    | false => rfl
    | true => rfl
theorem leastP_numV {a : Int} (ha : -1 ≤ a) (v : Option Bs) : leastP a (told (-1) (-1) (valB v) (hasB v)) = upd a (numV v) := by
  rw [told_same]
  cases h : numV v with
  | none => exact leastP_unsaid ha
  | some n => exact leastP_least ha (numV_bd h).1
theorem leastP_zero {a : Int} (ha : -1 ≤ a) (v : Option Bs) : leastP a (told 0 0 (valB v) (hasB v)) = least a ((numV v).getD 0) := by
  rw [told_same]
  exact leastP_least ha (getD_bd v).1
theorem leastP_stale {a : Int} (ha : -1 ≤ a) (v : Option Bs) : leastP a (told 2147483648 (-1) (valB v) (hasB v)) = upd a (stale v) := by
  cases v with
  | none => exact leastP_least ha (by decide)
  | some x =>
    have h := leastP_numV ha (some x)
    exact h
/-- A number's cell. -/
def numAt (c : Con) : Nat → Int
  | 7 => c.ag
  | 8 => c.sh
  | 9 => c.wh
  | 10 => c.ie
  | 11 => c.mf
  | _ => c.ms
/-- What a directive's kind makes of the cells. -/
def setK (c : Con) (k : Kind) (v : ByteArray) (has : Bool) : Array Value := match k with
  | .flag i => (cells c).setIfInBounds i (.bool true)
  | .num i b wr => (cells c).setIfInBounds i (.int .i64 (leastP (numAt c i) (told b wr v has)))
theorem act_kind (c : Con) (hc : Fine c) (v : Option Bs) : ∀ k, k < 13 → cells (act c (nameOf k) v) = setK c (kindOf k) (valB v) (hasB v) := by
  refine below13 ?_ ?_ ?_ ?_ ?_ ?_ ?_ ?_ ?_ ?_ ?_ ?_ ?_
  · show cells (act c nst v) = _; rw [act_ns]; rfl
  · show cells (act c nca v) = _; rw [act_nc]; rfl
  · show cells (act c pri v) = _; rw [act_pr]; rfl
  · show cells (act c pub v) = _; rw [act_pub]; rfl
  · show cells (act c mus v) = _; rw [act_mu]; rfl
  · show cells (act c pro v) = _; rw [act_px]; rfl
  · show cells (act c onl v) = _; rw [act_oc]; rfl
  · show cells (act c age v) = (cells c).setIfInBounds 7 (.int .i64 (leastP c.ag (told 0 0 (valB v) (hasB v)))); rw [act_ag, leastP_zero hc.ag]; rfl
  · show cells (act c sma v) = (cells c).setIfInBounds 8 (.int .i64 (leastP c.sh (told 0 0 (valB v) (hasB v)))); rw [act_sh, leastP_zero hc.sh]; rfl
  · show cells (act c swr v) = (cells c).setIfInBounds 9 (.int .i64 (leastP c.wh (told (-1) (-1) (valB v) (hasB v)))); rw [act_wh, leastP_numV hc.wh]; rfl
  · show cells (act c sie v) = (cells c).setIfInBounds 10 (.int .i64 (leastP c.ie (told (-1) (-1) (valB v) (hasB v)))); rw [act_ie, leastP_numV hc.ie]; rfl
  · show cells (act c mif v) = (cells c).setIfInBounds 11 (.int .i64 (leastP c.mf (told (-1) (-1) (valB v) (hasB v)))); rw [act_mf, leastP_numV hc.mf]; rfl
  · show cells (act c mst v) = (cells c).setIfInBounds 12 (.int .i64 (leastP c.ms (told 2147483648 (-1) (valB v) (hasB v)))); rw [act_ms, leastP_stale hc.ms]; rfl
/-- What a directive's call leaves: one cell of the struct turned. -/
def DirPost (g : Nat) (c' : Con) (w : World) (e : Ending) (w' : World) : Prop := e = .returned (.tuple #[]) ∧ ∃ i x, PutAt w w' ⟨g, i, none⟩ x ∧ ConAt w' g c'
def FlagWay (g : Nat) (c' : Con) (v : ByteArray) (has : Bool) (w : World) (d : Value) : Prop :=
  ∃ b, d = .agg #[.func (.func 45) #[] #[.pointer (some ⟨b, 0, none⟩)]] ∧ Calls Tryd.prog 45 #[.string v, .bool has, .pointer (some ⟨b, 0, none⟩)] w (DirPost g c' w)
def NumWay (g : Nat) (c' : Con) (v : ByteArray) (has : Bool) (w : World) (d : Value) : Prop :=
  ∃ b0 b1 b2, d = .agg #[.func (.func 46) #[] #[.pointer (some ⟨b0, 0, none⟩), .pointer (some ⟨b1, 0, none⟩), .pointer (some ⟨b2, 0, none⟩)]] ∧
    Calls Tryd.prog 46 #[.string v, .bool has, .pointer (some ⟨b0, 0, none⟩), .pointer (some ⟨b1, 0, none⟩), .pointer (some ⟨b2, 0, none⟩)] w (DirPost g c' w)
theorem way_flag {g i : Nat} {c c' : Con} {v : ByteArray} {has : Bool} {w : World} {x : Value} (hx : (cells c)[i]? = some x) (hc : ConAt w g c) (e : cells c' = setK c (.flag i) v has) {d : Value} (hd : DirOf w g (.flag i) d) : FlagWay g c' v has w d := by
  obtain ⟨b, rfl, hg, hvb⟩ := hd
  exact ⟨b, rfl, (flag1_any g i b x v has w hvb ((conAt_cell hc i).trans hx) (free hc i)).mono fun e2 w' ⟨h1, h2⟩ => ⟨h1, i, _, h2, h2.con hc e.symm⟩⟩
theorem way_num {g i : Nat} {c c' : Con} {v : ByteArray} {has : Bool} {w : World} {b wr : Int} (hv : v.size ≤ maxLen) (hx : (cells c)[i]? = some (.int .i64 (numAt c i))) (hc : ConAt w g c) (e : cells c' = setK c (.num i b wr) v has) {d : Value} (hd : DirOf w g (.num i b wr) d) : NumWay g c' v has w d := by
  obtain ⟨b0, b1, b2, rfl, g0, g1, g2, v0, v1, v2⟩ := hd
  exact ⟨b0, b1, b2, rfl, (number1_any g i b0 b1 b2 _ b wr v has w hv v0 v1 v2 ((conAt_cell hc i).trans hx) (free hc i)).mono fun e2 w' ⟨h1, h2⟩ => ⟨h1, i, _, h2, h2.con hc e.symm⟩⟩
/-- A directive's call. -/
theorem dir_call (g : Nat) (c c' : Con) (v : ByteArray) (has : Bool) (w : World) (hv : v.size ≤ maxLen) (hc : ConAt w g c) (d : Value) : ∀ k, k < 13 → cells c' = setK c (kindOf k) v has → DirOf w g (kindOf k) d → FlagWay g c' v has w d ∨ NumWay g c' v has w d := by
  refine below13 ?_ ?_ ?_ ?_ ?_ ?_ ?_ ?_ ?_ ?_ ?_ ?_ ?_
  · exact fun e hd => .inl (way_flag (i := 0) rfl hc e hd)
  · exact fun e hd => .inl (way_flag (i := 1) rfl hc e hd)
  · exact fun e hd => .inl (way_flag (i := 2) rfl hc e hd)
  · exact fun e hd => .inl (way_flag (i := 3) rfl hc e hd)
  · exact fun e hd => .inl (way_flag (i := 4) rfl hc e hd)
  · exact fun e hd => .inl (way_flag (i := 5) rfl hc e hd)
  · exact fun e hd => .inl (way_flag (i := 6) rfl hc e hd)
  · exact fun e hd => .inr (way_num (i := 7) hv rfl hc e hd)
  · exact fun e hd => .inr (way_num (i := 8) hv rfl hc e hd)
  · exact fun e hd => .inr (way_num (i := 9) hv rfl hc e hd)
  · exact fun e hd => .inr (way_num (i := 10) hv rfl hc e hd)
  · exact fun e hd => .inr (way_num (i := 11) hv rfl hc e hd)
  · exact fun e hd => .inr (way_num (i := 12) hv rfl hc e hd)
/-- One element, by what its pair is. -/
theorem elem_none {c : Con} {x : Bs} (h : pairOf x = none) : elem c x = c := by unfold elem; rw [h]
theorem elem_some {c : Con} {x a : Bs} {v : Option Bs} (h : pairOf x = some (a, v)) : elem c x = act c (lower a) v := by unfold elem; rw [h]
theorem pairVal_none {x : Bs} (h : pairOf x = none) : pairVal x = .tuple #[.string ⟨#[]⟩, .string ⟨#[]⟩, .bool false, .bool false] := by unfold pairVal; rw [h]
theorem pairVal_some {x a : Bs} {v : Option Bs} (h : pairOf x = some (a, v)) : pairVal x = .tuple #[.string ⟨a.toArray⟩, .string (valB v), .bool (hasB v), .bool true] := by
  unfold pairVal
  rw [h]
  cases v <;> rfl
end Go.Proofs.YtmnnbefigepgfaaDoor.Ct
