/-
  Texts that the laws' proofs stand on, 3 of them in one file; each one's head says what it proves and under which condition.
-/
import Derived.Test.YtjbdgndejbiikaaDoorSgAP18
import Derived.Test.YtjbdgndejbiikaaDoorSgAP9
import Derived.Test.YtjbdgndejbiikaaDoorSgAP20
import Derived.Test.YtjbdgndejbiikaaDoorSgAP15
import Derived.Test.YtjbdgndejbiikaaDoorSgAP1
/-
  What a directive does, by its kind: plain functions. No program's run, no condition.
-/
namespace Go.Proofs.YtjbdgndejbiikaaDoor.Ct
open Go.RowKit Go.Proofs.YtjbdgndejbiikaaDoor.Tk Go.Proofs.YtjbdgndejbiikaaDoor.Fd Go.Proofs.YtjbdgndejbiikaaDoor.Hd
set_option maxRecDepth 100000
set_option linter.unusedVariables false

theorem act_none (c : Con) (nm : Bs) (v : Option Bs) (h : ∀ k, k < 13 → nm ≠ nameOf k) : act c nm v = c := by
  unfold act
  rw [if_neg (show ¬ nm = nst from h 0 (by omega)), if_neg (show ¬ nm = nca from h 1 (by omega)), if_neg (show ¬ nm = pri from h 2 (by omega)), if_neg (show ¬ nm = pub from h 3 (by omega)), if_neg (show ¬ nm = mus from h 4 (by omega)), if_neg (show ¬ nm = pro from h 5 (by omega)), if_neg (show ¬ nm = onl from h 6 (by omega)), if_neg (show ¬ nm = age from h 7 (by omega)), if_neg (show ¬ nm = sma from h 8 (by omega)), if_neg (show ¬ nm = swr from h 9 (by omega)), if_neg (show ¬ nm = sie from h 10 (by omega)), if_neg (show ¬ nm = mif from h 11 (by omega)), if_neg (show ¬ nm = mst from h 12 (by omega))]
theorem table_none (nm : Bs) (h : table.lookup nm = none) : ∀ k, k < 13 → nm ≠ nameOf k := by
  intro k hk e
  rw [e, table_at k hk] at h
  cases h
theorem table_some (nm : Bs) (d : Kind) (h : table.lookup nm = some d) : ∃ k, k < 13 ∧ nm = nameOf k ∧ d = kindOf k := by
  by_cases hx : ∃ k, k < 13 ∧ nm = nameOf k
  · obtain ⟨k, hk, rfl⟩ := hx
    rw [table_at k hk] at h
    injection h with h
    exact ⟨k, hk, rfl, h.symm⟩
  · rw [lookup_none (fun p hp => by obtain ⟨k, hk, rfl⟩ := List.mem_map.1 hp; intro e; exact hx ⟨k, List.mem_range.1 hk, e⟩)] at h
    cases h
/-- A pair's value, as both results of Pair have it. -/
def valB : Option Bs → ByteArray
  | none => ⟨#[]⟩
  | some x => ⟨x.toArray⟩
def hasB : Option Bs → Bool
  | none => false
  | some _ => true
theorem told_same (d : Int) (v : Option Bs) : told d d (valB v) (hasB v) = (numV v).getD d := by
  cases v with
  | none => rfl
  | some x =>
    show told d d ⟨x.toArray⟩ true = (numB x).getD d
    unfold told numB
    rw [if_neg (by decide)]
    cases h : (Num.numOf ⟨x.toArray⟩ most).2 with
    | false => rfl
    | true => rfl
theorem leastP_numV {a : Int} (ha : -1 ≤ a) (v : Option Bs) : leastP a (told (-1) (-1) (valB v) (hasB v)) = upd a (numV v) := by
  rw [told_same]
  cases h : numV v with
  | none => exact leastP_unsaid ha
  | some n => exact leastP_least ha (numV_bd h).1
theorem leastP_zero {a : Int} (ha : -1 ≤ a) (v : Option Bs) : leastP a (told 0 0 (valB v) (hasB v)) = least a ((numV v).getD 0) := by
  rw [told_same]
  exact leastP_least ha (getD_bd v).1
theorem leastP_stale {a : Int} (ha : -1 ≤ a) (v : Option Bs) : leastP a (told 2147483648 (-1) (valB v) (hasB v)) = upd a (stale v) := by
  cases v with
  | none => exact leastP_least ha (by decide)
  | some x =>
    have h := leastP_numV ha (some x)
    exact h
/-- A number's cell. -/
def numAt (c : Con) : Nat → Int
  | 7 => c.ag
  | 8 => c.sh
  | 9 => c.wh
  | 10 => c.ie
  | 11 => c.mf
  | _ => c.ms
/-- What a directive's kind makes of the cells. -/
def setK (c : Con) (k : Kind) (v : ByteArray) (has : Bool) : Array Value := match k with
  | .flag i => (cells c).setIfInBounds i (.bool true)
  | .num i b wr => (cells c).setIfInBounds i (.int .i64 (leastP (numAt c i) (told b wr v has)))
theorem act_kind (c : Con) (hc : Fine c) (v : Option Bs) : ∀ k, k < 13 → cells (act c (nameOf k) v) = setK c (kindOf k) (valB v) (hasB v) := by
  refine below13 ?_ ?_ ?_ ?_ ?_ ?_ ?_ ?_ ?_ ?_ ?_ ?_ ?_
  · show cells (act c nst v) = _; rw [act_ns]; rfl
  · show cells (act c nca v) = _; rw [act_nc]; rfl
  · show cells (act c pri v) = _; rw [act_pr]; rfl
  · show cells (act c pub v) = _; rw [act_pub]; rfl
  · show cells (act c mus v) = _; rw [act_mu]; rfl
  · show cells (act c pro v) = _; rw [act_px]; rfl
  · show cells (act c onl v) = _; rw [act_oc]; rfl
  · show cells (act c age v) = (cells c).setIfInBounds 7 (.int .i64 (leastP c.ag (told 0 0 (valB v) (hasB v)))); rw [act_ag, leastP_zero hc.ag]; rfl
  · show cells (act c sma v) = (cells c).setIfInBounds 8 (.int .i64 (leastP c.sh (told 0 0 (valB v) (hasB v)))); rw [act_sh, leastP_zero hc.sh]; rfl
  · show cells (act c swr v) = (cells c).setIfInBounds 9 (.int .i64 (leastP c.wh (told (-1) (-1) (valB v) (hasB v)))); rw [act_wh, leastP_numV hc.wh]; rfl
  · show cells (act c sie v) = (cells c).setIfInBounds 10 (.int .i64 (leastP c.ie (told (-1) (-1) (valB v) (hasB v)))); rw [act_ie, leastP_numV hc.ie]; rfl
  · show cells (act c mif v) = (cells c).setIfInBounds 11 (.int .i64 (leastP c.mf (told (-1) (-1) (valB v) (hasB v)))); rw [act_mf, leastP_numV hc.mf]; rfl
  · show cells (act c mst v) = (cells c).setIfInBounds 12 (.int .i64 (leastP c.ms (told 2147483648 (-1) (valB v) (hasB v)))); rw [act_ms, leastP_stale hc.ms]; rfl
/-- What a directive's call leaves: one cell of the struct turned. -/
def DirPost (g : Nat) (c' : Con) (w : World) (e : Ending) (w' : World) : Prop := e = .returned (.tuple #[]) ∧ ∃ i x, PutAt w w' ⟨g, i, none⟩ x ∧ ConAt w' g c'
def FlagWay (g : Nat) (c' : Con) (v : ByteArray) (has : Bool) (w : World) (d : Value) : Prop :=
  ∃ b, d = .agg #[.func (.func 67) #[] #[.pointer (some ⟨b, 0, none⟩)]] ∧ Calls Tryd.prog 67 #[.string v, .bool has, .pointer (some ⟨b, 0, none⟩)] w (DirPost g c' w)
def NumWay (g : Nat) (c' : Con) (v : ByteArray) (has : Bool) (w : World) (d : Value) : Prop :=
  ∃ b0 b1 b2, d = .agg #[.func (.func 68) #[] #[.pointer (some ⟨b0, 0, none⟩), .pointer (some ⟨b1, 0, none⟩), .pointer (some ⟨b2, 0, none⟩)]] ∧
    Calls Tryd.prog 68 #[.string v, .bool has, .pointer (some ⟨b0, 0, none⟩), .pointer (some ⟨b1, 0, none⟩), .pointer (some ⟨b2, 0, none⟩)] w (DirPost g c' w)
theorem way_flag {g i : Nat} {c c' : Con} {v : ByteArray} {has : Bool} {w : World} {x : Value} (hx : (cells c)[i]? = some x) (hc : ConAt w g c) (e : cells c' = setK c (.flag i) v has) {d : Value} (hd : DirOf w g (.flag i) d) : FlagWay g c' v has w d := by
  obtain ⟨b, rfl, hg, hvb⟩ := hd
  exact ⟨b, rfl, (flag1_any g i b x v has w hvb ((conAt_cell hc i).trans hx) (free hc i)).mono fun e2 w' ⟨h1, h2⟩ => ⟨h1, i, _, h2, h2.con hc e.symm⟩⟩
theorem way_num {g i : Nat} {c c' : Con} {v : ByteArray} {has : Bool} {w : World} {b wr : Int} (hv : v.size ≤ maxLen) (hx : (cells c)[i]? = some (.int .i64 (numAt c i))) (hc : ConAt w g c) (e : cells c' = setK c (.num i b wr) v has) {d : Value} (hd : DirOf w g (.num i b wr) d) : NumWay g c' v has w d := by
  obtain ⟨b0, b1, b2, rfl, g0, g1, g2, v0, v1, v2⟩ := hd
  exact ⟨b0, b1, b2, rfl, (number1_any g i b0 b1 b2 _ b wr v has w hv v0 v1 v2 ((conAt_cell hc i).trans hx) (free hc i)).mono fun e2 w' ⟨h1, h2⟩ => ⟨h1, i, _, h2, h2.con hc e.symm⟩⟩
/-- A directive's call. -/
theorem dir_call (g : Nat) (c c' : Con) (v : ByteArray) (has : Bool) (w : World) (hv : v.size ≤ maxLen) (hc : ConAt w g c) (d : Value) : ∀ k, k < 13 → cells c' = setK c (kindOf k) v has → DirOf w g (kindOf k) d → FlagWay g c' v has w d ∨ NumWay g c' v has w d := by
  refine below13 ?_ ?_ ?_ ?_ ?_ ?_ ?_ ?_ ?_ ?_ ?_ ?_ ?_
  · exact fun e hd => .inl (way_flag (i := 0) rfl hc e hd)
  · exact fun e hd => .inl (way_flag (i := 1) rfl hc e hd)
  · exact fun e hd => .inl (way_flag (i := 2) rfl hc e hd)
  · exact fun e hd => .inl (way_flag (i := 3) rfl hc e hd)
  · exact fun e hd => .inl (way_flag (i := 4) rfl hc e hd)
  · exact fun e hd => .inl (way_flag (i := 5) rfl hc e hd)
  · exact fun e hd => .inl (way_flag (i := 6) rfl hc e hd)
  · exact fun e hd => .inr (way_num (i := 7) hv rfl hc e hd)
  · exact fun e hd => .inr (way_num (i := 8) hv rfl hc e hd)
  · exact fun e hd => .inr (way_num (i := 9) hv rfl hc e hd)
  · exact fun e hd => .inr (way_num (i := 10) hv rfl hc e hd)
  · exact fun e hd => .inr (way_num (i := 11) hv rfl hc e hd)
  · exact fun e hd => .inr (way_num (i := 12) hv rfl hc e hd)
/-- One element, by what its pair is. -/
theorem elem_none {c : Con} {x : Bs} (h : pairOf x = none) : elem c x = c := by unfold elem; rw [h]
theorem elem_some {c : Con} {x a : Bs} {v : Option Bs} (h : pairOf x = some (a, v)) : elem c x = act c (lower a) v := by unfold elem; rw [h]
theorem pairVal_none {x : Bs} (h : pairOf x = none) : pairVal x = .tuple #[.string ⟨#[]⟩, .string ⟨#[]⟩, .bool false, .bool false] := by unfold pairVal; rw [h]
theorem pairVal_some {x a : Bs} {v : Option Bs} (h : pairOf x = some (a, v)) : pairVal x = .tuple #[.string ⟨a.toArray⟩, .string (valB v), .bool (hasB v), .bool true] := by
  unfold pairVal
  rw [h]
  cases v <;> rfl
end Go.Proofs.YtjbdgndejbiikaaDoor.Ct
/-
  Slices of texts as the model has them. No condition.
-/
namespace Go.Proofs.YtjbdgndejbiikaaDoor.Fd
open Go.RowKit Tk

/-- A text as the model has it. -/
def TS (x : Bs) : Value := .string ⟨x.toArray⟩
/-- A slice value that reads as these texts. -/
def Texts (w : World) (v : Value) (ls : List Bs) : Prop :=
  (ls = [] ∧ ∃ a cap, v = .slice a 0 cap) ∨ ∃ g off cap, v = .slice (some ⟨g, off, none⟩) ls.length cap ∧ ∀ j (hj : j < ls.length), w.cell? ⟨g, off + j, none⟩ = some (TS ls[j])
theorem Texts.of_owns {w : World} {base : Nat} {v : Value} {ls : List Bs} {n : Nat} {t : TypeId} (h : w.ownsRow base t 1 v n (ls.map TS)) (hn : n = ls.length) : Texts w v ls := by
  subst hn
  rcases h.2 with ⟨hv, h0⟩ | ⟨g, cap, cur, hv, _⟩
  · exact .inl ⟨List.length_eq_zero_iff.1 h0, none, 0, by rw [hv]⟩
  · refine .inr ⟨g, 0, cap, hv, fun j hj => ?_⟩
    rw [hv] at h
    rw [Nat.zero_add, h.cellAt j (by omega), List.getElem?_map, List.getElem?_eq_getElem hj]; rfl
theorem Texts.shape {w : World} {v : Value} {ls : List Bs} (h : Texts w v ls) : ∃ a cap, v = .slice a ls.length cap := by
  rcases h with ⟨rfl, a, cap, hv⟩ | ⟨g, off, cap, hv, _⟩
  · exact ⟨a, cap, hv⟩
  · exact ⟨_, cap, hv⟩

end Go.Proofs.YtjbdgndejbiikaaDoor.Fd
/-
  The closure of token.Split that ends an element. Condition: a text of at most 2^32 bytes.
-/
namespace Go.Proofs.YtjbdgndejbiikaaDoor.Tk
open Go.RowKit

theorem infoString : (Tryd.prog.info? 9).map (fun i => (i.zero, i.size, i.bytes)) = some (some (.string ⟨#[]⟩), 1, 16) := by kernel_rfl

/-- The part of the text that is handed to trim. -/
theorem part_holds {w : World} {B fr til : Nat} {l : Bs} (h : Holds w B 0 l) (htil : til ≤ l.length) : Holds w B fr ((l.take til).drop fr) := by
  have := h.part fr til htil
  rwa [Nat.zero_add] at this

/-- Only the place where the element begins has turned. -/
theorem Inv.moved {w0 w : World} {B cap fr til : Nat} {l : Bs} {ls : List Bs} {C : Array Value} (h : Inv w0 B l cap fr ls C w) (hf : fr ≤ til) :
    Inv w0 B l cap (til + 1) ls C (w.setCell ⟨B + 3, 0, none⟩ (.int .i64 ((til : Int) + 1))) := by
  obtain ⟨v, hv, hown⟩ := h.list
  have e : ((til : Int) + 1) = ((til + 1 : Nat) : Int) := by omega
  refine ⟨h.base, ?_, h.bytes, h.room, ?_, ?_, ⟨v, ?_, ?_⟩, ?_, h.below.setCell (by show B ≤ B + 3; omega) _⟩
  · rw [Below.heap_setCell _ _ _ _ (by show B ≠ B + 3; omega)]; exact h.text
  · rw [Below.heap_setCell _ _ _ _ (by show B + 1 ≠ B + 3; omega)]; exact h.vText
  · rw [e]; exact one_setCell h.vFrom
  · rw [Below.heap_setCell _ _ _ _ (by show B + 2 ≠ B + 3; omega)]; exact hv
  · exact ownsRow_setCell_below hown (by show B + 3 < B + 4; omega) _
  · have := h.few; omega

set_option maxHeartbeats 1000000 in
theorem end_none (w0 : World) (B cap fr til : Nat) (l : Bs) (ls : List Bs) (C : Array Value) (w : World) (h : Inv w0 B l cap fr ls C w) (hl : l.length ≤ 4294967296) (hf : fr ≤ til) (ht : til ≤ l.length) (hz : trim ((l.take til).drop fr) = []) :
    Calls Tryd.prog 45 #[.int .i64 (til : Int), .pointer (some ⟨B + 1, 0, none⟩), .pointer (some ⟨B + 3, 0, none⟩), .pointer (some ⟨B + 2, 0, none⟩)] w fun e w' => e = .returned (.tuple #[]) ∧ Inv w0 B l cap (til + 1) (fin ls ((l.take til).drop fr)) C w' := by
  have hH := part_holds (fr := fr) h.holds ht
  have cT := cell_of_one h.vText
  have cF := cell_of_one h.vFrom
  have fF := free_of_one h.vFrom
  have hroom := h.room
  have HH := Lib.hid hH
  have HL := Lib.hid (part_length l fr til ht)
  have HZ := Lib.hid hz
  have HI := Lib.hid (h.moved hf)
  have HE := Lib.hid (show fin ls ((l.take til).drop fr) = ls from by unfold fin; rw [if_pos hz])
  clear hH hz h
  by_cases he : fr < til
  · go_enter Tryd.func45, Tryd.ntmps45
    go_wp2_with fail
    refine (trimSlice_at B fr (til - fr) (til - fr) _ w HL.out (by unfold maxLen; omega) (Nat.le_refl _) HH.out).mono ?_
    rintro e w' ⟨⟨off', rfl, -⟩, rfl⟩
    rw [HZ.out]
    go_wp2_with fail
    go_end0
    exact ⟨rfl, by rw [HE.out]; exact HI.out⟩
  · obtain rfl : fr = til := by omega
    go_enter Tryd.func45, Tryd.ntmps45
    go_wp2_with fail
    refine (trimSlice_at B 0 0 0 [] w rfl (by unfold maxLen; omega) (Nat.le_refl _) (Holds.nil _ _ _)).mono ?_
    rintro e w' ⟨⟨off', rfl, -⟩, rfl⟩
    rw [show trim [] = [] from rfl]
    go_wp2_with fail
    go_end0
    exact ⟨rfl, by rw [HE.out]; exact HI.out⟩

/-- Behind the append, and the stores of the list and of the place. -/
theorem Inv.grown {w0 w w1 : World} {B cap fr til : Nat} {l : Bs} {ls : List Bs} {C : Array Value} {x : Bs} {v v' : Value} (h : Inv w0 B l cap fr ls C w) (hf : fr ≤ til)
    (hv : w.heap[B + 2]? = some (.cells #[v] 40 (0, 0))) (hown : w.ownsRow (B + 4) 9 1 v ls.length (ls.map S))
    (hown' : w1.ownsRow (B + 4) 9 1 v' (ls.length + 1) (ls.map S ++ [S x])) (hg : (w.alloc (.cells #[S x] 9)).grownBy w1 v.ownBlock) :
    (∃ u, w1.cell? ⟨B + 2, 0, none⟩ = some u) ∧ w1.frozen? ⟨B + 2, 0, none⟩ = false ∧ (w1.setCell ⟨B + 2, 0, none⟩ v').cell? ⟨B + 3, 0, none⟩ = some (.int .i64 (fr : Int)) ∧ (w1.setCell ⟨B + 2, 0, none⟩ v').frozen? ⟨B + 3, 0, none⟩ = false ∧
    Inv w0 B l cap (til + 1) (ls ++ [x]) C ((w1.setCell ⟨B + 2, 0, none⟩ v').setCell ⟨B + 3, 0, none⟩ (.int .i64 ((til : Int) + 1))) := by
  have hrow : ∀ k, k < B + 4 → some k ≠ v.ownBlock := fun k hk e => by have := (hown.lt k e.symm).1; omega
  have hlt : B + 3 < w.heap.size := lt_of_block h.vFrom
  have hb : ∀ k, k < B + 4 → w1.heap[k]? = w.heap[k]? := fun k hk => by
    rw [hg.block k (by rw [World.size_alloc]; omega) (hrow k hk), Below.heap_alloc _ _ _ (by omega)]
  have bl : Below B w0 w1 := (h.below.alloc (by omega) _).grown hg (by rw [World.size_alloc]; omega) (fun k hk => by have := (hown.lt k hk).1; omega)
  have v2 := (hb (B + 2) (by omega)).trans hv
  have v3 := (hb (B + 3) (by omega)).trans h.vFrom
  have v3' : (w1.setCell ⟨B + 2, 0, none⟩ v').heap[B + 3]? = some (.cells #[.int .i64 (fr : Int)] 3 (0, 0)) := by
    rw [Below.heap_setCell _ _ _ _ (by show B + 3 ≠ B + 2; omega)]; exact v3
  have hI : Inv w0 B l cap fr (ls ++ [x]) C (w1.setCell ⟨B + 2, 0, none⟩ v') → Inv w0 B l cap (til + 1) (ls ++ [x]) C ((w1.setCell ⟨B + 2, 0, none⟩ v').setCell ⟨B + 3, 0, none⟩ (.int .i64 ((til : Int) + 1))) := fun hh => hh.moved hf
  refine ⟨⟨_, cell_of_one v2⟩, free_of_one v2, cell_of_one v3', free_of_one v3', ?_⟩
  have e : ((til : Int) + 1) = ((til + 1 : Nat) : Int) := by omega
  refine ⟨h.base, ?_, h.bytes, h.room, ?_, ?_, ⟨v', ?_, ?_⟩, ?_, (bl.setCell (by show B ≤ B + 2; omega) _).setCell (by show B ≤ B + 3; omega) _⟩
  · rw [Below.heap_setCell _ _ _ _ (by show B ≠ B + 3; omega), Below.heap_setCell _ _ _ _ (by show B ≠ B + 2; omega), hb B (by omega)]; exact h.text
  · rw [Below.heap_setCell _ _ _ _ (by show B + 1 ≠ B + 3; omega), Below.heap_setCell _ _ _ _ (by show B + 1 ≠ B + 2; omega), hb (B + 1) (by omega)]; exact h.vText
  · rw [e]; exact one_setCell v3'
  · rw [Below.heap_setCell _ _ _ _ (by show B + 2 ≠ B + 3; omega)]; exact one_setCell v2
  · have := ownsRow_setCell_below (ownsRow_setCell_below hown' (a := ⟨B + 2, 0, none⟩) (by show B + 2 < B + 4; omega) v') (a := ⟨B + 3, 0, none⟩) (by show B + 3 < B + 4; omega) (.int .i64 ((til : Int) + 1))
    simpa using this
  · have := h.few; simp; omega

theorem owns_shape {w : World} {base : Nat} {e : TypeId} {size : Nat} {v : Value} {n : Nat} {xs : List Value} (h : w.ownsRow base e size v n xs) (hn : 0 < n) : ∃ g cap, v = .slice (some ⟨g, 0, none⟩) n cap := by
  rcases h.2 with ⟨_, h0⟩ | ⟨g, cap, _, hv, _⟩
  · omega
  · exact ⟨g, cap, hv⟩

set_option maxHeartbeats 1000000 in
theorem end_some (w0 : World) (B cap fr til : Nat) (l : Bs) (ls : List Bs) (C : Array Value) (w : World) (h : Inv w0 B l cap fr ls C w) (hl : l.length ≤ 4294967296) (hf : fr ≤ til) (ht : til ≤ l.length) (hz : trim ((l.take til).drop fr) ≠ []) :
    Calls Tryd.prog 45 #[.int .i64 (til : Int), .pointer (some ⟨B + 1, 0, none⟩), .pointer (some ⟨B + 3, 0, none⟩), .pointer (some ⟨B + 2, 0, none⟩)] w fun e w' => e = .returned (.tuple #[]) ∧ Inv w0 B l cap (til + 1) (fin ls ((l.take til).drop fr)) C w' := by
  have hH := part_holds (fr := fr) h.holds ht
  have cT := cell_of_one h.vText
  have cF := cell_of_one h.vFrom
  have fF := free_of_one h.vFrom
  have hroom := h.room
  obtain ⟨v, hv, hown⟩ := h.list
  have cL := cell_of_one hv
  have fL := free_of_one hv
  have hlt : B + 3 < w.heap.size := lt_of_block h.vFrom
  have hfew := h.few
  have HH := Lib.hid hH
  have HL := Lib.hid (part_length l fr til ht)
  have HI := Lib.hid h
  have HV := Lib.hid hv
  have HE := Lib.hid (show fin ls ((l.take til).drop fr) = ls ++ [trim ((l.take til).drop fr)] from by unfold fin; rw [if_neg hz])
  have hpos : 0 < (trim ((l.take til).drop fr)).length := List.length_pos_iff.2 hz
  have he : fr < til := by
    have h1 := trim_length ((l.take til).drop fr)
    rw [HL.out] at h1; omega
  clear hH hz h hv
  obtain ⟨x, hx⟩ : ∃ x, x = trim ((l.take til).drop fr) := ⟨_, rfl⟩
  rw [← hx] at hpos HE
  have HX := Lib.hid hx
  clear hx
  obtain ⟨i0, hi, hz0, hz1, hz2⟩ := info_parts infoString
  go_enter Tryd.func45, Tryd.ntmps45
  go_wp2_with fail
  refine (trimSlice_at B fr (til - fr) (til - fr) _ w HL.out (by unfold maxLen; omega) (Nat.le_refl _) HH.out).mono ?_
  rintro e w' ⟨⟨off', rfl, hh⟩, rfl⟩
  rw [← HX.out]
  rw [← HX.out] at hh
  have hback := run_back (P := Tryd.prog) w 77 9 5 B off' x.length x Tryd.underlying77 Tryd.underlying5 Tryd.underlying9 hh
  clear hh
  go_wp2_with (at_builtin; refine wpList_append_own _ rfl _ _ 40 rfl (B + 4) 9 i0 (.string ⟨#[]⟩) 1 16 Tryd.underlying40 hi hz0 hz1 hz2 rfl (by decide) _ _ _ rfl (hown.alloc _) ⟨w.heap.size, 0, none⟩ 1 1 [S x] rfl rfl ?c1 ?c2 ?c3 ?c4 ?c5 ?_)
  case c1 =>
    intro j u hj
    match j, hj with
    | 0, hj => simp at hj; subst hj; simp [Addr.add, S]
  case c2 => intro u hu; simp at hu; subst hu; rfl
  case c3 => unfold maxLen; omega
  case c4 => omega
  case c5 => simp; omega
  · intro v' w1 hown' hgrow _
    obtain ⟨⟨u, g1⟩, g2, g3, g4, g5⟩ := HI.out.grown hf HV.out hown hown' hgrow
    have HG := Lib.hid g5
    obtain ⟨g, cap', hv'⟩ := owns_shape hown' (by omega)
    clear g5 hown' hgrow
    rw [hv']
    rw [hv'] at g3 g4 HG
    clear hv'
    go_wp2_with fail
    go_end0
    exact ⟨rfl, by rw [HE.out]; exact HG.out⟩

/-- The closure, whatever the element. -/
theorem end_any (w0 : World) (B cap fr til : Nat) (l : Bs) (ls : List Bs) (C : Array Value) (w : World) (h : Inv w0 B l cap fr ls C w) (hl : l.length ≤ 4294967296) (hf : fr ≤ til) (ht : til ≤ l.length) :
    Calls Tryd.prog 45 #[.int .i64 (til : Int), .pointer (some ⟨B + 1, 0, none⟩), .pointer (some ⟨B + 3, 0, none⟩), .pointer (some ⟨B + 2, 0, none⟩)] w fun e w' => e = .returned (.tuple #[]) ∧ Inv w0 B l cap (til + 1) (fin ls ((l.take til).drop fr)) C w' := by
  by_cases hz : trim ((l.take til).drop fr) = []
  · exact end_none w0 B cap fr til l ls C w h hl hf ht hz
  · exact end_some w0 B cap fr til l ls C w h hl hf ht hz
end Go.Proofs.YtjbdgndejbiikaaDoor.Tk
