/-
  Texts that the laws' proofs stand on, 3 of them in one file; each one's head says what it proves and under which condition.
-/
import Derived.Test.YtledjiikpajdaaaDoorVtAllP9
import Derived.Test.YtledjiikpajdaaaDoorVtAllP11
import Derived.Test.YtledjiikpajdaaaDoorVtAllP14
import Derived.Test.YtledjiikpajdaaaDoorVtAllP15
import Derived.Test.YtledjiikpajdaaaDoorVtAllP16
/-
  What Set and Del leave, asked by Get: plain functions. No program, no condition.
-/
namespace Go.Proofs.YtledjiikpajdaaaDoor.Fd
open Tk

/-- The fields behind Set. -/
def setF (fs : List Fl) (nm val : ByteArray) : List Fl := del fs nm.data.toList ++ [(nm, val)]
theorem alike_refl (a : Bs) : alike a a = true := by unfold alike; simp
theorem has_other {nm other : Bs} (h : alike nm other = false) {f : Fl} (hf : has nm f = true) : has other f = false := by
  unfold has alike at *
  rw [beq_iff_eq] at hf
  rw [hf]; exact h
theorem sel_del (fs : List Fl) (nm : Bs) : sel (del fs nm) nm = [] := by
  unfold sel del
  rw [List.filter_filter]
  have e : (fs.filter fun a => has nm a && !has nm a) = [] := by
    rw [List.filter_eq_nil_iff]; intro a _; cases has nm a <;> simp
  rw [e]; rfl
theorem sel_del_other (fs : List Fl) {nm other : Bs} (h : alike nm other = false) : sel (del fs nm) other = sel fs other := by
  unfold sel del
  rw [List.filter_filter]
  congr 1
  apply List.filter_congr
  intro a _
  cases ha : has nm a with
  | false => simp
  | true => rw [has_other h ha]; rfl
theorem sel_set (fs : List Fl) (nm val : ByteArray) : sel (setF fs nm val) nm.data.toList = [val.data.toList] := by
  have h := sel_del fs nm.data.toList
  unfold setF
  unfold sel at h ⊢
  rw [List.filter_append, List.map_append, h]
  have e : has nm.data.toList (nm, val) = true := alike_refl _
  simp [e]
theorem sel_set_other (fs : List Fl) (nm val : ByteArray) {other : Bs} (h : alike nm.data.toList other = false) : sel (setF fs nm val) other = sel fs other := by
  have h2 := sel_del_other fs h
  unfold setF
  unfold sel at h2 ⊢
  rw [List.filter_append, List.map_append, h2]
  have e : has other (nm, val) = false := h
  simp [e]
theorem del_del (fs : List Fl) (nm : Bs) : del (del fs nm) nm = del fs nm := by
  unfold del; rw [List.filter_filter]; congr 1; funext a; simp
theorem del_set (fs : List Fl) (nm val : ByteArray) : del (setF fs nm val) nm.data.toList = del fs nm.data.toList := by
  have h := del_del fs nm.data.toList
  unfold setF
  unfold del at h ⊢
  rw [List.filter_append, h]
  have e : has nm.data.toList (nm, val) = true := alike_refl _
  simp [e]
theorem tot_del (fs : List Fl) (nm : Bs) : tot (del fs nm) ≤ tot fs := tot_filter _ fs
theorem tot_set (fs : List Fl) (nm val : ByteArray) : tot (setF fs nm val) ≤ tot fs + nm.size + val.size + 1 := by
  unfold setF; rw [tot_append]
  have := tot_del fs nm.data.toList
  have e : tot [(nm, val)] = nm.size + val.size + 1 := by simp [tot]
  omega
theorem get_set (fs : List Fl) (nm val : ByteArray) : getT (setF fs nm val) nm.data.toList = val.data.toList ∧ getN (setF fs nm val) nm.data.toList = 1 := by
  unfold getT getN; rw [sel_set]; exact ⟨rfl, rfl⟩
theorem get_del (fs : List Fl) (nm : Bs) : getT (del fs nm) nm = [] ∧ getN (del fs nm) nm = 0 := by
  unfold getT getN; rw [sel_del]; exact ⟨rfl, rfl⟩
theorem get_set_other (fs : List Fl) (nm val : ByteArray) {other : Bs} (h : alike nm.data.toList other = false) : getT (setF fs nm val) other = getT fs other ∧ getN (setF fs nm val) other = getN fs other := by
  unfold getT getN; rw [sel_set_other fs nm val h]; exact ⟨rfl, rfl⟩
theorem get_del_other (fs : List Fl) {nm other : Bs} (h : alike nm other = false) : getT (del fs nm) other = getT fs other ∧ getN (del fs nm) other = getN fs other := by
  unfold getT getN; rw [sel_del_other fs h]; exact ⟨rfl, rfl⟩
end Go.Proofs.YtledjiikpajdaaaDoor.Fd
/-
  The names that a text lists, and what Strip takes away: plain functions. No program, no condition.
-/
namespace Go.Proofs.YtledjiikpajdaaaDoor.Fd
open Tk

theorem put_piece {own : Bs} {rest : List Bs} {n : Nat} (h1 : own.length ≤ n) (h2 : ∀ x ∈ rest, x.length ≤ n) : ∀ x ∈ put own rest, x.length ≤ n := by
  unfold put
  split
  · exact h2
  · intro x hx
    rw [List.mem_cons] at hx
    rcases hx with rfl | hx
    · exact Nat.le_trans (trim_length own) h1
    · exact h2 x hx
/-- No element is longer than the text. -/
theorem sp_piece : ∀ (n : Nat) (r : Bs), r.length ≤ n → ∀ q own ls, sp q own r = some ls → ∀ x ∈ ls, x.length ≤ own.length + r.length
  | 0, r, h, q, own, ls, hs => by
    have : r = [] := List.length_eq_zero_iff.1 (by omega)
    subst this
    cases q with
    | true => rw [sp_nil_q] at hs; cases hs
    | false => rw [sp_nil] at hs; injection hs with hs; subst hs; exact put_piece (by simp) (by simp)
  | n + 1, r, h, q, own, ls, hs => by
    match r with
    | [] =>
      cases q with
      | true => rw [sp_nil_q] at hs; cases hs
      | false => rw [sp_nil] at hs; injection hs with hs; subst hs; exact put_piece (by simp) (by simp)
    | c :: r =>
      have hr : r.length ≤ n := by simp at h; omega
      cases q with
      | false =>
        by_cases h44 : c = 44
        · subst h44
          rw [sp_comma, Option.map_eq_some_iff] at hs
          obtain ⟨x, hx, rfl⟩ := hs
          have h1 := sp_piece n r hr _ _ _ hx
          refine put_piece (by simp) (fun y hy => ?_)
          have := h1 y hy
          simp at this ⊢; omega
        · by_cases h34 : c = 34
          · subst h34; rw [sp_open] at hs
            intro y hy; have := sp_piece n r hr _ _ _ hs y hy; simp at this ⊢; omega
          · rw [sp_other _ _ h44 h34] at hs
            intro y hy; have := sp_piece n r hr _ _ _ hs y hy; simp at this ⊢; omega
      | true =>
        by_cases h34 : c = 34
        · subst h34; rw [sp_q_close] at hs
          intro y hy; have := sp_piece n r hr _ _ _ hs y hy; simp at this ⊢; omega
        · by_cases h92 : c = 92
          · subst h92
            match r with
            | [] => rw [sp_q_last] at hs; cases hs
            | d :: r' =>
              rw [sp_q_back] at hs
              intro y hy; have := sp_piece n r' (by simp at h; omega) _ _ _ hs y hy; simp at this ⊢; omega
          · rw [sp_q_other _ _ h34 h92] at hs
            intro y hy; have := sp_piece n r hr _ _ _ hs y hy; simp at this ⊢; omega
theorem split_piece {l : Bs} {ls : List Bs} (h : splitOf l = some ls) : ∀ x ∈ ls, x.length ≤ l.length := by
  intro x hx; have := sp_piece _ l (Nat.le_refl _) _ _ _ h x hx; simpa using this

/-- The names that a text lists: its elements in small letters; none, if one is no token. -/
def namesOf (t : Bs) : Option (List Bs) := match splitOf t with
  | none => none
  | some ls => if ls.all isTok then some (ls.map lower) else none
theorem names_none {t : Bs} (h : splitOf t = none) : namesOf t = none := by unfold namesOf; rw [h]
theorem names_bad {t : Bs} {ls : List Bs} (h : splitOf t = some ls) (j : Nat) (hj : j < ls.length) (hb : isTok ls[j] = false) : namesOf t = none := by
  unfold namesOf; rw [h]
  have : ls.all isTok = false := by rw [List.all_eq_false]; exact ⟨ls[j], List.getElem_mem hj, by simp [hb]⟩
  simp [this]
theorem names_good {t : Bs} {ls : List Bs} (h : splitOf t = some ls) (hb : ls.all isTok = true) : namesOf t = some (ls.map lower) := by
  unfold namesOf; rw [h]; simp [hb]
theorem names_length {t : Bs} {ls : List Bs} (h : namesOf t = some ls) : ls.length ≤ t.length + 1 := by
  unfold namesOf at h
  split at h
  · cases h
  · rename_i ms hs
    split at h
    · injection h with h; subst h; rw [List.length_map]; exact split_length hs
    · cases h
theorem names_piece {t : Bs} {ls : List Bs} (h : namesOf t = some ls) : ∀ x ∈ ls, x.length ≤ t.length := by
  unfold namesOf at h
  split at h
  · cases h
  · rename_i ms hs
    split at h
    · injection h with h; subst h
      intro x hx
      obtain ⟨y, hy, rfl⟩ := List.mem_map.1 hx
      rw [lower_length]; exact split_piece hs y hy
    · cases h
theorem all_next (ls : List Bs) (k : Nat) (h : k < ls.length) (h1 : (ls.take k).all isTok = true) (h2 : isTok ls[k] = true) : (ls.take (k + 1)).all isTok = true := by
  rw [take_next ls k h, List.all_append, h1]; simp [h2]
/-- A list whose first k elements stand in small letters. -/
def half (ls : List Bs) (k : Nat) : List Bs := (ls.take k).map lower ++ ls.drop k
theorem half_zero (ls : List Bs) : half ls 0 = ls := by simp [half]
theorem half_all (ls : List Bs) : half ls ls.length = ls.map lower := by simp [half]
theorem half_length (ls : List Bs) (k : Nat) (h : k ≤ ls.length) : (half ls k).length = ls.length := by simp [half]; omega
theorem half_len (ls : List Bs) (k : Nat) (h : k < ls.length) : ((ls.take k).map lower).length = k := by rw [List.length_map, List.length_take]; omega
theorem half_at (ls : List Bs) (k : Nat) (h : k < ls.length) : (half ls k)[k]? = some ls[k] := by
  have e := half_len ls k h
  unfold half
  rw [List.getElem?_append_right (by omega), e, Nat.sub_self, List.getElem?_drop, Nat.add_zero, List.getElem?_eq_getElem h]
theorem half_set (ls : List Bs) (k : Nat) (h : k < ls.length) : (half ls k).set k (lower ls[k]) = half ls (k + 1) := by
  have e := half_len ls k h
  unfold half
  rw [List.set_append_right _ _ (by omega), e, Nat.sub_self, List.drop_eq_getElem_cons h, List.set_cons_zero, take_next ls k h, List.map_append, List.map_cons, List.map_nil, List.append_assoc]
  rfl
end Go.Proofs.YtledjiikpajdaaaDoor.Fd
/-
  validator.Unchanged and Applies: what they return. Conditions: fields of at most 100000 bytes in all, a tag of at most 10^6 bytes, a second that a date can tell; the tables hold what the program's text lays.
-/
namespace Go.Proofs.YtledjiikpajdaaaDoor.Vd
open Go.RowKit Go.Proofs.YtledjiikpajdaaaDoor.Tk Go.Proofs.YtledjiikpajdaaaDoor.Fd Go.Proofs.YtledjiikpajdaaaDoor.Hd Go.Proofs.YtledjiikpajdaaaDoor.Ct
set_option maxRecDepth 100000
set_option linter.unusedVariables false

def txts (ls : List Bs) : List ByteArray := ls.map fun x => ⟨x.toArray⟩
theorem row_strs {w : World} {base : Nat} {v : Value} {ls : List Bs} (h : w.ownsRow base 9 1 v ls.length (ls.map S)) : Strs w v (txts ls) := by
  cases hl : ls with
  | nil =>
    subst hl
    left
    refine ⟨rfl, ?_⟩
    rcases h.2 with ⟨hv, _⟩ | ⟨g, cap, cur, hv, _⟩
    · exact ⟨none, 0, hv⟩
    · exact ⟨_, cap, hv⟩
  | cons x r =>
    rw [← hl]
    have h0 : 0 < ls.length := by rw [hl]; simp
    rcases h.2 with ⟨_, h1⟩ | ⟨g, cap, cur, hv, _⟩
    · omega
    · subst hv
      right
      have hc : ∀ j (hj : j < (txts ls).length), w.cell? ⟨g, 0 + j, none⟩ = some (.string (txts ls)[j]) := by
        intro j hj
        have hj2 : j < ls.length := by simpa [txts] using hj
        rw [Nat.zero_add, h.cellAt j (by simpa using hj2), List.getElem?_map, List.getElem?_eq_getElem hj2]
        simp [txts, S]
      refine ⟨g, 0, cap, by rw [show (txts ls).length = ls.length from by simp [txts]], ?_, hc⟩
      have := hc 0 (by simpa [txts] using h0)
      exact World.block_lt_of_cell? w ⟨g, 0 + 0, none⟩ this
theorem any_txts (p : Bs → Bool) (ls : List Bs) : (txts ls).any (fun s => p s.data.toList) = ls.any p := by
  unfold txts
  rw [List.any_map]; rfl
theorem like_same (own : Tag) (x : Bs) : likeBy weakT (some own) x = sameTag own x := by
  unfold likeBy sameTag
  cases parseTag x with
  | none => rfl
  | some t => exact weak_comm own t
/-- What a list of tags says. -/
theorem tags_any {s tag : Bs} (hs : s ≠ [42]) : tagsOk s tag = ((splitOf s).getD []).any (likeBy weakT (parseTag tag)) := by
  unfold tagsOk
  rw [beq_eq_false_iff_ne.2 hs, Bool.false_or]
  cases parseTag tag with
  | none =>
    cases splitOf s with
    | none => rfl
    | some l =>
      symm
      show l.any (likeBy weakT none) = false
      rw [Bool.eq_false_iff]; intro h
      obtain ⟨x, _, h2⟩ := List.any_eq_true.1 h
      cases h2
  | some own =>
    cases splitOf s with
    | none => rfl
    | some l =>
      show l.any (sameTag own) = l.any (likeBy weakT (some own))
      congr 1
      funext x
      exact (like_same own x).symm
theorem unchanged_not (P : Bs → Option Int) {meth : Bs} (fs : List Fl) (tag : Bs) (md : Int) (h1 : meth ≠ getM) (h2 : meth ≠ headM) : unchangedOf P meth fs tag md = false := if_pos ⟨h1, h2⟩
theorem unchanged_tags (P : Bs → Option Int) {meth : Bs} (fs : List Fl) (tag : Bs) (md : Int) (h1 : meth = getM ∨ meth = headM) (h : 0 < getN fs inmL) : unchangedOf P meth fs tag md = tagsOk (getT fs inmL) tag := by
  unfold unchangedOf
  rw [if_neg (by rcases h1 with h | h <;> simp [h]), if_pos h]
theorem unchanged_since (P : Bs → Option Int) {meth : Bs} (fs : List Fl) (tag : Bs) (md : Int) (h1 : meth = getM ∨ meth = headM) (h : getN fs inmL = 0) : unchangedOf P meth fs tag md = (decide (getN fs imsL = 1) && sinceOk P (getT fs imsL) md) := by
  unfold unchangedOf
  rw [if_neg (by rcases h1 with h | h <;> simp [h]), if_neg (by omega)]
theorem text_ne {s : ByteArray} {l : Bs} (h : s ≠ ⟨l.toArray⟩) : (s.toList == l) = false := by
  rw [beq_eq_false_iff_ne, ByteArray.toList_eq]; intro e; apply h
  cases s with
  | mk d => cases d with
    | mk r => simp at e; subst e; rfl
abbrev reqObj (a b : ByteArray) (mi : Int) (u : Value) : Obj := .cells #[.string a, .string b, .int .i64 mi, u] 24 (0, 0)
abbrev metObj (m : Mta) : Obj := .cells (mcells m) 28 (0, 0)
/-- Both parameters in memory. -/
structure Par (w : World) (a b : ByteArray) (mi : Int) (u : Value) (m : Mta) (W : World) : Prop where
  req : W.heap[w.heap.size]? = some (reqObj a b mi u)
  met : W.heap[w.heap.size + 1]? = some (metObj m)
  bel : Below w.heap.size w W
theorem Par.new (w : World) (a b : ByteArray) (mi : Int) (u : Value) (m : Mta) : Par w a b mi u m ((w.alloc (reqObj a b mi u)).alloc (metObj m)) :=
  ⟨(old_block _ _ (by simp)).trans (new_block _ _), new_block' _ _ (by simp), ((Below.refl w.heap.size w).alloc (Nat.le_refl _) _).alloc (by simp) _⟩
theorem Par.more {w W W' : World} {a b : ByteArray} {mi : Int} {u : Value} {m : Mta} (h : Par w a b mi u m W) (hb : Below W.heap.size W W') : Par w a b mi u m W' :=
  ⟨Bl.old hb (block_lt h.req) h.req, Bl.old hb (block_lt h.met) h.met, Bl.next h.bel hb⟩
theorem Par.cells {w W : World} {a b : ByteArray} {mi : Int} {u : Value} {m : Mta} (h : Par w a b mi u m W) :
    W.cell? ⟨w.heap.size, 0, none⟩ = some (.string a) ∧ W.cell? ⟨w.heap.size, 3, none⟩ = some u ∧ W.cell? ⟨w.heap.size + 1, 16, none⟩ = some (.int .i64 m.mod) ∧ W.cell? ⟨w.heap.size + 1, 20, none⟩ = some (.string m.tag) :=
  ⟨by rw [Lib.cell_of_heap h.req]; rfl, by rw [Lib.cell_of_heap h.req]; rfl, by rw [Lib.cell_of_heap h.met]; rfl, by rw [Lib.cell_of_heap h.met]; rfl⟩
theorem split_strs {l : Bs} {w : World} {e : Ending} {w' : World} (h : SplitPost l w e w') : ∃ v ok, e = .returned (.tuple #[v, .bool ok]) ∧ Strs w' v (txts ((splitOf l).getD [])) ∧ Below w.heap.size w w' := by
  obtain ⟨hb, h⟩ := h
  rcases h with ⟨h1, rfl⟩ | ⟨ls, v, h1, rfl, h2⟩
  · exact ⟨_, _, rfl, by rw [h1]; exact .inl ⟨rfl, none, 0, rfl⟩, hb⟩
  · exact ⟨_, _, rfl, by rw [h1]; exact row_strs h2, hb⟩
theorem txts_size (l : Bs) : ∀ s ∈ txts ((splitOf l).getD []), s.size ≤ l.length := by
  intro s hs
  cases h : splitOf l with
  | none => rw [h] at hs; cases hs
  | some ls =>
    rw [h] at hs
    obtain ⟨x, hx, rfl⟩ := List.mem_map.1 hs
    show x.toArray.size ≤ _
    simpa using split_piece h x hx
theorem txts_length (l : Bs) : (txts ((splitOf l).getD [])).length ≤ l.length + 1 := by
  unfold txts
  rw [List.length_map]
  cases h : splitOf l with
  | none => simp
  | some ls => exact split_length h
set_option maxHeartbeats 8000000 in
theorem unchanged_in (a b : ByteArray) (mi : Int) (u : Value) (fs : List Fl) (m : Mta) (w : World) (hf : Flds w u fs) (ht : tot fs ≤ 100000) (hg : m.tag.size ≤ 1000000) (h0 : 0 ≤ m.mod) (h1 : m.mod ≤ 253402300799) (hE : DateEnv w) :
    Calls Tryd.prog 6 #[.agg #[.string a, .string b, .int .i64 mi, u], .agg (mcells m)] w fun e w' => e = .returned (.bool (unchangedOf dateP a.data.toList fs m.tag.data.toList m.mod)) ∧ Below w.heap.size w w' := by
  have HP := Lib.hid (Par.new w a b mi u m)
  unfold reqObj metObj mcells at HP
  by_cases g : a = ⟨#[71, 69, 84]⟩ ∨ a = ⟨#[72, 69, 65, 68]⟩
  case neg =>
    have n1 : a ≠ ⟨#[71, 69, 84]⟩ := fun h => g (.inl h)
    have n2 : a ≠ ⟨#[72, 69, 65, 68]⟩ := fun h => g (.inr h)
    have e1 : (a.toList == [71, 69, 84]) = false := text_ne n1
    have e2 : (a.toList == [72, 69, 65, 68]) = false := text_ne n2
    rw [unchanged_not dateP fs _ _ (fun h => n1 (by cases a; congr; exact Array.toList_inj.1 h)) (fun h => n2 (by cases a; congr; exact Array.toList_inj.1 h))]
    clear g n1 n2
    unfold mcells
    go_enter Tryd.func6, Tryd.ntmps6
    go_wp2_with fail
    go_ret
    exact ⟨rfl, HP.out.bel⟩
  case pos =>
  have hm : a.data.toList = getM ∨ a.data.toList = headM := by rcases g with rfl | rfl <;> simp [getM, headM]
  have HG := Lib.hid (fun (W : World) (hb : Below w.heap.size w W) => get_any u fs inmU W (hf.below hb (Nat.le_refl _)) (by omega) (by decide))
  rw [val_low fs inm_low] at HG
  have HU := Lib.hid (fun (W : World) (hb : Below w.heap.size w W) => unmodified_in u fs m.mod W (hf.below hb (Nat.le_refl _)) ht h0 h1 (hE.below hb (Nat.le_refl _)))
  have hgl := getT_length fs inmL
  have hgn := getN_le fs inmL
  have HV := Lib.hid (show getVal fs inmL = .tuple #[.string ⟨(getT fs inmL).toArray⟩, .int .i64 (getN fs inmL : Int)] from rfl)
  obtain ⟨n, hn⟩ : ∃ n, n = getN fs inmL := ⟨_, rfl⟩
  obtain ⟨T, hT⟩ : ∃ T : ByteArray, T = ⟨(getT fs inmL).toArray⟩ := ⟨_, rfl⟩
  have hTl : T.data.toList = getT fs inmL := by rw [hT]
  have hTs : T.size ≤ 200000 := by rw [hT]; show (getT fs inmL).toArray.size ≤ _; simp; omega
  rw [← hn, ← hT] at HV
  rw [HV.out] at HG
  have hn2 : n ≤ 100000 := by omega
  obtain ⟨R, hR⟩ : ∃ R, R = unchangedOf dateP a.data.toList fs m.tag.data.toList m.mod := ⟨_, rfl⟩
  have HR0 := Lib.hid (show n = 0 → unmodOf fs m.mod = R from fun h => by rw [hR, unchanged_since dateP fs _ _ hm (by omega)]; rfl)
  have HR1 := Lib.hid (show 0 < n → tagsOk T.data.toList m.tag.data.toList = R from fun h => by rw [hR, unchanged_tags dateP fs _ _ hm (by omega), hTl])
  rw [← hR]
  clear hn hT hR hgl hgn HV hTl hm hf ht h0 h1 hE
  by_cases hz : n = 0
  · subst hz
    have hr := HR0.out rfl
    clear HR0 HR1
    have HRR := Lib.hid hr
    clear hr
    rcases g with rfl | rfl
    all_goals
      unfold mcells
      go_enter Tryd.func6, Tryd.ntmps6
      go_wp2_with fail
      refine (HG.out _ HP.out.bel).mono ?_
      rintro e w1 ⟨rfl, hb1⟩
      have HP1 := Lib.hid (HP.out.more hb1)
      obtain ⟨c1, c2, c3, c4⟩ := HP1.out.cells
      clear hb1 HP
      go_wp2_with fail
      refine (HU.out _ HP1.out.bel).mono ?_
      rintro e w2 ⟨rfl, hb2⟩
      have HP2 := Lib.hid (HP1.out.more hb2)
      clear hb2
      rw [HRR.out]
      go_wp2_with fail
      go_ret
      exact ⟨rfl, HP2.out.bel⟩
  · have hr := HR1.out (by omega)
    clear HR0 HR1 HU
    have hz2 : ¬ (n : Int) = 0 := by omega
    have hz3 : ((n : Int) == 0) = false := beq_eq_false_iff_ne.2 hz2
    have HS := Lib.hid (fun W => split_any T W (by omega))
    by_cases hst : T = ⟨#[42]⟩
    · subst hst
      have HRR := Lib.hid (show true = R from by rw [← hr]; rfl)
      clear hr
      rcases g with rfl | rfl
      all_goals
        unfold mcells
        go_enter Tryd.func6, Tryd.ntmps6
        go_wp2_with fail
        refine (HG.out _ HP.out.bel).mono ?_
        rintro e w1 ⟨rfl, hb1⟩
        have HP1 := Lib.hid (HP.out.more hb1)
        clear hb1 HP
        go_wp2_with fail
        refine (HS.out _).mono ?_
        rintro e w2 hpost
        obtain ⟨v, ok, rfl, hstr, hb2⟩ := split_strs hpost
        have HP2 := Lib.hid (HP1.out.more hb2)
        clear hb2 hpost hstr HP1
        go_wp2_with fail
        go_ret
        exact ⟨by rw [← HRR.out]; rfl, HP2.out.bel⟩
    · have e1 : (T.toList == [42]) = false := text_ne hst
      have HRR := Lib.hid (show (txts ((splitOf T.data.toList).getD [])).any (fun s => likeBy weakT (parseTag m.tag.data.toList) s.data.toList) = R from by
        rw [any_txts, ← hr, tags_any (fun h => hst (by cases T; congr; exact Array.toList_inj.1 h))])
      have HZ := Lib.hid (txts_size T.data.toList)
      have hZl := txts_length T.data.toList
      have hTl : T.data.toList.length = T.size := by rw [Array.length_toList]; rfl
      obtain ⟨ls, hls⟩ : ∃ ls, ls = txts ((splitOf T.data.toList).getD []) := ⟨_, rfl⟩
      rw [← hls] at HRR HZ hZl
      have HLS := Lib.hid hls
      have HA := Lib.hid (fun W => alikeW_any m.tag W (by omega))
      clear hr hls hst
      rcases g with rfl | rfl
      all_goals
        unfold mcells
        go_enter Tryd.func6, Tryd.ntmps6
        go_wp2_with fail
        refine (HG.out _ HP.out.bel).mono ?_
        rintro e w1 ⟨rfl, hb1⟩
        have HP1 := Lib.hid (HP.out.more hb1)
        clear hb1 HP
        go_wp2_with fail
        refine (HS.out _).mono ?_
        rintro e w2 hpost
        obtain ⟨v, ok, rfl, hstr, hb2⟩ := split_strs hpost
        rw [← HLS.out] at hstr
        have HST := Lib.hid hstr
        have HP2 := Lib.hid (HP1.out.more hb2)
        obtain ⟨c1, c2, c3, c4⟩ := HP2.out.cells
        clear hb2 hpost hstr HP1
        go_wp2_with fail
        refine (HA.out _).mono ?_
        rintro e w3 ⟨⟨bh, bc, bt, rfl, hlk⟩, hb3⟩
        have HLK := Lib.hid hlk
        have HP3 := Lib.hid (HP2.out.more hb3)
        have HST3 := Lib.hid (HST.out.below hb3 (Nat.le_refl _))
        clear hlk hb3 c1 c2 c3 c4
        go_wp2_with fail
        refine (containsW_any v ls bh bc bt _ _ HST3.out (fun s hs => by have := HZ.out s hs; omega) (by omega) HLK.out).mono ?_
        rintro e w4 ⟨rfl, hb4⟩
        rw [HRR.out]
        have HP4 := Lib.hid (HP3.out.more hb4)
        clear hb4
        go_wp2_with fail
        go_ret
        exact ⟨rfl, HP4.out.bel⟩
def dateIs (s : Bs) (md : Int) : Bool := (Dp.parseD s).2 && decide ((Dp.parseD s).1 = md)
/-- What Applies answers of a GET. -/
def appOf (fs : List Fl) (tag : Bs) (md : Int) : Bool := decide (getN fs rngL = 1) && (decide (getN fs ifrL = 0) || (decide (getN fs ifrL = 1) && (dateIs (getT fs ifrL) md || likeBy strongT (parseTag tag) (getT fs ifrL))))
set_option maxHeartbeats 8000000 in
theorem applies_get (b : ByteArray) (mi : Int) (u : Value) (fs : List Fl) (m : Mta) (w : World) (hf : Flds w u fs) (ht : tot fs ≤ 100000) (hg : m.tag.size ≤ 1000000) (hE : DateEnv w) :
    Calls Tryd.prog 8 #[.agg #[.string ⟨#[71, 69, 84]⟩, .string b, .int .i64 mi, u], .agg (mcells m)] w fun e w' => e = .returned (.bool (appOf fs m.tag.data.toList m.mod)) ∧ Below w.heap.size w w' := by
  have HP := Lib.hid (Par.new w ⟨#[71, 69, 84]⟩ b mi u m)
  unfold reqObj metObj mcells at HP
  have HE := Lib.hid hE
  have HG0 := Lib.hid (fun (W : World) (hb : Below w.heap.size w W) => get_any u fs rngU W (hf.below hb (Nat.le_refl _)) (by omega) (by decide))
  have HG1 := Lib.hid (fun (W : World) (hb : Below w.heap.size w W) => get_any u fs ifrU W (hf.below hb (Nat.le_refl _)) (by omega) (by decide))
  rw [val_low fs rng_low] at HG0
  rw [val_low fs ifr_low] at HG1
  have hgl := getT_length fs ifrL
  have hgn0 := getN_le fs rngL
  have hgn := getN_le fs ifrL
  have HV0 := Lib.hid (show getVal fs rngL = .tuple #[.string ⟨(getT fs rngL).toArray⟩, .int .i64 (getN fs rngL : Int)] from rfl)
  have HV := Lib.hid (show getVal fs ifrL = .tuple #[.string ⟨(getT fs ifrL).toArray⟩, .int .i64 (getN fs ifrL : Int)] from rfl)
  obtain ⟨n0, hn0⟩ : ∃ n, n = getN fs rngL := ⟨_, rfl⟩
  obtain ⟨n, hn⟩ : ∃ n, n = getN fs ifrL := ⟨_, rfl⟩
  obtain ⟨T0, hT0⟩ : ∃ T : ByteArray, T = ⟨(getT fs rngL).toArray⟩ := ⟨_, rfl⟩
  obtain ⟨T, hT⟩ : ∃ T : ByteArray, T = ⟨(getT fs ifrL).toArray⟩ := ⟨_, rfl⟩
  have hTl : T.data.toList = getT fs ifrL := by rw [hT]
  have hTs : T.size ≤ 200000 := by rw [hT]; show (getT fs ifrL).toArray.size ≤ _; simp; omega
  rw [← hn0, ← hT0] at HV0
  rw [← hn, ← hT] at HV
  rw [HV0.out] at HG0
  rw [HV.out] at HG1
  have hn02 : n0 ≤ 100000 := by omega
  have hn2 : n ≤ 100000 := by omega
  have HPD := Lib.hid (fun (W : World) (h : DateEnv W) => Dp.parse_any T W (by omega) h.env h.frm)
  obtain ⟨x, hx⟩ : ∃ x, x = (Dp.parseD T.data.toList).1 := ⟨_, rfl⟩
  obtain ⟨ok, hok⟩ : ∃ x, x = (Dp.parseD T.data.toList).2 := ⟨_, rfl⟩
  have hxb := Dp.parseD_bd T.data.toList
  rw [← hx] at hxb
  rw [← hx, ← hok] at HPD
  obtain ⟨q, hq⟩ : ∃ q, q = likeBy strongT (parseTag m.tag.data.toList) T.data.toList := ⟨_, rfl⟩
  have HA := Lib.hid (fun W => alikeS_any m.tag W (by omega))
  have HL := Lib.hid (fun (bh bc bt : Nat) (W : World) => likeS_any T bh bc bt (parseTag m.tag.data.toList) W (by omega))
  rw [← hq] at HL
  obtain ⟨md, hmd⟩ : ∃ md, md = m.mod := ⟨_, rfl⟩
  have HR := Lib.hid (show appOf fs m.tag.data.toList m.mod = (decide (n0 = 1) && (decide (n = 0) || (decide (n = 1) && ((ok && decide (x = md)) || q)))) from by
    unfold appOf dateIs
    rw [← hTl, ← hn0, ← hn, ← hx, ← hok, ← hq, ← hmd])
  rw [HR.out]
  have HMD := Lib.hid hmd
  clear hn0 hn hT0 hT hx hok hq HR hgl hgn0 hgn HV0 HV hTl hf ht hE hmd
  unfold mcells
  by_cases z0 : n0 = 1
  case neg =>
    have y0 : ¬ (n0 : Int) = 1 := by omega
    have y1 : ((n0 : Int) == 1) = false := beq_eq_false_iff_ne.2 y0
    have y2 : ((n0 : Int) != 1) = true := by rw [bne, y1]; rfl
    rw [decide_eq_false z0, Bool.false_and]
    clear z0
    go_enter Tryd.func8, Tryd.ntmps8
    go_wp2_with fail
    refine (HG0.out _ HP.out.bel).mono ?_
    rintro e w1 ⟨rfl, hb1⟩
    have HP1 := Lib.hid (HP.out.more hb1)
    obtain ⟨c1, c2, c3, c4⟩ := HP1.out.cells
    clear hb1 HP
    go_wp2_with fail
    refine (HG1.out _ HP1.out.bel).mono ?_
    rintro e w2 ⟨rfl, hb2⟩
    have HP2 := Lib.hid (HP1.out.more hb2)
    clear hb2 HP1 c1 c2 c3 c4
    obtain ⟨c1, c2, c3, c4⟩ := HP2.out.cells
    go_wp2_with fail
    go_ret
    exact ⟨rfl, HP2.out.bel⟩
  subst z0
  rw [decide_eq_true rfl, Bool.true_and]
  by_cases z1 : 1 < n
  · have y0 : (1 : Int) < (n : Int) := by omega
    have y1 : decide ((1 : Int) < (n : Int)) = true := decide_eq_true y0
    rw [decide_eq_false (by omega), decide_eq_false (by omega), Bool.false_and, Bool.or_false]
    clear z1
    go_enter Tryd.func8, Tryd.ntmps8
    go_wp2_with fail
    refine (HG0.out _ HP.out.bel).mono ?_
    rintro e w1 ⟨rfl, hb1⟩
    have HP1 := Lib.hid (HP.out.more hb1)
    obtain ⟨c1, c2, c3, c4⟩ := HP1.out.cells
    clear hb1 HP
    go_wp2_with fail
    refine (HG1.out _ HP1.out.bel).mono ?_
    rintro e w2 ⟨rfl, hb2⟩
    have HP2 := Lib.hid (HP1.out.more hb2)
    clear hb2 HP1 c1 c2 c3 c4
    obtain ⟨c1, c2, c3, c4⟩ := HP2.out.cells
    go_wp2_with fail
    go_ret
    exact ⟨rfl, HP2.out.bel⟩
  have hxr := hxb.1
  rcases (by omega : n = 0 ∨ n = 1) with rfl | rfl
  · rw [decide_eq_true rfl, Bool.true_or]
    go_enter Tryd.func8, Tryd.ntmps8
    go_wp2_with fail
    refine (HG0.out _ HP.out.bel).mono ?_
    rintro e w1 ⟨rfl, hb1⟩
    have HP1 := Lib.hid (HP.out.more hb1)
    obtain ⟨c1, c2, c3, c4⟩ := HP1.out.cells
    clear hb1 HP
    go_wp2_with fail
    refine (HG1.out _ HP1.out.bel).mono ?_
    rintro e w2 ⟨rfl, hb2⟩
    have HP2 := Lib.hid (HP1.out.more hb2)
    clear hb2 HP1 c1 c2 c3 c4
    obtain ⟨c1, c2, c3, c4⟩ := HP2.out.cells
    go_wp2_with fail
    refine (HPD.out _ (HE.out.below HP2.out.bel (Nat.le_refl _))).mono ?_
    rintro e w3 ⟨rfl, hb3⟩
    have HP3 := Lib.hid (HP2.out.more hb3)
    clear hb3 HP2 c1 c2 c3 c4
    go_wp2_with fail
    go_ret
    exact ⟨rfl, HP3.out.bel⟩
  · have HMM := Lib.hid (show ∀ W : World, Par w ⟨#[71, 69, 84]⟩ b mi u m W → W.cell? ⟨w.heap.size + 1, 16, none⟩ = some (.int .i64 md) from fun W h => by rw [HMD.out]; exact h.cells.2.2.1)
    by_cases z2 : ok = true ∧ x = md
    · obtain ⟨rfl, rfl⟩ := z2
      rw [show (decide ((1 : Nat) = 0) || (decide ((1 : Nat) = 1) && ((true && decide (x = x)) || q))) = true from by simp]
      go_enter Tryd.func8, Tryd.ntmps8
      go_wp2_with fail
      refine (HG0.out _ HP.out.bel).mono ?_
      rintro e w1 ⟨rfl, hb1⟩
      have HP1 := Lib.hid (HP.out.more hb1)
      obtain ⟨c1, c2, c3, c4⟩ := HP1.out.cells
      clear hb1 HP
      go_wp2_with fail
      refine (HG1.out _ HP1.out.bel).mono ?_
      rintro e w2 ⟨rfl, hb2⟩
      have HP2 := Lib.hid (HP1.out.more hb2)
      clear hb2 HP1 c1 c2 c3 c4
      obtain ⟨c1, c2, c3, c4⟩ := HP2.out.cells
      go_wp2_with fail
      refine (HPD.out _ (HE.out.below HP2.out.bel (Nat.le_refl _))).mono ?_
      rintro e w3 ⟨rfl, hb3⟩
      have HP3 := Lib.hid (HP2.out.more hb3)
      have c5 := HMM.out _ HP3.out
      clear hb3 HP2 c1 c2 c3 c4
      go_wp2_with fail
      go_ret
      exact ⟨rfl, HP3.out.bel⟩
    · have HRR := Lib.hid (show (decide ((1 : Nat) = 0) || (decide ((1 : Nat) = 1) && ((ok && decide (x = md)) || q))) = q from by
        cases ok with
        | false => simp
        | true => rw [show decide (x = md) = false from decide_eq_false (fun h => z2 ⟨rfl, h⟩)]; simp)
      rw [HRR.out]
      have z3 : ok = false ∨ (ok = true ∧ ¬ x = md ∧ (x == md) = false) := by
        cases ok with
        | false => exact .inl rfl
        | true => exact .inr ⟨rfl, fun h => z2 ⟨rfl, h⟩, beq_eq_false_iff_ne.2 (fun h => z2 ⟨rfl, h⟩)⟩
      clear z2
      rcases z3 with rfl | ⟨rfl, y4, y5⟩
      all_goals
        go_enter Tryd.func8, Tryd.ntmps8
        go_wp2_with fail
        refine (HG0.out _ HP.out.bel).mono ?_
        rintro e w1 ⟨rfl, hb1⟩
        have HP1 := Lib.hid (HP.out.more hb1)
        obtain ⟨c1, c2, c3, c4⟩ := HP1.out.cells
        clear hb1 HP
        go_wp2_with fail
        refine (HG1.out _ HP1.out.bel).mono ?_
        rintro e w2 ⟨rfl, hb2⟩
        have HP2 := Lib.hid (HP1.out.more hb2)
        clear hb2 HP1 c1 c2 c3 c4
        obtain ⟨c1, c2, c3, c4⟩ := HP2.out.cells
        go_wp2_with fail
        refine (HPD.out _ (HE.out.below HP2.out.bel (Nat.le_refl _))).mono ?_
        rintro e w3 ⟨rfl, hb3⟩
        have HP3 := Lib.hid (HP2.out.more hb3)
        have c5 := HMM.out _ HP3.out
        have c6 := HP3.out.cells.2.2.2
        clear hb3 HP2 c1 c2 c3 c4
        go_wp2_with fail
        refine (HA.out _).mono ?_
        rintro e w4 ⟨⟨bh, bc, bt, rfl, hlk⟩, hb4⟩
        have HLK := Lib.hid hlk
        have HP4 := Lib.hid (HP3.out.more hb4)
        unfold likeFn
        clear hlk hb4 c5 c6
        go_wp2_with fail
        refine (HL.out bh bc bt _ HLK.out).mono ?_
        rintro e w5 ⟨rfl, hb5⟩
        have HP5 := Lib.hid (HP4.out.more hb5)
        clear hb5
        go_wp2_with fail
        go_ret
        exact ⟨rfl, HP5.out.bel⟩
end Go.Proofs.YtledjiikpajdaaaDoor.Vd
