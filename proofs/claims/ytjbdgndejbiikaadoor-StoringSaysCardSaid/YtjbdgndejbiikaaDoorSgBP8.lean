/-
  Texts that the laws' proofs stand on, 3 of them in one file; each one's head says what it proves and under which condition.
-/
import Derived.Test.YtjbdgndejbiikaaDoorSgBP2
import Derived.Test.YtjbdgndejbiikaaDoorSgBP7
import Derived.Lib.Bytealg
import Derived.Deep.QuietTactic
import Derived.BigQuiet
import Derived.Deep.SlicePairs
import Derived.Lib.SmallJoins
import Derived.SizedLaws
import Derived.ProofKit
import Derived.ChangeArms
/-
  Header fields: plain functions on bytes and on lists of fields; what holds of them. No program, no condition.
-/
namespace Go.Proofs.YtjbdgndejbiikaaDoor.Fd
open Tk

/-- Where the first colon stands; the length, if there is none. -/
def colIdx : Bs → Nat
  | [] => 0
  | c :: r => if c = 58 then 0 else colIdx r + 1
theorem colIdx_le (l : Bs) : colIdx l ≤ l.length := by
  induction l with
  | nil => exact Nat.le_refl _
  | cons c r ih => unfold colIdx; split <;> simp; omega
theorem colIdx_at (l : Bs) (h : colIdx l < l.length) : l[colIdx l] = 58 := by
  induction l with
  | nil => simp at h
  | cons c r ih =>
    unfold colIdx at h ⊢
    by_cases hc : c = 58
    · simp [hc]
    · simp only [hc, if_false] at h ⊢
      simp only [List.length_cons] at h
      exact ih (by omega)
theorem colIdx_before (l : Bs) (j : Nat) (hj : j < colIdx l) : l[j]'(by have := colIdx_le l; omega) ≠ 58 := by
  induction l generalizing j with
  | nil => simp [colIdx] at hj
  | cons c r ih =>
    by_cases hc : c = 58
    · simp [colIdx, hc] at hj
    · cases j with
      | zero => simpa using hc
      | succ j =>
        simp only [colIdx, hc, if_false] at hj
        simpa using ih j (by omega)
/-- A place ahead of which there is no colon, and which has one, or is the end. -/
theorem colIdx_is (l : Bs) (k : Nat) (hk : k ≤ l.length) (h1 : ∀ j (hj : j < k), l[j]'(by omega) ≠ 58) (h2 : ∀ h : k < l.length, l[k] = 58) : colIdx l = k := by
  rcases Nat.lt_trichotomy (colIdx l) k with h | h | h
  · exact absurd (colIdx_at l (by omega)) (h1 _ h)
  · exact h
  · have := colIdx_le l
    exact absurd (h2 (by omega)) (colIdx_before l k h)
theorem indexByte_eq (l : Bs) : Lib.indexByte l 58 = if colIdx l < l.length then (colIdx l : Int) else -1 := by
  induction l with
  | nil => simp [Lib.indexByte, colIdx]
  | cons c r ih =>
    unfold Lib.indexByte colIdx
    by_cases hc : c = 58
    · simp [hc]
    · have hc' : (c == 58) = false := by simpa using hc
      simp only [hc', hc, if_false, ih, List.length_cons, Bool.false_eq_true]
      by_cases h : colIdx r < r.length
      · have h2 : colIdx r + 1 < r.length + 1 := by omega
        have h3 : (((colIdx r : Nat) : Int) == -1) = false := beq_eq_false_iff_ne.2 (by omega)
        simp only [h, h2, if_true, h3, Bool.false_eq_true, if_false]; omega
      · have h2 : ¬ colIdx r + 1 < r.length + 1 := by omega
        simp [h, h2]


/-! Lists of fields. -/
/-- A field: its name, its value. -/
abbrev Fl := ByteArray × ByteArray
/-- Are two texts alike but for the size of letters? -/
def alike (a b : Bs) : Bool := lower a == lower b
/-- Has a field this name? -/
def has (nm : Bs) (f : Fl) : Bool := alike f.1.data.toList nm
/-- The fields without those of a name. -/
def del (fs : List Fl) (nm : Bs) : List Fl := fs.filter fun f => !has nm f
/-- The values of a name. -/
def sel (fs : List Fl) (nm : Bs) : List Bs := (fs.filter (has nm)).map fun f => f.2.data.toList
/-- Texts with a comma and a byte 32 between. -/
def joinC : List Bs → Bs
  | [] => []
  | [x] => x
  | x :: y :: r => x ++ [44, 32] ++ joinC (y :: r)
def getT (fs : List Fl) (nm : Bs) : Bs := joinC (sel fs nm)
def getN (fs : List Fl) (nm : Bs) : Nat := (sel fs nm).length
/-- How many fields, and how many bytes in them. -/
def tot (fs : List Fl) : Nat := (fs.map fun f => f.1.size + f.2.size + 1).sum
/-- The fields that have none of these names. -/
def without (fs : List Fl) (ns : List Bs) : List Fl := fs.filter fun f => !ns.any fun n => has n f

theorem joinC_snoc (xs : List Bs) (y : Bs) : joinC (xs ++ [y]) = if xs = [] then y else joinC xs ++ [44, 32] ++ y := by
  induction xs with
  | nil => simp [joinC]
  | cons x r ih =>
    cases r with
    | nil => simp [joinC]
    | cons z r =>
      have h : joinC (x :: z :: r ++ [y]) = x ++ [44, 32] ++ joinC (z :: r ++ [y]) := by simp [joinC]
      rw [h, ih]
      simp [joinC]
theorem joinC_length (xs : List Bs) : (joinC xs).length ≤ (xs.map fun x => x.length + 2).sum := by
  induction xs with
  | nil => simp [joinC]
  | cons x r ih =>
    cases r with
    | nil => simp [joinC]
    | cons z r =>
      have h : joinC (x :: z :: r) = x ++ [44, 32] ++ joinC (z :: r) := by simp [joinC]
      rw [h, List.map_cons, List.sum_cons]
      simp only [List.length_append, List.length_cons, List.length_nil] at ih ⊢
      omega

theorem take_next {α : Type} (l : List α) (k : Nat) (h : k < l.length) : l.take (k + 1) = l.take k ++ [l[k]] := by
  rw [List.take_succ_eq_append_getElem h]
theorem tot_cons (f : Fl) (r : List Fl) : tot (f :: r) = (f.1.size + f.2.size + 1) + tot r := by simp [tot]
theorem tot_append (a b : List Fl) : tot (a ++ b) = tot a + tot b := by simp [tot]
theorem tot_len (fs : List Fl) : fs.length ≤ tot fs := by
  induction fs with
  | nil => simp
  | cons f r ih => rw [tot_cons, List.length_cons]; omega
theorem tot_at (fs : List Fl) (k : Nat) (h : k < fs.length) : fs[k].1.size + fs[k].2.size + 1 ≤ tot fs := by
  induction fs generalizing k with
  | nil => simp at h
  | cons f r ih =>
    rw [tot_cons]
    cases k with
    | zero => simp only [List.getElem_cons_zero]; omega
    | succ k => have := ih k (by simpa using h); simp only [List.getElem_cons_succ]; omega
theorem tot_take (fs : List Fl) (k : Nat) : tot (fs.take k) ≤ tot fs := by
  have := tot_append (fs.take k) (fs.drop k)
  rw [List.take_append_drop] at this; omega
theorem tot_filter (p : Fl → Bool) (fs : List Fl) : tot (fs.filter p) ≤ tot fs := by
  induction fs with
  | nil => simp
  | cons f r ih =>
    rw [List.filter_cons, tot_cons]
    split
    · rw [tot_cons]; omega
    · omega
theorem sel_sum (fs : List Fl) (nm : Bs) : ((sel fs nm).map fun x => x.length + 2).sum ≤ 2 * tot fs := by
  unfold sel
  induction fs with
  | nil => simp
  | cons f r ih =>
    rw [List.filter_cons, tot_cons]
    have e : f.2.data.toList.length = f.2.size := by simp
    split
    · simp only [List.map_cons, List.sum_cons]; omega
    · omega
theorem getT_length (fs : List Fl) (nm : Bs) : (getT fs nm).length ≤ 2 * tot fs := Nat.le_trans (joinC_length _) (sel_sum fs nm)

theorem filter_next {α : Type} (p : α → Bool) (l : List α) (k : Nat) (h : k < l.length) : (l.take (k + 1)).filter p = (l.take k).filter p ++ if p l[k] then [l[k]] else [] := by
  rw [take_next l k h, List.filter_append]; congr 1; by_cases hp : p l[k] <;> simp [hp]
theorem sel_next_yes (fs : List Fl) (nm : Bs) (k : Nat) (h : k < fs.length) (hp : has nm fs[k] = true) : sel (fs.take (k + 1)) nm = sel (fs.take k) nm ++ [fs[k].2.data.toList] := by
  unfold sel; rw [filter_next _ _ _ h, if_pos hp]; simp
theorem sel_next_no (fs : List Fl) (nm : Bs) (k : Nat) (h : k < fs.length) (hp : has nm fs[k] = false) : sel (fs.take (k + 1)) nm = sel (fs.take k) nm := by
  unfold sel; rw [filter_next _ _ _ h, hp]; simp
theorem getT_next_first (fs : List Fl) (nm : Bs) (k : Nat) (h : k < fs.length) (hp : has nm fs[k] = true) (h0 : getN (fs.take k) nm = 0) : getT (fs.take (k + 1)) nm = fs[k].2.data.toList := by
  unfold getT; rw [sel_next_yes fs nm k h hp, joinC_snoc, if_pos (List.length_eq_zero_iff.1 h0)]
theorem getT_next_more (fs : List Fl) (nm : Bs) (k : Nat) (h : k < fs.length) (hp : has nm fs[k] = true) (h0 : getN (fs.take k) nm ≠ 0) : getT (fs.take (k + 1)) nm = getT (fs.take k) nm ++ [44, 32] ++ fs[k].2.data.toList := by
  unfold getT; rw [sel_next_yes fs nm k h hp, joinC_snoc, if_neg (fun e => h0 (by unfold getN; rw [e]; rfl))]
theorem getN_next_yes (fs : List Fl) (nm : Bs) (k : Nat) (h : k < fs.length) (hp : has nm fs[k] = true) : getN (fs.take (k + 1)) nm = getN (fs.take k) nm + 1 := by
  unfold getN; rw [sel_next_yes fs nm k h hp]; simp
theorem get_next_no (fs : List Fl) (nm : Bs) (k : Nat) (h : k < fs.length) (hp : has nm fs[k] = false) : getT (fs.take (k + 1)) nm = getT (fs.take k) nm ∧ getN (fs.take (k + 1)) nm = getN (fs.take k) nm := by
  unfold getT getN; rw [sel_next_no fs nm k h hp]; exact ⟨rfl, rfl⟩
theorem getT_zero (fs : List Fl) (nm : Bs) : getT (fs.take 0) nm = [] ∧ getN (fs.take 0) nm = 0 := by simp [getT, getN, sel, joinC]
theorem getN_le (fs : List Fl) (nm : Bs) : getN fs nm ≤ fs.length := by unfold getN sel; simp [List.length_filter_le]
end Go.Proofs.YtjbdgndejbiikaaDoor.Fd
/-
  Slices of fields as the model has them. No condition.
-/
namespace Go.Proofs.YtjbdgndejbiikaaDoor.Fd
open Go.RowKit Tk
set_option linter.unusedVariables false

/-- The fields' cells lie from off on. -/
def FAt (w : World) (b off : Nat) (fs : List Fl) : Prop := ∀ j (hj : j < fs.length), w.cell? ⟨b, off + j * 2, none⟩ = some (.string fs[j].1) ∧ w.cell? ⟨b, off + j * 2 + 1, none⟩ = some (.string fs[j].2)
/-- A slice value that reads as these fields. -/
def Flds (w : World) (v : Value) (fs : List Fl) : Prop :=
  (fs = [] ∧ ∃ a cap, v = .slice a 0 cap) ∨ ∃ b off cap, v = .slice (some ⟨b, off, none⟩) fs.length cap ∧ b < w.heap.size ∧ FAt w b off fs
theorem Flds.below {B : Nat} {w w' : World} {v : Value} {fs : List Fl} (h : Flds w v fs) (hb : Below B w w') (hB : w.heap.size ≤ B) : Flds w' v fs := by
  rcases h with h | ⟨b, off, cap, hv, hlt, hc⟩
  · exact .inl h
  · refine .inr ⟨b, off, cap, hv, Nat.lt_of_lt_of_le hlt hb.size, fun j hj => ?_⟩
    rw [hb.cell (p := ⟨b, off + j * 2, none⟩) (by show b < B; omega), hb.cell (p := ⟨b, off + j * 2 + 1, none⟩) (by show b < B; omega)]
    exact hc j hj
theorem Flds.shape {w : World} {v : Value} {fs : List Fl} (h : Flds w v fs) : ∃ a cap, v = .slice a fs.length cap := by
  rcases h with ⟨rfl, a, cap, hv⟩ | ⟨b, off, cap, hv, _⟩
  · exact ⟨a, cap, hv⟩
  · exact ⟨_, cap, hv⟩
theorem FAt.drewN {w : World} {b off : Nat} {fs : List Fl} (h : FAt w b off fs) (n : Nat) : FAt (w.drewN n) b off fs := h

theorem flds_one {w : World} {g : Nat} {a b : ByteArray} (h : w.heap[g]? = some (.cells #[.string a, .string b] 27 (0, 0))) : Flds w (.slice (some ⟨g, 0, none⟩) 1 1) [(a, b)] := by
  refine .inr ⟨_, 0, 1, rfl, block_lt h, fun j hj => ?_⟩
  have : j = 0 := by simpa using hj
  subst this
  exact ⟨two0 h, two1 h⟩
end Go.Proofs.YtjbdgndejbiikaaDoor.Fd
/-
  Arguments that are fields and lists of fields, read as texts. Condition: what the form says of what is read.
-/
namespace Go.Proofs.YtjbdgndejbiikaaDoor.Fd
open Go.RowKit Tk Go.ChangeShapes Go.WideShapes Go.Deep Go.Joins
set_option linter.unusedVariables false

def strOf : Value → ByteArray
  | .string s => s
  | _ => ByteArray.empty
theorem strOf_eq {v : Value} {s : ByteArray} (h : v = .string s) : v = .string (strOf v) := by subst h; rfl

theorem hone : oneCellFields Tryd.prog #[{ name := "Name", type := 9, offset := 0, embedded := false, tag := "", pkgPath := "", byteOffset := 0 }, { name := "Value", type := 9, offset := 1, embedded := false, tag := "", pkgPath := "", byteOffset := 16 }] = true := by kernel_rfl
theorem cellsText : Tryd.prog.cellsOf 9 = 1 := by kernel_rfl

theorem agg_weights {H : Type} (x y : List UInt8) {n : Nat} (h : n = x.length ∨ n = y.length) : n ∈ (DataW.agg [.lit (.string x), .lit (.string y)] : DataW H).weights Tryd.prog 27 := by
  rw [DataW.weights, Tryd.underlying27]
  rcases h with rfl | rfl <;> simp [DataW.weightsEach, DataW.weights]

theorem weights_in {H : Type} {P : Program} {e : TypeId} : ∀ {l : List (DataW H)} {d : DataW H}, d ∈ l → ∀ n ∈ d.weights P e, n ∈ DataW.weightsAll P e l
  | x :: r, d, hd, n, hn => by
    rw [DataW.weightsAll, List.mem_append]
    rw [List.mem_cons] at hd
    rcases hd with rfl | hd
    · exact .inl hn
    · exact .inr (weights_in hd n hn)

set_option maxRecDepth 100000 in
theorem open_field {H : Type} {enc : TypeId × Value → H} {W : World} {base : Nat} {v : Value} {d : DataW H} {p : List MemPlace} (hv : Value.okWide Tryd.prog W .any base 27 v)
    (h : DataW.Trod enc Tryd.prog W 0 (fun _ => true) true 27 v d p) (hw : ∀ n ∈ d.weights Tryd.prog 27, n ≤ reachBytes) :
    ∃ a b : ByteArray, v = .agg #[.string a, .string b] ∧ a.size ≤ reachBytes ∧ b.size ≤ reachBytes := by
  obtain ⟨v0, v1, y0, y1, n, rfl, rfl, rfl, g0, g1⟩ := open_agg2 Tryd.underlying27 hone cellsField hv h
  obtain ⟨a, e0, rfl, _⟩ := DataW.trod_string Tryd.underlying9 g0
  obtain ⟨b, e1, rfl, _⟩ := DataW.trod_string Tryd.underlying9 g1
  injection e0 with e0
  injection e1 with e1
  subst e0 e1
  have ha := hw _ (agg_weights a.data.toList b.data.toList (.inl rfl))
  have hb := hw _ (agg_weights a.data.toList b.data.toList (.inr rfl))
  exact ⟨a, b, rfl, by simpa using ha, by simpa using hb⟩

set_option maxRecDepth 100000 in
theorem open_flds {H : Type} {enc : TypeId × Value → H} {W : World} {base : Nat} {v : Value} {d : DataW H} {p : List MemPlace} (hv : Value.okWide Tryd.prog W .any base 22 v)
    (h : DataW.Trod enc Tryd.prog W 0 (fun _ => true) true 22 v d p) (hw : ∀ n ∈ d.weights Tryd.prog 22, n ≤ reachBytes) :
    ∃ fs : List Fl, Flds W v fs ∧ fs.length ≤ 140737488355328 ∧ ∀ f ∈ fs, f.1.size ≤ 140737488355328 ∧ f.2.size ≤ 140737488355328 := by
  obtain ⟨a0, len0, cap0, rfl⟩ := okWide_slice Tryd.underlying22 hv
  obtain ⟨fuel, hf⟩ := h
  rcases open_slice_pairs Tryd.underlying22 Tryd.underlying27 cellsField rfl rfl cellsText cellsText hf with ⟨hcs, _⟩ | ⟨a, len, cap, m, n, V0, V1, D0, D1, P0, P1, hcs, _, hl, hm, hmm, hx, hat⟩
  · simp [Value.cells] at hcs
    obtain ⟨rfl, rfl, rfl⟩ := hcs
    exact ⟨[], .inl ⟨rfl, _, _, rfl⟩, by simp, fun _ hf => by simp at hf⟩
  · simp [Value.cells] at hcs
    obtain ⟨rfl, rfl, rfl⟩ := hcs
    have hmc : m = cap0 := by simpa using hmm
    subst hmc
    have hd : d = _ := congrArg Prod.fst hx
    have each : ∀ i, i < len0 → V0 i = .string (strOf (V0 i)) ∧ V1 i = .string (strOf (V1 i)) ∧ (strOf (V0 i)).size ≤ reachBytes ∧ (strOf (V1 i)).size ≤ reachBytes := by
      intro i hi
      obtain ⟨_, _, t0, t1⟩ := hat i (by omega)
      obtain ⟨s0, e0, x0, _⟩ := DataW.trod_string Tryd.underlying9 t0
      obtain ⟨s1, e1, x1, _⟩ := DataW.trod_string Tryd.underlying9 t1
      injection e0 with e0
      injection e1 with e1
      have hin : ∀ k ∈ (DataW.agg [D0 i, D1 i] : DataW H).weights Tryd.prog 27, k ≤ reachBytes := fun k hk => by
        apply hw
        rw [hd, DataW.weights, Tryd.underlying22]
        simp only [List.mem_cons, List.mem_append]
        exact .inr (.inl (weights_in (List.mem_map.2 ⟨i, List.mem_range.2 hi, rfl⟩) k hk))
      have y0 : D0 i = .lit (.string s0.data.toList) := congrArg Prod.fst x0
      have y1 : D1 i = .lit (.string s1.data.toList) := congrArg Prod.fst x1
      rw [y0, y1] at hin
      have z0 := hin _ (agg_weights s0.data.toList s1.data.toList (.inl rfl))
      have z1 := hin _ (agg_weights s0.data.toList s1.data.toList (.inr rfl))
      rw [e0, e1]
      exact ⟨rfl, rfl, by simpa [strOf] using z0, by simpa [strOf] using z1⟩
    have hlen : len0 * 32 ≤ reachBytes := by
      have : (len0 + (m - len0)) * Tryd.prog.bytesOf 27 ∈ d.weights Tryd.prog 22 := by
        rw [hd, DataW.weights, Tryd.underlying22]
        simp
      have h2 := hw _ this
      have h3 : Tryd.prog.bytesOf 27 = 32 := by kernel_rfl
      rw [h3] at h2
      exact Nat.le_trans (Nat.mul_le_mul_right _ (by omega)) h2
    unfold reachBytes at each hlen
    refine ⟨(List.range len0).map fun i => (strOf (V0 i), strOf (V1 i)), ?_, by simp; omega, fun f hf => ?_⟩
    · by_cases h0 : len0 = 0
      · subst h0; exact .inl ⟨rfl, _, _, rfl⟩
      · obtain ⟨b, off, spot⟩ := a
        have hc0 := (hat 0 (by omega)).1
        have hs : spot = none := by simpa [Addr.add] using World.cell?_spot hc0
        subst hs
        refine .inr ⟨b, off, m, by simp, ?_, fun j hj => ?_⟩
        · rw [Addr.add_lit] at hc0
          exact World.block_lt_of_cell? W _ hc0
        · have hj' : j < len0 := by simpa using hj
          obtain ⟨c0, c1, _, _⟩ := hat j (by omega)
          rw [Addr.add_lit] at c0 c1
          obtain ⟨q0, q1, _⟩ := each j hj'
          simp only [List.getElem_map, List.getElem_range]
          rw [c0, q0, Nat.add_assoc, c1, q1]
          exact ⟨by simp [strOf], by simp [strOf]⟩
    · obtain ⟨i, hi, rfl⟩ := List.mem_map.1 hf
      obtain ⟨_, _, q0, q1⟩ := each i (List.mem_range.1 hi)
      exact ⟨by show (strOf (V0 i)).size ≤ _; omega, by show (strOf (V1 i)).size ≤ _; omega⟩
end Go.Proofs.YtjbdgndejbiikaaDoor.Fd
