/-
  Texts that the law's proof stands on, 4 of them in one file; each one's head says what it proves and under which condition.
-/
import Derived.Test.YtoofdompafkddaaDoorHeadFieldsP1
import Derived.Lib.SmallJoins
import Derived.SizedLaws
import Derived.ProofKit
import Derived.ChangeArms
import Derived.OpenShut
import Derived.SliceStrings
import Derived.Test.YtoofdompafkddaaDoorHeadFieldsP2
import Derived.Lib.Bytealg
import Derived.Test.YtoofdompafkddaaDoorRows
/-
  A slice of bytes, as it reads; one that came in. Condition: what the form says of what is read.
-/
namespace Go.Proofs.YtoofdompafkddaaDoor.Hd
open Go.RowKit Go.Proofs.YtoofdompafkddaaDoor.Tk Go.ChangeShapes Go.WideShapes
set_option linter.unusedVariables false

/-- A slice value that reads as these bytes. -/
def Byts (w : World) (v : Value) (l : Bs) : Prop :=
  (l = [] ∧ ∃ a cap, v = .slice a 0 cap) ∨ ∃ b off cap, v = .slice (some ⟨b, off, none⟩) l.length cap ∧ l.length ≤ cap ∧ cap ≤ maxLen ∧ b < w.heap.size ∧ Holds w b off l
theorem holds_below {B : Nat} {w w' : World} {b off : Nat} {l : Bs} (h : Holds w b off l) (hb : Below B w w') (hB : b < B) : Holds w' b off l := fun j hj => by
  rw [hb.cell (p := ⟨b, off + j, none⟩) hB]; exact h j hj
theorem Byts.below {B : Nat} {w w' : World} {v : Value} {l : Bs} (h : Byts w v l) (hb : Below B w w') (hB : w.heap.size ≤ B) : Byts w' v l := by
  rcases h with h | ⟨b, off, cap, hv, hc, hm, hlt, hh⟩
  · exact .inl h
  · exact .inr ⟨b, off, cap, hv, hc, hm, Nat.lt_of_lt_of_le hlt hb.size, holds_below hh hb (by omega)⟩
theorem Byts.shape {w : World} {v : Value} {l : Bs} (h : Byts w v l) : ∃ a cap, v = .slice a l.length cap := by
  rcases h with ⟨rfl, a, cap, hv⟩ | ⟨b, off, cap, hv, _⟩
  · exact ⟨a, cap, hv⟩
  · exact ⟨_, cap, hv⟩

theorem cellsByte : Tryd.prog.cellsOf 5 = 1 := by kernel_rfl
theorem byte_back {n : Int} (h : (Lit.int .u8 n).wf = true) : (((UInt8.ofNat n.toNat).toNat : Nat) : Int) = n := by
  have h2 : 0 ≤ n ∧ n < 256 := by
    have e1 : IntKind.u8.min = 0 := rfl
    have e2 : IntKind.u8.max = 255 := rfl
    simp [Lit.wf, e1, e2] at h
    omega
  rw [UInt8.toNat_ofNat']
  omega
set_option maxRecDepth 100000 in
theorem open_byts {H : Type} {enc : TypeId × Value → H} {W : World} {base : Nat} {v : Value} {d : DataW H} {p : List MemPlace} (hv : Value.okWide Tryd.prog W .any base 22 v)
    (h : DataW.Trod enc Tryd.prog W 0 (fun _ => true) true 22 v d p) :
    ∃ l : Bs, Byts W v l ∧ l.length ≤ maxLen := by
  obtain ⟨a0, len0, cap0, rfl⟩ := okWide_slice Tryd.underlying22 hv
  obtain ⟨fuel, hf⟩ := h
  rcases open_ints Tryd.underlying22 Tryd.underlying5 cellsByte hf with ⟨hcs, _⟩ | ⟨a, len, cap, zs, hcs, _, hl, hm, hz, hx, hcell, hwz⟩
  · simp [Value.cells] at hcs
    obtain ⟨rfl, rfl, rfl⟩ := hcs
    exact ⟨[], .inl ⟨rfl, _, _, rfl⟩, by simp⟩
  · simp [Value.cells] at hcs
    obtain ⟨rfl, rfl, rfl⟩ := hcs
    simp only [if_true] at hz
    by_cases h0 : len0 = 0
    · subst h0; exact ⟨[], .inl ⟨rfl, _, _, rfl⟩, by simp⟩
    · obtain ⟨b, off, spot⟩ := a
      have hc0 := hcell 0 (by omega)
      have hspot : spot = none := by simpa [Addr.add] using World.cell?_spot hc0
      subst hspot
      have hlen : ((zs.take len0).map fun n => UInt8.ofNat n.toNat).length = len0 := by simp; omega
      refine ⟨(zs.take len0).map fun n => UInt8.ofNat n.toNat, .inr ⟨b, off, cap0, by rw [hlen], by rw [hlen]; exact hl, hm, ?_, fun j hj => ?_⟩, by rw [hlen]; omega⟩
      · rw [Addr.add_lit] at hc0
        exact World.block_lt_of_cell? W _ hc0
      · rw [hlen] at hj
        have hcj := hcell j (by omega)
        rw [Addr.add_lit] at hcj
        have hjz : j < zs.length := by omega
        have hw := hwz zs[j] (List.getElem_mem hjz)
        have e : zs.getD j 0 = zs[j] := by simp [List.getD, List.getElem?_eq_getElem hjz]
        rw [hcj, e]
        simp only [List.getElem_map, List.getElem_take]
        rw [byte_back hw]
end Go.Proofs.YtoofdompafkddaaDoor.Hd
/-
  A slice of texts that came in. Condition: what the form says of what is read.
-/
namespace Go.Proofs.YtoofdompafkddaaDoor.Hd
open Go.RowKit Go.Proofs.YtoofdompafkddaaDoor.Tk Go.ChangeShapes Go.WideShapes
set_option linter.unusedVariables false

/-- A slice that reads as these texts. -/
def Strs (w : World) (v : Value) (ls : List ByteArray) : Prop :=
  (ls = [] ∧ ∃ a cap, v = .slice a 0 cap) ∨ ∃ b off cap, v = .slice (some ⟨b, off, none⟩) ls.length cap ∧ b < w.heap.size ∧ ∀ j (hj : j < ls.length), w.cell? ⟨b, off + j, none⟩ = some (.string ls[j])
theorem Strs.below {B : Nat} {w w' : World} {v : Value} {ls : List ByteArray} (h : Strs w v ls) (hb : Below B w w') (hB : w.heap.size ≤ B) : Strs w' v ls := by
  rcases h with h | ⟨b, off, cap, hv, hlt, hh⟩
  · exact .inl h
  · exact .inr ⟨b, off, cap, hv, Nat.lt_of_lt_of_le hlt hb.size, fun j hj => by rw [hb.cell (p := ⟨b, off + j, none⟩) (by show b < B; omega)]; exact hh j hj⟩
theorem Strs.shape {w : World} {v : Value} {ls : List ByteArray} (h : Strs w v ls) : ∃ a cap, v = .slice a ls.length cap := by
  rcases h with ⟨rfl, a, cap, hv⟩ | ⟨b, off, cap, hv, _⟩
  · exact ⟨a, cap, hv⟩
  · exact ⟨_, cap, hv⟩
theorem cellsStr : Tryd.prog.cellsOf 9 = 1 := by kernel_rfl
set_option maxRecDepth 100000 in
theorem open_texts {H : Type} {enc : TypeId × Value → H} {W : World} {base : Nat} {v : Value} {d : DataW H} {p : List MemPlace} (hv : Value.okWide Tryd.prog W .any base 53 v)
    (h : DataW.Trod enc Tryd.prog W 0 (fun _ => true) true 53 v d p) (hw : ∀ n ∈ d.weights Tryd.prog 53, n ≤ reachBytes) :
    ∃ ls : List ByteArray, Strs W v ls ∧ ls.length ≤ maxLen ∧ ∀ s ∈ ls, s.size ≤ maxLen := by
  obtain ⟨a0, len0, cap0, rfl⟩ := okWide_slice Tryd.underlying53 hv
  obtain ⟨fuel, hf⟩ := h
  rcases open_strings Tryd.underlying53 Tryd.underlying9 cellsStr hf with ⟨hcs, _⟩ | ⟨a, len, cap, ss, hcs, _, hl, hm, hz, hx, hcell, hws⟩
  · simp [Value.cells] at hcs
    obtain ⟨rfl, rfl, rfl⟩ := hcs
    exact ⟨[], .inl ⟨rfl, _, _, rfl⟩, by simp, fun s hs => by simp at hs⟩
  · simp [Value.cells] at hcs
    obtain ⟨rfl, rfl, rfl⟩ := hcs
    simp only [if_true] at hz
    by_cases h0 : len0 = 0
    · subst h0; exact ⟨[], .inl ⟨rfl, _, _, rfl⟩, by simp, fun s hs => by simp at hs⟩
    · obtain ⟨b, off, spot⟩ := a
      have hc0 := hcell 0 (by omega)
      have hspot : spot = none := by simpa [Addr.add] using World.cell?_spot hc0
      subst hspot
      have hlen : (ss.take len0).length = len0 := by rw [List.length_take]; omega
      refine ⟨ss.take len0, .inr ⟨b, off, cap0, by rw [hlen], ?_, fun j hj => ?_⟩, by rw [hlen]; omega, fun s hs => hws s (List.mem_of_mem_take hs)⟩
      · rw [Addr.add_lit] at hc0
        exact World.block_lt_of_cell? W _ hc0
      · rw [hlen] at hj
        have hcj := hcell j (by omega)
        rw [Addr.add_lit] at hcj
        have hjz : j < ss.length := by omega
        rw [hcj, List.getD, List.getElem?_eq_getElem hjz]
        simp [List.getElem_take]
end Go.Proofs.YtoofdompafkddaaDoor.Hd
/-
  The parts of a line: plain functions on bytes. No program, no condition.
-/
namespace Go.Proofs.YtoofdompafkddaaDoor.Ln
open Go.Proofs.YtoofdompafkddaaDoor.Tk

/-- May a byte stand in a target; in a reason? -/
def tg (c : UInt8) : Bool := 33 ≤ c.toNat && c.toNat ≤ 126
def rs (c : UInt8) : Bool := (c.toNat == 9 || 32 ≤ c.toNat) && c.toNat != 127
def isTgt (l : Bs) : Bool := !l.isEmpty && l.all tg
def isRsn (l : Bs) : Bool := l.all rs
def ver0 : Bs := [72, 84, 84, 80, 47, 49, 46, 48]
def ver1 : Bs := [72, 84, 84, 80, 47, 49, 46, 49]
def minorOf (l : Bs) : Int := if l = ver0 then 0 else if l = ver1 then 1 else -1
def isMin (n : Int) : Bool := n == 0 || n == 1
def isCod (n : Int) : Bool := decide (100 ≤ n) && decide (n ≤ 599)
def dgt (c : UInt8) : Bool := 48 ≤ c.toNat && c.toNat ≤ 57
/-- The number of three digits; -1: they are none. -/
def codeOf : Bs → Int
  | [a, b, c] => if dgt a && dgt b && dgt c then ((a.toNat : Int) - 48) * 100 + ((b.toNat : Int) - 48) * 10 + ((c.toNat : Int) - 48) else -1
  | _ => -1
/-- The place of the first byte 32, or the end. -/
def idx : Bs → Nat
  | [] => 0
  | c :: r => if c = 32 then 0 else idx r + 1
def fst (l : Bs) : Bs := l.take (idx l)
def rst (l : Bs) : Bs := l.drop (idx l + 1)

theorem idx_le (l : Bs) : idx l ≤ l.length := by
  induction l with
  | nil => exact Nat.le_refl _
  | cons c r ih => unfold idx; split <;> simp; omega
theorem idx_at (l : Bs) (h : idx l < l.length) : l[idx l] = 32 := by
  induction l with
  | nil => simp at h
  | cons c r ih =>
    by_cases hc : c = 32
    · simp [idx, hc]
    · have h' : idx r < r.length := by simp [idx, hc] at h; omega
      simp [idx, hc, ih h']
theorem idx_before (l : Bs) (j : Nat) (hj : j < idx l) : l[j]'(by have := idx_le l; omega) ≠ 32 := by
  induction l generalizing j with
  | nil => simp [idx] at hj
  | cons c r ih =>
    by_cases hc : c = 32
    · simp [idx, hc] at hj
    · cases j with
      | zero => simpa using hc
      | succ j => simp only [idx, hc, if_false] at hj; simpa using ih j (by omega)
theorem indexByte_eq (l : Bs) : Lib.indexByte l 32 = if idx l < l.length then (idx l : Int) else -1 := by
  induction l with
  | nil => simp [Lib.indexByte, idx]
  | cons c r ih =>
    unfold Lib.indexByte idx
    by_cases hc : c = 32
    · simp [hc]
    · have hb : (c == 32) = false := by simpa using hc
      rw [if_neg hc, hb, ih, List.length_cons]
      by_cases h : idx r < r.length
      · have h2 : idx r + 1 < r.length + 1 := by omega
        have h3 : ((idx r : Int) == -1) = false := by rw [beq_eq_false_iff_ne]; omega
        rw [if_pos h, if_pos h2, h3]; simp
      · have h2 : ¬ idx r + 1 < r.length + 1 := by omega
        rw [if_neg h, if_neg h2]; rfl
theorem fst_full {l : Bs} (h : ¬ idx l < l.length) : fst l = l := by unfold fst; exact List.take_of_length_le (by omega)
theorem rst_full {l : Bs} (h : ¬ idx l < l.length) : rst l = [] := by unfold rst; exact List.drop_eq_nil_of_le (by omega)
theorem fst_len (l : Bs) : (fst l).length = idx l := by unfold fst; rw [List.length_take]; have := idx_le l; omega
theorem rst_len (l : Bs) : (rst l).length = l.length - (idx l + 1) := by unfold rst; rw [List.length_drop]
theorem fst_le (l : Bs) : (fst l).length ≤ l.length := by rw [fst_len]; exact idx_le l
theorem rst_le (l : Bs) : (rst l).length ≤ l.length := by rw [rst_len]; omega
theorem split_at {l : Bs} (h : idx l < l.length) : l = fst l ++ 32 :: rst l := by
  unfold fst rst
  conv => lhs; rw [← List.take_append_drop (idx l) l]
  rw [List.drop_eq_getElem_cons h, idx_at l h]
/-- A text without a byte 32, a byte 32, and whatever else. -/
theorem idx_mk {a b : Bs} (ha : ∀ c ∈ a, c ≠ 32) : idx (a ++ 32 :: b) = a.length := by
  induction a with
  | nil => rfl
  | cons c r ih => simp only [List.cons_append, idx, ha c (by simp), if_false, List.length_cons]; rw [ih fun c hc => ha c (by simp [hc])]
theorem idx_none {a : Bs} (ha : ∀ c ∈ a, c ≠ 32) : idx a = a.length := by
  induction a with
  | nil => rfl
  | cons c r ih => simp only [idx, ha c (by simp), if_false, List.length_cons]; rw [ih fun c hc => ha c (by simp [hc])]
theorem fst_mk {a b : Bs} (ha : ∀ c ∈ a, c ≠ 32) : fst (a ++ 32 :: b) = a := by unfold fst; rw [idx_mk ha, List.take_left]
theorem rst_mk {a b : Bs} (ha : ∀ c ∈ a, c ≠ 32) : rst (a ++ 32 :: b) = b := by
  unfold rst; rw [idx_mk ha, ← List.drop_drop, List.drop_left]; rfl
theorem fst_none {a : Bs} (ha : ∀ c ∈ a, c ≠ 32) : fst a = a := by unfold fst; rw [idx_none ha, List.take_length]
theorem rst_none {a : Bs} (ha : ∀ c ∈ a, c ≠ 32) : rst a = [] := by unfold rst; rw [idx_none ha]; exact List.drop_eq_nil_of_le (by omega)
theorem fst_no (l : Bs) : ∀ c ∈ fst l, c ≠ 32 := by
  intro c hc
  have hc' : c ∈ l.take (idx l) := hc
  obtain ⟨j, hj, rfl⟩ := List.getElem_of_mem hc'
  have h1 : j < idx l := by rw [← fst_len l]; exact hj
  rw [List.getElem_take]; exact idx_before l j h1

theorem tok_no {l : Bs} (h : isTok l = true) : ∀ c ∈ l, c ≠ 32 := by
  intro c hc e
  simp [isTok] at h
  have := h.2 c hc
  rw [e] at this
  exact absurd this (by decide)
theorem tgt_no {l : Bs} (h : isTgt l = true) : ∀ c ∈ l, c ≠ 32 := by
  intro c hc e
  simp [isTgt] at h
  have := h.2 c hc
  rw [e] at this
  exact absurd this (by decide)
theorem tg_yes {c : UInt8} (h : tg c = true) : 33 ≤ (c.toNat : Int) ∧ (c.toNat : Int) ≤ 126 := by simp [tg] at h; omega
theorem tg_no {c : UInt8} (h : tg c = false) : (c.toNat : Int) < 33 ∨ (33 ≤ (c.toNat : Int) ∧ 126 < (c.toNat : Int)) := by simp [tg] at h; omega
theorem rs_yes {c : UInt8} (h : rs c = true) : (c.toNat : Int) = 9 ∨ (32 ≤ (c.toNat : Int) ∧ (c.toNat : Int) ≠ 127) := by simp [rs] at h; omega
theorem rs_no {c : UInt8} (h : rs c = false) : ((c.toNat : Int) < 32 ∧ (c.toNat : Int) ≠ 9) ∨ (c.toNat : Int) = 127 := by simp [rs] at h; omega
theorem isTgt_nil {s : ByteArray} (h : s.size = 0) : isTgt s.data.toList = false := by rw [nil_of_size h]; rfl
theorem isTgt_no (s : ByteArray) (k : Nat) (h : k < s.size) (hd : tg s[k] = false) : isTgt s.data.toList = false := by
  unfold isTgt; rw [not_all tg s k h hd]; simp
theorem isTgt_yes {s : ByteArray} (h : 0 < s.size) (ha : (s.data.toList.take s.size).all tg = true) : isTgt s.data.toList = true := by
  unfold isTgt; rw [cons_of_size h, all_of_take ha]; rfl
theorem isRsn_no (s : ByteArray) (k : Nat) (h : k < s.size) (hd : rs s[k] = false) : isRsn s.data.toList = false := not_all rs s k h hd
theorem isRsn_yes {s : ByteArray} (ha : (s.data.toList.take s.size).all rs = true) : isRsn s.data.toList = true := all_of_take ha

/-- Is it a request's line; a status line? -/
def reqOk (l : Bs) : Bool := isTok (fst l) && isTgt (fst (rst l)) && isMin (minorOf (rst (rst l)))
def stOk (l : Bs) : Bool := isMin (minorOf (fst l)) && isCod (codeOf (fst (rst l))) && isRsn (rst (rst l))
theorem minor_cases (l : Bs) : minorOf l = 0 ∨ minorOf l = 1 ∨ minorOf l = -1 := by
  unfold minorOf; split
  · exact .inl rfl
  · split
    · exact .inr (.inl rfl)
    · exact .inr (.inr rfl)
theorem minor_bd (l : Bs) : -1 ≤ minorOf l ∧ minorOf l ≤ 1 := by rcases minor_cases l with h | h | h <;> omega
theorem isMin_minor (l : Bs) : isMin (minorOf l) = decide (0 ≤ minorOf l) := by rcases minor_cases l with h | h | h <;> rw [h] <;> rfl
theorem ver_no {l : Bs} (h : isMin (minorOf l) = true) : ∀ c ∈ l, c ≠ 32 := by
  unfold minorOf at h
  split at h
  · rename_i e; rw [e]; decide
  · split at h
    · rename_i e; rw [e]; decide
    · exact absurd h (by decide)
theorem code_bd (l : Bs) : -1 ≤ codeOf l ∧ codeOf l ≤ 999 := by
  unfold codeOf
  split
  · split
    · rename_i h; simp [dgt] at h; omega
    · omega
  · omega
end Go.Proofs.YtoofdompafkddaaDoor.Ln
/-
  What line's functions answer, as values. No condition.
-/
namespace Go.Proofs.YtoofdompafkddaaDoor.Ln

/-- What Request answers. -/
def reqVal (s : ByteArray) : Value :=
  if 1024 < s.size then .tuple #[.string ⟨#[]⟩, .string ⟨#[]⟩, .int .i64 0, .int .i64 3]
  else if reqOk s.data.toList then .tuple #[.string ⟨(fst s.data.toList).toArray⟩, .string ⟨(fst (rst s.data.toList)).toArray⟩, .int .i64 (minorOf (rst (rst s.data.toList))), .int .i64 0]
  else .tuple #[.string ⟨#[]⟩, .string ⟨#[]⟩, .int .i64 0, .int .i64 30]
/-- What Status answers. -/
def stVal (s : ByteArray) : Value :=
  if 1024 < s.size then .tuple #[.int .i64 0, .int .i64 0, .string ⟨#[]⟩, .int .i64 3]
  else if stOk s.data.toList then .tuple #[.int .i64 (minorOf (fst s.data.toList)), .int .i64 (codeOf (fst (rst s.data.toList))), .string ⟨(rst (rst s.data.toList)).toArray⟩, .int .i64 0]
  else .tuple #[.int .i64 0, .int .i64 0, .string ⟨#[]⟩, .int .i64 30]
end Go.Proofs.YtoofdompafkddaaDoor.Ln
