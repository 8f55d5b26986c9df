/-
  Texts that the laws' proofs stand on, 10 of them in one file; each one's head says what it proves and under which condition.
-/
import Derived.Test.YtcolnidgembniaaGreatDoorRows
import Derived.Below
import Derived.WalkKit
import Derived.WalkLawsBesides
import Derived.Outline
import Derived.Lib.Hide
import Derived.Lib.Builder
import Derived.Laws.ResultCell
import Derived.Laws.Rows
import Derived.Maps.AppendAt
import Derived.Test.YtcolnidgembniaaGreatDoorMsAllP1
import Derived.WalkSpells
import Derived.Lib.Bytealg
import Derived.Lib.BufferWrite
import Derived.Lib.UnsafeStr
import Derived.Laws.CopyOwn
import Derived.Deep.QuietTactic
import Derived.BigQuiet
/-
  Small lemmas on worlds: blocks of two cells, what a call that makes memory leaves. No condition.
-/
namespace Go.Proofs.YtcolnidgembniaaGreatDoor.Fd
open Go.RowKit

theorem Bl.drewN {B : Nat} {a w : World} (h : Below B a w) (n : Nat) : Below B a (w.drewN n) := ⟨h.os, h.tape, h.output, h.size, h.block⟩
theorem Bl.drewN' {B : Nat} {a w w' : World} {n : Nat} (h : Below B a w) (e : w' = w.drewN n) : Below B a w' := by subst e; exact Bl.drewN h n
/-- A call on top of another: what was made since is kept, too. -/
theorem Bl.next {a w w' : World} (h : Below a.heap.size a w) (k : Below w.heap.size w w') : Below a.heap.size a w' := h.trans (k.mono h.size)
theorem Bl.old {B : Nat} {w w' : World} (h : Below B w w') {b : Nat} (hb : b < B) {x : Option Obj} (e : w.heap[b]? = x) : w'.heap[b]? = x := (h.block b hb).trans e
theorem new_block (w : World) (o : Obj) : (w.alloc o).heap[w.heap.size]? = some o := by show (w.heap.push o)[w.heap.size]? = _; simp
theorem new_block' (w : World) (o : Obj) {g : Nat} (h : g = w.heap.size) : (w.alloc o).heap[g]? = some o := by subst h; exact new_block w o
theorem old_block (w : World) (o : Obj) {b : Nat} (h : b < w.heap.size) : (w.alloc o).heap[b]? = w.heap[b]? := Below.heap_alloc w o b h
theorem block_lt {w : World} {b : Nat} {o : Obj} (h : w.heap[b]? = some o) : b < w.heap.size := by
  rcases Nat.lt_or_ge b w.heap.size with h' | h'
  · exact h'
  · simp [Array.getElem?_eq_none h'] at h
theorem two0 {w : World} {g : Nat} {x y : Value} {t : TypeId} {fr : Nat × Nat} (h : w.heap[g]? = some (.cells #[x, y] t fr)) : w.cell? ⟨g, 0, none⟩ = some x := by rw [Lib.cell_of_heap h]; rfl
theorem two1 {w : World} {g : Nat} {x y : Value} {t : TypeId} {fr : Nat × Nat} (h : w.heap[g]? = some (.cells #[x, y] t fr)) : w.cell? ⟨g, 1, none⟩ = some y := by rw [Lib.cell_of_heap h]; rfl
theorem free {w : World} {g : Nat} {cs : Array Value} {t : TypeId} (h : w.heap[g]? = some (.cells cs t (0, 0))) (j : Nat) : w.frozen? ⟨g, j, none⟩ = false := Lib.frozen_of_heap h j
theorem heap_put {w : World} {g : Nat} {cs : Array Value} {t : TypeId} {fr : Nat × Nat} (h : w.heap[g]? = some (.cells cs t fr)) (i : Nat) (x : Value) :
    (w.setCell ⟨g, i, none⟩ x).heap[g]? = some (.cells (cs.setIfInBounds i x) t fr) := by
  simp [World.setCell, Array.getElem?_modify, h]
theorem put2 {w : World} {g : Nat} {a b : Value} {t : TypeId} {fr : Nat × Nat} (h : w.heap[g]? = some (.cells #[a, b] t fr)) (x y : Value) :
    ((w.setCell ⟨g, 0, none⟩ x).setCell ⟨g, 1, none⟩ y).heap[g]? = some (.cells #[x, y] t fr) := by
  rw [heap_put (heap_put h 0 x) 1 y]; rfl
theorem put2_below {B : Nat} {w0 w : World} {g : Nat} (h : Below B w0 w) (hg : B ≤ g) (x y : Value) : Below B w0 ((w.setCell ⟨g, 0, none⟩ x).setCell ⟨g, 1, none⟩ y) :=
  (h.setCell (p := ⟨g, 0, none⟩) hg _).setCell (p := ⟨g, 1, none⟩) hg _

theorem infoField : (Tryz.prog.info? 80).map (fun i => (i.zero, i.size, i.bytes)) = some (some (.agg #[.string ⟨#[]⟩, .string ⟨#[]⟩]), 2, 32) := by kernel_rfl
theorem infoFieldSize : (Tryz.prog.info? 80).map (·.size) = some 2 := by kernel_rfl
theorem cellsField : Tryz.prog.cellsOf 80 = 2 := by kernel_rfl
/-- A struct's result in a cell, and a second one. -/
theorem results_pair {P : Program} {fn : Func} {p u : Tmp} {ty : TypeId} (h : fn.results = #[.cell p ty, .tmp u]) (tmps : Array Value) (w : World) (g : Nat) (t : TypeId) (cs : Array Value) (fr : Nat × Nat) (d : TypeDesc)
    (hp : tmps.getD p undef = .pointer (some ⟨g, 0, none⟩)) (hg : w.heap[g]? = some (.cells cs t fr))
    (hu : P.underlying ty = some d) (hd : (match d with | .struct _ | .array _ _ => true | _ => false) = true) (hi : (P.info? ty).map (·.size) = some cs.size) :
    (results fn tmps).run P w = .ok (.tuple #[.agg cs, tmps.getD u undef]) w := by
  rw [results_cell_tmp h, hp]
  simp [asAddr, run_loadVar_row w g t ty cs fr d hg hu hd hi]
/-- A struct's result in a cell, alone. -/
theorem results_one {P : Program} {fn : Func} {p : Tmp} {ty : TypeId} (h : fn.results = #[.cell p ty]) (tmps : Array Value) (w : World) (g : Nat) (t : TypeId) (cs : Array Value) (fr : Nat × Nat) (d : TypeDesc)
    (hp : tmps.getD p undef = .pointer (some ⟨g, 0, none⟩)) (hg : w.heap[g]? = some (.cells cs t fr))
    (hu : P.underlying ty = some d) (hd : (match d with | .struct _ | .array _ _ => true | _ => false) = true) (hi : (P.info? ty).map (·.size) = some cs.size) :
    (results fn tmps).run P w = .ok (.agg cs) w := by
  have e : (results fn tmps).run P w = ((asAddr (tmps.getD p undef)).run P w).andThen fun a w₁ => (loadVar ty a).run P w₁ := by
    simp only [results, h]
    simp [Sem.run_bind, Result.andThen]
  rw [e, hp]
  simp [asAddr, run_loadVar_row w g t ty cs fr d hg hu hd hi, Result.andThen]
end Go.Proofs.YtcolnidgembniaaGreatDoor.Fd
/-
  token.Value and gatepostref01.Value: what each returns. Conditions: none beyond the lengths that a string can have.
-/
namespace Go.Proofs.YtcolnidgembniaaGreatDoor.Tk
open Go.RowKit

set_option maxHeartbeats 2000000 in
theorem value_any (s : ByteArray) (w : World) (hs : s.size ≤ maxLen) :
    Calls Tryz.prog 123 #[.string s] w fun e w' => e = .returned (.bool (isVal s.data.toList)) ∧ w = w' := by
  unfold maxLen at hs
  by_cases h0 : s.size = 0
  · have he := text_empty h0
    have HN := Lib.hid (isVal_nil h0)
    clear h0
    go_enter Tryz.func123, Tryz.ntmps123
    go_wp2_with fail
    go_ret
    exact ⟨by rw [HN.out]; rfl, rfl⟩
  · have hp : 0 < s.size := by omega
    have he := text_full hp
    clear h0
    go_enter Tryz.func123, Tryz.ntmps123
    go_wp2_with fail
    go_loop [8] (fun i => ∃ k : Nat, k ≤ s.size ∧ i = .int .i64 (k : Int) ∧ (s.data.toList.take k).all textByte = true) (fun i => s.size - (intOf i).toNat)
    case atStart => exact ⟨0, Nat.zero_le _, rfl, rfl⟩
    case round =>
      obtain ⟨k, hk, rfl, hal⟩ := hrel
      have HAL := Lib.hid hal
      clear hal
      by_cases hlt : k < s.size
      · cases ht : textByte s[k] with
        | true =>
          have HA := Lib.hid (show (s.data.toList.take (k + 1)).all textByte = true from by rw [all_snoc textByte s k hlt, HAL.out, ht]; rfl)
          have HT := Lib.hid ht
          clear ht
          go_wp2_with (go_at_call 132; refine (textByte_any _ _).mono ?_; rintro e w' ⟨rfl, rfl⟩; rw [HT.out])
          go_round
          case rel => exact ⟨k + 1, by omega, by go_num, HA.out⟩
          case measure => simp [intOf]; omega
        | false =>
          have HN := Lib.hid (isVal_no s k hlt ht)
          have HT := Lib.hid ht
          clear ht
          go_wp2_with (go_at_call 132; refine (textByte_any _ _).mono ?_; rintro e w' ⟨rfl, rfl⟩; rw [HT.out])
          go_ret
          exact ⟨by rw [HN.out]; rfl, rfl⟩
      · obtain rfl : k = s.size := by omega
        have HV := Lib.hid (isVal_all hp HAL.out)
        cases hb0 : blank s[0] with
        | true =>
          have HB := Lib.hid hb0
          have HV2 := Lib.hid (HV.out.trans (show (!blank s[0] && !blank s[s.size - 1]) = false from by rw [hb0]; rfl))
          clear hb0
          go_wp2_with fail
          refine (blank_any _ _).mono ?_
          rintro e w' ⟨rfl, rfl⟩
          rw [HB.out]
          go_wp2_with fail
          go_ret
          exact ⟨by rw [HV2.out]; rfl, rfl⟩
        | false =>
          have HB := Lib.hid hb0
          have HV2 := Lib.hid (HV.out.trans (show (!blank s[0] && !blank s[s.size - 1]) = !blank s[s.size - 1] from by rw [hb0]; rfl))
          clear hb0
          go_wp2_with fail
          refine (blank_any _ _).mono ?_
          rintro e w' ⟨rfl, rfl⟩
          rw [HB.out]
          go_wp2_with fail
          refine (blank_any _ _).mono ?_
          rintro e w' ⟨rfl, rfl⟩
          go_wp2_with fail
          go_ret
          exact ⟨by rw [HV2.out]; rfl, rfl⟩

theorem ref_yes {c : UInt8} (h : textByte c = true) (hb : blank c = false) : (33 : Int) ≤ (c.toNat : Int) ∧ ((c.toNat : Int) == 127) = false := by
  rw [text_ref, hb] at h; simp at h; exact ⟨by omega, beq_eq_false_iff_ne.2 (by omega)⟩
theorem ref_no {c : UInt8} (h : textByte c = false) : blank c = false ∧ ((c.toNat : Int) < 33 ∨ (33 ≤ (c.toNat : Int) ∧ ((c.toNat : Int) == 127) = true)) := by
  rw [text_ref] at h
  cases hb : blank c with
  | true => rw [hb] at h; simp at h
  | false =>
    rw [hb] at h; simp at h
    refine ⟨rfl, ?_⟩
    by_cases h1 : (c.toNat : Int) < 33
    · exact .inl h1
    · exact .inr ⟨by omega, beq_iff_eq.2 (by omega)⟩

set_option maxHeartbeats 2000000 in
theorem refValue_any (s : ByteArray) (w : World) (hs : s.size ≤ maxLen) :
    Calls Tryz.prog 95 #[.string s] w fun e w' => e = .returned (.bool (isVal s.data.toList)) ∧ w = w' := by
  unfold maxLen at hs
  go_enter Tryz.func95, Tryz.ntmps95
  go_wp2_with fail
  go_loop [3] (fun i => ∃ k : Nat, k ≤ s.size ∧ i = .int .i64 (k : Int) ∧ (s.data.toList.take k).all textByte = true) (fun i => s.size - (intOf i).toNat)
  case atStart => exact ⟨0, Nat.zero_le _, rfl, rfl⟩
  case round =>
    obtain ⟨k, hk, rfl, hal⟩ := hrel
    have HAL := Lib.hid hal
    clear hal
    by_cases hlt : k < s.size
    · cases ht : textByte s[k] with
      | true =>
        have HA := Lib.hid (show (s.data.toList.take (k + 1)).all textByte = true from by rw [all_snoc textByte s k hlt, HAL.out, ht]; rfl)
        cases hb : blank s[k] with
        | true =>
          have HB := Lib.hid hb
          clear ht hb
          go_wp2_with (go_at_call 118; refine (refBlank_any _ _).mono ?_; rintro e w' ⟨rfl, rfl⟩; rw [HB.out])
          go_round
          case rel => exact ⟨k + 1, by omega, by go_num, HA.out⟩
          case measure => simp [intOf]; omega
        | false =>
          obtain ⟨t1, t2⟩ := ref_yes ht hb
          have HB := Lib.hid hb
          clear ht hb
          go_wp2_with (go_at_call 118; refine (refBlank_any _ _).mono ?_; rintro e w' ⟨rfl, rfl⟩; rw [HB.out])
          go_round
          case rel => exact ⟨k + 1, by omega, by go_num, HA.out⟩
          case measure => simp [intOf]; omega
      | false =>
        have HN := Lib.hid (isVal_no s k hlt ht)
        obtain ⟨hb, h2⟩ := ref_no ht
        have HB := Lib.hid hb
        clear ht hb
        rcases h2 with h2 | ⟨h2, h3⟩
        all_goals
          go_wp2_with (go_at_call 118; refine (refBlank_any _ _).mono ?_; rintro e w' ⟨rfl, rfl⟩; rw [HB.out])
          go_ret
          exact ⟨by rw [HN.out]; rfl, rfl⟩
    · by_cases h0 : s.size = 0
      · have he := text_empty h0
        have HN := Lib.hid (isVal_nil h0)
        clear h0
        go_wp2_with fail
        go_ret
        exact ⟨by rw [HN.out]; rfl, rfl⟩
      · obtain rfl : k = s.size := by omega
        have hp : 0 < s.size := by omega
        have he := text_full hp
        have HV := Lib.hid (isVal_all hp HAL.out)
        clear h0
        cases hb0 : blank s[0] with
        | true =>
          have HB := Lib.hid hb0
          have HV2 := Lib.hid (HV.out.trans (show (!blank s[0] && !blank s[s.size - 1]) = false from by rw [hb0]; rfl))
          clear hb0
          go_wp2_with fail
          refine (refBlank_any _ _).mono ?_
          rintro e w' ⟨rfl, rfl⟩
          rw [HB.out]
          go_wp2_with fail
          go_ret
          exact ⟨by rw [HV2.out]; rfl, rfl⟩
        | false =>
          have HB := Lib.hid hb0
          have HV2 := Lib.hid (HV.out.trans (show (!blank s[0] && !blank s[s.size - 1]) = !blank s[s.size - 1] from by rw [hb0]; rfl))
          clear hb0
          go_wp2_with fail
          refine (refBlank_any _ _).mono ?_
          rintro e w' ⟨rfl, rfl⟩
          rw [HB.out]
          go_wp2_with fail
          refine (refBlank_any _ _).mono ?_
          rintro e w' ⟨rfl, rfl⟩
          go_wp2_with fail
          go_ret
          exact ⟨by rw [HV2.out]; rfl, rfl⟩
end Go.Proofs.YtcolnidgembniaaGreatDoor.Tk
/-
  strings.Clone: what it returns. Condition: a text of at most 2^47 bytes.
-/
namespace Go.Proofs.YtcolnidgembniaaGreatDoor.Tk
open Go.RowKit

theorem infoByte : (Tryz.prog.info? 5).map (fun i => (i.zero, i.size, i.bytes)) = some (some (.int .u8 0), 1, 1) := by kernel_rfl
theorem infoByteSize : (Tryz.prog.info? 5).map (·.size) = some 1 := by kernel_rfl
theorem cellsByte : Tryz.prog.cellsOf 5 = 1 := by kernel_rfl

/-- What Clone does to memory: a new row, the bytes copied over, the row frozen. -/
theorem clone_runs (s : ByteArray) (w : World) (h0 : 0 < s.size) (hs : s.size ≤ 140737488355328) : ∃ (M : Array Value) (W2 W3 : World),
    (Instr.makeSlice 22 (.int .i64 (s.size : Int)) (.int .i64 (s.size : Int))).run Tryz.prog w = .ok (.slice (some ⟨w.heap.size, 0, none⟩) s.size s.size) (w.alloc (.cells M 5)) ∧
    (∀ ty, (Builtin.copy_ #[22, 9] ty #[.slice (some ⟨w.heap.size, 0, none⟩) s.size s.size, .string s]).run Tryz.prog (w.alloc (.cells M 5)) = .ok (goInt s.size) W2) ∧
    (∀ ty, (Builtin.unsafeString_ #[162, 3] ty #[.pointer (some ⟨w.heap.size, 0, none⟩), .int .i64 (s.size : Int)]).run Tryz.prog W2 = .ok (.string s) W3) ∧
    Below w.heap.size w W3 := by
  obtain ⟨i0, hi, hz0, hz1, hz2⟩ := info_parts infoByte
  have hlen : s.data.toList.length = s.size := by simp
  have hmk := run_make (P := Tryz.prog) w 22 5 i0 (.int .u8 0) Tryz.underlying22 hi hz0 .i64 .i64 (s.size : Int) (s.size : Int) (by omega) (by omega) (by rw [hz2]; omega) (by omega)
  rw [hz1, Int.toNat_natCast, Nat.mul_one] at hmk
  obtain ⟨M, hM⟩ : ∃ M, M = madeCells (Value.int .u8 0).cells s.size := ⟨_, rfl⟩
  have hMs : M.size = s.size := by rw [hM, size_madeCells]
  rw [← hM] at hmk
  have hg : (w.alloc (.cells M 5)).heap[w.heap.size]? = some (.cells M 5 (0, 0)) := by show (w.heap.push _)[w.heap.size]? = _; simp
  have hcp := fun ty => Lib.run_copy_row_string (P := Tryz.prog) (w.alloc (.cells M 5)) 22 9 ty 5 w.heap.size 0 s.size s.size s M 5 Tryz.underlying22 infoByteSize hg (Nat.le_refl _) (by omega)
  have hR : (M.toList.take 0 ++ Lib.byteCells s.data.toList ++ M.toList.drop (0 + s.size)).toArray = (Lib.byteCells s.data.toList).toArray := by
    rw [List.take_zero, List.nil_append, List.drop_eq_nil_of_le (by simp; omega), List.append_nil]
  rw [hR] at hcp
  have hb2 : Below w.heap.size w ((w.alloc (.cells M 5)).setRow w.heap.size (Lib.byteCells s.data.toList).toArray) :=
    below_setRow ((Below.refl _ _).alloc (Nat.le_refl _) _) (Nat.le_refl _) _
  have hg2 := setRow_heap (w.alloc (.cells M 5)) w.heap.size M (Lib.byteCells s.data.toList).toArray 5 (0, 0) hg
  have hus := fun ty => Lib.run_unsafeString_row (P := Tryz.prog) (w := (w.alloc (.cells M 5)).setRow w.heap.size (Lib.byteCells s.data.toList).toArray) 162 3 ty 5 Tryz.underlying162 cellsByte w.heap.size s.size
    (by unfold World.shape?; rw [hg2]; simp [Lib.byteCells]) s.data.toList (by intro e; rw [e] at hlen; simp at hlen; omega) (by omega) (by omega) (by
      intro j x hx
      rw [Addr.add_lit, Nat.zero_add]
      have hj : j < s.data.toList.length := (List.getElem?_eq_some_iff.1 hx).1
      simp only [World.cell?, hg2]
      simp [Lib.byteCells, hx])
  rw [hlen] at hus
  exact ⟨M, _, _, hmk, hcp, fun ty => hus ty, Lib.below_freeze hb2 (Nat.le_refl _) _⟩

set_option maxHeartbeats 1000000 in
theorem cloneLite_any (s : ByteArray) (w : World) (hs : s.size ≤ 140737488355328) :
    Calls Tryz.prog 122 #[.string s] w fun e w' => e = .returned (.string s) ∧ Below w.heap.size w w' := by
  by_cases h0 : s.size = 0
  · have h1 : ((s.size : Int) == 0) = true := by rw [h0]; rfl
    have HE := Lib.hid (show s = ⟨#[]⟩ from by
      have := nil_of_size h0
      cases s with
      | mk d => cases d with
        | mk l => simp at this; subst this; rfl)
    clear h0
    go_enter Tryz.func122, Tryz.ntmps122
    go_wp2_with fail
    go_ret
    exact ⟨by rw [HE.out]; rfl, Below.refl _ _⟩
  · have h1 : ((s.size : Int) == 0) = false := beq_eq_false_iff_ne.2 (by omega)
    have hp : 0 < s.size := by omega
    obtain ⟨M, W2, W3, hmk, hcp, hus, hb⟩ := clone_runs s w hp hs
    clear h0
    go_enter Tryz.func122, Tryz.ntmps122
    go_wp2_with fail
    go_ret
    exact ⟨rfl, hb⟩

theorem clone_any (s : ByteArray) (w : World) (hs : s.size ≤ 140737488355328) :
    Calls Tryz.prog 102 #[.string s] w fun e w' => e = .returned (.string s) ∧ Below w.heap.size w w' := by
  go_enter Tryz.func102, Tryz.ntmps102
  go_wp2_with fail
  refine (cloneLite_any s _ hs).mono ?_
  rintro e w' ⟨rfl, hb⟩
  go_wp2_with fail
  go_ret
  exact ⟨rfl, hb⟩
end Go.Proofs.YtcolnidgembniaaGreatDoor.Tk
/-
  field.isField: what it returns. Conditions: texts that a string can hold; the table of token bytes.
-/
namespace Go.Proofs.YtcolnidgembniaaGreatDoor.Fd
open Go.RowKit Tk
set_option linter.unusedVariables false

/-- A field as the model has it. -/
def FV (n v : ByteArray) : Value := .agg #[.string n, .string v]
def isFld (n v : Bs) : Bool := isTok n && isVal v

set_option maxHeartbeats 1000000 in
theorem isField_any (n v : ByteArray) (w : World) (hn : n.size ≤ maxLen) (hv : v.size ≤ maxLen) (hT : Tab w) :
    Calls Tryz.prog 104 #[.agg #[.string n, .string v]] w fun e w' => e = .returned (.bool (isFld n.data.toList v.data.toList)) ∧ Below w.heap.size w w' := by
  have HT := Lib.hid (hT.below ((Below.refl w.heap.size w).alloc (Nat.le_refl _) (.cells #[.string n, .string v] 80)) hT.lt)
  clear hT
  cases hh : isTok n.data.toList with
  | true =>
    have HH := Lib.hid hh
    have HV := Lib.hid (show isFld n.data.toList v.data.toList = isVal v.data.toList from by unfold isFld; rw [hh]; rfl)
    clear hh
    go_enter Tryz.func104, Tryz.ntmps104
    go_wp2_with fail
    refine (is_any n _ hn HT.out).mono ?_
    rintro e w1 ⟨rfl, rfl⟩
    rw [HH.out]
    go_wp2_with fail
    refine (value_any v _ hv).mono ?_
    rintro e w2 ⟨rfl, rfl⟩
    go_wp2_with fail
    go_ret
    exact ⟨by rw [HV.out]; rfl, (Below.refl _ _).alloc (Nat.le_refl _) _⟩
  | false =>
    have HH := Lib.hid hh
    have HV := Lib.hid (show isFld n.data.toList v.data.toList = false from by unfold isFld; rw [hh]; rfl)
    clear hh
    go_enter Tryz.func104, Tryz.ntmps104
    go_wp2_with fail
    refine (is_any n _ hn HT.out).mono ?_
    rintro e w1 ⟨rfl, rfl⟩
    rw [HH.out]
    go_wp2_with fail
    go_ret
    exact ⟨by rw [HV.out]; rfl, (Below.refl _ _).alloc (Nat.le_refl _) _⟩

end Go.Proofs.YtcolnidgembniaaGreatDoor.Fd
/-
  field.Parse: what it returns. Conditions: a text of at most 2^46 bytes; the table of token bytes.
-/
namespace Go.Proofs.YtcolnidgembniaaGreatDoor.Fd
open Go.RowKit Tk
set_option linter.unusedVariables false

/-- A line's name and value, as they lie about the first colon. -/
def pName (s : ByteArray) : ByteArray := s.extract 0 (colIdx s.data.toList)
def pVal (s : ByteArray) : ByteArray := ⟨(trim (s.extract (colIdx s.data.toList + 1) s.size).data.toList).toArray⟩
def parseOk (s : ByteArray) : Bool := decide (colIdx s.data.toList < s.size) && isFld (pName s).data.toList (pVal s).data.toList
/-- What Parse answers. -/
def parseVal (s : ByteArray) : Value :=
  if parseOk s then .tuple #[FV (pName s) (pVal s), .int .i64 0] else .tuple #[FV ⟨#[]⟩ ⟨#[]⟩, .int .i64 31]

theorem pVal_size (s : ByteArray) : (pVal s).size ≤ s.size := by
  have h := trim_length (s.extract (colIdx s.data.toList + 1) s.size).data.toList
  have e : (s.extract (colIdx s.data.toList + 1) s.size).data.toList.length = (s.extract (colIdx s.data.toList + 1) s.size).size := by simp
  have e2 : (s.extract (colIdx s.data.toList + 1) s.size).size ≤ s.size := by simp
  show (trim _).toArray.size ≤ _
  rw [List.size_toArray]; omega
theorem pName_size (s : ByteArray) : (pName s).size ≤ s.size := by unfold pName; simp; omega

set_option maxHeartbeats 2000000 in
theorem parse_any (s : ByteArray) (w : World) (hs : s.size ≤ 70368744177664) (hT : Tab w) :
    Calls Tryz.prog 69 #[.string s] w fun e w' => e = .returned (parseVal s) ∧ Below w.heap.size w w' := by
  have hg := hT.lt
  by_cases hc : colIdx s.data.toList < s.size
  · have HN := Lib.hid (show s.extract 0 (colIdx s.data.toList) = pName s from rfl)
    have HV := Lib.hid (show (⟨(trim (s.extract (colIdx s.data.toList + 1) s.size).data.toList).toArray⟩ : ByteArray) = pVal s from rfl)
    have HK := Lib.hid (show cutVal s = .tuple #[.string (pName s), .string (s.extract (colIdx s.data.toList + 1) s.size), .bool true] from by unfold cutVal; rw [if_pos hc]; rfl)
    have hn := pName_size s
    have hv := pVal_size s
    obtain ⟨T, hT'⟩ : ∃ T, T = s.extract (colIdx s.data.toList + 1) s.size := ⟨_, rfl⟩
    have hts : T.size ≤ s.size := by rw [hT']; simp
    have HP := Lib.hid (show parseOk s = isFld (pName s).data.toList (pVal s).data.toList from by unfold parseOk; simp [hc])
    rw [← hT'] at HK HV
    obtain ⟨n, hn'⟩ : ∃ n, n = pName s := ⟨_, rfl⟩
    obtain ⟨v, hv'⟩ : ∃ v, v = pVal s := ⟨_, rfl⟩
    have HPV := Lib.hid (show parseVal s = if isFld n.data.toList v.data.toList then .tuple #[FV n v, .int .i64 0] else .tuple #[FV ⟨#[]⟩ ⟨#[]⟩, .int .i64 31] from by unfold parseVal; rw [HP.out, hn', hv'])
    rw [← hn'] at HK hn
    rw [← hv'] at HV hv
    clear hT' hn' hv' hc HN HP
    have HT0 := Lib.hid hT
    clear hT
    cases hh : isFld n.data.toList v.data.toList
    all_goals
      have HH := Lib.hid hh
      rw [hh] at HPV
      clear hh
      go_enter Tryz.func69, Tryz.ntmps69
      go_wp2_with fail
      refine (cut_any s _ (by unfold maxLen; omega)).mono ?_
      rintro e w1 ⟨rfl, n1, hw1⟩
      rw [HK.out]
      have hb1 : Below w.heap.size w w1 := Bl.drewN' ((Below.refl _ _).alloc (Nat.le_refl _) _) hw1
      have hr1 : w1.heap[w.heap.size]? = some (.cells #[.string ⟨#[]⟩, .string ⟨#[]⟩] 80 (0, 0)) := by rw [hw1]; exact new_block _ _
      clear hw1
      go_wp2_with fail
      refine (clone_any n _ (by omega)).mono ?_
      rintro e w2 ⟨rfl, hb2⟩
      have hB2 := Bl.next hb1 hb2
      have hr2 := Bl.old hb2 (block_lt hr1) hr1
      clear hb1 hb2 hr1
      go_wp2_with fail
      refine (trim_any T _ (by unfold maxLen; omega)).mono ?_
      rintro e w3 ⟨rfl, hb3⟩
      rw [HV.out]
      have hB3 := Bl.next hB2 hb3
      have hr3 := Bl.old hb3 (block_lt hr2) hr2
      clear hB2 hb3 hr2
      go_wp2_with fail
      have hlt3 := block_lt hr3
      refine (isField_any n v _ (by unfold maxLen; omega) (by unfold maxLen; omega) ?tab).mono ?_
      case tab => exact HT0.out.below (hB3.alloc hB3.size _) hg
      rintro e w4 ⟨rfl, hb4⟩
      rw [HH.out]
      have hB4 := (hB3.alloc hB3.size (.cells #[.string n, .string v] 80)).trans (hb4.mono (by have := hB3.size; simp; omega))
      have hr4 := Bl.old hb4 (by simp; omega) ((old_block w3 (.cells #[.string n, .string v] 80) hlt3).trans hr3)
      have hf4 := Bl.old hb4 (by simp) (new_block w3 (.cells #[.string n, .string v] 80))
      have c0 := two0 hf4
      have c1 := two1 hf4
      have f0 := free hr4 0
      have f1 := free hr4 1
      have d0 := two0 hr4
      have d1 := two1 hr4
      have hz4 := hb4.size
      clear hB3 hb4 hr3 hf4
      go_wp2_with fail
      refine bodyPost_ret (results_pair rfl _ _ w.heap.size 80 _ (0, 0) _ rfl (put2 hr4 _ _) Tryz.underlying80 rfl infoFieldSize) rfl ?_
      exact ⟨by rw [HPV.out]; rfl, put2_below hB4 (Nat.le_refl _) _ _⟩
  · have HK := Lib.hid (show cutVal s = .tuple #[.string s, .string ⟨#[]⟩, .bool false] from by unfold cutVal; rw [if_neg hc])
    have HPV := Lib.hid (show parseVal s = .tuple #[FV ⟨#[]⟩ ⟨#[]⟩, .int .i64 31] from by unfold parseVal parseOk; simp [hc])
    have HV := Lib.hid (show (⟨(trim (⟨#[]⟩ : ByteArray).data.toList).toArray⟩ : ByteArray) = ⟨#[]⟩ from rfl)
    clear hc hT
    go_enter Tryz.func69, Tryz.ntmps69
    go_wp2_with fail
    refine (cut_any s _ (by unfold maxLen; omega)).mono ?_
    rintro e w1 ⟨rfl, n1, hw1⟩
    rw [HK.out]
    have hb1 : Below w.heap.size w w1 := Bl.drewN' ((Below.refl _ _).alloc (Nat.le_refl _) _) hw1
    have hr1 : w1.heap[w.heap.size]? = some (.cells #[.string ⟨#[]⟩, .string ⟨#[]⟩] 80 (0, 0)) := by rw [hw1]; exact new_block _ _
    clear hw1
    go_wp2_with fail
    refine (clone_any s _ (by omega)).mono ?_
    rintro e w2 ⟨rfl, hb2⟩
    have hB2 := Bl.next hb1 hb2
    have hr2 := Bl.old hb2 (block_lt hr1) hr1
    clear hb1 hb2 hr1
    go_wp2_with fail
    refine (trim_any ⟨#[]⟩ _ (Nat.zero_le _)).mono ?_
    rintro e w3 ⟨rfl, hb3⟩
    rw [HV.out]
    have hB3 := Bl.next hB2 hb3
    have hr3 := Bl.old hb3 (block_lt hr2) hr2
    clear hB2 hb3 hr2
    have f0 := free hr3 0
    have f1 := free hr3 1
    have d0 := two0 hr3
    have d1 := two1 hr3
    have hlt3 := block_lt hr3
    go_wp2_with fail
    refine bodyPost_ret (results_pair rfl _ _ w.heap.size 80 _ (0, 0) _ rfl ((old_block _ _ (by simp; exact hlt3)).trans (put2 hr3 _ _)) Tryz.underlying80 rfl infoFieldSize) rfl ?_
    exact ⟨by rw [HPV.out]; rfl, (put2_below hB3 (Nat.le_refl _) _ _).alloc (by simp; exact hB3.size) _⟩
end Go.Proofs.YtcolnidgembniaaGreatDoor.Fd
/-
  A line that is told of a field is read as that field: plain functions. No program, no condition.
-/
namespace Go.Proofs.YtcolnidgembniaaGreatDoor.Fd
open Tk

theorem col_at (l r : Bs) (h : ∀ c ∈ l, c ≠ 58) : colIdx (l ++ 58 :: r) = l.length := by
  induction l with
  | nil => simp [colIdx]
  | cons c t ih =>
    have hc : c ≠ 58 := h c (by simp)
    simp [colIdx, hc, ih (fun d hd => h d (by simp [hd]))]
theorem tok_no58 {l : Bs} (h : isTok l = true) : ∀ c ∈ l, c ≠ 58 := by
  intro c hc e
  subst e
  unfold isTok at h
  rw [Bool.and_eq_true] at h
  have h2 := List.all_eq_true.1 h.2 58 hc
  revert h2; decide
theorem trim_val {l : Bs} (h : isVal l = true) : trim (32 :: l) = l := by
  rw [trim_cons_blank l (by decide)]
  cases l with
  | nil => rfl
  | cons c t =>
    unfold isVal at h
    simp only [Bool.and_eq_true, List.isEmpty_cons, Bool.false_or, List.headD_cons, Bool.not_eq_true'] at h
    obtain ⟨_, hc, hl⟩ := h
    unfold trim
    rw [ltrim_cons_other t hc]
    rcases snoc_cases (c :: t) with h0 | ⟨i, d, h1⟩
    · cases h0
    · rw [h1]
      refine rtrim_snoc_other i ?_
      rw [List.getLastD_eq_getLast?, h1] at hl
      simpa using hl
theorem bytes_eq {a b : ByteArray} (h : a.data.toList = b.data.toList) : a = b := by
  cases a with | mk x => cases b with | mk y => cases x; cases y; simp at h; subst h; rfl
theorem line_data (n v : ByteArray) : (n ++ ⟨#[58, 32]⟩ ++ v).data.toList = n.data.toList ++ 58 :: 32 :: v.data.toList := by simp
theorem line_size (n v : ByteArray) : (n ++ ⟨#[58, 32]⟩ ++ v).size = n.size + 2 + v.size := by
  rw [ByteArray.size_append, ByteArray.size_append]; rfl
/-- A line that is told of a field is parsed to it. -/
theorem parse_line {n v : ByteArray} (h : isFld n.data.toList v.data.toList = true) : parseVal (n ++ ⟨#[58, 32]⟩ ++ v) = .tuple #[FV n v, .int .i64 0] := by
  have h' := h
  unfold isFld at h'
  rw [Bool.and_eq_true] at h'
  have hk : colIdx (n ++ ⟨#[58, 32]⟩ ++ v).data.toList = n.size := by
    rw [line_data, col_at _ _ (tok_no58 h'.1)]; simp
  have hsz := line_size n v
  have hn : pName (n ++ ⟨#[58, 32]⟩ ++ v) = n := by
    unfold pName; rw [hk]
    apply bytes_eq
    rw [ByteArray.data_extract, Array.toList_extract, line_data]
    have e : n.data.toList.length = n.size := by simp
    rw [← e, List.extract_eq_take_drop, List.drop_zero, Nat.sub_zero, List.take_left]
  have hv : pVal (n ++ ⟨#[58, 32]⟩ ++ v) = v := by
    unfold pVal; rw [hk]
    apply bytes_eq
    have e : ((n ++ ⟨#[58, 32]⟩ ++ v).extract (n.size + 1) (n ++ ⟨#[58, 32]⟩ ++ v).size).data.toList = 32 :: v.data.toList := by
      rw [ByteArray.data_extract, Array.toList_extract, line_data, hsz]
      have e : n.data.toList.length = n.size := by simp
      have e2 : v.data.toList.length = v.size := by simp
      rw [← e, ← e2, List.extract_eq_take_drop]
      rw [show n.data.toList ++ 58 :: 32 :: v.data.toList = (n.data.toList ++ [58]) ++ 32 :: v.data.toList from by simp]
      rw [List.drop_append_of_le_length (by simp), List.drop_of_length_le (by simp), List.nil_append]
      rw [List.take_of_length_le (by simp; omega)]
    rw [e, trim_val h'.2]
  unfold parseVal parseOk
  rw [hk, hn, hv, h, hsz]
  simp
  omega
/-- What Parse answers of a text: a field that has a line, or two empty texts and the error. -/
theorem parse_cases (s : ByteArray) : (parseOk s = true ∧ isFld (pName s).data.toList (pVal s).data.toList = true ∧ parseVal s = .tuple #[FV (pName s) (pVal s), .int .i64 0]) ∨ parseVal s = .tuple #[FV ⟨#[]⟩ ⟨#[]⟩, .int .i64 31] := by
  cases h : parseOk s with
  | true =>
    left
    refine ⟨rfl, ?_, by unfold parseVal; rw [h, if_pos rfl]⟩
    unfold parseOk at h; rw [Bool.and_eq_true] at h; exact h.2
  | false => right; unfold parseVal; rw [h, if_neg (by simp)]
end Go.Proofs.YtcolnidgembniaaGreatDoor.Fd
/-
  A line without its end; a line's field and its error: plain functions on bytes. No program, no condition.
-/
namespace Go.Proofs.YtcolnidgembniaaGreatDoor.Hd
open Go.Proofs.YtcolnidgembniaaGreatDoor.Tk Go.Proofs.YtcolnidgembniaaGreatDoor.Fd
set_option linter.unusedVariables false

/-- A line's field and its error. -/
def fldOf (s : ByteArray) : Fl × Nat := if parseOk s then ((pName s, pVal s), 0) else ((⟨#[]⟩, ⟨#[]⟩), 31)
theorem parseVal_of (s : ByteArray) : parseVal s = .tuple #[FV (fldOf s).1.1 (fldOf s).1.2, .int .i64 ((fldOf s).2 : Nat)] := by
  unfold parseVal fldOf; split <;> rfl

/-- A line without the byte 13 at its end. -/
def own (l : Bs) : Bs := if l.getLast? = some 13 then l.dropLast else l
def txt (l : Bs) : ByteArray := ⟨l.toArray⟩
theorem own_length (l : Bs) : (own l).length ≤ l.length := by
  unfold own; split
  · rw [List.length_dropLast]; omega
  · exact Nat.le_refl _
theorem fldOf_err (s : ByteArray) : (fldOf s).2 = 0 ∨ (fldOf s).2 = 31 := by
  unfold fldOf; split
  · exact .inl rfl
  · exact .inr rfl
theorem txt_size (l : Bs) : (txt l).size = l.length := by simp [txt, ByteArray.size]
theorem fldOf_size (s : ByteArray) (h : (fldOf s).2 = 0) : (fldOf s).1.1.size + (fldOf s).1.2.size + 1 ≤ s.size := by
  unfold fldOf at h ⊢
  split at h
  · rename_i hp
    rw [if_pos hp]
    unfold parseOk at hp
    rw [Bool.and_eq_true, decide_eq_true_eq] at hp
    have hk := hp.1
    have e1 : (pName s).size = colIdx s.data.toList := by unfold pName; simp; omega
    have h2 := trim_length (s.extract (colIdx s.data.toList + 1) s.size).data.toList
    have e3 : (s.extract (colIdx s.data.toList + 1) s.size).data.toList.length = s.size - (colIdx s.data.toList + 1) := by simp
    have e4 : (pVal s).size ≤ s.size - (colIdx s.data.toList + 1) := by
      unfold pVal; show (trim _).toArray.size ≤ _; rw [List.size_toArray]; omega
    show (pName s).size + (pVal s).size + 1 ≤ s.size
    omega
  · simp at h

end Go.Proofs.YtcolnidgembniaaGreatDoor.Hd
/-
  A body, byte by byte: what a decoder comes to, as plain functions on bytes. No program, no condition.
-/
namespace Go.Proofs.YtcolnidgembniaaGreatDoor.Fr
open Go.Proofs.YtcolnidgembniaaGreatDoor.Tk Go.Proofs.YtcolnidgembniaaGreatDoor.Fd Go.Proofs.YtcolnidgembniaaGreatDoor.Hd
set_option linter.unusedVariables false

/-! The number of a chunk's line. -/
def hexOf (c : UInt8) : Nat :=
  if 48 ≤ c.toNat ∧ c.toNat ≤ 57 then c.toNat - 48
  else if 97 ≤ c.toNat ∧ c.toNat ≤ 102 then c.toNat - 87
  else if 65 ≤ c.toNat ∧ c.toNat ≤ 70 then c.toNat - 55
  else 16
def isHex (c : UInt8) : Bool := decide (hexOf c < 16)
/-- The number that digits say, behind one that is there. -/
def hexGo (n : Nat) : Bs → Nat
  | [] => n
  | c :: r => hexGo (n * 16 + hexOf c) r
def ext (c : UInt8) : Bool := decide (9 ≤ c.toNat) && c.toNat != 127
/-- The digits at a text's beginning, and what is behind them. -/
def hexes : Bs → Bs
  | [] => []
  | c :: r => if isHex c then c :: hexes r else []
def behind : Bs → Bs
  | [] => []
  | c :: r => if isHex c then behind r else c :: r
theorem hexes_behind (t : Bs) : hexes t ++ behind t = t := by
  induction t with
  | nil => rfl
  | cons c r ih => unfold hexes behind; split <;> simp [ih]
theorem hexes_all (t : Bs) : ∀ c ∈ hexes t, isHex c = true := by
  induction t with
  | nil => intro c hc; simp [hexes] at hc
  | cons c r ih =>
    intro d hd
    unfold hexes at hd
    split at hd
    · rcases List.mem_cons.1 hd with rfl | hd
      · assumption
      · exact ih d hd
    · simp at hd
theorem behind_head {t : Bs} {c : UInt8} {r : Bs} (h : behind t = c :: r) : isHex c = false := by
  induction t with
  | nil => simp [behind] at h
  | cons d s ih =>
    unfold behind at h
    split at h
    · exact ih h
    · rename_i hn
      injection h with h1 h2
      subst h1
      exact (Bool.not_eq_true _).mp hn
theorem hexes_mk {a b : Bs} (ha : ∀ c ∈ a, isHex c = true) (hb : ∀ c r, b = c :: r → isHex c = false) : hexes (a ++ b) = a ∧ behind (a ++ b) = b := by
  induction a with
  | nil =>
    cases b with
    | nil => exact ⟨rfl, rfl⟩
    | cons c r =>
      have := hb c r rfl
      simp [hexes, behind, this]
  | cons c r ih =>
    obtain ⟨h1, h2⟩ := ih (fun d hd => ha d (by simp [hd]))
    have hc := ha c (by simp)
    refine ⟨?_, ?_⟩
    · show (if isHex c then c :: hexes (r ++ b) else []) = _; rw [if_pos hc, h1]
    · show (if isHex c then behind (r ++ b) else _) = _; rw [if_pos hc, h2]
/-- May this stand behind the digits: nothing, blanks, or blanks or none, a ; and what may stand behind it? -/
def tailOk (r : Bs) : Bool :=
  match ltrim r with
  | [] => true
  | c :: m => c == 59 && m.all ext
def sizeOk (t : Bs) : Bool := !(hexes t).isEmpty && decide ((hexes t).length ≤ 8) && tailOk (behind t)
/-- The number of a chunk's line, or none. -/
def sizeOf (t : Bs) : Option Nat := if sizeOk t then some (hexGo 0 (hexes t)) else none

/-! A decoder. -/
/-- Where a decoder stands: so many bytes are left; so many bytes may still come; of chunks: how many bytes may come in the chunks behind, and the line's bytes, or how many are left of a chunk; whole; failed. -/
inductive St where
  | len (n : Nat)
  | opn (n : Nat)
  | size (m : Nat) (l : Bs)
  | chunk (m n : Nat)
  | gap (m : Nat) (l : Bs)
  | trail (m : Nat) (l : Bs)
  | done
  | bad (e : Nat)
def over : St → Bool
  | .done => true
  | .bad _ => true
  | _ => false
def sizeSt (m : Nat) : Option Nat → St
  | none => .bad 32
  | some n => if n = 0 then .trail m [] else if m < n then .bad 3 else .chunk (m - n) n
def gapSt (m : Nat) (t : Bs) : St := if t = [] then .size m [] else .bad 32
def trailSt (m : Nat) (t : Bs) : St := if t = [] then .done else if (fldOf (txt t)).2 = 0 then .trail m [] else .bad (fldOf (txt t)).2
/-- Is a line read, and which; what it comes to when it ends; when it goes on. -/
def lineOf : St → Option Bs
  | .size _ l => some l
  | .gap _ l => some l
  | .trail _ l => some l
  | _ => none
def ended : St → Bs → St
  | .size m _, t => sizeSt m (sizeOf t)
  | .gap m _, t => gapSt m t
  | .trail m _, t => trailSt m t
  | s, _ => s
def onto : St → Bs → St
  | .size m l, b => .size m (l ++ b)
  | .gap m l, b => .gap m (l ++ b)
  | .trail m l, b => .trail m (l ++ b)
  | s, _ => s
/-- One byte of a line. -/
def stepL (s : St) (l : Bs) (c : UInt8) : St := if 1025 ≤ l.length then .bad 3 else if c = 10 then ended s (own l) else onto s [c]
/-- One byte: what of it is the body's, and where the decoder stands then. -/
def step : St → UInt8 → Bs × St
  | .len n, c => ([c], if n ≤ 1 then .done else .len (n - 1))
  | .opn n, c => if n = 0 then ([], .bad 3) else ([c], .opn (n - 1))
  | .chunk m n, c => ([c], if n ≤ 1 then .gap m [] else .chunk m (n - 1))
  | .size m l, c => ([], stepL (.size m l) l c)
  | .gap m l, c => ([], stepL (.gap m l) l c)
  | .trail m l, c => ([], stepL (.trail m l) l c)
  | s, _ => ([], s)
/-- The body's bytes, how many were taken, and where the decoder stands then. -/
def run : St → Bs → Bs × Nat × St
  | s, [] => ([], 0, s)
  | s, c :: r => if over s then ([], 0, s) else ((step s c).1 ++ (run (step s c).2 r).1, (run (step s c).2 r).2.1 + 1, (run (step s c).2 r).2.2)

theorem run_nil (s : St) : run s [] = ([], 0, s) := rfl
theorem run_over {s : St} (h : over s = true) (b : Bs) : run s b = ([], 0, s) := by
  cases b with
  | nil => rfl
  | cons c r => unfold run; rw [if_pos h]
theorem run_cons {s : St} (h : over s = false) (c : UInt8) (b : Bs) : run s (c :: b) = ((step s c).1 ++ (run (step s c).2 b).1, (run (step s c).2 b).2.1 + 1, (run (step s c).2 b).2.2) := by
  conv => lhs; unfold run
  rw [if_neg (by rw [h]; simp)]
theorem run_le (b : Bs) (s : St) : (run s b).2.1 ≤ b.length := by
  induction b generalizing s with
  | nil => exact Nat.le_refl _
  | cons c r ih =>
    cases ho : over s with
    | true => rw [run_over ho]; simp
    | false => rw [run_cons ho]; have := ih (step s c).2; simp only [List.length_cons]; omega
theorem step_out (s : St) (c : UInt8) : (step s c).1.length ≤ 1 := by
  cases s with
  | opn n => show (if n = 0 then (([] : Bs), St.bad 3) else ([c], .opn (n - 1))).1.length ≤ 1; split <;> simp
  | _ => simp [step]
theorem run_out (b : Bs) (s : St) : (run s b).1.length ≤ (run s b).2.1 := by
  induction b generalizing s with
  | nil => exact Nat.le_refl _
  | cons c r ih =>
    cases ho : over s with
    | true => rw [run_over ho]; simp
    | false => rw [run_cons ho]; have := ih (step s c).2; have := step_out s c; simp only [List.length_append]; omega
/-- A piece that did not end the reading was taken whole. -/
theorem run_all (b : Bs) {s : St} (h : over (run s b).2.2 = false) : (run s b).2.1 = b.length := by
  induction b generalizing s with
  | nil => rfl
  | cons c r ih =>
    cases ho : over s with
    | true => rw [run_over ho] at h; rw [ho] at h; cases h
    | false => rw [run_cons ho] at h ⊢; have := ih h; simp only [List.length_cons]; omega
/-- Two pieces, one behind the other. -/
theorem run_append (a b : Bs) (s : St) : run s (a ++ b) = if over (run s a).2.2 then run s a else ((run s a).1 ++ (run (run s a).2.2 b).1, a.length + (run (run s a).2.2 b).2.1, (run (run s a).2.2 b).2.2) := by
  induction a generalizing s with
  | nil =>
    rw [List.nil_append, run_nil]
    cases ho : over s with
    | true => rw [run_over ho]; simp
    | false => simp
  | cons c r ih =>
    rw [List.cons_append]
    cases ho : over s with
    | true => rw [run_over ho, run_over ho]; simp [ho]
    | false =>
      rw [run_cons ho, run_cons ho, ih]
      by_cases h : over (run (step s c).2 r).2.2 = true
      · simp [h]
      · simp [h]; omega
/-- Once over, always over. -/
theorem run_end (b : Bs) {s : St} (h : over (run s b).2.2 = true) (r : Bs) : run s (b ++ r) = run s b := by rw [run_append, if_pos h]

/-! What a decoder keeps to. -/
def Good : St → Prop
  | .len n => 0 < n ∧ n ≤ 1048576
  | .opn n => n ≤ 1048576
  | .size m l => m ≤ 1048576 ∧ l.length ≤ 1025
  | .chunk m n => 0 < n ∧ n ≤ 1048576 ∧ m ≤ 1048576
  | .gap m l => m ≤ 1048576 ∧ l.length ≤ 1025
  | .trail m l => m ≤ 1048576 ∧ l.length ≤ 1025
  | .done => True
  | .bad e => e = 3 ∨ e = 20 ∨ e = 31 ∨ e = 32
theorem good_ended {s : St} {l t : Bs} (h : Good s) (hl : lineOf s = some l) : Good (ended s t) := by
  cases s with
  | size m l =>
    show Good (sizeSt m (sizeOf t))
    cases sizeOf t with
    | none => exact .inr (.inr (.inr rfl))
    | some n =>
      show Good (if n = 0 then St.trail m [] else if m < n then .bad 3 else .chunk (m - n) n)
      have hm := h.1
      split
      · exact ⟨hm, by simp⟩
      · split
        · exact .inl rfl
        · exact ⟨by omega, by omega, by omega⟩
  | gap m l => show Good (if t = [] then St.size m [] else .bad 32); split; exact ⟨h.1, by simp⟩; exact .inr (.inr (.inr rfl))
  | trail m l =>
    show Good (if t = [] then St.done else if (fldOf (txt t)).2 = 0 then .trail m [] else .bad (fldOf (txt t)).2)
    split
    · trivial
    · rcases fldOf_err (txt t) with e | e
      · rw [if_pos e]; exact ⟨h.1, by simp⟩
      · rw [e, if_neg (by omega)]; exact .inr (.inr (.inl rfl))
  | _ => cases hl
theorem good_stepL {s : St} {l : Bs} (h : Good s) (hl : lineOf s = some l) (c : UInt8) : Good (stepL s l c) := by
  unfold stepL
  split
  · exact .inl rfl
  · rename_i h1
    split
    · exact good_ended h hl
    · cases s with
      | size m k => cases hl; exact ⟨h.1, by simp; omega⟩
      | gap m k => cases hl; exact ⟨h.1, by simp; omega⟩
      | trail m k => cases hl; exact ⟨h.1, by simp; omega⟩
      | _ => cases hl
theorem good_step {s : St} (h : Good s) (c : UInt8) : Good (step s c).2 := by
  cases s with
  | len n => show Good (if n ≤ 1 then St.done else .len (n - 1)); have h1 := h.1; have h2 := h.2; split; trivial; exact ⟨by omega, by omega⟩
  | opn n =>
    show Good (if n = 0 then (([] : Bs), St.bad 3) else ([c], .opn (n - 1))).2
    have h1 : n ≤ 1048576 := h
    split
    · exact .inl rfl
    · show n - 1 ≤ 1048576; omega
  | chunk m n =>
    obtain ⟨h1, h2, h3⟩ := h
    show Good (if n ≤ 1 then St.gap m [] else .chunk m (n - 1))
    split
    · exact ⟨h3, by simp⟩
    · exact ⟨by omega, by omega, h3⟩
  | size m l => exact good_stepL h rfl c
  | gap m l => exact good_stepL h rfl c
  | trail m l => exact good_stepL h rfl c
  | done => trivial
  | bad e => exact h
theorem good_run (b : Bs) {s : St} (h : Good s) : Good (run s b).2.2 := by
  induction b generalizing s with
  | nil => exact h
  | cons c r ih =>
    cases ho : over s with
    | true => rw [run_over ho]; exact h
    | false => rw [run_cons ho]; exact ih (good_step h c)

/-! Whole steps. -/
theorem over_line {s : St} {l : Bs} (h : lineOf s = some l) : over s = false := by cases s <;> first | rfl | cases h
theorem step_line {s : St} {l : Bs} (h : lineOf s = some l) (c : UInt8) : step s c = ([], stepL s l c) := by cases s <;> first | (cases h; rfl) | cases h
theorem line_onto {s : St} {l : Bs} (h : lineOf s = some l) (b : Bs) : lineOf (onto s b) = some (l ++ b) := by cases s <;> first | (cases h; rfl) | cases h
theorem onto_onto {s : St} {l : Bs} (h : lineOf s = some l) (a b : Bs) : onto (onto s a) b = onto s (a ++ b) := by cases s <;> first | (cases h; simp [onto]) | cases h
theorem onto_nil {s : St} {l : Bs} (h : lineOf s = some l) : onto s [] = s := by cases s <;> first | (cases h; simp [onto]) | cases h
theorem ended_onto (s : St) (a t : Bs) : ended (onto s a) t = ended s t := by cases s <;> rfl
/-- Bytes of a line's midst. -/
theorem run_mid (b r : Bs) {s : St} {l : Bs} (h : lineOf s = some l) (h10 : ∀ c ∈ b, c ≠ 10) (hr : l.length + b.length ≤ 1025) :
    run s (b ++ r) = ((run (onto s b) r).1, b.length + (run (onto s b) r).2.1, (run (onto s b) r).2.2) := by
  induction b generalizing s l with
  | nil => rw [onto_nil h]; simp
  | cons c t ih =>
    have hc : c ≠ 10 := h10 c (by simp)
    rw [List.length_cons] at hr
    have e : stepL s l c = onto s [c] := by unfold stepL; rw [if_neg (by omega), if_neg hc]
    rw [List.cons_append, run_cons (over_line h), step_line h, e, ih (line_onto h [c]) (fun d hd => h10 d (by simp [hd])) (by simp; omega), onto_onto h]
    simp only [List.nil_append, List.singleton_append, List.length_cons, Prod.mk.injEq, true_and, and_true]
    omega
/-- A line's end. -/
theorem run_line {b r : Bs} {s : St} {l : Bs} (h : lineOf s = some l) (h10 : ∀ c ∈ b, c ≠ 10) (hr : l.length + b.length < 1025) :
    run s (b ++ 10 :: r) = ((run (ended s (own (l ++ b))) r).1, b.length + 1 + (run (ended s (own (l ++ b))) r).2.1, (run (ended s (own (l ++ b))) r).2.2) := by
  have hl := line_onto h b
  have e : stepL (onto s b) (l ++ b) 10 = ended s (own (l ++ b)) := by unfold stepL; rw [if_neg (by simp; omega), if_pos rfl, ended_onto]
  rw [run_mid b (10 :: r) h h10 (by omega), run_cons (over_line hl), step_line hl, e]
  simp only [List.nil_append, Prod.mk.injEq, true_and, and_true]
  omega
/-- Too many bytes. -/
theorem run_big {b : Bs} {s : St} {l : Bs} (h : lineOf s = some l) (hl : l.length ≤ 1025) (h10 : ∀ c ∈ b.take (1025 - l.length), c ≠ 10) (hr : 1025 - l.length < b.length) :
    run s b = ([], 1025 - l.length + 1, .bad 3) := by
  have e : b = b.take (1025 - l.length) ++ (b[1025 - l.length] :: b.drop (1025 - l.length + 1)) := by rw [List.getElem_cons_drop]; exact (List.take_append_drop _ _).symm
  have ht : (b.take (1025 - l.length)).length = 1025 - l.length := by rw [List.length_take]; omega
  have hm := run_mid (b.take (1025 - l.length)) (b[1025 - l.length] :: b.drop (1025 - l.length + 1)) h h10 (by rw [ht]; omega)
  have ho := line_onto h (b.take (1025 - l.length))
  have e2 : stepL (onto s (b.take (1025 - l.length))) (l ++ b.take (1025 - l.length)) b[1025 - l.length] = .bad 3 := by unfold stepL; rw [if_pos (by rw [List.length_append, ht]; omega)]
  rw [← e, ht, run_cons (over_line ho), step_line ho, e2, run_over (s := .bad 3) rfl] at hm
  rw [hm]
  rfl
/-- The line goes on. -/
theorem run_part {b : Bs} {s : St} {l : Bs} (h : lineOf s = some l) (h10 : ∀ c ∈ b, c ≠ 10) (hr : l.length + b.length ≤ 1025) : run s b = ([], b.length, onto s b) := by
  have := run_mid b [] h h10 hr
  rw [List.append_nil, run_nil] at this
  simpa using this
/-- The body's bytes, as many as are left, or fewer. -/
theorem run_len (b r : Bs) (n : Nat) (hn : 0 < n) (hb : b.length ≤ n) : run (.len n) (b ++ r) = (b ++ (run (if n = b.length then .done else .len (n - b.length)) r).1, b.length + (run (if n = b.length then .done else .len (n - b.length)) r).2.1, (run (if n = b.length then .done else .len (n - b.length)) r).2.2) := by
  induction b generalizing n with
  | nil => rw [if_neg (by simp; omega)]; simp
  | cons c t ih =>
    rw [List.length_cons] at hb
    rw [List.cons_append, run_cons rfl]
    show ([c] ++ (run (if n ≤ 1 then St.done else .len (n - 1)) (t ++ r)).1, (run (if n ≤ 1 then St.done else .len (n - 1)) (t ++ r)).2.1 + 1, (run (if n ≤ 1 then St.done else .len (n - 1)) (t ++ r)).2.2) = _
    by_cases h1 : n ≤ 1
    · obtain rfl : t = [] := List.length_eq_zero_iff.1 (by omega)
      rw [if_pos h1, if_pos (by simp; omega), run_over (s := .done) rfl, run_over (s := .done) rfl]; simp
    · rw [if_neg h1, ih (n - 1) (by omega) (by omega)]
      have e : (n - 1 = t.length) = (n = (c :: t).length) := by rw [List.length_cons]; apply propext; omega
      simp only [e]
      rw [show n - 1 - t.length = n - (c :: t).length from by rw [List.length_cons]; omega]
      simp only [List.length_cons, List.cons_append, List.nil_append, Prod.mk.injEq, true_and, and_true]
      omega
theorem run_chunk (b r : Bs) (m n : Nat) (hn : 0 < n) (hb : b.length ≤ n) : run (.chunk m n) (b ++ r) = (b ++ (run (if n = b.length then .gap m [] else .chunk m (n - b.length)) r).1, b.length + (run (if n = b.length then .gap m [] else .chunk m (n - b.length)) r).2.1, (run (if n = b.length then .gap m [] else .chunk m (n - b.length)) r).2.2) := by
  induction b generalizing n with
  | nil => rw [if_neg (by simp; omega)]; simp
  | cons c t ih =>
    rw [List.length_cons] at hb
    rw [List.cons_append, run_cons rfl]
    show ([c] ++ (run (if n ≤ 1 then St.gap m [] else .chunk m (n - 1)) (t ++ r)).1, (run (if n ≤ 1 then St.gap m [] else .chunk m (n - 1)) (t ++ r)).2.1 + 1, (run (if n ≤ 1 then St.gap m [] else .chunk m (n - 1)) (t ++ r)).2.2) = _
    by_cases h1 : n ≤ 1
    · obtain rfl : t = [] := List.length_eq_zero_iff.1 (by omega)
      rw [if_pos h1, if_pos (by simp; omega)]; simp; omega
    · rw [if_neg h1, ih (n - 1) (by omega) (by omega)]
      have e : (n - 1 = t.length) = (n = (c :: t).length) := by rw [List.length_cons]; apply propext; omega
      simp only [e]
      rw [show n - 1 - t.length = n - (c :: t).length from by rw [List.length_cons]; omega]
      simp only [List.length_cons, List.cons_append, List.nil_append, Prod.mk.injEq, true_and, and_true]
      omega
theorem run_opn (b r : Bs) (n : Nat) (hb : b.length ≤ n) : run (.opn n) (b ++ r) = (b ++ (run (.opn (n - b.length)) r).1, b.length + (run (.opn (n - b.length)) r).2.1, (run (.opn (n - b.length)) r).2.2) := by
  induction b generalizing n with
  | nil => simp
  | cons c t ih =>
    rw [List.length_cons] at hb
    rw [List.cons_append, run_cons rfl]
    have e : step (.opn n) c = ([c], .opn (n - 1)) := by show (if n = 0 then (([] : Bs), St.bad 3) else ([c], .opn (n - 1))) = _; rw [if_neg (by omega)]
    rw [e, ih (n - 1) (by omega), show n - 1 - t.length = n - (c :: t).length from by rw [List.length_cons]; omega]
    simp only [List.length_cons, List.cons_append, List.nil_append, Prod.mk.injEq, true_and, and_true]
    omega

/-! What a decoder answers, and a new one. -/
def errOf : St → Nat
  | .bad e => e
  | _ => 0
def doneOf : St → Bool
  | .done => true
  | _ => false
theorem over_of {s : St} (h : doneOf s = true ∨ errOf s ≠ 0) : over s = true := by cases s <;> simp [doneOf, errOf] at h <;> rfl
theorem over_no {s : St} (hG : Good s) (h1 : doneOf s = false) (h2 : errOf s = 0) : over s = false := by
  cases s with
  | done => simp [doneOf] at h1
  | bad e => simp [errOf] at h2; subst h2; rcases hG with h | h | h | h <;> omega
  | _ => rfl
/-- No more bytes come. -/
def closed : St → St
  | .opn _ => .done
  | .done => .done
  | .bad e => .bad e
  | _ => .bad 20
/-- What is made of a kind and a number, or the error. -/
def made (k n : Int) : Option St :=
  if k < 0 ∨ 3 < k ∨ n < 0 ∨ (0 < n ∧ k ≠ 1) ∨ 1048576 < n then none
  else if k = 2 then some (.size 1048576 []) else if k = 3 then some (.opn 1048576) else if 0 < n then some (.len n.toNat) else some .done
def madeErr (k n : Int) : Nat := if k < 0 ∨ 3 < k ∨ n < 0 ∨ (0 < n ∧ k ≠ 1) then 2 else if 1048576 < n then 3 else 0
theorem good_made {k n : Int} {s : St} (h : made k n = some s) : Good s := by
  unfold made at h
  split at h
  · cases h
  · rename_i h1
    split at h
    · cases h; exact ⟨by omega, by simp⟩
    · split at h
      · cases h; show 1048576 ≤ 1048576; omega
      · split at h
        · cases h; exact ⟨by omega, by omega⟩
        · cases h; trivial
theorem good_closed {s : St} (h : Good s) : Good (closed s) := by
  cases s with
  | opn => trivial
  | done => trivial
  | bad e => exact h
  | _ => exact .inr (.inl rfl)
end Go.Proofs.YtcolnidgembniaaGreatDoor.Fr
/-
  Slices of fields as the model has them. No condition.
-/
namespace Go.Proofs.YtcolnidgembniaaGreatDoor.Fd
open Go.RowKit Tk
set_option linter.unusedVariables false

/-- The fields' cells lie from off on. -/
def FAt (w : World) (b off : Nat) (fs : List Fl) : Prop := ∀ j (hj : j < fs.length), w.cell? ⟨b, off + j * 2, none⟩ = some (.string fs[j].1) ∧ w.cell? ⟨b, off + j * 2 + 1, none⟩ = some (.string fs[j].2)
/-- A slice value that reads as these fields. -/
def Flds (w : World) (v : Value) (fs : List Fl) : Prop :=
  (fs = [] ∧ ∃ a cap, v = .slice a 0 cap) ∨ ∃ b off cap, v = .slice (some ⟨b, off, none⟩) fs.length cap ∧ b < w.heap.size ∧ FAt w b off fs
theorem Flds.below {B : Nat} {w w' : World} {v : Value} {fs : List Fl} (h : Flds w v fs) (hb : Below B w w') (hB : w.heap.size ≤ B) : Flds w' v fs := by
  rcases h with h | ⟨b, off, cap, hv, hlt, hc⟩
  · exact .inl h
  · refine .inr ⟨b, off, cap, hv, Nat.lt_of_lt_of_le hlt hb.size, fun j hj => ?_⟩
    rw [hb.cell (p := ⟨b, off + j * 2, none⟩) (by show b < B; omega), hb.cell (p := ⟨b, off + j * 2 + 1, none⟩) (by show b < B; omega)]
    exact hc j hj
theorem Flds.shape {w : World} {v : Value} {fs : List Fl} (h : Flds w v fs) : ∃ a cap, v = .slice a fs.length cap := by
  rcases h with ⟨rfl, a, cap, hv⟩ | ⟨b, off, cap, hv, _⟩
  · exact ⟨a, cap, hv⟩
  · exact ⟨_, cap, hv⟩
theorem FAt.drewN {w : World} {b off : Nat} {fs : List Fl} (h : FAt w b off fs) (n : Nat) : FAt (w.drewN n) b off fs := h

theorem flds_one {w : World} {g : Nat} {a b : ByteArray} (h : w.heap[g]? = some (.cells #[.string a, .string b] 80 (0, 0))) : Flds w (.slice (some ⟨g, 0, none⟩) 1 1) [(a, b)] := by
  refine .inr ⟨_, 0, 1, rfl, block_lt h, fun j hj => ?_⟩
  have : j = 0 := by simpa using hj
  subst this
  exact ⟨two0 h, two1 h⟩
end Go.Proofs.YtcolnidgembniaaGreatDoor.Fd
/-
  Lists of fields that calls made: rows of cells of their own. No condition.
-/
namespace Go.Proofs.YtcolnidgembniaaGreatDoor.Fd
open Go.RowKit Tk
set_option linter.unusedVariables false

/-- Fields as cells. -/
def flat (fs : List Fl) : List Value := fs.flatMap fun f => [.string f.1, .string f.2]
theorem flat_snoc (fs : List Fl) (f : Fl) : flat (fs ++ [f]) = flat fs ++ [.string f.1, .string f.2] := by simp [flat]
theorem flat_length (fs : List Fl) : (flat fs).length = fs.length * 2 := by
  induction fs with
  | nil => rfl
  | cons f r ih => simp only [flat, List.flatMap_cons, List.length_append, List.length_cons, List.length_nil] at ih ⊢; omega
theorem flat_at (fs : List Fl) (j : Nat) (h : j < fs.length) : (flat fs)[j * 2]? = some (.string fs[j].1) ∧ (flat fs)[j * 2 + 1]? = some (.string fs[j].2) := by
  induction fs generalizing j with
  | nil => simp at h
  | cons f r ih =>
    cases j with
    | zero => exact ⟨rfl, rfl⟩
    | succ j =>
      have h2 := ih j (by simpa using h)
      have e1 : (j + 1) * 2 = j * 2 + 2 := by omega
      have e2 : (j + 1) * 2 + 1 = j * 2 + 1 + 2 := by omega
      rw [e2, e1]
      exact ⟨h2.1, h2.2⟩
theorem owns_kept {w w' : World} {base : Nat} {e : TypeId} {sz : Nat} {v : Value} {n : Nat} {xs : List Value} (h : w.ownsRow base e sz v n xs) (hb : Below w.heap.size w w') : w'.ownsRow base e sz v n xs := by
  refine ⟨h.1, ?_⟩
  rcases h.2 with h2 | ⟨g, cap, cur, hv, hg, hh, r⟩
  · exact .inl h2
  · exact .inr ⟨g, cap, cur, hv, hg, (hb.block g (block_lt hh)).trans hh, r⟩
theorem owns_mono {w : World} {base base' : Nat} {e : TypeId} {size : Nat} {v : Value} {n : Nat} {xs : List Value} (h : w.ownsRow base e size v n xs) (hb : base' ≤ base) : w.ownsRow base' e size v n xs := by
  refine ⟨h.1, ?_⟩
  rcases h.2 with h2 | ⟨g, cap, cur, hv, hg, r⟩
  · exact .inl h2
  · exact .inr ⟨g, cap, cur, hv, by omega, r⟩
/-- A slice of fields that a call made, in memory from base on. -/
def OwnF (w : World) (base : Nat) (v : Value) (fs : List Fl) : Prop := w.ownsRow base 80 2 v fs.length (flat fs)
theorem OwnF.nil (w : World) (base : Nat) : OwnF w base (.slice none 0 0) [] := World.ownsRow_nil _ _ _ _
theorem OwnF.flds {w : World} {base : Nat} {v : Value} {fs : List Fl} (h : OwnF w base v fs) : Flds w v fs := by
  rcases h.2 with ⟨hv, h0⟩ | ⟨g, cap, cur, hv, _, hg, _⟩
  · exact .inl ⟨List.length_eq_zero_iff.1 h0, none, 0, hv⟩
  · refine .inr ⟨g, 0, cap, hv, block_lt hg, fun j hj => ?_⟩
    have h' : w.ownsRow base 80 2 (.slice (some ⟨g, 0, none⟩) fs.length cap) fs.length (flat fs) := by rw [← hv]; exact h
    obtain ⟨a, b⟩ := flat_at fs j hj
    rw [Nat.zero_add, h'.cellAt (j * 2) (by omega), h'.cellAt (j * 2 + 1) (by omega), a, b]
    exact ⟨rfl, rfl⟩
theorem OwnF.kept {w w' : World} {base : Nat} {v : Value} {fs : List Fl} (h : OwnF w base v fs) (hb : Below w.heap.size w w') : OwnF w' base v fs := owns_kept h hb
theorem OwnF.form {w : World} {base : Nat} {v : Value} {fs : List Fl} (h : OwnF w base v fs) : ∃ a cap, v = .slice a fs.length cap := h.flds.shape
theorem OwnF.row {w : World} {base : Nat} {v : Value} {fs : List Fl} (h : OwnF w base v fs) : ∀ k, v.ownBlock = some k → base ≤ k := fun k hk => (World.ownsRow.lt h k hk).1
theorem one_cells (x y : ByteArray) : ∀ u ∈ [Value.string x, Value.string y], u.oneCell' = true := by intro u hu; simp at hu; rcases hu with rfl | rfl <;> rfl
theorem news_at {w : World} {g : Nat} {x y : Value} {t : TypeId} (h : w.heap[g]? = some (.cells #[x, y] t (0, 0))) : ∀ j u, [x, y][j]? = some u → w.cell? ((⟨g, 0, none⟩ : Addr).add j) = some u := by
  intro j u hu
  match j, hu with
  | 0, hu => simp at hu; subst hu; exact two0 h
  | 1, hu => simp at hu; subst hu; exact two1 h

end Go.Proofs.YtcolnidgembniaaGreatDoor.Fd
