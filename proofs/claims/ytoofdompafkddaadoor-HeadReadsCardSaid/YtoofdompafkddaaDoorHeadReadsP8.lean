/-
  Texts that the law's proof stands on, 4 of them in one file; each one's head says what it proves and under which condition.
-/
import Derived.Test.YtoofdompafkddaaDoorHeadReadsP5
import Derived.Test.YtoofdompafkddaaDoorHeadReadsP7
import Derived.Test.YtoofdompafkddaaDoorRows
import Derived.WalkKit
import Derived.WalkLawsBesides
import Derived.Outline
import Derived.Lib.Hide
/-
  A reader of the program in memory: its block, its line's and its fields' rows; what keeps them. No condition.
-/
namespace Go.Proofs.YtoofdompafkddaaDoor.Hd
open Go.RowKit Go.Proofs.YtoofdompafkddaaDoor.Tk Go.Proofs.YtoofdompafkddaaDoor.Fd
set_option linter.unusedVariables false

def qA (resp : Bool) (q : Parts) : ByteArray := if resp then ⟨#[]⟩ else q.a
def qB (resp : Bool) (q : Parts) : ByteArray := if resp then ⟨#[]⟩ else q.b
def qM (resp : Bool) (q : Parts) : Int := if resp then 0 else q.m
def sM (resp : Bool) (q : Parts) : Int := if resp then q.m else 0
def sC (resp : Bool) (q : Parts) : Int := if resp then q.c else 0
def sA (resp : Bool) (q : Parts) : ByteArray := if resp then q.a else ⟨#[]⟩
/-- A reader's cells. -/
def rc (resp : Bool) (M : Nat) (F lv : Value) (n : Nat) (wh : Bool) (e : Nat) (rq : Bool) (q : Parts) (fv : Value) : Array Value :=
  #[.bool resp, .int .i64 (M : Int), F, lv, .int .i64 (n : Int), .bool wh, .int .i64 (e : Int), .string (qA rq q), .string (qB rq q), .int .i64 (qM rq q), .slice none 0 0,
    .int .i64 (sM rq q), .int .i64 (sC rq q), .string (sA rq q), .slice none 0 0, fv]
/-- What is done with a line that ended. -/
def fnOf (gb : Nat) : Option Parts → Value
  | none => .func (.func 67) #[] #[.pointer (some ⟨gb, 0, none⟩)]
  | some _ => .func (.func 68) #[] #[]
def firstFn (resp : Bool) : Value := .func (.func (if resp then 44 else 43)) #[] #[]
def IsFn (F : Value) : Prop := ∃ fn fi ca, F = .func fn fi ca
theorem fnOf_is (gb : Nat) (p : Option Parts) : IsFn (fnOf gb p) := by cases p <;> exact ⟨_, _, _, rfl⟩

/-- A reader that goes on. -/
structure On (w : World) (O : Nat → Prop) (resp : Bool) (g gb : Nat) (lv fv : Value) (p : Option Parts) (l : Bs) (n : Nat) (fs : List Fl) : Prop where
  blk : w.heap[g]? = some (.cells (rc resp (most p) (fnOf gb p) lv n false 0 resp (p.getD .none) fv) 97 (0, 0))
  box : w.heap[gb]? = some (.cells #[firstFn resp] 91 (0, 0))
  line : OwnB w lv l
  flds : OwnF w 0 fv fs
  og : O g
  ob : O gb
  ol : ∀ k, lv.ownBlock = some k → O k
  of : ∀ k, fv.ownBlock = some k → O k
def Rdr (w : World) (O : Nat → Prop) (resp : Bool) (g : Nat) : St → Prop
  | .on p l n fs => ∃ gb lv fv, On w O resp g gb lv fv p l n fs
  | .done q fs => ∃ M F lv n fv, IsFn F ∧ w.heap[g]? = some (.cells (rc resp M F lv n true 0 resp q fv) 97 (0, 0)) ∧ OwnF w 0 fv fs ∧ O g ∧ ∀ k, fv.ownBlock = some k → O k
  | .bad e => ∃ M F, IsFn F ∧ w.heap[g]? = some (.cells (rc false M F (.slice none 0 0) 0 false e false .none (.slice none 0 0)) 97 (0, 0)) ∧ O g

theorem Rdr.mono {w : World} {O O' : Nat → Prop} {resp : Bool} {g : Nat} {s : St} (h : Rdr w O resp g s) (hO : ∀ k, O k → O' k) : Rdr w O' resp g s := by
  cases s with
  | on p l n fs => obtain ⟨gb, lv, fv, h⟩ := h; exact ⟨gb, lv, fv, h.blk, h.box, h.line, h.flds, hO _ h.og, hO _ h.ob, fun k hk => hO _ (h.ol k hk), fun k hk => hO _ (h.of k hk)⟩
  | done q fs => obtain ⟨M, F, lv, n, fv, hF, hb, hf, hg, ho⟩ := h; exact ⟨M, F, lv, n, fv, hF, hb, hf, hO _ hg, fun k hk => hO _ (ho k hk)⟩
  | bad e => obtain ⟨M, F, hF, hb, hg⟩ := h; exact ⟨M, F, hF, hb, hO _ hg⟩
/-- What turns other blocks alone keeps a reader. -/
theorem Rdr.kept {w w' : World} {O O' : Nat → Prop} {resp : Bool} {g : Nat} {s : St} (h : Rdr w O resp g s) (hc : Chg O' w w') (hd : ∀ k, O k → ¬ O' k) : Rdr w' O resp g s := by
  cases s with
  | on p l n fs =>
    obtain ⟨gb, lv, fv, h⟩ := h
    exact ⟨gb, lv, fv, hc.old (hd _ h.og) h.blk, hc.old (hd _ h.ob) h.box, row_chg h.line hc h.ol hd, row_chg h.flds hc h.of hd, h.og, h.ob, h.ol, h.of⟩
  | done q fs => obtain ⟨M, F, lv, n, fv, hF, hb, hf, hg, ho⟩ := h; exact ⟨M, F, lv, n, fv, hF, hc.old (hd _ hg) hb, row_chg hf hc ho hd, hg, ho⟩
  | bad e => obtain ⟨M, F, hF, hb, hg⟩ := h; exact ⟨M, F, hF, hc.old (hd _ hg) hb, hg⟩
theorem Rdr.below {w w' : World} {O : Nat → Prop} {resp : Bool} {g : Nat} {s : St} (h : Rdr w O resp g s) (hb : Below w.heap.size w w') : Rdr w' O resp g s :=
  h.kept (O' := fun _ => False) (Chg.of_below hb) (fun _ _ hf => hf)
/-- A reader's blocks are there. -/
theorem Rdr.bound {w : World} {O : Nat → Prop} {resp : Bool} {g : Nat} {s : St} (h : Rdr w O resp g s) : Rdr w (fun k => O k ∧ k < w.heap.size) resp g s := by
  cases s with
  | on p l n fs =>
    obtain ⟨gb, lv, fv, h⟩ := h
    exact ⟨gb, lv, fv, h.blk, h.box, h.line, h.flds, ⟨h.og, block_lt h.blk⟩, ⟨h.ob, block_lt h.box⟩, fun k hk => ⟨h.ol k hk, (World.ownsRow.lt h.line k hk).2⟩, fun k hk => ⟨h.of k hk, (World.ownsRow.lt h.flds k hk).2⟩⟩
  | done q fs => obtain ⟨M, F, lv, n, fv, hF, hb, hf, hg, ho⟩ := h; exact ⟨M, F, lv, n, fv, hF, hb, hf, ⟨hg, block_lt hb⟩, fun k hk => ⟨ho k hk, (World.ownsRow.lt hf k hk).2⟩⟩
  | bad e => obtain ⟨M, F, hF, hb, hg⟩ := h; exact ⟨M, F, hF, hb, hg, block_lt hb⟩

/-! A reader's cells. -/
section
variable {w : World} {g : Nat} {resp : Bool} {M : Nat} {F lv : Value} {n : Nat} {wh : Bool} {e : Nat} {rq : Bool} {q : Parts} {fv : Value}
theorem rc0 (h : w.heap[g]? = some (.cells (rc resp M F lv n wh e rq q fv) 97 (0, 0))) : w.cell? ⟨g, 0, none⟩ = some (.bool resp) := by rw [Lib.cell_of_heap h]; rfl
theorem rc1 (h : w.heap[g]? = some (.cells (rc resp M F lv n wh e rq q fv) 97 (0, 0))) : w.cell? ⟨g, 1, none⟩ = some (.int .i64 (M : Int)) := by rw [Lib.cell_of_heap h]; rfl
theorem rc2 (h : w.heap[g]? = some (.cells (rc resp M F lv n wh e rq q fv) 97 (0, 0))) : w.cell? ⟨g, 2, none⟩ = some F := by rw [Lib.cell_of_heap h]; rfl
theorem rc3 (h : w.heap[g]? = some (.cells (rc resp M F lv n wh e rq q fv) 97 (0, 0))) : w.cell? ⟨g, 3, none⟩ = some lv := by rw [Lib.cell_of_heap h]; rfl
theorem rc4 (h : w.heap[g]? = some (.cells (rc resp M F lv n wh e rq q fv) 97 (0, 0))) : w.cell? ⟨g, 4, none⟩ = some (.int .i64 (n : Int)) := by rw [Lib.cell_of_heap h]; rfl
theorem rc5 (h : w.heap[g]? = some (.cells (rc resp M F lv n wh e rq q fv) 97 (0, 0))) : w.cell? ⟨g, 5, none⟩ = some (.bool wh) := by rw [Lib.cell_of_heap h]; rfl
theorem rc6 (h : w.heap[g]? = some (.cells (rc resp M F lv n wh e rq q fv) 97 (0, 0))) : w.cell? ⟨g, 6, none⟩ = some (.int .i64 (e : Int)) := by rw [Lib.cell_of_heap h]; rfl
theorem rc15 (h : w.heap[g]? = some (.cells (rc resp M F lv n wh e rq q fv) 97 (0, 0))) : w.cell? ⟨g, 15, none⟩ = some fv := by rw [Lib.cell_of_heap h]; rfl
theorem rc_put3 (h : w.heap[g]? = some (.cells (rc resp M F lv n wh e rq q fv) 97 (0, 0))) (lv' : Value) : (w.setCell ⟨g, 3, none⟩ lv').heap[g]? = some (.cells (rc resp M F lv' n wh e rq q fv) 97 (0, 0)) := heap_put h 3 lv'
theorem rc_put4 (h : w.heap[g]? = some (.cells (rc resp M F lv n wh e rq q fv) 97 (0, 0))) (m : Nat) : (w.setCell ⟨g, 4, none⟩ (.int .i64 (m : Int))).heap[g]? = some (.cells (rc resp M F lv m wh e rq q fv) 97 (0, 0)) := heap_put h 4 _
theorem rc_put5 (h : w.heap[g]? = some (.cells (rc resp M F lv n wh e rq q fv) 97 (0, 0))) (b : Bool) : (w.setCell ⟨g, 5, none⟩ (.bool b)).heap[g]? = some (.cells (rc resp M F lv n b e rq q fv) 97 (0, 0)) := heap_put h 5 _
theorem rc_put15 (h : w.heap[g]? = some (.cells (rc resp M F lv n wh e rq q fv) 97 (0, 0))) (fv' : Value) : (w.setCell ⟨g, 15, none⟩ fv').heap[g]? = some (.cells (rc resp M F lv n wh e rq q fv') 97 (0, 0)) := heap_put h 15 fv'
end
end Go.Proofs.YtoofdompafkddaaDoor.Hd
/-
  line.isTarget and the reference's target: what each returns. Condition: a text of at most 2^47 bytes.
-/
namespace Go.Proofs.YtoofdompafkddaaDoor.Ln
open Go.RowKit Go.Proofs.YtoofdompafkddaaDoor.Tk

set_option maxHeartbeats 1000000 in
theorem isTarget_any (s : ByteArray) (w : World) (hs : s.size ≤ maxLen) :
    Calls Tryd.prog 91 #[.string s] w fun e w' => e = .returned (.bool (isTgt s.data.toList)) ∧ w = w' := by
  unfold maxLen at hs
  go_enter Tryd.func91, Tryd.ntmps91
  go_wp2_with fail
  go_loop [6] (fun i => ∃ k : Nat, k ≤ s.size ∧ i = .int .i64 (k : Int) ∧ (s.data.toList.take k).all tg = true) (fun i => s.size - (intOf i).toNat)
  case atStart => exact ⟨0, Nat.zero_le _, rfl, rfl⟩
  case round =>
    obtain ⟨k, hk, rfl, hal⟩ := hrel
    have HAL := Lib.hid hal
    clear hal
    by_cases hlt : k < s.size
    · cases ht : tg s[k] with
      | true =>
        have HA := Lib.hid (show (s.data.toList.take (k + 1)).all tg = true from by rw [all_snoc tg s k hlt, HAL.out, ht]; rfl)
        obtain ⟨t1, t2⟩ := tg_yes ht
        clear ht
        go_wp2_with fail
        go_round
        case rel => exact ⟨k + 1, by omega, by go_num, HA.out⟩
        case measure => simp [intOf]; omega
      | false =>
        have HN := Lib.hid (isTgt_no s k hlt ht)
        rcases tg_no ht with t | ⟨t1, t2⟩
        all_goals
          clear ht
          go_wp2_with fail
          go_ret
          exact ⟨by rw [HN.out]; rfl, rfl⟩
    · by_cases h0 : s.size = 0
      · have he := text_empty h0
        have HN := Lib.hid (isTgt_nil h0)
        clear h0
        go_wp2_with fail
        go_ret
        exact ⟨by rw [HN.out]; rfl, rfl⟩
      · obtain rfl : k = s.size := by omega
        have he := text_full (s := s) (by omega)
        have HY := Lib.hid (isTgt_yes (by omega) HAL.out)
        clear h0
        go_wp2_with fail
        go_ret
        exact ⟨by rw [HY.out]; rfl, rfl⟩

set_option maxHeartbeats 1000000 in
theorem refTarget_any (s : ByteArray) (w : World) (hs : s.size ≤ maxLen) :
    Calls Tryd.prog 105 #[.string s] w fun e w' => e = .returned (.bool (isTgt s.data.toList)) ∧ w = w' := by
  unfold maxLen at hs
  go_enter Tryd.func105, Tryd.ntmps105
  go_wp2_with fail
  go_loop [3] (fun i => ∃ k : Nat, k ≤ s.size ∧ i = .int .i64 (k : Int) ∧ (s.data.toList.take k).all tg = true) (fun i => s.size - (intOf i).toNat)
  case atStart => exact ⟨0, Nat.zero_le _, rfl, rfl⟩
  case round =>
    obtain ⟨k, hk, rfl, hal⟩ := hrel
    have HAL := Lib.hid hal
    clear hal
    by_cases hlt : k < s.size
    · cases ht : tg s[k] with
      | true =>
        have HA := Lib.hid (show (s.data.toList.take (k + 1)).all tg = true from by rw [all_snoc tg s k hlt, HAL.out, ht]; rfl)
        obtain ⟨t1, t2⟩ := tg_yes ht
        clear ht
        go_wp2_with fail
        go_round
        case rel => exact ⟨k + 1, by omega, by go_num, HA.out⟩
        case measure => simp [intOf]; omega
      | false =>
        have HN := Lib.hid (isTgt_no s k hlt ht)
        rcases tg_no ht with t | ⟨t1, t2⟩
        all_goals
          clear ht
          go_wp2_with fail
          go_ret
          exact ⟨by rw [HN.out]; rfl, rfl⟩
    · by_cases h0 : s.size = 0
      · have HN := Lib.hid (isTgt_nil h0)
        have hd : decide (0 < s.size) = false := by rw [decide_eq_false_iff_not]; omega
        clear h0
        go_wp2_with fail
        go_ret
        exact ⟨by rw [HN.out]; rfl, rfl⟩
      · obtain rfl : k = s.size := by omega
        have HY := Lib.hid (isTgt_yes (by omega) HAL.out)
        have hd : decide (0 < s.size) = true := by rw [decide_eq_true_iff]; omega
        clear h0
        go_wp2_with fail
        go_ret
        exact ⟨by rw [HY.out]; rfl, rfl⟩
end Go.Proofs.YtoofdompafkddaaDoor.Ln
/-
  line.isMinor, isCode, isReason and the reference's reason and version: what each returns. Condition: a text of at most 2^47 bytes.
-/
namespace Go.Proofs.YtoofdompafkddaaDoor.Ln
open Go.RowKit Go.Proofs.YtoofdompafkddaaDoor.Tk

theorem isMinor_any (n : Int) (w : World) :
    Calls Tryd.prog 92 #[.int .i64 n] w fun e w' => e = .returned (.bool (isMin n)) ∧ w = w' := by
  by_cases h0 : n = 0
  · subst h0
    go_enter Tryd.func92, Tryd.ntmps92
    go_wp2_with fail
    go_ret
    exact ⟨rfl, rfl⟩
  · by_cases h1 : n = 1
    · subst h1
      go_enter Tryd.func92, Tryd.ntmps92
      go_wp2_with fail
      go_ret
      exact ⟨rfl, rfl⟩
    · have t0 : (n == 0) = false := beq_eq_false_iff_ne.2 h0
      have t1 : (n == 1) = false := beq_eq_false_iff_ne.2 h1
      have HV := Lib.hid (show isMin n = false from by unfold isMin; rw [t0, t1]; rfl)
      clear h0 h1
      go_enter Tryd.func92, Tryd.ntmps92
      go_wp2_with fail
      go_ret
      exact ⟨by rw [HV.out]; rfl, rfl⟩

theorem isCode_any (n : Int) (w : World) :
    Calls Tryd.prog 96 #[.int .i64 n] w fun e w' => e = .returned (.bool (isCod n)) ∧ w = w' := by
  by_cases h0 : 100 ≤ n
  · by_cases h1 : n ≤ 599
    · have HV := Lib.hid (show isCod n = true from by simp [isCod, h0, h1])
      go_enter Tryd.func96, Tryd.ntmps96
      go_wp2_with fail
      go_ret
      exact ⟨by rw [HV.out]; rfl, rfl⟩
    · have HV := Lib.hid (show isCod n = false from by simp [isCod, h0, h1])
      have t1 : decide (n ≤ 599) = false := by simpa using h1
      go_enter Tryd.func96, Tryd.ntmps96
      go_wp2_with fail
      go_ret
      exact ⟨by rw [HV.out]; rfl, rfl⟩
  · have HV := Lib.hid (show isCod n = false from by simp [isCod, h0])
    go_enter Tryd.func96, Tryd.ntmps96
    go_wp2_with fail
    go_ret
    exact ⟨by rw [HV.out]; rfl, rfl⟩

theorem ne9 {c : UInt8} (h : (c.toNat : Int) ≠ 9) : ((c.toNat : Int) != 9) = true := by rw [bne_iff_ne]; exact h
theorem ne127 {c : UInt8} (h : (c.toNat : Int) ≠ 127) : ((c.toNat : Int) == 127) = false := beq_eq_false_iff_ne.2 h

set_option maxHeartbeats 1000000 in
theorem isReason_any (s : ByteArray) (w : World) (hs : s.size ≤ maxLen) :
    Calls Tryd.prog 97 #[.string s] w fun e w' => e = .returned (.bool (isRsn s.data.toList)) ∧ w = w' := by
  unfold maxLen at hs
  go_enter Tryd.func97, Tryd.ntmps97
  go_wp2_with fail
  go_loop [6] (fun i => ∃ k : Nat, k ≤ s.size ∧ i = .int .i64 (k : Int) ∧ (s.data.toList.take k).all rs = true) (fun i => s.size - (intOf i).toNat)
  case atStart => exact ⟨0, Nat.zero_le _, rfl, rfl⟩
  case round =>
    obtain ⟨k, hk, rfl, hal⟩ := hrel
    have HAL := Lib.hid hal
    clear hal
    by_cases hlt : k < s.size
    · cases ht : rs s[k] with
      | true =>
        have HA := Lib.hid (show (s.data.toList.take (k + 1)).all rs = true from by rw [all_snoc rs s k hlt, HAL.out, ht]; rfl)
        rcases rs_yes ht with h | ⟨h1, h2⟩
        · have t1 : (s[k].toNat : Int) < 32 := by omega
          have t2 : ((s[k].toNat : Int) != 9) = false := by rw [h]; rfl
          have t3 := ne127 (c := s[k]) (by omega)
          clear ht h
          go_wp2_with fail
          go_round
          case rel => exact ⟨k + 1, by omega, by go_num, HA.out⟩
          case measure => simp [intOf]; omega
        · have t3 := ne127 (c := s[k]) h2
          clear ht h2
          go_wp2_with fail
          go_round
          case rel => exact ⟨k + 1, by omega, by go_num, HA.out⟩
          case measure => simp [intOf]; omega
      | false =>
        have HN := Lib.hid (isRsn_no s k hlt ht)
        rcases rs_no ht with ⟨h1, h2⟩ | h
        · have t2 := ne9 (c := s[k]) h2
          clear ht h2
          go_wp2_with fail
          go_ret
          exact ⟨by rw [HN.out]; rfl, rfl⟩
        · have t1 : (32 : Int) ≤ (s[k].toNat : Int) := by omega
          have t2 : ((s[k].toNat : Int) == 127) = true := by rw [h]; rfl
          clear ht h
          go_wp2_with fail
          go_ret
          exact ⟨by rw [HN.out]; rfl, rfl⟩
    · obtain rfl : k = s.size := by omega
      have HY := Lib.hid (isRsn_yes HAL.out)
      go_wp2_with fail
      go_ret
      exact ⟨by rw [HY.out]; rfl, rfl⟩

set_option maxHeartbeats 1000000 in
theorem refReason_any (s : ByteArray) (w : World) (hs : s.size ≤ maxLen) :
    Calls Tryd.prog 103 #[.string s] w fun e w' => e = .returned (.bool (isRsn s.data.toList)) ∧ w = w' := by
  unfold maxLen at hs
  go_enter Tryd.func103, Tryd.ntmps103
  go_wp2_with fail
  go_loop [3] (fun i => ∃ k : Nat, k ≤ s.size ∧ i = .int .i64 (k : Int) ∧ (s.data.toList.take k).all rs = true) (fun i => s.size - (intOf i).toNat)
  case atStart => exact ⟨0, Nat.zero_le _, rfl, rfl⟩
  case round =>
    obtain ⟨k, hk, rfl, hal⟩ := hrel
    have HAL := Lib.hid hal
    clear hal
    by_cases hlt : k < s.size
    · cases ht : rs s[k] with
      | true =>
        have HA := Lib.hid (show (s.data.toList.take (k + 1)).all rs = true from by rw [all_snoc rs s k hlt, HAL.out, ht]; rfl)
        rcases rs_yes ht with h | ⟨h1, h2⟩
        · have t2 : ((s[k].toNat : Int) != 9) = false := by rw [h]; rfl
          have t3 := ne127 (c := s[k]) (by omega)
          clear ht h
          go_wp2_with fail
          go_round
          case rel => exact ⟨k + 1, by omega, by go_num, HA.out⟩
          case measure => simp [intOf]; omega
        · have t2 := ne9 (c := s[k]) (by omega)
          have t3 := ne127 (c := s[k]) h2
          clear ht h2
          go_wp2_with fail
          go_round
          case rel => exact ⟨k + 1, by omega, by go_num, HA.out⟩
          case measure => simp [intOf]; omega
      | false =>
        have HN := Lib.hid (isRsn_no s k hlt ht)
        rcases rs_no ht with ⟨h1, h2⟩ | h
        · have t2 := ne9 (c := s[k]) h2
          clear ht h2
          go_wp2_with fail
          go_ret
          exact ⟨by rw [HN.out]; rfl, rfl⟩
        · have t1 : (32 : Int) ≤ (s[k].toNat : Int) := by omega
          have t0 := ne9 (c := s[k]) (by omega)
          have t2 : ((s[k].toNat : Int) == 127) = true := by rw [h]; rfl
          clear ht h
          go_wp2_with fail
          go_ret
          exact ⟨by rw [HN.out]; rfl, rfl⟩
    · obtain rfl : k = s.size := by omega
      have HY := Lib.hid (isRsn_yes HAL.out)
      go_wp2_with fail
      go_ret
      exact ⟨by rw [HY.out]; rfl, rfl⟩

theorem text_is {s : ByteArray} {l : Bs} (h : s.data.toList = l) : (s.toList == l) = true := by rw [ByteArray.toList_eq, h]; simp
theorem text_not {s : ByteArray} {l : Bs} (h : s.data.toList ≠ l) : (s.toList == l) = false := by rw [ByteArray.toList_eq, beq_eq_false_iff_ne]; exact h

theorem refVersion_any (s : ByteArray) (w : World) :
    Calls Tryd.prog 101 #[.string s] w fun e w' => e = .returned (.int .i64 (minorOf s.data.toList)) ∧ w = w' := by
  by_cases h0 : s.data.toList = [72, 84, 84, 80, 47, 49, 46, 48]
  · have t0 := text_is h0
    have HV := Lib.hid (show minorOf s.data.toList = 0 from by unfold minorOf ver0 ver1; rw [if_pos h0])
    clear h0
    go_enter Tryd.func101, Tryd.ntmps101
    go_wp2_with fail
    go_ret
    exact ⟨by rw [HV.out]; rfl, rfl⟩
  · have t0 := text_not h0
    by_cases h1 : s.data.toList = [72, 84, 84, 80, 47, 49, 46, 49]
    · have t1 := text_is h1
      have HV := Lib.hid (show minorOf s.data.toList = 1 from by unfold minorOf ver0 ver1; rw [if_neg h0, if_pos h1])
      clear h0 h1
      go_enter Tryd.func101, Tryd.ntmps101
      go_wp2_with fail
      go_ret
      exact ⟨by rw [HV.out]; rfl, rfl⟩
    · have t1 := text_not h1
      have HV := Lib.hid (show minorOf s.data.toList = -1 from by unfold minorOf ver0 ver1; rw [if_neg h0, if_neg h1])
      clear h0 h1
      go_enter Tryd.func101, Tryd.ntmps101
      go_wp2_with fail
      go_ret
      exact ⟨by rw [HV.out]; rfl, rfl⟩
end Go.Proofs.YtoofdompafkddaaDoor.Ln
/-
  token.appendDigit, token.Number and gatepostref01.Number: what each returns, for every text and every bound.
  Conditions: none beyond the lengths that a string can have.
-/
namespace Go.Proofs.YtoofdompafkddaaDoor.Num
open Go.RowKit

/-- A digit's byte. -/
def dg (c : UInt8) : Bool := 48 ≤ c.toNat && c.toNat ≤ 57
/-- One digit more, at most 'most'. -/
def step (most n d : Int) : Int := if most < n * 10 + d then most else n * 10 + d
def num (most n : Int) (l : List UInt8) : Int := l.foldl (fun n c => step most n ((c.toNat : Int) - 48)) n

theorem step_bd (most n d : Int) (hm : 0 ≤ most) (hn : 0 ≤ n) (hd : 0 ≤ d) : 0 ≤ step most n d ∧ step most n d ≤ most := by
  unfold step; split <;> omega
theorem dg_bd {c : UInt8} (h : dg c = true) : 48 ≤ (c.toNat : Int) ∧ (c.toNat : Int) ≤ 57 := by
  simp [dg] at h; omega
theorem num_bd (most : Int) (hm : 0 ≤ most) (l : List UInt8) : ∀ (n : Int), 0 ≤ n → n ≤ most → l.all dg = true → 0 ≤ num most n l ∧ num most n l ≤ most := by
  induction l with
  | nil => intro n h0 h1 _; exact ⟨h0, h1⟩
  | cons c l ih =>
    intro n h0 h1 ha
    simp only [List.all_cons, Bool.and_eq_true] at ha
    have hb := dg_bd ha.1
    have hs := step_bd most n ((c.toNat : Int) - 48) hm h0 (by omega)
    exact ih _ hs.1 hs.2 ha.2
theorem num_stay (most : Int) (hm : 0 ≤ most) (l : List UInt8) : l.all dg = true → num most most l = most := by
  induction l with
  | nil => intro _; rfl
  | cons c l ih =>
    intro ha
    simp only [List.all_cons, Bool.and_eq_true] at ha
    have hb := dg_bd ha.1
    have hs : step most most ((c.toNat : Int) - 48) = most := by unfold step; split <;> omega
    show num most (step most most ((c.toNat : Int) - 48)) l = most
    rw [hs]; exact ih ha.2
theorem num_snoc (most n : Int) (l : List UInt8) (c : UInt8) : num most n (l ++ [c]) = step most (num most n l) ((c.toNat : Int) - 48) := by
  simp [num, List.foldl_append]
theorem num_append (most n : Int) (l k : List UInt8) : num most n (l ++ k) = num most (num most n l) k := by
  simp [num, List.foldl_append]
theorem take_snoc (s : ByteArray) (k : Nat) (h : k < s.size) : s.data.toList.take (k + 1) = s.data.toList.take k ++ [s[k]] := by
  rw [List.take_succ_eq_append_getElem (by simpa using h)]; rfl
theorem all_snoc (s : ByteArray) (k : Nat) (h : k < s.size) : (s.data.toList.take (k + 1)).all dg = ((s.data.toList.take k).all dg && dg s[k]) := by
  rw [take_snoc s k h, List.all_append]; simp
theorem all_take (l : List UInt8) (k : Nat) (h : l.all dg = true) : (l.take k).all dg = true := by
  rw [List.all_eq_true] at h ⊢
  intro x hx; exact h x (List.mem_of_mem_take hx)
theorem not_all (s : ByteArray) (k : Nat) (h : k < s.size) (hd : dg s[k] = false) : s.data.toList.all dg = false := by
  rw [List.all_eq_false]
  exact ⟨s[k], by show s.data[k] ∈ _; simp, by simp [hd]⟩

/-- What Number answers. -/
def numOf (s : ByteArray) (most : Int) : Int × Bool := if s.size = 0 ∨ most < 0 ∨ s.data.toList.all dg = false then (0, false) else (num most 0 s.data.toList, true)

set_option maxHeartbeats 400000 in
theorem digit_any (n d most : Int) (w : World) (h0 : 0 ≤ n) (h1 : n ≤ most) (h2 : 0 ≤ d) (h3 : d ≤ 9) (h4 : most ≤ 9223372036854775807) :
    Calls Tryd.prog 138 #[.int .i64 n, .int .i64 d, .int .i64 most] w fun e w' => e = .returned (.int .i64 (step most n d)) ∧ w = w' := by
  by_cases ha : most / 10 < n
  · have HS := Lib.hid (show step most n d = most from by unfold step; rw [if_pos (by omega)])
    go_enter Tryd.func138, Tryd.ntmps138
    go_wp2
    go_ret
    exact ⟨by rw [HS.out]; rfl, rfl⟩
  · by_cases hb : most - n * 10 < d
    · have HS := Lib.hid (show step most n d = most from by unfold step; rw [if_pos (by omega)])
      go_enter Tryd.func138, Tryd.ntmps138
      go_wp2
      go_ret
      exact ⟨by rw [HS.out]; rfl, rfl⟩
    · have HS := Lib.hid (show step most n d = n * 10 + d from by unfold step; rw [if_neg (by omega)])
      go_enter Tryd.func138, Tryd.ntmps138
      go_wp2
      go_ret
      exact ⟨by rw [HS.out]; rfl, rfl⟩

theorem numOf_none {s : ByteArray} {most : Int} (h : s.size = 0 ∨ most < 0 ∨ s.data.toList.all dg = false) : numOf s most = (0, false) := by
  unfold numOf; rw [if_pos h]
theorem numOf_some {s : ByteArray} {most : Int} (h0 : 0 < s.size) (hm : 0 ≤ most) (h : s.data.toList.all dg = true) : numOf s most = (num most 0 s.data.toList, true) := by
  unfold numOf; rw [if_neg (by rw [h]; intro hh; rcases hh with hh | hh | hh <;> first | omega | simp at hh)]
/-- Two results as the walk leaves them. -/
theorem ret2 {a b : Int} {x y : Bool} {p : Int × Bool} (h : p = (b, y)) (h1 : a = b) (h2 : x = y) : Ending.returned (.tuple #[.int .i64 a, .bool x]) = .returned (.tuple #[.int .i64 p.1, .bool p.2]) := by
  rw [h, h1, h2]
theorem empty_of {s : ByteArray} (h : s.size = 0) : s.toList = [] := by
  rw [ByteArray.toList_eq, ← List.length_eq_zero_iff]; simpa using h
theorem full_of {s : ByteArray} (h : 0 < s.size) : s.toList.isEmpty = false := by
  rw [ByteArray.toList_eq]
  cases hl : s.data.toList with
  | nil => have h1 : s.data.toList.length = 0 := by rw [hl]; rfl
           rw [Array.length_toList] at h1
           have h2 : s.size = s.data.size := rfl
           omega
  | cons => rfl
theorem all_of_take {s : ByteArray} (h : (s.data.toList.take s.size).all dg = true) : s.data.toList.all dg = true := by
  rwa [List.take_of_length_le (by simp)] at h
theorem num_of_take (s : ByteArray) (most : Int) : num most 0 (s.data.toList.take s.size) = num most 0 s.data.toList := by
  rw [List.take_of_length_le (by simp)]

set_option maxHeartbeats 1000000 in
theorem number_any (s : ByteArray) (most : Int) (w : World) (hs : s.size ≤ maxLen) (h4 : most ≤ 9223372036854775807) :
    Calls Tryd.prog 113 #[.string s, .int .i64 most] w fun e w' => e = .returned (.tuple #[.int .i64 (numOf s most).1, .bool (numOf s most).2]) ∧ w = w' := by
  unfold maxLen at hs
  by_cases hz : s.size = 0
  · have HN := Lib.hid (numOf_none (most := most) (.inl hz))
    have he := empty_of hz
    clear hz
    go_enter Tryd.func113, Tryd.ntmps113
    go_wp2
    go_ret2
    exact ⟨ret2 HN.out rfl rfl, rfl⟩
  · have he := full_of (s := s) (by omega)
    by_cases hm : most < 0
    · have HN := Lib.hid (numOf_none (s := s) (.inr (.inl hm)))
      go_enter Tryd.func113, Tryd.ntmps113
      go_wp2
      go_ret2
      exact ⟨ret2 HN.out rfl rfl, rfl⟩
    · have hm' : 0 ≤ most := by omega
      go_enter Tryd.func113, Tryd.ntmps113
      go_wp2
      go_loop [6, 16] (fun n i => ∃ k : Nat, k ≤ s.size ∧ i = .int .i64 k ∧ (s.data.toList.take k).all dg = true ∧ n = .int .i64 (num most 0 (s.data.toList.take k))) (fun _ i => s.size - (intOf i).toNat)
      case atStart => exact ⟨0, Nat.zero_le _, rfl, rfl, rfl⟩
      case round =>
        obtain ⟨k, hk, rfl, hal, rfl⟩ := hrel
        have hb := num_bd most hm' (s.data.toList.take k) 0 (by omega) hm' hal
        have HAL := Lib.hid hal
        clear hal
        by_cases hlt : k < s.size
        · by_cases hd : dg s[k] = true
          · have hc := dg_bd hd
            have HS := Lib.hid (show num most 0 (s.data.toList.take (k + 1)) = step most (num most 0 (s.data.toList.take k)) ((s[k].toNat : Int) - 48) from by rw [take_snoc s k hlt, num_snoc])
            have HA := Lib.hid (show (s.data.toList.take (k + 1)).all dg = true from by rw [all_snoc s k hlt, HAL.out, hd]; rfl)
            clear hd
            go_wp2_with (go_at_call 138; refine (digit_any _ _ _ _ (by omega) (by omega) (by omega) (by omega) (by omega)).mono ?_; rintro e w' ⟨rfl, rfl⟩)
            go_round
            case rel => exact ⟨k + 1, by omega, by go_num, HA.out, by rw [HS.out]⟩
            case measure => simp [intOf]; omega
          · have HN := Lib.hid (numOf_none (s := s) (most := most) (.inr (.inr (not_all s k hlt (by simpa using hd)))))
            have hc : (s[k].toNat : Int) < 48 ∨ 57 < (s[k].toNat : Int) := by
              simp [dg] at hd; omega
            clear hd
            rcases hc with hc | hc
            all_goals
              go_wp2
              go_ret2
              exact ⟨ret2 HN.out rfl rfl, rfl⟩
        · obtain rfl : k = s.size := by omega
          have HN := Lib.hid (numOf_some (by omega) hm' (all_of_take HAL.out))
          go_wp2
          go_ret2
          exact ⟨ret2 HN.out (num_of_take _ _) rfl, rfl⟩

theorem early (s : ByteArray) (most : Int) (k : Nat) (hk : k < s.size) (hm : 0 ≤ most) (ha : s.data.toList.all dg = true) (hs : most < num most 0 (s.data.toList.take k) * 10 + ((s[k].toNat : Int) - 48)) :
    num most 0 s.data.toList = most := by
  have h1 : num most 0 (s.data.toList.take (k + 1)) = most := by
    rw [take_snoc s k hk, num_snoc]; unfold step; rw [if_pos hs]
  have h2 : num most 0 s.data.toList = num most 0 (s.data.toList.take (k + 1) ++ s.data.toList.drop (k + 1)) := by rw [List.take_append_drop]
  rw [h2, num_append, h1]
  refine num_stay most hm _ ?_
  rw [List.all_eq_true] at ha ⊢
  intro x hx; exact ha x (List.mem_of_mem_drop hx)
theorem get_dg (s : ByteArray) (k : Nat) (hk : k < s.size) (ha : s.data.toList.all dg = true) : dg s[k] = true := by
  rw [List.all_eq_true] at ha
  exact ha _ (by show s.data[k] ∈ _; simp)

set_option maxHeartbeats 2000000 in
theorem refNumber_any (s : ByteArray) (most : Int) (w : World) (hs : s.size ≤ maxLen) (h4 : most ≤ 9223372036854775807) (h5 : -9223372036854775808 ≤ most) :
    Calls Tryd.prog 102 #[.string s, .int .i64 most] w fun e w' => e = .returned (.tuple #[.int .i64 (numOf s most).1, .bool (numOf s most).2]) ∧ w = w' := by
  unfold maxLen at hs
  by_cases hm : most < 0
  · have HN := Lib.hid (numOf_none (s := s) (.inr (.inl hm)))
    go_enter Tryd.func102, Tryd.ntmps102
    go_wp2
    go_ret2
    exact ⟨ret2 HN.out rfl rfl, rfl⟩
  · have hm' : 0 ≤ most := by omega
    by_cases hz : s.size = 0
    · have HN := Lib.hid (numOf_none (most := most) (.inl hz))
      have he : ((s.size : Int) == 0) = true := by simp [hz]
      clear hz
      go_enter Tryd.func102, Tryd.ntmps102
      go_wp2
      go_ret2
      exact ⟨ret2 HN.out rfl rfl, rfl⟩
    · have he : ((s.size : Int) == 0) = false := beq_eq_false_iff_ne.2 (by omega)
      have hp : 0 < s.size := by omega
      clear hz
      go_enter Tryd.func102, Tryd.ntmps102
      go_wp2
      go_loop [7] (fun i => ∃ k : Nat, k ≤ s.size ∧ i = .int .i64 k ∧ (s.data.toList.take k).all dg = true) (fun i => s.size - (intOf i).toNat)
      case atStart => exact ⟨0, Nat.zero_le _, rfl, rfl⟩
      case round =>
        obtain ⟨k, hk, rfl, hal⟩ := hrel
        have HAL := Lib.hid hal
        clear hal
        by_cases hlt : k < s.size
        · by_cases hd : dg s[k] = true
          · have hc := dg_bd hd
            have HA := Lib.hid (show (s.data.toList.take (k + 1)).all dg = true from by rw [all_snoc s k hlt, HAL.out, hd]; rfl)
            clear hd
            go_wp2
            go_round
            case rel => exact ⟨k + 1, by omega, by go_num, HA.out⟩
            case measure => simp [intOf]; omega
          · have HN := Lib.hid (numOf_none (s := s) (most := most) (.inr (.inr (not_all s k hlt (by simpa using hd)))))
            have hc : (s[k].toNat : Int) < 48 ∨ 57 < (s[k].toNat : Int) := by
              simp [dg] at hd; omega
            clear hd
            rcases hc with hc | hc
            all_goals
              go_wp2
              go_ret2
              exact ⟨ret2 HN.out rfl rfl, rfl⟩
        · obtain rfl : k = s.size := by omega
          have HAA := Lib.hid (all_of_take HAL.out)
          have HN := Lib.hid (numOf_some (by omega) hm' HAA.out)
          clear HAL hk hlt
          go_wp2
          go_loop [6, 8] (fun n i => ∃ k : Nat, k ≤ s.size ∧ i = .int .i64 k ∧ n = .int .i64 (num most 0 (s.data.toList.take k))) (fun _ i => s.size - (intOf i).toNat)
          case atStart => exact ⟨0, Nat.zero_le _, rfl, rfl⟩
          case round =>
            obtain ⟨k, hk, rfl, rfl⟩ := hrel
            have hb := num_bd most hm' (s.data.toList.take k) 0 (by omega) hm' (all_take _ _ HAA.out)
            by_cases hlt : k < s.size
            · have hc := dg_bd (get_dg s k hlt HAA.out)
              have HS := Lib.hid (show num most 0 (s.data.toList.take (k + 1)) = step most (num most 0 (s.data.toList.take k)) ((s[k].toNat : Int) - 48) from by rw [take_snoc s k hlt, num_snoc])
              have HE := Lib.hid (early s most k hlt hm' HAA.out)
              by_cases h1 : most < (s[k].toNat : Int) - 48
              · have ht : (most - ((s[k].toNat : Int) - 48)).tdiv 10 = 0 := by
                  have e : (most - ((s[k].toNat : Int) - 48)) = -(((s[k].toNat : Int) - 48) - most) := by omega
                  rw [e, Int.neg_tdiv, Int.tdiv_eq_ediv_of_nonneg (by omega)]; omega
                have HX := Lib.hid (HE.out (by omega))
                clear HE
                by_cases h2 : 0 < num most 0 (s.data.toList.take k)
                all_goals
                  go_wp2
                  go_ret2
                  exact ⟨ret2 HN.out HX.out.symm rfl, rfl⟩
              · by_cases h2 : (most - ((s[k].toNat : Int) - 48)) / 10 < num most 0 (s.data.toList.take k)
                · have HX := Lib.hid (HE.out (by omega))
                  clear HE
                  go_wp2
                  go_ret2
                  exact ⟨ret2 HN.out HX.out.symm rfl, rfl⟩
                · have HX := Lib.hid (show step most (num most 0 (s.data.toList.take k)) ((s[k].toNat : Int) - 48) = num most 0 (s.data.toList.take k) * 10 + ((s[k].toNat : Int) - 48) from by unfold step; rw [if_neg (by omega)])
                  clear HE
                  go_wp2
                  go_round
                  case rel => exact ⟨k + 1, by omega, by go_num, by rw [HS.out, HX.out]⟩
                  case measure => simp [intOf]; omega
            · obtain rfl : k = s.size := by omega
              go_wp2
              go_ret2
              exact ⟨ret2 HN.out (num_of_take _ _) rfl, rfl⟩
end Go.Proofs.YtoofdompafkddaaDoor.Num
