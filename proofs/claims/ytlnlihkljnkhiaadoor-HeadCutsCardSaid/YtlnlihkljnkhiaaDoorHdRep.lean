/-
  A reader of the program in memory: its block, its line's and its fields' rows; what keeps them. No condition.
-/
import Derived.Test.YtlnlihkljnkhiaaDoorHdChg
import Derived.Test.YtlnlihkljnkhiaaDoorHdMath
namespace Go.Proofs.YtlnlihkljnkhiaaDoor.Hd
open Go.RowKit Go.Proofs.YtlnlihkljnkhiaaDoor.Tk Go.Proofs.YtlnlihkljnkhiaaDoor.Fd
set_option linter.unusedVariables false

def qA (resp : Bool) (q : Parts) : ByteArray := if resp then ⟨#[]⟩ else q.a
def qB (resp : Bool) (q : Parts) : ByteArray := if resp then ⟨#[]⟩ else q.b
def qM (resp : Bool) (q : Parts) : Int := if resp then 0 else q.m
def sM (resp : Bool) (q : Parts) : Int := if resp then q.m else 0
def sC (resp : Bool) (q : Parts) : Int := if resp then q.c else 0
def sA (resp : Bool) (q : Parts) : ByteArray := if resp then q.a else ⟨#[]⟩
/-- A reader's cells. -/
def rc (resp : Bool) (M : Nat) (F lv : Value) (n : Nat) (wh : Bool) (e : Nat) (rq : Bool) (q : Parts) (fv : Value) : Array Value :=
  #[.bool resp, .int .i64 (M : Int), F, lv, .int .i64 (n : Int), .bool wh, .int .i64 (e : Int), .string (qA rq q), .string (qB rq q), .int .i64 (qM rq q), .slice none 0 0,
    .int .i64 (sM rq q), .int .i64 (sC rq q), .string (sA rq q), .slice none 0 0, fv]
/-- What is done with a line that ended. -/
def fnOf (gb : Nat) : Option Parts → Value
  | none => .func (.func 31) #[] #[.pointer (some ⟨gb, 0, none⟩)]
  | some _ => .func (.func 32) #[] #[]
def firstFn (resp : Bool) : Value := .func (.func (if resp then 20 else 19)) #[] #[]
def IsFn (F : Value) : Prop := ∃ fn fi ca, F = .func fn fi ca
theorem fnOf_is (gb : Nat) (p : Option Parts) : IsFn (fnOf gb p) := by cases p <;> exact ⟨_, _, _, rfl⟩

/-- A reader that goes on. -/
structure On (w : World) (O : Nat → Prop) (resp : Bool) (g gb : Nat) (lv fv : Value) (p : Option Parts) (l : Bs) (n : Nat) (fs : List Fl) : Prop where
  blk : w.heap[g]? = some (.cells (rc resp (most p) (fnOf gb p) lv n false 0 resp (p.getD .none) fv) 64 (0, 0))
  box : w.heap[gb]? = some (.cells #[firstFn resp] 58 (0, 0))
  line : OwnB w lv l
  flds : OwnF w 0 fv fs
  og : O g
  ob : O gb
  ol : ∀ k, lv.ownBlock = some k → O k
  of : ∀ k, fv.ownBlock = some k → O k
def Rdr (w : World) (O : Nat → Prop) (resp : Bool) (g : Nat) : St → Prop
  | .on p l n fs => ∃ gb lv fv, On w O resp g gb lv fv p l n fs
  | .done q fs => ∃ M F lv n fv, IsFn F ∧ w.heap[g]? = some (.cells (rc resp M F lv n true 0 resp q fv) 64 (0, 0)) ∧ OwnF w 0 fv fs ∧ O g ∧ ∀ k, fv.ownBlock = some k → O k
  | .bad e => ∃ M F, IsFn F ∧ w.heap[g]? = some (.cells (rc false M F (.slice none 0 0) 0 false e false .none (.slice none 0 0)) 64 (0, 0)) ∧ O g

theorem Rdr.mono {w : World} {O O' : Nat → Prop} {resp : Bool} {g : Nat} {s : St} (h : Rdr w O resp g s) (hO : ∀ k, O k → O' k) : Rdr w O' resp g s := by
  cases s with
  | on p l n fs => obtain ⟨gb, lv, fv, h⟩ := h; exact ⟨gb, lv, fv, h.blk, h.box, h.line, h.flds, hO _ h.og, hO _ h.ob, fun k hk => hO _ (h.ol k hk), fun k hk => hO _ (h.of k hk)⟩
  | done q fs => obtain ⟨M, F, lv, n, fv, hF, hb, hf, hg, ho⟩ := h; exact ⟨M, F, lv, n, fv, hF, hb, hf, hO _ hg, fun k hk => hO _ (ho k hk)⟩
  | bad e => obtain ⟨M, F, hF, hb, hg⟩ := h; exact ⟨M, F, hF, hb, hO _ hg⟩
/-- What turns other blocks alone keeps a reader. -/
theorem Rdr.kept {w w' : World} {O O' : Nat → Prop} {resp : Bool} {g : Nat} {s : St} (h : Rdr w O resp g s) (hc : Chg O' w w') (hd : ∀ k, O k → ¬ O' k) : Rdr w' O resp g s := by
  cases s with
  | on p l n fs =>
    obtain ⟨gb, lv, fv, h⟩ := h
    exact ⟨gb, lv, fv, hc.old (hd _ h.og) h.blk, hc.old (hd _ h.ob) h.box, row_chg h.line hc h.ol hd, row_chg h.flds hc h.of hd, h.og, h.ob, h.ol, h.of⟩
  | done q fs => obtain ⟨M, F, lv, n, fv, hF, hb, hf, hg, ho⟩ := h; exact ⟨M, F, lv, n, fv, hF, hc.old (hd _ hg) hb, row_chg hf hc ho hd, hg, ho⟩
  | bad e => obtain ⟨M, F, hF, hb, hg⟩ := h; exact ⟨M, F, hF, hc.old (hd _ hg) hb, hg⟩
theorem Rdr.below {w w' : World} {O : Nat → Prop} {resp : Bool} {g : Nat} {s : St} (h : Rdr w O resp g s) (hb : Below w.heap.size w w') : Rdr w' O resp g s :=
  h.kept (O' := fun _ => False) (Chg.of_below hb) (fun _ _ hf => hf)
/-- A reader's blocks are there. -/
theorem Rdr.bound {w : World} {O : Nat → Prop} {resp : Bool} {g : Nat} {s : St} (h : Rdr w O resp g s) : Rdr w (fun k => O k ∧ k < w.heap.size) resp g s := by
  cases s with
  | on p l n fs =>
    obtain ⟨gb, lv, fv, h⟩ := h
    exact ⟨gb, lv, fv, h.blk, h.box, h.line, h.flds, ⟨h.og, block_lt h.blk⟩, ⟨h.ob, block_lt h.box⟩, fun k hk => ⟨h.ol k hk, (World.ownsRow.lt h.line k hk).2⟩, fun k hk => ⟨h.of k hk, (World.ownsRow.lt h.flds k hk).2⟩⟩
  | done q fs => obtain ⟨M, F, lv, n, fv, hF, hb, hf, hg, ho⟩ := h; exact ⟨M, F, lv, n, fv, hF, hb, hf, ⟨hg, block_lt hb⟩, fun k hk => ⟨ho k hk, (World.ownsRow.lt hf k hk).2⟩⟩
  | bad e => obtain ⟨M, F, hF, hb, hg⟩ := h; exact ⟨M, F, hF, hb, hg, block_lt hb⟩

/-! A reader's cells. -/
section
variable {w : World} {g : Nat} {resp : Bool} {M : Nat} {F lv : Value} {n : Nat} {wh : Bool} {e : Nat} {rq : Bool} {q : Parts} {fv : Value}
theorem rc0 (h : w.heap[g]? = some (.cells (rc resp M F lv n wh e rq q fv) 64 (0, 0))) : w.cell? ⟨g, 0, none⟩ = some (.bool resp) := by rw [Lib.cell_of_heap h]; rfl
theorem rc1 (h : w.heap[g]? = some (.cells (rc resp M F lv n wh e rq q fv) 64 (0, 0))) : w.cell? ⟨g, 1, none⟩ = some (.int .i64 (M : Int)) := by rw [Lib.cell_of_heap h]; rfl
theorem rc2 (h : w.heap[g]? = some (.cells (rc resp M F lv n wh e rq q fv) 64 (0, 0))) : w.cell? ⟨g, 2, none⟩ = some F := by rw [Lib.cell_of_heap h]; rfl
theorem rc3 (h : w.heap[g]? = some (.cells (rc resp M F lv n wh e rq q fv) 64 (0, 0))) : w.cell? ⟨g, 3, none⟩ = some lv := by rw [Lib.cell_of_heap h]; rfl
theorem rc4 (h : w.heap[g]? = some (.cells (rc resp M F lv n wh e rq q fv) 64 (0, 0))) : w.cell? ⟨g, 4, none⟩ = some (.int .i64 (n : Int)) := by rw [Lib.cell_of_heap h]; rfl
theorem rc5 (h : w.heap[g]? = some (.cells (rc resp M F lv n wh e rq q fv) 64 (0, 0))) : w.cell? ⟨g, 5, none⟩ = some (.bool wh) := by rw [Lib.cell_of_heap h]; rfl
theorem rc6 (h : w.heap[g]? = some (.cells (rc resp M F lv n wh e rq q fv) 64 (0, 0))) : w.cell? ⟨g, 6, none⟩ = some (.int .i64 (e : Int)) := by rw [Lib.cell_of_heap h]; rfl
theorem rc15 (h : w.heap[g]? = some (.cells (rc resp M F lv n wh e rq q fv) 64 (0, 0))) : w.cell? ⟨g, 15, none⟩ = some fv := by rw [Lib.cell_of_heap h]; rfl
theorem rc_put3 (h : w.heap[g]? = some (.cells (rc resp M F lv n wh e rq q fv) 64 (0, 0))) (lv' : Value) : (w.setCell ⟨g, 3, none⟩ lv').heap[g]? = some (.cells (rc resp M F lv' n wh e rq q fv) 64 (0, 0)) := heap_put h 3 lv'
theorem rc_put4 (h : w.heap[g]? = some (.cells (rc resp M F lv n wh e rq q fv) 64 (0, 0))) (m : Nat) : (w.setCell ⟨g, 4, none⟩ (.int .i64 (m : Int))).heap[g]? = some (.cells (rc resp M F lv m wh e rq q fv) 64 (0, 0)) := heap_put h 4 _
theorem rc_put5 (h : w.heap[g]? = some (.cells (rc resp M F lv n wh e rq q fv) 64 (0, 0))) (b : Bool) : (w.setCell ⟨g, 5, none⟩ (.bool b)).heap[g]? = some (.cells (rc resp M F lv n b e rq q fv) 64 (0, 0)) := heap_put h 5 _
theorem rc_put15 (h : w.heap[g]? = some (.cells (rc resp M F lv n wh e rq q fv) 64 (0, 0))) (fv' : Value) : (w.setCell ⟨g, 15, none⟩ fv').heap[g]? = some (.cells (rc resp M F lv n wh e rq q fv') 64 (0, 0)) := heap_put h 15 fv'
end
theorem infoByte : (Tryd.prog.info? 5).map (·.size) = some 1 := by kernel_rfl
theorem infoByte3 : (Tryd.prog.info? 5).map (fun i => (i.zero, i.size, i.bytes)) = some (some (.int .u8 0), 1, 1) := by kernel_rfl
end Go.Proofs.YtlnlihkljnkhiaaDoor.Hd
