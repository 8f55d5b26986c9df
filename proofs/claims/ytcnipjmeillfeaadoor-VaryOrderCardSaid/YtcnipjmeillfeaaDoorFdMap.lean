/-
  A set of texts in a map that a call has made: asked and added to; field.without$1: what it returns. Condition: texts of at most 2^47 bytes.
-/
-- cut by strips.py
import Derived.Test.YtcnipjmeillfeaaDoorFdKit
import Derived.Test.YtcnipjmeillfeaaDoorFdMath
import Derived.Test.YtcnipjmeillfeaaDoorTokLower
import Derived.Maps.OwnSet
import Derived.StringKeys
import Derived.Deep.RegionHeld3
namespace Go.Proofs.YtcnipjmeillfeaaDoor.Fd
open Go.RowKit Tk Go.Maps
set_option linter.unusedVariables false

theorem keyed : Keyed Tryd.prog 9 := string_keyed Tryd.underlying9
theorem zeroUnit (w : World) : (zeroValue 41).run Tryd.prog w = .ok (.agg #[]) w := by kernel_rfl
/-- Block M of W is a map that holds just these texts. -/
def SetOf (W : World) (M : Nat) (ls : List Bs) : Prop := W.ownsMap Tryd.prog 9 (unitElem (H := Unit)) M ls.length (Maps.setOf (.agg []) (ls.map Lit.string))
theorem SetOf.lt {W : World} {M : Nat} {ls : List Bs} (h : SetOf W M ls) : M < W.heap.size := World.ownsMap.lt h
theorem SetOf.old {B : Nat} {W W' : World} {M : Nat} {ls : List Bs} (h : SetOf W M ls) (hb : Below B W W') (hM : M < B) : SetOf W' M ls := by
  obtain ⟨es, c, hg, r⟩ := h
  exact ⟨es, c, (hb.block M hM).trans hg, r⟩
theorem any_text (x : Bs) : ∀ l : List Bs, l.any ((fun y : Lit => y.sameKey (.string x)) ∘ Lit.string) = l.contains x
  | [] => rfl
  | a :: r => by
    rw [List.any_cons, List.contains_cons, any_text x r]
    congr 1
    show (a == x) = (x == a)
    rw [Bool.eq_iff_iff, beq_iff_eq, beq_iff_eq]
    exact ⟨fun h => h.symm, fun h => h.symm⟩
theorem has_text {H : Type} (ls : List Bs) (x : Bs) : Maps.has (Maps.setOf (.agg [] : DataW H) (ls.map Lit.string)) (.string x) = ls.contains x := by
  rw [has_setOf _ _ _ (fun y hy => by obtain ⟨_, _, rfl⟩ := List.mem_map.1 hy; trivial), List.any_map]
  exact any_text x ls
theorem key_text {s : ByteArray} (h : s.size ≤ maxLen) : keyOf Tryd.prog 9 (.string s) = some (.string s.data.toList) := Go.WideMaps.keyOf_string_mk Tryd.underlying9 h
theorem SetOf.look {W : World} {M : Nat} {ls : List Bs} (h : SetOf W M ls) (s : ByteArray) (hs : s.size ≤ maxLen) :
    (Instr.lookup 40 (.map (some M)) (.string s) true).run Tryd.prog W = .ok (.tuple #[.agg #[], .bool (ls.contains s.data.toList)]) W := by
  obtain ⟨v, ps, hrun, hv⟩ := World.ownsMap.look_ok h keyed Tryd.underlying40 (zeroUnit W) (unitElem_mk (H := Unit)) (key_text hs)
  obtain ⟨rfl, _⟩ := unitElem_inv hv
  rw [hrun, has_text]
theorem SetOf.store {W : World} {M : Nat} {ls : List Bs} (h : SetOf W M ls) (s : ByteArray) (hs : s.size ≤ maxLen) (hn : ls.length < maxLen) :
    ∃ W', (Instr.mapUpdate 40 (.map (some M)) (.string s) (.agg #[])).run Tryd.prog W = .ok () W' ∧ SetOf W' M (ls ++ [s.data.toList]) ∧ W.mapTurned W' M := by
  obtain ⟨W', hrun, ho, ht⟩ := World.ownsMap.store h keyed Tryd.underlying40 hn (key_text hs) (unitElem_mk (H := Unit))
  refine ⟨W', hrun, ?_, ht⟩
  unfold SetOf
  rw [List.map_append, List.map_cons, List.map_nil, setOf_snoc, List.length_append]
  exact ho
theorem SetOf.new (w : World) : SetOf (w.alloc (.map #[] 0)) w.heap.size [] := World.ownsMap_made _ _ _ _

theorem text_size {l : Bs} : (⟨l.toArray⟩ : ByteArray).size = l.length := by show l.toArray.size = _; rw [List.size_toArray]

/-- The map, the variable that holds it, the field in its box. -/
structure KW (w : World) (M C : Nat) (ls : List Bs) (n v : ByteArray) (W : World) : Prop where
  set : SetOf W M ls
  var : W.heap[C]? = some (.cells #[.map (some M)] 40 (0, 0))
  box : W.heap[w.heap.size]? = some (.cells #[.string n, .string v] 37 (0, 0))
  bel : Below w.heap.size w W
theorem KW.more {w : World} {M C : Nat} {ls : List Bs} {n v : ByteArray} {W W' : World} (h : KW w M C ls n v W) (hb : Below W.heap.size W W') : KW w M C ls n v W' :=
  ⟨h.set.old hb h.set.lt, Bl.old hb (block_lt h.var) h.var, Bl.old hb (block_lt h.box) h.box, Bl.next h.bel hb⟩
theorem KW.drew {w : World} {M C : Nat} {ls : List Bs} {n v : ByteArray} {W : World} (h : KW w M C ls n v W) : KW w M C ls n v W.drew := ⟨h.set, h.var, h.box, h.bel.drew⟩
theorem KW.alloc {w : World} {M C : Nat} {ls : List Bs} {n v : ByteArray} {W : World} (h : KW w M C ls n v W) (o : Obj) : KW w M C ls n v (W.alloc o) := h.more ((Below.refl _ _).alloc (Nat.le_refl _) _)
def SW (w : World) (M C : Nat) (ls : List Bs) (n v L : ByteArray) (bb : Bool) (W : World) : Prop :=
  W.cell? ⟨C, 0, none⟩ = some (.map (some M)) ∧ W.cell? ⟨w.heap.size, 0, none⟩ = some (.string n) ∧
    (Instr.lookup 40 (.map (some M)) (.string L) true).run Tryd.prog W = .ok (.tuple #[.agg #[], .bool bb]) W ∧ KW w M C ls n v W
theorem KW.facts {w : World} {M C : Nat} {ls : List Bs} {n v : ByteArray} {W : World} (h : KW w M C ls n v W) (L : ByteArray) (hL : L.size ≤ maxLen) : SW w M C ls n v L (ls.contains L.data.toList) W :=
  ⟨by rw [Lib.cell_of_heap h.var]; rfl, two0 h.box, h.set.look L hL, h⟩

end Go.Proofs.YtcnipjmeillfeaaDoor.Fd
