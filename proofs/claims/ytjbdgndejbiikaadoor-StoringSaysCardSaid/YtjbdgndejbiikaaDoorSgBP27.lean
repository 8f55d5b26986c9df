/-
  Texts that the laws' proofs stand on, 3 of them in one file; each one's head says what it proves and under which condition.
-/
import Derived.Test.YtjbdgndejbiikaaDoorSgBP7
import Derived.Test.YtjbdgndejbiikaaDoorSgBP8
import Derived.Test.YtjbdgndejbiikaaDoorSgBP23
import Derived.Maps.OwnSet
import Derived.StringKeys
import Derived.Deep.RegionHeld3
import Derived.Deep.QuietTactic
import Derived.BigQuiet
import Derived.Test.YtjbdgndejbiikaaDoorSgBP12
import Derived.Test.YtjbdgndejbiikaaDoorSgBP16
import Derived.Test.YtjbdgndejbiikaaDoorSgBP26
/-
  A set of texts in a map that a call has made: asked and added to; field.without$1: what it returns. Condition: texts of at most 2^47 bytes.
-/
namespace Go.Proofs.YtjbdgndejbiikaaDoor.Fd
open Go.RowKit Tk Go.Maps
set_option linter.unusedVariables false

theorem keyed : Keyed Tryd.prog 9 := string_keyed Tryd.underlying9
theorem zeroUnit (w : World) : (zeroValue 72).run Tryd.prog w = .ok (.agg #[]) w := by kernel_rfl
/-- Block M of W is a map that holds just these texts. -/
def SetOf (W : World) (M : Nat) (ls : List Bs) : Prop := W.ownsMap Tryd.prog 9 (unitElem (H := Unit)) M ls.length (Maps.setOf (.agg []) (ls.map Lit.string))
theorem SetOf.lt {W : World} {M : Nat} {ls : List Bs} (h : SetOf W M ls) : M < W.heap.size := World.ownsMap.lt h
theorem SetOf.old {B : Nat} {W W' : World} {M : Nat} {ls : List Bs} (h : SetOf W M ls) (hb : Below B W W') (hM : M < B) : SetOf W' M ls := by
  obtain ⟨es, c, hg, r⟩ := h
  exact ⟨es, c, (hb.block M hM).trans hg, r⟩
theorem any_text (x : Bs) : ∀ l : List Bs, l.any ((fun y : Lit => y.sameKey (.string x)) ∘ Lit.string) = l.contains x
  | [] => rfl
  | a :: r => by
    rw [List.any_cons, List.contains_cons, any_text x r]
    congr 1
    show (a == x) = (x == a)
    rw [Bool.eq_iff_iff, beq_iff_eq, beq_iff_eq]
    exact ⟨fun h => h.symm, fun h => h.symm⟩
theorem has_text {H : Type} (ls : List Bs) (x : Bs) : Maps.has (Maps.setOf (.agg [] : DataW H) (ls.map Lit.string)) (.string x) = ls.contains x := by
  rw [has_setOf _ _ _ (fun y hy => by obtain ⟨_, _, rfl⟩ := List.mem_map.1 hy; trivial), List.any_map]
  exact any_text x ls
theorem key_text {s : ByteArray} (h : s.size ≤ maxLen) : keyOf Tryd.prog 9 (.string s) = some (.string s.data.toList) := Go.WideMaps.keyOf_string_mk Tryd.underlying9 h
theorem SetOf.look {W : World} {M : Nat} {ls : List Bs} (h : SetOf W M ls) (s : ByteArray) (hs : s.size ≤ maxLen) :
    (Instr.lookup 71 (.map (some M)) (.string s) true).run Tryd.prog W = .ok (.tuple #[.agg #[], .bool (ls.contains s.data.toList)]) W := by
  obtain ⟨v, ps, hrun, hv⟩ := World.ownsMap.look_ok h keyed Tryd.underlying71 (zeroUnit W) (unitElem_mk (H := Unit)) (key_text hs)
  obtain ⟨rfl, _⟩ := unitElem_inv hv
  rw [hrun, has_text]
theorem SetOf.store {W : World} {M : Nat} {ls : List Bs} (h : SetOf W M ls) (s : ByteArray) (hs : s.size ≤ maxLen) (hn : ls.length < maxLen) :
    ∃ W', (Instr.mapUpdate 71 (.map (some M)) (.string s) (.agg #[])).run Tryd.prog W = .ok () W' ∧ SetOf W' M (ls ++ [s.data.toList]) ∧ W.mapTurned W' M := by
  obtain ⟨W', hrun, ho, ht⟩ := World.ownsMap.store h keyed Tryd.underlying71 hn (key_text hs) (unitElem_mk (H := Unit))
  refine ⟨W', hrun, ?_, ht⟩
  unfold SetOf
  rw [List.map_append, List.map_cons, List.map_nil, setOf_snoc, List.length_append]
  exact ho
theorem SetOf.new (w : World) : SetOf (w.alloc (.map #[] 0)) w.heap.size [] := World.ownsMap_made _ _ _ _

theorem text_size {l : Bs} : (⟨l.toArray⟩ : ByteArray).size = l.length := by show l.toArray.size = _; rw [List.size_toArray]

/-- The map, the variable that holds it, the field in its box. -/
structure KW (w : World) (M C : Nat) (ls : List Bs) (n v : ByteArray) (W : World) : Prop where
  set : SetOf W M ls
  var : W.heap[C]? = some (.cells #[.map (some M)] 71 (0, 0))
  box : W.heap[w.heap.size]? = some (.cells #[.string n, .string v] 27 (0, 0))
  bel : Below w.heap.size w W
theorem KW.more {w : World} {M C : Nat} {ls : List Bs} {n v : ByteArray} {W W' : World} (h : KW w M C ls n v W) (hb : Below W.heap.size W W') : KW w M C ls n v W' :=
  ⟨h.set.old hb h.set.lt, Bl.old hb (block_lt h.var) h.var, Bl.old hb (block_lt h.box) h.box, Bl.next h.bel hb⟩
theorem KW.drew {w : World} {M C : Nat} {ls : List Bs} {n v : ByteArray} {W : World} (h : KW w M C ls n v W) : KW w M C ls n v W.drew := ⟨h.set, h.var, h.box, h.bel.drew⟩
theorem KW.alloc {w : World} {M C : Nat} {ls : List Bs} {n v : ByteArray} {W : World} (h : KW w M C ls n v W) (o : Obj) : KW w M C ls n v (W.alloc o) := h.more ((Below.refl _ _).alloc (Nat.le_refl _) _)
def SW (w : World) (M C : Nat) (ls : List Bs) (n v L : ByteArray) (bb : Bool) (W : World) : Prop :=
  W.cell? ⟨C, 0, none⟩ = some (.map (some M)) ∧ W.cell? ⟨w.heap.size, 0, none⟩ = some (.string n) ∧
    (Instr.lookup 71 (.map (some M)) (.string L) true).run Tryd.prog W = .ok (.tuple #[.agg #[], .bool bb]) W ∧ KW w M C ls n v W
theorem KW.facts {w : World} {M C : Nat} {ls : List Bs} {n v : ByteArray} {W : World} (h : KW w M C ls n v W) (L : ByteArray) (hL : L.size ≤ maxLen) : SW w M C ls n v L (ls.contains L.data.toList) W :=
  ⟨by rw [Lib.cell_of_heap h.var]; rfl, two0 h.box, h.set.look L hL, h⟩

set_option maxHeartbeats 4000000 in
theorem wanted_any (M C : Nat) (ls : List Bs) (n v : ByteArray) (w : World) (hM : SetOf w M ls) (hC : w.heap[C]? = some (.cells #[.map (some M)] 71 (0, 0))) (hn : n.size ≤ maxLen) :
    Calls Tryd.prog 51 #[.agg #[.string n, .string v], .pointer (some ⟨C, 0, none⟩)] w fun e w' => e = .returned (.bool (!(ls.contains (lower n.data.toList)))) ∧ Below w.heap.size w w' := by
  obtain ⟨L, hL⟩ : ∃ L : ByteArray, L = ⟨(lower n.data.toList).toArray⟩ := ⟨_, rfl⟩
  have hLs : L.size ≤ maxLen := by rw [hL, text_size, lower_length]; simpa using hn
  obtain ⟨bb, hbb⟩ : ∃ bb, bb = ls.contains L.data.toList := ⟨_, rfl⟩
  have HV := Lib.hid (show ls.contains (lower n.data.toList) = bb from by rw [hbb, hL])
  have HK := Lib.hid (show KW w M C ls n v (w.alloc (.cells #[.string n, .string v] 27)) from
    ⟨hM.old ((Below.refl w.heap.size w).alloc (Nat.le_refl _) _) hM.lt, (old_block _ _ (block_lt hC)).trans hC, new_block _ _, (Below.refl _ _).alloc (Nat.le_refl _) _⟩)
  have HS := Lib.hid (show ∀ W : World, KW w M C ls n v W → SW w M C ls n v L bb W from fun W hW => by rw [hbb]; exact hW.facts L hLs)
  have HL := Lib.hid hL
  clear hM hC hL hbb
  go_enter Tryd.func51, Tryd.ntmps51
  go_wp2_with fail
  go_region_held3 (fun W => W.cell? ⟨C, 0, none⟩ = some (.map (some M)) ∧ W.cell? ⟨w.heap.size, 0, none⟩ = some (.string n) ∧
    (Instr.lookup 71 (.map (some M)) (.string L) true).run Tryd.prog W = .ok (.tuple #[.agg #[], .bool bb]) W ∧ KW w M C ls n v W)
    (first | exact HS.out _ HK.out.drew | exact HS.out _ (HK.out.drew.more hb1) | exact HS.out _ (HK.out.drew.alloc _) | exact HS.out _ ((HK.out.drew.more hb1).alloc _) | exact HS.out _ ((HK.out.drew.alloc _).more hb1)) (first
    | (go_at_call 36; refine (lower_any n _ hn).mono ?_; rintro e w1 ⟨rfl, hb1⟩; rw [← HL.out]))
  all_goals go_wp2_with fail
  all_goals
    go_ret
    first
      | exact ⟨by rw [HV.out]; rfl, ((HK.out.drew.more hb1).alloc _).bel⟩
      | exact ⟨by rw [HV.out]; rfl, ((HK.out.drew.alloc _).more hb1).bel⟩
end Go.Proofs.YtjbdgndejbiikaaDoor.Fd
/-
  gatepostlaw04.few: what it returns. Conditions: none beyond the lengths that slices and texts can have.
-/
-- cut by strips.py
namespace Go.Proofs.YtjbdgndejbiikaaDoor.Fd
open Go.RowKit Tk
set_option linter.unusedVariables false

def fewB (fs : List Fl) : Bool := decide (tot fs < 4000)
theorem few_more (fs : List Fl) (k n : Nat) (hk : k ≤ fs.length) (h : n + k = fs.length + tot (fs.take k)) : n ≤ tot fs := by
  have h1 := tot_append (fs.take k) (fs.drop k)
  rw [List.take_append_drop] at h1
  have h2 := tot_len (fs.drop k)
  rw [List.length_drop] at h2
  omega
theorem fewB_one {a b : ByteArray} (h : fewB [(a, b)] = true) : a.size < 4000 ∧ b.size < 4000 := by
  unfold fewB at h
  have h2 : tot [(a, b)] < 4000 := of_decide_eq_true h
  have h3 : tot [(a, b)] = a.size + b.size + 1 := by simp [tot]
  omega

end Go.Proofs.YtjbdgndejbiikaaDoor.Fd
/-
  field.keep with the closure of without: what it returns. Conditions: fields of at most 2^20 bytes in all.
-/
namespace Go.Proofs.YtjbdgndejbiikaaDoor.Fd
open Go.RowKit Tk Go.Maps
set_option linter.unusedVariables false

def KeepPost (fs : List Fl) (w : World) (e : Ending) (w' : World) : Prop := ∃ u, e = .returned u ∧ OwnF w' w.heap.size u fs ∧ Below w.heap.size w w'

set_option maxHeartbeats 4000000 in
theorem keep_any (v : Value) (fs : List Fl) (M C : Nat) (ls : List Bs) (w : World) (hf : Flds w v fs) (ht : tot fs ≤ 1048576) (hM : SetOf w M ls) (hC : w.heap[C]? = some (.cells #[.map (some M)] 71 (0, 0))) :
    Calls Tryd.prog 50 #[v, .func (Fn.func 51) #[] #[.pointer (some ⟨C, 0, none⟩)]] w (KeepPost (keepF fs ls) w) := by
  rcases hf with ⟨rfl, a, cap, rfl⟩ | ⟨b, off, cap, rfl, hlt, hc⟩
  · have HO := Lib.hid (OwnF.nil w w.heap.size)
    clear hM hC
    go_enter Tryd.func50, Tryd.ntmps50
    go_wp2_with fail
    refine wp_loop_rounds 1 ?_
    rw [rounds_succ]
    go_wp2_with fail
    go_ret
    exact ⟨_, rfl, HO.out, Below.refl _ _⟩
  · have HC := Lib.hid hc
    have HM := Lib.hid hM
    have HV := Lib.hid hC
    have hMl := hM.lt
    have hCl := block_lt hC
    have hlen := tot_len fs
    have HO := Lib.hid (OwnF.nil w w.heap.size)
    clear hc hM hC
    obtain ⟨i0, hi, hz0, hz1, hz2⟩ := info_parts infoField
    go_enter Tryd.func50, Tryd.ntmps50
    go_wp2_with fail
    go_loopw [5, 10] (fun o i wr => ∃ k : Nat, k ≤ fs.length ∧ i = .int .i64 (k : Int) ∧ OwnF wr w.heap.size o (keepF (fs.take k) ls) ∧ Below w.heap.size w wr) (fun _ i _ => fs.length - (intOf i).toNat)
    case atStart => exact ⟨0, Nat.zero_le _, rfl, HO.out, Below.refl _ _⟩
    case round =>
      obtain ⟨k, hk, rfl, hO, hB⟩ := hrel
      have HOk := Lib.hid hO
      clear hO HO
      have hsz := hB.size
      by_cases hlt2 : k < fs.length
      · have c1 : wr.cell? ⟨b, off + k * 2, none⟩ = some (.string fs[k].1) := (hB.cell (p := ⟨b, off + k * 2, none⟩) hlt).trans (HC.out k hlt2).1
        have c2 : wr.cell? ⟨b, off + k * 2 + 1, none⟩ = some (.string fs[k].2) := (hB.cell (p := ⟨b, off + k * 2 + 1, none⟩) hlt).trans (HC.out k hlt2).2
        have hx2 := tot_at fs k hlt2
        have hkl := keep_len fs ls k
        cases hh : ls.contains (lower fs[k].1.data.toList) with
        | true =>
          have HN := Lib.hid (keep_no fs ls k hlt2 hh)
          have HH := Lib.hid hh
          obtain ⟨x, hx⟩ : ∃ x, x = fs[k].1 := ⟨_, rfl⟩
          obtain ⟨y, hy⟩ : ∃ y, y = fs[k].2 := ⟨_, rfl⟩
          rw [← hx] at c1 HH hx2
          rw [← hy] at c2 hx2
          have hB0 := hB.alloc hsz (.cells #[.string x, .string y] 27)
          have HO0 := Lib.hid (HOk.out.kept ((Below.refl _ _).alloc (Nat.le_refl _) (.cells #[.string x, .string y] 27)))
          clear hx hy hh HOk
          go_wp2_with fail
          refine (wanted_any M C ls x y _ (HM.out.old hB0 hMl) (Bl.old hB0 hCl HV.out) (by unfold maxLen; omega)).mono ?_
          rintro e w1 ⟨rfl, hb1⟩
          rw [HH.out]
          have hB1 := Bl.next hB0 hb1
          have HO1 := Lib.hid (HO0.out.kept hb1)
          clear hb1 HO0 hB0
          go_wp2_with fail
          go_roundw
          case rel => exact ⟨k + 1, by omega, by go_num, by rw [HN.out]; exact HO1.out, hB1⟩
          case measure => simp [intOf]; omega
        | false =>
          have HN := Lib.hid (keep_yes fs ls k hlt2 hh)
          have HH := Lib.hid hh
          have HXY := Lib.hid (show fs[k] = (fs[k].1, fs[k].2) from rfl)
          obtain ⟨x, hx⟩ : ∃ x, x = fs[k].1 := ⟨_, rfl⟩
          obtain ⟨y, hy⟩ : ∃ y, y = fs[k].2 := ⟨_, rfl⟩
          rw [← hx] at c1 HH hx2 HXY
          rw [← hy] at c2 hx2 HXY
          have hB0 := hB.alloc hsz (.cells #[.string x, .string y] 27)
          have HO0 := Lib.hid (HOk.out.kept ((Below.refl _ _).alloc (Nat.le_refl _) (.cells #[.string x, .string y] 27)))
          have hr0 := new_block wr (.cells #[.string x, .string y] 27)
          clear hx hy hh HOk
          go_wp2_with fail
          refine (wanted_any M C ls x y _ (HM.out.old hB0 hMl) (Bl.old hB0 hCl HV.out) (by unfold maxLen; omega)).mono ?_
          rintro e w1 ⟨rfl, hb1⟩
          rw [HH.out]
          have hB1 := Bl.next hB0 hb1
          have HO1 := Lib.hid (HO0.out.kept hb1)
          have hr1 := Bl.old hb1 (block_lt hr0) hr0
          have d0 := two0 hr1
          have d1 := two1 hr1
          clear hb1 HO0 hB0 hr0
          go_wp2_with fail
          refine (cloneF_any x y _ (by omega) (by omega)).mono ?_
          rintro e w2 ⟨rfl, hb2⟩
          have hB2 := Bl.next hB1 hb2
          have HO2 := Lib.hid (HO1.out.kept hb2)
          have hsz2 := hB2.size
          clear hb2 HO1 hB1 hr1 d0 d1
          have HN2 := Lib.hid (news_at (new_block w2 (.cells #[.string x, .string y] 27)))
          have HO3 := Lib.hid (HO2.out.kept ((Below.refl _ _).alloc (Nat.le_refl _) (.cells #[.string x, .string y] 27)))
          have hB3 := hB2.alloc hsz2 (.cells #[.string x, .string y] 27)
          clear HO2 hB2
          go_wp2_with (at_builtin; refine wpList_append_own _ rfl _ _ 22 rfl w.heap.size 27 i0 (.agg #[.string ⟨#[]⟩, .string ⟨#[]⟩]) 2 32 Tryd.underlying22 hi hz0 hz1 hz2 rfl (by decide) _ _ _ rfl HO3.out ⟨w2.heap.size, 0, none⟩ 1 1 [.string x, .string y] rfl rfl HN2.out (one_cells x y) (by unfold maxLen; omega) (by omega) (by simp; omega) ?_; intro v' w3 hown' hgrow hnil)
          have hB4 := hB3.grown hgrow hB3.size HO3.out.row
          go_roundw
          case rel => exact ⟨k + 1, by omega, by go_num, by rw [HN.out, HXY.out]; unfold OwnF; rw [flat_snoc, List.length_append]; exact hown', hB4⟩
          case measure => simp [intOf]; omega
      · have HE := Lib.hid (show fs.take k = fs from List.take_of_length_le (by omega))
        rw [HE.out] at HOk
        go_wp2_with fail
        go_ret
        exact ⟨_, rfl, HOk.out, hB⟩
end Go.Proofs.YtjbdgndejbiikaaDoor.Fd
