/-
  Texts that the laws' proofs stand on, 3 of them in one file; each one's head says what it proves and under which condition.
-/
import Derived.Test.YtjbdgndejbiikaaDoorSgBP27
import Derived.Test.YtjbdgndejbiikaaDoorSgBP21
import Derived.Test.YtjbdgndejbiikaaDoorSgBP23
import Derived.Test.YtjbdgndejbiikaaDoorSgBP24
/-
  field.without: what it returns. Conditions: fields of at most 2^20 bytes in all; names of at most 2^20 bytes in all.
-/
namespace Go.Proofs.YtjbdgndejbiikaaDoor.Fd
open Go.RowKit Tk Go.Maps
set_option linter.unusedVariables false

theorem run_makeMap_hint {P : Program} {t k e : TypeId} (hu : P.underlying t = some (.map k e)) (n : Int) (w : World) : (Instr.makeMap t (some (.int .i64 n))).run P w = .ok (.map (some w.heap.size)) (w.alloc (.map #[] 0)) := by
  simp [Instr.makeMap, run_underlying hu, asInt, asIntOf, Result.andThen]
/-- The store's run, at a world. -/
def Upd (M : Nat) (L : ByteArray) (W W' : World) : Prop := (Instr.mapUpdate 71 (.map (some M)) (.string L) (.agg #[])).run Tryd.prog W = .ok () W'
/-- There is a function that gives the world behind the store. -/
theorem upd_fn (M : Nat) (L : ByteArray) : ∃ U : World → World, ∀ W W', Upd M L W W' → U W = W' :=
  ⟨fun W => match (Instr.mapUpdate 71 (.map (some M)) (.string L) (.agg #[])).run Tryd.prog W with | .ok _ W' => W' | .halt _ _ => W, fun W W' h => by unfold Upd at h; simp [h]⟩
/-- The map and the variable that holds it, in blocks of the call's own. -/
structure KN (w : World) (M C : Nat) (ls : List Bs) (W : World) : Prop where
  set : SetOf W M ls
  var : W.heap[C]? = some (.cells #[.map (some M)] 71 (0, 0))
  bel : Below w.heap.size w W
theorem KN.more {w : World} {M C : Nat} {ls : List Bs} {W W' : World} (h : KN w M C ls W) (hb : Below W.heap.size W W') : KN w M C ls W' :=
  ⟨h.set.old hb h.set.lt, Bl.old hb (block_lt h.var) h.var, Bl.next h.bel hb⟩
theorem KN.drew {w : World} {M C : Nat} {ls : List Bs} {W : World} (h : KN w M C ls W) : KN w M C ls W.drew := ⟨h.set, h.var, h.bel.drew⟩
theorem KN.put {w : World} {M C : Nat} {ls : List Bs} {W : World} (h : KN w M C ls W) (L : ByteArray) (hL : L.size ≤ maxLen) (hn : ls.length < maxLen) (hM : w.heap.size ≤ M) (hMC : M ≠ C) :
    ∃ W', Upd M L W W' ∧ KN w M C (ls ++ [L.data.toList]) W' := by
  obtain ⟨W', hrun, hs, ht⟩ := h.set.store L hL hn
  have hg := ht.grown
  refine ⟨W', hrun, hs, ?_, h.bel.grown hg h.bel.size (fun k hk => by cases hk; exact hM)⟩
  rw [hg.block C (block_lt h.var) (by intro e; injection e with e; exact hMC e.symm)]
  exact h.var
theorem KN.put' {w : World} {M C : Nat} {ls : List Bs} {W : World} {U : World → World} {L : ByteArray} (hU : ∀ W W', Upd M L W W' → U W = W') (h : KN w M C ls W) (hL : L.size ≤ maxLen) (hn : ls.length < maxLen) (hM : w.heap.size ≤ M) (hMC : M ≠ C) :
    Upd M L W (U W) ∧ KN w M C (ls ++ [L.data.toList]) (U W) := by
  obtain ⟨W', h1, h2⟩ := h.put L hL hn hM hMC
  rw [hU W W' h1]
  exact ⟨h1, h2⟩
def SN (M C : Nat) (L : ByteArray) (U : World → World) (W : World) : Prop :=
  W.cell? ⟨C, 0, none⟩ = some (.map (some M)) ∧ (Instr.mapUpdate 71 (.map (some M)) (.string L) (.agg #[])).run Tryd.prog W = .ok () (U W)
theorem KN.facts {w : World} {M C : Nat} {ls : List Bs} {W : World} {U : World → World} {L : ByteArray} (hU : ∀ W W', Upd M L W W' → U W = W') (h : KN w M C ls W) (hL : L.size ≤ maxLen) (hn : ls.length < maxLen) (hM : w.heap.size ≤ M) (hMC : M ≠ C) : SN M C L U W :=
  ⟨by rw [Lib.cell_of_heap h.var]; rfl, (h.put' hU hL hn hM hMC).1⟩
theorem kn_new (w : World) : KN w w.heap.size (w.heap.size + 1) [] ((w.alloc (.map #[] 0)).alloc (.cells #[.map (some w.heap.size)] 71)) :=
  ⟨(SetOf.new w).old ((Below.refl (w.alloc (.map #[] 0)).heap.size _).alloc (Nat.le_refl _) _) (SetOf.new w).lt, new_block' _ _ (by simp), ((Below.refl _ _).alloc (Nat.le_refl _) _).alloc (by simp) _⟩
theorem lt_of_texts {w : World} {g off : Nat} {ls : List Bs} (h0 : ¬ ls.length = 0) (hc : ∀ j (hj : j < ls.length), w.cell? ⟨g, off + j, none⟩ = some (TS ls[j])) : g < w.heap.size :=
  World.block_lt_of_cell? w _ (hc 0 (by omega))
theorem lower_take (ls : List Bs) (k : Nat) (h : k < ls.length) : (ls.take (k + 1)).map lower = (ls.take k).map lower ++ [lower ls[k]] := by rw [take_next ls k h, List.map_append]; rfl

set_option maxHeartbeats 4000000 in
theorem without_any (v u : Value) (fs : List Fl) (ls : List Bs) (w : World) (hf : Flds w v fs) (ht : tot fs ≤ 1048576) (hu : Texts w u ls) (hl : ls.length ≤ 1048576) (hz : ∀ x ∈ ls, x.length ≤ 1048576) :
    Calls Tryd.prog 35 #[v, u] w (KeepPost (keepF fs (ls.map lower)) w) := by
  have hmk := fun (n : Int) (W : World) => run_makeMap_hint (P := Tryd.prog) Tryd.underlying71 n W
  by_cases h0 : ls.length = 0
  · obtain rfl : ls = [] := List.length_eq_zero_iff.1 h0
    obtain ⟨a, cap, rfl⟩ := hu.shape
    have HK := Lib.hid (kn_new w)
    have HF := Lib.hid (hf.below ((kn_new w).bel) (Nat.le_refl _))
    clear h0 hu hf
    go_enter Tryd.func35, Tryd.ntmps35
    go_wp2_with fail
    clear hmk
    refine wp_loop_rounds 1 ?_
    rw [rounds_succ]
    go_wp2_with fail
    refine (keep_any v fs w.heap.size (w.heap.size + 1) [] _ HF.out ht HK.out.set HK.out.var).mono ?_
    rintro e w1 ⟨r, rfl, hO, hb⟩
    have HO := Lib.hid hO
    obtain ⟨ra, rc, hr⟩ := hO.form
    clear hO
    rw [hr] at HO
    rw [hr]
    clear hr
    go_wp2_with fail
    go_ret
    exact ⟨_, rfl, owns_mono HO.out HK.out.bel.size, Bl.next HK.out.bel hb⟩
  · rcases hu with ⟨h, _⟩ | ⟨g, off, cap, rfl, hc⟩
    · rw [h] at h0; exact absurd rfl h0
    have hgl : g < w.heap.size := lt_of_texts h0 hc
    have HC := Lib.hid hc
    have HZ := Lib.hid hz
    have HK0 := Lib.hid (kn_new w)
    clear hc hz h0
    go_enter Tryd.func35, Tryd.ntmps35
    go_wp2_with fail
    go_loopw [13] (fun i wr => ∃ k : Nat, k ≤ ls.length ∧ i = .int .i64 (k : Int) ∧ KN w w.heap.size (w.heap.size + 1) ((ls.take k).map lower) wr) (fun i _ => ls.length - (intOf i).toNat)
    case atStart => exact ⟨0, Nat.zero_le _, rfl, HK0.out⟩
    case round =>
      obtain ⟨k, hk, rfl, hK⟩ := hrel
      have HK := Lib.hid hK
      have hB := hK.bel
      clear hK hmk HK0
      by_cases hlt2 : k < ls.length
      · have c1 : wr.cell? ⟨g, off + k, none⟩ = some (TS ls[k]) := (hB.cell (p := ⟨g, off + k, none⟩) hgl).trans (HC.out k hlt2)
        have hxz := HZ.out ls[k] (List.getElem_mem hlt2)
        have HT := Lib.hid (lower_take ls k hlt2)
        have hlen : ((ls.take k).map lower).length < maxLen := by rw [List.length_map, List.length_take]; unfold maxLen; omega
        obtain ⟨x, hx⟩ : ∃ x : ByteArray, x = ⟨ls[k].toArray⟩ := ⟨_, rfl⟩
        have hxs : x.size ≤ maxLen := by rw [hx, text_size]; unfold maxLen; omega
        have HX := Lib.hid (show x.data.toList = ls[k] from by rw [hx])
        unfold TS at c1
        rw [← hx] at c1
        obtain ⟨L, hL⟩ : ∃ L : ByteArray, L = ⟨(lower x.data.toList).toArray⟩ := ⟨_, rfl⟩
        have hLs : L.size ≤ maxLen := by rw [hL, text_size, lower_length]; simpa using hxs
        have HLD := Lib.hid (show L.data.toList = lower ls[k] from by rw [hL, HX.out])
        obtain ⟨U, hU⟩ := upd_fn w.heap.size L
        have HU := Lib.hid hU
        have HS := Lib.hid (show ∀ W : World, KN w w.heap.size (w.heap.size + 1) ((ls.take k).map lower) W → SN w.heap.size (w.heap.size + 1) L U W from fun W hW => hW.facts HU.out hLs hlen (Nat.le_refl _) (by omega))
        have HS2 := Lib.hid (show ∀ W : World, KN w w.heap.size (w.heap.size + 1) ((ls.take k).map lower) W → SN w.heap.size (w.heap.size + 1) L U (U W) from fun W hW =>
          (hW.put' HU.out hLs hlen (Nat.le_refl _) (by omega)).2.facts HU.out hLs (by rw [List.length_append, List.length_map, List.length_take]; unfold maxLen; simp; omega) (Nat.le_refl _) (by omega))
        have HL := Lib.hid hL
        clear hx hL hU hxz
        go_wp2_with fail
        go_region_held3 (fun W => W.cell? ⟨w.heap.size + 1, 0, none⟩ = some (.map (some w.heap.size)) ∧ (Instr.mapUpdate 71 (.map (some w.heap.size)) (.string L) (.agg #[])).run Tryd.prog W = .ok () (U W))
          (first | exact HS.out _ HK.out.drew | exact HS.out _ (HK.out.drew.more hb1) | exact HS2.out _ (HK.out.drew.more hb1)) (first
          | (go_at_call 36; refine (lower_any x _ hxs).mono ?_; rintro e w1 ⟨rfl, hb1⟩; rw [← HL.out]))
        go_wp2_with fail
        go_roundw
        case rel => exact ⟨k + 1, by omega, by go_num, by rw [HT.out, ← HLD.out]; exact ((HK.out.drew.more hb1).put' HU.out hLs hlen (Nat.le_refl _) (by omega)).2⟩
        case measure => simp [intOf]; omega
      · have HE := Lib.hid (show ls.take k = ls from List.take_of_length_le (by omega))
        rw [HE.out] at HK
        go_wp2_with fail
        refine (keep_any v fs w.heap.size (w.heap.size + 1) _ _ (hf.below hB (Nat.le_refl _)) ht HK.out.set HK.out.var).mono ?_
        rintro e w1 ⟨r, rfl, hO, hb⟩
        have HO := Lib.hid hO
        obtain ⟨ra, rc, hr⟩ := hO.form
        clear hO
        rw [hr] at HO
        rw [hr]
        clear hr
        go_wp2_with fail
        go_ret
        exact ⟨_, rfl, owns_mono HO.out hB.size, Bl.next hB hb⟩
end Go.Proofs.YtjbdgndejbiikaaDoor.Fd
/-
  gatepostref01.Lower and gatepostref01.Same: what each returns. Conditions: none beyond the lengths that a string can have.
-/
-- cut by strips.py
namespace Go.Proofs.YtjbdgndejbiikaaDoor.Tk
open Go.RowKit

theorem run_one_back (wr : World) (n : Int) (d : UInt8) (h : n = (d.toNat : Int)) :
    (convert 77 9 (.slice (some ⟨wr.heap.size, 0, none⟩) 1 1)).run Tryd.prog (wr.alloc (.cells #[.int .u8 n] 5)) = .ok (.string ⟨#[d]⟩) (wr.alloc (.cells #[.int .u8 n] 5)) := by
  subst h
  have := run_back (P := Tryd.prog) (wr.alloc (.cells #[.int .u8 (d.toNat : Int)] 5)) 77 9 5 wr.heap.size 0 1 [d] Tryd.underlying77 Tryd.underlying5 Tryd.underlying9 (by
    intro j hj
    have hj0 : j = 0 := by simp at hj; omega
    subst hj0
    simp)
  exact this
theorem low_snoc (s : ByteArray) (k : Nat) (hk : k < s.size) : (s.data.toList.take (k + 1)).map low = (s.data.toList.take k).map low ++ [low s[k]] := by
  rw [List.take_succ_eq_append_getElem (by simpa using hk), List.map_append]; rfl
theorem snoc_data (X : ByteArray) (d : UInt8) : (X ++ (⟨#[d]⟩ : ByteArray)).data.toList = X.data.toList ++ [d] := by simp
theorem snoc_size (X : ByteArray) (d : UInt8) : (X ++ (⟨#[d]⟩ : ByteArray)).size = X.size + 1 := by rw [ByteArray.size_append]; rfl

end Go.Proofs.YtjbdgndejbiikaaDoor.Tk
/-
  gatepostref04.Get: what it returns. Condition: fields of at most 2^20 bytes in all.
-/
-- cut by strips.py
namespace Go.Proofs.YtjbdgndejbiikaaDoor.Fd
open Go.RowKit Tk
set_option linter.unusedVariables false

theorem bytes_of {X : ByteArray} {l : Bs} (h : X.data.toList = l) : X = ⟨l.toArray⟩ := by subst h; cases X; rfl
theorem size_of {X : ByteArray} {l : Bs} (h : X.data.toList = l) : X.size = l.length := by subst h; simp

end Go.Proofs.YtjbdgndejbiikaaDoor.Fd
