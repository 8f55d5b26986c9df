/-
  control.pragma, control.Of: what each returns. Conditions: fields of at most 2^20 bytes in all; the table of token bytes.
-/
import Derived.Test.YtmnnbefigepgfaaDoorCtParse
import Derived.Test.YtmnnbefigepgfaaDoorCtHas
import Derived.Test.YtmnnbefigepgfaaDoorFdGet
namespace Go.Proofs.YtmnnbefigepgfaaDoor.Ct
open Go.RowKit Go.Proofs.YtmnnbefigepgfaaDoor.Tk Go.Proofs.YtmnnbefigepgfaaDoor.Fd Go.Proofs.YtmnnbefigepgfaaDoor.Hd
set_option linter.unusedVariables false

/-- Does the old field ask for no cached answer? -/
def pragB (fs : List Fl) : Bool := match splitOf (lower (getT fs prL)) with
  | none => false
  | some ls => ls.any (· == nca)
theorem sel_case (fs : List Fl) {a b : Bs} (h : lower a = lower b) : sel fs a = sel fs b := by
  unfold sel
  congr 2
  funext f
  unfold has
  unfold alike
  rw [h]
theorem ofOf_cc {fs : List Fl} (h : 0 < getN fs ccL) : ofOf fs = (parseOf (getT fs ccL)).1 := by unfold ofOf; rw [if_pos h]
theorem ofOf_prag {fs : List Fl} (h : ¬ 0 < getN fs ccL) (hp : pragB fs = true) : ofOf fs = { Con.zero with nc := true } := by
  unfold ofOf; rw [if_neg h]
  unfold pragB at hp
  cases hs : splitOf (lower (getT fs prL)) with
  | none => rw [hs] at hp; cases hp
  | some ls => rw [hs] at hp; simp only; rw [if_pos hp]
theorem ofOf_none {fs : List Fl} (h : ¬ 0 < getN fs ccL) (hp : pragB fs = false) : ofOf fs = Con.zero := by
  unfold ofOf; rw [if_neg h]
  unfold pragB at hp
  cases hs : splitOf (lower (getT fs prL)) with
  | none => rfl
  | some ls => rw [hs] at hp; simp only; rw [if_neg (by rw [show ls.any (· == nca) = false from hp]; decide)]
theorem parseOf_nil : parseOf [] = (.zero, true) := by kernel_rfl

set_option maxHeartbeats 4000000 in
theorem pragma_any (v : Value) (fs : List Fl) (w : World) (hf : Flds w v fs) (ht : tot fs ≤ 1048576) :
    Calls Tryd.prog 24 #[v] w fun e w' => e = .returned (.bool (pragB fs)) ∧ Below w.heap.size w w' := by
  have hgl := getT_length fs prL
  have hcs : getT fs [80, 114, 97, 103, 109, 97] = getT fs prL := by unfold getT; rw [sel_case fs (show lower [80, 114, 97, 103, 109, 97] = lower prL by decide)]
  obtain ⟨X, hX⟩ : ∃ X : ByteArray, X = ⟨(getT fs prL).toArray⟩ := ⟨_, rfl⟩
  have hXl : X.data.toList = getT fs prL := by rw [hX]
  have hXs : X.size ≤ 2097152 := by rw [hX]; show (getT fs prL).toArray.size ≤ _; rw [List.size_toArray]; omega
  obtain ⟨N, hN⟩ : ∃ N : Nat, N = getN fs [80, 114, 97, 103, 109, 97] := ⟨_, rfl⟩
  have HG := Lib.hid (show getVal fs [80, 114, 97, 103, 109, 97] = .tuple #[.string X, .int .i64 (N : Int)] from by unfold getVal; rw [hcs, hX, hN])
  obtain ⟨L, hL⟩ : ∃ L : ByteArray, L = ⟨(lower X.data.toList).toArray⟩ := ⟨_, rfl⟩
  have HL := Lib.hid hL
  have hLs : L.size ≤ 2097152 := by rw [hL]; show (lower X.data.toList).toArray.size ≤ _; rw [List.size_toArray, lower_length]; simpa using hXs
  have HLL := Lib.hid (show L.data.toList = lower (getT fs prL) from by rw [hL, hXl])
  have HF := Lib.hid hf
  clear hX hXl hN hL hcs hf
  go_enter Tryd.func24, Tryd.ntmps24
  go_wp2_with fail
  refine (get_any v fs ⟨#[80, 114, 97, 103, 109, 97]⟩ _ HF.out ht (by decide)).mono ?_
  rintro e w1 ⟨rfl, hb1⟩
  rw [HG.out]
  go_wp2_with fail
  refine (lower_any X _ (by unfold maxLen; omega)).mono ?_
  rintro e w2 ⟨rfl, hb2⟩
  rw [← HL.out]
  have HB2 := Lib.hid (Bl.next hb1 hb2)
  clear hb1 hb2
  go_wp2_with fail
  refine (split_any L _ (by omega)).mono ?_
  rintro e w3 ⟨hb3, h3⟩
  have HB3 := Lib.hid (Bl.next HB2.out hb3)
  rw [HLL.out] at h3
  rcases h3 with ⟨h3, rfl⟩ | ⟨ls, u, h3, rfl, ho⟩
  · have HP := Lib.hid (show pragB fs = false from by unfold pragB; rw [h3])
    clear h3 hb3
    go_wp2_with fail
    go_ret
    exact ⟨by rw [HP.out]; rfl, HB3.out⟩
  · have hll := split_length h3
    rw [lower_length] at hll
    have HP := Lib.hid (show pragB fs = ls.any (· == nca) from by unfold pragB; rw [h3])
    have HO := Lib.hid ho
    clear h3 hb3 ho
    go_wp2_with fail
    refine (contains_any u ls ⟨#[110, 111, 45, 99, 97, 99, 104, 101]⟩ _ _ HO.out (by omega)).mono ?_
    rintro e w4 ⟨rfl, rfl⟩
    go_wp2_with fail
    go_ret
    exact ⟨by rw [HP.out]; rfl, HB3.out⟩

/-- Nothing said but that no cached answer is wanted. -/
def Con.nc0 : Con := ⟨false, true, false, false, false, false, false, -1, -1, -1, -1, -1, -1⟩
theorem set13_nc0 (W : World) (r : Nat) : (World.setCell (World.setCell (World.setCell (World.setCell (World.setCell (World.setCell (World.setCell (World.setCell (World.setCell (World.setCell (World.setCell (World.setCell (World.setCell W ⟨r, 0, none⟩ (.bool false)) ⟨r, 1, none⟩ (.bool true)) ⟨r, 2, none⟩ (.bool false)) ⟨r, 3, none⟩ (.bool false)) ⟨r, 4, none⟩ (.bool false)) ⟨r, 5, none⟩ (.bool false)) ⟨r, 6, none⟩ (.bool false)) ⟨r, 7, none⟩ (.int .i64 (-1))) ⟨r, 8, none⟩ (.int .i64 (-1))) ⟨r, 9, none⟩ (.int .i64 (-1))) ⟨r, 10, none⟩ (.int .i64 (-1))) ⟨r, 11, none⟩ (.int .i64 (-1))) ⟨r, 12, none⟩ (.int .i64 (-1))) = set13 W r Con.nc0 := rfl
theorem cellAt_of {w : World} {g : Nat} {cs : Array Value} {t : TypeId} {fr : Nat × Nat} (h : w.heap[g]? = some (.cells cs t fr)) (i : Nat) {x : Value} (hx : cs[i]? = some x) : w.cell? ⟨g, i, none⟩ = some x := by rw [Lib.cell_of_heap h, hx]
set_option maxRecDepth 100000 in
set_option maxHeartbeats 8000000 in
theorem of_any (v : Value) (fs : List Fl) (w : World) (hf : Flds w v fs) (ht : tot fs ≤ 1048576) (hT : Tab w) :
    Calls Tryd.prog 8 #[v] w fun e w' => e = .returned (.agg (cells (ofOf fs))) ∧ Below w.heap.size w w' := by
  have hgl := getT_length fs ccL
  have hcs : sel fs [67, 97, 99, 104, 101, 45, 67, 111, 110, 116, 114, 111, 108] = sel fs ccL := sel_case fs (show lower _ = lower ccL by decide)
  obtain ⟨X, hX⟩ : ∃ X : ByteArray, X = ⟨(getT fs ccL).toArray⟩ := ⟨_, rfl⟩
  have HXl := Lib.hid (show X.data.toList = getT fs ccL from by rw [hX])
  have hXs : X.size ≤ 2097152 := by rw [hX]; show (getT fs ccL).toArray.size ≤ _; rw [List.size_toArray]; omega
  obtain ⟨N, hN⟩ : ∃ N : Nat, N = getN fs ccL := ⟨_, rfl⟩
  have HG := Lib.hid (show getVal fs [67, 97, 99, 104, 101, 45, 67, 111, 110, 116, 114, 111, 108] = .tuple #[.string X, .int .i64 (N : Int)] from by unfold getVal getT getN; rw [hcs, hX, hN]; rfl)
  have HX0 := Lib.hid (show N = 0 → X.data.toList = [] from fun e => by
    rw [HXl.out]
    have h1 : (sel fs ccL).length = 0 := by rw [hN] at e; exact e
    unfold getT
    rw [List.length_eq_zero_iff.1 h1]; rfl)
  have HN := Lib.hid hN
  have HF := Lib.hid hf
  have HT := Lib.hid hT
  have hg := hT.lt
  have hbw : Below w.heap.size w (w.alloc (.cells blank13 26)) := (Below.refl _ _).alloc (Nat.le_refl _) _
  have HW := Lib.hid hbw
  clear hX hN hcs hf hT hbw
  go_enter Tryd.func8, Tryd.ntmps8
  go_wp2_with fail
  refine (get_any v fs ⟨#[67, 97, 99, 104, 101, 45, 67, 111, 110, 116, 114, 111, 108]⟩ _ (HF.out.below HW.out (Nat.le_refl _)) ht (by decide)).mono ?_
  rintro e w1 ⟨rfl, hb1⟩
  rw [HG.out]
  have hR1 := Bl.old hb1 (b := w.heap.size) (by simp) (new_block w (.cells blank13 26))
  have HB1 := Lib.hid (Bl.next HW.out hb1)
  have HR1 := Lib.hid hR1
  clear hb1 hR1
  by_cases h0 : N = 0
  · have t0 : ((N : Int) == 0) = true := by simp [h0]
    have hn0 : ¬ 0 < getN fs ccL := by rw [← HN.out]; omega
    cases hp : pragB fs with
    | true =>
      have HV := Lib.hid (ofOf_prag hn0 hp)
      have HP := Lib.hid hp
      clear hp hn0
      go_wp2_with fail
      refine (pragma_any v fs _ (HF.out.below HB1.out (Nat.le_refl _)) ht).mono ?_
      rintro e w2 ⟨rfl, hb2⟩
      rw [HP.out]
      have HR2 := Lib.hid (Bl.old hb2 (block_lt HR1.out) HR1.out)
      have HB2 := Lib.hid (Bl.next HB1.out hb2)
      clear hb2
      go_wp2_with fail
      refine (silent_any _).mono ?_
      rintro e W3 ⟨rfl, hb3⟩
      have hR3 := Bl.old hb3 (block_lt HR2.out) HR2.out
      have HB3 := Lib.hid (Bl.next HB2.out hb3)
      clear hb3
      have hal : ∀ Y, (W3.alloc (.cells Y 26)).heap[w.heap.size]? = some (.cells blank13 26 (0, 0)) := fun Y => (old_block _ _ (block_lt hR3)).trans hR3
      have HAL := Lib.hid hal
      have r0 : ∀ Y, (W3.alloc (.cells Y 26)).cell? ⟨w.heap.size, 0, none⟩ = some (.bool false) := fun Y => cellAt_of (hal Y) 0 rfl
      have r1 : ∀ Y, (W3.alloc (.cells Y 26)).cell? ⟨w.heap.size, 1, none⟩ = some (.bool false) := fun Y => cellAt_of (hal Y) 1 rfl
      have r2 : ∀ Y, (W3.alloc (.cells Y 26)).cell? ⟨w.heap.size, 2, none⟩ = some (.bool false) := fun Y => cellAt_of (hal Y) 2 rfl
      have r3 : ∀ Y, (W3.alloc (.cells Y 26)).cell? ⟨w.heap.size, 3, none⟩ = some (.bool false) := fun Y => cellAt_of (hal Y) 3 rfl
      have r4 : ∀ Y, (W3.alloc (.cells Y 26)).cell? ⟨w.heap.size, 4, none⟩ = some (.bool false) := fun Y => cellAt_of (hal Y) 4 rfl
      have r5 : ∀ Y, (W3.alloc (.cells Y 26)).cell? ⟨w.heap.size, 5, none⟩ = some (.bool false) := fun Y => cellAt_of (hal Y) 5 rfl
      have r6 : ∀ Y, (W3.alloc (.cells Y 26)).cell? ⟨w.heap.size, 6, none⟩ = some (.bool false) := fun Y => cellAt_of (hal Y) 6 rfl
      have r7 : ∀ Y, (W3.alloc (.cells Y 26)).cell? ⟨w.heap.size, 7, none⟩ = some (.int .i64 0) := fun Y => cellAt_of (hal Y) 7 rfl
      have r8 : ∀ Y, (W3.alloc (.cells Y 26)).cell? ⟨w.heap.size, 8, none⟩ = some (.int .i64 0) := fun Y => cellAt_of (hal Y) 8 rfl
      have r9 : ∀ Y, (W3.alloc (.cells Y 26)).cell? ⟨w.heap.size, 9, none⟩ = some (.int .i64 0) := fun Y => cellAt_of (hal Y) 9 rfl
      have r10 : ∀ Y, (W3.alloc (.cells Y 26)).cell? ⟨w.heap.size, 10, none⟩ = some (.int .i64 0) := fun Y => cellAt_of (hal Y) 10 rfl
      have r11 : ∀ Y, (W3.alloc (.cells Y 26)).cell? ⟨w.heap.size, 11, none⟩ = some (.int .i64 0) := fun Y => cellAt_of (hal Y) 11 rfl
      have r12 : ∀ Y, (W3.alloc (.cells Y 26)).cell? ⟨w.heap.size, 12, none⟩ = some (.int .i64 0) := fun Y => cellAt_of (hal Y) 12 rfl
      have g0 := fun Y => free (hal Y) 0
      have g1 := fun Y => free (hal Y) 1
      have g2 := fun Y => free (hal Y) 2
      have g3 := fun Y => free (hal Y) 3
      have g4 := fun Y => free (hal Y) 4
      have g5 := fun Y => free (hal Y) 5
      have g6 := fun Y => free (hal Y) 6
      have g7 := fun Y => free (hal Y) 7
      have g8 := fun Y => free (hal Y) 8
      have g9 := fun Y => free (hal Y) 9
      have g10 := fun Y => free (hal Y) 10
      have g11 := fun Y => free (hal Y) 11
      have g12 := fun Y => free (hal Y) 12
      clear hal hR3
      go_wp2_with fail
      rw [set13_nc0]
      refine bodyPost_ret (results_one rfl _ _ w.heap.size 26 _ (0, 0) _ rfl (set13_at (HAL.out _) Con.nc0) Tryd.underlying26 rfl infoCon) rfl ?_
      exact ⟨by rw [HV.out]; rfl, set13_below (HB3.out.alloc HB3.out.size _) (Nat.le_refl _) _⟩
    | false =>
      have HV := Lib.hid (show ofOf fs = (parseOf X.data.toList).1 from by rw [ofOf_none hn0 hp, HX0.out h0, parseOf_nil])
      have HP := Lib.hid hp
      clear hp hn0
      go_wp2_with fail
      refine (pragma_any v fs _ (HF.out.below HB1.out (Nat.le_refl _)) ht).mono ?_
      rintro e w2 ⟨rfl, hb2⟩
      rw [HP.out]
      have HR2 := Lib.hid (Bl.old hb2 (block_lt HR1.out) HR1.out)
      have HB2 := Lib.hid (Bl.next HB1.out hb2)
      clear hb2
      go_wp2_with fail
      refine (parse_any X _ (by omega) (HT.out.below HB2.out hg)).mono ?_
      rintro e W3 ⟨rfl, hb3⟩
      obtain ⟨cc, hcc⟩ : ∃ cc, cc = (parseOf X.data.toList).1 := ⟨_, rfl⟩
      obtain ⟨bb, hbb⟩ : ∃ bb, bb = (parseOf X.data.toList).2 := ⟨_, rfl⟩
      have hPV : parseVal X.data.toList = .tuple #[.agg #[.bool cc.ns, .bool cc.nc, .bool cc.pr, .bool cc.pu, .bool cc.mu, .bool cc.px, .bool cc.oc, .int .i64 cc.ag, .int .i64 cc.sh, .int .i64 cc.wh, .int .i64 cc.ie, .int .i64 cc.mf, .int .i64 cc.ms], .bool bb] := by unfold parseVal; rw [← hcc, ← hbb]; rfl
      rw [hPV]
      rw [← hcc] at HV
      have hR3 := Bl.old hb3 (block_lt HR2.out) HR2.out
      have HB3 := Lib.hid (Bl.next HB2.out hb3)
      clear hb3 hcc hbb hPV
      have hal : ∀ Y, (W3.alloc (.cells Y 26)).heap[w.heap.size]? = some (.cells blank13 26 (0, 0)) := fun Y => (old_block _ _ (block_lt hR3)).trans hR3
      have HAL := Lib.hid hal
      have r0 : ∀ Y, (W3.alloc (.cells Y 26)).cell? ⟨w.heap.size, 0, none⟩ = some (.bool false) := fun Y => cellAt_of (hal Y) 0 rfl
      have r1 : ∀ Y, (W3.alloc (.cells Y 26)).cell? ⟨w.heap.size, 1, none⟩ = some (.bool false) := fun Y => cellAt_of (hal Y) 1 rfl
      have r2 : ∀ Y, (W3.alloc (.cells Y 26)).cell? ⟨w.heap.size, 2, none⟩ = some (.bool false) := fun Y => cellAt_of (hal Y) 2 rfl
      have r3 : ∀ Y, (W3.alloc (.cells Y 26)).cell? ⟨w.heap.size, 3, none⟩ = some (.bool false) := fun Y => cellAt_of (hal Y) 3 rfl
      have r4 : ∀ Y, (W3.alloc (.cells Y 26)).cell? ⟨w.heap.size, 4, none⟩ = some (.bool false) := fun Y => cellAt_of (hal Y) 4 rfl
      have r5 : ∀ Y, (W3.alloc (.cells Y 26)).cell? ⟨w.heap.size, 5, none⟩ = some (.bool false) := fun Y => cellAt_of (hal Y) 5 rfl
      have r6 : ∀ Y, (W3.alloc (.cells Y 26)).cell? ⟨w.heap.size, 6, none⟩ = some (.bool false) := fun Y => cellAt_of (hal Y) 6 rfl
      have r7 : ∀ Y, (W3.alloc (.cells Y 26)).cell? ⟨w.heap.size, 7, none⟩ = some (.int .i64 0) := fun Y => cellAt_of (hal Y) 7 rfl
      have r8 : ∀ Y, (W3.alloc (.cells Y 26)).cell? ⟨w.heap.size, 8, none⟩ = some (.int .i64 0) := fun Y => cellAt_of (hal Y) 8 rfl
      have r9 : ∀ Y, (W3.alloc (.cells Y 26)).cell? ⟨w.heap.size, 9, none⟩ = some (.int .i64 0) := fun Y => cellAt_of (hal Y) 9 rfl
      have r10 : ∀ Y, (W3.alloc (.cells Y 26)).cell? ⟨w.heap.size, 10, none⟩ = some (.int .i64 0) := fun Y => cellAt_of (hal Y) 10 rfl
      have r11 : ∀ Y, (W3.alloc (.cells Y 26)).cell? ⟨w.heap.size, 11, none⟩ = some (.int .i64 0) := fun Y => cellAt_of (hal Y) 11 rfl
      have r12 : ∀ Y, (W3.alloc (.cells Y 26)).cell? ⟨w.heap.size, 12, none⟩ = some (.int .i64 0) := fun Y => cellAt_of (hal Y) 12 rfl
      have g0 := fun Y => free (hal Y) 0
      have g1 := fun Y => free (hal Y) 1
      have g2 := fun Y => free (hal Y) 2
      have g3 := fun Y => free (hal Y) 3
      have g4 := fun Y => free (hal Y) 4
      have g5 := fun Y => free (hal Y) 5
      have g6 := fun Y => free (hal Y) 6
      have g7 := fun Y => free (hal Y) 7
      have g8 := fun Y => free (hal Y) 8
      have g9 := fun Y => free (hal Y) 9
      have g10 := fun Y => free (hal Y) 10
      have g11 := fun Y => free (hal Y) 11
      have g12 := fun Y => free (hal Y) 12
      clear hal hR3
      go_wp2_with fail
      refine bodyPost_ret (results_one rfl _ _ w.heap.size 26 _ (0, 0) _ rfl (set13_at (HAL.out _) cc) Tryd.underlying26 rfl infoCon) rfl ?_
      exact ⟨by rw [HV.out], set13_below (HB3.out.alloc HB3.out.size _) (Nat.le_refl _) _⟩
  · have t0 : ((N : Int) == 0) = false := by simp [h0]
    have HV := Lib.hid (show ofOf fs = (parseOf X.data.toList).1 from by rw [ofOf_cc (by rw [← HN.out]; omega), HXl.out])
    have HR2 := HR1
    have HB2 := HB1
    go_wp2_with fail
    refine (parse_any X _ (by omega) (HT.out.below HB2.out hg)).mono ?_
    rintro e W3 ⟨rfl, hb3⟩
    obtain ⟨cc, hcc⟩ : ∃ cc, cc = (parseOf X.data.toList).1 := ⟨_, rfl⟩
    obtain ⟨bb, hbb⟩ : ∃ bb, bb = (parseOf X.data.toList).2 := ⟨_, rfl⟩
    have hPV : parseVal X.data.toList = .tuple #[.agg #[.bool cc.ns, .bool cc.nc, .bool cc.pr, .bool cc.pu, .bool cc.mu, .bool cc.px, .bool cc.oc, .int .i64 cc.ag, .int .i64 cc.sh, .int .i64 cc.wh, .int .i64 cc.ie, .int .i64 cc.mf, .int .i64 cc.ms], .bool bb] := by unfold parseVal; rw [← hcc, ← hbb]; rfl
    rw [hPV]
    rw [← hcc] at HV
    have hR3 := Bl.old hb3 (block_lt HR2.out) HR2.out
    have HB3 := Lib.hid (Bl.next HB2.out hb3)
    clear hb3 hcc hbb hPV
    have hal : ∀ Y, (W3.alloc (.cells Y 26)).heap[w.heap.size]? = some (.cells blank13 26 (0, 0)) := fun Y => (old_block _ _ (block_lt hR3)).trans hR3
    have HAL := Lib.hid hal
    have r0 : ∀ Y, (W3.alloc (.cells Y 26)).cell? ⟨w.heap.size, 0, none⟩ = some (.bool false) := fun Y => cellAt_of (hal Y) 0 rfl
    have r1 : ∀ Y, (W3.alloc (.cells Y 26)).cell? ⟨w.heap.size, 1, none⟩ = some (.bool false) := fun Y => cellAt_of (hal Y) 1 rfl
    have r2 : ∀ Y, (W3.alloc (.cells Y 26)).cell? ⟨w.heap.size, 2, none⟩ = some (.bool false) := fun Y => cellAt_of (hal Y) 2 rfl
    have r3 : ∀ Y, (W3.alloc (.cells Y 26)).cell? ⟨w.heap.size, 3, none⟩ = some (.bool false) := fun Y => cellAt_of (hal Y) 3 rfl
    have r4 : ∀ Y, (W3.alloc (.cells Y 26)).cell? ⟨w.heap.size, 4, none⟩ = some (.bool false) := fun Y => cellAt_of (hal Y) 4 rfl
    have r5 : ∀ Y, (W3.alloc (.cells Y 26)).cell? ⟨w.heap.size, 5, none⟩ = some (.bool false) := fun Y => cellAt_of (hal Y) 5 rfl
    have r6 : ∀ Y, (W3.alloc (.cells Y 26)).cell? ⟨w.heap.size, 6, none⟩ = some (.bool false) := fun Y => cellAt_of (hal Y) 6 rfl
    have r7 : ∀ Y, (W3.alloc (.cells Y 26)).cell? ⟨w.heap.size, 7, none⟩ = some (.int .i64 0) := fun Y => cellAt_of (hal Y) 7 rfl
    have r8 : ∀ Y, (W3.alloc (.cells Y 26)).cell? ⟨w.heap.size, 8, none⟩ = some (.int .i64 0) := fun Y => cellAt_of (hal Y) 8 rfl
    have r9 : ∀ Y, (W3.alloc (.cells Y 26)).cell? ⟨w.heap.size, 9, none⟩ = some (.int .i64 0) := fun Y => cellAt_of (hal Y) 9 rfl
    have r10 : ∀ Y, (W3.alloc (.cells Y 26)).cell? ⟨w.heap.size, 10, none⟩ = some (.int .i64 0) := fun Y => cellAt_of (hal Y) 10 rfl
    have r11 : ∀ Y, (W3.alloc (.cells Y 26)).cell? ⟨w.heap.size, 11, none⟩ = some (.int .i64 0) := fun Y => cellAt_of (hal Y) 11 rfl
    have r12 : ∀ Y, (W3.alloc (.cells Y 26)).cell? ⟨w.heap.size, 12, none⟩ = some (.int .i64 0) := fun Y => cellAt_of (hal Y) 12 rfl
    have g0 := fun Y => free (hal Y) 0
    have g1 := fun Y => free (hal Y) 1
    have g2 := fun Y => free (hal Y) 2
    have g3 := fun Y => free (hal Y) 3
    have g4 := fun Y => free (hal Y) 4
    have g5 := fun Y => free (hal Y) 5
    have g6 := fun Y => free (hal Y) 6
    have g7 := fun Y => free (hal Y) 7
    have g8 := fun Y => free (hal Y) 8
    have g9 := fun Y => free (hal Y) 9
    have g10 := fun Y => free (hal Y) 10
    have g11 := fun Y => free (hal Y) 11
    have g12 := fun Y => free (hal Y) 12
    clear hal hR3
    go_wp2_with fail
    refine bodyPost_ret (results_one rfl _ _ w.heap.size 26 _ (0, 0) _ rfl (set13_at (HAL.out _) cc) Tryd.underlying26 rfl infoCon) rfl ?_
    exact ⟨by rw [HV.out], set13_below (HB3.out.alloc HB3.out.size _) (Nat.le_refl _) _⟩
end Go.Proofs.YtmnnbefigepgfaaDoor.Ct
