/-
  control.Parse: what it returns. Conditions: a text of at most 2^30 bytes; the table of token bytes.
-/
import Derived.Test.YtmnnbefigepgfaaDoorCtSt
import Derived.Test.YtmnnbefigepgfaaDoorTokLower
import Derived.Laws.EntriesVeiled
namespace Go.Proofs.YtmnnbefigepgfaaDoor.Ct
open Go.RowKit Go.Proofs.YtmnnbefigepgfaaDoor.Tk Go.Proofs.YtmnnbefigepgfaaDoor.Fd Go.Proofs.YtmnnbefigepgfaaDoor.Hd
set_option linter.unusedVariables false

/-- What Parse answers. -/
def parseVal (l : Bs) : Value := .tuple #[.agg (cells (parseOf l).1), .bool (parseOf l).2]
theorem parseVal_none {l : Bs} (h : splitOf l = none) : parseVal l = .tuple #[.agg (cells .broken), .bool false] := by unfold parseVal parseOf; rw [h]
theorem parseVal_some {l : Bs} {ls : List Bs} (h : splitOf l = some ls) : parseVal l = .tuple #[.agg (cells (ls.foldl elem .zero)), .bool true] := by unfold parseVal parseOf; rw [h]
/-- A struct's cells, one by one. -/
theorem thirteen {w : World} {g : Nat} {c : Con} (h : ConAt w g c) : w.cell? ⟨g, 0, none⟩ = some (.bool c.ns) ∧ w.cell? ⟨g, 1, none⟩ = some (.bool c.nc) ∧ w.cell? ⟨g, 2, none⟩ = some (.bool c.pr) ∧ w.cell? ⟨g, 3, none⟩ = some (.bool c.pu) ∧ w.cell? ⟨g, 4, none⟩ = some (.bool c.mu) ∧ w.cell? ⟨g, 5, none⟩ = some (.bool c.px) ∧ w.cell? ⟨g, 6, none⟩ = some (.bool c.oc) ∧
    w.cell? ⟨g, 7, none⟩ = some (.int .i64 c.ag) ∧ w.cell? ⟨g, 8, none⟩ = some (.int .i64 c.sh) ∧ w.cell? ⟨g, 9, none⟩ = some (.int .i64 c.wh) ∧ w.cell? ⟨g, 10, none⟩ = some (.int .i64 c.ie) ∧ w.cell? ⟨g, 11, none⟩ = some (.int .i64 c.mf) ∧ w.cell? ⟨g, 12, none⟩ = some (.int .i64 c.ms) := by
  refine ⟨?_, ?_, ?_, ?_, ?_, ?_, ?_, ?_, ?_, ?_, ?_, ?_, ?_⟩ <;> (rw [conAt_cell h]; rfl)
theorem blanks {w : World} {g : Nat} {t : TypeId} (h : w.heap[g]? = some (.cells blank13 t (0, 0))) : (w.cell? ⟨g, 0, none⟩ = some (.bool false) ∧ w.cell? ⟨g, 1, none⟩ = some (.bool false) ∧ w.cell? ⟨g, 2, none⟩ = some (.bool false) ∧ w.cell? ⟨g, 3, none⟩ = some (.bool false) ∧ w.cell? ⟨g, 4, none⟩ = some (.bool false) ∧ w.cell? ⟨g, 5, none⟩ = some (.bool false) ∧ w.cell? ⟨g, 6, none⟩ = some (.bool false) ∧
    w.cell? ⟨g, 7, none⟩ = some (.int .i64 0) ∧ w.cell? ⟨g, 8, none⟩ = some (.int .i64 0) ∧ w.cell? ⟨g, 9, none⟩ = some (.int .i64 0) ∧ w.cell? ⟨g, 10, none⟩ = some (.int .i64 0) ∧ w.cell? ⟨g, 11, none⟩ = some (.int .i64 0) ∧ w.cell? ⟨g, 12, none⟩ = some (.int .i64 0)) := by
  refine ⟨?_, ?_, ?_, ?_, ?_, ?_, ?_, ?_, ?_, ?_, ?_, ?_, ?_⟩ <;> (rw [Lib.cell_of_heap h]; rfl)

/-- A struct stored, cell by cell. -/
def setL (r : Nat) : Nat → List Value → World → World
  | _, [], W => W
  | i, x :: xs, W => setL r (i + 1) xs (W.setCell ⟨r, i, none⟩ x)
def writeL : Nat → List Value → Array Value → Array Value
  | _, [], cs => cs
  | i, x :: xs, cs => writeL (i + 1) xs (cs.setIfInBounds i x)
theorem setL_at {r : Nat} {t : TypeId} {fr : Nat × Nat} : ∀ (xs : List Value) (i : Nat) (W : World) (cs : Array Value), W.heap[r]? = some (.cells cs t fr) → (setL r i xs W).heap[r]? = some (.cells (writeL i xs cs) t fr)
  | [], _, _, _, h => h
  | x :: xs, i, W, cs, h => setL_at xs (i + 1) _ _ (heap_put h i x)
theorem setL_below {B r : Nat} {w0 : World} (hr : B ≤ r) : ∀ (xs : List Value) (i : Nat) (W : World), Below B w0 W → Below B w0 (setL r i xs W)
  | [], _, _, h => h
  | x :: xs, i, W, h => setL_below hr xs (i + 1) _ (h.setCell (p := ⟨r, i, none⟩) hr x)
theorem setL_far {r k : Nat} (hk : k ≠ r) : ∀ (xs : List Value) (i : Nat) (W : World), (setL r i xs W).heap[k]? = W.heap[k]?
  | [], _, _ => rfl
  | x :: xs, i, W => (setL_far hk xs (i + 1) _).trans (Below.heap_setCell _ _ _ _ hk)
def conL (c : Con) : List Value := [.bool c.ns, .bool c.nc, .bool c.pr, .bool c.pu, .bool c.mu, .bool c.px, .bool c.oc, .int .i64 c.ag, .int .i64 c.sh, .int .i64 c.wh, .int .i64 c.ie, .int .i64 c.mf, .int .i64 c.ms]
theorem write_con (c : Con) : writeL 0 (conL c) blank13 = cells c := by kernel_rfl
def set13 (W : World) (r : Nat) (c : Con) : World := setL r 0 (conL c) W
theorem set13_at {W : World} {r : Nat} (h : W.heap[r]? = some (.cells blank13 26 (0, 0))) (c : Con) : ConAt (set13 W r c) r c := by
  have h1 := setL_at (conL c) 0 W blank13 h
  rw [write_con] at h1
  exact h1
theorem set13_below {B : Nat} {w0 W : World} {r : Nat} (hb : Below B w0 W) (hr : B ≤ r) (c : Con) : Below B w0 (set13 W r c) := setL_below hr _ _ _ hb

def DirEnd (w : World) (r g M : Nat) (lv : Value) (ls : List Bs) (c : Con) (e : Ending) (w' : World) : Prop := e = .returned (.tuple #[]) ∧ St w r g M lv ls c w'
theorem idx_flag (c : Con) : ∀ k, k < 13 → ∀ i, kindOf k = .flag i → ∃ x, (cells c)[i]? = some x := by
  refine below13 ?_ ?_ ?_ ?_ ?_ ?_ ?_ ?_ ?_ ?_ ?_ ?_ ?_ <;> (intro i h; first | (injection h with h; subst h; exact ⟨_, rfl⟩) | cases h)
theorem idx_num (c : Con) : ∀ k, k < 13 → ∀ i b wr, kindOf k = .num i b wr → (cells c)[i]? = some (.int .i64 (numAt c i)) := by
  refine below13 ?_ ?_ ?_ ?_ ?_ ?_ ?_ ?_ ?_ ?_ ?_ ?_ ?_ <;> (intro i b wr h; first | (injection h with h; subst h; rfl) | cases h)

set_option maxRecDepth 100000 in
set_option maxHeartbeats 8000000 in
theorem parse_any (s : ByteArray) (w : World) (hs : s.size ≤ 1073741824) (hT : Tab w) :
    Calls Tryd.prog 6 #[.string s] w fun e w' => e = .returned (parseVal s.data.toList) ∧ Below w.heap.size w w' := by
  have HT := Lib.hid hT
  have hg := hT.lt
  clear hT
  go_enter Tryd.func6, Tryd.ntmps6
  go_wp2_with fail
  refine (silent_any _).mono ?_
  rintro e w1 ⟨rfl, hb1⟩
  have hN := new_block w1 (.cells (cells .zero) 26)
  have hR := old_block w1 (.cells (cells .zero) 26) (b := w.heap.size) (by have := hb1.size; simp at this; omega)
  have hB1 : Below w.heap.size w (w1.alloc (.cells (cells .zero) 26)) := Bl.next (Bl.next ((Below.refl _ _).alloc (Nat.le_refl _) _) hb1) ((Below.refl _ _).alloc (Nat.le_refl _) _)
  have hsz : w.heap.size < w1.heap.size := by have := hb1.size; simp at this; omega
  rw [show w1.heap[w.heap.size]? = some (.cells blank13 26 (0, 0)) from Bl.old hb1 (by simp) (new_block w _)] at hR
  obtain ⟨W1, hW1⟩ : ∃ W1, W1 = w1.alloc (.cells (cells .zero) 26) := ⟨_, rfl⟩
  have HW := Lib.hid (show w1.alloc (.cells #[.bool false, .bool false, .bool false, .bool false, .bool false, .bool false, .bool false, .int .i64 (-1), .int .i64 (-1), .int .i64 (-1), .int .i64 (-1), .int .i64 (-1), .int .i64 (-1)] 26) = W1 from hW1.symm)
  have hsW : W1.heap.size = w1.heap.size + 1 := by rw [hW1]; simp
  rw [← hW1] at hN hR hB1
  clear hW1 hb1
  go_wp2_with fail
  rw [HW.out]
  refine (split_any s W1 (by omega)).mono ?_
  rintro e w2 ⟨hb2, h2⟩
  rcases h2 with ⟨h2, rfl⟩ | ⟨ls, lv, h2, rfl, ho⟩
  · have HV := Lib.hid (parseVal_none h2)
    have hN2 : ConAt w2 w1.heap.size .zero := Bl.old hb2 (by omega) hN
    have hR2 := Bl.old hb2 (by omega) hR
    have HB2 := Lib.hid (Bl.next hB1 hb2)
    clear h2 hb2 hN hR hB1
    obtain ⟨a0, a1, a2, a3, a4, a5, a6, a7, a8, a9, a10, a11, a12⟩ := thirteen hN2
    obtain ⟨r0, r1, r2, r3, r4, r5, r6, r7, r8, r9, r10, r11, r12⟩ := blanks hR2
    have f0 := free hN2 0
    have f1 := free hN2 1
    have g0 := free hR2 0
    have g1 := free hR2 1
    have g2 := free hR2 2
    have g3 := free hR2 3
    have g4 := free hR2 4
    have g5 := free hR2 5
    have g6 := free hR2 6
    have g7 := free hR2 7
    have g8 := free hR2 8
    have g9 := free hR2 9
    have g10 := free hR2 10
    have g11 := free hR2 11
    have g12 := free hR2 12
    have HN2 := Lib.hid hN2
    have HR2 := Lib.hid hR2
    clear hN2 hR2
    go_wp2_with fail
    refine bodyPost_ret (results_pair rfl _ _ w.heap.size 26 _ (0, 0) _ rfl (set13_at (W := (w2.setCell ⟨w1.heap.size, 0, none⟩ (.bool true)).setCell ⟨w1.heap.size, 1, none⟩ (.bool true)) ?_ Con.broken) Tryd.underlying26 rfl infoCon) rfl ?_
    · exact put_far (put_far HR2.out (by show w.heap.size ≠ w1.heap.size; omega)) (by show w.heap.size ≠ w1.heap.size; omega)
    · refine ⟨by rw [HV.out]; rfl, ?_⟩
      exact set13_below ((HB2.out.setCell (p := ⟨w1.heap.size, 0, none⟩) (by show w.heap.size ≤ w1.heap.size; omega) _).setCell (p := ⟨w1.heap.size, 1, none⟩) (by show w.heap.size ≤ w1.heap.size; omega) _) (Nat.le_refl _) Con.broken
  · have HV := Lib.hid (parseVal_some h2)
    have HP := Lib.hid (split_piece h2)
    have hl := split_length h2
    have hsl : s.data.toList.length = s.size := by simp
    have hN2 : ConAt w2 w1.heap.size .zero := Bl.old hb2 (by omega) hN
    have hR2 := Bl.old hb2 (by omega) hR
    have HB2 := Lib.hid (Bl.next hB1 hb2)
    have hs2 := hb2.size
    have HN2 := Lib.hid hN2
    have HR2 := Lib.hid hR2
    have HO2 := Lib.hid (Fd.owns_mono ho (show w1.heap.size + 1 ≤ W1.heap.size by omega))
    clear h2 hb2 hN hR hB1 hN2 hR2 ho
    obtain ⟨a, cap, hlv, ha⟩ : ∃ a cap, lv = .slice a ls.length cap ∧ (0 < ls.length → ∃ b, a = some ⟨b, 0, none⟩) := by
      rcases HO2.out.2 with ⟨hv, h0⟩ | ⟨b, cap, cur, hv, _⟩
      · exact ⟨none, 0, by rw [hv, h0], fun h => by omega⟩
      · exact ⟨_, cap, hv, fun _ => ⟨b, rfl⟩⟩
    have HLV := Lib.hid hlv
    rw [hlv]
    clear hlv
    go_wp2_with fail
    refine (directives_any w1.heap.size w2 (by omega)).mono ?_
    rintro e w3 ⟨hb3, M, rfl, hM, hK⟩
    have hgM : w1.heap.size < M := by omega
    have HS := Lib.hid (show St w w.heap.size w1.heap.size M lv ls .zero w3 from ⟨Bl.next HB2.out hb3, Bl.old hb3 (by omega) HR2.out, Bl.old hb3 (by omega) HN2.out, hK, Fd.owns_kept HO2.out hb3⟩)
    clear hb3 hM hK HN2 HR2 HO2 HB2
    have HLT := Lib.hid HT
    go_wp2_with fail
    go_loopw [30] (fun i wr => ∃ k : Nat, k ≤ ls.length ∧ i = .int .i64 (k : Int) ∧ St w w.heap.size w1.heap.size M lv ls ((ls.take k).foldl elem .zero) wr) (fun i _ => ls.length - (intOf i).toNat)
    case atStart => exact ⟨0, Nat.zero_le _, rfl, HS.out⟩
    case round =>
      obtain ⟨k, hk, rfl, hSt⟩ := hrel
      have HSt := Lib.hid hSt
      clear hSt HS
      by_cases hlt2 : k < ls.length
      · obtain ⟨b, rfl⟩ := ha (by omega)
        have c1 := HSt.out.cell HLV.out k hlt2
        have hxl := HP.out ls[k] (List.getElem_mem hlt2)
        have HF := Lib.hid (foldl_next ls k hlt2)
        obtain ⟨x, hx⟩ : ∃ x : ByteArray, x = ⟨ls[k].toArray⟩ := ⟨_, rfl⟩
        have hxs : x.size ≤ 1073741824 := by rw [hx]; show ls[k].toArray.size ≤ _; rw [List.size_toArray]; omega
        have HX := Lib.hid (show x.data.toList = ls[k] from by rw [hx])
        rw [← hx] at c1
        have hwr := HSt.out.bel.size
        have HTr := Lib.hid (HT.out.below HSt.out.bel hg)
        cases hp : pairOf ls[k] with
        | none =>
          have HPV := Lib.hid (show pairVal x.data.toList = .tuple #[.string ⟨#[]⟩, .string ⟨#[]⟩, .bool false, .bool false] from by rw [HX.out]; exact pairVal_none hp)
          have HE := Lib.hid (elem_none (c := (ls.take k).foldl elem .zero) hp)
          clear hp hx hxl
          go_wp2_with fail
          refine (pair_any x _ (by omega) HTr.out).mono ?_
          rintro e w4 ⟨rfl, hb4⟩
          rw [HPV.out]
          have HS4 := Lib.hid (HSt.out.more hgM hb4)
          clear hb4 HSt c1
          go_wp2_with fail
          go_roundw
          case rel => exact ⟨k + 1, by omega, by go_num, by rw [HF.out, HE.out]; exact HS4.out⟩
          case measure => simp [intOf]; omega
        | some p =>
          obtain ⟨a, v⟩ := p
          obtain ⟨ha1, ha2⟩ := pair_sizes hp
          obtain ⟨A, hA⟩ : ∃ A : ByteArray, A = ⟨a.toArray⟩ := ⟨_, rfl⟩
          have hAs : A.size ≤ 1073741824 := by rw [hA]; show a.toArray.size ≤ _; rw [List.size_toArray]; omega
          have HA := Lib.hid (show A.data.toList = a from by rw [hA])
          obtain ⟨V, hV⟩ : ∃ V, V = valB v := ⟨_, rfl⟩
          have hVs : V.size ≤ 1073741824 := by rw [hV]; omega
          obtain ⟨hb, hhb⟩ : ∃ hb, hb = hasB v := ⟨_, rfl⟩
          have HPV := Lib.hid (show pairVal x.data.toList = .tuple #[.string A, .string V, .bool hb, .bool true] from by rw [HX.out, hA, hV, hhb]; exact pairVal_some hp)
          obtain ⟨L, hL⟩ : ∃ L : ByteArray, L = ⟨(lower A.data.toList).toArray⟩ := ⟨_, rfl⟩
          have hLs : L.size ≤ maxLen := by rw [hL]; show (lower A.data.toList).toArray.size ≤ _; rw [List.size_toArray, lower_length, HA.out]; unfold maxLen; omega
          have HL := Lib.hid hL
          have HLL := Lib.hid (show L.data.toList = lower a from by rw [hL, HA.out])
          obtain ⟨cc, hcc⟩ : ∃ cc, cc = (ls.take k).foldl elem .zero := ⟨_, rfl⟩
          have HE := Lib.hid (show (ls.take (k + 1)).foldl elem .zero = act cc (lower a) v from by rw [HF.out, elem_some hp, hcc])
          have HFI := Lib.hid (show Fine cc from by rw [hcc]; exact fine_all _ fine_zero)
          rw [← hcc] at HSt
          have HVV := Lib.hid (show V = valB v ∧ hb = hasB v from ⟨hV, hhb⟩)
          clear hp hx hxl ha1 ha2 hA hL hcc hV hhb HF
          go_wp2_with fail
          refine (pair_any x _ (by omega) HTr.out).mono ?_
          rintro e w4 ⟨rfl, hb4⟩
          rw [HPV.out]
          have HS4 := Lib.hid (HSt.out.more hgM hb4)
          clear hb4 HSt c1
          go_wp2_with fail
          refine (lower_any A _ (by unfold maxLen; omega)).mono ?_
          rintro e w5 ⟨rfl, hb5⟩
          rw [← HL.out]
          have HS5 := Lib.hid (HS4.out.more hgM hb5)
          clear hb5 HS4
          have hlook := HS5.out.kn.look L hLs
          rw [HLL.out] at hlook
          cases ht : table.lookup (lower a) with
          | none =>
            rw [ht] at hlook
            have hrun : (Instr.lookup 40 (.map (some M)) (.string L) true).run Tryd.prog w5 = .ok (.tuple #[.agg #[.nilFunc], .bool false]) w5 := hlook
            have HN := Lib.hid (act_none cc (lower a) v (table_none _ ht))
            clear hlook ht
            go_wp2_with fail
            go_roundw
            case rel => exact ⟨k + 1, by omega, by go_num, by rw [HE.out, HN.out]; exact HS5.out.more hgM ((Below.refl _ _).alloc (Nat.le_refl _) _)⟩
            case measure => simp [intOf]; omega
          | some kd =>
            rw [ht] at hlook
            obtain ⟨d, hrun, hd⟩ := hlook
            obtain ⟨k', hk', hnm, hkd⟩ := table_some _ _ ht
            have hE2 : cells (act cc (lower a) v) = setK cc kd V hb := by
              have h := act_kind cc HFI.out v k' hk'
              rw [← hnm, ← hkd, ← HVV.out.1, ← HVV.out.2] at h
              exact h
            obtain ⟨c', hc'⟩ : ∃ c', c' = act cc (lower a) v := ⟨_, rfl⟩
            rw [← hc'] at hE2 HE
            clear ht hnm HFI HVV hc'
            cases kd with
            | flag i =>
              obtain ⟨b2, rfl, hgb, hvb⟩ := hd
              obtain ⟨xv, hxv⟩ := idx_flag cc k' hk' i hkd.symm
              have hb6 : Below w5.heap.size w5 (w5.alloc (.cells #[.func (.func 45) #[] #[.pointer (some ⟨b2, 0, none⟩)]] 47)) := (Below.refl _ _).alloc (Nat.le_refl _) _
              have hS6 := HS5.out.more hgM hb6
              have HC := Lib.hid ((flag1_any w1.heap.size i b2 xv V hb _ (Bl.old hb6 (block_lt hvb) hvb) ((conAt_cell hS6.con i).trans hxv) (free hS6.con i)).mono (R' := DirEnd w w.heap.size w1.heap.size M lv ls c') fun e2 w' ⟨h1, h2⟩ => ⟨h1, hS6.put hgM (by omega) (by omega) h2 (h2.con hS6.con hE2.symm)⟩)
              clear hvb hxv hb6 hS6 hE2 hkd hk' hgb HS5
              go_wp2_with fail
              refine HC.out.mono ?_
              rintro e w7 ⟨rfl, hS7⟩
              have HS7 := Lib.hid hS7
              clear hS7
              go_wp2_with fail
              go_roundw
              case rel => exact ⟨k + 1, by omega, by go_num, by rw [HE.out]; exact HS7.out⟩
              case measure => simp [intOf]; omega
            | num i bare wrong =>
              obtain ⟨b0, b1, b2, rfl, g0, g1, g2, v0, v1, v2⟩ := hd
              have hxv := idx_num cc k' hk' i bare wrong hkd.symm
              have hb6 : Below w5.heap.size w5 (w5.alloc (.cells #[.func (.func 46) #[] #[.pointer (some ⟨b0, 0, none⟩), .pointer (some ⟨b1, 0, none⟩), .pointer (some ⟨b2, 0, none⟩)]] 47)) := (Below.refl _ _).alloc (Nat.le_refl _) _
              have hS6 := HS5.out.more hgM hb6
              have HC := Lib.hid ((number1_any w1.heap.size i b0 b1 b2 _ bare wrong V hb _ (by unfold maxLen; omega) (Bl.old hb6 (block_lt v0) v0) (Bl.old hb6 (block_lt v1) v1) (Bl.old hb6 (block_lt v2) v2) ((conAt_cell hS6.con i).trans hxv) (free hS6.con i)).mono (R' := DirEnd w w.heap.size w1.heap.size M lv ls c') fun e2 w' ⟨h1, h2⟩ => ⟨h1, hS6.put hgM (by omega) (by omega) h2 (h2.con hS6.con hE2.symm)⟩)
              clear v0 v1 v2 hxv hb6 hS6 hE2 hkd hk' g0 g1 g2 HS5
              go_wp2_with fail
              refine HC.out.mono ?_
              rintro e w7 ⟨rfl, hS7⟩
              have HS7 := Lib.hid hS7
              clear hS7
              go_wp2_with fail
              go_roundw
              case rel => exact ⟨k + 1, by omega, by go_num, by rw [HE.out]; exact HS7.out⟩
              case measure => simp [intOf]; omega
      · have HE := Lib.hid (show ls.take k = ls from List.take_of_length_le (by omega))
        have hS5 := HSt.out
        rw [HE.out] at hS5
        obtain ⟨a0, a1, a2, a3, a4, a5, a6, a7, a8, a9, a10, a11, a12⟩ := thirteen hS5.con
        obtain ⟨r0, r1, r2, r3, r4, r5, r6, r7, r8, r9, r10, r11, r12⟩ := blanks hS5.res
        have g0 := free hS5.res 0
        have g1 := free hS5.res 1
        have g2 := free hS5.res 2
        have g3 := free hS5.res 3
        have g4 := free hS5.res 4
        have g5 := free hS5.res 5
        have g6 := free hS5.res 6
        have g7 := free hS5.res 7
        have g8 := free hS5.res 8
        have g9 := free hS5.res 9
        have g10 := free hS5.res 10
        have g11 := free hS5.res 11
        have g12 := free hS5.res 12
        have HS5 := Lib.hid hS5
        obtain ⟨cc, hcc⟩ : ∃ cc, cc = ls.foldl elem .zero := ⟨_, rfl⟩
        rw [← hcc] at HV HS5 a0 a1 a2 a3 a4 a5 a6 a7 a8 a9 a10 a11 a12
        clear hcc hS5 HSt HE
        go_wp2_with fail
        refine bodyPost_ret (results_pair rfl _ _ w.heap.size 26 _ (0, 0) _ rfl (set13_at HS5.out.res cc) Tryd.underlying26 rfl infoCon) rfl ?_
        exact ⟨by rw [HV.out]; rfl, set13_below HS5.out.bel (Nat.le_refl _) cc⟩
end Go.Proofs.YtmnnbefigepgfaaDoor.Ct
