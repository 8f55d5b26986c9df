/-
  Texts that the laws' proofs stand on, 3 of them in one file; each one's head says what it proves and under which condition.
-/
import Derived.Test.YtjbdgndejbiikaaDoorSgAP22
import Derived.Laws.EntriesVeiled
import Derived.Test.YtjbdgndejbiikaaDoorSgAP15
import Derived.Shelf.Strings.BuilderK
/-
  control.Parse: what it returns. Conditions: a text of at most 2^30 bytes; the table of token bytes.
-/
namespace Go.Proofs.YtjbdgndejbiikaaDoor.Ct
open Go.RowKit Go.Proofs.YtjbdgndejbiikaaDoor.Tk Go.Proofs.YtjbdgndejbiikaaDoor.Fd Go.Proofs.YtjbdgndejbiikaaDoor.Hd
set_option maxRecDepth 100000
set_option linter.unusedVariables false

/-- What Parse answers. -/
def parseVal (l : Bs) : Value := .tuple #[.agg (cells (parseOf l).1), .bool (parseOf l).2]
theorem parseVal_none {l : Bs} (h : splitOf l = none) : parseVal l = .tuple #[.agg (cells .broken), .bool false] := by unfold parseVal parseOf; rw [h]
theorem parseVal_some {l : Bs} {ls : List Bs} (h : splitOf l = some ls) : parseVal l = .tuple #[.agg (cells (ls.foldl elem .zero)), .bool true] := by unfold parseVal parseOf; rw [h]
def DirEnd (w : World) (r g M : Nat) (lv : Value) (ls : List Bs) (c : Con) (e : Ending) (w' : World) : Prop := e = .returned (.tuple #[]) ∧ St w r g M lv ls c w'
theorem idx_flag (c : Con) : ∀ k, k < 13 → ∀ i, kindOf k = .flag i → ∃ x, (cells c)[i]? = some x := by
  refine below13 ?_ ?_ ?_ ?_ ?_ ?_ ?_ ?_ ?_ ?_ ?_ ?_ ?_ <;> (intro i h; first | (injection h with h; subst h; exact ⟨_, rfl⟩) | cases h)
theorem idx_num (c : Con) : ∀ k, k < 13 → ∀ i b wr, kindOf k = .num i b wr → (cells c)[i]? = some (.int .i64 (numAt c i)) := by
  refine below13 ?_ ?_ ?_ ?_ ?_ ?_ ?_ ?_ ?_ ?_ ?_ ?_ ?_ <;> (intro i b wr h; first | (injection h with h; subst h; rfl) | cases h)

set_option maxRecDepth 100000 in
set_option maxHeartbeats 8000000 in
theorem parse_any (s : ByteArray) (w : World) (hs : s.size ≤ 1073741824) (hT : Tab w) :
    Calls Tryd.prog 27 #[.string s] w fun e w' => e = .returned (parseVal s.data.toList) ∧ Below w.heap.size w w' := by
  have HT := Lib.hid hT
  have hg := hT.lt
  clear hT
  go_enter Tryd.func27, Tryd.ntmps27
  go_wp2_with fail
  refine (silent_any _).mono ?_
  rintro e w1 ⟨rfl, hb1⟩
  have hN := new_block w1 (.cells (cells .zero) 33)
  have hR := old_block w1 (.cells (cells .zero) 33) (b := w.heap.size) (by have := hb1.size; simp at this; omega)
  have hB1 : Below w.heap.size w (w1.alloc (.cells (cells .zero) 33)) := Bl.next (Bl.next ((Below.refl _ _).alloc (Nat.le_refl _) _) hb1) ((Below.refl _ _).alloc (Nat.le_refl _) _)
  have hsz : w.heap.size < w1.heap.size := by have := hb1.size; simp at this; omega
  rw [show w1.heap[w.heap.size]? = some (.cells blank13 33 (0, 0)) from Bl.old hb1 (by simp) (new_block w _)] at hR
  obtain ⟨W1, hW1⟩ : ∃ W1, W1 = w1.alloc (.cells (cells .zero) 33) := ⟨_, rfl⟩
  have HW := Lib.hid (show w1.alloc (.cells #[.bool false, .bool false, .bool false, .bool false, .bool false, .bool false, .bool false, .int .i64 (-1), .int .i64 (-1), .int .i64 (-1), .int .i64 (-1), .int .i64 (-1), .int .i64 (-1)] 33) = W1 from hW1.symm)
  have hsW : W1.heap.size = w1.heap.size + 1 := by rw [hW1]; simp
  rw [← hW1] at hN hR hB1
  clear hW1 hb1
  go_wp2_with fail
  rw [HW.out]
  refine (split_any s W1 (by omega)).mono ?_
  rintro e w2 ⟨hb2, h2⟩
  rcases h2 with ⟨h2, rfl⟩ | ⟨ls, lv, h2, rfl, ho⟩
  · have HV := Lib.hid (parseVal_none h2)
    have hN2 : ConAt w2 w1.heap.size .zero := Bl.old hb2 (by omega) hN
    have hR2 := Bl.old hb2 (by omega) hR
    have HB2 := Lib.hid (Bl.next hB1 hb2)
    clear h2 hb2 hN hR hB1
    obtain ⟨a0, a1, a2, a3, a4, a5, a6, a7, a8, a9, a10, a11, a12⟩ := thirteen hN2
    obtain ⟨r0, r1, r2, r3, r4, r5, r6, r7, r8, r9, r10, r11, r12⟩ := blanks hR2
    have f0 := free hN2 0
    have f1 := free hN2 1
    have g0 := free hR2 0
    have g1 := free hR2 1
    have g2 := free hR2 2
    have g3 := free hR2 3
    have g4 := free hR2 4
    have g5 := free hR2 5
    have g6 := free hR2 6
    have g7 := free hR2 7
    have g8 := free hR2 8
    have g9 := free hR2 9
    have g10 := free hR2 10
    have g11 := free hR2 11
    have g12 := free hR2 12
    have HN2 := Lib.hid hN2
    have HR2 := Lib.hid hR2
    clear hN2 hR2
    go_wp2_with fail
    refine bodyPost_ret (results_pair rfl _ _ w.heap.size 33 _ (0, 0) _ rfl (set13_at (W := (w2.setCell ⟨w1.heap.size, 0, none⟩ (.bool true)).setCell ⟨w1.heap.size, 1, none⟩ (.bool true)) ?_ Con.broken) Tryd.underlying33 rfl infoCon) rfl ?_
    · exact put_far (put_far HR2.out (by show w.heap.size ≠ w1.heap.size; omega)) (by show w.heap.size ≠ w1.heap.size; omega)
    · refine ⟨by rw [HV.out]; rfl, ?_⟩
      exact set13_below ((HB2.out.setCell (p := ⟨w1.heap.size, 0, none⟩) (by show w.heap.size ≤ w1.heap.size; omega) _).setCell (p := ⟨w1.heap.size, 1, none⟩) (by show w.heap.size ≤ w1.heap.size; omega) _) (Nat.le_refl _) Con.broken
  · have HV := Lib.hid (parseVal_some h2)
    have HP := Lib.hid (split_piece h2)
    have hl := split_length h2
    have hsl : s.data.toList.length = s.size := by simp
    have hN2 : ConAt w2 w1.heap.size .zero := Bl.old hb2 (by omega) hN
    have hR2 := Bl.old hb2 (by omega) hR
    have HB2 := Lib.hid (Bl.next hB1 hb2)
    have hs2 := hb2.size
    have HN2 := Lib.hid hN2
    have HR2 := Lib.hid hR2
    have HO2 := Lib.hid (Fd.owns_mono ho (show w1.heap.size + 1 ≤ W1.heap.size by omega))
    clear h2 hb2 hN hR hB1 hN2 hR2 ho
    obtain ⟨a, cap, hlv, ha⟩ : ∃ a cap, lv = .slice a ls.length cap ∧ (0 < ls.length → ∃ b, a = some ⟨b, 0, none⟩) := by
      rcases HO2.out.2 with ⟨hv, h0⟩ | ⟨b, cap, cur, hv, _⟩
      · exact ⟨none, 0, by rw [hv, h0], fun h => by omega⟩
      · exact ⟨_, cap, hv, fun _ => ⟨b, rfl⟩⟩
    have HLV := Lib.hid hlv
    rw [hlv]
    clear hlv
    go_wp2_with fail
    refine (directives_any w1.heap.size w2 (by omega)).mono ?_
    rintro e w3 ⟨hb3, M, rfl, hM, hK⟩
    have hgM : w1.heap.size < M := by omega
    have HS := Lib.hid (show St w w.heap.size w1.heap.size M lv ls .zero w3 from ⟨Bl.next HB2.out hb3, Bl.old hb3 (by omega) HR2.out, Bl.old hb3 (by omega) HN2.out, hK, Fd.owns_kept HO2.out hb3⟩)
    clear hb3 hM hK HN2 HR2 HO2 HB2
    have HLT := Lib.hid HT
    go_wp2_with fail
    go_loopw [30] (fun i wr => ∃ k : Nat, k ≤ ls.length ∧ i = .int .i64 (k : Int) ∧ St w w.heap.size w1.heap.size M lv ls ((ls.take k).foldl elem .zero) wr) (fun i _ => ls.length - (intOf i).toNat)
    case atStart => exact ⟨0, Nat.zero_le _, rfl, HS.out⟩
    case round =>
      obtain ⟨k, hk, rfl, hSt⟩ := hrel
      have HSt := Lib.hid hSt
      clear hSt HS
      by_cases hlt2 : k < ls.length
      · obtain ⟨b, rfl⟩ := ha (by omega)
        have c1 := HSt.out.cell HLV.out k hlt2
        have hxl := HP.out ls[k] (List.getElem_mem hlt2)
        have HF := Lib.hid (foldl_next ls k hlt2)
        obtain ⟨x, hx⟩ : ∃ x : ByteArray, x = ⟨ls[k].toArray⟩ := ⟨_, rfl⟩
        have hxs : x.size ≤ 1073741824 := by rw [hx]; show ls[k].toArray.size ≤ _; rw [List.size_toArray]; omega
        have HX := Lib.hid (show x.data.toList = ls[k] from by rw [hx])
        rw [← hx] at c1
        have hwr := HSt.out.bel.size
        have HTr := Lib.hid (HT.out.below HSt.out.bel hg)
        cases hp : pairOf ls[k] with
        | none =>
          have HPV := Lib.hid (show pairVal x.data.toList = .tuple #[.string ⟨#[]⟩, .string ⟨#[]⟩, .bool false, .bool false] from by rw [HX.out]; exact pairVal_none hp)
          have HE := Lib.hid (elem_none (c := (ls.take k).foldl elem .zero) hp)
          clear hp hx hxl
          go_wp2_with fail
          refine (pair_any x _ (by omega) HTr.out).mono ?_
          rintro e w4 ⟨rfl, hb4⟩
          rw [HPV.out]
          have HS4 := Lib.hid (HSt.out.more hgM hb4)
          clear hb4 HSt c1
          go_wp2_with fail
          go_roundw
          case rel => exact ⟨k + 1, by omega, by go_num, by rw [HF.out, HE.out]; exact HS4.out⟩
          case measure => simp [intOf]; omega
        | some p =>
          obtain ⟨a, v⟩ := p
          obtain ⟨ha1, ha2⟩ := pair_sizes hp
          obtain ⟨A, hA⟩ : ∃ A : ByteArray, A = ⟨a.toArray⟩ := ⟨_, rfl⟩
          have hAs : A.size ≤ 1073741824 := by rw [hA]; show a.toArray.size ≤ _; rw [List.size_toArray]; omega
          have HA := Lib.hid (show A.data.toList = a from by rw [hA])
          obtain ⟨V, hV⟩ : ∃ V, V = valB v := ⟨_, rfl⟩
          have hVs : V.size ≤ 1073741824 := by rw [hV]; omega
          obtain ⟨hb, hhb⟩ : ∃ hb, hb = hasB v := ⟨_, rfl⟩
          have HPV := Lib.hid (show pairVal x.data.toList = .tuple #[.string A, .string V, .bool hb, .bool true] from by rw [HX.out, hA, hV, hhb]; exact pairVal_some hp)
          obtain ⟨L, hL⟩ : ∃ L : ByteArray, L = ⟨(lower A.data.toList).toArray⟩ := ⟨_, rfl⟩
          have hLs : L.size ≤ maxLen := by rw [hL]; show (lower A.data.toList).toArray.size ≤ _; rw [List.size_toArray, lower_length, HA.out]; unfold maxLen; omega
          have HL := Lib.hid hL
          have HLL := Lib.hid (show L.data.toList = lower a from by rw [hL, HA.out])
          obtain ⟨cc, hcc⟩ : ∃ cc, cc = (ls.take k).foldl elem .zero := ⟨_, rfl⟩
          have HE := Lib.hid (show (ls.take (k + 1)).foldl elem .zero = act cc (lower a) v from by rw [HF.out, elem_some hp, hcc])
          have HFI := Lib.hid (show Fine cc from by rw [hcc]; exact fine_all _ fine_zero)
          rw [← hcc] at HSt
          have HVV := Lib.hid (show V = valB v ∧ hb = hasB v from ⟨hV, hhb⟩)
          clear hp hx hxl ha1 ha2 hA hL hcc hV hhb HF
          go_wp2_with fail
          refine (pair_any x _ (by omega) HTr.out).mono ?_
          rintro e w4 ⟨rfl, hb4⟩
          rw [HPV.out]
          have HS4 := Lib.hid (HSt.out.more hgM hb4)
          clear hb4 HSt c1
          go_wp2_with fail
          refine (lower_any A _ (by unfold maxLen; omega)).mono ?_
          rintro e w5 ⟨rfl, hb5⟩
          rw [← HL.out]
          have HS5 := Lib.hid (HS4.out.more hgM hb5)
          clear hb5 HS4
          have hlook := HS5.out.kn.look L hLs
          rw [HLL.out] at hlook
          cases ht : table.lookup (lower a) with
          | none =>
            rw [ht] at hlook
            have hrun : (Instr.lookup 86 (.map (some M)) (.string L) true).run Tryd.prog w5 = .ok (.tuple #[.agg #[.nilFunc], .bool false]) w5 := hlook
            have HN := Lib.hid (act_none cc (lower a) v (table_none _ ht))
            clear hlook ht
            go_wp2_with fail
            go_roundw
            case rel => exact ⟨k + 1, by omega, by go_num, by rw [HE.out, HN.out]; exact HS5.out.more hgM ((Below.refl _ _).alloc (Nat.le_refl _) _)⟩
            case measure => simp [intOf]; omega
          | some kd =>
            rw [ht] at hlook
            obtain ⟨d, hrun, hd⟩ := hlook
            obtain ⟨k', hk', hnm, hkd⟩ := table_some _ _ ht
            have hE2 : cells (act cc (lower a) v) = setK cc kd V hb := by
              have h := act_kind cc HFI.out v k' hk'
              rw [← hnm, ← hkd, ← HVV.out.1, ← HVV.out.2] at h
              exact h
            obtain ⟨c', hc'⟩ : ∃ c', c' = act cc (lower a) v := ⟨_, rfl⟩
            rw [← hc'] at hE2 HE
            clear ht hnm HFI HVV hc'
            cases kd with
            | flag i =>
              obtain ⟨b2, rfl, hgb, hvb⟩ := hd
              obtain ⟨xv, hxv⟩ := idx_flag cc k' hk' i hkd.symm
              have hb6 : Below w5.heap.size w5 (w5.alloc (.cells #[.func (.func 67) #[] #[.pointer (some ⟨b2, 0, none⟩)]] 93)) := (Below.refl _ _).alloc (Nat.le_refl _) _
              have hS6 := HS5.out.more hgM hb6
              have HC := Lib.hid ((flag1_any w1.heap.size i b2 xv V hb _ (Bl.old hb6 (block_lt hvb) hvb) ((conAt_cell hS6.con i).trans hxv) (free hS6.con i)).mono (R' := DirEnd w w.heap.size w1.heap.size M lv ls c') fun e2 w' ⟨h1, h2⟩ => ⟨h1, hS6.put hgM (by omega) (by omega) h2 (h2.con hS6.con hE2.symm)⟩)
              clear hvb hxv hb6 hS6 hE2 hkd hk' hgb HS5
              go_wp2_with fail
              refine HC.out.mono ?_
              rintro e w7 ⟨rfl, hS7⟩
              have HS7 := Lib.hid hS7
              clear hS7
              go_wp2_with fail
              go_roundw
              case rel => exact ⟨k + 1, by omega, by go_num, by rw [HE.out]; exact HS7.out⟩
              case measure => simp [intOf]; omega
            | num i bare wrong =>
              obtain ⟨b0, b1, b2, rfl, g0, g1, g2, v0, v1, v2⟩ := hd
              have hxv := idx_num cc k' hk' i bare wrong hkd.symm
              have hb6 : Below w5.heap.size w5 (w5.alloc (.cells #[.func (.func 68) #[] #[.pointer (some ⟨b0, 0, none⟩), .pointer (some ⟨b1, 0, none⟩), .pointer (some ⟨b2, 0, none⟩)]] 93)) := (Below.refl _ _).alloc (Nat.le_refl _) _
              have hS6 := HS5.out.more hgM hb6
              have HC := Lib.hid ((number1_any w1.heap.size i b0 b1 b2 _ bare wrong V hb _ (by unfold maxLen; omega) (Bl.old hb6 (block_lt v0) v0) (Bl.old hb6 (block_lt v1) v1) (Bl.old hb6 (block_lt v2) v2) ((conAt_cell hS6.con i).trans hxv) (free hS6.con i)).mono (R' := DirEnd w w.heap.size w1.heap.size M lv ls c') fun e2 w' ⟨h1, h2⟩ => ⟨h1, hS6.put hgM (by omega) (by omega) h2 (h2.con hS6.con hE2.symm)⟩)
              clear v0 v1 v2 hxv hb6 hS6 hE2 hkd hk' g0 g1 g2 HS5
              go_wp2_with fail
              refine HC.out.mono ?_
              rintro e w7 ⟨rfl, hS7⟩
              have HS7 := Lib.hid hS7
              clear hS7
              go_wp2_with fail
              go_roundw
              case rel => exact ⟨k + 1, by omega, by go_num, by rw [HE.out]; exact HS7.out⟩
              case measure => simp [intOf]; omega
      · have HE := Lib.hid (show ls.take k = ls from List.take_of_length_le (by omega))
        have hS5 := HSt.out
        rw [HE.out] at hS5
        obtain ⟨a0, a1, a2, a3, a4, a5, a6, a7, a8, a9, a10, a11, a12⟩ := thirteen hS5.con
        obtain ⟨r0, r1, r2, r3, r4, r5, r6, r7, r8, r9, r10, r11, r12⟩ := blanks hS5.res
        have g0 := free hS5.res 0
        have g1 := free hS5.res 1
        have g2 := free hS5.res 2
        have g3 := free hS5.res 3
        have g4 := free hS5.res 4
        have g5 := free hS5.res 5
        have g6 := free hS5.res 6
        have g7 := free hS5.res 7
        have g8 := free hS5.res 8
        have g9 := free hS5.res 9
        have g10 := free hS5.res 10
        have g11 := free hS5.res 11
        have g12 := free hS5.res 12
        have HS5 := Lib.hid hS5
        obtain ⟨cc, hcc⟩ : ∃ cc, cc = ls.foldl elem .zero := ⟨_, rfl⟩
        rw [← hcc] at HV HS5 a0 a1 a2 a3 a4 a5 a6 a7 a8 a9 a10 a11 a12
        clear hcc hS5 HSt HE
        go_wp2_with fail
        refine bodyPost_ret (results_pair rfl _ _ w.heap.size 33 _ (0, 0) _ rfl (set13_at HS5.out.res cc) Tryd.underlying33 rfl infoCon) rfl ?_
        exact ⟨by rw [HV.out]; rfl, set13_below HS5.out.bel (Nat.le_refl _) cc⟩
end Go.Proofs.YtjbdgndejbiikaaDoor.Ct
/-
  slices.Index and slices.Contains of texts: what each returns. Condition: a list of a call's own, of at most 2^40 texts.
-/
namespace Go.Proofs.YtjbdgndejbiikaaDoor.Ct
open Go.RowKit Go.Proofs.YtjbdgndejbiikaaDoor.Tk Go.Proofs.YtjbdgndejbiikaaDoor.Fd Go.Proofs.YtjbdgndejbiikaaDoor.Hd
set_option maxRecDepth 100000
set_option linter.unusedVariables false

theorem any_take (ls : List Bs) (y : Bs) (k : Nat) (hk : k < ls.length) (h : (ls.take k).any (· == y) = false) (hx : (ls[k] == y) = false) : (ls.take (k + 1)).any (· == y) = false := by
  rw [List.take_succ_eq_append_getElem hk, List.any_append, h]; simp [hx]
theorem any_at (ls : List Bs) (y : Bs) (k : Nat) (hk : k < ls.length) (hx : (ls[k] == y) = true) : ls.any (· == y) = true := List.any_eq_true.2 ⟨_, List.getElem_mem hk, hx⟩

set_option maxHeartbeats 4000000 in
theorem index_any (v : Value) (ls : List Bs) (x : ByteArray) (w : World) (base : Nat) (h : w.ownsRow base 9 1 v ls.length (ls.map TS)) (hl : ls.length ≤ 1099511627776) :
    Calls Tryd.prog 48 #[v, .string x] w fun e w' => (∃ r : Int, e = .returned (.int .i64 r) ∧ (decide (0 ≤ r)) = ls.any (· == x.data.toList)) ∧ w = w' := by
  have HO := Lib.hid h
  obtain ⟨a, cap, hv, ha⟩ : ∃ a cap, v = .slice a ls.length cap ∧ (0 < ls.length → ∃ b, a = some ⟨b, 0, none⟩) := by
    rcases h.2 with ⟨hv, h0⟩ | ⟨b, cap, cur, hv, _⟩
    · exact ⟨none, 0, by rw [hv, h0], fun h => by omega⟩
    · exact ⟨_, cap, hv, fun _ => ⟨b, rfl⟩⟩
  subst hv
  clear h
  go_enter Tryd.func48, Tryd.ntmps48
  go_wp2_with fail
  go_loopw [8] (fun i wr => ∃ k : Nat, k ≤ ls.length ∧ i = .int .i64 (k : Int) ∧ (ls.take k).any (· == x.data.toList) = false ∧ w = wr) (fun i _ => ls.length - (intOf i).toNat)
  case atStart => exact ⟨0, Nat.zero_le _, rfl, rfl, rfl⟩
  case round =>
    obtain ⟨k, hk, rfl, hal, rfl⟩ := hrel
    have HAL := Lib.hid hal
    clear hal
    by_cases hlt2 : k < ls.length
    · obtain ⟨b, rfl⟩ := ha (by omega)
      have c1 : w.cell? ⟨b, k, none⟩ = some (.string ⟨ls[k].toArray⟩) := by
        rw [HO.out.cellAt k (by omega), List.getElem?_map, List.getElem?_eq_getElem hlt2]; rfl
      obtain ⟨T, hT⟩ : ∃ T : ByteArray, T = ⟨ls[k].toArray⟩ := ⟨_, rfl⟩
      have hTl : T.data.toList = ls[k] := by rw [hT]
      rw [← hT] at c1
      cases hq : (ls[k] == x.data.toList) with
      | true =>
        have e1 : (x.toList == T.toList) = true := by
          rw [ByteArray.toList_eq, ByteArray.toList_eq, hTl, (beq_iff_eq.1 hq)]; simp
        have HA := Lib.hid (any_at ls x.data.toList k hlt2 hq)
        clear hq hT hTl
        go_wp2_with fail
        go_ret
        exact ⟨⟨k, rfl, by rw [HA.out]; simp⟩, rfl⟩
      | false =>
        have e1 : (x.toList == T.toList) = false := by
          rw [ByteArray.toList_eq, ByteArray.toList_eq, hTl]
          have := beq_eq_false_iff_ne.1 hq
          exact beq_eq_false_iff_ne.2 (fun e => this e.symm)
        have HA := Lib.hid (any_take ls x.data.toList k hlt2 HAL.out hq)
        clear hq hT hTl
        go_wp2_with fail
        go_roundw
        case rel => exact ⟨k + 1, by omega, by go_num, HA.out, trivial⟩
        case measure => simp [intOf]; omega
    · have hA := HAL.out
      rw [List.take_of_length_le (by omega)] at hA
      have HA := Lib.hid hA
      clear hA HAL
      go_wp2_with fail
      go_ret
      exact ⟨⟨-1, rfl, by rw [HA.out]; rfl⟩, rfl⟩
set_option maxHeartbeats 4000000 in
theorem contains_any (v : Value) (ls : List Bs) (x : ByteArray) (w : World) (base : Nat) (h : w.ownsRow base 9 1 v ls.length (ls.map TS)) (hl : ls.length ≤ 1099511627776) :
    Calls Tryd.prog 30 #[v, .string x] w fun e w' => e = .returned (.bool (ls.any (· == x.data.toList))) ∧ w = w' := by
  have HC := Lib.hid (index_any v ls x w base h hl)
  clear h
  go_enter Tryd.func30, Tryd.ntmps30
  go_wp2_with fail
  refine HC.out.mono ?_
  rintro e w1 ⟨⟨r, rfl, hr⟩, rfl⟩
  have HR := Lib.hid hr
  clear hr
  go_wp2_with fail
  go_ret
  exact ⟨by rw [← HR.out]; rfl, rfl⟩
end Go.Proofs.YtjbdgndejbiikaaDoor.Ct
/-
  strings.Builder: copyCheck and WriteString walked, String by the library's contract at this translation. Condition: a text of at most 2^47 bytes.
-/
namespace Go.Proofs.YtjbdgndejbiikaaDoor.Fd
open Go.Shelf Go.RowKit
def lays169_ren : Go.Shelf.Ren := ⟨fun | 169 => 41 | n => n, fun | 70 => 76 | 9 => 9 | 0 => 0 | 72 => 79 | 37 => 77 | 127 => 107 | 3 => 3 | 5 => 5 | n => n, fun | n => n⟩
theorem lays169 : Go.Proofs.Lays.n169 Tryd.prog lays169_ren := {
  mixed := by kernel_rfl
  f169 := Tryd.func41.trans (congrArg some (by kernel_rfl))
  t0 := Tryd.underlying0
  a0 := Tryd.isAgg0
  z0 := Tryd.sizeOf0
  v0 := Tryd.zeroValue0
  t3 := Tryd.underlying3
  a3 := Tryd.isAgg3
  z3 := Tryd.sizeOf3
  v3 := Tryd.zeroValue3
  t9 := Tryd.underlying9
  a9 := Tryd.isAgg9
  z9 := Tryd.sizeOf9
  v9 := Tryd.zeroValue9
  t37 := Tryd.underlying77
  a37 := Tryd.isAgg77
  z37 := Tryd.sizeOf77
  v37 := Tryd.zeroValue77
  t70 := Tryd.underlying76
  a70 := Tryd.isAgg76
  z70 := Tryd.sizeOf76
  v70 := Tryd.zeroValue76
  t72 := Tryd.underlying79
  a72 := Tryd.isAgg79
  z72 := Tryd.sizeOf79
  v72 := Tryd.zeroValue79
  t127 := Tryd.underlying107
  a127 := Tryd.isAgg107
  z127 := Tryd.sizeOf107
  v127 := Tryd.zeroValue107 }
theorem Builder_Extra_169 : Builder.Extra Tryd.prog lays169_ren := {
  sizeBuilder := by kernel_rfl
  liesBuilder := by kernel_rfl
  t5 := Tryd.underlying5
  a5 := Tryd.isAgg5
  z5 := Tryd.sizeOf5
  v5 := Tryd.zeroValue5
  infoByte := by kernel_rfl
  cellsByte := by kernel_rfl
  sizeByte := by kernel_rfl
  neB5 := by decide }

theorem builder_string (B b : Nat) (l : List UInt8) (w : World) (h : Lib.IsBuilderF 79 5 B b (Lib.byteCells l) w) (hBw : B ≤ w.heap.size) :
    Calls Tryd.prog 41 #[.pointer (some ⟨b, 0, none⟩)] w fun e w' => e = .returned (.string ⟨l.toArray⟩) ∧ Below B w w' :=
  (Any.Builder_String_any_k lays169 Builder_Extra_169 B b l w h hBw).mono fun _ _ ⟨he, _, hb, _⟩ => ⟨he, hb⟩

theorem sizeBuilder : (Tryd.prog.info? 79).map (·.size) = some 2 := by kernel_rfl
theorem liesBuilder : liesAt Tryd.prog Tryd.prog.depth 79 (2 / Tryd.prog.cellsOf 79) 0 79 1 = true := by kernel_rfl
theorem infoU8 : (Tryd.prog.info? 5).map (fun i => (i.zero, i.size, i.bytes)) = some (some (.int .u8 0), 1, 1) := by kernel_rfl
/-- The address handed through NoEscape. -/
theorem run_same (x : Value) (W : World) : (callFunc 66 #[x]).run Tryd.prog W = .ok (.value x) W := by
  rw [run_callFunc_extern Tryd.func66 (by kernel_rfl) (by kernel_rfl) (by kernel_rfl) (e := Extern.AbiNoEscape.same) (by kernel_rfl), Lib.run_noEscape]
  rfl
/-- What a writing call leaves: the builder marked with its own address and these bytes in it; below it, and beside it, all as it was. -/
def Wrote (B b : Nat) (bs : List Value) (w w' : World) : Prop :=
  Lib.BuilderAtF 79 5 B b (.pointer (some ⟨b, 0, none⟩)) bs w' ∧ Below B w w' ∧ Lib.OthersKept 5 (some b) w w'

set_option maxHeartbeats 1000000 in
set_option maxRecDepth 100000 in
theorem copyCheck_any (B b : Nat) (bs : List Value) (w : World) (h : Lib.IsBuilderF 79 5 B b bs w) :
    Calls Tryd.prog 55 #[.pointer (some ⟨b, 0, none⟩)] w fun e w' => e = .returned (.tuple #[]) ∧ Wrote B b bs w w' := by
  obtain ⟨j, hj, hjs⟩ := Option.map_eq_some_iff.1 sizeBuilder
  rcases h with h | h
  · have c0 := h.cell0
    have f0 := h.frozen0
    have r1 := Lib.run_to_unsafe w ⟨b, 0, none⟩ Tryd.underlying76 Tryd.underlying124 hj (by rw [hjs]; decide) h.shape (Nat.zero_lt_succ 1)
    have r2 := run_same (.pointer (some ⟨b, 0, none⟩)) w
    have r3 := Lib.run_from_unsafe w ⟨b, 0, none⟩ Tryd.underlying124 Tryd.underlying76 hj h.shape liesBuilder
    have HB := Lib.hid h
    clear h hj hjs
    go_enter Tryd.func55, Tryd.ntmps55
    go_wp2_with fail
    go_end0
    exact ⟨rfl, HB.out.used _, (Below.refl B w).setCell (p := ⟨b, 0, none⟩) HB.out.1 _, (Lib.OthersKept.refl _ _ w).setCell ⟨b, 0, none⟩ rfl _⟩
  · have c0 := h.cell0
    have r1 := Lib.run_neq_ptr_same w ⟨b, 0, none⟩ Tryd.underlying76 hj
    have HB := Lib.hid h
    clear h hj hjs
    go_enter Tryd.func55, Tryd.ntmps55
    go_wp2_with fail
    go_end0
    exact ⟨rfl, HB.out, Below.refl B _, Lib.OthersKept.refl _ _ _⟩
theorem slice_of {w : World} {B : Nat} {e : TypeId} {k : Nat} {v : Value} {n : Nat} {xs : List Value} (h : w.ownsRowF B e k v n xs) : ∃ a m c, v = .slice a m c := by
  rcases h.2 with ⟨h0, _⟩ | ⟨_, _, _, _, h0, _⟩ <;> exact ⟨_, _, _, h0⟩

set_option maxHeartbeats 2000000 in
set_option maxRecDepth 100000 in
theorem writeString_any (B b : Nat) (bs : List Value) (s : ByteArray) (w : World) (h : Lib.IsBuilderF 79 5 B b bs w) (hlen : bs.length + s.size ≤ 140737488355328) (hBw : B ≤ w.heap.size) :
    Calls Tryd.prog 40 #[.pointer (some ⟨b, 0, none⟩), .string s] w fun e w' => e = .returned (.tuple #[.int .i64 s.size, .nilIface]) ∧ Wrote B b (bs ++ Lib.strCells s) w w' := by
  obtain ⟨i0, hi, hz0, hz1, hz2⟩ := info_parts infoU8
  have HB := Lib.hid h
  clear h
  go_enter Tryd.func40, Tryd.ntmps40
  go_wp2_with fail
  refine (copyCheck_any B b bs _ HB.out).mono ?_
  rintro e x ⟨rfl, ⟨hb, v, hx, ho, hv⟩, hB, hK⟩
  have HO := Lib.hid ho
  have HX := Lib.hid hx
  have a0 := two0 hx
  have a1 := two1 hx
  have hsz := hB.size
  clear ho hx HB
  go_wp2_with (at_builtin; refine Lib.wpList_append_own_stringF _ rfl _ _ 77 9 rfl B 5 i0 Tryd.underlying77 Tryd.underlying9 hi hz0 hz1 hz2 _ _ _ rfl HO.out s rfl (by unfold maxLen; omega) (by omega) (by omega) ?_; intro u y hu hg hn; obtain ⟨ua, un, uc, hs⟩ := slice_of hu; have HY := Lib.hid ((hg.block b (block_lt HX.out) (fun e => hv e.symm)).trans HX.out); have b0 := two0 HY.out; have b1 := two1 HY.out; have f1 := free HY.out 1; rw [hs] at hu; rw [hs]; clear a0 a1 hn hs)
  go_ret2
  exact ⟨rfl, Lib.BuilderAtF.put hb HY.out (by rw [List.length_append, Lib.strCells_length]; exact hu) (by decide), (hB.grown hg (by omega) fun k hk => (HO.out.lt k hk).1).setCell (p := ⟨b, 1, none⟩) hb _, (hK.grown hg (Lib.ownsRowF_kind HO.out)).setCell ⟨b, 1, none⟩ rfl _⟩
end Go.Proofs.YtjbdgndejbiikaaDoor.Fd
