/-
  gatepostref08.Parse: what it returns. Condition: a text of at most 2^30 bytes.
-/
import Derived.Test.YtmnnbefigepgfaaDoorCtParse
import Derived.Test.YtmnnbefigepgfaaDoorTokRefSplit
import Derived.Test.YtmnnbefigepgfaaDoorTokRefPair
import Derived.Test.YtmnnbefigepgfaaDoorTokRefLower
import Derived.Deep.DeepCutAuto
namespace Go.Proofs.YtmnnbefigepgfaaDoor.Ct
open Go.RowKit Go.Proofs.YtmnnbefigepgfaaDoor.Tk Go.Proofs.YtmnnbefigepgfaaDoor.Fd Go.Proofs.YtmnnbefigepgfaaDoor.Hd
set_option linter.unusedVariables false

/-- What lies where while elements are gone over. -/
structure Sr (w : World) (r g : Nat) (lv : Value) (ls : List Bs) (c : Con) (W : World) : Prop where
  bel : Below w.heap.size w W
  res : W.heap[r]? = some (.cells blank13 26 (0, 0))
  con : ConAt W g c
  row : W.ownsRow (g + 1) 9 1 lv ls.length (ls.map TS)
section
variable {w : World} {r g : Nat} {lv : Value} {ls : List Bs} {c c' : Con} {W W' : World}
theorem Sr.more (h : Sr w r g lv ls c W) (hb : Below W.heap.size W W') : Sr w r g lv ls c W' :=
  ⟨Bl.next h.bel hb, Bl.old hb (block_lt h.res) h.res, Bl.old hb (block_lt h.con) h.con, Fd.owns_kept h.row hb⟩
theorem Sr.put (h : Sr w r g lv ls c W) (hr : r ≠ g) (hg : w.heap.size ≤ g) (i : Nat) (x : Value) (e : (cells c).setIfInBounds i x = cells c') : Sr w r g lv ls c' (W.setCell ⟨g, i, none⟩ x) :=
  ⟨h.bel.setCell (p := ⟨g, i, none⟩) hg x, put_far h.res hr, by unfold ConAt; rw [heap_put h.con, e], row_same h.row fun k hk => Below.heap_setCell _ _ _ _ (by
    have := (World.ownsRow.lt h.row k hk).1
    show k ≠ g; omega)⟩
theorem Sr.cell (h : Sr w r g lv ls c W) {b cap : Nat} (hv : lv = .slice (some ⟨b, 0, none⟩) ls.length cap) (k : Nat) (hk : k < ls.length) : W.cell? ⟨b, k, none⟩ = some (.string ⟨ls[k].toArray⟩) := by
  have h1 := h.row
  rw [hv] at h1
  rw [h1.cellAt k (by omega), List.getElem?_map, List.getElem?_eq_getElem hk]; rfl
end
theorem lit_of {L : ByteArray} {nm : Bs} (h : L.data.toList = nm) : L = ⟨nm.toArray⟩ := by
  subst h; cases L; simp
/-- Told is both: the number is one, and there is a value. -/
theorem told_none {v : Option Bs} (h : ((Num.numOf (valB v) most).2 && hasB v) = false) : numV v = none := by
  cases v with
  | none => rfl
  | some x =>
    show numB x = none
    have h2 : (Num.numOf ⟨x.toArray⟩ most).2 = false := by simpa [valB, hasB] using h
    unfold numB
    rw [h2]; rfl
theorem told_some {v : Option Bs} (h : ((Num.numOf (valB v) most).2 && hasB v) = true) : numV v = some (Num.numOf (valB v) most).1 := by
  cases v with
  | none => simp [hasB] at h
  | some x =>
    show numB x = some (Num.numOf ⟨x.toArray⟩ most).1
    have h2 : (Num.numOf ⟨x.toArray⟩ most).2 = true := by simpa [valB, hasB] using h
    unfold numB
    rw [h2]; rfl
theorem stale_facts (v : Option Bs) : (hasB v = false → v = none) ∧ (hasB v = true → stale v = numV v) := by
  cases v with
  | none => exact ⟨fun _ => rfl, (fun h => by cases h)⟩
  | some y => exact ⟨(fun h => by cases h), fun _ => rfl⟩

set_option maxRecDepth 100000 in
set_option maxHeartbeats 8000000 in
theorem refParse_any (s : ByteArray) (w : World) (hs : s.size ≤ 1073741824) :
    Calls Tryd.prog 7 #[.string s] w fun e w' => e = .returned (parseVal s.data.toList) ∧ Below w.heap.size w w' := by
  go_enter Tryd.func7, Tryd.ntmps7
  go_wp2_with fail
  refine (none_any _).mono ?_
  rintro e w1 ⟨rfl, hb1⟩
  have hN := new_block w1 (.cells (cells .zero) 26)
  have hR := old_block w1 (.cells (cells .zero) 26) (b := w.heap.size) (by have := hb1.size; simp at this; omega)
  have hB1 : Below w.heap.size w (w1.alloc (.cells (cells .zero) 26)) := Bl.next (Bl.next ((Below.refl _ _).alloc (Nat.le_refl _) _) hb1) ((Below.refl _ _).alloc (Nat.le_refl _) _)
  have hsz : w.heap.size < w1.heap.size := by have := hb1.size; simp at this; omega
  rw [show w1.heap[w.heap.size]? = some (.cells blank13 26 (0, 0)) from Bl.old hb1 (by simp) (new_block w _)] at hR
  obtain ⟨W1, hW1⟩ : ∃ W1, W1 = w1.alloc (.cells (cells .zero) 26) := ⟨_, rfl⟩
  have HW := Lib.hid (show w1.alloc (.cells #[.bool false, .bool false, .bool false, .bool false, .bool false, .bool false, .bool false, .int .i64 (-1), .int .i64 (-1), .int .i64 (-1), .int .i64 (-1), .int .i64 (-1), .int .i64 (-1)] 26) = W1 from hW1.symm)
  have hsW : W1.heap.size = w1.heap.size + 1 := by rw [hW1]; simp
  rw [← hW1] at hN hR hB1
  clear hW1 hb1
  go_wp2_with fail
  rw [HW.out]
  refine (refSplit_any s W1 (by omega)).mono ?_
  rintro e w2 ⟨hb2, h2⟩
  rcases h2 with ⟨h2, rfl⟩ | ⟨ls, lv, h2, rfl, ho⟩
  · have HV := Lib.hid (parseVal_none h2)
    have hN2 : ConAt w2 w1.heap.size .zero := Bl.old hb2 (by omega) hN
    have hR2 := Bl.old hb2 (by omega) hR
    have HB2 := Lib.hid (Bl.next hB1 hb2)
    clear h2 hb2 hN hR hB1
    obtain ⟨a0, a1, a2, a3, a4, a5, a6, a7, a8, a9, a10, a11, a12⟩ := thirteen hN2
    obtain ⟨r0, r1, r2, r3, r4, r5, r6, r7, r8, r9, r10, r11, r12⟩ := blanks hR2
    have f0 := free hN2 0
    have f1 := free hN2 1
    have g0 := free hR2 0
    have g1 := free hR2 1
    have g2 := free hR2 2
    have g3 := free hR2 3
    have g4 := free hR2 4
    have g5 := free hR2 5
    have g6 := free hR2 6
    have g7 := free hR2 7
    have g8 := free hR2 8
    have g9 := free hR2 9
    have g10 := free hR2 10
    have g11 := free hR2 11
    have g12 := free hR2 12
    have HN2 := Lib.hid hN2
    have HR2 := Lib.hid hR2
    clear hN2 hR2
    go_wp2_with fail
    refine bodyPost_ret (results_pair rfl _ _ w.heap.size 26 _ (0, 0) _ rfl (set13_at (W := (w2.setCell ⟨w1.heap.size, 0, none⟩ (.bool true)).setCell ⟨w1.heap.size, 1, none⟩ (.bool true)) ?_ Con.broken) Tryd.underlying26 rfl infoCon) rfl ?_
    · exact put_far (put_far HR2.out (by show w.heap.size ≠ w1.heap.size; omega)) (by show w.heap.size ≠ w1.heap.size; omega)
    · refine ⟨by rw [HV.out]; rfl, ?_⟩
      exact set13_below ((HB2.out.setCell (p := ⟨w1.heap.size, 0, none⟩) (by show w.heap.size ≤ w1.heap.size; omega) _).setCell (p := ⟨w1.heap.size, 1, none⟩) (by show w.heap.size ≤ w1.heap.size; omega) _) (Nat.le_refl _) Con.broken
  · have HV := Lib.hid (parseVal_some h2)
    have HP := Lib.hid (split_piece h2)
    have hl := split_length h2
    have hsl : s.data.toList.length = s.size := by simp
    have hN2 : ConAt w2 w1.heap.size .zero := Bl.old hb2 (by omega) hN
    have hR2 := Bl.old hb2 (by omega) hR
    have HB2 := Lib.hid (Bl.next hB1 hb2)
    have hs2 := hb2.size
    have HN2 := Lib.hid hN2
    have HR2 := Lib.hid hR2
    have HO2 := Lib.hid (Fd.owns_mono ho (show w1.heap.size + 1 ≤ W1.heap.size by omega))
    clear h2 hb2 hN hR hB1 hN2 hR2 ho
    obtain ⟨a, cap, hlv, ha⟩ : ∃ a cap, lv = .slice a ls.length cap ∧ (0 < ls.length → ∃ b, a = some ⟨b, 0, none⟩) := by
      rcases HO2.out.2 with ⟨hv, h0⟩ | ⟨b, cap, cur, hv, _⟩
      · exact ⟨none, 0, by rw [hv, h0], fun h => by omega⟩
      · exact ⟨_, cap, hv, fun _ => ⟨b, rfl⟩⟩
    have HLV := Lib.hid hlv
    rw [hlv]
    clear hlv
    have HS := Lib.hid (show Sr w w.heap.size w1.heap.size lv ls .zero w2 from ⟨HB2.out, HR2.out, HN2.out, HO2.out⟩)
    clear HN2 HR2 HO2 HB2
    go_wp2_with fail
    go_loopw [7] (fun i wr => ∃ k : Nat, k ≤ ls.length ∧ i = .int .i64 (k : Int) ∧ Sr w w.heap.size w1.heap.size lv ls ((ls.take k).foldl elem .zero) wr) (fun i _ => ls.length - (intOf i).toNat)
    case atStart => exact ⟨0, Nat.zero_le _, rfl, HS.out⟩
    case round =>
      obtain ⟨k, hk, rfl, hSt⟩ := hrel
      have HSt := Lib.hid hSt
      clear hSt HS
      by_cases hlt2 : k < ls.length
      · obtain ⟨b, rfl⟩ := ha (by omega)
        have c1 := HSt.out.cell HLV.out k hlt2
        have hxl := HP.out ls[k] (List.getElem_mem hlt2)
        have HF := Lib.hid (foldl_next ls k hlt2)
        obtain ⟨x, hx⟩ : ∃ x : ByteArray, x = ⟨ls[k].toArray⟩ := ⟨_, rfl⟩
        have hxs : x.size ≤ 1073741824 := by rw [hx]; show ls[k].toArray.size ≤ _; rw [List.size_toArray]; omega
        have HX := Lib.hid (show x.data.toList = ls[k] from by rw [hx])
        rw [← hx] at c1
        have hwr := HSt.out.bel.size
        cases hp : pairOf ls[k] with
        | none =>
          have HPV := Lib.hid (show pairVal x.data.toList = .tuple #[.string ⟨#[]⟩, .string ⟨#[]⟩, .bool false, .bool false] from by rw [HX.out]; exact pairVal_none hp)
          have HE := Lib.hid (elem_none (c := (ls.take k).foldl elem .zero) hp)
          clear hp hx hxl
          go_wp2_with fail
          refine (refPair_any x _ (by omega)).mono ?_
          rintro e w4 ⟨rfl, rfl⟩
          rw [HPV.out]
          go_wp2_with fail
          go_roundw
          case rel => exact ⟨k + 1, by omega, by go_num, by rw [HF.out, HE.out]; exact HSt.out⟩
          case measure => simp [intOf]; omega
        | some p =>
          obtain ⟨a, v⟩ := p
          obtain ⟨ha1, ha2⟩ := pair_sizes hp
          obtain ⟨A, hA⟩ : ∃ A : ByteArray, A = ⟨a.toArray⟩ := ⟨_, rfl⟩
          have hAs : A.size ≤ 1073741824 := by rw [hA]; show a.toArray.size ≤ _; rw [List.size_toArray]; omega
          have HA := Lib.hid (show A.data.toList = a from by rw [hA])
          obtain ⟨V, hV⟩ : ∃ V, V = valB v := ⟨_, rfl⟩
          have hVs : V.size ≤ 1073741824 := by rw [hV]; omega
          obtain ⟨hb, hhb⟩ : ∃ hb, hb = hasB v := ⟨_, rfl⟩
          have HPV := Lib.hid (show pairVal x.data.toList = .tuple #[.string A, .string V, .bool hb, .bool true] from by rw [HX.out, hA, hV, hhb]; exact pairVal_some hp)
          obtain ⟨L, hL⟩ : ∃ L : ByteArray, L = ⟨(lower A.data.toList).toArray⟩ := ⟨_, rfl⟩
          have HL := Lib.hid hL
          have HLL := Lib.hid (show L.data.toList = lower a from by rw [hL, HA.out])
          obtain ⟨cc, hcc⟩ : ∃ cc, cc = (ls.take k).foldl elem .zero := ⟨_, rfl⟩
          have HE := Lib.hid (show (ls.take (k + 1)).foldl elem .zero = act cc (lower a) v from by rw [HF.out, elem_some hp, hcc])
          have HFI := Lib.hid (show Fine cc from by rw [hcc]; exact fine_all _ fine_zero)
          rw [← hcc] at HSt
          obtain ⟨N, ok, hN⟩ : ∃ N ok, Num.numOf V most = (N, ok) := ⟨_, _, rfl⟩
          obtain ⟨tl, htl⟩ : ∃ tl, tl = (ok && hb) := ⟨_, rfl⟩
          have HTL := Lib.hid htl
          have HT0 := Lib.hid (show tl = false → numV v = none from fun e => told_none (by rw [← hV, ← hhb, hN, ← htl]; exact e))
          have HT1 := Lib.hid (show tl = true → numV v = some N from fun e => by have h := told_some (v := v) (by rw [← hV, ← hhb, hN, ← htl]; exact e); rw [← hV, hN] at h; exact h)
          have HSTL := Lib.hid (show (hb = false → v = none) ∧ (hb = true → stale v = numV v) from by rw [hhb]; exact stale_facts v)
          have HNUM := Lib.hid (show ∀ W : World, Calls Tryd.prog 20 #[.string V, .int .i64 2147483648] W fun e w' => e = .returned (.tuple #[.int .i64 N, .bool ok]) ∧ W = w' from fun W => by
            have h := Num.refNumber_any V most W (by unfold maxLen; omega) (by decide) (by decide)
            rw [hN] at h
            exact h)
          clear hp hx hxl ha1 ha2 hA hL hcc hV hhb HF hN htl
          go_wp2_with fail
          refine (refPair_any x _ (by omega)).mono ?_
          rintro e w4 ⟨rfl, rfl⟩
          rw [HPV.out]
          go_wp2_with fail
          refine (HNUM.out _).mono ?_
          rintro e w5 ⟨rfl, rfl⟩
          clear c1
          go_upto_region 13 with fail
          go_cut [13] (fun t wx => t = .bool tl ∧ wr = wx)
          case first =>
            cases ok with
            | true =>
              go_wp2_with fail
              go_meet
              exact ⟨by rw [HTL.out]; simp, rfl⟩
            | false =>
              go_wp2_with fail
              go_meet
              exact ⟨by rw [HTL.out]; simp, rfl⟩
          case rest =>
            obtain ⟨rfl, rfl⟩ := hcut
            go_wp2_with fail
            refine (refLower_any A _ (by unfold maxLen; omega)).mono ?_
            rintro e w6 ⟨rfl, hb6⟩
            rw [← HL.out]
            have HS6 := Lib.hid (HSt.out.more hb6)
            have hne : w.heap.size ≠ w1.heap.size := by omega
            have hle : w.heap.size ≤ w1.heap.size := by omega
            clear hb6 HSt
            obtain ⟨q0, q1, q2, q3, q4, q5, q6, q7, q8, q9, q10, q11, q12⟩ := thirteen HS6.out.con
            have z := fun i => free HS6.out.con i
            by_cases hx : ∃ j, j < 13 ∧ lower a = nameOf j
            · obtain ⟨j, hj, hnm⟩ := hx
              have hLj := HLL.out.trans hnm
              rcases (by omega : j = 0 ∨ j = 1 ∨ j = 2 ∨ j = 3 ∨ j = 4 ∨ j = 5 ∨ j = 6 ∨ j = 7 ∨ j = 8 ∨ j = 9 ∨ j = 10 ∨ j = 11 ∨ j = 12) with rfl | rfl | rfl | rfl | rfl | rfl | rfl | rfl | rfl | rfl | rfl | rfl | rfl
              · obtain rfl : L = ⟨#[110, 111, 45, 115, 116, 111, 114, 101]⟩ := lit_of hLj
                have hnm2 : lower a = nst := hnm
                rw [hnm2, act_ns] at HE
                clear hnm hnm2 hLj HL HLL
                have z0 := z 0
                clear z
                go_wp2_with fail
                go_roundw
                case rel => exact ⟨k + 1, by omega, by go_num, by rw [HE.out]; exact HS6.out.put hne hle 0 (.bool true) rfl⟩
                case measure => simp [intOf]; omega
              · obtain rfl : L = ⟨#[110, 111, 45, 99, 97, 99, 104, 101]⟩ := lit_of hLj
                have hnm2 : lower a = nca := hnm
                rw [hnm2, act_nc] at HE
                clear hnm hnm2 hLj HL HLL
                have z1 := z 1
                clear z
                go_wp2_with fail
                go_roundw
                case rel => exact ⟨k + 1, by omega, by go_num, by rw [HE.out]; exact HS6.out.put hne hle 1 (.bool true) rfl⟩
                case measure => simp [intOf]; omega
              · obtain rfl : L = ⟨#[112, 114, 105, 118, 97, 116, 101]⟩ := lit_of hLj
                have hnm2 : lower a = pri := hnm
                rw [hnm2, act_pr] at HE
                clear hnm hnm2 hLj HL HLL
                have z2 := z 2
                clear z
                go_wp2_with fail
                go_roundw
                case rel => exact ⟨k + 1, by omega, by go_num, by rw [HE.out]; exact HS6.out.put hne hle 2 (.bool true) rfl⟩
                case measure => simp [intOf]; omega
              · obtain rfl : L = ⟨#[112, 117, 98, 108, 105, 99]⟩ := lit_of hLj
                have hnm2 : lower a = pub := hnm
                rw [hnm2, act_pub] at HE
                clear hnm hnm2 hLj HL HLL
                have z3 := z 3
                clear z
                go_wp2_with fail
                go_roundw
                case rel => exact ⟨k + 1, by omega, by go_num, by rw [HE.out]; exact HS6.out.put hne hle 3 (.bool true) rfl⟩
                case measure => simp [intOf]; omega
              · obtain rfl : L = ⟨#[109, 117, 115, 116, 45, 114, 101, 118, 97, 108, 105, 100, 97, 116, 101]⟩ := lit_of hLj
                have hnm2 : lower a = mus := hnm
                rw [hnm2, act_mu] at HE
                clear hnm hnm2 hLj HL HLL
                have z4 := z 4
                clear z
                go_wp2_with fail
                go_roundw
                case rel => exact ⟨k + 1, by omega, by go_num, by rw [HE.out]; exact HS6.out.put hne hle 4 (.bool true) rfl⟩
                case measure => simp [intOf]; omega
              · obtain rfl : L = ⟨#[112, 114, 111, 120, 121, 45, 114, 101, 118, 97, 108, 105, 100, 97, 116, 101]⟩ := lit_of hLj
                have hnm2 : lower a = pro := hnm
                rw [hnm2, act_px] at HE
                clear hnm hnm2 hLj HL HLL
                have z5 := z 5
                clear z
                go_wp2_with fail
                go_roundw
                case rel => exact ⟨k + 1, by omega, by go_num, by rw [HE.out]; exact HS6.out.put hne hle 5 (.bool true) rfl⟩
                case measure => simp [intOf]; omega
              · obtain rfl : L = ⟨#[111, 110, 108, 121, 45, 105, 102, 45, 99, 97, 99, 104, 101, 100]⟩ := lit_of hLj
                have hnm2 : lower a = onl := hnm
                rw [hnm2, act_oc] at HE
                clear hnm hnm2 hLj HL HLL
                have z6 := z 6
                clear z
                go_wp2_with fail
                go_roundw
                case rel => exact ⟨k + 1, by omega, by go_num, by rw [HE.out]; exact HS6.out.put hne hle 6 (.bool true) rfl⟩
                case measure => simp [intOf]; omega
              · obtain rfl : L = ⟨#[109, 97, 120, 45, 97, 103, 101]⟩ := lit_of hLj
                have hnm2 : lower a = age := hnm
                rw [hnm2, act_ag] at HE
                clear hnm hnm2 hLj HL HLL
                have z7 := z 7
                clear z
                cases tl with
                | false =>
                  rw [HT0.out rfl] at HE
                  go_wp2_with (go_at_call 22; refine (least_any _ _ _).mono ?_; rintro e w7 ⟨rfl, rfl⟩)
                  go_roundw
                  case rel => exact ⟨k + 1, by omega, by go_num, by rw [HE.out]; exact HS6.out.put hne hle 7 _ rfl⟩
                  case measure => simp [intOf]; omega
                | true =>
                  rw [HT1.out rfl] at HE
                  go_wp2_with (go_at_call 22; refine (least_any _ _ _).mono ?_; rintro e w7 ⟨rfl, rfl⟩)
                  go_roundw
                  case rel => exact ⟨k + 1, by omega, by go_num, by rw [HE.out]; exact HS6.out.put hne hle 7 _ rfl⟩
                  case measure => simp [intOf]; omega
              · obtain rfl : L = ⟨#[115, 45, 109, 97, 120, 97, 103, 101]⟩ := lit_of hLj
                have hnm2 : lower a = sma := hnm
                rw [hnm2, act_sh] at HE
                clear hnm hnm2 hLj HL HLL
                have z8 := z 8
                clear z
                cases tl with
                | false =>
                  rw [HT0.out rfl] at HE
                  go_wp2_with (go_at_call 22; refine (least_any _ _ _).mono ?_; rintro e w7 ⟨rfl, rfl⟩)
                  go_roundw
                  case rel => exact ⟨k + 1, by omega, by go_num, by rw [HE.out]; exact HS6.out.put hne hle 8 _ rfl⟩
                  case measure => simp [intOf]; omega
                | true =>
                  rw [HT1.out rfl] at HE
                  go_wp2_with (go_at_call 22; refine (least_any _ _ _).mono ?_; rintro e w7 ⟨rfl, rfl⟩)
                  go_roundw
                  case rel => exact ⟨k + 1, by omega, by go_num, by rw [HE.out]; exact HS6.out.put hne hle 8 _ rfl⟩
                  case measure => simp [intOf]; omega
              · obtain rfl : L = ⟨#[115, 116, 97, 108, 101, 45, 119, 104, 105, 108, 101, 45, 114, 101, 118, 97, 108, 105, 100, 97, 116, 101]⟩ := lit_of hLj
                have hnm2 : lower a = swr := hnm
                rw [hnm2, act_wh] at HE
                clear hnm hnm2 hLj HL HLL
                have z9 := z 9
                clear z
                cases tl with
                | false =>
                  rw [HT0.out rfl] at HE
                  go_wp2_with fail
                  go_roundw
                  case rel => exact ⟨k + 1, by omega, by go_num, by rw [HE.out]; exact HS6.out⟩
                  case measure => simp [intOf]; omega
                | true =>
                  rw [HT1.out rfl] at HE
                  go_wp2_with (go_at_call 22; refine (least_any _ _ _).mono ?_; rintro e w7 ⟨rfl, rfl⟩)
                  go_roundw
                  case rel => exact ⟨k + 1, by omega, by go_num, by rw [HE.out]; exact HS6.out.put hne hle 9 _ rfl⟩
                  case measure => simp [intOf]; omega
              · obtain rfl : L = ⟨#[115, 116, 97, 108, 101, 45, 105, 102, 45, 101, 114, 114, 111, 114]⟩ := lit_of hLj
                have hnm2 : lower a = sie := hnm
                rw [hnm2, act_ie] at HE
                clear hnm hnm2 hLj HL HLL
                have z10 := z 10
                clear z
                cases tl with
                | false =>
                  rw [HT0.out rfl] at HE
                  go_wp2_with fail
                  go_roundw
                  case rel => exact ⟨k + 1, by omega, by go_num, by rw [HE.out]; exact HS6.out⟩
                  case measure => simp [intOf]; omega
                | true =>
                  rw [HT1.out rfl] at HE
                  go_wp2_with (go_at_call 22; refine (least_any _ _ _).mono ?_; rintro e w7 ⟨rfl, rfl⟩)
                  go_roundw
                  case rel => exact ⟨k + 1, by omega, by go_num, by rw [HE.out]; exact HS6.out.put hne hle 10 _ rfl⟩
                  case measure => simp [intOf]; omega
              · obtain rfl : L = ⟨#[109, 105, 110, 45, 102, 114, 101, 115, 104]⟩ := lit_of hLj
                have hnm2 : lower a = mif := hnm
                rw [hnm2, act_mf] at HE
                clear hnm hnm2 hLj HL HLL
                have z11 := z 11
                clear z
                cases tl with
                | false =>
                  rw [HT0.out rfl] at HE
                  go_wp2_with fail
                  go_roundw
                  case rel => exact ⟨k + 1, by omega, by go_num, by rw [HE.out]; exact HS6.out⟩
                  case measure => simp [intOf]; omega
                | true =>
                  rw [HT1.out rfl] at HE
                  go_wp2_with (go_at_call 22; refine (least_any _ _ _).mono ?_; rintro e w7 ⟨rfl, rfl⟩)
                  go_roundw
                  case rel => exact ⟨k + 1, by omega, by go_num, by rw [HE.out]; exact HS6.out.put hne hle 11 _ rfl⟩
                  case measure => simp [intOf]; omega
              · obtain rfl : L = ⟨#[109, 97, 120, 45, 115, 116, 97, 108, 101]⟩ := lit_of hLj
                have hnm2 : lower a = mst := hnm
                rw [hnm2, act_ms] at HE
                clear hnm hnm2 hLj HL HLL
                have z12 := z 12
                clear z
                cases hb with
                | false =>
                  rw [HSTL.out.1 rfl] at HE
                  go_wp2_with (go_at_call 22; refine (least_any _ _ _).mono ?_; rintro e w7 ⟨rfl, rfl⟩)
                  go_roundw
                  case rel => exact ⟨k + 1, by omega, by go_num, by rw [HE.out]; exact HS6.out.put hne hle 12 _ rfl⟩
                  case measure => simp [intOf]; omega
                | true =>
                  rw [HSTL.out.2 rfl] at HE
                  cases tl with
                  | false =>
                    rw [HT0.out rfl] at HE
                    go_wp2_with fail
                    go_roundw
                    case rel => exact ⟨k + 1, by omega, by go_num, by rw [HE.out]; exact HS6.out⟩
                    case measure => simp [intOf]; omega
                  | true =>
                    rw [HT1.out rfl] at HE
                    go_wp2_with (go_at_call 22; refine (least_any _ _ _).mono ?_; rintro e w7 ⟨rfl, rfl⟩)
                    go_roundw
                    case rel => exact ⟨k + 1, by omega, by go_num, by rw [HE.out]; exact HS6.out.put hne hle 12 _ rfl⟩
                    case measure => simp [intOf]; omega
            · have HN := Lib.hid (act_none cc (lower a) v (fun j hj e => hx ⟨j, hj, e⟩))
              have e0 : (L.toList == [110, 111, 45, 115, 116, 111, 114, 101]) = false := by rw [ByteArray.toList_eq, HLL.out]; exact beq_eq_false_iff_ne.2 (fun e => hx ⟨0, by omega, e⟩)
              have e1 : (L.toList == [110, 111, 45, 99, 97, 99, 104, 101]) = false := by rw [ByteArray.toList_eq, HLL.out]; exact beq_eq_false_iff_ne.2 (fun e => hx ⟨1, by omega, e⟩)
              have e2 : (L.toList == [112, 114, 105, 118, 97, 116, 101]) = false := by rw [ByteArray.toList_eq, HLL.out]; exact beq_eq_false_iff_ne.2 (fun e => hx ⟨2, by omega, e⟩)
              have e3 : (L.toList == [112, 117, 98, 108, 105, 99]) = false := by rw [ByteArray.toList_eq, HLL.out]; exact beq_eq_false_iff_ne.2 (fun e => hx ⟨3, by omega, e⟩)
              have e4 : (L.toList == [109, 117, 115, 116, 45, 114, 101, 118, 97, 108, 105, 100, 97, 116, 101]) = false := by rw [ByteArray.toList_eq, HLL.out]; exact beq_eq_false_iff_ne.2 (fun e => hx ⟨4, by omega, e⟩)
              have e5 : (L.toList == [112, 114, 111, 120, 121, 45, 114, 101, 118, 97, 108, 105, 100, 97, 116, 101]) = false := by rw [ByteArray.toList_eq, HLL.out]; exact beq_eq_false_iff_ne.2 (fun e => hx ⟨5, by omega, e⟩)
              have e6 : (L.toList == [111, 110, 108, 121, 45, 105, 102, 45, 99, 97, 99, 104, 101, 100]) = false := by rw [ByteArray.toList_eq, HLL.out]; exact beq_eq_false_iff_ne.2 (fun e => hx ⟨6, by omega, e⟩)
              have e7 : (L.toList == [109, 97, 120, 45, 97, 103, 101]) = false := by rw [ByteArray.toList_eq, HLL.out]; exact beq_eq_false_iff_ne.2 (fun e => hx ⟨7, by omega, e⟩)
              have e8 : (L.toList == [115, 45, 109, 97, 120, 97, 103, 101]) = false := by rw [ByteArray.toList_eq, HLL.out]; exact beq_eq_false_iff_ne.2 (fun e => hx ⟨8, by omega, e⟩)
              have e9 : (L.toList == [115, 116, 97, 108, 101, 45, 119, 104, 105, 108, 101, 45, 114, 101, 118, 97, 108, 105, 100, 97, 116, 101]) = false := by rw [ByteArray.toList_eq, HLL.out]; exact beq_eq_false_iff_ne.2 (fun e => hx ⟨9, by omega, e⟩)
              have e10 : (L.toList == [115, 116, 97, 108, 101, 45, 105, 102, 45, 101, 114, 114, 111, 114]) = false := by rw [ByteArray.toList_eq, HLL.out]; exact beq_eq_false_iff_ne.2 (fun e => hx ⟨10, by omega, e⟩)
              have e11 : (L.toList == [109, 105, 110, 45, 102, 114, 101, 115, 104]) = false := by rw [ByteArray.toList_eq, HLL.out]; exact beq_eq_false_iff_ne.2 (fun e => hx ⟨11, by omega, e⟩)
              have e12 : (L.toList == [109, 97, 120, 45, 115, 116, 97, 108, 101]) = false := by rw [ByteArray.toList_eq, HLL.out]; exact beq_eq_false_iff_ne.2 (fun e => hx ⟨12, by omega, e⟩)
              clear z hx
              go_wp2_with fail
              go_roundw
              case rel => exact ⟨k + 1, by omega, by go_num, by rw [HE.out, HN.out]; exact HS6.out⟩
              case measure => simp [intOf]; omega
      · have HE := Lib.hid (show ls.take k = ls from List.take_of_length_le (by omega))
        have hS5 := HSt.out
        rw [HE.out] at hS5
        obtain ⟨a0, a1, a2, a3, a4, a5, a6, a7, a8, a9, a10, a11, a12⟩ := thirteen hS5.con
        obtain ⟨r0, r1, r2, r3, r4, r5, r6, r7, r8, r9, r10, r11, r12⟩ := blanks hS5.res
        have g0 := free hS5.res 0
        have g1 := free hS5.res 1
        have g2 := free hS5.res 2
        have g3 := free hS5.res 3
        have g4 := free hS5.res 4
        have g5 := free hS5.res 5
        have g6 := free hS5.res 6
        have g7 := free hS5.res 7
        have g8 := free hS5.res 8
        have g9 := free hS5.res 9
        have g10 := free hS5.res 10
        have g11 := free hS5.res 11
        have g12 := free hS5.res 12
        have HS5 := Lib.hid hS5
        obtain ⟨cc, hcc⟩ : ∃ cc, cc = ls.foldl elem .zero := ⟨_, rfl⟩
        rw [← hcc] at HV HS5 a0 a1 a2 a3 a4 a5 a6 a7 a8 a9 a10 a11 a12
        clear hcc hS5 HSt HE
        go_wp2_with fail
        refine bodyPost_ret (results_pair rfl _ _ w.heap.size 26 _ (0, 0) _ rfl (set13_at HS5.out.res cc) Tryd.underlying26 rfl infoCon) rfl ?_
        exact ⟨by rw [HV.out]; rfl, set13_below HS5.out.bel (Nat.le_refl _) cc⟩
end Go.Proofs.YtmnnbefigepgfaaDoor.Ct
