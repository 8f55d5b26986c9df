/-
  Texts that the laws' proofs stand on, 3 of them in one file; each one's head says what it proves and under which condition.
-/
import Derived.Test.YtjbdgndejbiikaaDoorRows
import Derived.Test.YtjbdgndejbiikaaDoorSgBP1
import Derived.WalkKit
import Derived.WalkLawsBesides
import Derived.Outline
import Derived.Lib.Hide
import Derived.Deep.QuietTactic
import Derived.BigQuiet
import Derived.Test.YtjbdgndejbiikaaDoorSgBP22
import Derived.Laws.EntriesVeiled
/-
  token.lowerByte, token.Lower and token.Same: what each returns. Conditions: none beyond the lengths that a string can have.
-/
namespace Go.Proofs.YtjbdgndejbiikaaDoor.Tk
open Go.RowKit

theorem lowerByte_any (c : UInt8) (w : World) :
    Calls Tryd.prog 17 #[.int .u8 (c.toNat : Int)] w fun e w' => e = .returned (.int .u8 ((low c).toNat : Int)) ∧ w' = w := by
  have hc : c.toNat < 256 := c.toNat_lt
  by_cases h : 65 ≤ c.toNat ∧ c.toNat ≤ 90
  · have HL := Lib.hid (low_up h)
    have h1 : (65 : Int) ≤ (c.toNat : Int) := by omega
    have h2 : (c.toNat : Int) ≤ 90 := by omega
    clear h
    go_enter Tryd.func17, Tryd.ntmps17
    go_wp2
    go_ret
    exact ⟨by rw [HL.out]; rfl, rfl⟩
  · have HL := Lib.hid (low_id h)
    by_cases h1 : (65 : Int) ≤ (c.toNat : Int)
    · have h2 : ¬ (c.toNat : Int) ≤ 90 := by omega
      clear h
      go_enter Tryd.func17, Tryd.ntmps17
      go_wp2
      go_ret
      exact ⟨by rw [HL.out]; rfl, rfl⟩
    · clear h
      go_enter Tryd.func17, Tryd.ntmps17
      go_wp2
      go_ret
      exact ⟨by rw [HL.out]; rfl, rfl⟩

/-- The first k bytes small, the others as they were. -/
def mix (l : Bs) (k : Nat) : Bs := (l.take k).map low ++ l.drop k
theorem mix_length (l : Bs) (k : Nat) (hk : k ≤ l.length) : (mix l k).length = l.length := by simp [mix]; omega
theorem mix_zero (l : Bs) : mix l 0 = l := by simp [mix]
theorem mix_all (l : Bs) : mix l l.length = lower l := by simp [mix, lower]
theorem mix_at (l : Bs) (k : Nat) (hk : k < l.length) : (mix l k)[k]'(by rw [mix_length l k (by omega)]; exact hk) = l[k] := by
  unfold mix
  rw [List.getElem_append_right (by simp; exact Nat.min_le_left _ _)]
  simp [Nat.min_eq_left (Nat.le_of_lt hk)]
theorem mix_set (l : Bs) (k : Nat) (hk : k < l.length) : (mix l k).set k (low l[k]) = mix l (k + 1) := by
  unfold mix
  rw [List.set_append_right _ _ (by simp; exact Nat.min_le_left _ _)]
  have h1 : k - (List.map low (List.take k l)).length = 0 := by simp; omega
  rw [h1, List.drop_eq_getElem_cons hk, List.take_succ_eq_append_getElem hk, List.map_append, List.set_cons_zero, List.append_assoc]
  rfl

theorem Holds.at0 {w : World} {b : Nat} {l : Bs} (h : Holds w b 0 l) (j : Nat) (hj : j < l.length) : w.cell? ⟨b, j, none⟩ = some (.int .u8 (l[j].toNat : Int)) := by
  have := h j hj; rwa [Nat.zero_add] at this
theorem Holds.set {w : World} {b : Nat} {l : Bs} (h : Holds w b 0 l) (k : Nat) (hk : k < l.length) (c : UInt8) : Holds (w.setCell ⟨b, k, none⟩ (.int .u8 (c.toNat : Int))) b 0 (l.set k c) := by
  intro j hj
  have hj' : j < l.length := by simpa using hj
  rw [Nat.zero_add]
  by_cases e : j = k
  · subst e
    rw [World.cell?_setCell_same w _ _ (h.at0 j hj')]; simp
  · rw [World.cell?_setCell_other w _ _ _ (by intro hh; injection hh with _ h2; exact e h2.symm), h.at0 j hj']
    simp [List.getElem_set_ne (Ne.symm e)]

set_option maxHeartbeats 1000000 in
theorem lower_any (s : ByteArray) (w : World) (hs : s.size ≤ maxLen) :
    Calls Tryd.prog 36 #[.string s] w fun e w' => e = .returned (.string ⟨(lower s.data.toList).toArray⟩) ∧ Below w.heap.size w w' := by
  unfold maxLen at hs
  have hconv := fun W : World => run_bytes_of_string (P := Tryd.prog) W 9 77 5 s Tryd.underlying9 Tryd.underlying77 Tryd.underlying5
  have hcap := grownCap_ge w s.size 0 5
  have hlen : s.data.toList.length = s.size := by simp
  have HLEN := Lib.hid hlen
  clear hlen
  have HH := Lib.hid (holds_new w s (grownCap w s.size 0 5) 5 ((bytesRow s (grownCap w s.size 0 5)).size, (bytesRow s (grownCap w s.size 0 5)).size + 1))
  have HF : Hid (∀ j, j < s.size → (w.alloc (.cells (bytesRow s (grownCap w s.size 0 5)) 5 ((bytesRow s (grownCap w s.size 0 5)).size, (bytesRow s (grownCap w s.size 0 5)).size + 1))).frozen? ⟨w.heap.size, j, none⟩ = false) := by
    intro j hj
    rw [World.frozen?_alloc_mark]
    have : (bytesRow s (grownCap w s.size 0 5)).size = grownCap w s.size 0 5 := by
      have h2 : s.data.size = s.size := rfl
      simp [bytesRow]; omega
    rw [this]; simp; omega
  go_enter Tryd.func36, Tryd.ntmps36
  go_wp2_with fail
  clear hconv
  go_loopw [10] (fun i wr => ∃ k : Nat, k ≤ s.size ∧ i = .int .i64 k ∧ Holds wr w.heap.size 0 (mix s.data.toList k) ∧ (∀ j, j < s.size → wr.frozen? ⟨w.heap.size, j, none⟩ = false) ∧ Below w.heap.size w wr) (fun i _ => s.size - (intOf i).toNat)
  case atStart => exact ⟨0, Nat.zero_le _, rfl, by rw [mix_zero]; exact HH.out, HF.out, ((Below.refl _ _).alloc (Nat.le_refl _) _).drew⟩
  case round =>
    obtain ⟨k, hk, rfl, hh, hf, hb⟩ := hrel
    have HH2 := Lib.hid hh
    have HF2 := Lib.hid hf
    clear hh hf HH HF
    by_cases hlt : k < s.size
    · have hk' : k < s.data.toList.length := by rw [HLEN.out]; exact hlt
      have hcell : wr.cell? ⟨w.heap.size, k, none⟩ = some (.int .u8 (s.data.toList[k].toNat : Int)) := by
        have h1 := HH2.out.at0 k (by rw [mix_length _ _ (Nat.le_of_lt hk')]; exact hk')
        rwa [mix_at _ _ hk'] at h1
      have hfz := HF2.out k hlt
      obtain ⟨c, hc⟩ : ∃ c, c = s.data.toList[k] := ⟨_, rfl⟩
      rw [← hc] at hcell
      have HC := Lib.hid hc
      clear hc
      go_wp2_with (go_at_call 17; refine (lowerByte_any _ _).mono ?_; rintro e w' ⟨rfl, rfl⟩)
      go_roundw
      case rel =>
        have hk' : k < s.data.toList.length := by rw [HLEN.out]; exact hlt
        refine ⟨k + 1, by omega, by go_num, ?_, ?_, ?_⟩
        · rw [← mix_set _ _ hk', ← HC.out]
          exact HH2.out.set k (by rw [mix_length _ _ (Nat.le_of_lt hk')]; exact hk') _
        · intro j hj; rw [World.frozen?_setCell]; exact HF2.out j hj
        · exact hb.setCell (Nat.le_refl _) _
      case measure => simp [intOf]; omega
    · have hback := run_back (P := Tryd.prog) wr 77 9 5 w.heap.size 0 (grownCap w s.size 0 5) (lower s.data.toList) Tryd.underlying77 Tryd.underlying5 Tryd.underlying9 (by
        have h1 := HH2.out
        rw [show k = s.data.toList.length from by rw [HLEN.out]; omega, mix_all] at h1
        exact h1)
      rw [lower_length, HLEN.out] at hback
      go_wp2
      go_ret
      exact ⟨rfl, hb⟩

/-- Two texts are alike but for the size of letters. -/
def same (a b : Bs) : Bool := lower a == lower b
theorem same_no {a b : ByteArray} (h : a.size ≠ b.size) : same a.data.toList b.data.toList = false := by
  unfold same
  rw [beq_eq_false_iff_ne]
  intro e
  have := congrArg List.length e
  simp [lower_length] at this
  exact h this
theorem same_at (a b : ByteArray) (k : Nat) (ha : k < a.size) (hb : k < b.size) (h : low a[k] ≠ low b[k]) : same a.data.toList b.data.toList = false := by
  unfold same
  rw [beq_eq_false_iff_ne]
  intro e
  have h1 : (lower a.data.toList)[k]? = some (low a[k]) := by
    simp only [lower, List.getElem?_map]
    rw [List.getElem?_eq_getElem (by simpa using ha)]; rfl
  have h2 : (lower b.data.toList)[k]? = some (low b[k]) := by
    simp only [lower, List.getElem?_map]
    rw [List.getElem?_eq_getElem (by simpa using hb)]; rfl
  rw [e, h2] at h1
  injection h1 with h1
  exact h h1.symm
theorem same_yes (a b : ByteArray) (hab : a.size = b.size) (h : ∀ j (ha : j < a.size) (hb : j < b.size), low a[j] = low b[j]) : same a.data.toList b.data.toList = true := by
  unfold same
  rw [beq_iff_eq]
  apply List.ext_getElem
  · simp [lower_length]; exact hab
  · intro j h1 h2
    simp only [lower, List.getElem_map]
    exact h j (by simpa [lower] using h1) (by simpa [lower] using h2)
theorem low_ne {c d : UInt8} (h : low c ≠ low d) : (((low c).toNat : Int) != ((low d).toNat : Int)) = true := by
  rw [bne_iff_ne]; intro e; exact h (UInt8.toNat.inj (by omega))
theorem low_eq {c d : UInt8} (h : low c = low d) : (((low c).toNat : Int) != ((low d).toNat : Int)) = false := by
  rw [h]; simp

set_option maxHeartbeats 1000000 in
theorem same_any (a b : ByteArray) (w : World) (hs : a.size ≤ maxLen) :
    Calls Tryd.prog 8 #[.string a, .string b] w fun e w' => e = .returned (.bool (same a.data.toList b.data.toList)) ∧ ∃ n, w' = w.drewN n := by
  unfold maxLen at hs
  by_cases hab : a.size = b.size
  · have hne : ((a.size : Int) != (b.size : Int)) = false := by rw [hab]; simp
    have HAB := Lib.hid hab
    clear hab
    go_enter Tryd.func8, Tryd.ntmps8
    go_wp2_with fail
    go_loopw [13] (fun i wr => ∃ k : Nat, k ≤ a.size ∧ i = .int .i64 k ∧ (∃ n, wr = w.drewN n) ∧ ∀ j (ha : j < a.size) (hb : j < b.size), j < k → low a[j] = low b[j]) (fun i _ => a.size - (intOf i).toNat)
    case atStart => exact ⟨0, Nat.zero_le _, rfl, ⟨0, rfl⟩, fun j _ _ h => by omega⟩
    case round =>
      obtain ⟨k, hk, rfl, ⟨n, hw⟩, hall⟩ := hrel
      have HALL := Lib.hid hall
      have HW := Lib.hid hw
      clear hall hw
      by_cases hlt : k < a.size
      · have hlb : k < b.size := by have := HAB.out; omega
        by_cases he : low a[k] = low b[k]
        · have h1 := low_eq he
          have HE := Lib.hid he
          clear he
          go_wp2_with fail
          go_quiet ((go_at_call 17; exact Calls.quiet_of_same (lowerByte_any _ _)))
          go_wp2
          go_roundw
          case rel =>
            refine ⟨k + 1, by omega, by go_num, ⟨_, by rw [HW.out, World.drewN_drewN]⟩, fun j ha hb hj => ?_⟩
            by_cases e : j = k
            · subst e; exact HE.out
            · exact HALL.out j ha hb (by omega)
          case measure => simp [intOf]; omega
        · have h1 := low_ne he
          have HN := Lib.hid (same_at a b k hlt hlb he)
          clear he
          go_wp2_with fail
          go_quiet ((go_at_call 17; exact Calls.quiet_of_same (lowerByte_any _ _)))
          go_wp2
          go_ret
          exact ⟨by rw [HN.out]; rfl, _, by rw [HW.out, World.drewN_drewN]⟩
      · have HY := Lib.hid (same_yes a b HAB.out fun j ha hb => HALL.out j ha hb (by omega))
        go_wp2
        go_ret
        exact ⟨by rw [HY.out]; rfl, _, HW.out⟩
  · have hne : ((a.size : Int) != (b.size : Int)) = true := by rw [bne_iff_ne]; omega
    have HN := Lib.hid (same_no hab)
    clear hab
    go_enter Tryd.func8, Tryd.ntmps8
    go_wp2
    go_ret
    exact ⟨by rw [HN.out]; rfl, 0, rfl⟩
end Go.Proofs.YtjbdgndejbiikaaDoor.Tk
/-
  control.Parse: what it returns. Conditions: a text of at most 2^30 bytes; the table of token bytes.
-/
namespace Go.Proofs.YtjbdgndejbiikaaDoor.Ct
open Go.RowKit Go.Proofs.YtjbdgndejbiikaaDoor.Tk Go.Proofs.YtjbdgndejbiikaaDoor.Fd Go.Proofs.YtjbdgndejbiikaaDoor.Hd
set_option maxRecDepth 100000
set_option linter.unusedVariables false

/-- What Parse answers. -/
def parseVal (l : Bs) : Value := .tuple #[.agg (cells (parseOf l).1), .bool (parseOf l).2]
theorem parseVal_none {l : Bs} (h : splitOf l = none) : parseVal l = .tuple #[.agg (cells .broken), .bool false] := by unfold parseVal parseOf; rw [h]
theorem parseVal_some {l : Bs} {ls : List Bs} (h : splitOf l = some ls) : parseVal l = .tuple #[.agg (cells (ls.foldl elem .zero)), .bool true] := by unfold parseVal parseOf; rw [h]
def DirEnd (w : World) (r g M : Nat) (lv : Value) (ls : List Bs) (c : Con) (e : Ending) (w' : World) : Prop := e = .returned (.tuple #[]) ∧ St w r g M lv ls c w'
theorem idx_flag (c : Con) : ∀ k, k < 13 → ∀ i, kindOf k = .flag i → ∃ x, (cells c)[i]? = some x := by
  refine below13 ?_ ?_ ?_ ?_ ?_ ?_ ?_ ?_ ?_ ?_ ?_ ?_ ?_ <;> (intro i h; first | (injection h with h; subst h; exact ⟨_, rfl⟩) | cases h)
theorem idx_num (c : Con) : ∀ k, k < 13 → ∀ i b wr, kindOf k = .num i b wr → (cells c)[i]? = some (.int .i64 (numAt c i)) := by
  refine below13 ?_ ?_ ?_ ?_ ?_ ?_ ?_ ?_ ?_ ?_ ?_ ?_ ?_ <;> (intro i b wr h; first | (injection h with h; subst h; rfl) | cases h)

set_option maxRecDepth 100000 in
set_option maxHeartbeats 8000000 in
theorem parse_any (s : ByteArray) (w : World) (hs : s.size ≤ 1073741824) (hT : Tab w) :
    Calls Tryd.prog 27 #[.string s] w fun e w' => e = .returned (parseVal s.data.toList) ∧ Below w.heap.size w w' := by
  have HT := Lib.hid hT
  have hg := hT.lt
  clear hT
  go_enter Tryd.func27, Tryd.ntmps27
  go_wp2_with fail
  refine (silent_any _).mono ?_
  rintro e w1 ⟨rfl, hb1⟩
  have hN := new_block w1 (.cells (cells .zero) 33)
  have hR := old_block w1 (.cells (cells .zero) 33) (b := w.heap.size) (by have := hb1.size; simp at this; omega)
  have hB1 : Below w.heap.size w (w1.alloc (.cells (cells .zero) 33)) := Bl.next (Bl.next ((Below.refl _ _).alloc (Nat.le_refl _) _) hb1) ((Below.refl _ _).alloc (Nat.le_refl _) _)
  have hsz : w.heap.size < w1.heap.size := by have := hb1.size; simp at this; omega
  rw [show w1.heap[w.heap.size]? = some (.cells blank13 33 (0, 0)) from Bl.old hb1 (by simp) (new_block w _)] at hR
  obtain ⟨W1, hW1⟩ : ∃ W1, W1 = w1.alloc (.cells (cells .zero) 33) := ⟨_, rfl⟩
  have HW := Lib.hid (show w1.alloc (.cells #[.bool false, .bool false, .bool false, .bool false, .bool false, .bool false, .bool false, .int .i64 (-1), .int .i64 (-1), .int .i64 (-1), .int .i64 (-1), .int .i64 (-1), .int .i64 (-1)] 33) = W1 from hW1.symm)
  have hsW : W1.heap.size = w1.heap.size + 1 := by rw [hW1]; simp
  rw [← hW1] at hN hR hB1
  clear hW1 hb1
  go_wp2_with fail
  rw [HW.out]
  refine (split_any s W1 (by omega)).mono ?_
  rintro e w2 ⟨hb2, h2⟩
  rcases h2 with ⟨h2, rfl⟩ | ⟨ls, lv, h2, rfl, ho⟩
  · have HV := Lib.hid (parseVal_none h2)
    have hN2 : ConAt w2 w1.heap.size .zero := Bl.old hb2 (by omega) hN
    have hR2 := Bl.old hb2 (by omega) hR
    have HB2 := Lib.hid (Bl.next hB1 hb2)
    clear h2 hb2 hN hR hB1
    obtain ⟨a0, a1, a2, a3, a4, a5, a6, a7, a8, a9, a10, a11, a12⟩ := thirteen hN2
    obtain ⟨r0, r1, r2, r3, r4, r5, r6, r7, r8, r9, r10, r11, r12⟩ := blanks hR2
    have f0 := free hN2 0
    have f1 := free hN2 1
    have g0 := free hR2 0
    have g1 := free hR2 1
    have g2 := free hR2 2
    have g3 := free hR2 3
    have g4 := free hR2 4
    have g5 := free hR2 5
    have g6 := free hR2 6
    have g7 := free hR2 7
    have g8 := free hR2 8
    have g9 := free hR2 9
    have g10 := free hR2 10
    have g11 := free hR2 11
    have g12 := free hR2 12
    have HN2 := Lib.hid hN2
    have HR2 := Lib.hid hR2
    clear hN2 hR2
    go_wp2_with fail
    refine bodyPost_ret (results_pair rfl _ _ w.heap.size 33 _ (0, 0) _ rfl (set13_at (W := (w2.setCell ⟨w1.heap.size, 0, none⟩ (.bool true)).setCell ⟨w1.heap.size, 1, none⟩ (.bool true)) ?_ Con.broken) Tryd.underlying33 rfl infoCon) rfl ?_
    · exact put_far (put_far HR2.out (by show w.heap.size ≠ w1.heap.size; omega)) (by show w.heap.size ≠ w1.heap.size; omega)
    · refine ⟨by rw [HV.out]; rfl, ?_⟩
      exact set13_below ((HB2.out.setCell (p := ⟨w1.heap.size, 0, none⟩) (by show w.heap.size ≤ w1.heap.size; omega) _).setCell (p := ⟨w1.heap.size, 1, none⟩) (by show w.heap.size ≤ w1.heap.size; omega) _) (Nat.le_refl _) Con.broken
  · have HV := Lib.hid (parseVal_some h2)
    have HP := Lib.hid (split_piece h2)
    have hl := split_length h2
    have hsl : s.data.toList.length = s.size := by simp
    have hN2 : ConAt w2 w1.heap.size .zero := Bl.old hb2 (by omega) hN
    have hR2 := Bl.old hb2 (by omega) hR
    have HB2 := Lib.hid (Bl.next hB1 hb2)
    have hs2 := hb2.size
    have HN2 := Lib.hid hN2
    have HR2 := Lib.hid hR2
    have HO2 := Lib.hid (Fd.owns_mono ho (show w1.heap.size + 1 ≤ W1.heap.size by omega))
    clear h2 hb2 hN hR hB1 hN2 hR2 ho
    obtain ⟨a, cap, hlv, ha⟩ : ∃ a cap, lv = .slice a ls.length cap ∧ (0 < ls.length → ∃ b, a = some ⟨b, 0, none⟩) := by
      rcases HO2.out.2 with ⟨hv, h0⟩ | ⟨b, cap, cur, hv, _⟩
      · exact ⟨none, 0, by rw [hv, h0], fun h => by omega⟩
      · exact ⟨_, cap, hv, fun _ => ⟨b, rfl⟩⟩
    have HLV := Lib.hid hlv
    rw [hlv]
    clear hlv
    go_wp2_with fail
    refine (directives_any w1.heap.size w2 (by omega)).mono ?_
    rintro e w3 ⟨hb3, M, rfl, hM, hK⟩
    have hgM : w1.heap.size < M := by omega
    have HS := Lib.hid (show St w w.heap.size w1.heap.size M lv ls .zero w3 from ⟨Bl.next HB2.out hb3, Bl.old hb3 (by omega) HR2.out, Bl.old hb3 (by omega) HN2.out, hK, Fd.owns_kept HO2.out hb3⟩)
    clear hb3 hM hK HN2 HR2 HO2 HB2
    have HLT := Lib.hid HT
    go_wp2_with fail
    go_loopw [30] (fun i wr => ∃ k : Nat, k ≤ ls.length ∧ i = .int .i64 (k : Int) ∧ St w w.heap.size w1.heap.size M lv ls ((ls.take k).foldl elem .zero) wr) (fun i _ => ls.length - (intOf i).toNat)
    case atStart => exact ⟨0, Nat.zero_le _, rfl, HS.out⟩
    case round =>
      obtain ⟨k, hk, rfl, hSt⟩ := hrel
      have HSt := Lib.hid hSt
      clear hSt HS
      by_cases hlt2 : k < ls.length
      · obtain ⟨b, rfl⟩ := ha (by omega)
        have c1 := HSt.out.cell HLV.out k hlt2
        have hxl := HP.out ls[k] (List.getElem_mem hlt2)
        have HF := Lib.hid (foldl_next ls k hlt2)
        obtain ⟨x, hx⟩ : ∃ x : ByteArray, x = ⟨ls[k].toArray⟩ := ⟨_, rfl⟩
        have hxs : x.size ≤ 1073741824 := by rw [hx]; show ls[k].toArray.size ≤ _; rw [List.size_toArray]; omega
        have HX := Lib.hid (show x.data.toList = ls[k] from by rw [hx])
        rw [← hx] at c1
        have hwr := HSt.out.bel.size
        have HTr := Lib.hid (HT.out.below HSt.out.bel hg)
        cases hp : pairOf ls[k] with
        | none =>
          have HPV := Lib.hid (show pairVal x.data.toList = .tuple #[.string ⟨#[]⟩, .string ⟨#[]⟩, .bool false, .bool false] from by rw [HX.out]; exact pairVal_none hp)
          have HE := Lib.hid (elem_none (c := (ls.take k).foldl elem .zero) hp)
          clear hp hx hxl
          go_wp2_with fail
          refine (pair_any x _ (by omega) HTr.out).mono ?_
          rintro e w4 ⟨rfl, hb4⟩
          rw [HPV.out]
          have HS4 := Lib.hid (HSt.out.more hgM hb4)
          clear hb4 HSt c1
          go_wp2_with fail
          go_roundw
          case rel => exact ⟨k + 1, by omega, by go_num, by rw [HF.out, HE.out]; exact HS4.out⟩
          case measure => simp [intOf]; omega
        | some p =>
          obtain ⟨a, v⟩ := p
          obtain ⟨ha1, ha2⟩ := pair_sizes hp
          obtain ⟨A, hA⟩ : ∃ A : ByteArray, A = ⟨a.toArray⟩ := ⟨_, rfl⟩
          have hAs : A.size ≤ 1073741824 := by rw [hA]; show a.toArray.size ≤ _; rw [List.size_toArray]; omega
          have HA := Lib.hid (show A.data.toList = a from by rw [hA])
          obtain ⟨V, hV⟩ : ∃ V, V = valB v := ⟨_, rfl⟩
          have hVs : V.size ≤ 1073741824 := by rw [hV]; omega
          obtain ⟨hb, hhb⟩ : ∃ hb, hb = hasB v := ⟨_, rfl⟩
          have HPV := Lib.hid (show pairVal x.data.toList = .tuple #[.string A, .string V, .bool hb, .bool true] from by rw [HX.out, hA, hV, hhb]; exact pairVal_some hp)
          obtain ⟨L, hL⟩ : ∃ L : ByteArray, L = ⟨(lower A.data.toList).toArray⟩ := ⟨_, rfl⟩
          have hLs : L.size ≤ maxLen := by rw [hL]; show (lower A.data.toList).toArray.size ≤ _; rw [List.size_toArray, lower_length, HA.out]; unfold maxLen; omega
          have HL := Lib.hid hL
          have HLL := Lib.hid (show L.data.toList = lower a from by rw [hL, HA.out])
          obtain ⟨cc, hcc⟩ : ∃ cc, cc = (ls.take k).foldl elem .zero := ⟨_, rfl⟩
          have HE := Lib.hid (show (ls.take (k + 1)).foldl elem .zero = act cc (lower a) v from by rw [HF.out, elem_some hp, hcc])
          have HFI := Lib.hid (show Fine cc from by rw [hcc]; exact fine_all _ fine_zero)
          rw [← hcc] at HSt
          have HVV := Lib.hid (show V = valB v ∧ hb = hasB v from ⟨hV, hhb⟩)
          clear hp hx hxl ha1 ha2 hA hL hcc hV hhb HF
          go_wp2_with fail
          refine (pair_any x _ (by omega) HTr.out).mono ?_
          rintro e w4 ⟨rfl, hb4⟩
          rw [HPV.out]
          have HS4 := Lib.hid (HSt.out.more hgM hb4)
          clear hb4 HSt c1
          go_wp2_with fail
          refine (lower_any A _ (by unfold maxLen; omega)).mono ?_
          rintro e w5 ⟨rfl, hb5⟩
          rw [← HL.out]
          have HS5 := Lib.hid (HS4.out.more hgM hb5)
          clear hb5 HS4
          have hlook := HS5.out.kn.look L hLs
          rw [HLL.out] at hlook
          cases ht : table.lookup (lower a) with
          | none =>
            rw [ht] at hlook
            have hrun : (Instr.lookup 86 (.map (some M)) (.string L) true).run Tryd.prog w5 = .ok (.tuple #[.agg #[.nilFunc], .bool false]) w5 := hlook
            have HN := Lib.hid (act_none cc (lower a) v (table_none _ ht))
            clear hlook ht
            go_wp2_with fail
            go_roundw
            case rel => exact ⟨k + 1, by omega, by go_num, by rw [HE.out, HN.out]; exact HS5.out.more hgM ((Below.refl _ _).alloc (Nat.le_refl _) _)⟩
            case measure => simp [intOf]; omega
          | some kd =>
            rw [ht] at hlook
            obtain ⟨d, hrun, hd⟩ := hlook
            obtain ⟨k', hk', hnm, hkd⟩ := table_some _ _ ht
            have hE2 : cells (act cc (lower a) v) = setK cc kd V hb := by
              have h := act_kind cc HFI.out v k' hk'
              rw [← hnm, ← hkd, ← HVV.out.1, ← HVV.out.2] at h
              exact h
            obtain ⟨c', hc'⟩ : ∃ c', c' = act cc (lower a) v := ⟨_, rfl⟩
            rw [← hc'] at hE2 HE
            clear ht hnm HFI HVV hc'
            cases kd with
            | flag i =>
              obtain ⟨b2, rfl, hgb, hvb⟩ := hd
              obtain ⟨xv, hxv⟩ := idx_flag cc k' hk' i hkd.symm
              have hb6 : Below w5.heap.size w5 (w5.alloc (.cells #[.func (.func 67) #[] #[.pointer (some ⟨b2, 0, none⟩)]] 93)) := (Below.refl _ _).alloc (Nat.le_refl _) _
              have hS6 := HS5.out.more hgM hb6
              have HC := Lib.hid ((flag1_any w1.heap.size i b2 xv V hb _ (Bl.old hb6 (block_lt hvb) hvb) ((conAt_cell hS6.con i).trans hxv) (free hS6.con i)).mono (R' := DirEnd w w.heap.size w1.heap.size M lv ls c') fun e2 w' ⟨h1, h2⟩ => ⟨h1, hS6.put hgM (by omega) (by omega) h2 (h2.con hS6.con hE2.symm)⟩)
              clear hvb hxv hb6 hS6 hE2 hkd hk' hgb HS5
              go_wp2_with fail
              refine HC.out.mono ?_
              rintro e w7 ⟨rfl, hS7⟩
              have HS7 := Lib.hid hS7
              clear hS7
              go_wp2_with fail
              go_roundw
              case rel => exact ⟨k + 1, by omega, by go_num, by rw [HE.out]; exact HS7.out⟩
              case measure => simp [intOf]; omega
            | num i bare wrong =>
              obtain ⟨b0, b1, b2, rfl, g0, g1, g2, v0, v1, v2⟩ := hd
              have hxv := idx_num cc k' hk' i bare wrong hkd.symm
              have hb6 : Below w5.heap.size w5 (w5.alloc (.cells #[.func (.func 68) #[] #[.pointer (some ⟨b0, 0, none⟩), .pointer (some ⟨b1, 0, none⟩), .pointer (some ⟨b2, 0, none⟩)]] 93)) := (Below.refl _ _).alloc (Nat.le_refl _) _
              have hS6 := HS5.out.more hgM hb6
              have HC := Lib.hid ((number1_any w1.heap.size i b0 b1 b2 _ bare wrong V hb _ (by unfold maxLen; omega) (Bl.old hb6 (block_lt v0) v0) (Bl.old hb6 (block_lt v1) v1) (Bl.old hb6 (block_lt v2) v2) ((conAt_cell hS6.con i).trans hxv) (free hS6.con i)).mono (R' := DirEnd w w.heap.size w1.heap.size M lv ls c') fun e2 w' ⟨h1, h2⟩ => ⟨h1, hS6.put hgM (by omega) (by omega) h2 (h2.con hS6.con hE2.symm)⟩)
              clear v0 v1 v2 hxv hb6 hS6 hE2 hkd hk' g0 g1 g2 HS5
              go_wp2_with fail
              refine HC.out.mono ?_
              rintro e w7 ⟨rfl, hS7⟩
              have HS7 := Lib.hid hS7
              clear hS7
              go_wp2_with fail
              go_roundw
              case rel => exact ⟨k + 1, by omega, by go_num, by rw [HE.out]; exact HS7.out⟩
              case measure => simp [intOf]; omega
      · have HE := Lib.hid (show ls.take k = ls from List.take_of_length_le (by omega))
        have hS5 := HSt.out
        rw [HE.out] at hS5
        obtain ⟨a0, a1, a2, a3, a4, a5, a6, a7, a8, a9, a10, a11, a12⟩ := thirteen hS5.con
        obtain ⟨r0, r1, r2, r3, r4, r5, r6, r7, r8, r9, r10, r11, r12⟩ := blanks hS5.res
        have g0 := free hS5.res 0
        have g1 := free hS5.res 1
        have g2 := free hS5.res 2
        have g3 := free hS5.res 3
        have g4 := free hS5.res 4
        have g5 := free hS5.res 5
        have g6 := free hS5.res 6
        have g7 := free hS5.res 7
        have g8 := free hS5.res 8
        have g9 := free hS5.res 9
        have g10 := free hS5.res 10
        have g11 := free hS5.res 11
        have g12 := free hS5.res 12
        have HS5 := Lib.hid hS5
        obtain ⟨cc, hcc⟩ : ∃ cc, cc = ls.foldl elem .zero := ⟨_, rfl⟩
        rw [← hcc] at HV HS5 a0 a1 a2 a3 a4 a5 a6 a7 a8 a9 a10 a11 a12
        clear hcc hS5 HSt HE
        go_wp2_with fail
        refine bodyPost_ret (results_pair rfl _ _ w.heap.size 33 _ (0, 0) _ rfl (set13_at HS5.out.res cc) Tryd.underlying33 rfl infoCon) rfl ?_
        exact ⟨by rw [HV.out]; rfl, set13_below HS5.out.bel (Nat.le_refl _) cc⟩
end Go.Proofs.YtjbdgndejbiikaaDoor.Ct
/-
  slices.Index and slices.Contains of texts: what each returns. Condition: a list of a call's own, of at most 2^40 texts.
-/
namespace Go.Proofs.YtjbdgndejbiikaaDoor.Ct
open Go.RowKit Go.Proofs.YtjbdgndejbiikaaDoor.Tk Go.Proofs.YtjbdgndejbiikaaDoor.Fd Go.Proofs.YtjbdgndejbiikaaDoor.Hd
set_option maxRecDepth 100000
set_option linter.unusedVariables false

theorem any_take (ls : List Bs) (y : Bs) (k : Nat) (hk : k < ls.length) (h : (ls.take k).any (· == y) = false) (hx : (ls[k] == y) = false) : (ls.take (k + 1)).any (· == y) = false := by
  rw [List.take_succ_eq_append_getElem hk, List.any_append, h]; simp [hx]
theorem any_at (ls : List Bs) (y : Bs) (k : Nat) (hk : k < ls.length) (hx : (ls[k] == y) = true) : ls.any (· == y) = true := List.any_eq_true.2 ⟨_, List.getElem_mem hk, hx⟩

set_option maxHeartbeats 4000000 in
theorem index_any (v : Value) (ls : List Bs) (x : ByteArray) (w : World) (base : Nat) (h : w.ownsRow base 9 1 v ls.length (ls.map TS)) (hl : ls.length ≤ 1099511627776) :
    Calls Tryd.prog 48 #[v, .string x] w fun e w' => (∃ r : Int, e = .returned (.int .i64 r) ∧ (decide (0 ≤ r)) = ls.any (· == x.data.toList)) ∧ w = w' := by
  have HO := Lib.hid h
  obtain ⟨a, cap, hv, ha⟩ : ∃ a cap, v = .slice a ls.length cap ∧ (0 < ls.length → ∃ b, a = some ⟨b, 0, none⟩) := by
    rcases h.2 with ⟨hv, h0⟩ | ⟨b, cap, cur, hv, _⟩
    · exact ⟨none, 0, by rw [hv, h0], fun h => by omega⟩
    · exact ⟨_, cap, hv, fun _ => ⟨b, rfl⟩⟩
  subst hv
  clear h
  go_enter Tryd.func48, Tryd.ntmps48
  go_wp2_with fail
  go_loopw [8] (fun i wr => ∃ k : Nat, k ≤ ls.length ∧ i = .int .i64 (k : Int) ∧ (ls.take k).any (· == x.data.toList) = false ∧ w = wr) (fun i _ => ls.length - (intOf i).toNat)
  case atStart => exact ⟨0, Nat.zero_le _, rfl, rfl, rfl⟩
  case round =>
    obtain ⟨k, hk, rfl, hal, rfl⟩ := hrel
    have HAL := Lib.hid hal
    clear hal
    by_cases hlt2 : k < ls.length
    · obtain ⟨b, rfl⟩ := ha (by omega)
      have c1 : w.cell? ⟨b, k, none⟩ = some (.string ⟨ls[k].toArray⟩) := by
        rw [HO.out.cellAt k (by omega), List.getElem?_map, List.getElem?_eq_getElem hlt2]; rfl
      obtain ⟨T, hT⟩ : ∃ T : ByteArray, T = ⟨ls[k].toArray⟩ := ⟨_, rfl⟩
      have hTl : T.data.toList = ls[k] := by rw [hT]
      rw [← hT] at c1
      cases hq : (ls[k] == x.data.toList) with
      | true =>
        have e1 : (x.toList == T.toList) = true := by
          rw [ByteArray.toList_eq, ByteArray.toList_eq, hTl, (beq_iff_eq.1 hq)]; simp
        have HA := Lib.hid (any_at ls x.data.toList k hlt2 hq)
        clear hq hT hTl
        go_wp2_with fail
        go_ret
        exact ⟨⟨k, rfl, by rw [HA.out]; simp⟩, rfl⟩
      | false =>
        have e1 : (x.toList == T.toList) = false := by
          rw [ByteArray.toList_eq, ByteArray.toList_eq, hTl]
          have := beq_eq_false_iff_ne.1 hq
          exact beq_eq_false_iff_ne.2 (fun e => this e.symm)
        have HA := Lib.hid (any_take ls x.data.toList k hlt2 HAL.out hq)
        clear hq hT hTl
        go_wp2_with fail
        go_roundw
        case rel => exact ⟨k + 1, by omega, by go_num, HA.out, trivial⟩
        case measure => simp [intOf]; omega
    · have hA := HAL.out
      rw [List.take_of_length_le (by omega)] at hA
      have HA := Lib.hid hA
      clear hA HAL
      go_wp2_with fail
      go_ret
      exact ⟨⟨-1, rfl, by rw [HA.out]; rfl⟩, rfl⟩
set_option maxHeartbeats 4000000 in
theorem contains_any (v : Value) (ls : List Bs) (x : ByteArray) (w : World) (base : Nat) (h : w.ownsRow base 9 1 v ls.length (ls.map TS)) (hl : ls.length ≤ 1099511627776) :
    Calls Tryd.prog 30 #[v, .string x] w fun e w' => e = .returned (.bool (ls.any (· == x.data.toList))) ∧ w = w' := by
  have HC := Lib.hid (index_any v ls x w base h hl)
  clear h
  go_enter Tryd.func30, Tryd.ntmps30
  go_wp2_with fail
  refine HC.out.mono ?_
  rintro e w1 ⟨⟨r, rfl, hr⟩, rfl⟩
  have HR := Lib.hid hr
  clear hr
  go_wp2_with fail
  go_ret
  exact ⟨by rw [← HR.out]; rfl, rfl⟩
end Go.Proofs.YtjbdgndejbiikaaDoor.Ct
