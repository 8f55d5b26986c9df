/-
  Texts that the law's proof stands on, 4 of them in one file; each one's head says what it proves and under which condition.
-/
import Derived.Test.YtoofdompafkddaaDoorHeadFieldsP1
import Derived.Laws.Strings
import Derived.Test.YtoofdompafkddaaDoorRows
import Derived.WalkKit
import Derived.WalkLawsBesides
import Derived.Outline
import Derived.Lib.Hide
import Derived.Test.YtoofdompafkddaaDoorCards
import Derived.Test.YtoofdompafkddaaDoorTie
import Derived.Lib.LaidTab
import Derived.Lib.ItoaNum
import Derived.ProofKit
import Derived.OpenShut
import Derived.ShutString
import Derived.Deep.DeepHandedRow
import Derived.Below
import Derived.Lib.Builder
import Derived.Laws.ResultCell
import Derived.Laws.Rows
import Derived.Maps.AppendAt
/-
  Which bytes may stand in a token and in a value; tokens and values: plain functions. No program, no condition.
-/
namespace Go.Proofs.YtoofdompafkddaaDoor.Tk

/-- May a byte stand in a token? -/
def tchar (c : UInt8) : Bool :=
  (97 ≤ c.toNat && c.toNat ≤ 122) || (65 ≤ c.toNat && c.toNat ≤ 90) || (48 ≤ c.toNat && c.toNat ≤ 57) ||
  [33, 35, 36, 37, 38, 39, 42, 43, 45, 46, 94, 95, 96, 124, 126].contains c.toNat
/-- May a byte stand in a quoted text? -/
def textByte (c : UInt8) : Bool := c.toNat == 9 || (32 ≤ c.toNat && c.toNat != 127)
def isTok (l : Bs) : Bool := !l.isEmpty && l.all tchar
def isVal (l : Bs) : Bool := l.all textByte && (l.isEmpty || (!blank (l.headD 0) && !blank (l.getLastD 0)))

theorem take_snoc (s : ByteArray) (k : Nat) (h : k < s.size) : s.data.toList.take (k + 1) = s.data.toList.take k ++ [s[k]] := by
  rw [List.take_succ_eq_append_getElem (by simpa using h)]; rfl
theorem all_snoc (p : UInt8 → Bool) (s : ByteArray) (k : Nat) (h : k < s.size) : (s.data.toList.take (k + 1)).all p = ((s.data.toList.take k).all p && p s[k]) := by
  rw [take_snoc s k h, List.all_append]; simp
theorem not_all (p : UInt8 → Bool) (s : ByteArray) (k : Nat) (h : k < s.size) (hd : p s[k] = false) : s.data.toList.all p = false := by
  rw [List.all_eq_false]
  exact ⟨s[k], by show s.data[k] ∈ _; simp, by simp [hd]⟩
theorem all_of_take {p : UInt8 → Bool} {s : ByteArray} (h : (s.data.toList.take s.size).all p = true) : s.data.toList.all p = true := by
  rwa [List.take_of_length_le (by simp)] at h
theorem nil_of_size {s : ByteArray} (h : s.size = 0) : s.data.toList = [] := by
  rw [← List.length_eq_zero_iff]; simpa using h
theorem cons_of_size {s : ByteArray} (h : 0 < s.size) : s.data.toList.isEmpty = false := by
  cases hl : s.data.toList with
  | nil => have h1 : s.data.toList.length = 0 := by rw [hl]; rfl
           rw [Array.length_toList] at h1
           have h2 : s.size = s.data.size := rfl
           omega
  | cons => rfl
theorem text_empty {s : ByteArray} (h : s.size = 0) : s.toList = [] := by rw [ByteArray.toList_eq]; exact nil_of_size h
theorem text_full {s : ByteArray} (h : 0 < s.size) : s.toList.isEmpty = false := by rw [ByteArray.toList_eq]; exact cons_of_size h
theorem isTok_nil {s : ByteArray} (h : s.size = 0) : isTok s.data.toList = false := by rw [nil_of_size h]; rfl
theorem isTok_no (s : ByteArray) (k : Nat) (h : k < s.size) (hd : tchar s[k] = false) : isTok s.data.toList = false := by
  unfold isTok; rw [not_all tchar s k h hd]; simp
theorem isTok_yes {s : ByteArray} (h : 0 < s.size) (ha : (s.data.toList.take s.size).all tchar = true) : isTok s.data.toList = true := by
  unfold isTok; rw [cons_of_size h, all_of_take ha]; rfl

theorem head_eq {s : ByteArray} (h : 0 < s.size) : s.data.toList.headD 0 = s[0] := by
  have : s.data.toList[0]? = some s[0] := by rw [List.getElem?_eq_getElem (by simpa using h)]; rfl
  rw [List.headD_eq_head?_getD, List.head?_eq_getElem?, this]; rfl
theorem last_eq {s : ByteArray} (h : 0 < s.size) : s.data.toList.getLastD 0 = s[s.size - 1] := by
  have hl : s.data.toList.length = s.size := by simp
  have : s.data.toList[s.size - 1]? = some s[s.size - 1] := by rw [List.getElem?_eq_getElem (by omega)]; rfl
  rw [List.getLastD_eq_getLast?, List.getLast?_eq_getElem?, hl, this]; rfl
theorem isVal_nil {s : ByteArray} (h : s.size = 0) : isVal s.data.toList = true := by rw [nil_of_size h]; rfl
theorem isVal_no (s : ByteArray) (k : Nat) (h : k < s.size) (hd : textByte s[k] = false) : isVal s.data.toList = false := by
  unfold isVal; rw [not_all textByte s k h hd]; rfl
theorem isVal_all {s : ByteArray} (h : 0 < s.size) (ha : (s.data.toList.take s.size).all textByte = true) : isVal s.data.toList = (!blank s[0] && !blank s[s.size - 1]) := by
  unfold isVal; rw [cons_of_size h, all_of_take ha, head_eq h, last_eq h]; rfl

theorem text_yes {c : UInt8} (h : textByte c = true) : (c.toNat : Int) = 9 ∨ (32 ≤ (c.toNat : Int) ∧ (c.toNat : Int) ≠ 127) := by
  simp [textByte] at h; omega
theorem text_no {c : UInt8} (h : textByte c = false) : (c.toNat : Int) ≠ 9 ∧ ((c.toNat : Int) < 32 ∨ (c.toNat : Int) = 127) := by
  simp [textByte] at h; omega
/-- As the reference's Value asks it. -/
theorem text_ref (c : UInt8) : textByte c = (blank c || (33 ≤ c.toNat && c.toNat != 127)) := by
  have h : ∀ n : Nat, n < 256 → textByte (UInt8.ofNat n) = (blank (UInt8.ofNat n) || (33 ≤ (UInt8.ofNat n).toNat && (UInt8.ofNat n).toNat != 127)) := by decide +kernel
  have := h c.toNat c.toNat_lt
  rwa [UInt8.ofNat_toNat] at this
theorem tchar_cases (c : UInt8) : (97 ≤ c.toNat ∧ c.toNat ≤ 122) ∨ (65 ≤ c.toNat ∧ c.toNat ≤ 90) ∨ (48 ≤ c.toNat ∧ c.toNat ≤ 57) ∨ c.toNat ∈ [33, 35, 36, 37, 38, 39, 42, 43, 45, 46, 94, 95, 96, 124, 126] ∨ tchar c = false := by
  cases h : tchar c with
  | false => simp
  | true => simp [tchar] at h; simp; omega
theorem tchar_true {c : UInt8} (h : (97 ≤ c.toNat ∧ c.toNat ≤ 122) ∨ (65 ≤ c.toNat ∧ c.toNat ≤ 90) ∨ (48 ≤ c.toNat ∧ c.toNat ≤ 57) ∨ c.toNat ∈ [33, 35, 36, 37, 38, 39, 42, 43, 45, 46, 94, 95, 96, 124, 126]) : tchar c = true := by
  simp at h; simp [tchar]; omega
end Go.Proofs.YtoofdompafkddaaDoor.Tk
/-
  token.Is, token.textByte, token.Value and their references gatepostref01.tchar, Is, Value: what each returns. Condition: the table of token bytes holds what the program's text lays.
-/
namespace Go.Proofs.YtoofdompafkddaaDoor.Tk
open Go.RowKit

/-- The table's cells, as its initialiser lays them. -/
def Tab (w : World) : Prop := ∀ n : Nat, n < 128 → w.cell? ⟨0, n, none⟩ = some (.bool (tchar (UInt8.ofNat n)))
theorem Tab.byte {w : World} (h : Tab w) (c : UInt8) (hc : c.toNat < 128) : w.cell? ⟨0, c.toNat, none⟩ = some (.bool (tchar c)) := by
  have := h c.toNat hc
  rwa [UInt8.ofNat_toNat] at this
theorem Tab.lt {w : World} (h : Tab w) : 0 < w.heap.size := World.block_lt_of_cell? w _ (h 0 (by omega))
theorem Tab.below {B : Nat} {w w' : World} (h : Tab w) (hb : Below B w w') (hB : 0 < B) : Tab w' := fun n hn => (hb.cell (p := ⟨0, n, none⟩) hB).trans (h n hn)
theorem tchar_great (c : UInt8) (h : ¬ c.toNat < 128) : tchar c = false := by
  cases hc : tchar c with
  | false => rfl
  | true => simp [tchar] at hc; omega

set_option maxHeartbeats 1000000 in
theorem is_any (s : ByteArray) (w : World) (hs : s.size ≤ maxLen) (hT : Tab w) :
    Calls Tryd.prog 90 #[.string s] w fun e w' => e = .returned (.bool (isTok s.data.toList)) ∧ w = w' := by
  unfold maxLen at hs
  have HT := Lib.hid hT
  clear hT
  go_enter Tryd.func90, Tryd.ntmps90
  go_wp2_with fail
  go_loop [6] (fun i => ∃ k : Nat, k ≤ s.size ∧ i = .int .i64 (k : Int) ∧ (s.data.toList.take k).all tchar = true) (fun i => s.size - (intOf i).toNat)
  case atStart => exact ⟨0, Nat.zero_le _, rfl, rfl⟩
  case round =>
    obtain ⟨k, hk, rfl, hal⟩ := hrel
    have HAL := Lib.hid hal
    clear hal
    by_cases hlt : k < s.size
    · by_cases h128 : s[k].toNat < 128
      · have hcell := HT.out.byte s[k] h128
        have h128' : ¬ (128 : Int) ≤ (s[k].toNat : Int) := by omega
        cases ht : tchar s[k] with
        | true =>
          have HA := Lib.hid (show (s.data.toList.take (k + 1)).all tchar = true from by rw [all_snoc tchar s k hlt, HAL.out, ht]; rfl)
          rw [ht] at hcell
          clear ht
          go_wp2_with fail
          go_round
          case rel => exact ⟨k + 1, by omega, by go_num, HA.out⟩
          case measure => simp [intOf]; omega
        | false =>
          have HN := Lib.hid (isTok_no s k hlt ht)
          rw [ht] at hcell
          clear ht
          go_wp2_with fail
          go_ret
          exact ⟨by rw [HN.out]; rfl, rfl⟩
      · have HN := Lib.hid (isTok_no s k hlt (tchar_great _ h128))
        have h128' : (128 : Int) ≤ (s[k].toNat : Int) := by omega
        clear h128
        go_wp2_with fail
        go_ret
        exact ⟨by rw [HN.out]; rfl, rfl⟩
    · by_cases h0 : s.size = 0
      · have he := text_empty h0
        have HN := Lib.hid (isTok_nil h0)
        clear h0
        go_wp2_with fail
        go_ret
        exact ⟨by rw [HN.out]; rfl, rfl⟩
      · obtain rfl : k = s.size := by omega
        have he := text_full (s := s) (by omega)
        have HY := Lib.hid (isTok_yes (by omega) HAL.out)
        clear h0
        go_wp2_with fail
        go_ret
        exact ⟨by rw [HY.out]; rfl, rfl⟩

set_option maxHeartbeats 4000000 in
theorem tchar_rest (c : UInt8) (w : World) (h1 : ¬ (97 ≤ c.toNat ∧ c.toNat ≤ 122)) (h2 : ¬ (65 ≤ c.toNat ∧ c.toNat ≤ 90)) (h3 : ¬ (48 ≤ c.toNat ∧ c.toNat ≤ 57)) :
    Calls Tryd.prog 131 #[.int .u8 (c.toNat : Int)] w fun e w' => e = .returned (.bool (tchar c)) ∧ w = w' := by
  by_cases h4 : c.toNat ∈ [33, 35, 36, 37, 38, 39, 42, 43, 45, 46, 94, 95, 96, 124, 126]
  · have HT := Lib.hid (tchar_true (.inr (.inr (.inr h4))))
    have h5 : (c.toNat : Int) = 33 ∨ (c.toNat : Int) = 35 ∨ (c.toNat : Int) = 36 ∨ (c.toNat : Int) = 37 ∨ (c.toNat : Int) = 38 ∨ (c.toNat : Int) = 39 ∨ (c.toNat : Int) = 42 ∨ (c.toNat : Int) = 43 ∨ (c.toNat : Int) = 45 ∨ (c.toNat : Int) = 46 ∨ (c.toNat : Int) = 94 ∨ (c.toNat : Int) = 95 ∨ (c.toNat : Int) = 96 ∨ (c.toNat : Int) = 124 ∨ (c.toNat : Int) = 126 := by simp at h4; omega
    clear h1 h2 h3 h4
    rcases h5 with e | e | e | e | e | e | e | e | e | e | e | e | e | e | e
    all_goals
      go_enter Tryd.func131, Tryd.ntmps131
      go_wp2_with fail
      go_ret
      exact ⟨by rw [HT.out]; rfl, rfl⟩
  · have HT := Lib.hid (show tchar c = false from by
      rcases tchar_cases c with h | h | h | h | h
      · exact absurd h h1
      · exact absurd h h2
      · exact absurd h h3
      · exact absurd h h4
      · exact h)
    have n33 : ((c.toNat : Int) == 33) = false := beq_eq_false_iff_ne.2 (by intro e; apply h4; simp; omega)
    have n35 : ((c.toNat : Int) == 35) = false := beq_eq_false_iff_ne.2 (by intro e; apply h4; simp; omega)
    have n36 : ((c.toNat : Int) == 36) = false := beq_eq_false_iff_ne.2 (by intro e; apply h4; simp; omega)
    have n37 : ((c.toNat : Int) == 37) = false := beq_eq_false_iff_ne.2 (by intro e; apply h4; simp; omega)
    have n38 : ((c.toNat : Int) == 38) = false := beq_eq_false_iff_ne.2 (by intro e; apply h4; simp; omega)
    have n39 : ((c.toNat : Int) == 39) = false := beq_eq_false_iff_ne.2 (by intro e; apply h4; simp; omega)
    have n42 : ((c.toNat : Int) == 42) = false := beq_eq_false_iff_ne.2 (by intro e; apply h4; simp; omega)
    have n43 : ((c.toNat : Int) == 43) = false := beq_eq_false_iff_ne.2 (by intro e; apply h4; simp; omega)
    have n45 : ((c.toNat : Int) == 45) = false := beq_eq_false_iff_ne.2 (by intro e; apply h4; simp; omega)
    have n46 : ((c.toNat : Int) == 46) = false := beq_eq_false_iff_ne.2 (by intro e; apply h4; simp; omega)
    have n94 : ((c.toNat : Int) == 94) = false := beq_eq_false_iff_ne.2 (by intro e; apply h4; simp; omega)
    have n95 : ((c.toNat : Int) == 95) = false := beq_eq_false_iff_ne.2 (by intro e; apply h4; simp; omega)
    have n96 : ((c.toNat : Int) == 96) = false := beq_eq_false_iff_ne.2 (by intro e; apply h4; simp; omega)
    have n124 : ((c.toNat : Int) == 124) = false := beq_eq_false_iff_ne.2 (by intro e; apply h4; simp; omega)
    have n126 : ((c.toNat : Int) == 126) = false := beq_eq_false_iff_ne.2 (by intro e; apply h4; simp; omega)
    have hr : (c.toNat : Int) < 48 ∨ (58 ≤ (c.toNat : Int) ∧ (c.toNat : Int) ≤ 64) ∨ (91 ≤ (c.toNat : Int) ∧ (c.toNat : Int) ≤ 96) ∨ 123 ≤ (c.toNat : Int) := by omega
    clear h1 h2 h3 h4
    rcases hr with hr | ⟨hr, hr2⟩ | ⟨hr, hr2⟩ | hr
    all_goals
      go_enter Tryd.func131, Tryd.ntmps131
      go_wp2_with fail
      go_ret
      exact ⟨by rw [HT.out]; rfl, rfl⟩

set_option maxHeartbeats 2000000 in
theorem tchar_any (c : UInt8) (w : World) :
    Calls Tryd.prog 131 #[.int .u8 (c.toNat : Int)] w fun e w' => e = .returned (.bool (tchar c)) ∧ w = w' := by
  by_cases h1 : 97 ≤ c.toNat ∧ c.toNat ≤ 122
  · have HT := Lib.hid (tchar_true (.inl h1))
    have a1 : (97 : Int) ≤ (c.toNat : Int) := by omega
    have a2 : (c.toNat : Int) ≤ 122 := by omega
    clear h1
    go_enter Tryd.func131, Tryd.ntmps131
    go_wp2_with fail
    go_ret
    exact ⟨by rw [HT.out]; rfl, rfl⟩
  · by_cases h2 : 65 ≤ c.toNat ∧ c.toNat ≤ 90
    · have HT := Lib.hid (tchar_true (.inr (.inl h2)))
      have a1 : (65 : Int) ≤ (c.toNat : Int) := by omega
      have a2 : (c.toNat : Int) ≤ 90 := by omega
      clear h1 h2
      go_enter Tryd.func131, Tryd.ntmps131
      go_wp2_with fail
      go_ret
      exact ⟨by rw [HT.out]; rfl, rfl⟩
    · by_cases h3 : 48 ≤ c.toNat ∧ c.toNat ≤ 57
      · have HT := Lib.hid (tchar_true (.inr (.inr (.inl h3))))
        have a1 : (48 : Int) ≤ (c.toNat : Int) := by omega
        have a2 : (c.toNat : Int) ≤ 57 := by omega
        clear h1 h2 h3
        go_enter Tryd.func131, Tryd.ntmps131
        go_wp2_with fail
        go_ret
        exact ⟨by rw [HT.out]; rfl, rfl⟩
      · exact tchar_rest c w h1 h2 h3

set_option maxHeartbeats 1000000 in
theorem refIs_any (s : ByteArray) (w : World) (hs : s.size ≤ maxLen) :
    Calls Tryd.prog 104 #[.string s] w fun e w' => e = .returned (.bool (isTok s.data.toList)) ∧ w = w' := by
  unfold maxLen at hs
  go_enter Tryd.func104, Tryd.ntmps104
  go_wp2_with fail
  go_loop [3] (fun i => ∃ k : Nat, k ≤ s.size ∧ i = .int .i64 (k : Int) ∧ (s.data.toList.take k).all tchar = true) (fun i => s.size - (intOf i).toNat)
  case atStart => exact ⟨0, Nat.zero_le _, rfl, rfl⟩
  case round =>
    obtain ⟨k, hk, rfl, hal⟩ := hrel
    have HAL := Lib.hid hal
    clear hal
    by_cases hlt : k < s.size
    · cases ht : tchar s[k] with
      | true =>
        have HA := Lib.hid (show (s.data.toList.take (k + 1)).all tchar = true from by rw [all_snoc tchar s k hlt, HAL.out, ht]; rfl)
        have HT := Lib.hid ht
        clear ht
        go_wp2_with (go_at_call 131; refine (tchar_any _ _).mono ?_; rintro e w' ⟨rfl, rfl⟩; rw [HT.out])
        go_round
        case rel => exact ⟨k + 1, by omega, by go_num, HA.out⟩
        case measure => simp [intOf]; omega
      | false =>
        have HN := Lib.hid (isTok_no s k hlt ht)
        have HT := Lib.hid ht
        clear ht
        go_wp2_with (go_at_call 131; refine (tchar_any _ _).mono ?_; rintro e w' ⟨rfl, rfl⟩; rw [HT.out])
        go_ret
        exact ⟨by rw [HN.out]; rfl, rfl⟩
    · by_cases h0 : s.size = 0
      · have HN := Lib.hid (isTok_nil h0)
        have hd : decide (0 < s.size) = false := by rw [decide_eq_false_iff_not]; omega
        clear h0
        go_wp2_with fail
        go_ret
        exact ⟨by rw [HN.out]; rfl, rfl⟩
      · obtain rfl : k = s.size := by omega
        have HY := Lib.hid (isTok_yes (by omega) HAL.out)
        have hd : decide (0 < s.size) = true := by rw [decide_eq_true_iff]; omega
        clear h0
        go_wp2_with fail
        go_ret
        exact ⟨by rw [HY.out]; rfl, rfl⟩

theorem textByte_any (c : UInt8) (w : World) :
    Calls Tryd.prog 159 #[.int .u8 (c.toNat : Int)] w fun e w' => e = .returned (.bool (textByte c)) ∧ w = w' := by
  cases ht : textByte c with
  | true =>
    rcases text_yes ht with h | ⟨h1, h2⟩
    · have t1 : ((c.toNat : Int) == 9) = true := beq_iff_eq.2 h
      clear ht h
      go_enter Tryd.func159, Tryd.ntmps159
      go_wp2_with fail
      go_ret
      exact ⟨rfl, rfl⟩
    · have t1 : ((c.toNat : Int) == 9) = false := beq_eq_false_iff_ne.2 (by omega)
      have t2 : ((c.toNat : Int) != 127) = true := by rw [bne_iff_ne]; exact h2
      clear ht h2
      go_enter Tryd.func159, Tryd.ntmps159
      go_wp2_with fail
      go_ret
      exact ⟨rfl, rfl⟩
  | false =>
    obtain ⟨h1, h2⟩ := text_no ht
    have t1 : ((c.toNat : Int) == 9) = false := beq_eq_false_iff_ne.2 h1
    rcases h2 with h | h
    · clear ht h1
      go_enter Tryd.func159, Tryd.ntmps159
      go_wp2_with fail
      go_ret
      exact ⟨rfl, rfl⟩
    · have t2 : ((c.toNat : Int) != 127) = false := by rw [h]; rfl
      have t3 : (32 : Int) ≤ (c.toNat : Int) := by omega
      clear ht h1 h
      go_enter Tryd.func159, Tryd.ntmps159
      go_wp2_with fail
      go_ret
      exact ⟨rfl, rfl⟩
end Go.Proofs.YtoofdompafkddaaDoor.Tk
/-
  What the rows' lists give of the listed variables, and a world that holds them. No condition.
-/
namespace Go.Proofs.YtoofdompafkddaaDoor.Tb
open Go.ChangeShapes Go.WideShapes Go.ChangeAt Go.RowKit

theorem own : ownKnob Tryd.prog.godebug = none := by kernel_rfl
theorem laidOut : laidOutB Tryd.prog = true := by kernel_rfl
/-- A list's part behind its head. -/
theorem tail {P : Program} {x : String × DataW Unit} {r : List (String × DataW Unit)} {w : World} (h : laidMet P (x :: r) w) : laidMet P r w := by
  obtain ⟨ps, ⟨g, t, cs, fuel, p, q, hg, ht, hv, hd, hr, rfl⟩, hn, hall⟩ := h
  exact ⟨q, hr, (List.nodup_append.1 hn).2.1, fun b off hb => hall b off (List.mem_append_right _ hb)⟩

theorem gPT : Tryd.prog.globalNamed "internal/strconv.uint64pow10" = some 2 := by kernel_rfl
theorem gPTt : (Tryd.prog.globals[2]?).map (·.type) = some 178 := by kernel_rfl
theorem cU64 : Tryd.prog.cellsOf 159 = 1 := by kernel_rfl
theorem cPT : Tryd.prog.cellsOf 178 = 20 := by kernel_rfl
abbrev P10 (w : World) : Prop := Lib.TabIs Tryd.prog w "internal/strconv.uint64pow10" .u64 Lib.pow10Tab
theorem pow_eq : (Rows.laid_internal_strconv_uint64pow10 : DataW Unit) = Lib.tabData .u64 Lib.pow10Tab := by kernel_rfl
theorem p10_of_head {W : World} {rest : List (String × DataW Unit)} (h : laidMet Tryd.prog (("internal/strconv.uint64pow10", Rows.laid_internal_strconv_uint64pow10) :: rest) W) : P10 W := by
  rw [pow_eq] at h
  exact Lib.tabIs_of_head gPT gPTt Tryd.underlying178 Tryd.underlying159 cU64 cPT h

theorem gTab : Tryd.prog.globalNamed "gatepost/token.tokenByte" = some 0 := by kernel_rfl
theorem gTabType : (Tryd.prog.globals[0]?).map (·.type) = some 164 := by kernel_rfl
theorem cellsBool : Tryd.prog.cellsOf 4 = 1 := by kernel_rfl
/-- The table of token bytes: of each byte whether it may stand in a token. -/
def tabBools : List Bool := (List.range 128).map fun n => Tk.tchar (UInt8.ofNat n)
theorem tab_at (n : Nat) (hn : n < 128) : tabBools[n]? = some (Tk.tchar (UInt8.ofNat n)) := by simp [tabBools, hn]
theorem tab_eq : (Rows.laid_gatepost_token_tokenByte : DataW Unit) = .agg (tabBools.map fun b => .lit (.bool b)) := by kernel_rfl
theorem tok_of_head {W : World} {rest : List (String × DataW Unit)} (h : laidMet Tryd.prog (("gatepost/token.tokenByte", Rows.laid_gatepost_token_tokenByte) :: rest) W) : Tk.Tab W := by
  obtain ⟨ps, ⟨g', t', cs, fuel, p, q, hg', ht', hvar, hd, _, _⟩, _⟩ := h
  obtain rfl := Option.some.inj (gTab.symm.trans hg')
  obtain rfl := Option.some.inj (gTabType.symm.trans ht')
  obtain ⟨xs, m, _, hx, _, hxl, hat⟩ := DataW.trod_array Tryd.underlying164 hd
  intro n hn
  have h1 := hat n hn
  rw [cellsBool, Nat.mul_one, List.getElem?_eq_getElem (by omega)] at h1
  obtain ⟨b, hcs, hxb⟩ := DataW.trod_bool Tryd.underlying4 h1
  have hdat : (DataW.agg (tabBools.map fun b => .lit (.bool b)) : DataW Unit) = .agg (xs.map (·.1)) := tab_eq.symm.trans (congrArg Prod.fst hx)
  have hlist : (tabBools.map fun b => (DataW.lit (.bool b) : DataW Unit)) = xs.map (·.1) := by injection hdat
  have h2 : (tabBools.map fun b => (DataW.lit (.bool b) : DataW Unit))[n]? = some (.lit (.bool b)) := by
    rw [hlist, List.getElem?_map, List.getElem?_eq_getElem (by omega), Option.map_some, hxb]
  rw [List.getElem?_map, tab_at n hn, Option.map_some] at h2
  have hb : Tk.tchar (UInt8.ofNat n) = b := by
    injection h2 with h2; injection h2 with h2; injection h2
  rw [World.var?_cell gTab hvar n, hb]
  have h3 : (cs.toList.drop n).take 1 = [.bool b] := hcs
  have h4 : ((cs.toList.drop n).take 1)[0]? = some (.bool b) := by rw [h3]; rfl
  simpa [List.getElem?_take, List.getElem?_drop] using h4

/-- The settled world, each listed variable's block holding what its initialiser lays. -/
def litCell : DataW Unit → List Value
  | .lit (.int k z) => [Value.int k z]
  | .lit (.bool b) => [Value.bool b]
  | .lit (.string b) => [Value.string ⟨b.toArray⟩]
  | _ => [undef]
def dataCells (d : DataW Unit) : Array Value := match d with
  | .agg ds => (ds.flatMap fun
    | .agg es => es.flatMap litCell
    | x => litCell x).toArray
  | _ => #[]
def lay (g : Nat) (cs : Array Value) (h : Array Obj) : Array Obj := h.modify g fun
  | .cells _ t frozen => .cells cs t frozen
  | o => o
noncomputable def laidWorld (os : Os) : World :=
  { World.holding Tryd.prog os ⟨#[], #[], []⟩ with heap := lay 3 (dataCells Rows.laid_math_bits_deBruijn32tab) (lay 4 (dataCells Rows.laid_math_bits_deBruijn64tab) (lay 2 (dataCells Rows.laid_internal_strconv_uint64pow10) (lay 0 (dataCells Rows.laid_gatepost_token_tokenByte) (lay 8 (dataCells Rows.laid_unicode_utf8_acceptRanges) (lay 7 (dataCells Rows.laid_unicode_utf8_first) ((World.holding Tryd.prog os ⟨#[], #[], []⟩).heap)))))) }
end Go.Proofs.YtoofdompafkddaaDoor.Tb
/-
  Small lemmas on worlds: blocks of two cells, what a call that makes memory leaves. No condition.
-/
namespace Go.Proofs.YtoofdompafkddaaDoor.Fd
open Go.RowKit

theorem Bl.drewN {B : Nat} {a w : World} (h : Below B a w) (n : Nat) : Below B a (w.drewN n) := ⟨h.os, h.tape, h.output, h.size, h.block⟩
theorem Bl.drewN' {B : Nat} {a w w' : World} {n : Nat} (h : Below B a w) (e : w' = w.drewN n) : Below B a w' := by subst e; exact Bl.drewN h n
/-- A call on top of another: what was made since is kept, too. -/
theorem Bl.next {a w w' : World} (h : Below a.heap.size a w) (k : Below w.heap.size w w') : Below a.heap.size a w' := h.trans (k.mono h.size)
theorem Bl.old {B : Nat} {w w' : World} (h : Below B w w') {b : Nat} (hb : b < B) {x : Option Obj} (e : w.heap[b]? = x) : w'.heap[b]? = x := (h.block b hb).trans e
theorem new_block (w : World) (o : Obj) : (w.alloc o).heap[w.heap.size]? = some o := by show (w.heap.push o)[w.heap.size]? = _; simp
theorem new_block' (w : World) (o : Obj) {g : Nat} (h : g = w.heap.size) : (w.alloc o).heap[g]? = some o := by subst h; exact new_block w o
theorem old_block (w : World) (o : Obj) {b : Nat} (h : b < w.heap.size) : (w.alloc o).heap[b]? = w.heap[b]? := Below.heap_alloc w o b h
theorem block_lt {w : World} {b : Nat} {o : Obj} (h : w.heap[b]? = some o) : b < w.heap.size := by
  rcases Nat.lt_or_ge b w.heap.size with h' | h'
  · exact h'
  · simp [Array.getElem?_eq_none h'] at h
theorem two0 {w : World} {g : Nat} {x y : Value} {t : TypeId} {fr : Nat × Nat} (h : w.heap[g]? = some (.cells #[x, y] t fr)) : w.cell? ⟨g, 0, none⟩ = some x := by rw [Lib.cell_of_heap h]; rfl
theorem two1 {w : World} {g : Nat} {x y : Value} {t : TypeId} {fr : Nat × Nat} (h : w.heap[g]? = some (.cells #[x, y] t fr)) : w.cell? ⟨g, 1, none⟩ = some y := by rw [Lib.cell_of_heap h]; rfl
theorem free {w : World} {g : Nat} {cs : Array Value} {t : TypeId} (h : w.heap[g]? = some (.cells cs t (0, 0))) (j : Nat) : w.frozen? ⟨g, j, none⟩ = false := Lib.frozen_of_heap h j
theorem heap_put {w : World} {g : Nat} {cs : Array Value} {t : TypeId} {fr : Nat × Nat} (h : w.heap[g]? = some (.cells cs t fr)) (i : Nat) (x : Value) :
    (w.setCell ⟨g, i, none⟩ x).heap[g]? = some (.cells (cs.setIfInBounds i x) t fr) := by
  simp [World.setCell, Array.getElem?_modify, h]
theorem put2 {w : World} {g : Nat} {a b : Value} {t : TypeId} {fr : Nat × Nat} (h : w.heap[g]? = some (.cells #[a, b] t fr)) (x y : Value) :
    ((w.setCell ⟨g, 0, none⟩ x).setCell ⟨g, 1, none⟩ y).heap[g]? = some (.cells #[x, y] t fr) := by
  rw [heap_put (heap_put h 0 x) 1 y]; rfl
theorem put2_below {B : Nat} {w0 w : World} {g : Nat} (h : Below B w0 w) (hg : B ≤ g) (x y : Value) : Below B w0 ((w.setCell ⟨g, 0, none⟩ x).setCell ⟨g, 1, none⟩ y) :=
  (h.setCell (p := ⟨g, 0, none⟩) hg _).setCell (p := ⟨g, 1, none⟩) hg _

theorem infoField : (Tryd.prog.info? 56).map (fun i => (i.zero, i.size, i.bytes)) = some (some (.agg #[.string ⟨#[]⟩, .string ⟨#[]⟩]), 2, 32) := by kernel_rfl
theorem infoFieldSize : (Tryd.prog.info? 56).map (·.size) = some 2 := by kernel_rfl
theorem cellsField : Tryd.prog.cellsOf 56 = 2 := by kernel_rfl
/-- A struct's result in a cell, and a second one. -/
theorem results_pair {P : Program} {fn : Func} {p u : Tmp} {ty : TypeId} (h : fn.results = #[.cell p ty, .tmp u]) (tmps : Array Value) (w : World) (g : Nat) (t : TypeId) (cs : Array Value) (fr : Nat × Nat) (d : TypeDesc)
    (hp : tmps.getD p undef = .pointer (some ⟨g, 0, none⟩)) (hg : w.heap[g]? = some (.cells cs t fr))
    (hu : P.underlying ty = some d) (hd : (match d with | .struct _ | .array _ _ => true | _ => false) = true) (hi : (P.info? ty).map (·.size) = some cs.size) :
    (results fn tmps).run P w = .ok (.tuple #[.agg cs, tmps.getD u undef]) w := by
  rw [results_cell_tmp h, hp]
  simp [asAddr, run_loadVar_row w g t ty cs fr d hg hu hd hi]
/-- A struct's result in a cell, alone. -/
theorem results_one {P : Program} {fn : Func} {p : Tmp} {ty : TypeId} (h : fn.results = #[.cell p ty]) (tmps : Array Value) (w : World) (g : Nat) (t : TypeId) (cs : Array Value) (fr : Nat × Nat) (d : TypeDesc)
    (hp : tmps.getD p undef = .pointer (some ⟨g, 0, none⟩)) (hg : w.heap[g]? = some (.cells cs t fr))
    (hu : P.underlying ty = some d) (hd : (match d with | .struct _ | .array _ _ => true | _ => false) = true) (hi : (P.info? ty).map (·.size) = some cs.size) :
    (results fn tmps).run P w = .ok (.agg cs) w := by
  have e : (results fn tmps).run P w = ((asAddr (tmps.getD p undef)).run P w).andThen fun a w₁ => (loadVar ty a).run P w₁ := by
    simp only [results, h]
    simp [Sem.run_bind, Result.andThen]
  rw [e, hp]
  simp [asAddr, run_loadVar_row w g t ty cs fr d hg hu hd hi, Result.andThen]
end Go.Proofs.YtoofdompafkddaaDoor.Fd
