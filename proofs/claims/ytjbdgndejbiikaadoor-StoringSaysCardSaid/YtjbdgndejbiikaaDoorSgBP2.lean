/-
  Texts that the laws' proofs stand on, 3 of them in one file; each one's head says what it proves and under which condition.
-/
import Derived.Test.YtjbdgndejbiikaaDoorRows
import Derived.Test.YtjbdgndejbiikaaDoorSgBP1
import Derived.WalkKit
import Derived.WalkLawsBesides
import Derived.Outline
import Derived.Lib.Hide
import Derived.Laws.Strings
/-
  gatepostref01.blank and gatepostref01.Trim: what each returns. Conditions: none beyond the lengths that a string can have.
-/
-- cut by strips.py
namespace Go.Proofs.YtjbdgndejbiikaaDoor.Tk
open Go.RowKit

/-- A text that is cut: its bytes. -/
theorem cut_front (t : ByteArray) : (t.extract 1 t.size).data.toList = t.data.toList.drop 1 := by
  simp
  apply List.take_of_length_le
  have h : t.data.toList.length = t.size := by simp
  rw [List.length_tail, h]
  exact Nat.le_refl _
theorem cut_back (t : ByteArray) : (t.extract 0 (t.size - 1)).data.toList = t.data.toList.take (t.size - 1) := by
  simp
  have h : t.data.toList.length = t.size := by simp
  rw [List.dropLast_eq_take, h]
theorem byte_at (t : ByteArray) (k : Nat) (hk : k < t.size) : t.data.toList[k]'(by simpa using hk) = t[k] := rfl
theorem front_step (t : ByteArray) (h0 : 0 < t.size) (hb : blank t[0] = true) : ltrim t.data.toList = ltrim (t.extract 1 t.size).data.toList := by
  have := ltrim_drop_step t.data.toList 0 (by simpa using h0) hb
  rw [cut_front]; simpa using this
theorem front_stop (t : ByteArray) (h0 : 0 < t.size) (hb : blank t[0] = false) : ltrim t.data.toList = t.data.toList := by
  have := ltrim_drop_stop t.data.toList 0 (by simpa using h0) hb
  simpa using this
theorem list_nil (t : ByteArray) (h : ¬ 0 < t.size) : t.data.toList = [] := by
  rw [← List.length_eq_zero_iff]; have : t.data.toList.length = t.size := by simp
  omega
theorem back_step (t : ByteArray) (h0 : 0 < t.size) (hb : blank (t[t.size - 1]) = true) : rtrim t.data.toList = rtrim (t.extract 0 (t.size - 1)).data.toList := by
  have hl : t.data.toList.length = t.size := by simp
  have := rtrim_part_step t.data.toList 0 t.size h0 (by omega) hb
  rw [cut_back]
  rw [List.take_of_length_le (by omega)] at this
  simpa using this
theorem back_stop (t : ByteArray) (h0 : 0 < t.size) (hb : blank (t[t.size - 1]) = false) : rtrim t.data.toList = t.data.toList := by
  have hl : t.data.toList.length = t.size := by simp
  have := rtrim_part_stop t.data.toList 0 t.size h0 (by omega) hb
  rw [List.take_of_length_le (by omega)] at this
  simpa using this
theorem bytes_ext {t : ByteArray} {l : Bs} (h : t.data.toList = l) : t = ⟨l.toArray⟩ := by
  subst h; cases t; rfl
theorem front_size (t : ByteArray) : (t.extract 1 t.size).size = t.size - 1 := by simp
theorem back_size (t : ByteArray) : (t.extract 0 (t.size - 1)).size = t.size - 1 := by simp

/-- The size of a text in a slot. -/
def sizeOf' : Value → Nat
  | .string t => t.size
  | _ => 0

end Go.Proofs.YtjbdgndejbiikaaDoor.Tk
/-
  Which bytes may stand in a token and in a value; tokens and values: plain functions. No program, no condition.
-/
namespace Go.Proofs.YtjbdgndejbiikaaDoor.Tk

/-- May a byte stand in a token? -/
def tchar (c : UInt8) : Bool :=
  (97 ≤ c.toNat && c.toNat ≤ 122) || (65 ≤ c.toNat && c.toNat ≤ 90) || (48 ≤ c.toNat && c.toNat ≤ 57) ||
  [33, 35, 36, 37, 38, 39, 42, 43, 45, 46, 94, 95, 96, 124, 126].contains c.toNat
/-- May a byte stand in a quoted text? -/
def textByte (c : UInt8) : Bool := c.toNat == 9 || (32 ≤ c.toNat && c.toNat != 127)
def isTok (l : Bs) : Bool := !l.isEmpty && l.all tchar
def isVal (l : Bs) : Bool := l.all textByte && (l.isEmpty || (!blank (l.headD 0) && !blank (l.getLastD 0)))

theorem take_snoc (s : ByteArray) (k : Nat) (h : k < s.size) : s.data.toList.take (k + 1) = s.data.toList.take k ++ [s[k]] := by
  rw [List.take_succ_eq_append_getElem (by simpa using h)]; rfl
theorem all_snoc (p : UInt8 → Bool) (s : ByteArray) (k : Nat) (h : k < s.size) : (s.data.toList.take (k + 1)).all p = ((s.data.toList.take k).all p && p s[k]) := by
  rw [take_snoc s k h, List.all_append]; simp
theorem not_all (p : UInt8 → Bool) (s : ByteArray) (k : Nat) (h : k < s.size) (hd : p s[k] = false) : s.data.toList.all p = false := by
  rw [List.all_eq_false]
  exact ⟨s[k], by show s.data[k] ∈ _; simp, by simp [hd]⟩
theorem all_of_take {p : UInt8 → Bool} {s : ByteArray} (h : (s.data.toList.take s.size).all p = true) : s.data.toList.all p = true := by
  rwa [List.take_of_length_le (by simp)] at h
theorem nil_of_size {s : ByteArray} (h : s.size = 0) : s.data.toList = [] := by
  rw [← List.length_eq_zero_iff]; simpa using h
theorem cons_of_size {s : ByteArray} (h : 0 < s.size) : s.data.toList.isEmpty = false := by
  cases hl : s.data.toList with
  | nil => have h1 : s.data.toList.length = 0 := by rw [hl]; rfl
           rw [Array.length_toList] at h1
           have h2 : s.size = s.data.size := rfl
           omega
  | cons => rfl
theorem text_empty {s : ByteArray} (h : s.size = 0) : s.toList = [] := by rw [ByteArray.toList_eq]; exact nil_of_size h
theorem text_full {s : ByteArray} (h : 0 < s.size) : s.toList.isEmpty = false := by rw [ByteArray.toList_eq]; exact cons_of_size h
theorem isTok_nil {s : ByteArray} (h : s.size = 0) : isTok s.data.toList = false := by rw [nil_of_size h]; rfl
theorem isTok_no (s : ByteArray) (k : Nat) (h : k < s.size) (hd : tchar s[k] = false) : isTok s.data.toList = false := by
  unfold isTok; rw [not_all tchar s k h hd]; simp
theorem isTok_yes {s : ByteArray} (h : 0 < s.size) (ha : (s.data.toList.take s.size).all tchar = true) : isTok s.data.toList = true := by
  unfold isTok; rw [cons_of_size h, all_of_take ha]; rfl

theorem head_eq {s : ByteArray} (h : 0 < s.size) : s.data.toList.headD 0 = s[0] := by
  have : s.data.toList[0]? = some s[0] := by rw [List.getElem?_eq_getElem (by simpa using h)]; rfl
  rw [List.headD_eq_head?_getD, List.head?_eq_getElem?, this]; rfl
theorem last_eq {s : ByteArray} (h : 0 < s.size) : s.data.toList.getLastD 0 = s[s.size - 1] := by
  have hl : s.data.toList.length = s.size := by simp
  have : s.data.toList[s.size - 1]? = some s[s.size - 1] := by rw [List.getElem?_eq_getElem (by omega)]; rfl
  rw [List.getLastD_eq_getLast?, List.getLast?_eq_getElem?, hl, this]; rfl
theorem isVal_nil {s : ByteArray} (h : s.size = 0) : isVal s.data.toList = true := by rw [nil_of_size h]; rfl
theorem isVal_no (s : ByteArray) (k : Nat) (h : k < s.size) (hd : textByte s[k] = false) : isVal s.data.toList = false := by
  unfold isVal; rw [not_all textByte s k h hd]; rfl
theorem isVal_all {s : ByteArray} (h : 0 < s.size) (ha : (s.data.toList.take s.size).all textByte = true) : isVal s.data.toList = (!blank s[0] && !blank s[s.size - 1]) := by
  unfold isVal; rw [cons_of_size h, all_of_take ha, head_eq h, last_eq h]; rfl

theorem text_yes {c : UInt8} (h : textByte c = true) : (c.toNat : Int) = 9 ∨ (32 ≤ (c.toNat : Int) ∧ (c.toNat : Int) ≠ 127) := by
  simp [textByte] at h; omega
theorem text_no {c : UInt8} (h : textByte c = false) : (c.toNat : Int) ≠ 9 ∧ ((c.toNat : Int) < 32 ∨ (c.toNat : Int) = 127) := by
  simp [textByte] at h; omega
/-- As the reference's Value asks it. -/
theorem text_ref (c : UInt8) : textByte c = (blank c || (33 ≤ c.toNat && c.toNat != 127)) := by
  have h : ∀ n : Nat, n < 256 → textByte (UInt8.ofNat n) = (blank (UInt8.ofNat n) || (33 ≤ (UInt8.ofNat n).toNat && (UInt8.ofNat n).toNat != 127)) := by decide +kernel
  have := h c.toNat c.toNat_lt
  rwa [UInt8.ofNat_toNat] at this
theorem tchar_cases (c : UInt8) : (97 ≤ c.toNat ∧ c.toNat ≤ 122) ∨ (65 ≤ c.toNat ∧ c.toNat ≤ 90) ∨ (48 ≤ c.toNat ∧ c.toNat ≤ 57) ∨ c.toNat ∈ [33, 35, 36, 37, 38, 39, 42, 43, 45, 46, 94, 95, 96, 124, 126] ∨ tchar c = false := by
  cases h : tchar c with
  | false => simp
  | true => simp [tchar] at h; simp; omega
theorem tchar_true {c : UInt8} (h : (97 ≤ c.toNat ∧ c.toNat ≤ 122) ∨ (65 ≤ c.toNat ∧ c.toNat ≤ 90) ∨ (48 ≤ c.toNat ∧ c.toNat ≤ 57) ∨ c.toNat ∈ [33, 35, 36, 37, 38, 39, 42, 43, 45, 46, 94, 95, 96, 124, 126]) : tchar c = true := by
  simp at h; simp [tchar]; omega
end Go.Proofs.YtjbdgndejbiikaaDoor.Tk
/-
  token.Is, token.textByte, token.Value and their references gatepostref01.tchar, Is, Value: what each returns. Condition: the table of token bytes holds what the program's text lays.
-/
-- cut by strips.py
namespace Go.Proofs.YtjbdgndejbiikaaDoor.Tk
open Go.RowKit

/-- The table's cells, as its initialiser lays them. -/
def Tab (w : World) : Prop := ∀ n : Nat, n < 128 → w.cell? ⟨2, n, none⟩ = some (.bool (tchar (UInt8.ofNat n)))
theorem Tab.byte {w : World} (h : Tab w) (c : UInt8) (hc : c.toNat < 128) : w.cell? ⟨2, c.toNat, none⟩ = some (.bool (tchar c)) := by
  have := h c.toNat hc
  rwa [UInt8.ofNat_toNat] at this
theorem Tab.lt {w : World} (h : Tab w) : 2 < w.heap.size := World.block_lt_of_cell? w _ (h 0 (by omega))
theorem Tab.below {B : Nat} {w w' : World} (h : Tab w) (hb : Below B w w') (hB : 2 < B) : Tab w' := fun n hn => (hb.cell (p := ⟨2, n, none⟩) hB).trans (h n hn)
theorem tchar_great (c : UInt8) (h : ¬ c.toNat < 128) : tchar c = false := by
  cases hc : tchar c with
  | false => rfl
  | true => simp [tchar] at hc; omega

set_option maxHeartbeats 1000000 in
theorem is_any (s : ByteArray) (w : World) (hs : s.size ≤ maxLen) (hT : Tab w) :
    Calls Tryd.prog 49 #[.string s] w fun e w' => e = .returned (.bool (isTok s.data.toList)) ∧ w = w' := by
  unfold maxLen at hs
  have HT := Lib.hid hT
  clear hT
  go_enter Tryd.func49, Tryd.ntmps49
  go_wp2_with fail
  go_loop [6] (fun i => ∃ k : Nat, k ≤ s.size ∧ i = .int .i64 (k : Int) ∧ (s.data.toList.take k).all tchar = true) (fun i => s.size - (intOf i).toNat)
  case atStart => exact ⟨0, Nat.zero_le _, rfl, rfl⟩
  case round =>
    obtain ⟨k, hk, rfl, hal⟩ := hrel
    have HAL := Lib.hid hal
    clear hal
    by_cases hlt : k < s.size
    · by_cases h128 : s[k].toNat < 128
      · have hcell := HT.out.byte s[k] h128
        have h128' : ¬ (128 : Int) ≤ (s[k].toNat : Int) := by omega
        cases ht : tchar s[k] with
        | true =>
          have HA := Lib.hid (show (s.data.toList.take (k + 1)).all tchar = true from by rw [all_snoc tchar s k hlt, HAL.out, ht]; rfl)
          rw [ht] at hcell
          clear ht
          go_wp2_with fail
          go_round
          case rel => exact ⟨k + 1, by omega, by go_num, HA.out⟩
          case measure => simp [intOf]; omega
        | false =>
          have HN := Lib.hid (isTok_no s k hlt ht)
          rw [ht] at hcell
          clear ht
          go_wp2_with fail
          go_ret
          exact ⟨by rw [HN.out]; rfl, rfl⟩
      · have HN := Lib.hid (isTok_no s k hlt (tchar_great _ h128))
        have h128' : (128 : Int) ≤ (s[k].toNat : Int) := by omega
        clear h128
        go_wp2_with fail
        go_ret
        exact ⟨by rw [HN.out]; rfl, rfl⟩
    · by_cases h0 : s.size = 0
      · have he := text_empty h0
        have HN := Lib.hid (isTok_nil h0)
        clear h0
        go_wp2_with fail
        go_ret
        exact ⟨by rw [HN.out]; rfl, rfl⟩
      · obtain rfl : k = s.size := by omega
        have he := text_full (s := s) (by omega)
        have HY := Lib.hid (isTok_yes (by omega) HAL.out)
        clear h0
        go_wp2_with fail
        go_ret
        exact ⟨by rw [HY.out]; rfl, rfl⟩

theorem textByte_any (c : UInt8) (w : World) :
    Calls Tryd.prog 71 #[.int .u8 (c.toNat : Int)] w fun e w' => e = .returned (.bool (textByte c)) ∧ w = w' := by
  cases ht : textByte c with
  | true =>
    rcases text_yes ht with h | ⟨h1, h2⟩
    · have t1 : ((c.toNat : Int) == 9) = true := beq_iff_eq.2 h
      clear ht h
      go_enter Tryd.func71, Tryd.ntmps71
      go_wp2_with fail
      go_ret
      exact ⟨rfl, rfl⟩
    · have t1 : ((c.toNat : Int) == 9) = false := beq_eq_false_iff_ne.2 (by omega)
      have t2 : ((c.toNat : Int) != 127) = true := by rw [bne_iff_ne]; exact h2
      clear ht h2
      go_enter Tryd.func71, Tryd.ntmps71
      go_wp2_with fail
      go_ret
      exact ⟨rfl, rfl⟩
  | false =>
    obtain ⟨h1, h2⟩ := text_no ht
    have t1 : ((c.toNat : Int) == 9) = false := beq_eq_false_iff_ne.2 h1
    rcases h2 with h | h
    · clear ht h1
      go_enter Tryd.func71, Tryd.ntmps71
      go_wp2_with fail
      go_ret
      exact ⟨rfl, rfl⟩
    · have t2 : ((c.toNat : Int) != 127) = false := by rw [h]; rfl
      have t3 : (32 : Int) ≤ (c.toNat : Int) := by omega
      clear ht h1 h
      go_enter Tryd.func71, Tryd.ntmps71
      go_wp2_with fail
      go_ret
      exact ⟨rfl, rfl⟩
end Go.Proofs.YtjbdgndejbiikaaDoor.Tk
