/-
  Texts that the laws' proofs stand on, 10 of them in one file; each one's head says what it proves and under which condition.
-/
import Derived.Below
import Derived.Test.YtcolnidgembniaaGreatDoorRows
import Derived.WalkKit
import Derived.WalkLawsBesides
import Derived.Outline
import Derived.Lib.Hide
import Derived.Laws.Strings
import Derived.Lib.Bytealg
import Derived.WalkSpells
import Derived.Lib.BufferWrite
import Derived.Lib.UnsafeStr
import Derived.Laws.CopyOwn
import Derived.Deep.QuietTactic
import Derived.BigQuiet
/-
  Plain functions on bytes, and what holds of them: blanks, trimming, small letters. No program, no condition.
-/
namespace Go.Proofs.YtcolnidgembniaaGreatDoor.Tk

abbrev Bs := List UInt8

/-- A blank: a space or a tab. -/
def blank (c : UInt8) : Bool := c == 32 || c == 9
def ltrim (l : Bs) : Bs := l.dropWhile blank
def rtrim (l : Bs) : Bs := (l.reverse.dropWhile blank).reverse
def trim (l : Bs) : Bs := rtrim (ltrim l)
/-- The small letter of a byte. -/
def low (c : UInt8) : UInt8 := if 65 ≤ c.toNat ∧ c.toNat ≤ 90 then c + 32 else c
def lower (l : Bs) : Bs := l.map low

theorem blank_yes {c : UInt8} (h : blank c = true) : (c.toNat : Int) = 32 ∨ (c.toNat : Int) = 9 := by
  simp [blank] at h; rcases h with rfl | rfl <;> simp
theorem blank_no {c : UInt8} (h : blank c = false) : (c.toNat : Int) ≠ 32 ∧ (c.toNat : Int) ≠ 9 := by
  simp [blank] at h
  constructor
  · intro e; apply h.1; apply UInt8.toNat.inj; simpa using (by omega : c.toNat = 32)
  · intro e; apply h.2; apply UInt8.toNat.inj; simpa using (by omega : c.toNat = 9)

theorem low_up {c : UInt8} (h : 65 ≤ c.toNat ∧ c.toNat ≤ 90) : ((low c).toNat : Int) = (c.toNat : Int) + 32 := by
  unfold low; rw [if_pos h]; simp [UInt8.toNat_add]; omega
theorem low_id {c : UInt8} (h : ¬ (65 ≤ c.toNat ∧ c.toNat ≤ 90)) : low c = c := by unfold low; rw [if_neg h]
theorem low_low (c : UInt8) : low (low c) = low c := by
  by_cases h : 65 ≤ c.toNat ∧ c.toNat ≤ 90
  · have := low_up h; exact low_id (by omega)
  · rw [low_id h, low_id h]
theorem lower_lower (l : Bs) : lower (lower l) = lower l := by
  simp [lower, low_low]
theorem lower_length (l : Bs) : (lower l).length = l.length := by simp [lower]

/-! Trimming. -/
theorem ltrim_cons_blank {c : UInt8} (l : Bs) (h : blank c = true) : ltrim (c :: l) = ltrim l := by simp [ltrim, h]
theorem ltrim_cons_other {c : UInt8} (l : Bs) (h : blank c = false) : ltrim (c :: l) = c :: l := by simp [ltrim, h]
theorem rtrim_snoc_blank {c : UInt8} (l : Bs) (h : blank c = true) : rtrim (l ++ [c]) = rtrim l := by simp [rtrim, h]
theorem rtrim_snoc_other {c : UInt8} (l : Bs) (h : blank c = false) : rtrim (l ++ [c]) = l ++ [c] := by simp [rtrim, h]
theorem rtrim_nil : rtrim [] = [] := rfl
theorem ltrim_nil : ltrim [] = [] := rfl

theorem snoc_cases (l : Bs) : l = [] ∨ ∃ i c, l = i ++ [c] := by
  rcases List.eq_nil_or_concat l with h | ⟨i, c, h⟩
  · exact .inl h
  · exact .inr ⟨i, c, by rw [h, List.concat_eq_append]⟩
/-- The last byte is no blank, or there is none. -/
theorem rtrim_end (l : Bs) : rtrim l = [] ∨ ∃ i c, rtrim l = i ++ [c] ∧ blank c = false := by
  induction hn : l.length generalizing l with
  | zero => left; rw [List.length_eq_zero_iff] at hn; subst hn; rfl
  | succ n ih =>
    rcases snoc_cases l with rfl | ⟨i, c, rfl⟩
    · left; rfl
    · by_cases h : blank c = true
      · rw [rtrim_snoc_blank i h]; exact ih i (by simpa using hn)
      · right; have h' : blank c = false := by simpa using h
        exact ⟨i, c, rtrim_snoc_other i h', h'⟩
theorem ltrim_begin (l : Bs) : ltrim l = [] ∨ ∃ c t, ltrim l = c :: t ∧ blank c = false := by
  induction l with
  | nil => left; rfl
  | cons c t ih =>
    by_cases h : blank c = true
    · rw [ltrim_cons_blank t h]; exact ih
    · have h' : blank c = false := by simpa using h
      right; exact ⟨c, t, ltrim_cons_other t h', h'⟩
theorem rtrim_idem (l : Bs) : rtrim (rtrim l) = rtrim l := by
  rcases rtrim_end l with h | ⟨i, c, h, hc⟩
  · rw [h]; rfl
  · rw [h, rtrim_snoc_other i hc]
theorem rtrim_cons_other {c : UInt8} (t : Bs) (h : blank c = false) : ∃ t', rtrim (c :: t) = c :: t' := by
  induction hn : t.length generalizing t with
  | zero =>
    rw [List.length_eq_zero_iff] at hn; subst hn
    exact ⟨[], rtrim_snoc_other [] h⟩
  | succ n ih =>
    rcases snoc_cases t with rfl | ⟨i, d, rfl⟩
    · simp at hn
    · by_cases hd : blank d = true
      · obtain ⟨t', ht⟩ := ih i (by simpa using hn)
        refine ⟨t', ?_⟩
        rw [← ht]; exact rtrim_snoc_blank (c :: i) hd
      · have hd' : blank d = false := by simpa using hd
        exact ⟨i ++ [d], rtrim_snoc_other (c :: i) hd'⟩
theorem ltrim_rtrim_ltrim (l : Bs) : ltrim (rtrim (ltrim l)) = rtrim (ltrim l) := by
  rcases ltrim_begin l with h | ⟨c, t, h, hc⟩
  · rw [h]; rfl
  · rw [h]; obtain ⟨t', ht⟩ := rtrim_cons_other t hc
    rw [ht, ltrim_cons_other t' hc]
theorem trim_trim (l : Bs) : trim (trim l) = trim l := by
  unfold trim; rw [ltrim_rtrim_ltrim, rtrim_idem]
theorem trim_cons_blank {c : UInt8} (l : Bs) (h : blank c = true) : trim (c :: l) = trim l := by
  unfold trim; rw [ltrim_cons_blank l h]
theorem ltrim_snoc_blank {c : UInt8} (l : Bs) (h : blank c = true) : rtrim (ltrim (l ++ [c])) = rtrim (ltrim l) := by
  induction l with
  | nil => simp only [List.nil_append]; rw [ltrim_cons_blank [] h]
  | cons d t ih =>
    by_cases hd : blank d = true
    · rw [List.cons_append, ltrim_cons_blank _ hd, ltrim_cons_blank _ hd]; exact ih
    · have hd' : blank d = false := by simpa using hd
      rw [List.cons_append, ltrim_cons_other _ hd', ltrim_cons_other _ hd']
      exact rtrim_snoc_blank (d :: t) h
theorem trim_snoc_blank {c : UInt8} (l : Bs) (h : blank c = true) : trim (l ++ [c]) = trim l := ltrim_snoc_blank l h
/-- What is trimmed is empty, or has no blank at either end. -/
theorem trim_ends (l : Bs) : trim l = [] ∨ ((∃ c t, trim l = c :: t ∧ blank c = false) ∧ ∃ i c, trim l = i ++ [c] ∧ blank c = false) := by
  unfold trim
  rcases ltrim_begin l with h | ⟨c, t, h, hc⟩
  · left; rw [h]; rfl
  · right
    refine ⟨?_, ?_⟩
    · rw [h]; obtain ⟨t', ht⟩ := rtrim_cons_other t hc; exact ⟨c, t', ht, hc⟩
    · rcases rtrim_end (ltrim l) with h2 | h2
      · rw [h] at h2; obtain ⟨t', ht⟩ := rtrim_cons_other t hc; rw [ht] at h2; cases h2
      · exact h2
theorem rtrim_length (l : Bs) : (rtrim l).length ≤ l.length := by
  unfold rtrim; simp; exact Nat.le_trans (List.dropWhile_sublist _).length_le (by simp)
theorem trim_length (l : Bs) : (trim l).length ≤ l.length := by
  unfold trim ltrim; exact Nat.le_trans (rtrim_length _) (List.dropWhile_sublist _).length_le

/-- The loops of a trim over indices: from the left .. -/
theorem ltrim_drop_step (l : Bs) (k : Nat) (hk : k < l.length) (h : blank l[k] = true) : ltrim (l.drop k) = ltrim (l.drop (k + 1)) := by
  rw [List.drop_eq_getElem_cons hk, ltrim_cons_blank _ h]
theorem ltrim_drop_stop (l : Bs) (k : Nat) (hk : k < l.length) (h : blank l[k] = false) : ltrim (l.drop k) = l.drop k := by
  rw [List.drop_eq_getElem_cons hk, ltrim_cons_other _ h]
/-- .. and from the right. -/
theorem part_snoc (l : Bs) (k m : Nat) (hk : k < m) (hm : m ≤ l.length) : (l.take m).drop k = (l.take (m - 1)).drop k ++ [l[m - 1]'(by omega)] := by
  have h1 : l.take m = l.take (m - 1) ++ [l[m - 1]'(by omega)] := by
    have := List.take_succ_eq_append_getElem (l := l) (i := m - 1) (by omega)
    rwa [show m - 1 + 1 = m from by omega] at this
  rw [h1, List.drop_append_of_le_length (by simp; omega)]
theorem rtrim_part_step (l : Bs) (k m : Nat) (hk : k < m) (hm : m ≤ l.length) (h : blank (l[m - 1]'(by omega)) = true) : rtrim ((l.take m).drop k) = rtrim ((l.take (m - 1)).drop k) := by
  rw [part_snoc l k m hk hm, rtrim_snoc_blank _ h]
theorem rtrim_part_stop (l : Bs) (k m : Nat) (hk : k < m) (hm : m ≤ l.length) (h : blank (l[m - 1]'(by omega)) = false) : rtrim ((l.take m).drop k) = (l.take m).drop k := by
  rw [part_snoc l k m hk hm, rtrim_snoc_other _ h]
theorem part_all (l : Bs) (k : Nat) : (l.take l.length).drop k = l.drop k := by rw [List.take_length]
theorem part_none (l : Bs) (k : Nat) : rtrim ((l.take k).drop k) = (l.take k).drop k := by
  have : (l.take k).drop k = [] := by rw [List.drop_eq_nil_iff]; exact List.length_take_le _ _
  rw [this]; rfl
theorem part_get (l : Bs) (k m j : Nat) (hm : m ≤ l.length) (hj : j < ((l.take m).drop k).length) : ((l.take m).drop k)[j] = l[k + j]'(by simp at hj; omega) := by
  simp
theorem part_length (l : Bs) (k m : Nat) (hm : m ≤ l.length) : ((l.take m).drop k).length = m - k := by
  simp; omega
end Go.Proofs.YtcolnidgembniaaGreatDoor.Tk
/-
  Bytes in memory: what holds of them. No condition.
-/
namespace Go.Proofs.YtcolnidgembniaaGreatDoor.Tk
open Go.RowKit

/-- The cells of block b from off on hold these bytes. -/
def Holds (w : World) (b off : Nat) (l : Bs) : Prop := ∀ j (hj : j < l.length), w.cell? ⟨b, off + j, none⟩ = some (.int .u8 (l[j].toNat : Int))
theorem Holds.part {w : World} {b off : Nat} {l : Bs} (h : Holds w b off l) (k m : Nat) (hm : m ≤ l.length) : Holds w b (off + k) ((l.take m).drop k) := by
  intro j hj
  have hj' := hj
  rw [part_length l k m hm] at hj'
  rw [part_get l k m j hm hj, Nat.add_assoc]
  exact h (k + j) (by omega)
theorem Holds.nil (w : World) (b off : Nat) : Holds w b off [] := fun _ hj => by simp at hj

/-- What '[]byte(s)' lays holds the bytes of s, and below it all is as it was. -/
theorem holds_new (w : World) (s : ByteArray) (cap : Nat) (t : TypeId) (fr : Nat × Nat) : Holds (w.alloc (.cells (bytesRow s cap) t fr)) w.heap.size 0 s.data.toList := by
  intro j hj
  rw [Nat.zero_add, World.cell?_alloc_mark, bytesRow_at s cap j (by simpa using hj)]
  simp
theorem holds_drew {w : World} {b off : Nat} {l : Bs} (h : Holds w b off l) : Holds w.drew b off l := h
/-- 'string(b)' of bytes that lie so. -/
theorem run_back {P : Program} (w : World) (src dst e : TypeId) (b off cap : Nat) (l : Bs) (hs : P.underlying src = some (.slice e)) (he : P.underlying e = some (.int .u8)) (hd : P.underlying dst = some .string)
    (hc : Holds w b off l) : (convert src dst (.slice (some ⟨b, off, none⟩) l.length cap)).run P w = .ok (.string ⟨l.toArray⟩) w :=
  run_convert_bytes_back w src dst e ⟨b, off, none⟩ cap l hs he hd fun j hj => by
    have := hc j hj
    by_cases h0 : j = 0
    · subst h0; simpa [Addr.add] using this
    · simpa [Addr.add, h0] using this
end Go.Proofs.YtcolnidgembniaaGreatDoor.Tk
/-
  token.blank, token.trim and token.Trim: what each returns. Conditions: none beyond the lengths that a string or a slice can have.
-/
namespace Go.Proofs.YtcolnidgembniaaGreatDoor.Tk
open Go.RowKit

theorem blank_any (c : UInt8) (w : World) :
    Calls Tryz.prog 125 #[.int .u8 (c.toNat : Int)] w fun e w' => e = .returned (.bool (blank c)) ∧ w = w' := by
  cases hb : blank c with
  | true =>
    have HB := Lib.hid hb
    rcases blank_yes hb with h | h
    · have h1 : ((c.toNat : Int) == 32) = true := beq_iff_eq.2 h
      clear hb h
      go_enter Tryz.func125, Tryz.ntmps125
      go_wp2
      go_ret
      exact ⟨rfl, rfl⟩
    · have h1 : ((c.toNat : Int) == 32) = false := beq_eq_false_iff_ne.2 (by omega)
      have h2 : ((c.toNat : Int) == 9) = true := beq_iff_eq.2 h
      clear hb h
      go_enter Tryz.func125, Tryz.ntmps125
      go_wp2
      go_ret
      exact ⟨rfl, rfl⟩
  | false =>
    have h := blank_no hb
    have h1 : ((c.toNat : Int) == 32) = false := beq_eq_false_iff_ne.2 h.1
    have h2 : ((c.toNat : Int) == 9) = false := beq_eq_false_iff_ne.2 h.2
    clear hb h
    go_enter Tryz.func125, Tryz.ntmps125
    go_wp2
    go_ret
    exact ⟨rfl, rfl⟩

theorem holds_none (w : World) (b off : Nat) {l : Bs} (h : l.length = 0) : Holds w b off l := fun _ hj => by omega
theorem slice_end {w : World} {b off' n : Nat} {l l' : Bs} (h : l = l') (hn : l'.length = n) (hh : Holds w b off' l') : ∃ o, Ending.returned (.slice (some ⟨b, off', none⟩) n n) = .returned (.slice (some ⟨b, o, none⟩) l.length l.length) ∧ Holds w b o l :=
  ⟨off', by rw [h, hn], by rw [h]; exact hh⟩

set_option maxHeartbeats 1000000 in
theorem trimSlice_any (b off cap : Nat) (l : Bs) (w : World) (hl : l.length ≤ maxLen) (hcap : l.length ≤ cap) (hc : Holds w b off l) :
    Calls Tryz.prog 109 #[.slice (some ⟨b, off, none⟩) l.length cap] w fun e w' => (∃ off', e = .returned (.slice (some ⟨b, off', none⟩) (trim l).length (trim l).length) ∧ Holds w b off' (trim l)) ∧ w = w' := by
  unfold maxLen at hl
  have HC := Lib.hid hc
  clear hc
  go_enter Tryz.func109, Tryz.ntmps109
  go_wp2
  go_loop [3] (fun i => ∃ k : Nat, k ≤ l.length ∧ i = .int .i64 k ∧ ltrim l = ltrim (l.drop k)) (fun i => l.length - (intOf i).toNat)
  case atStart => exact ⟨0, Nat.zero_le _, rfl, rfl⟩
  case round =>
    obtain ⟨k, hk, rfl, hrel⟩ := hrel
    have HR := Lib.hid hrel
    clear hrel
    by_cases hgo : ∃ h : k < l.length, blank l[k] = true
    · obtain ⟨hlt, hb⟩ := hgo
      have hcell := HC.out k hlt
      have HR2 := Lib.hid (HR.out.trans (ltrim_drop_step l k hlt hb))
      have HB := Lib.hid hb
      clear hb
      go_wp2_with (go_at_call 125; refine (blank_any _ _).mono ?_; rintro e w' ⟨rfl, rfl⟩; rw [HB.out])
      go_round
      case rel => exact ⟨k + 1, by omega, by go_num, HR2.out⟩
      case measure => simp [intOf]; omega
    · have HL : Hid (ltrim l = l.drop k) := by
        rw [HR.out]
        by_cases hlt : k < l.length
        · exact ltrim_drop_stop l k hlt (by cases hb : blank l[k] with | true => exact absurd ⟨hlt, hb⟩ hgo | false => rfl)
        · rw [List.drop_eq_nil_of_le (by omega)]; rfl
      have HT := Lib.hid (show trim l = rtrim (l.drop k) from by unfold trim; rw [HL.out])
      clear HR HL
      by_cases hlt : k < l.length
      all_goals
        first | (have hcell := HC.out k hlt; have HB := Lib.hid (show blank l[k] = false from by cases hb : blank l[k] with | true => exact absurd ⟨hlt, hb⟩ hgo | false => rfl)) | skip
        clear hgo
        go_wp2_with (go_at_call 125; refine (blank_any _ _).mono ?_; rintro e w' ⟨rfl, rfl⟩; rw [HB.out])
        go_loop [4] (fun i => ∃ m : Nat, k ≤ m ∧ m ≤ l.length ∧ i = .int .i64 m ∧ trim l = rtrim ((l.take m).drop k)) (fun i => (intOf i).toNat)
        case atStart => exact ⟨l.length, hk, Nat.le_refl _, rfl, by rw [part_all]; exact HT.out⟩
        case round =>
          obtain ⟨m, hkm, hm, rfl, hrel⟩ := hrel
          have HR := Lib.hid hrel
          clear hrel
          by_cases hgo : ∃ h : k < m, blank (l[m - 1]'(by omega)) = true
          · obtain ⟨hlt, hb⟩ := hgo
            have hcell := HC.out (m - 1) (by omega)
            have HR2 := Lib.hid (HR.out.trans (rtrim_part_step l k m hlt hm hb))
            have HB := Lib.hid hb
            have e1 : ((m : Int) - 1).toNat = m - 1 := by omega
            clear hb
            go_wp2_with (go_at_call 125; refine (blank_any _ _).mono ?_; rintro e w' ⟨rfl, rfl⟩; rw [HB.out])
            go_round
            case rel => exact ⟨m - 1, by omega, by omega, by go_num, HR2.out⟩
            case measure => simp [intOf]; omega
          · have HL : Hid (trim l = (l.take m).drop k) := by
              rw [HR.out]
              by_cases hlt : k < m
              · exact rtrim_part_stop l k m hlt hm (by cases hb : blank (l[m - 1]'(by omega)) with | true => exact absurd ⟨hlt, hb⟩ hgo | false => rfl)
              · obtain rfl : k = m := by omega
                exact part_none l k
            by_cases hlt : k < m
            · have hcell := HC.out (m - 1) (by omega)
              have HB := Lib.hid (show blank (l[m - 1]'(by omega)) = false from by cases hb : blank (l[m - 1]'(by omega)) with | true => exact absurd ⟨hlt, hb⟩ hgo | false => rfl)
              clear hgo
              go_wp2_with (go_at_call 125; refine (blank_any _ _).mono ?_; rintro e w' ⟨rfl, rfl⟩; rw [HB.out])
              go_ret
              first | exact ⟨slice_end HL.out (part_length l k m hm) (HC.out.part k m hm), rfl⟩ | (exfalso; omega)
            · go_wp2_with fail
              go_ret
              exact ⟨slice_end HL.out (by rw [part_length l k m hm]; first | done | omega) (holds_none w b off (by rw [part_length l k m hm]; omega)), rfl⟩

theorem trimSlice_at (b off n cap : Nat) (l : Bs) (w : World) (hn : l.length = n) (hl : n ≤ maxLen) (hcap : n ≤ cap) (hc : Holds w b off l) :
    Calls Tryz.prog 109 #[.slice (some ⟨b, off, none⟩) n cap] w fun e w' => (∃ off', e = .returned (.slice (some ⟨b, off', none⟩) (trim l).length (trim l).length) ∧ Holds w b off' (trim l)) ∧ w = w' := by
  subst hn; exact trimSlice_any b off cap l w hl hcap hc

set_option maxHeartbeats 1000000 in
theorem trim_any (s : ByteArray) (w : World) (hs : s.size ≤ maxLen) :
    Calls Tryz.prog 103 #[.string s] w fun e w' => e = .returned (.string ⟨(trim s.data.toList).toArray⟩) ∧ Below w.heap.size w w' := by
  have hconv := fun W : World => run_bytes_of_string (P := Tryz.prog) W 9 22 5 s Tryz.underlying9 Tryz.underlying22 Tryz.underlying5
  go_enter Tryz.func103, Tryz.ntmps103
  go_wp2_with fail
  refine (trimSlice_at _ _ _ _ s.data.toList _ (by simp) hs ?_ (holds_drew (holds_new w s _ _ _))).mono ?_
  · exact grownCap_ge _ _ _ _
  · rintro e w' ⟨⟨off', rfl, hh⟩, rfl⟩
    have hback := run_back (P := Tryz.prog) _ 22 9 5 _ _ (trim s.data.toList).length _ Tryz.underlying22 Tryz.underlying5 Tryz.underlying9 hh
    go_wp2
    go_ret
    exact ⟨rfl, ((Below.refl _ _).alloc (Nat.le_refl _) _).drew⟩
end Go.Proofs.YtcolnidgembniaaGreatDoor.Tk
/-
  gatepostref01.blank and gatepostref01.Trim: what each returns. Conditions: none beyond the lengths that a string can have.
-/
namespace Go.Proofs.YtcolnidgembniaaGreatDoor.Tk
open Go.RowKit

theorem refBlank_any (c : UInt8) (w : World) :
    Calls Tryz.prog 118 #[.int .u8 (c.toNat : Int)] w fun e w' => e = .returned (.bool (blank c)) ∧ w = w' := by
  cases hb : blank c with
  | true =>
    have HB := Lib.hid hb
    rcases blank_yes hb with h | h
    · have h1 : ((c.toNat : Int) == 32) = true := beq_iff_eq.2 h
      clear hb h
      go_enter Tryz.func118, Tryz.ntmps118
      go_wp2
      go_ret
      exact ⟨rfl, rfl⟩
    · have h1 : ((c.toNat : Int) == 32) = false := beq_eq_false_iff_ne.2 (by omega)
      have h2 : ((c.toNat : Int) == 9) = true := beq_iff_eq.2 h
      clear hb h
      go_enter Tryz.func118, Tryz.ntmps118
      go_wp2
      go_ret
      exact ⟨rfl, rfl⟩
  | false =>
    have h := blank_no hb
    have h1 : ((c.toNat : Int) == 32) = false := beq_eq_false_iff_ne.2 h.1
    have h2 : ((c.toNat : Int) == 9) = false := beq_eq_false_iff_ne.2 h.2
    clear hb h
    go_enter Tryz.func118, Tryz.ntmps118
    go_wp2
    go_ret
    exact ⟨rfl, rfl⟩

/-- A text that is cut: its bytes. -/
theorem cut_front (t : ByteArray) : (t.extract 1 t.size).data.toList = t.data.toList.drop 1 := by
  simp
  apply List.take_of_length_le
  have h : t.data.toList.length = t.size := by simp
  rw [List.length_tail, h]
  exact Nat.le_refl _
theorem cut_back (t : ByteArray) : (t.extract 0 (t.size - 1)).data.toList = t.data.toList.take (t.size - 1) := by
  simp
  have h : t.data.toList.length = t.size := by simp
  rw [List.dropLast_eq_take, h]
theorem byte_at (t : ByteArray) (k : Nat) (hk : k < t.size) : t.data.toList[k]'(by simpa using hk) = t[k] := rfl
theorem front_step (t : ByteArray) (h0 : 0 < t.size) (hb : blank t[0] = true) : ltrim t.data.toList = ltrim (t.extract 1 t.size).data.toList := by
  have := ltrim_drop_step t.data.toList 0 (by simpa using h0) hb
  rw [cut_front]; simpa using this
theorem front_stop (t : ByteArray) (h0 : 0 < t.size) (hb : blank t[0] = false) : ltrim t.data.toList = t.data.toList := by
  have := ltrim_drop_stop t.data.toList 0 (by simpa using h0) hb
  simpa using this
theorem list_nil (t : ByteArray) (h : ¬ 0 < t.size) : t.data.toList = [] := by
  rw [← List.length_eq_zero_iff]; have : t.data.toList.length = t.size := by simp
  omega
theorem back_step (t : ByteArray) (h0 : 0 < t.size) (hb : blank (t[t.size - 1]) = true) : rtrim t.data.toList = rtrim (t.extract 0 (t.size - 1)).data.toList := by
  have hl : t.data.toList.length = t.size := by simp
  have := rtrim_part_step t.data.toList 0 t.size h0 (by omega) hb
  rw [cut_back]
  rw [List.take_of_length_le (by omega)] at this
  simpa using this
theorem back_stop (t : ByteArray) (h0 : 0 < t.size) (hb : blank (t[t.size - 1]) = false) : rtrim t.data.toList = t.data.toList := by
  have hl : t.data.toList.length = t.size := by simp
  have := rtrim_part_stop t.data.toList 0 t.size h0 (by omega) hb
  rw [List.take_of_length_le (by omega)] at this
  simpa using this
theorem bytes_ext {t : ByteArray} {l : Bs} (h : t.data.toList = l) : t = ⟨l.toArray⟩ := by
  subst h; cases t; rfl
theorem front_size (t : ByteArray) : (t.extract 1 t.size).size = t.size - 1 := by simp
theorem back_size (t : ByteArray) : (t.extract 0 (t.size - 1)).size = t.size - 1 := by simp

/-- The size of a text in a slot. -/
def sizeOf' : Value → Nat
  | .string t => t.size
  | _ => 0

set_option maxHeartbeats 1000000 in
theorem refTrim_any (s : ByteArray) (w : World) (hs : s.size ≤ maxLen) :
    Calls Tryz.prog 94 #[.string s] w fun e w' => e = .returned (.string ⟨(trim s.data.toList).toArray⟩) ∧ w = w' := by
  unfold maxLen at hs
  go_enter Tryz.func94, Tryz.ntmps94
  go_wp2_with fail
  go_loop [0] (fun v => ∃ t : ByteArray, v = .string t ∧ t.size ≤ s.size ∧ ltrim s.data.toList = ltrim t.data.toList) (fun v => sizeOf' v)
  case atStart => exact ⟨s, rfl, Nat.le_refl _, rfl⟩
  case round =>
    obtain ⟨t, rfl, hts, hrel⟩ := hrel
    have HR := Lib.hid hrel
    clear hrel
    by_cases hgo : ∃ h : 0 < t.size, blank t[0] = true
    · obtain ⟨h0, hb⟩ := hgo
      have HR2 := Lib.hid (HR.out.trans (front_step t h0 hb))
      have HB := Lib.hid hb
      clear hb
      go_wp2_with (go_at_call 118; refine (refBlank_any _ _).mono ?_; rintro e w' ⟨rfl, rfl⟩; rw [HB.out])
      go_round
      case rel => exact ⟨_, rfl, by rw [front_size]; omega, HR2.out⟩
      case measure => simp only [sizeOf']; rw [front_size]; omega
    · have HL := Lib.hid (show trim s.data.toList = rtrim t.data.toList from by
        unfold trim; rw [HR.out]
        by_cases h0 : 0 < t.size
        · rw [front_stop t h0 (by cases hb : blank t[0] with | true => exact absurd ⟨h0, hb⟩ hgo | false => rfl)]
        · rw [list_nil t h0]; rfl)
      by_cases h0 : 0 < t.size
      all_goals
        first | (have HB := Lib.hid (show blank t[0] = false from by cases hb : blank t[0] with | true => exact absurd ⟨h0, hb⟩ hgo | false => rfl)) | skip
        clear hgo HR
        go_wp2_with (go_at_call 118; refine (refBlank_any _ _).mono ?_; rintro e w' ⟨rfl, rfl⟩; rw [HB.out])
        go_loop [0] (fun v => ∃ u : ByteArray, v = .string u ∧ u.size ≤ s.size ∧ rtrim t.data.toList = rtrim u.data.toList) (fun v => sizeOf' v)
        case atStart => exact ⟨t, rfl, hts, rfl⟩
        case round =>
          obtain ⟨u, rfl, hus, hrel⟩ := hrel
          have HR := Lib.hid hrel
          clear hrel
          by_cases hgo : ∃ h : 0 < u.size, blank (u[u.size - 1]) = true
          · obtain ⟨h0, hb⟩ := hgo
            have HR2 := Lib.hid (HR.out.trans (back_step u h0 hb))
            have HB := Lib.hid hb
            clear hb
            go_wp2_with (go_at_call 118; refine (refBlank_any _ _).mono ?_; rintro e w' ⟨rfl, rfl⟩; rw [HB.out])
            go_round
            case rel => exact ⟨_, rfl, by rw [back_size]; omega, HR2.out⟩
            case measure => simp only [sizeOf']; rw [back_size]; omega
          · have HE := Lib.hid (show u = ⟨(trim s.data.toList).toArray⟩ from by
              apply bytes_ext
              rw [HL.out, HR.out]
              by_cases h0 : 0 < u.size
              · rw [back_stop u h0 (by cases hb : blank (u[u.size - 1]) with | true => exact absurd ⟨h0, hb⟩ hgo | false => rfl)]
              · rw [list_nil u h0]; rfl)
            by_cases h0 : 0 < u.size
            all_goals
              first | (have HB := Lib.hid (show blank (u[u.size - 1]) = false from by cases hb : blank (u[u.size - 1]) with | true => exact absurd ⟨h0, hb⟩ hgo | false => rfl)) | skip
              clear hgo HR
              go_wp2_with (go_at_call 118; refine (refBlank_any _ _).mono ?_; rintro e w' ⟨rfl, rfl⟩; rw [HB.out])
              go_ret
              exact ⟨by rw [← HE.out]; rfl, rfl⟩
end Go.Proofs.YtcolnidgembniaaGreatDoor.Tk
/-
  Which bytes may stand in a token and in a value; tokens and values: plain functions. No program, no condition.
-/
namespace Go.Proofs.YtcolnidgembniaaGreatDoor.Tk

/-- May a byte stand in a token? -/
def tchar (c : UInt8) : Bool :=
  (97 ≤ c.toNat && c.toNat ≤ 122) || (65 ≤ c.toNat && c.toNat ≤ 90) || (48 ≤ c.toNat && c.toNat ≤ 57) ||
  [33, 35, 36, 37, 38, 39, 42, 43, 45, 46, 94, 95, 96, 124, 126].contains c.toNat
/-- May a byte stand in a quoted text? -/
def textByte (c : UInt8) : Bool := c.toNat == 9 || (32 ≤ c.toNat && c.toNat != 127)
def isTok (l : Bs) : Bool := !l.isEmpty && l.all tchar
def isVal (l : Bs) : Bool := l.all textByte && (l.isEmpty || (!blank (l.headD 0) && !blank (l.getLastD 0)))

theorem take_snoc (s : ByteArray) (k : Nat) (h : k < s.size) : s.data.toList.take (k + 1) = s.data.toList.take k ++ [s[k]] := by
  rw [List.take_succ_eq_append_getElem (by simpa using h)]; rfl
theorem all_snoc (p : UInt8 → Bool) (s : ByteArray) (k : Nat) (h : k < s.size) : (s.data.toList.take (k + 1)).all p = ((s.data.toList.take k).all p && p s[k]) := by
  rw [take_snoc s k h, List.all_append]; simp
theorem not_all (p : UInt8 → Bool) (s : ByteArray) (k : Nat) (h : k < s.size) (hd : p s[k] = false) : s.data.toList.all p = false := by
  rw [List.all_eq_false]
  exact ⟨s[k], by show s.data[k] ∈ _; simp, by simp [hd]⟩
theorem all_of_take {p : UInt8 → Bool} {s : ByteArray} (h : (s.data.toList.take s.size).all p = true) : s.data.toList.all p = true := by
  rwa [List.take_of_length_le (by simp)] at h
theorem nil_of_size {s : ByteArray} (h : s.size = 0) : s.data.toList = [] := by
  rw [← List.length_eq_zero_iff]; simpa using h
theorem cons_of_size {s : ByteArray} (h : 0 < s.size) : s.data.toList.isEmpty = false := by
  cases hl : s.data.toList with
  | nil => have h1 : s.data.toList.length = 0 := by rw [hl]; rfl
           rw [Array.length_toList] at h1
           have h2 : s.size = s.data.size := rfl
           omega
  | cons => rfl
theorem text_empty {s : ByteArray} (h : s.size = 0) : s.toList = [] := by rw [ByteArray.toList_eq]; exact nil_of_size h
theorem text_full {s : ByteArray} (h : 0 < s.size) : s.toList.isEmpty = false := by rw [ByteArray.toList_eq]; exact cons_of_size h
theorem isTok_nil {s : ByteArray} (h : s.size = 0) : isTok s.data.toList = false := by rw [nil_of_size h]; rfl
theorem isTok_no (s : ByteArray) (k : Nat) (h : k < s.size) (hd : tchar s[k] = false) : isTok s.data.toList = false := by
  unfold isTok; rw [not_all tchar s k h hd]; simp
theorem isTok_yes {s : ByteArray} (h : 0 < s.size) (ha : (s.data.toList.take s.size).all tchar = true) : isTok s.data.toList = true := by
  unfold isTok; rw [cons_of_size h, all_of_take ha]; rfl

theorem head_eq {s : ByteArray} (h : 0 < s.size) : s.data.toList.headD 0 = s[0] := by
  have : s.data.toList[0]? = some s[0] := by rw [List.getElem?_eq_getElem (by simpa using h)]; rfl
  rw [List.headD_eq_head?_getD, List.head?_eq_getElem?, this]; rfl
theorem last_eq {s : ByteArray} (h : 0 < s.size) : s.data.toList.getLastD 0 = s[s.size - 1] := by
  have hl : s.data.toList.length = s.size := by simp
  have : s.data.toList[s.size - 1]? = some s[s.size - 1] := by rw [List.getElem?_eq_getElem (by omega)]; rfl
  rw [List.getLastD_eq_getLast?, List.getLast?_eq_getElem?, hl, this]; rfl
theorem isVal_nil {s : ByteArray} (h : s.size = 0) : isVal s.data.toList = true := by rw [nil_of_size h]; rfl
theorem isVal_no (s : ByteArray) (k : Nat) (h : k < s.size) (hd : textByte s[k] = false) : isVal s.data.toList = false := by
  unfold isVal; rw [not_all textByte s k h hd]; rfl
theorem isVal_all {s : ByteArray} (h : 0 < s.size) (ha : (s.data.toList.take s.size).all textByte = true) : isVal s.data.toList = (!blank s[0] && !blank s[s.size - 1]) := by
  unfold isVal; rw [cons_of_size h, all_of_take ha, head_eq h, last_eq h]; rfl

theorem text_yes {c : UInt8} (h : textByte c = true) : (c.toNat : Int) = 9 ∨ (32 ≤ (c.toNat : Int) ∧ (c.toNat : Int) ≠ 127) := by
  simp [textByte] at h; omega
theorem text_no {c : UInt8} (h : textByte c = false) : (c.toNat : Int) ≠ 9 ∧ ((c.toNat : Int) < 32 ∨ (c.toNat : Int) = 127) := by
  simp [textByte] at h; omega
/-- As the reference's Value asks it. -/
theorem text_ref (c : UInt8) : textByte c = (blank c || (33 ≤ c.toNat && c.toNat != 127)) := by
  have h : ∀ n : Nat, n < 256 → textByte (UInt8.ofNat n) = (blank (UInt8.ofNat n) || (33 ≤ (UInt8.ofNat n).toNat && (UInt8.ofNat n).toNat != 127)) := by decide +kernel
  have := h c.toNat c.toNat_lt
  rwa [UInt8.ofNat_toNat] at this
theorem tchar_cases (c : UInt8) : (97 ≤ c.toNat ∧ c.toNat ≤ 122) ∨ (65 ≤ c.toNat ∧ c.toNat ≤ 90) ∨ (48 ≤ c.toNat ∧ c.toNat ≤ 57) ∨ c.toNat ∈ [33, 35, 36, 37, 38, 39, 42, 43, 45, 46, 94, 95, 96, 124, 126] ∨ tchar c = false := by
  cases h : tchar c with
  | false => simp
  | true => simp [tchar] at h; simp; omega
theorem tchar_true {c : UInt8} (h : (97 ≤ c.toNat ∧ c.toNat ≤ 122) ∨ (65 ≤ c.toNat ∧ c.toNat ≤ 90) ∨ (48 ≤ c.toNat ∧ c.toNat ≤ 57) ∨ c.toNat ∈ [33, 35, 36, 37, 38, 39, 42, 43, 45, 46, 94, 95, 96, 124, 126]) : tchar c = true := by
  simp at h; simp [tchar]; omega
end Go.Proofs.YtcolnidgembniaaGreatDoor.Tk
/-
  token.Is, token.textByte, token.Value and their references gatepostref01.tchar, Is, Value: what each returns. Condition: the table of token bytes holds what the program's text lays.
-/
namespace Go.Proofs.YtcolnidgembniaaGreatDoor.Tk
open Go.RowKit

/-- The table's cells, as its initialiser lays them. -/
def Tab (w : World) : Prop := ∀ n : Nat, n < 128 → w.cell? ⟨0, n, none⟩ = some (.bool (tchar (UInt8.ofNat n)))
theorem Tab.byte {w : World} (h : Tab w) (c : UInt8) (hc : c.toNat < 128) : w.cell? ⟨0, c.toNat, none⟩ = some (.bool (tchar c)) := by
  have := h c.toNat hc
  rwa [UInt8.ofNat_toNat] at this
theorem Tab.lt {w : World} (h : Tab w) : 0 < w.heap.size := World.block_lt_of_cell? w _ (h 0 (by omega))
theorem Tab.below {B : Nat} {w w' : World} (h : Tab w) (hb : Below B w w') (hB : 0 < B) : Tab w' := fun n hn => (hb.cell (p := ⟨0, n, none⟩) hB).trans (h n hn)
theorem tchar_great (c : UInt8) (h : ¬ c.toNat < 128) : tchar c = false := by
  cases hc : tchar c with
  | false => rfl
  | true => simp [tchar] at hc; omega

set_option maxHeartbeats 1000000 in
theorem is_any (s : ByteArray) (w : World) (hs : s.size ≤ maxLen) (hT : Tab w) :
    Calls Tryz.prog 61 #[.string s] w fun e w' => e = .returned (.bool (isTok s.data.toList)) ∧ w = w' := by
  unfold maxLen at hs
  have HT := Lib.hid hT
  clear hT
  go_enter Tryz.func61, Tryz.ntmps61
  go_wp2_with fail
  go_loop [6] (fun i => ∃ k : Nat, k ≤ s.size ∧ i = .int .i64 (k : Int) ∧ (s.data.toList.take k).all tchar = true) (fun i => s.size - (intOf i).toNat)
  case atStart => exact ⟨0, Nat.zero_le _, rfl, rfl⟩
  case round =>
    obtain ⟨k, hk, rfl, hal⟩ := hrel
    have HAL := Lib.hid hal
    clear hal
    by_cases hlt : k < s.size
    · by_cases h128 : s[k].toNat < 128
      · have hcell := HT.out.byte s[k] h128
        have h128' : ¬ (128 : Int) ≤ (s[k].toNat : Int) := by omega
        cases ht : tchar s[k] with
        | true =>
          have HA := Lib.hid (show (s.data.toList.take (k + 1)).all tchar = true from by rw [all_snoc tchar s k hlt, HAL.out, ht]; rfl)
          rw [ht] at hcell
          clear ht
          go_wp2_with fail
          go_round
          case rel => exact ⟨k + 1, by omega, by go_num, HA.out⟩
          case measure => simp [intOf]; omega
        | false =>
          have HN := Lib.hid (isTok_no s k hlt ht)
          rw [ht] at hcell
          clear ht
          go_wp2_with fail
          go_ret
          exact ⟨by rw [HN.out]; rfl, rfl⟩
      · have HN := Lib.hid (isTok_no s k hlt (tchar_great _ h128))
        have h128' : (128 : Int) ≤ (s[k].toNat : Int) := by omega
        clear h128
        go_wp2_with fail
        go_ret
        exact ⟨by rw [HN.out]; rfl, rfl⟩
    · by_cases h0 : s.size = 0
      · have he := text_empty h0
        have HN := Lib.hid (isTok_nil h0)
        clear h0
        go_wp2_with fail
        go_ret
        exact ⟨by rw [HN.out]; rfl, rfl⟩
      · obtain rfl : k = s.size := by omega
        have he := text_full (s := s) (by omega)
        have HY := Lib.hid (isTok_yes (by omega) HAL.out)
        clear h0
        go_wp2_with fail
        go_ret
        exact ⟨by rw [HY.out]; rfl, rfl⟩

set_option maxHeartbeats 4000000 in
theorem tchar_rest (c : UInt8) (w : World) (h1 : ¬ (97 ≤ c.toNat ∧ c.toNat ≤ 122)) (h2 : ¬ (65 ≤ c.toNat ∧ c.toNat ≤ 90)) (h3 : ¬ (48 ≤ c.toNat ∧ c.toNat ≤ 57)) :
    Calls Tryz.prog 117 #[.int .u8 (c.toNat : Int)] w fun e w' => e = .returned (.bool (tchar c)) ∧ w = w' := by
  by_cases h4 : c.toNat ∈ [33, 35, 36, 37, 38, 39, 42, 43, 45, 46, 94, 95, 96, 124, 126]
  · have HT := Lib.hid (tchar_true (.inr (.inr (.inr h4))))
    have h5 : (c.toNat : Int) = 33 ∨ (c.toNat : Int) = 35 ∨ (c.toNat : Int) = 36 ∨ (c.toNat : Int) = 37 ∨ (c.toNat : Int) = 38 ∨ (c.toNat : Int) = 39 ∨ (c.toNat : Int) = 42 ∨ (c.toNat : Int) = 43 ∨ (c.toNat : Int) = 45 ∨ (c.toNat : Int) = 46 ∨ (c.toNat : Int) = 94 ∨ (c.toNat : Int) = 95 ∨ (c.toNat : Int) = 96 ∨ (c.toNat : Int) = 124 ∨ (c.toNat : Int) = 126 := by simp at h4; omega
    clear h1 h2 h3 h4
    rcases h5 with e | e | e | e | e | e | e | e | e | e | e | e | e | e | e
    all_goals
      go_enter Tryz.func117, Tryz.ntmps117
      go_wp2_with fail
      go_ret
      exact ⟨by rw [HT.out]; rfl, rfl⟩
  · have HT := Lib.hid (show tchar c = false from by
      rcases tchar_cases c with h | h | h | h | h
      · exact absurd h h1
      · exact absurd h h2
      · exact absurd h h3
      · exact absurd h h4
      · exact h)
    have n33 : ((c.toNat : Int) == 33) = false := beq_eq_false_iff_ne.2 (by intro e; apply h4; simp; omega)
    have n35 : ((c.toNat : Int) == 35) = false := beq_eq_false_iff_ne.2 (by intro e; apply h4; simp; omega)
    have n36 : ((c.toNat : Int) == 36) = false := beq_eq_false_iff_ne.2 (by intro e; apply h4; simp; omega)
    have n37 : ((c.toNat : Int) == 37) = false := beq_eq_false_iff_ne.2 (by intro e; apply h4; simp; omega)
    have n38 : ((c.toNat : Int) == 38) = false := beq_eq_false_iff_ne.2 (by intro e; apply h4; simp; omega)
    have n39 : ((c.toNat : Int) == 39) = false := beq_eq_false_iff_ne.2 (by intro e; apply h4; simp; omega)
    have n42 : ((c.toNat : Int) == 42) = false := beq_eq_false_iff_ne.2 (by intro e; apply h4; simp; omega)
    have n43 : ((c.toNat : Int) == 43) = false := beq_eq_false_iff_ne.2 (by intro e; apply h4; simp; omega)
    have n45 : ((c.toNat : Int) == 45) = false := beq_eq_false_iff_ne.2 (by intro e; apply h4; simp; omega)
    have n46 : ((c.toNat : Int) == 46) = false := beq_eq_false_iff_ne.2 (by intro e; apply h4; simp; omega)
    have n94 : ((c.toNat : Int) == 94) = false := beq_eq_false_iff_ne.2 (by intro e; apply h4; simp; omega)
    have n95 : ((c.toNat : Int) == 95) = false := beq_eq_false_iff_ne.2 (by intro e; apply h4; simp; omega)
    have n96 : ((c.toNat : Int) == 96) = false := beq_eq_false_iff_ne.2 (by intro e; apply h4; simp; omega)
    have n124 : ((c.toNat : Int) == 124) = false := beq_eq_false_iff_ne.2 (by intro e; apply h4; simp; omega)
    have n126 : ((c.toNat : Int) == 126) = false := beq_eq_false_iff_ne.2 (by intro e; apply h4; simp; omega)
    have hr : (c.toNat : Int) < 48 ∨ (58 ≤ (c.toNat : Int) ∧ (c.toNat : Int) ≤ 64) ∨ (91 ≤ (c.toNat : Int) ∧ (c.toNat : Int) ≤ 96) ∨ 123 ≤ (c.toNat : Int) := by omega
    clear h1 h2 h3 h4
    rcases hr with hr | ⟨hr, hr2⟩ | ⟨hr, hr2⟩ | hr
    all_goals
      go_enter Tryz.func117, Tryz.ntmps117
      go_wp2_with fail
      go_ret
      exact ⟨by rw [HT.out]; rfl, rfl⟩

set_option maxHeartbeats 2000000 in
theorem tchar_any (c : UInt8) (w : World) :
    Calls Tryz.prog 117 #[.int .u8 (c.toNat : Int)] w fun e w' => e = .returned (.bool (tchar c)) ∧ w = w' := by
  by_cases h1 : 97 ≤ c.toNat ∧ c.toNat ≤ 122
  · have HT := Lib.hid (tchar_true (.inl h1))
    have a1 : (97 : Int) ≤ (c.toNat : Int) := by omega
    have a2 : (c.toNat : Int) ≤ 122 := by omega
    clear h1
    go_enter Tryz.func117, Tryz.ntmps117
    go_wp2_with fail
    go_ret
    exact ⟨by rw [HT.out]; rfl, rfl⟩
  · by_cases h2 : 65 ≤ c.toNat ∧ c.toNat ≤ 90
    · have HT := Lib.hid (tchar_true (.inr (.inl h2)))
      have a1 : (65 : Int) ≤ (c.toNat : Int) := by omega
      have a2 : (c.toNat : Int) ≤ 90 := by omega
      clear h1 h2
      go_enter Tryz.func117, Tryz.ntmps117
      go_wp2_with fail
      go_ret
      exact ⟨by rw [HT.out]; rfl, rfl⟩
    · by_cases h3 : 48 ≤ c.toNat ∧ c.toNat ≤ 57
      · have HT := Lib.hid (tchar_true (.inr (.inr (.inl h3))))
        have a1 : (48 : Int) ≤ (c.toNat : Int) := by omega
        have a2 : (c.toNat : Int) ≤ 57 := by omega
        clear h1 h2 h3
        go_enter Tryz.func117, Tryz.ntmps117
        go_wp2_with fail
        go_ret
        exact ⟨by rw [HT.out]; rfl, rfl⟩
      · exact tchar_rest c w h1 h2 h3

set_option maxHeartbeats 1000000 in
theorem refIs_any (s : ByteArray) (w : World) (hs : s.size ≤ maxLen) :
    Calls Tryz.prog 92 #[.string s] w fun e w' => e = .returned (.bool (isTok s.data.toList)) ∧ w = w' := by
  unfold maxLen at hs
  go_enter Tryz.func92, Tryz.ntmps92
  go_wp2_with fail
  go_loop [3] (fun i => ∃ k : Nat, k ≤ s.size ∧ i = .int .i64 (k : Int) ∧ (s.data.toList.take k).all tchar = true) (fun i => s.size - (intOf i).toNat)
  case atStart => exact ⟨0, Nat.zero_le _, rfl, rfl⟩
  case round =>
    obtain ⟨k, hk, rfl, hal⟩ := hrel
    have HAL := Lib.hid hal
    clear hal
    by_cases hlt : k < s.size
    · cases ht : tchar s[k] with
      | true =>
        have HA := Lib.hid (show (s.data.toList.take (k + 1)).all tchar = true from by rw [all_snoc tchar s k hlt, HAL.out, ht]; rfl)
        have HT := Lib.hid ht
        clear ht
        go_wp2_with (go_at_call 117; refine (tchar_any _ _).mono ?_; rintro e w' ⟨rfl, rfl⟩; rw [HT.out])
        go_round
        case rel => exact ⟨k + 1, by omega, by go_num, HA.out⟩
        case measure => simp [intOf]; omega
      | false =>
        have HN := Lib.hid (isTok_no s k hlt ht)
        have HT := Lib.hid ht
        clear ht
        go_wp2_with (go_at_call 117; refine (tchar_any _ _).mono ?_; rintro e w' ⟨rfl, rfl⟩; rw [HT.out])
        go_ret
        exact ⟨by rw [HN.out]; rfl, rfl⟩
    · by_cases h0 : s.size = 0
      · have HN := Lib.hid (isTok_nil h0)
        have hd : decide (0 < s.size) = false := by rw [decide_eq_false_iff_not]; omega
        clear h0
        go_wp2_with fail
        go_ret
        exact ⟨by rw [HN.out]; rfl, rfl⟩
      · obtain rfl : k = s.size := by omega
        have HY := Lib.hid (isTok_yes (by omega) HAL.out)
        have hd : decide (0 < s.size) = true := by rw [decide_eq_true_iff]; omega
        clear h0
        go_wp2_with fail
        go_ret
        exact ⟨by rw [HY.out]; rfl, rfl⟩

theorem textByte_any (c : UInt8) (w : World) :
    Calls Tryz.prog 132 #[.int .u8 (c.toNat : Int)] w fun e w' => e = .returned (.bool (textByte c)) ∧ w = w' := by
  cases ht : textByte c with
  | true =>
    rcases text_yes ht with h | ⟨h1, h2⟩
    · have t1 : ((c.toNat : Int) == 9) = true := beq_iff_eq.2 h
      clear ht h
      go_enter Tryz.func132, Tryz.ntmps132
      go_wp2_with fail
      go_ret
      exact ⟨rfl, rfl⟩
    · have t1 : ((c.toNat : Int) == 9) = false := beq_eq_false_iff_ne.2 (by omega)
      have t2 : ((c.toNat : Int) != 127) = true := by rw [bne_iff_ne]; exact h2
      clear ht h2
      go_enter Tryz.func132, Tryz.ntmps132
      go_wp2_with fail
      go_ret
      exact ⟨rfl, rfl⟩
  | false =>
    obtain ⟨h1, h2⟩ := text_no ht
    have t1 : ((c.toNat : Int) == 9) = false := beq_eq_false_iff_ne.2 h1
    rcases h2 with h | h
    · clear ht h1
      go_enter Tryz.func132, Tryz.ntmps132
      go_wp2_with fail
      go_ret
      exact ⟨rfl, rfl⟩
    · have t2 : ((c.toNat : Int) != 127) = false := by rw [h]; rfl
      have t3 : (32 : Int) ≤ (c.toNat : Int) := by omega
      clear ht h1 h
      go_enter Tryz.func132, Tryz.ntmps132
      go_wp2_with fail
      go_ret
      exact ⟨rfl, rfl⟩
end Go.Proofs.YtcolnidgembniaaGreatDoor.Tk
/-
  What the contract of strconv.FormatInt asks of a table of math/bits: one cell. No condition.
-/
namespace Go.Proofs.YtcolnidgembniaaGreatDoor.Fr
open Go.RowKit
/-- The table's sixteenth cell. -/
def D64 (w : World) : Prop := w.cell? ⟨6, 15, none⟩ = some (.int .u8 4)
theorem D64.lt {w : World} (h : D64 w) : 6 < w.heap.size := World.block_lt_of_cell? w _ h
theorem D64.below {B : Nat} {w w' : World} (h : D64 w) (hb : Below B w w') (hB : 6 < B) : D64 w' := by
  unfold D64
  rw [hb.cell (p := ⟨6, 15, none⟩) hB]
  exact h
end Go.Proofs.YtcolnidgembniaaGreatDoor.Fr
/-
  Cutting a text at its commas, outside of quoted texts: the plain function, and its steps. No program, no condition.
-/
namespace Go.Proofs.YtcolnidgembniaaGreatDoor.Tk

/-- An element ahead of others: without its blanks, and not at all if it is then empty. -/
def put (own : Bs) (rest : List Bs) : List Bs := if trim own = [] then rest else trim own :: rest
/-- An element behind others. -/
def fin (out : List Bs) (own : Bs) : List Bs := if trim own = [] then out else out ++ [trim own]
theorem fin_put (out : List Bs) (own : Bs) (rest : List Bs) : fin out own ++ rest = out ++ put own rest := by
  unfold fin put; split <;> simp
theorem fin_length (out : List Bs) (own : Bs) : (fin out own).length ≤ out.length + 1 := by
  unfold fin; split <;> simp

/-- The elements; 'q': we are in a quoted text; 'own': what the element has so far. -/
def sp (q : Bool) (own : Bs) : Bs → Option (List Bs)
  | [] => if q then none else some (put own [])
  | c :: r =>
    if q then
      if c == 92 then
        match r with
        | [] => none
        | d :: r' => sp true (own ++ [c, d]) r'
      else sp (c != 34) (own ++ [c]) r
    else if c == 44 then (sp false [] r).map (put own) else sp (c == 34) (own ++ [c]) r
def splitOf (l : Bs) : Option (List Bs) := sp false [] l

/-- How many bytes come up to the quote that ends a quoted text, with it. -/
def qe : Bs → Option Nat
  | [] => none
  | c :: r =>
    if c == 34 then some 1
    else if c == 92 then
      match r with
      | [] => none
      | _ :: r' => (qe r').map (· + 2)
    else (qe r).map (· + 1)
theorem qe_back (r : Bs) : qe (92 :: r) = (qe (r.drop 1)).map (· + 2) := by
  cases r with
  | nil => simp [qe]
  | cons d r' => simp [qe]
theorem qe_end (r : Bs) : qe (34 :: r) = some 1 := by rw [qe.eq_def]; simp
theorem qe_other {c : UInt8} (r : Bs) (h1 : c ≠ 34) (h2 : c ≠ 92) : qe (c :: r) = (qe r).map (· + 1) := by
  rw [qe.eq_def]; simp [h1, h2]

theorem sp_nil (own : Bs) : sp false own [] = some (put own []) := by simp [sp]
theorem sp_nil_q (own : Bs) : sp true own [] = none := by simp [sp]
theorem sp_comma (own r : Bs) : sp false own (44 :: r) = (sp false [] r).map (put own) := by rw [sp.eq_def]; simp
theorem sp_open (own r : Bs) : sp false own (34 :: r) = sp true (own ++ [34]) r := by rw [sp.eq_def]; simp
theorem sp_other {c : UInt8} (own r : Bs) (h1 : c ≠ 44) (h2 : c ≠ 34) : sp false own (c :: r) = sp false (own ++ [c]) r := by
  have e : (c == 34) = false := by simpa using h2
  rw [sp.eq_def]; simp [h1, e]
theorem sp_q_back (own r : Bs) (d : UInt8) : sp true own (92 :: d :: r) = sp true (own ++ [92, d]) r := by rw [sp.eq_def]; simp
theorem sp_q_last (own : Bs) : sp true own [92] = none := by rw [sp.eq_def]; simp
theorem sp_q_close (own r : Bs) : sp true own (34 :: r) = sp false (own ++ [34]) r := by rw [sp.eq_def]; simp
theorem sp_q_other {c : UInt8} (own r : Bs) (h1 : c ≠ 34) (h2 : c ≠ 92) : sp true own (c :: r) = sp true (own ++ [c]) r := by
  have e : (c != 34) = true := by simpa using h1
  rw [sp.eq_def]; simp [h2, e]

/-- A quoted text is passed as a whole. -/
theorem sp_quote : ∀ (n : Nat) (r : Bs), r.length ≤ n → ∀ own, sp true own r = match qe r with | none => none | some m => sp false (own ++ r.take m) (r.drop m)
  | 0, r, h, own => by
    have : r = [] := List.length_eq_zero_iff.1 (by omega)
    subst this; simp [sp, qe]
  | n + 1, r, h, own => by
    match r with
    | [] => simp [sp, qe]
    | c :: r =>
      by_cases h1 : c = 34
      · subst h1; rw [sp_q_close, qe_end]; simp
      · by_cases h2 : c = 92
        · subst h2
          match r with
          | [] => rw [sp_q_last, qe_back]; simp [qe]
          | d :: r' =>
            rw [sp_q_back, qe_back, sp_quote n r' (by simp at h; omega)]
            simp only [List.drop_succ_cons, List.drop_zero]
            cases qe r' with
            | none => rfl
            | some m => simp
        · rw [sp_q_other _ _ h1 h2, qe_other _ h1 h2, sp_quote n r (by simp at h; omega)]
          cases qe r with
          | none => rfl
          | some m => simp
theorem sp_quote' (own r : Bs) : sp true own r = match qe r with | none => none | some m => sp false (own ++ r.take m) (r.drop m) := sp_quote _ r (Nat.le_refl _) own
theorem qe_le : ∀ (n : Nat) (r : Bs), r.length ≤ n → ∀ m, qe r = some m → 1 ≤ m ∧ m ≤ r.length
  | 0, r, h, m, hm => by
    have : r = [] := List.length_eq_zero_iff.1 (by omega)
    subst this; simp [qe] at hm
  | n + 1, r, h, m, hm => by
    match r with
    | [] => simp [qe] at hm
    | c :: r =>
      by_cases h1 : c = 34
      · subst h1; rw [qe_end] at hm; injection hm with hm; simp; omega
      · by_cases h2 : c = 92
        · subst h2
          match r with
          | [] => rw [qe_back] at hm; simp [qe] at hm
          | d :: r' =>
            rw [qe_back] at hm
            simp only [List.drop_succ_cons, List.drop_zero, Option.map_eq_some_iff] at hm
            obtain ⟨a, ha, rfl⟩ := hm
            have := qe_le n r' (by simp at h; omega) a ha
            simp; omega
        · rw [qe_other _ h1 h2, Option.map_eq_some_iff] at hm
          obtain ⟨a, ha, rfl⟩ := hm
          have := qe_le n r (by simp at h; omega) a ha
          simp; omega

/-! The steps over places of a text. -/
theorem drop_at (l : Bs) (k : Nat) (hk : k < l.length) : l.drop k = l[k] :: l.drop (k + 1) := List.drop_eq_getElem_cons hk
/-- What has been cut so far, and what is left. -/
def Left (l : Bs) (out : List Bs) (q : Bool) (own : Bs) (k : Nat) : Prop := splitOf l = (sp q own (l.drop k)).map (out ++ ·)
theorem Left.start (l : Bs) : Left l [] false [] 0 := by
  show splitOf l = Option.map _ (sp false [] (l.drop 0))
  rw [List.drop_zero]; unfold splitOf
  cases sp false [] l <;> simp
theorem Left.comma {l : Bs} {out : List Bs} {own : Bs} {k : Nat} (h : Left l out false own k) (hk : k < l.length) (hc : l[k] = 44) : Left l (fin out own) false [] (k + 1) := by
  unfold Left at *
  rw [h, drop_at l k hk, hc, sp_comma]
  cases sp false [] (l.drop (k + 1)) with
  | none => rfl
  | some x => simp [fin_put]
theorem Left.open {l : Bs} {out : List Bs} {own : Bs} {k : Nat} (h : Left l out false own k) (hk : k < l.length) (hc : l[k] = 34) : Left l out true (own ++ [34]) (k + 1) := by
  unfold Left at *
  rw [h, drop_at l k hk, hc, sp_open]
theorem Left.other {l : Bs} {out : List Bs} {own : Bs} {k : Nat} (h : Left l out false own k) (hk : k < l.length) (h1 : l[k] ≠ 44) (h2 : l[k] ≠ 34) : Left l out false (own ++ [l[k]]) (k + 1) := by
  unfold Left at *
  rw [h, drop_at l k hk, sp_other _ _ h1 h2]
theorem Left.qback {l : Bs} {out : List Bs} {own : Bs} {k : Nat} (h : Left l out true own k) (hk : k + 1 < l.length) (hc : l[k] = 92) : Left l out true (own ++ [92] ++ [l[k + 1]]) (k + 2) := by
  unfold Left at *
  rw [h, drop_at l k (by omega), hc, drop_at l (k + 1) hk, sp_q_back]; simp
theorem Left.qlast {l : Bs} {out : List Bs} {own : Bs} {k : Nat} (h : Left l out true own k) (hk : k < l.length) (hl : k + 1 = l.length) (hc : l[k] = 92) : Left l out true (own ++ [92]) (k + 1) := by
  unfold Left at *
  have : l.drop (k + 1) = [] := List.drop_eq_nil_of_le (by omega)
  rw [h, drop_at l k hk, hc, this, sp_q_last, sp_nil_q]
theorem Left.qclose {l : Bs} {out : List Bs} {own : Bs} {k : Nat} (h : Left l out true own k) (hk : k < l.length) (hc : l[k] = 34) : Left l out false (own ++ [34]) (k + 1) := by
  unfold Left at *
  rw [h, drop_at l k hk, hc, sp_q_close]
theorem Left.qother {l : Bs} {out : List Bs} {own : Bs} {k : Nat} (h : Left l out true own k) (hk : k < l.length) (h1 : l[k] ≠ 34) (h2 : l[k] ≠ 92) : Left l out true (own ++ [l[k]]) (k + 1) := by
  unfold Left at *
  rw [h, drop_at l k hk, sp_q_other _ _ h1 h2]
theorem Left.stop {l : Bs} {out : List Bs} {own : Bs} {k : Nat} (h : Left l out false own k) (hk : l.length ≤ k) : splitOf l = some (fin out own) := by
  unfold Left at h
  rw [h, List.drop_eq_nil_of_le hk, sp_nil]; simp [← fin_put]
theorem Left.qstop {l : Bs} {out : List Bs} {own : Bs} {k : Nat} (h : Left l out true own k) (hk : l.length ≤ k) : splitOf l = none := by
  unfold Left at h
  rw [h, List.drop_eq_nil_of_le hk, sp_nil_q]; rfl
theorem Left.quoteNone {l : Bs} {out : List Bs} {own : Bs} {k : Nat} (h : Left l out false own k) (hk : k < l.length) (hc : l[k] = 34) (hq : qe (l.drop (k + 1)) = none) : splitOf l = none := by
  have h1 := h.open hk hc
  unfold Left at h1
  rw [h1, sp_quote', hq]; rfl
theorem Left.quoteSome {l : Bs} {out : List Bs} {fr k m : Nat} (h : Left l out false ((l.take k).drop fr) k) (hf : fr ≤ k) (hk : k < l.length) (hc : l[k] = 34) (hq : qe (l.drop (k + 1)) = some m) :
    Left l out false ((l.take (k + m + 1)).drop fr) (k + m + 1) := by
  have hm := qe_le _ _ (Nat.le_refl _) _ hq
  have h1 := h.open hk hc
  unfold Left at *
  rw [h1, sp_quote', hq]
  have e1 : (l.drop (k + 1)).drop m = l.drop (k + m + 1) := by rw [List.drop_drop]; congr 1; omega
  have e2 : (l.take k).drop fr ++ [34] ++ (l.drop (k + 1)).take m = (l.take (k + m + 1)).drop fr := by
    have e3 : l.take (k + m + 1) = l.take k ++ ([34] ++ (l.drop (k + 1)).take m) := by
      rw [show k + m + 1 = k + (1 + m) from by omega, List.take_add, drop_at l k hk, hc]
      simp [Nat.add_comm 1 m]
    rw [e3, List.drop_append_of_le_length (by simp; omega)]; simp
  simp only [e1, e2]
theorem Left.otherPart {l : Bs} {out : List Bs} {fr k : Nat} (h : Left l out false ((l.take k).drop fr) k) (hf : fr ≤ k) (hk : k < l.length) (h1 : l[k] ≠ 44) (h2 : l[k] ≠ 34) : Left l out false ((l.take (k + 1)).drop fr) (k + 1) := by
  have := h.other hk h1 h2
  rw [part_snoc l fr (k + 1) (by omega) (by omega)]
  exact this
theorem Left.commaPart {l : Bs} {out : List Bs} {own : Bs} {k : Nat} (h : Left l out false own k) (hk : k < l.length) (hc : l[k] = 44) : Left l (fin out own) false ((l.take (k + 1)).drop (k + 1)) (k + 1) := by
  have := h.comma hk hc
  have e : (l.take (k + 1)).drop (k + 1) = [] := List.drop_eq_nil_of_le (List.length_take_le _ _)
  rw [e]; exact this
theorem put_length (own : Bs) (rest : List Bs) : (put own rest).length ≤ rest.length + 1 := by
  unfold put; split <;> simp
/-- There are no more elements than bytes, and one. -/
theorem sp_length : ∀ (n : Nat) (r : Bs), r.length ≤ n → ∀ q own ls, sp q own r = some ls → ls.length ≤ r.length + 1
  | 0, r, h, q, own, ls, hs => by
    have : r = [] := List.length_eq_zero_iff.1 (by omega)
    subst this
    cases q with
    | true => rw [sp_nil_q] at hs; cases hs
    | false => rw [sp_nil] at hs; injection hs with hs; subst hs; exact put_length own []
  | n + 1, r, h, q, own, ls, hs => by
    match r with
    | [] =>
      cases q with
      | true => rw [sp_nil_q] at hs; cases hs
      | false => rw [sp_nil] at hs; injection hs with hs; subst hs; exact put_length own []
    | c :: r =>
      have hr : r.length ≤ n := by simp at h; omega
      cases q with
      | false =>
        by_cases h44 : c = 44
        · subst h44
          rw [sp_comma, Option.map_eq_some_iff] at hs
          obtain ⟨x, hx, rfl⟩ := hs
          have h1 := sp_length n r hr _ _ _ hx
          have h2 := put_length own x
          simp; omega
        · by_cases h34 : c = 34
          · subst h34; rw [sp_open] at hs
            have := sp_length n r hr _ _ _ hs; simp; omega
          · rw [sp_other _ _ h44 h34] at hs
            have := sp_length n r hr _ _ _ hs; simp; omega
      | true =>
        by_cases h34 : c = 34
        · subst h34; rw [sp_q_close] at hs
          have := sp_length n r hr _ _ _ hs; simp; omega
        · by_cases h92 : c = 92
          · subst h92
            match r with
            | [] => rw [sp_q_last] at hs; cases hs
            | d :: r' =>
              rw [sp_q_back] at hs
              have := sp_length n r' (by simp at h; omega) _ _ _ hs; simp; omega
          · rw [sp_q_other _ _ h34 h92] at hs
            have := sp_length n r hr _ _ _ hs; simp; omega
theorem split_length {l : Bs} {ls : List Bs} (h : splitOf l = some ls) : ls.length ≤ l.length + 1 := sp_length _ l (Nat.le_refl _) _ _ _ h
end Go.Proofs.YtcolnidgembniaaGreatDoor.Tk
/-
  Header fields: plain functions on bytes and on lists of fields; what holds of them. No program, no condition.
-/
namespace Go.Proofs.YtcolnidgembniaaGreatDoor.Fd
open Tk

/-- Where the first colon stands; the length, if there is none. -/
def colIdx : Bs → Nat
  | [] => 0
  | c :: r => if c = 58 then 0 else colIdx r + 1
theorem colIdx_le (l : Bs) : colIdx l ≤ l.length := by
  induction l with
  | nil => exact Nat.le_refl _
  | cons c r ih => unfold colIdx; split <;> simp; omega
theorem colIdx_at (l : Bs) (h : colIdx l < l.length) : l[colIdx l] = 58 := by
  induction l with
  | nil => simp at h
  | cons c r ih =>
    unfold colIdx at h ⊢
    by_cases hc : c = 58
    · simp [hc]
    · simp only [hc, if_false] at h ⊢
      simp only [List.length_cons] at h
      exact ih (by omega)
theorem colIdx_before (l : Bs) (j : Nat) (hj : j < colIdx l) : l[j]'(by have := colIdx_le l; omega) ≠ 58 := by
  induction l generalizing j with
  | nil => simp [colIdx] at hj
  | cons c r ih =>
    by_cases hc : c = 58
    · simp [colIdx, hc] at hj
    · cases j with
      | zero => simpa using hc
      | succ j =>
        simp only [colIdx, hc, if_false] at hj
        simpa using ih j (by omega)
/-- A place ahead of which there is no colon, and which has one, or is the end. -/
theorem colIdx_is (l : Bs) (k : Nat) (hk : k ≤ l.length) (h1 : ∀ j (hj : j < k), l[j]'(by omega) ≠ 58) (h2 : ∀ h : k < l.length, l[k] = 58) : colIdx l = k := by
  rcases Nat.lt_trichotomy (colIdx l) k with h | h | h
  · exact absurd (colIdx_at l (by omega)) (h1 _ h)
  · exact h
  · have := colIdx_le l
    exact absurd (h2 (by omega)) (colIdx_before l k h)
theorem indexByte_eq (l : Bs) : Lib.indexByte l 58 = if colIdx l < l.length then (colIdx l : Int) else -1 := by
  induction l with
  | nil => simp [Lib.indexByte, colIdx]
  | cons c r ih =>
    unfold Lib.indexByte colIdx
    by_cases hc : c = 58
    · simp [hc]
    · have hc' : (c == 58) = false := by simpa using hc
      simp only [hc', hc, if_false, ih, List.length_cons, Bool.false_eq_true]
      by_cases h : colIdx r < r.length
      · have h2 : colIdx r + 1 < r.length + 1 := by omega
        have h3 : (((colIdx r : Nat) : Int) == -1) = false := beq_eq_false_iff_ne.2 (by omega)
        simp only [h, h2, if_true, h3, Bool.false_eq_true, if_false]; omega
      · have h2 : ¬ colIdx r + 1 < r.length + 1 := by omega
        simp [h, h2]


/-! Lists of fields. -/
/-- A field: its name, its value. -/
abbrev Fl := ByteArray × ByteArray
/-- Are two texts alike but for the size of letters? -/
def alike (a b : Bs) : Bool := lower a == lower b
/-- Has a field this name? -/
def has (nm : Bs) (f : Fl) : Bool := alike f.1.data.toList nm
/-- The fields without those of a name. -/
def del (fs : List Fl) (nm : Bs) : List Fl := fs.filter fun f => !has nm f
/-- The values of a name. -/
def sel (fs : List Fl) (nm : Bs) : List Bs := (fs.filter (has nm)).map fun f => f.2.data.toList
/-- Texts with a comma and a byte 32 between. -/
def joinC : List Bs → Bs
  | [] => []
  | [x] => x
  | x :: y :: r => x ++ [44, 32] ++ joinC (y :: r)
def getT (fs : List Fl) (nm : Bs) : Bs := joinC (sel fs nm)
def getN (fs : List Fl) (nm : Bs) : Nat := (sel fs nm).length
/-- How many fields, and how many bytes in them. -/
def tot (fs : List Fl) : Nat := (fs.map fun f => f.1.size + f.2.size + 1).sum
/-- The fields that have none of these names. -/
def without (fs : List Fl) (ns : List Bs) : List Fl := fs.filter fun f => !ns.any fun n => has n f

theorem joinC_snoc (xs : List Bs) (y : Bs) : joinC (xs ++ [y]) = if xs = [] then y else joinC xs ++ [44, 32] ++ y := by
  induction xs with
  | nil => simp [joinC]
  | cons x r ih =>
    cases r with
    | nil => simp [joinC]
    | cons z r =>
      have h : joinC (x :: z :: r ++ [y]) = x ++ [44, 32] ++ joinC (z :: r ++ [y]) := by simp [joinC]
      rw [h, ih]
      simp [joinC]
theorem joinC_length (xs : List Bs) : (joinC xs).length ≤ (xs.map fun x => x.length + 2).sum := by
  induction xs with
  | nil => simp [joinC]
  | cons x r ih =>
    cases r with
    | nil => simp [joinC]
    | cons z r =>
      have h : joinC (x :: z :: r) = x ++ [44, 32] ++ joinC (z :: r) := by simp [joinC]
      rw [h, List.map_cons, List.sum_cons]
      simp only [List.length_append, List.length_cons, List.length_nil] at ih ⊢
      omega

theorem take_next {α : Type} (l : List α) (k : Nat) (h : k < l.length) : l.take (k + 1) = l.take k ++ [l[k]] := by
  rw [List.take_succ_eq_append_getElem h]
theorem tot_cons (f : Fl) (r : List Fl) : tot (f :: r) = (f.1.size + f.2.size + 1) + tot r := by simp [tot]
theorem tot_append (a b : List Fl) : tot (a ++ b) = tot a + tot b := by simp [tot]
theorem tot_len (fs : List Fl) : fs.length ≤ tot fs := by
  induction fs with
  | nil => simp
  | cons f r ih => rw [tot_cons, List.length_cons]; omega
theorem tot_at (fs : List Fl) (k : Nat) (h : k < fs.length) : fs[k].1.size + fs[k].2.size + 1 ≤ tot fs := by
  induction fs generalizing k with
  | nil => simp at h
  | cons f r ih =>
    rw [tot_cons]
    cases k with
    | zero => simp only [List.getElem_cons_zero]; omega
    | succ k => have := ih k (by simpa using h); simp only [List.getElem_cons_succ]; omega
theorem tot_take (fs : List Fl) (k : Nat) : tot (fs.take k) ≤ tot fs := by
  have := tot_append (fs.take k) (fs.drop k)
  rw [List.take_append_drop] at this; omega
theorem tot_filter (p : Fl → Bool) (fs : List Fl) : tot (fs.filter p) ≤ tot fs := by
  induction fs with
  | nil => simp
  | cons f r ih =>
    rw [List.filter_cons, tot_cons]
    split
    · rw [tot_cons]; omega
    · omega
theorem sel_sum (fs : List Fl) (nm : Bs) : ((sel fs nm).map fun x => x.length + 2).sum ≤ 2 * tot fs := by
  unfold sel
  induction fs with
  | nil => simp
  | cons f r ih =>
    rw [List.filter_cons, tot_cons]
    have e : f.2.data.toList.length = f.2.size := by simp
    split
    · simp only [List.map_cons, List.sum_cons]; omega
    · omega
theorem getT_length (fs : List Fl) (nm : Bs) : (getT fs nm).length ≤ 2 * tot fs := Nat.le_trans (joinC_length _) (sel_sum fs nm)

theorem filter_next {α : Type} (p : α → Bool) (l : List α) (k : Nat) (h : k < l.length) : (l.take (k + 1)).filter p = (l.take k).filter p ++ if p l[k] then [l[k]] else [] := by
  rw [take_next l k h, List.filter_append]; congr 1; by_cases hp : p l[k] <;> simp [hp]
theorem sel_next_yes (fs : List Fl) (nm : Bs) (k : Nat) (h : k < fs.length) (hp : has nm fs[k] = true) : sel (fs.take (k + 1)) nm = sel (fs.take k) nm ++ [fs[k].2.data.toList] := by
  unfold sel; rw [filter_next _ _ _ h, if_pos hp]; simp
theorem sel_next_no (fs : List Fl) (nm : Bs) (k : Nat) (h : k < fs.length) (hp : has nm fs[k] = false) : sel (fs.take (k + 1)) nm = sel (fs.take k) nm := by
  unfold sel; rw [filter_next _ _ _ h, hp]; simp
theorem getT_next_first (fs : List Fl) (nm : Bs) (k : Nat) (h : k < fs.length) (hp : has nm fs[k] = true) (h0 : getN (fs.take k) nm = 0) : getT (fs.take (k + 1)) nm = fs[k].2.data.toList := by
  unfold getT; rw [sel_next_yes fs nm k h hp, joinC_snoc, if_pos (List.length_eq_zero_iff.1 h0)]
theorem getT_next_more (fs : List Fl) (nm : Bs) (k : Nat) (h : k < fs.length) (hp : has nm fs[k] = true) (h0 : getN (fs.take k) nm ≠ 0) : getT (fs.take (k + 1)) nm = getT (fs.take k) nm ++ [44, 32] ++ fs[k].2.data.toList := by
  unfold getT; rw [sel_next_yes fs nm k h hp, joinC_snoc, if_neg (fun e => h0 (by unfold getN; rw [e]; rfl))]
theorem getN_next_yes (fs : List Fl) (nm : Bs) (k : Nat) (h : k < fs.length) (hp : has nm fs[k] = true) : getN (fs.take (k + 1)) nm = getN (fs.take k) nm + 1 := by
  unfold getN; rw [sel_next_yes fs nm k h hp]; simp
theorem get_next_no (fs : List Fl) (nm : Bs) (k : Nat) (h : k < fs.length) (hp : has nm fs[k] = false) : getT (fs.take (k + 1)) nm = getT (fs.take k) nm ∧ getN (fs.take (k + 1)) nm = getN (fs.take k) nm := by
  unfold getT getN; rw [sel_next_no fs nm k h hp]; exact ⟨rfl, rfl⟩
theorem getT_zero (fs : List Fl) (nm : Bs) : getT (fs.take 0) nm = [] ∧ getN (fs.take 0) nm = 0 := by simp [getT, getN, sel, joinC]
theorem getN_le (fs : List Fl) (nm : Bs) : getN fs nm ≤ fs.length := by unfold getN sel; simp [List.length_filter_le]
end Go.Proofs.YtcolnidgembniaaGreatDoor.Fd
/-
  strings.Cut at ":", as the library's own text has them: what each returns. Condition: a text of at most 2^47 bytes.
-/
namespace Go.Proofs.YtcolnidgembniaaGreatDoor.Fd
open Go.RowKit Tk

theorem run_idx (args : Array Value) (w : World) : (callFunc 147 args).run Tryz.prog w = ((Extern.BytealgIndexByte.indexByte args).run Tryz.prog w).andThen fun v w' => .ok (.value v) w' :=
  run_callFunc_extern Tryz.func147 (by kernel_rfl) (by kernel_rfl) (by kernel_rfl) (e := Extern.BytealgIndexByte.indexByte) (by kernel_rfl) args w

set_option maxRecDepth 100000 in
theorem indexByte_any (s : ByteArray) (c : UInt8) (w : World) :
    Calls Tryz.prog 136 #[.string s, .int .u8 (c.toNat : Int)] w fun e w' => e = .returned (.int .i64 (Lib.indexByte s.data.toList c)) ∧ w = w' := by
  have hc : ((c.toNat : Int).toNat).toUInt8 = c := by simp
  go_enter Tryz.func136, Tryz.ntmps136
  go_wp2
  rw [run_idx, Lib.run_indexByteString, hc]
  simp only [Result.andThen]
  rw [Oper.upon_value]
  go_wp2
  go_ret
  exact ⟨rfl, rfl⟩

theorem eq_text_ne {s : ByteArray} (h : s ≠ ⟨#[58]⟩) : (([58] : List UInt8) == s.toList) = false := by
  rw [beq_eq_false_iff_ne, ByteArray.toList_eq]; intro e; apply h
  cases s with
  | mk d => cases d with
    | mk l => simp at e; subst e; rfl

set_option maxHeartbeats 1000000 in
theorem index_any (s : ByteArray) (w : World) :
    Calls Tryz.prog 131 #[.string s, .string ⟨#[58]⟩] w fun e w' => e = .returned (.int .i64 (Lib.indexByte s.data.toList 58)) ∧ w = w' := by
  by_cases he : s = ⟨#[58]⟩
  · have h1 : (([58] : List UInt8) == s.toList) = true := by rw [he]; simp
    have HV := Lib.hid (show Lib.indexByte s.data.toList 58 = 0 from by rw [he]; rfl)
    clear he
    go_enter Tryz.func131, Tryz.ntmps131
    go_wp2_with fail
    go_ret
    exact ⟨by rw [HV.out]; rfl, rfl⟩
  · have h1 := eq_text_ne he
    clear he
    go_enter Tryz.func131, Tryz.ntmps131
    go_wp2_with fail
    refine (indexByte_any s 58 _).mono ?_
    rintro e w' ⟨rfl, rfl⟩
    go_wp2_with fail
    go_ret
    exact ⟨rfl, rfl⟩

/-- What Cut at ":" answers. -/
def cutVal (s : ByteArray) : Value :=
  if colIdx s.data.toList < s.size then .tuple #[.string (s.extract 0 (colIdx s.data.toList)), .string (s.extract (colIdx s.data.toList + 1) s.size), .bool true]
  else .tuple #[.string s, .string ⟨#[]⟩, .bool false]

set_option maxHeartbeats 1000000 in
theorem cutLite_any (s : ByteArray) (w : World) (hs : s.size ≤ maxLen) :
    Calls Tryz.prog 121 #[.string s, .string ⟨#[58]⟩] w fun e w' => e = .returned (cutVal s) ∧ ∃ n, w' = w.drewN n := by
  unfold maxLen at hs
  have hlen : s.data.toList.length = s.size := by simp
  obtain ⟨k, hk⟩ : ∃ k, k = colIdx s.data.toList := ⟨_, rfl⟩
  by_cases h : k < s.size
  · have HV := Lib.hid (show cutVal s = .tuple #[.string (s.extract 0 k), .string (s.extract (k + 1) s.size), .bool true] from by unfold cutVal; rw [← hk, if_pos h])
    have HI := Lib.hid (show Lib.indexByte s.data.toList 58 = (k : Int) from by rw [indexByte_eq, ← hk, if_pos (by omega)])
    clear hk hlen
    go_enter Tryz.func121, Tryz.ntmps121
    go_wp2_with fail
    refine (index_any s _).mono ?_
    rintro e w' ⟨rfl, rfl⟩
    rw [HI.out]
    go_wp2_with fail
    go_quiet (fail)
    go_wp2_with fail
    go_ret3
    exact ⟨by rw [HV.out]; rfl, _, rfl⟩
  · have HV := Lib.hid (show cutVal s = .tuple #[.string s, .string ⟨#[]⟩, .bool false] from by unfold cutVal; rw [← hk, if_neg h])
    have HI := Lib.hid (show Lib.indexByte s.data.toList 58 = -1 from by rw [indexByte_eq, ← hk, if_neg (by omega)])
    clear hk hlen
    go_enter Tryz.func121, Tryz.ntmps121
    go_wp2_with fail
    refine (index_any s _).mono ?_
    rintro e w' ⟨rfl, rfl⟩
    rw [HI.out]
    go_wp2_with fail
    go_ret3
    exact ⟨by rw [HV.out]; rfl, 0, rfl⟩
theorem cut_any (s : ByteArray) (w : World) (hs : s.size ≤ maxLen) :
    Calls Tryz.prog 101 #[.string s, .string ⟨#[58]⟩] w fun e w' => e = .returned (cutVal s) ∧ ∃ n, w' = w.drewN n := by
  obtain ⟨a, b, c, hv⟩ : ∃ a b c, cutVal s = .tuple #[.string a, .string b, .bool c] := by
    unfold cutVal; split
    · exact ⟨_, _, _, rfl⟩
    · exact ⟨_, _, _, rfl⟩
  have HV := Lib.hid hv
  clear hv
  go_enter Tryz.func101, Tryz.ntmps101
  go_wp2_with fail
  refine (cutLite_any s _ hs).mono ?_
  rintro e w' ⟨rfl, n, hw⟩
  have HW := Lib.hid hw
  clear hw
  rw [HV.out]
  go_wp2_with fail
  go_ret3
  exact ⟨by rw [HV.out]; rfl, n, HW.out⟩
end Go.Proofs.YtcolnidgembniaaGreatDoor.Fd
