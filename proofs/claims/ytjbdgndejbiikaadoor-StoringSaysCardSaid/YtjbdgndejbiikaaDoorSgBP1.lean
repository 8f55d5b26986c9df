/-
  Texts that the laws' proofs stand on, 3 of them in one file; each one's head says what it proves and under which condition.
-/
import Derived.Below
import Derived.Test.YtjbdgndejbiikaaDoorRows
import Derived.WalkKit
import Derived.WalkLawsBesides
import Derived.Outline
import Derived.Lib.Hide
/-
  Plain functions on bytes, and what holds of them: blanks, trimming, small letters. No program, no condition.
-/
namespace Go.Proofs.YtjbdgndejbiikaaDoor.Tk

abbrev Bs := List UInt8

/-- A blank: a space or a tab. -/
def blank (c : UInt8) : Bool := c == 32 || c == 9
def ltrim (l : Bs) : Bs := l.dropWhile blank
def rtrim (l : Bs) : Bs := (l.reverse.dropWhile blank).reverse
def trim (l : Bs) : Bs := rtrim (ltrim l)
/-- The small letter of a byte. -/
def low (c : UInt8) : UInt8 := if 65 ≤ c.toNat ∧ c.toNat ≤ 90 then c + 32 else c
def lower (l : Bs) : Bs := l.map low

theorem blank_yes {c : UInt8} (h : blank c = true) : (c.toNat : Int) = 32 ∨ (c.toNat : Int) = 9 := by
  simp [blank] at h; rcases h with rfl | rfl <;> simp
theorem blank_no {c : UInt8} (h : blank c = false) : (c.toNat : Int) ≠ 32 ∧ (c.toNat : Int) ≠ 9 := by
  simp [blank] at h
  constructor
  · intro e; apply h.1; apply UInt8.toNat.inj; simpa using (by omega : c.toNat = 32)
  · intro e; apply h.2; apply UInt8.toNat.inj; simpa using (by omega : c.toNat = 9)

theorem low_up {c : UInt8} (h : 65 ≤ c.toNat ∧ c.toNat ≤ 90) : ((low c).toNat : Int) = (c.toNat : Int) + 32 := by
  unfold low; rw [if_pos h]; simp [UInt8.toNat_add]; omega
theorem low_id {c : UInt8} (h : ¬ (65 ≤ c.toNat ∧ c.toNat ≤ 90)) : low c = c := by unfold low; rw [if_neg h]
theorem low_low (c : UInt8) : low (low c) = low c := by
  by_cases h : 65 ≤ c.toNat ∧ c.toNat ≤ 90
  · have := low_up h; exact low_id (by omega)
  · rw [low_id h, low_id h]
theorem lower_lower (l : Bs) : lower (lower l) = lower l := by
  simp [lower, low_low]
theorem lower_length (l : Bs) : (lower l).length = l.length := by simp [lower]

/-! Trimming. -/
theorem ltrim_cons_blank {c : UInt8} (l : Bs) (h : blank c = true) : ltrim (c :: l) = ltrim l := by simp [ltrim, h]
theorem ltrim_cons_other {c : UInt8} (l : Bs) (h : blank c = false) : ltrim (c :: l) = c :: l := by simp [ltrim, h]
theorem rtrim_snoc_blank {c : UInt8} (l : Bs) (h : blank c = true) : rtrim (l ++ [c]) = rtrim l := by simp [rtrim, h]
theorem rtrim_snoc_other {c : UInt8} (l : Bs) (h : blank c = false) : rtrim (l ++ [c]) = l ++ [c] := by simp [rtrim, h]
theorem rtrim_nil : rtrim [] = [] := rfl
theorem ltrim_nil : ltrim [] = [] := rfl

theorem snoc_cases (l : Bs) : l = [] ∨ ∃ i c, l = i ++ [c] := by
  rcases List.eq_nil_or_concat l with h | ⟨i, c, h⟩
  · exact .inl h
  · exact .inr ⟨i, c, by rw [h, List.concat_eq_append]⟩
/-- The last byte is no blank, or there is none. -/
theorem rtrim_end (l : Bs) : rtrim l = [] ∨ ∃ i c, rtrim l = i ++ [c] ∧ blank c = false := by
  induction hn : l.length generalizing l with
  | zero => left; rw [List.length_eq_zero_iff] at hn; subst hn; rfl
  | succ n ih =>
    rcases snoc_cases l with rfl | ⟨i, c, rfl⟩
    · left; rfl
    · by_cases h : blank c = true
      · rw [rtrim_snoc_blank i h]; exact ih i (by simpa using hn)
      · right; have h' : blank c = false := by simpa using h
        exact ⟨i, c, rtrim_snoc_other i h', h'⟩
theorem ltrim_begin (l : Bs) : ltrim l = [] ∨ ∃ c t, ltrim l = c :: t ∧ blank c = false := by
  induction l with
  | nil => left; rfl
  | cons c t ih =>
    by_cases h : blank c = true
    · rw [ltrim_cons_blank t h]; exact ih
    · have h' : blank c = false := by simpa using h
      right; exact ⟨c, t, ltrim_cons_other t h', h'⟩
theorem rtrim_idem (l : Bs) : rtrim (rtrim l) = rtrim l := by
  rcases rtrim_end l with h | ⟨i, c, h, hc⟩
  · rw [h]; rfl
  · rw [h, rtrim_snoc_other i hc]
theorem rtrim_cons_other {c : UInt8} (t : Bs) (h : blank c = false) : ∃ t', rtrim (c :: t) = c :: t' := by
  induction hn : t.length generalizing t with
  | zero =>
    rw [List.length_eq_zero_iff] at hn; subst hn
    exact ⟨[], rtrim_snoc_other [] h⟩
  | succ n ih =>
    rcases snoc_cases t with rfl | ⟨i, d, rfl⟩
    · simp at hn
    · by_cases hd : blank d = true
      · obtain ⟨t', ht⟩ := ih i (by simpa using hn)
        refine ⟨t', ?_⟩
        rw [← ht]; exact rtrim_snoc_blank (c :: i) hd
      · have hd' : blank d = false := by simpa using hd
        exact ⟨i ++ [d], rtrim_snoc_other (c :: i) hd'⟩
theorem ltrim_rtrim_ltrim (l : Bs) : ltrim (rtrim (ltrim l)) = rtrim (ltrim l) := by
  rcases ltrim_begin l with h | ⟨c, t, h, hc⟩
  · rw [h]; rfl
  · rw [h]; obtain ⟨t', ht⟩ := rtrim_cons_other t hc
    rw [ht, ltrim_cons_other t' hc]
theorem trim_trim (l : Bs) : trim (trim l) = trim l := by
  unfold trim; rw [ltrim_rtrim_ltrim, rtrim_idem]
theorem trim_cons_blank {c : UInt8} (l : Bs) (h : blank c = true) : trim (c :: l) = trim l := by
  unfold trim; rw [ltrim_cons_blank l h]
theorem ltrim_snoc_blank {c : UInt8} (l : Bs) (h : blank c = true) : rtrim (ltrim (l ++ [c])) = rtrim (ltrim l) := by
  induction l with
  | nil => simp only [List.nil_append]; rw [ltrim_cons_blank [] h]
  | cons d t ih =>
    by_cases hd : blank d = true
    · rw [List.cons_append, ltrim_cons_blank _ hd, ltrim_cons_blank _ hd]; exact ih
    · have hd' : blank d = false := by simpa using hd
      rw [List.cons_append, ltrim_cons_other _ hd', ltrim_cons_other _ hd']
      exact rtrim_snoc_blank (d :: t) h
theorem trim_snoc_blank {c : UInt8} (l : Bs) (h : blank c = true) : trim (l ++ [c]) = trim l := ltrim_snoc_blank l h
/-- What is trimmed is empty, or has no blank at either end. -/
theorem trim_ends (l : Bs) : trim l = [] ∨ ((∃ c t, trim l = c :: t ∧ blank c = false) ∧ ∃ i c, trim l = i ++ [c] ∧ blank c = false) := by
  unfold trim
  rcases ltrim_begin l with h | ⟨c, t, h, hc⟩
  · left; rw [h]; rfl
  · right
    refine ⟨?_, ?_⟩
    · rw [h]; obtain ⟨t', ht⟩ := rtrim_cons_other t hc; exact ⟨c, t', ht, hc⟩
    · rcases rtrim_end (ltrim l) with h2 | h2
      · rw [h] at h2; obtain ⟨t', ht⟩ := rtrim_cons_other t hc; rw [ht] at h2; cases h2
      · exact h2
theorem rtrim_length (l : Bs) : (rtrim l).length ≤ l.length := by
  unfold rtrim; simp; exact Nat.le_trans (List.dropWhile_sublist _).length_le (by simp)
theorem trim_length (l : Bs) : (trim l).length ≤ l.length := by
  unfold trim ltrim; exact Nat.le_trans (rtrim_length _) (List.dropWhile_sublist _).length_le

/-- The loops of a trim over indices: from the left .. -/
theorem ltrim_drop_step (l : Bs) (k : Nat) (hk : k < l.length) (h : blank l[k] = true) : ltrim (l.drop k) = ltrim (l.drop (k + 1)) := by
  rw [List.drop_eq_getElem_cons hk, ltrim_cons_blank _ h]
theorem ltrim_drop_stop (l : Bs) (k : Nat) (hk : k < l.length) (h : blank l[k] = false) : ltrim (l.drop k) = l.drop k := by
  rw [List.drop_eq_getElem_cons hk, ltrim_cons_other _ h]
/-- .. and from the right. -/
theorem part_snoc (l : Bs) (k m : Nat) (hk : k < m) (hm : m ≤ l.length) : (l.take m).drop k = (l.take (m - 1)).drop k ++ [l[m - 1]'(by omega)] := by
  have h1 : l.take m = l.take (m - 1) ++ [l[m - 1]'(by omega)] := by
    have := List.take_succ_eq_append_getElem (l := l) (i := m - 1) (by omega)
    rwa [show m - 1 + 1 = m from by omega] at this
  rw [h1, List.drop_append_of_le_length (by simp; omega)]
theorem rtrim_part_step (l : Bs) (k m : Nat) (hk : k < m) (hm : m ≤ l.length) (h : blank (l[m - 1]'(by omega)) = true) : rtrim ((l.take m).drop k) = rtrim ((l.take (m - 1)).drop k) := by
  rw [part_snoc l k m hk hm, rtrim_snoc_blank _ h]
theorem rtrim_part_stop (l : Bs) (k m : Nat) (hk : k < m) (hm : m ≤ l.length) (h : blank (l[m - 1]'(by omega)) = false) : rtrim ((l.take m).drop k) = (l.take m).drop k := by
  rw [part_snoc l k m hk hm, rtrim_snoc_other _ h]
theorem part_all (l : Bs) (k : Nat) : (l.take l.length).drop k = l.drop k := by rw [List.take_length]
theorem part_none (l : Bs) (k : Nat) : rtrim ((l.take k).drop k) = (l.take k).drop k := by
  have : (l.take k).drop k = [] := by rw [List.drop_eq_nil_iff]; exact List.length_take_le _ _
  rw [this]; rfl
theorem part_get (l : Bs) (k m j : Nat) (hm : m ≤ l.length) (hj : j < ((l.take m).drop k).length) : ((l.take m).drop k)[j] = l[k + j]'(by simp at hj; omega) := by
  simp
theorem part_length (l : Bs) (k m : Nat) (hm : m ≤ l.length) : ((l.take m).drop k).length = m - k := by
  simp; omega
end Go.Proofs.YtjbdgndejbiikaaDoor.Tk
/-
  Bytes in memory: what holds of them. No condition.
-/
namespace Go.Proofs.YtjbdgndejbiikaaDoor.Tk
open Go.RowKit

/-- The cells of block b from off on hold these bytes. -/
def Holds (w : World) (b off : Nat) (l : Bs) : Prop := ∀ j (hj : j < l.length), w.cell? ⟨b, off + j, none⟩ = some (.int .u8 (l[j].toNat : Int))
theorem Holds.part {w : World} {b off : Nat} {l : Bs} (h : Holds w b off l) (k m : Nat) (hm : m ≤ l.length) : Holds w b (off + k) ((l.take m).drop k) := by
  intro j hj
  have hj' := hj
  rw [part_length l k m hm] at hj'
  rw [part_get l k m j hm hj, Nat.add_assoc]
  exact h (k + j) (by omega)
theorem Holds.nil (w : World) (b off : Nat) : Holds w b off [] := fun _ hj => by simp at hj

/-- What '[]byte(s)' lays holds the bytes of s, and below it all is as it was. -/
theorem holds_new (w : World) (s : ByteArray) (cap : Nat) (t : TypeId) (fr : Nat × Nat) : Holds (w.alloc (.cells (bytesRow s cap) t fr)) w.heap.size 0 s.data.toList := by
  intro j hj
  rw [Nat.zero_add, World.cell?_alloc_mark, bytesRow_at s cap j (by simpa using hj)]
  simp
theorem holds_drew {w : World} {b off : Nat} {l : Bs} (h : Holds w b off l) : Holds w.drew b off l := h
/-- 'string(b)' of bytes that lie so. -/
theorem run_back {P : Program} (w : World) (src dst e : TypeId) (b off cap : Nat) (l : Bs) (hs : P.underlying src = some (.slice e)) (he : P.underlying e = some (.int .u8)) (hd : P.underlying dst = some .string)
    (hc : Holds w b off l) : (convert src dst (.slice (some ⟨b, off, none⟩) l.length cap)).run P w = .ok (.string ⟨l.toArray⟩) w :=
  run_convert_bytes_back w src dst e ⟨b, off, none⟩ cap l hs he hd fun j hj => by
    have := hc j hj
    by_cases h0 : j = 0
    · subst h0; simpa [Addr.add] using this
    · simpa [Addr.add, h0] using this
end Go.Proofs.YtjbdgndejbiikaaDoor.Tk
/-
  token.blank, token.trim and token.Trim: what each returns. Conditions: none beyond the lengths that a string or a slice can have.
-/
namespace Go.Proofs.YtjbdgndejbiikaaDoor.Tk
open Go.RowKit

theorem blank_any (c : UInt8) (w : World) :
    Calls Tryd.prog 61 #[.int .u8 (c.toNat : Int)] w fun e w' => e = .returned (.bool (blank c)) ∧ w = w' := by
  cases hb : blank c with
  | true =>
    have HB := Lib.hid hb
    rcases blank_yes hb with h | h
    · have h1 : ((c.toNat : Int) == 32) = true := beq_iff_eq.2 h
      clear hb h
      go_enter Tryd.func61, Tryd.ntmps61
      go_wp2
      go_ret
      exact ⟨rfl, rfl⟩
    · have h1 : ((c.toNat : Int) == 32) = false := beq_eq_false_iff_ne.2 (by omega)
      have h2 : ((c.toNat : Int) == 9) = true := beq_iff_eq.2 h
      clear hb h
      go_enter Tryd.func61, Tryd.ntmps61
      go_wp2
      go_ret
      exact ⟨rfl, rfl⟩
  | false =>
    have h := blank_no hb
    have h1 : ((c.toNat : Int) == 32) = false := beq_eq_false_iff_ne.2 h.1
    have h2 : ((c.toNat : Int) == 9) = false := beq_eq_false_iff_ne.2 h.2
    clear hb h
    go_enter Tryd.func61, Tryd.ntmps61
    go_wp2
    go_ret
    exact ⟨rfl, rfl⟩

theorem holds_none (w : World) (b off : Nat) {l : Bs} (h : l.length = 0) : Holds w b off l := fun _ hj => by omega
theorem slice_end {w : World} {b off' n : Nat} {l l' : Bs} (h : l = l') (hn : l'.length = n) (hh : Holds w b off' l') : ∃ o, Ending.returned (.slice (some ⟨b, off', none⟩) n n) = .returned (.slice (some ⟨b, o, none⟩) l.length l.length) ∧ Holds w b o l :=
  ⟨off', by rw [h, hn], by rw [h]; exact hh⟩

set_option maxHeartbeats 1000000 in
theorem trimSlice_any (b off cap : Nat) (l : Bs) (w : World) (hl : l.length ≤ maxLen) (hcap : l.length ≤ cap) (hc : Holds w b off l) :
    Calls Tryd.prog 46 #[.slice (some ⟨b, off, none⟩) l.length cap] w fun e w' => (∃ off', e = .returned (.slice (some ⟨b, off', none⟩) (trim l).length (trim l).length) ∧ Holds w b off' (trim l)) ∧ w = w' := by
  unfold maxLen at hl
  have HC := Lib.hid hc
  clear hc
  go_enter Tryd.func46, Tryd.ntmps46
  go_wp2
  go_loop [3] (fun i => ∃ k : Nat, k ≤ l.length ∧ i = .int .i64 k ∧ ltrim l = ltrim (l.drop k)) (fun i => l.length - (intOf i).toNat)
  case atStart => exact ⟨0, Nat.zero_le _, rfl, rfl⟩
  case round =>
    obtain ⟨k, hk, rfl, hrel⟩ := hrel
    have HR := Lib.hid hrel
    clear hrel
    by_cases hgo : ∃ h : k < l.length, blank l[k] = true
    · obtain ⟨hlt, hb⟩ := hgo
      have hcell := HC.out k hlt
      have HR2 := Lib.hid (HR.out.trans (ltrim_drop_step l k hlt hb))
      have HB := Lib.hid hb
      clear hb
      go_wp2_with (go_at_call 61; refine (blank_any _ _).mono ?_; rintro e w' ⟨rfl, rfl⟩; rw [HB.out])
      go_round
      case rel => exact ⟨k + 1, by omega, by go_num, HR2.out⟩
      case measure => simp [intOf]; omega
    · have HL : Hid (ltrim l = l.drop k) := by
        rw [HR.out]
        by_cases hlt : k < l.length
        · exact ltrim_drop_stop l k hlt (by cases hb : blank l[k] with | true => exact absurd ⟨hlt, hb⟩ hgo | false => rfl)
        · rw [List.drop_eq_nil_of_le (by omega)]; rfl
      have HT := Lib.hid (show trim l = rtrim (l.drop k) from by unfold trim; rw [HL.out])
      clear HR HL
      by_cases hlt : k < l.length
      all_goals
        first | (have hcell := HC.out k hlt; have HB := Lib.hid (show blank l[k] = false from by cases hb : blank l[k] with | true => exact absurd ⟨hlt, hb⟩ hgo | false => rfl)) | skip
        clear hgo
        go_wp2_with (go_at_call 61; refine (blank_any _ _).mono ?_; rintro e w' ⟨rfl, rfl⟩; rw [HB.out])
        go_loop [4] (fun i => ∃ m : Nat, k ≤ m ∧ m ≤ l.length ∧ i = .int .i64 m ∧ trim l = rtrim ((l.take m).drop k)) (fun i => (intOf i).toNat)
        case atStart => exact ⟨l.length, hk, Nat.le_refl _, rfl, by rw [part_all]; exact HT.out⟩
        case round =>
          obtain ⟨m, hkm, hm, rfl, hrel⟩ := hrel
          have HR := Lib.hid hrel
          clear hrel
          by_cases hgo : ∃ h : k < m, blank (l[m - 1]'(by omega)) = true
          · obtain ⟨hlt, hb⟩ := hgo
            have hcell := HC.out (m - 1) (by omega)
            have HR2 := Lib.hid (HR.out.trans (rtrim_part_step l k m hlt hm hb))
            have HB := Lib.hid hb
            have e1 : ((m : Int) - 1).toNat = m - 1 := by omega
            clear hb
            go_wp2_with (go_at_call 61; refine (blank_any _ _).mono ?_; rintro e w' ⟨rfl, rfl⟩; rw [HB.out])
            go_round
            case rel => exact ⟨m - 1, by omega, by omega, by go_num, HR2.out⟩
            case measure => simp [intOf]; omega
          · have HL : Hid (trim l = (l.take m).drop k) := by
              rw [HR.out]
              by_cases hlt : k < m
              · exact rtrim_part_stop l k m hlt hm (by cases hb : blank (l[m - 1]'(by omega)) with | true => exact absurd ⟨hlt, hb⟩ hgo | false => rfl)
              · obtain rfl : k = m := by omega
                exact part_none l k
            by_cases hlt : k < m
            · have hcell := HC.out (m - 1) (by omega)
              have HB := Lib.hid (show blank (l[m - 1]'(by omega)) = false from by cases hb : blank (l[m - 1]'(by omega)) with | true => exact absurd ⟨hlt, hb⟩ hgo | false => rfl)
              clear hgo
              go_wp2_with (go_at_call 61; refine (blank_any _ _).mono ?_; rintro e w' ⟨rfl, rfl⟩; rw [HB.out])
              go_ret
              first | exact ⟨slice_end HL.out (part_length l k m hm) (HC.out.part k m hm), rfl⟩ | (exfalso; omega)
            · go_wp2_with fail
              go_ret
              exact ⟨slice_end HL.out (by rw [part_length l k m hm]; first | done | omega) (holds_none w b off (by rw [part_length l k m hm]; omega)), rfl⟩

theorem trimSlice_at (b off n cap : Nat) (l : Bs) (w : World) (hn : l.length = n) (hl : n ≤ maxLen) (hcap : n ≤ cap) (hc : Holds w b off l) :
    Calls Tryd.prog 46 #[.slice (some ⟨b, off, none⟩) n cap] w fun e w' => (∃ off', e = .returned (.slice (some ⟨b, off', none⟩) (trim l).length (trim l).length) ∧ Holds w b off' (trim l)) ∧ w = w' := by
  subst hn; exact trimSlice_any b off cap l w hl hcap hc

end Go.Proofs.YtjbdgndejbiikaaDoor.Tk
