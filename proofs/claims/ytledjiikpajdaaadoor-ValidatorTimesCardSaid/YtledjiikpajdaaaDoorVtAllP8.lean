/-
  Texts that the laws' proofs stand on, 3 of them in one file; each one's head says what it proves and under which condition.
-/
import Derived.Test.YtledjiikpajdaaaDoorVtAllP7
import Derived.Shelf.Strings.BuilderK
import Derived.Below
import Derived.Laws.Strings
/-
  strings.Builder: copyCheck and WriteString walked, String by the library's contract at this translation. Condition: a text of at most 2^47 bytes.
-/
namespace Go.Proofs.YtledjiikpajdaaaDoor.Fd
open Go.Shelf Go.RowKit
def lays169_ren : Go.Shelf.Ren := ⟨fun | 169 => 36 | n => n, fun | 70 => 61 | 9 => 9 | 0 => 0 | 72 => 64 | 37 => 62 | 127 => 90 | 3 => 3 | 5 => 5 | n => n, fun | n => n⟩
theorem lays169 : Go.Proofs.Lays.n169 Tryd.prog lays169_ren := {
  mixed := by kernel_rfl
  f169 := Tryd.func36.trans (congrArg some (by kernel_rfl))
  t0 := Tryd.underlying0
  a0 := Tryd.isAgg0
  z0 := Tryd.sizeOf0
  v0 := Tryd.zeroValue0
  t3 := Tryd.underlying3
  a3 := Tryd.isAgg3
  z3 := Tryd.sizeOf3
  v3 := Tryd.zeroValue3
  t9 := Tryd.underlying9
  a9 := Tryd.isAgg9
  z9 := Tryd.sizeOf9
  v9 := Tryd.zeroValue9
  t37 := Tryd.underlying62
  a37 := Tryd.isAgg62
  z37 := Tryd.sizeOf62
  v37 := Tryd.zeroValue62
  t70 := Tryd.underlying61
  a70 := Tryd.isAgg61
  z70 := Tryd.sizeOf61
  v70 := Tryd.zeroValue61
  t72 := Tryd.underlying64
  a72 := Tryd.isAgg64
  z72 := Tryd.sizeOf64
  v72 := Tryd.zeroValue64
  t127 := Tryd.underlying90
  a127 := Tryd.isAgg90
  z127 := Tryd.sizeOf90
  v127 := Tryd.zeroValue90 }
theorem Builder_Extra_169 : Builder.Extra Tryd.prog lays169_ren := {
  sizeBuilder := by kernel_rfl
  liesBuilder := by kernel_rfl
  t5 := Tryd.underlying5
  a5 := Tryd.isAgg5
  z5 := Tryd.sizeOf5
  v5 := Tryd.zeroValue5
  infoByte := by kernel_rfl
  cellsByte := by kernel_rfl
  sizeByte := by kernel_rfl
  neB5 := by decide }

theorem builder_string (B b : Nat) (l : List UInt8) (w : World) (h : Lib.IsBuilderF 64 5 B b (Lib.byteCells l) w) (hBw : B ≤ w.heap.size) :
    Calls Tryd.prog 36 #[.pointer (some ⟨b, 0, none⟩)] w fun e w' => e = .returned (.string ⟨l.toArray⟩) ∧ Below B w w' :=
  (Any.Builder_String_any_k lays169 Builder_Extra_169 B b l w h hBw).mono fun _ _ ⟨he, _, hb, _⟩ => ⟨he, hb⟩

theorem sizeBuilder : (Tryd.prog.info? 64).map (·.size) = some 2 := by kernel_rfl
theorem liesBuilder : liesAt Tryd.prog Tryd.prog.depth 64 (2 / Tryd.prog.cellsOf 64) 0 64 1 = true := by kernel_rfl
theorem infoU8 : (Tryd.prog.info? 5).map (fun i => (i.zero, i.size, i.bytes)) = some (some (.int .u8 0), 1, 1) := by kernel_rfl
/-- The address handed through NoEscape. -/
theorem run_same (x : Value) (W : World) : (callFunc 76 #[x]).run Tryd.prog W = .ok (.value x) W := by
  rw [run_callFunc_extern Tryd.func76 (by kernel_rfl) (by kernel_rfl) (by kernel_rfl) (e := Extern.AbiNoEscape.same) (by kernel_rfl), Lib.run_noEscape]
  rfl
/-- What a writing call leaves: the builder marked with its own address and these bytes in it; below it, and beside it, all as it was. -/
def Wrote (B b : Nat) (bs : List Value) (w w' : World) : Prop :=
  Lib.BuilderAtF 64 5 B b (.pointer (some ⟨b, 0, none⟩)) bs w' ∧ Below B w w' ∧ Lib.OthersKept 5 (some b) w w'

set_option maxHeartbeats 1000000 in
set_option maxRecDepth 100000 in
theorem copyCheck_any (B b : Nat) (bs : List Value) (w : World) (h : Lib.IsBuilderF 64 5 B b bs w) :
    Calls Tryd.prog 63 #[.pointer (some ⟨b, 0, none⟩)] w fun e w' => e = .returned (.tuple #[]) ∧ Wrote B b bs w w' := by
  obtain ⟨j, hj, hjs⟩ := Option.map_eq_some_iff.1 sizeBuilder
  rcases h with h | h
  · have c0 := h.cell0
    have f0 := h.frozen0
    have r1 := Lib.run_to_unsafe w ⟨b, 0, none⟩ Tryd.underlying61 Tryd.underlying97 hj (by rw [hjs]; decide) h.shape (Nat.zero_lt_succ 1)
    have r2 := run_same (.pointer (some ⟨b, 0, none⟩)) w
    have r3 := Lib.run_from_unsafe w ⟨b, 0, none⟩ Tryd.underlying97 Tryd.underlying61 hj h.shape liesBuilder
    have HB := Lib.hid h
    clear h hj hjs
    go_enter Tryd.func63, Tryd.ntmps63
    go_wp2_with fail
    go_end0
    exact ⟨rfl, HB.out.used _, (Below.refl B w).setCell (p := ⟨b, 0, none⟩) HB.out.1 _, (Lib.OthersKept.refl _ _ w).setCell ⟨b, 0, none⟩ rfl _⟩
  · have c0 := h.cell0
    have r1 := Lib.run_neq_ptr_same w ⟨b, 0, none⟩ Tryd.underlying61 hj
    have HB := Lib.hid h
    clear h hj hjs
    go_enter Tryd.func63, Tryd.ntmps63
    go_wp2_with fail
    go_end0
    exact ⟨rfl, HB.out, Below.refl B _, Lib.OthersKept.refl _ _ _⟩
theorem slice_of {w : World} {B : Nat} {e : TypeId} {k : Nat} {v : Value} {n : Nat} {xs : List Value} (h : w.ownsRowF B e k v n xs) : ∃ a m c, v = .slice a m c := by
  rcases h.2 with ⟨h0, _⟩ | ⟨_, _, _, _, h0, _⟩ <;> exact ⟨_, _, _, h0⟩

set_option maxHeartbeats 2000000 in
set_option maxRecDepth 100000 in
theorem writeString_any (B b : Nat) (bs : List Value) (s : ByteArray) (w : World) (h : Lib.IsBuilderF 64 5 B b bs w) (hlen : bs.length + s.size ≤ 140737488355328) (hBw : B ≤ w.heap.size) :
    Calls Tryd.prog 35 #[.pointer (some ⟨b, 0, none⟩), .string s] w fun e w' => e = .returned (.tuple #[.int .i64 s.size, .nilIface]) ∧ Wrote B b (bs ++ Lib.strCells s) w w' := by
  obtain ⟨i0, hi, hz0, hz1, hz2⟩ := info_parts infoU8
  have HB := Lib.hid h
  clear h
  go_enter Tryd.func35, Tryd.ntmps35
  go_wp2_with fail
  refine (copyCheck_any B b bs _ HB.out).mono ?_
  rintro e x ⟨rfl, ⟨hb, v, hx, ho, hv⟩, hB, hK⟩
  have HO := Lib.hid ho
  have HX := Lib.hid hx
  have a0 := two0 hx
  have a1 := two1 hx
  have hsz := hB.size
  clear ho hx HB
  go_wp2_with (at_builtin; refine Lib.wpList_append_own_stringF _ rfl _ _ 62 9 rfl B 5 i0 Tryd.underlying62 Tryd.underlying9 hi hz0 hz1 hz2 _ _ _ rfl HO.out s rfl (by unfold maxLen; omega) (by omega) (by omega) ?_; intro u y hu hg hn; obtain ⟨ua, un, uc, hs⟩ := slice_of hu; have HY := Lib.hid ((hg.block b (block_lt HX.out) (fun e => hv e.symm)).trans HX.out); have b0 := two0 HY.out; have b1 := two1 HY.out; have f1 := free HY.out 1; rw [hs] at hu; rw [hs]; clear a0 a1 hn hs)
  go_ret2
  exact ⟨rfl, Lib.BuilderAtF.put hb HY.out (by rw [List.length_append, Lib.strCells_length]; exact hu) (by decide), (hB.grown hg (by omega) fun k hk => (HO.out.lt k hk).1).setCell (p := ⟨b, 1, none⟩) hb _, (hK.grown hg (Lib.ownsRowF_kind HO.out)).setCell ⟨b, 1, none⟩ rfl _⟩
end Go.Proofs.YtledjiikpajdaaaDoor.Fd
/-
  Plain functions on bytes, and what holds of them: blanks, trimming, small letters. No program, no condition.
-/
namespace Go.Proofs.YtledjiikpajdaaaDoor.Tk

abbrev Bs := List UInt8

/-- A blank: a space or a tab. -/
def blank (c : UInt8) : Bool := c == 32 || c == 9
def ltrim (l : Bs) : Bs := l.dropWhile blank
def rtrim (l : Bs) : Bs := (l.reverse.dropWhile blank).reverse
def trim (l : Bs) : Bs := rtrim (ltrim l)
/-- The small letter of a byte. -/
def low (c : UInt8) : UInt8 := if 65 ≤ c.toNat ∧ c.toNat ≤ 90 then c + 32 else c
def lower (l : Bs) : Bs := l.map low

theorem blank_yes {c : UInt8} (h : blank c = true) : (c.toNat : Int) = 32 ∨ (c.toNat : Int) = 9 := by
  simp [blank] at h; rcases h with rfl | rfl <;> simp
theorem blank_no {c : UInt8} (h : blank c = false) : (c.toNat : Int) ≠ 32 ∧ (c.toNat : Int) ≠ 9 := by
  simp [blank] at h
  constructor
  · intro e; apply h.1; apply UInt8.toNat.inj; simpa using (by omega : c.toNat = 32)
  · intro e; apply h.2; apply UInt8.toNat.inj; simpa using (by omega : c.toNat = 9)

theorem low_up {c : UInt8} (h : 65 ≤ c.toNat ∧ c.toNat ≤ 90) : ((low c).toNat : Int) = (c.toNat : Int) + 32 := by
  unfold low; rw [if_pos h]; simp [UInt8.toNat_add]; omega
theorem low_id {c : UInt8} (h : ¬ (65 ≤ c.toNat ∧ c.toNat ≤ 90)) : low c = c := by unfold low; rw [if_neg h]
theorem low_low (c : UInt8) : low (low c) = low c := by
  by_cases h : 65 ≤ c.toNat ∧ c.toNat ≤ 90
  · have := low_up h; exact low_id (by omega)
  · rw [low_id h, low_id h]
theorem lower_lower (l : Bs) : lower (lower l) = lower l := by
  simp [lower, low_low]
theorem lower_length (l : Bs) : (lower l).length = l.length := by simp [lower]

/-! Trimming. -/
theorem ltrim_cons_blank {c : UInt8} (l : Bs) (h : blank c = true) : ltrim (c :: l) = ltrim l := by simp [ltrim, h]
theorem ltrim_cons_other {c : UInt8} (l : Bs) (h : blank c = false) : ltrim (c :: l) = c :: l := by simp [ltrim, h]
theorem rtrim_snoc_blank {c : UInt8} (l : Bs) (h : blank c = true) : rtrim (l ++ [c]) = rtrim l := by simp [rtrim, h]
theorem rtrim_snoc_other {c : UInt8} (l : Bs) (h : blank c = false) : rtrim (l ++ [c]) = l ++ [c] := by simp [rtrim, h]
theorem rtrim_nil : rtrim [] = [] := rfl
theorem ltrim_nil : ltrim [] = [] := rfl

theorem snoc_cases (l : Bs) : l = [] ∨ ∃ i c, l = i ++ [c] := by
  rcases List.eq_nil_or_concat l with h | ⟨i, c, h⟩
  · exact .inl h
  · exact .inr ⟨i, c, by rw [h, List.concat_eq_append]⟩
/-- The last byte is no blank, or there is none. -/
theorem rtrim_end (l : Bs) : rtrim l = [] ∨ ∃ i c, rtrim l = i ++ [c] ∧ blank c = false := by
  induction hn : l.length generalizing l with
  | zero => left; rw [List.length_eq_zero_iff] at hn; subst hn; rfl
  | succ n ih =>
    rcases snoc_cases l with rfl | ⟨i, c, rfl⟩
    · left; rfl
    · by_cases h : blank c = true
      · rw [rtrim_snoc_blank i h]; exact ih i (by simpa using hn)
      · right; have h' : blank c = false := by simpa using h
        exact ⟨i, c, rtrim_snoc_other i h', h'⟩
theorem ltrim_begin (l : Bs) : ltrim l = [] ∨ ∃ c t, ltrim l = c :: t ∧ blank c = false := by
  induction l with
  | nil => left; rfl
  | cons c t ih =>
    by_cases h : blank c = true
    · rw [ltrim_cons_blank t h]; exact ih
    · have h' : blank c = false := by simpa using h
      right; exact ⟨c, t, ltrim_cons_other t h', h'⟩
theorem rtrim_idem (l : Bs) : rtrim (rtrim l) = rtrim l := by
  rcases rtrim_end l with h | ⟨i, c, h, hc⟩
  · rw [h]; rfl
  · rw [h, rtrim_snoc_other i hc]
theorem rtrim_cons_other {c : UInt8} (t : Bs) (h : blank c = false) : ∃ t', rtrim (c :: t) = c :: t' := by
  induction hn : t.length generalizing t with
  | zero =>
    rw [List.length_eq_zero_iff] at hn; subst hn
    exact ⟨[], rtrim_snoc_other [] h⟩
  | succ n ih =>
    rcases snoc_cases t with rfl | ⟨i, d, rfl⟩
    · simp at hn
    · by_cases hd : blank d = true
      · obtain ⟨t', ht⟩ := ih i (by simpa using hn)
        refine ⟨t', ?_⟩
        rw [← ht]; exact rtrim_snoc_blank (c :: i) hd
      · have hd' : blank d = false := by simpa using hd
        exact ⟨i ++ [d], rtrim_snoc_other (c :: i) hd'⟩
theorem ltrim_rtrim_ltrim (l : Bs) : ltrim (rtrim (ltrim l)) = rtrim (ltrim l) := by
  rcases ltrim_begin l with h | ⟨c, t, h, hc⟩
  · rw [h]; rfl
  · rw [h]; obtain ⟨t', ht⟩ := rtrim_cons_other t hc
    rw [ht, ltrim_cons_other t' hc]
theorem trim_trim (l : Bs) : trim (trim l) = trim l := by
  unfold trim; rw [ltrim_rtrim_ltrim, rtrim_idem]
theorem trim_cons_blank {c : UInt8} (l : Bs) (h : blank c = true) : trim (c :: l) = trim l := by
  unfold trim; rw [ltrim_cons_blank l h]
theorem ltrim_snoc_blank {c : UInt8} (l : Bs) (h : blank c = true) : rtrim (ltrim (l ++ [c])) = rtrim (ltrim l) := by
  induction l with
  | nil => simp only [List.nil_append]; rw [ltrim_cons_blank [] h]
  | cons d t ih =>
    by_cases hd : blank d = true
    · rw [List.cons_append, ltrim_cons_blank _ hd, ltrim_cons_blank _ hd]; exact ih
    · have hd' : blank d = false := by simpa using hd
      rw [List.cons_append, ltrim_cons_other _ hd', ltrim_cons_other _ hd']
      exact rtrim_snoc_blank (d :: t) h
theorem trim_snoc_blank {c : UInt8} (l : Bs) (h : blank c = true) : trim (l ++ [c]) = trim l := ltrim_snoc_blank l h
/-- What is trimmed is empty, or has no blank at either end. -/
theorem trim_ends (l : Bs) : trim l = [] ∨ ((∃ c t, trim l = c :: t ∧ blank c = false) ∧ ∃ i c, trim l = i ++ [c] ∧ blank c = false) := by
  unfold trim
  rcases ltrim_begin l with h | ⟨c, t, h, hc⟩
  · left; rw [h]; rfl
  · right
    refine ⟨?_, ?_⟩
    · rw [h]; obtain ⟨t', ht⟩ := rtrim_cons_other t hc; exact ⟨c, t', ht, hc⟩
    · rcases rtrim_end (ltrim l) with h2 | h2
      · rw [h] at h2; obtain ⟨t', ht⟩ := rtrim_cons_other t hc; rw [ht] at h2; cases h2
      · exact h2
theorem rtrim_length (l : Bs) : (rtrim l).length ≤ l.length := by
  unfold rtrim; simp; exact Nat.le_trans (List.dropWhile_sublist _).length_le (by simp)
theorem trim_length (l : Bs) : (trim l).length ≤ l.length := by
  unfold trim ltrim; exact Nat.le_trans (rtrim_length _) (List.dropWhile_sublist _).length_le

/-- The loops of a trim over indices: from the left .. -/
theorem ltrim_drop_step (l : Bs) (k : Nat) (hk : k < l.length) (h : blank l[k] = true) : ltrim (l.drop k) = ltrim (l.drop (k + 1)) := by
  rw [List.drop_eq_getElem_cons hk, ltrim_cons_blank _ h]
theorem ltrim_drop_stop (l : Bs) (k : Nat) (hk : k < l.length) (h : blank l[k] = false) : ltrim (l.drop k) = l.drop k := by
  rw [List.drop_eq_getElem_cons hk, ltrim_cons_other _ h]
/-- .. and from the right. -/
theorem part_snoc (l : Bs) (k m : Nat) (hk : k < m) (hm : m ≤ l.length) : (l.take m).drop k = (l.take (m - 1)).drop k ++ [l[m - 1]'(by omega)] := by
  have h1 : l.take m = l.take (m - 1) ++ [l[m - 1]'(by omega)] := by
    have := List.take_succ_eq_append_getElem (l := l) (i := m - 1) (by omega)
    rwa [show m - 1 + 1 = m from by omega] at this
  rw [h1, List.drop_append_of_le_length (by simp; omega)]
theorem rtrim_part_step (l : Bs) (k m : Nat) (hk : k < m) (hm : m ≤ l.length) (h : blank (l[m - 1]'(by omega)) = true) : rtrim ((l.take m).drop k) = rtrim ((l.take (m - 1)).drop k) := by
  rw [part_snoc l k m hk hm, rtrim_snoc_blank _ h]
theorem rtrim_part_stop (l : Bs) (k m : Nat) (hk : k < m) (hm : m ≤ l.length) (h : blank (l[m - 1]'(by omega)) = false) : rtrim ((l.take m).drop k) = (l.take m).drop k := by
  rw [part_snoc l k m hk hm, rtrim_snoc_other _ h]
theorem part_all (l : Bs) (k : Nat) : (l.take l.length).drop k = l.drop k := by rw [List.take_length]
theorem part_none (l : Bs) (k : Nat) : rtrim ((l.take k).drop k) = (l.take k).drop k := by
  have : (l.take k).drop k = [] := by rw [List.drop_eq_nil_iff]; exact List.length_take_le _ _
  rw [this]; rfl
theorem part_get (l : Bs) (k m j : Nat) (hm : m ≤ l.length) (hj : j < ((l.take m).drop k).length) : ((l.take m).drop k)[j] = l[k + j]'(by simp at hj; omega) := by
  simp
theorem part_length (l : Bs) (k m : Nat) (hm : m ≤ l.length) : ((l.take m).drop k).length = m - k := by
  simp; omega
end Go.Proofs.YtledjiikpajdaaaDoor.Tk
/-
  Which bytes may stand in a token and in a value; tokens and values: plain functions. No program, no condition.
-/
namespace Go.Proofs.YtledjiikpajdaaaDoor.Tk

/-- May a byte stand in a token? -/
def tchar (c : UInt8) : Bool :=
  (97 ≤ c.toNat && c.toNat ≤ 122) || (65 ≤ c.toNat && c.toNat ≤ 90) || (48 ≤ c.toNat && c.toNat ≤ 57) ||
  [33, 35, 36, 37, 38, 39, 42, 43, 45, 46, 94, 95, 96, 124, 126].contains c.toNat
/-- May a byte stand in a quoted text? -/
def textByte (c : UInt8) : Bool := c.toNat == 9 || (32 ≤ c.toNat && c.toNat != 127)
def isTok (l : Bs) : Bool := !l.isEmpty && l.all tchar
def isVal (l : Bs) : Bool := l.all textByte && (l.isEmpty || (!blank (l.headD 0) && !blank (l.getLastD 0)))

theorem take_snoc (s : ByteArray) (k : Nat) (h : k < s.size) : s.data.toList.take (k + 1) = s.data.toList.take k ++ [s[k]] := by
  rw [List.take_succ_eq_append_getElem (by simpa using h)]; rfl
theorem all_snoc (p : UInt8 → Bool) (s : ByteArray) (k : Nat) (h : k < s.size) : (s.data.toList.take (k + 1)).all p = ((s.data.toList.take k).all p && p s[k]) := by
  rw [take_snoc s k h, List.all_append]; simp
theorem not_all (p : UInt8 → Bool) (s : ByteArray) (k : Nat) (h : k < s.size) (hd : p s[k] = false) : s.data.toList.all p = false := by
  rw [List.all_eq_false]
  exact ⟨s[k], by show s.data[k] ∈ _; simp, by simp [hd]⟩
theorem all_of_take {p : UInt8 → Bool} {s : ByteArray} (h : (s.data.toList.take s.size).all p = true) : s.data.toList.all p = true := by
  rwa [List.take_of_length_le (by simp)] at h
theorem nil_of_size {s : ByteArray} (h : s.size = 0) : s.data.toList = [] := by
  rw [← List.length_eq_zero_iff]; simpa using h
theorem cons_of_size {s : ByteArray} (h : 0 < s.size) : s.data.toList.isEmpty = false := by
  cases hl : s.data.toList with
  | nil => have h1 : s.data.toList.length = 0 := by rw [hl]; rfl
           rw [Array.length_toList] at h1
           have h2 : s.size = s.data.size := rfl
           omega
  | cons => rfl
theorem text_empty {s : ByteArray} (h : s.size = 0) : s.toList = [] := by rw [ByteArray.toList_eq]; exact nil_of_size h
theorem text_full {s : ByteArray} (h : 0 < s.size) : s.toList.isEmpty = false := by rw [ByteArray.toList_eq]; exact cons_of_size h
theorem isTok_nil {s : ByteArray} (h : s.size = 0) : isTok s.data.toList = false := by rw [nil_of_size h]; rfl
theorem isTok_no (s : ByteArray) (k : Nat) (h : k < s.size) (hd : tchar s[k] = false) : isTok s.data.toList = false := by
  unfold isTok; rw [not_all tchar s k h hd]; simp
theorem isTok_yes {s : ByteArray} (h : 0 < s.size) (ha : (s.data.toList.take s.size).all tchar = true) : isTok s.data.toList = true := by
  unfold isTok; rw [cons_of_size h, all_of_take ha]; rfl

theorem head_eq {s : ByteArray} (h : 0 < s.size) : s.data.toList.headD 0 = s[0] := by
  have : s.data.toList[0]? = some s[0] := by rw [List.getElem?_eq_getElem (by simpa using h)]; rfl
  rw [List.headD_eq_head?_getD, List.head?_eq_getElem?, this]; rfl
theorem last_eq {s : ByteArray} (h : 0 < s.size) : s.data.toList.getLastD 0 = s[s.size - 1] := by
  have hl : s.data.toList.length = s.size := by simp
  have : s.data.toList[s.size - 1]? = some s[s.size - 1] := by rw [List.getElem?_eq_getElem (by omega)]; rfl
  rw [List.getLastD_eq_getLast?, List.getLast?_eq_getElem?, hl, this]; rfl
theorem isVal_nil {s : ByteArray} (h : s.size = 0) : isVal s.data.toList = true := by rw [nil_of_size h]; rfl
theorem isVal_no (s : ByteArray) (k : Nat) (h : k < s.size) (hd : textByte s[k] = false) : isVal s.data.toList = false := by
  unfold isVal; rw [not_all textByte s k h hd]; rfl
theorem isVal_all {s : ByteArray} (h : 0 < s.size) (ha : (s.data.toList.take s.size).all textByte = true) : isVal s.data.toList = (!blank s[0] && !blank s[s.size - 1]) := by
  unfold isVal; rw [cons_of_size h, all_of_take ha, head_eq h, last_eq h]; rfl

theorem text_yes {c : UInt8} (h : textByte c = true) : (c.toNat : Int) = 9 ∨ (32 ≤ (c.toNat : Int) ∧ (c.toNat : Int) ≠ 127) := by
  simp [textByte] at h; omega
theorem text_no {c : UInt8} (h : textByte c = false) : (c.toNat : Int) ≠ 9 ∧ ((c.toNat : Int) < 32 ∨ (c.toNat : Int) = 127) := by
  simp [textByte] at h; omega
/-- As the reference's Value asks it. -/
theorem text_ref (c : UInt8) : textByte c = (blank c || (33 ≤ c.toNat && c.toNat != 127)) := by
  have h : ∀ n : Nat, n < 256 → textByte (UInt8.ofNat n) = (blank (UInt8.ofNat n) || (33 ≤ (UInt8.ofNat n).toNat && (UInt8.ofNat n).toNat != 127)) := by decide +kernel
  have := h c.toNat c.toNat_lt
  rwa [UInt8.ofNat_toNat] at this
theorem tchar_cases (c : UInt8) : (97 ≤ c.toNat ∧ c.toNat ≤ 122) ∨ (65 ≤ c.toNat ∧ c.toNat ≤ 90) ∨ (48 ≤ c.toNat ∧ c.toNat ≤ 57) ∨ c.toNat ∈ [33, 35, 36, 37, 38, 39, 42, 43, 45, 46, 94, 95, 96, 124, 126] ∨ tchar c = false := by
  cases h : tchar c with
  | false => simp
  | true => simp [tchar] at h; simp; omega
theorem tchar_true {c : UInt8} (h : (97 ≤ c.toNat ∧ c.toNat ≤ 122) ∨ (65 ≤ c.toNat ∧ c.toNat ≤ 90) ∨ (48 ≤ c.toNat ∧ c.toNat ≤ 57) ∨ c.toNat ∈ [33, 35, 36, 37, 38, 39, 42, 43, 45, 46, 94, 95, 96, 124, 126]) : tchar c = true := by
  simp at h; simp [tchar]; omega
end Go.Proofs.YtledjiikpajdaaaDoor.Tk
