/-
  Texts that the laws' proofs stand on, 3 of them in one file; each one's head says what it proves and under which condition.
-/
import Derived.Test.YtledjiikpajdaaaDoorVtAllP9
import Derived.Test.YtledjiikpajdaaaDoorVtAllP6
import Derived.Test.YtledjiikpajdaaaDoorVtAllP7
import Derived.Test.YtledjiikpajdaaaDoorVtAllP10
import Derived.Lib.Strings
/-
  Tags of versions and conditions on them, as plain functions on bytes; and what the laws of layer 12 say of them. A date's reading is a function that they are told. No program, no condition.
-/
namespace Go.Proofs.YtledjiikpajdaaaDoor.Vd
open Go.Proofs.YtledjiikpajdaaaDoor.Tk Go.Proofs.YtledjiikpajdaaaDoor.Fd
set_option linter.unusedVariables false
set_option linter.unusedSimpArgs false

abbrev Tag := Bool × Bs
def tagByte (c : UInt8) : Bool := decide (33 ≤ c.toNat) && c != 34 && c != 92 && c != 127
/-- What stands between two quotes. -/
def inner (s : Bs) : Bs := (s.drop 1).dropLast
def body (s : Bs) : Option Bs := if 2 ≤ s.length ∧ s.head? = some 34 ∧ s.getLast? = some 34 ∧ (inner s).all tagByte = true then some (inner s) else none
def parseTag (s : Bs) : Option Tag := if 2 < s.length ∧ s.take 2 = [87, 47] then (body (s.drop 2)).map fun t => (true, t) else (body s).map fun t => (false, t)
def tagOf (s : Bs) : Tag := (parseTag s).getD (false, [])
def weakT (x y : Tag) : Bool := x.2 == y.2
def strongT (x y : Tag) : Bool := !x.1 && !y.1 && x.2 == y.2
theorem body_shape {s t : Bs} (h : body s = some t) : s = 34 :: (t ++ [34]) := by
  unfold body at h
  split at h
  · rename_i h0
    injection h with h
    obtain ⟨h1, h2, h3, _⟩ := h0
    subst h
    cases s with
    | nil => simp at h1
    | cons c r =>
      have hc : c = 34 := by simpa using h2
      subst hc
      have hr : r ≠ [] := by rintro rfl; simp at h1
      have hl : r.getLast? = some 34 := by
        rw [List.getLast?_cons] at h3
        cases hg : r.getLast? with
        | none => exact absurd (List.getLast?_eq_none_iff.1 hg) hr
        | some d => rw [hg] at h3; simpa using h3
      obtain ⟨i, rfl⟩ := List.getLast?_eq_some_iff.1 hl
      simp [inner]
  · cases h
theorem strong_weak {x y : Tag} (h : strongT x y = true) : weakT x y = true ∧ x.1 = false ∧ y.1 = false := by
  unfold strongT at h
  simp only [Bool.and_eq_true, Bool.not_eq_true'] at h
  exact ⟨h.2, h.1.1, h.1.2⟩
theorem parse_plain {s : Bs} {t : Tag} (h : parseTag s = some t) (ht : t.1 = false) : s = 34 :: (t.2 ++ [34]) := by
  unfold parseTag at h
  split at h
  · rw [Option.map_eq_some_iff] at h
    obtain ⟨u, _, rfl⟩ := h
    cases ht
  · rw [Option.map_eq_some_iff] at h
    obtain ⟨u, hu, rfl⟩ := h
    exact body_shape hu
/-- Two tags that are alike as strong ones are one text. -/
theorem strong_same {a b : Bs} {x y : Tag} (ha : parseTag a = some x) (hb : parseTag b = some y) (h : strongT x y = true) : a = b := by
  obtain ⟨h1, h2, h3⟩ := strong_weak h
  rw [parse_plain ha h2, parse_plain hb h3]
  unfold weakT at h1
  rw [eq_of_beq h1]
theorem strong_comm (x y : Tag) : strongT x y = strongT y x := by
  unfold strongT
  rw [show (y.2 == x.2) = (x.2 == y.2) from Bool.eq_iff_iff.2 (by rw [beq_iff_eq, beq_iff_eq]; exact eq_comm)]
  cases x.1 <;> cases y.1 <;> rfl
theorem weak_comm (x y : Tag) : weakT x y = weakT y x := by
  unfold weakT
  exact Bool.eq_iff_iff.2 (by rw [beq_iff_eq, beq_iff_eq]; exact eq_comm)
theorem weak_self (x : Tag) : weakT x x = true := by unfold weakT; simp
theorem strong_self (x : Tag) : strongT x x = !x.1 := by unfold strongT; simp
theorem empty_weak : parseTag [87, 47, 34, 34] = some (true, []) := by decide
theorem a_weak : parseTag [87, 47, 34, 97, 34] = some (true, [97]) := by decide
/-- What does not begin as one is none. -/
theorem no_tag {s : Bs} (h1 : s.head? ≠ some 34) (h2 : s.take 2 ≠ [87, 47]) : parseTag s = none := by
  unfold parseTag
  rw [if_neg (fun h => h2 h.2)]
  have : body s = none := by unfold body; rw [if_neg (fun h => h1 h.2.1)]
  rw [this]; rfl

/-! Conditions. -/
def getM : Bs := [71, 69, 84]
def headM : Bs := [72, 69, 65, 68]
def inmL : Bs := [105, 102, 45, 110, 111, 110, 101, 45, 109, 97, 116, 99, 104]
def imsL : Bs := [105, 102, 45, 109, 111, 100, 105, 102, 105, 101, 100, 45, 115, 105, 110, 99, 101]
def ifrL : Bs := [105, 102, 45, 114, 97, 110, 103, 101]
def rngL : Bs := [114, 97, 110, 103, 101]
def sameTag (own : Tag) (x : Bs) : Bool := match parseTag x with
  | some t => weakT t own
  | none => false
def tagsOk (s tag : Bs) : Bool := s == [42] || (match parseTag tag, splitOf s with
  | some own, some l => l.any (sameTag own)
  | _, _ => false)
def sinceOk (P : Bs → Option Int) (s : Bs) (md : Int) : Bool := match P s with
  | some d => decide (0 ≤ md ∧ md ≤ d)
  | none => false
def unchangedOf (P : Bs → Option Int) (meth : Bs) (fs : List Fl) (tag : Bs) (md : Int) : Bool :=
  if meth ≠ getM ∧ meth ≠ headM then false
  else if 0 < getN fs inmL then tagsOk (getT fs inmL) tag
  else decide (getN fs imsL = 1) && sinceOk P (getT fs imsL) md
def ifrOk (P : Bs → Option Int) (s tag : Bs) (md : Int) : Bool := match parseTag s with
  | some t => (match parseTag tag with
    | some own => strongT t own
    | none => false)
  | none => match P s with
    | some d => decide (md = d)
    | none => false
def appliesOf (P : Bs → Option Int) (meth : Bs) (fs : List Fl) (tag : Bs) (md : Int) : Bool :=
  if meth ≠ getM ∨ getN fs rngL ≠ 1 then false
  else if getN fs ifrL ≠ 1 then decide (getN fs ifrL = 0)
  else ifrOk P (getT fs ifrL) tag md

/-! Seconds. -/
def imsU : ByteArray := ⟨#[73, 102, 45, 77, 111, 100, 105, 102, 105, 101, 100, 45, 83, 105, 110, 99, 101]⟩
def inmU : ByteArray := ⟨#[73, 102, 45, 78, 111, 110, 101, 45, 77, 97, 116, 99, 104]⟩
def ifrU : ByteArray := ⟨#[73, 102, 45, 82, 97, 110, 103, 101]⟩
def rngU : ByteArray := ⟨#[82, 97, 110, 103, 101]⟩
def xV : ByteArray := ⟨#[34, 120, 34]⟩
def xB : ByteArray := ⟨#[120]⟩
theorem times_since (P : Bs → Option Int) (s : ByteArray) {at_ since : Int} (h0 : 0 ≤ at_) (hP : P s.data.toList = some since) : unchangedOf P getM [(imsU, s)] [] at_ = decide (at_ ≤ since) := by
  have h1 : ∀ v : ByteArray, has inmL (imsU, v) = false := fun v => (show alike imsU.data.toList inmL = false from by decide +kernel)
  have h2 : ∀ v : ByteArray, has imsL (imsU, v) = true := fun v => (show alike imsU.data.toList imsL = true from by decide +kernel)
  have e1 : getN [(imsU, s)] inmL = 0 := by unfold getN sel; simp [h1]
  have e2 : getN [(imsU, s)] imsL = 1 := by unfold getN sel; simp [h2]
  have e3 : getT [(imsU, s)] imsL = s.data.toList := by unfold getT sel; simp [h2, joinC]
  unfold unchangedOf
  rw [if_neg (by decide), e1, if_neg (by omega), e2, e3]
  unfold sinceOk
  rw [hP]
  simp [h0]
theorem times_tag (P : Bs → Option Int) (s : ByteArray) (at_ : Int) : unchangedOf P getM [(imsU, s), (inmU, xV)] [] at_ = false := by
  have h1 : ∀ v : ByteArray, has inmL (imsU, v) = false := fun v => (show alike imsU.data.toList inmL = false from by decide +kernel)
  have h2 : has inmL (inmU, xV) = true := by decide +kernel
  have e1 : getN [(imsU, s), (inmU, xV)] inmL = 1 := by unfold getN sel; simp [h1, h2]
  have e3 : getT [(imsU, s), (inmU, xV)] inmL = xV.data.toList := by unfold getT sel; simp [h1, h2, joinC]
  unfold unchangedOf
  rw [if_neg (by decide), e1, if_pos (by omega), e3]
  rfl
theorem times_range (P : Bs → Option Int) (s : ByteArray) {at_ since : Int} (ht : parseTag s.data.toList = none) (hP : P s.data.toList = some since) : appliesOf P getM [(ifrU, s), (rngU, xB)] [] at_ = decide (at_ = since) := by
  have h1 : ∀ v : ByteArray, has rngL (ifrU, v) = false := fun v => (show alike ifrU.data.toList rngL = false from by decide +kernel)
  have h2 : ∀ v : ByteArray, has ifrL (ifrU, v) = true := fun v => (show alike ifrU.data.toList ifrL = true from by decide +kernel)
  have h3 : has rngL (rngU, xB) = true := by decide +kernel
  have h4 : has ifrL (rngU, xB) = false := by decide +kernel
  have e1 : getN [(ifrU, s), (rngU, xB)] rngL = 1 := by unfold getN sel; simp [h1, h3]
  have e2 : getN [(ifrU, s), (rngU, xB)] ifrL = 1 := by unfold getN sel; simp [h2, h4]
  have e3 : getT [(ifrU, s), (rngU, xB)] ifrL = s.data.toList := by unfold getT sel; simp [h2, h4, joinC]
  unfold appliesOf
  rw [e1, e2, e3, if_neg (by decide), if_neg (by decide)]
  unfold ifrOk
  rw [ht, hP]
theorem times_bare (P : Bs → Option Int) (at_ : Int) : appliesOf P getM [(rngU, xB)] [] at_ = true := by
  have e1 : getN [(rngU, xB)] rngL = 1 := by decide +kernel
  have e2 : getN [(rngU, xB)] ifrL = 0 := by decide +kernel
  unfold appliesOf
  rw [e1, e2, if_neg (by decide), if_pos (by decide)]
  rfl
end Go.Proofs.YtledjiikpajdaaaDoor.Vd
/-
  validator.told of a second that a date can tell, and unmodified: what they return. Conditions: fields of at most 100000 bytes in all; the tables hold what the program's text lays.
-/
namespace Go.Proofs.YtledjiikpajdaaaDoor.Vd
open Go.RowKit Go.Proofs.YtledjiikpajdaaaDoor.Tk Go.Proofs.YtledjiikpajdaaaDoor.Fd Go.Proofs.YtledjiikpajdaaaDoor.Dt
set_option maxRecDepth 100000
set_option linter.unusedVariables false

/-- What the tables of dates and the powers of ten are asked to hold. -/
structure DateEnv (w : World) : Prop where
  env : Dp.Env w
  frm : Dp.FM w
  p10 : Tb.P10 w
theorem DateEnv.below {C : Nat} {w w' : World} (h : DateEnv w) (hb : Below C w w') (hC : w.heap.size ≤ C) : DateEnv w' := ⟨h.env.below hb hC, h.frm.below hb hC, Dp.p10_below h.p10 hb hC⟩
/-- A date's reading. -/
def dateP (s : Bs) : Option Int := if (Dp.parseD s).2 then some (Dp.parseD s).1 else none
theorem told_in (sec : Int) (w : World) (h0 : 0 ≤ sec) (h1 : sec ≤ 253402300799) (hE : DateEnv w) :
    Calls Tryd.prog 28 #[.int .i64 sec] w fun e w' => e = .returned (.bool true) ∧ Below w.heap.size w w' := by
  have HE := Lib.hid hE
  have HF := Lib.hid (Dp.format_in sec w h0 h1 hE.env hE.p10)
  have HP := Lib.hid (fun (y d : Int) (k : Nat) (W : World) => Dp.parse_form1 sec y d k W)
  clear hE
  go_enter Tryd.func28, Tryd.ntmps28
  go_wp2_with fail
  refine HF.out.mono ?_
  rintro e w1 ⟨⟨y, k, d, rfl, hv, hd⟩, hb1⟩
  have HE1 := Lib.hid (HE.out.below hb1 (Nat.le_refl _))
  have HPP := Lib.hid (HP.out y d k w1 HE1.out.env HE1.out.frm hv hd)
  have HB := Lib.hid hb1
  clear hv hd hb1 HP HF
  generalize Dp.B (Dp.form1 ((sec / 86400 + 3) % 7).toNat y.toNat k d.toNat (sec % 86400).toNat) = T at HPP ⊢
  go_wp2_with fail
  refine HPP.out.mono ?_
  rintro e w2 ⟨rfl, hb2⟩
  have HB2 := Lib.hid (Bl.next HB.out hb2)
  clear hb2
  go_wp2_with fail
  go_ret
  exact ⟨rfl, HB2.out⟩
/-- What unmodified answers. -/
def unmodOf (fs : List Fl) (md : Int) : Bool := decide (getN fs imsL = 1) && sinceOk dateP (getT fs imsL) md
theorem unmod_eq (fs : List Fl) (md : Int) (h0 : 0 ≤ md) : unmodOf fs md = (decide (getN fs imsL = 1) && ((Dp.parseD (getT fs imsL)).2 && decide (md ≤ (Dp.parseD (getT fs imsL)).1))) := by
  unfold unmodOf sinceOk dateP
  cases (Dp.parseD (getT fs imsL)).2 with
  | true => simp [h0]
  | false => simp
theorem has_low {a b : Bs} (h : lower a = lower b) : has a = has b := by funext f; unfold has alike; rw [h]
theorem val_low (fs : List Fl) {a b : Bs} (h : lower a = lower b) : getVal fs a = getVal fs b := by unfold getVal getT getN sel; rw [has_low h]
theorem ims_low : lower imsU.data.toList = lower imsL := by decide
theorem inm_low : lower inmU.data.toList = lower inmL := by decide
theorem ifr_low : lower ifrU.data.toList = lower ifrL := by decide
theorem rng_low : lower rngU.data.toList = lower rngL := by decide
theorem getN_le (fs : List Fl) (nm : Bs) : getN fs nm ≤ tot fs := by
  have h1 := tot_len fs
  have h2 := List.length_filter_le (has nm) fs
  unfold getN sel
  rw [List.length_map]
  omega
set_option maxHeartbeats 4000000 in
theorem unmodified_in (v : Value) (fs : List Fl) (md : Int) (w : World) (hf : Flds w v fs) (ht : tot fs ≤ 100000) (h0 : 0 ≤ md) (h1 : md ≤ 253402300799) (hE : DateEnv w) :
    Calls Tryd.prog 15 #[v, .int .i64 md] w fun e w' => e = .returned (.bool (unmodOf fs md)) ∧ Below w.heap.size w w' := by
  have HG := Lib.hid (get_any v fs imsU w hf (by omega) (by decide))
  have hgl := getT_length fs imsL
  have HE := Lib.hid hE
  have HU := Lib.hid (unmod_eq fs md h0)
  have HV := Lib.hid (show getVal fs imsL = .tuple #[.string ⟨(getT fs imsL).toArray⟩, .int .i64 (getN fs imsL : Int)] from rfl)
  have hgn := getN_le fs imsL
  obtain ⟨n, hn⟩ : ∃ n, n = getN fs imsL := ⟨_, rfl⟩
  obtain ⟨T, hT⟩ : ∃ T : ByteArray, T = ⟨(getT fs imsL).toArray⟩ := ⟨_, rfl⟩
  have hTs : T.size ≤ 1000000 := by rw [hT]; show (getT fs imsL).toArray.size ≤ _; simp; omega
  have HP := Lib.hid (fun (W : World) (h : DateEnv W) => Dp.parse_any T W hTs h.env h.frm)
  rw [show T.data.toList = getT fs imsL from by rw [hT]] at HP
  obtain ⟨x, hx⟩ : ∃ x, x = (Dp.parseD (getT fs imsL)).1 := ⟨_, rfl⟩
  obtain ⟨ok, hok⟩ : ∃ x, x = (Dp.parseD (getT fs imsL)).2 := ⟨_, rfl⟩
  rw [← hn, ← hT] at HV
  rw [← hn, ← hx, ← hok] at HU
  rw [← hx, ← hok] at HP
  rw [val_low fs ims_low] at HG
  rw [HV.out] at HG
  rw [HU.out]
  have hn2 : n ≤ 100000 := by omega
  clear hn hT hx hok hgl hgn HU HV hE hf ht hTs
  go_enter Tryd.func15, Tryd.ntmps15
  go_wp2_with fail
  refine HG.out.mono ?_
  rintro e w1 ⟨rfl, hb1⟩
  have HE1 := Lib.hid (HE.out.below hb1 (Nat.le_refl _))
  have HB1 := Lib.hid hb1
  clear hb1
  go_wp2_with fail
  refine (HP.out w1 HE1.out).mono ?_
  rintro e w2 ⟨rfl, hb2⟩
  have HE2 := Lib.hid (HE1.out.below hb2 (Nat.le_refl _))
  have HB2 := Lib.hid (Bl.next HB1.out hb2)
  clear hb2
  by_cases hn1 : n = 1
  · subst hn1
    cases ok with
    | true =>
      go_wp2_with fail
      refine (told_in md w2 h0 h1 HE2.out).mono ?_
      rintro e w3 ⟨rfl, hb3⟩
      have HB3 := Lib.hid (Bl.next HB2.out hb3)
      clear hb3
      go_wp2_with fail
      go_ret
      exact ⟨by simp, HB3.out⟩
    | false =>
      go_wp2_with fail
      go_ret
      exact ⟨by simp, HB2.out⟩
  · have e1 : ¬ (n : Int) = 1 := by omega
    have e2 : ((n : Int) == 1) = false := beq_eq_false_iff_ne.2 e1
    have HN := Lib.hid (decide_eq_false hn1)
    go_wp2_with fail
    go_ret
    exact ⟨by rw [HN.out, Bool.false_and]; rfl, HB2.out⟩
end Go.Proofs.YtledjiikpajdaaaDoor.Vd
/-
  A tag's text as the program cuts it (two prefixes and a suffix), and as the reference does (by places): both are the plain function. No program, no condition.
-/
namespace Go.Proofs.YtledjiikpajdaaaDoor.Vd
open Go.Proofs.YtledjiikpajdaaaDoor.Tk Go.Proofs.YtledjiikpajdaaaDoor.Fd
set_option linter.unusedVariables false
set_option linter.unusedSimpArgs false

/-- What is left behind W/ (or all), and what is left behind a quote. -/
def quotedL (s : Bs) : Bs := Lib.trimPrefix s [87, 47]
def openL (s : Bs) : Bs := Lib.trimPrefix (quotedL s) [34]
def textL (s : Bs) : Bs := Lib.trimSuffix (openL s) [34]
def beginsL (s : Bs) : Bool := Lib.hasPrefix (quotedL s) [34]
def endsL (s : Bs) : Bool := Lib.hasSuffix (openL s) [34]
def weakL (s : Bs) : Bool := Lib.hasPrefix s [87, 47]
theorem prefix_two (s : Bs) : weakL s = decide (s.take 2 = [87, 47]) := by
  unfold weakL Lib.hasPrefix
  match s with
  | [] => simp
  | [a] => simp [List.isPrefixOf]
  | a :: b :: r => 
    simp only [List.isPrefixOf, List.take_succ_cons, List.take_zero, List.cons.injEq, and_true]
    rw [Bool.eq_iff_iff]
    simp only [Bool.and_eq_true, beq_iff_eq, decide_eq_true_iff, Bool.and_true]
    constructor <;> rintro ⟨rfl, rfl⟩ <;> exact ⟨rfl, rfl⟩
theorem prefix_one (s : Bs) : Lib.hasPrefix s [34] = decide (s.head? = some 34) := by
  unfold Lib.hasPrefix
  cases s with
  | nil => simp
  | cons a r =>
    simp only [List.isPrefixOf, List.head?_cons, Option.some.injEq, Bool.and_true]
    rw [Bool.eq_iff_iff, beq_iff_eq, decide_eq_true_iff]
    exact ⟨Eq.symm, Eq.symm⟩
theorem suffix_one (s : Bs) : Lib.hasSuffix s [34] = decide (s.getLast? = some 34) := by
  unfold Lib.hasSuffix
  rw [Bool.eq_iff_iff, List.isSuffixOf_iff_suffix, decide_eq_true_iff]
  constructor
  · rintro ⟨t, rfl⟩; simp
  · intro h
    obtain ⟨i, rfl⟩ := List.getLast?_eq_some_iff.1 h
    exact ⟨i, rfl⟩
theorem quoted_eq (s : Bs) : quotedL s = if weakL s then s.drop 2 else s := rfl
/-- What stands between the quotes of a text, cut in the program's way. -/
theorem body_cut (q : Bs) : body q = if Lib.hasPrefix q [34] && Lib.hasSuffix (Lib.trimPrefix q [34]) [34] && (Lib.trimSuffix (Lib.trimPrefix q [34]) [34]).all tagByte then some (Lib.trimSuffix (Lib.trimPrefix q [34]) [34]) else none := by
  unfold body
  cases q with
  | nil => simp [Lib.hasPrefix]
  | cons a r =>
    by_cases ha : a = 34
    · subst ha
      have h1 : Lib.hasPrefix (34 :: r) [34] = true := by rw [prefix_one]; simp
      have h2 : Lib.trimPrefix (34 :: r) [34] = r := by unfold Lib.trimPrefix; rw [h1]; rfl
      rw [h2, h1]
      have h3 : inner (34 :: r) = r.dropLast := rfl
      rw [h3]
      by_cases hl : r.getLast? = some 34
      · have h4 : Lib.hasSuffix r [34] = true := by rw [suffix_one]; simp [hl]
        have h5 : Lib.trimSuffix r [34] = r.dropLast := by unfold Lib.trimSuffix; rw [h4, if_pos rfl, List.dropLast_eq_take]; rfl
        have hr : r ≠ [] := by rintro rfl; simp at hl
        have h6 : (34 :: r).getLast? = some 34 := by rw [List.getLast?_cons, hl]; rfl
        have h7 : 2 ≤ (34 :: r).length := by
          have := List.length_pos_iff.2 hr
          simp; omega
        rw [h4, h5]
        by_cases hb : r.dropLast.all tagByte = true
        · rw [if_pos ⟨h7, rfl, h6, hb⟩, hb]; rfl
        · rw [if_neg (fun h => hb h.2.2.2)]
          have : r.dropLast.all tagByte = false := by simpa using hb
          rw [this]; rfl
      · have h4 : Lib.hasSuffix r [34] = false := by rw [suffix_one]; simp [hl]
        rw [h4]
        rw [if_neg]
        · rfl
        · rintro ⟨h7, _, h6, _⟩
          cases r with
          | nil => simp at h7
          | cons b r' =>
            rw [List.getLast?_cons] at h6
            cases hg : (b :: r').getLast? with
            | none => simp at hg
            | some d => rw [hg] at h6; simp at h6; exact hl (by rw [hg, h6])
    · have h1 : Lib.hasPrefix (a :: r) [34] = false := by rw [prefix_one]; simp [ha]
      rw [h1, if_neg (fun h => ha (by simpa using h.2.1))]
      rfl
theorem parse_cut (s : Bs) : parseTag s = if beginsL s && endsL s && (textL s).all tagByte then some (weakL s, textL s) else none := by
  have hb := body_cut (quotedL s)
  have e : (if beginsL s && endsL s && (textL s).all tagByte then some (weakL s, textL s) else none) = (body (quotedL s)).map fun t => (weakL s, t) := by
    rw [hb]
    show _ = Option.map _ (if beginsL s && endsL s && (textL s).all tagByte then some (textL s) else none)
    split <;> rfl
  rw [e, quoted_eq]
  unfold parseTag
  cases hw : weakL s with
  | false =>
    rw [prefix_two, decide_eq_false_iff_not] at hw
    rw [if_neg (fun h => hw h.2)]; rfl
  | true =>
    have hw' := hw
    rw [prefix_two, decide_eq_true_iff] at hw'
    rw [if_pos rfl]
    by_cases hl : 2 < s.length
    · rw [if_pos ⟨hl, hw'⟩]
    · rw [if_neg (fun h => hl h.1)]
      have h2 : s.length = 2 := by
        have := congrArg List.length hw'
        simp at this; omega
      have hs : s = [87, 47] := by rw [← hw', List.take_of_length_le (by omega)]
      subst hs; decide
/-- In the reference's way: the places of the quotes, and each byte between. -/
def restL (s : Bs) : Bs := if 2 < s.length ∧ s.take 2 = [87, 47] then s.drop 2 else s
def flagL (s : Bs) : Bool := decide (2 < s.length ∧ s.take 2 = [87, 47])
theorem parse_rest (s : Bs) : parseTag s = (body (restL s)).map fun t => (flagL s, t) := by
  unfold parseTag restL flagL
  split
  · rename_i h; rw [decide_eq_true h]
  · rename_i h; rw [decide_eq_false h]
end Go.Proofs.YtledjiikpajdaaaDoor.Vd
