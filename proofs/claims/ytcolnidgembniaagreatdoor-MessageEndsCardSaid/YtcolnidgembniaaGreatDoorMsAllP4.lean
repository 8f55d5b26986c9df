/-
  Texts that the laws' proofs stand on, 10 of them in one file; each one's head says what it proves and under which condition.
-/
import Derived.Test.YtcolnidgembniaaGreatDoorMsAllP3
import Derived.Test.YtcolnidgembniaaGreatDoorMsAllP1
import Derived.Shelf.LaysM
import Derived.Shelf.Strconv.SyntaxError
import Derived.Shelf.Strconv.ToError
import Derived.Shelf.Strconv.Lower
import Derived.Shelf.Strings.AsciiSet
import Derived.Test.YtcolnidgembniaaGreatDoorProg
import Derived.Deep.WholeRow
import Derived.WalkKit
import Derived.WalkLawsBesides
import Derived.Lib.SlBytesConst
import Derived.BigQuiet
/-
  framing.isExtension: what it returns. Condition: a text of at most maxLen bytes.
-/
namespace Go.Proofs.YtcolnidgembniaaGreatDoor.Fr
open Go.RowKit Go.Proofs.YtcolnidgembniaaGreatDoor.Tk Go.Proofs.YtcolnidgembniaaGreatDoor.Fd Go.Proofs.YtcolnidgembniaaGreatDoor.Hd
set_option linter.unusedVariables false

def extAll (l : Bs) : Bool := l.all ext
theorem ext_no {s : ByteArray} {k : Nat} (h : k < s.size) (he : ext s[k] = false) : extAll s.data.toList = false := by
  unfold extAll
  rw [Bool.eq_false_iff]
  intro ha
  have hm : s[k] ∈ s.data.toList := by rw [show s[k] = s.data.toList[k]'(by rw [Array.length_toList]; exact h) from rfl]; exact List.getElem_mem _
  rw [List.all_eq_true.1 ha _ hm] at he
  cases he
theorem ext_all {s : ByteArray} (h : (s.data.toList.take s.size).all ext = true) : extAll s.data.toList = true := by
  unfold extAll
  rwa [List.take_of_length_le (by rw [Array.length_toList]; exact Nat.le_refl _)] at h
set_option maxRecDepth 100000 in
set_option maxHeartbeats 4000000 in
theorem ext_any (s : ByteArray) (w : World) (hs : s.size ≤ maxLen) :
    Calls Tryz.prog 141 #[.string s] w fun e w' => e = .returned (.bool (extAll s.data.toList)) ∧ w = w' := by
  unfold maxLen at hs
  go_enter Tryz.func141, Tryz.ntmps141
  go_wp2_with fail
  go_loop [3, 6] (fun _ i => ∃ k : Nat, k ≤ s.size ∧ i = .int .i64 (k : Int) ∧ (s.data.toList.take k).all ext = true) (fun _ i => s.size - (intOf i).toNat)
  case atStart => exact ⟨0, Nat.zero_le _, rfl, rfl⟩
  case round =>
    obtain ⟨k, hk, rfl, hal⟩ := hrel
    have HAL := Lib.hid hal
    clear hal
    by_cases hlt : k < s.size
    · by_cases h9 : s[k].toNat < 9
      · have HN := Lib.hid (ext_no hlt (by unfold ext; simp; omega))
        have h9' : (s[k].toNat : Int) < 9 := by omega
        go_wp2_with fail
        go_ret
        exact ⟨by rw [HN.out]; rfl, rfl⟩
      · have h9' : ¬ ((s[k].toNat : Int) < 9) := by omega
        by_cases h127 : s[k].toNat = 127
        · have HN := Lib.hid (ext_no hlt (by unfold ext; simp [h127]))
          have hd : (s[k].toNat : Int) = 127 := by omega
          have hd2 : ((s[k].toNat : Int) == 127) = true := by simp; omega
          clear h127
          go_wp2_with fail
          go_ret
          exact ⟨by rw [HN.out]; rfl, rfl⟩
        · have HA := Lib.hid (show (s.data.toList.take (k + 1)).all ext = true from by rw [all_snoc ext s k hlt, HAL.out]; unfold ext; simp [h127]; omega)
          have hd : ¬ ((s[k].toNat : Int) = 127) := by omega
          have hd2 : ((s[k].toNat : Int) == 127) = false := by simp; omega
          clear h127
          go_wp2_with fail
          go_round
          case rel => exact ⟨k + 1, by omega, by go_num, HA.out⟩
          case measure => simp [intOf]; omega
    · obtain rfl : k = s.size := by omega
      have HV := Lib.hid (ext_all HAL.out)
      go_wp2_with fail
      go_ret
      exact ⟨by rw [HV.out]; rfl, rfl⟩
end Go.Proofs.YtcolnidgembniaaGreatDoor.Fr
/-
  strings.Cut at ";", as the library's own text has it: what it returns. Condition: a text of at most maxLen bytes.
-/
namespace Go.Proofs.YtcolnidgembniaaGreatDoor.Fr
open Go.RowKit Go.Proofs.YtcolnidgembniaaGreatDoor.Tk
set_option linter.unusedVariables false

def semIdx : Bs → Nat
  | [] => 0
  | c :: r => if c = 59 then 0 else semIdx r + 1
theorem semIdx_le (l : Bs) : semIdx l ≤ l.length := by
  induction l with
  | nil => exact Nat.le_refl _
  | cons c r ih => unfold semIdx; split <;> simp; omega
theorem semIdx_at (l : Bs) (h : semIdx l < l.length) : l[semIdx l] = 59 := by
  induction l with
  | nil => simp at h
  | cons c r ih =>
    unfold semIdx at h ⊢
    by_cases hc : c = 59
    · simp [hc]
    · simp only [hc, if_false] at h ⊢
      simp only [List.length_cons] at h
      exact ih (by omega)
theorem semIdx_before (l : Bs) (j : Nat) (hj : j < semIdx l) : l[j]'(by have := semIdx_le l; omega) ≠ 59 := by
  induction l generalizing j with
  | nil => simp [semIdx] at hj
  | cons c r ih =>
    by_cases hc : c = 59
    · simp [semIdx, hc] at hj
    · cases j with
      | zero => simpa using hc
      | succ j =>
        simp only [semIdx, hc, if_false] at hj
        simpa using ih j (by omega)
/-- A place ahead of which there is no colon, and which has one, or is the end. -/
theorem semIdx_is (l : Bs) (k : Nat) (hk : k ≤ l.length) (h1 : ∀ j (hj : j < k), l[j]'(by omega) ≠ 59) (h2 : ∀ h : k < l.length, l[k] = 59) : semIdx l = k := by
  rcases Nat.lt_trichotomy (semIdx l) k with h | h | h
  · exact absurd (semIdx_at l (by omega)) (h1 _ h)
  · exact h
  · have := semIdx_le l
    exact absurd (h2 (by omega)) (semIdx_before l k h)
theorem indexByte_eq (l : Bs) : Lib.indexByte l 59 = if semIdx l < l.length then (semIdx l : Int) else -1 := by
  induction l with
  | nil => simp [Lib.indexByte, semIdx]
  | cons c r ih =>
    unfold Lib.indexByte semIdx
    by_cases hc : c = 59
    · simp [hc]
    · have hc' : (c == 59) = false := by simpa using hc
      simp only [hc', hc, if_false, ih, List.length_cons, Bool.false_eq_true]
      by_cases h : semIdx r < r.length
      · have h2 : semIdx r + 1 < r.length + 1 := by omega
        have h3 : (((semIdx r : Nat) : Int) == -1) = false := beq_eq_false_iff_ne.2 (by omega)
        simp only [h, h2, if_true, h3, Bool.false_eq_true, if_false]; omega
      · have h2 : ¬ semIdx r + 1 < r.length + 1 := by omega
        simp [h, h2]


/-! Lists of fields. -/
theorem eq_text_ne {s : ByteArray} (h : s ≠ ⟨#[59]⟩) : (([59] : List UInt8) == s.toList) = false := by
  rw [beq_eq_false_iff_ne, ByteArray.toList_eq]; intro e; apply h
  cases s with
  | mk d => cases d with
    | mk l => simp at e; subst e; rfl

set_option maxHeartbeats 1000000 in
theorem index_any (s : ByteArray) (w : World) :
    Calls Tryz.prog 131 #[.string s, .string ⟨#[59]⟩] w fun e w' => e = .returned (.int .i64 (Lib.indexByte s.data.toList 59)) ∧ w = w' := by
  by_cases he : s = ⟨#[59]⟩
  · have h1 : (([59] : List UInt8) == s.toList) = true := by rw [he]; simp
    have HV := Lib.hid (show Lib.indexByte s.data.toList 59 = 0 from by rw [he]; rfl)
    clear he
    go_enter Tryz.func131, Tryz.ntmps131
    go_wp2_with fail
    go_ret
    exact ⟨by rw [HV.out]; rfl, rfl⟩
  · have h1 := eq_text_ne he
    clear he
    go_enter Tryz.func131, Tryz.ntmps131
    go_wp2_with fail
    refine (Fd.indexByte_any s 59 _).mono ?_
    rintro e w' ⟨rfl, rfl⟩
    go_wp2_with fail
    go_ret
    exact ⟨rfl, rfl⟩

/-- What Cut at ";" answers. -/
def cutVal (s : ByteArray) : Value :=
  if semIdx s.data.toList < s.size then .tuple #[.string (s.extract 0 (semIdx s.data.toList)), .string (s.extract (semIdx s.data.toList + 1) s.size), .bool true]
  else .tuple #[.string s, .string ⟨#[]⟩, .bool false]

set_option maxHeartbeats 1000000 in
theorem cutLite_any (s : ByteArray) (w : World) (hs : s.size ≤ maxLen) :
    Calls Tryz.prog 121 #[.string s, .string ⟨#[59]⟩] w fun e w' => e = .returned (cutVal s) ∧ ∃ n, w' = w.drewN n := by
  unfold maxLen at hs
  have hlen : s.data.toList.length = s.size := by simp
  obtain ⟨k, hk⟩ : ∃ k, k = semIdx s.data.toList := ⟨_, rfl⟩
  by_cases h : k < s.size
  · have HV := Lib.hid (show cutVal s = .tuple #[.string (s.extract 0 k), .string (s.extract (k + 1) s.size), .bool true] from by unfold cutVal; rw [← hk, if_pos h])
    have HI := Lib.hid (show Lib.indexByte s.data.toList 59 = (k : Int) from by rw [indexByte_eq, ← hk, if_pos (by omega)])
    clear hk hlen
    go_enter Tryz.func121, Tryz.ntmps121
    go_wp2_with fail
    refine (index_any s _).mono ?_
    rintro e w' ⟨rfl, rfl⟩
    rw [HI.out]
    go_wp2_with fail
    go_quiet (fail)
    go_wp2_with fail
    go_ret3
    exact ⟨by rw [HV.out]; rfl, _, rfl⟩
  · have HV := Lib.hid (show cutVal s = .tuple #[.string s, .string ⟨#[]⟩, .bool false] from by unfold cutVal; rw [← hk, if_neg h])
    have HI := Lib.hid (show Lib.indexByte s.data.toList 59 = -1 from by rw [indexByte_eq, ← hk, if_neg (by omega)])
    clear hk hlen
    go_enter Tryz.func121, Tryz.ntmps121
    go_wp2_with fail
    refine (index_any s _).mono ?_
    rintro e w' ⟨rfl, rfl⟩
    rw [HI.out]
    go_wp2_with fail
    go_ret3
    exact ⟨by rw [HV.out]; rfl, 0, rfl⟩
theorem cut_any (s : ByteArray) (w : World) (hs : s.size ≤ maxLen) :
    Calls Tryz.prog 101 #[.string s, .string ⟨#[59]⟩] w fun e w' => e = .returned (cutVal s) ∧ ∃ n, w' = w.drewN n := by
  obtain ⟨a, b, c, hv⟩ : ∃ a b c, cutVal s = .tuple #[.string a, .string b, .bool c] := by
    unfold cutVal; split
    · exact ⟨_, _, _, rfl⟩
    · exact ⟨_, _, _, rfl⟩
  have HV := Lib.hid hv
  clear hv
  go_enter Tryz.func101, Tryz.ntmps101
  go_wp2_with fail
  refine (cutLite_any s _ hs).mono ?_
  rintro e w' ⟨rfl, n, hw⟩
  have HW := Lib.hid hw
  clear hw
  rw [HV.out]
  go_wp2_with fail
  go_ret3
  exact ⟨by rw [HV.out]; rfl, n, HW.out⟩
end Go.Proofs.YtcolnidgembniaaGreatDoor.Fr
/-
  A chunk's line by its parts (what is ahead of a ";", without blanks behind; what is behind it), and its number: the same. No program, no condition.
-/
namespace Go.Proofs.YtcolnidgembniaaGreatDoor.Fr
open Go.Proofs.YtcolnidgembniaaGreatDoor.Tk
set_option linter.unusedVariables false

def numL (t : Bs) : Bs := t.take (semIdx t)
def moreL (t : Bs) : Bs := t.drop (semIdx t + 1)
theorem sem_mk {a : Bs} (h : ∀ c ∈ a, c ≠ 59) (r : Bs) : semIdx (a ++ r) = a.length + semIdx r := by
  induction a with
  | nil => simp
  | cons c s ih =>
    have hc : c ≠ 59 := h c (by simp)
    rw [List.cons_append]
    show (if c = 59 then 0 else semIdx (s ++ r) + 1) = _
    rw [if_neg hc, ih (fun d hd => h d (by simp [hd])), List.length_cons]; omega
theorem rtrim_parts (l : Bs) : ∃ bl, l = rtrim l ++ bl ∧ ∀ c ∈ bl, Tk.blank c = true := by
  induction hn : l.length generalizing l with
  | zero => rw [List.length_eq_zero_iff] at hn; subst hn; exact ⟨[], rfl, by simp⟩
  | succ n ih =>
    rcases snoc_cases l with rfl | ⟨i, c, rfl⟩
    · simp at hn
    · by_cases h : Tk.blank c = true
      · obtain ⟨bl, h1, h2⟩ := ih i (by simpa using hn)
        refine ⟨bl ++ [c], by rw [rtrim_snoc_blank i h, ← List.append_assoc, ← h1], fun d hd => ?_⟩
        rcases List.mem_append.1 hd with hd | hd
        · exact h2 d hd
        · simp at hd; subst hd; exact h
      · exact ⟨[], by rw [rtrim_snoc_other i (by simpa using h)]; simp, by simp⟩
theorem rtrim_app (a : Bs) (bl : Bs) (h : ∀ c ∈ bl, Tk.blank c = true) : rtrim (a ++ bl) = rtrim a := by
  induction hn : bl.length generalizing bl with
  | zero => rw [List.length_eq_zero_iff] at hn; subst hn; simp
  | succ n ih =>
    rcases snoc_cases bl with rfl | ⟨i, c, rfl⟩
    · simp at hn
    · rw [← List.append_assoc, rtrim_snoc_blank _ (h c (by simp)), ih i (fun d hd => h d (by simp [hd])) (by simpa using hn)]
theorem ltrim_app {bl : Bs} (h : ∀ c ∈ bl, Tk.blank c = true) (r : Bs) : ltrim (bl ++ r) = ltrim r := by
  induction bl with
  | nil => rfl
  | cons c s ih => rw [List.cons_append, ltrim_cons_blank _ (h c (by simp)), ih (fun d hd => h d (by simp [hd]))]
theorem ltrim_parts (l : Bs) : ∃ bl, l = bl ++ ltrim l ∧ ∀ c ∈ bl, Tk.blank c = true := by
  induction l with
  | nil => exact ⟨[], rfl, by simp⟩
  | cons c s ih =>
    by_cases h : Tk.blank c = true
    · obtain ⟨bl, h1, h2⟩ := ih
      refine ⟨c :: bl, by rw [ltrim_cons_blank s h, List.cons_append, ← h1], fun d hd => ?_⟩
      rcases List.mem_cons.1 hd with rfl | hd
      · exact h
      · exact h2 d hd
    · exact ⟨[], by rw [ltrim_cons_other s (by simpa using h)]; rfl, by simp⟩
theorem hex_facts (c : UInt8) (h : isHex c = true) : Tk.blank c = false ∧ c ≠ 59 := by
  revert h
  have : ∀ n : Fin 256, isHex (UInt8.ofNat n.val) = true → Tk.blank (UInt8.ofNat n.val) = false ∧ UInt8.ofNat n.val ≠ 59 := by decide +kernel
  intro h
  have e : UInt8.ofNat c.toNat = c := by simp
  have := this ⟨c.toNat, c.toNat_lt⟩
  rw [e] at this
  exact this h
theorem blank_facts (c : UInt8) (h : Tk.blank c = true) : isHex c = false ∧ c ≠ 59 := by
  simp [Tk.blank] at h
  rcases h with rfl | rfl <;> decide
/-- Digits, blanks, and what is behind them. -/
theorem form_of {a bl tl m : Bs} (ha : ∀ c ∈ a, isHex c = true) (hb : ∀ c ∈ bl, Tk.blank c = true) (ht : (tl = [] ∧ m = []) ∨ tl = 59 :: m) :
    hexes (a ++ (bl ++ tl)) = a ∧ tailOk (behind (a ++ (bl ++ tl))) = extAll m ∧ rtrim (numL (a ++ (bl ++ tl))) = a ∧ moreL (a ++ (bl ++ tl)) = m := by
  have hr : ∀ c r, bl ++ tl = c :: r → isHex c = false := by
    intro c r he
    cases bl with
    | cons d s =>
      injection he with h1 h2
      subst h1
      exact (blank_facts d (hb d (by simp))).1
    | nil =>
      rcases ht with ⟨rfl, _⟩ | rfl
      · cases he
      · injection he with h1 h2; subst h1; decide
  obtain ⟨h1, h2⟩ := hexes_mk ha hr
  have hs : semIdx tl = 0 := by rcases ht with ⟨rfl, _⟩ | rfl <;> rfl
  have h59 : semIdx (a ++ (bl ++ tl)) = a.length + bl.length := by
    rw [sem_mk (fun c hc => (hex_facts c (ha c hc)).2), sem_mk (fun c hc => (blank_facts c (hb c hc)).2), hs]; omega
  have hta : rtrim a = a := by
    rcases snoc_cases a with rfl | ⟨i, c, rfl⟩
    · rfl
    · exact rtrim_snoc_other i (hex_facts c (ha c (by simp))).1
  refine ⟨h1, ?_, ?_, ?_⟩
  · rw [h2]
    unfold tailOk
    rw [ltrim_app hb]
    rcases ht with ⟨rfl, rfl⟩ | rfl
    · rfl
    · rw [ltrim_cons_other m (by decide)]; rfl
  · unfold numL
    rw [h59, ← List.append_assoc, List.take_append_of_le_length (by simp), List.take_of_length_le (by simp), rtrim_app a bl hb, hta]
  · unfold moreL
    rw [h59, ← List.append_assoc]
    rcases ht with ⟨rfl, rfl⟩ | rfl
    · rw [List.append_nil, List.drop_eq_nil_of_le (by simp)]
    · rw [show a.length + bl.length + 1 = (a ++ bl).length + 1 from by simp, List.drop_append]; simp
theorem sizeOf_form {a bl tl m : Bs} (ha : ∀ c ∈ a, isHex c = true) (hb : ∀ c ∈ bl, Tk.blank c = true) (ht : (tl = [] ∧ m = []) ∨ tl = 59 :: m) :
    sizeOf (a ++ (bl ++ tl)) = if a.length ≤ 8 ∧ extAll m = true ∧ a ≠ [] then some (hexGo 0 a) else none := by
  obtain ⟨h1, h2, _, _⟩ := form_of ha hb ht
  unfold sizeOf sizeOk
  rw [h1, h2]
  by_cases hc : a.length ≤ 8 ∧ extAll m = true ∧ a ≠ []
  · rw [if_pos hc, if_pos]
    obtain ⟨x, y, z⟩ := hc
    simp [x, y, z]
  · rw [if_neg hc, if_neg]
    intro h
    simp only [Bool.and_eq_true, Bool.not_eq_true', List.isEmpty_eq_false_iff, decide_eq_true_eq] at h
    exact hc ⟨h.1.2, h.2, h.1.1⟩
/-- A chunk's line is read by its parts. -/
theorem size_parts (t : Bs) : sizeOf t = if (rtrim (numL t)).length ≤ 8 ∧ extAll (moreL t) = true ∧ rtrim (numL t) ≠ [] ∧ ∀ c ∈ rtrim (numL t), isHex c = true then some (hexGo 0 (rtrim (numL t))) else none := by
  by_cases hx : ∀ c ∈ rtrim (numL t), isHex c = true
  · obtain ⟨bl, h1, h2⟩ := rtrim_parts (numL t)
    have ht : (t.drop (semIdx t) = [] ∧ moreL t = []) ∨ t.drop (semIdx t) = 59 :: moreL t := by
      by_cases h : semIdx t < t.length
      · right
        rw [← List.getElem_cons_drop h, semIdx_at t h]; rfl
      · left
        exact ⟨List.drop_eq_nil_of_le (by omega), List.drop_eq_nil_of_le (by omega)⟩
    have e : t = rtrim (numL t) ++ (bl ++ t.drop (semIdx t)) := by
      rw [← List.append_assoc, ← h1]; exact (List.take_append_drop _ _).symm
    have h := sizeOf_form hx h2 ht
    rw [← e] at h
    rw [h]
    by_cases hc : (rtrim (numL t)).length ≤ 8 ∧ extAll (moreL t) = true ∧ rtrim (numL t) ≠ []
    · rw [if_pos hc, if_pos ⟨hc.1, hc.2.1, hc.2.2, hx⟩]
    · rw [if_neg hc, if_neg (fun h => hc ⟨h.1, h.2.1, h.2.2.1⟩)]
  · rw [if_neg (fun h => hx h.2.2.2)]
    unfold sizeOf
    rw [if_neg]
    intro hok
    unfold sizeOk at hok
    simp only [Bool.and_eq_true] at hok
    have htl := hok.2
    obtain ⟨bl, h1, h2⟩ := ltrim_parts (behind t)
    unfold tailOk at htl
    have hf : ∃ m, ((ltrim (behind t) = [] ∧ m = []) ∨ ltrim (behind t) = 59 :: m) := by
      split at htl
      · exact ⟨[], .inl ⟨by assumption, rfl⟩⟩
      · rename_i c m he
        simp only [Bool.and_eq_true, beq_iff_eq] at htl
        exact ⟨m, .inr (by rw [he, htl.1])⟩
    obtain ⟨m, hm⟩ := hf
    have e : t = hexes t ++ (bl ++ ltrim (behind t)) := by rw [← h1, hexes_behind]
    have h := (form_of (hexes_all t) h2 hm).2.2.1
    rw [← e] at h
    exact hx (by rw [h]; exact hexes_all t)
end Go.Proofs.YtcolnidgembniaaGreatDoor.Fr
/-
  Contracts of the library, laid at this translation (its own numbers): each one application. No condition.
-/
namespace Go.Proofs.YtcolnidgembniaaGreatDoor.Fs
open Go.Shelf Go.RowKit
def laysC245_ren : Go.Shelf.Ren := ⟨fun | 245 => 154 | 279 => 165 | 280 => 166 | 281 => 167 | 282 => 168 | 316 => 122 | 171 => 120 | 205 => 174 | 243 => 130 | 246 => 135 | 283 => 143 | 284 => 144 | 285 => 145 | 286 => 146 | 129 => 156 | 317 => 155 | 318 => 157 | 319 => 158 | 320 => 159 | 337 => 169 | 338 => 170 | n => n, fun | 9 => 9 | 3 => 3 | 75 => 137 | 167 => 209 | 4 => 4 | 168 => 210 | 210 => 216 | 37 => 22 | 0 => 0 | 127 => 162 | 145 => 223 | 143 => 221 | 2 => 2 | 171 => 186 | 53 => 176 | 5 => 5 | 173 => 189 | 212 => 203 | 51 => 191 | 20 => 20 | 213 => 204 | 46 => 182 | 232 => 218 | 233 => 219 | 80 => 140 | n => n, fun | 15 => 3 | 16 => 4 | 17 => 2 | 18 => 5 | 19 => 6 | n => n⟩
theorem laysC245 : Go.Proofs.LaysC.n245 Tryz.prog laysC245_ren := {
  mixed := by kernel_rfl
  f129 := Tryz.func156.trans (congrArg some (by kernel_rfl))
  f171 := Tryz.func120.trans (congrArg some (by kernel_rfl))
  f205 := Tryz.func174.trans (congrArg some (by kernel_rfl))
  f243 := Tryz.func130.trans (congrArg some (by kernel_rfl))
  f245 := Tryz.func154.trans (congrArg some (by kernel_rfl))
  f246 := Tryz.func135.trans (congrArg some (by kernel_rfl))
  f279 := Tryz.func165.trans (congrArg some (by kernel_rfl))
  f280 := Tryz.func166.trans (congrArg some (by kernel_rfl))
  f281 := Tryz.func167.trans (congrArg some (by kernel_rfl))
  f282 := Tryz.func168.trans (congrArg some (by kernel_rfl))
  f283 := Tryz.func143.trans (congrArg some (by kernel_rfl))
  f284 := Tryz.func144.trans (congrArg some (by kernel_rfl))
  f285 := Tryz.func145.trans (congrArg some (by kernel_rfl))
  f286 := Tryz.func146.trans (congrArg some (by kernel_rfl))
  f316 := Tryz.func122.trans (congrArg some (by kernel_rfl))
  f317 := Tryz.func155.trans (congrArg some (by kernel_rfl))
  f318 := Tryz.func157.trans (congrArg some (by kernel_rfl))
  f319 := Tryz.func158.trans (congrArg some (by kernel_rfl))
  f320 := Tryz.func159.trans (congrArg some (by kernel_rfl))
  f337 := Tryz.func169.trans (congrArg some (by kernel_rfl))
  f338 := Tryz.func170.trans (congrArg some (by kernel_rfl))
  t0 := Tryz.underlying0
  a0 := Tryz.isAgg0
  z0 := Tryz.sizeOf0
  v0 := Tryz.zeroValue0
  t2 := Tryz.underlying2
  a2 := Tryz.isAgg2
  z2 := Tryz.sizeOf2
  v2 := Tryz.zeroValue2
  t3 := Tryz.underlying3
  a3 := Tryz.isAgg3
  z3 := Tryz.sizeOf3
  v3 := Tryz.zeroValue3
  t4 := Tryz.underlying4
  a4 := Tryz.isAgg4
  z4 := Tryz.sizeOf4
  v4 := Tryz.zeroValue4
  t5 := Tryz.underlying5
  a5 := Tryz.isAgg5
  z5 := Tryz.sizeOf5
  v5 := Tryz.zeroValue5
  t9 := Tryz.underlying9
  a9 := Tryz.isAgg9
  z9 := Tryz.sizeOf9
  v9 := Tryz.zeroValue9
  t20 := Tryz.underlying20
  a20 := Tryz.isAgg20
  z20 := Tryz.sizeOf20
  v20 := Tryz.zeroValue20
  t37 := Tryz.underlying22
  a37 := Tryz.isAgg22
  z37 := Tryz.sizeOf22
  v37 := Tryz.zeroValue22
  t46 := Tryz.underlying182
  a46 := Tryz.isAgg182
  z46 := Tryz.sizeOf182
  v46 := Tryz.zeroValue182
  t51 := Tryz.underlying191
  a51 := Tryz.isAgg191
  z51 := Tryz.sizeOf191
  v51 := Tryz.zeroValue191
  t53 := Tryz.underlying176
  a53 := Tryz.isAgg176
  z53 := Tryz.sizeOf176
  v53 := Tryz.zeroValue176
  t75 := Tryz.underlying137
  a75 := Tryz.isAgg137
  z75 := Tryz.sizeOf137
  v75 := Tryz.zeroValue137
  t127 := Tryz.underlying162
  a127 := Tryz.isAgg162
  z127 := Tryz.sizeOf162
  v127 := Tryz.zeroValue162
  t143 := Tryz.underlying221
  a143 := Tryz.isAgg221
  z143 := Tryz.sizeOf221
  v143 := Tryz.zeroValue221
  t145 := Tryz.underlying223
  a145 := Tryz.isAgg223
  z145 := Tryz.sizeOf223
  v145 := Tryz.zeroValue223
  t167 := Tryz.underlying209
  a167 := Tryz.isAgg209
  z167 := Tryz.sizeOf209
  v167 := Tryz.zeroValue209
  t168 := Tryz.underlying210
  a168 := Tryz.isAgg210
  z168 := Tryz.sizeOf210
  v168 := Tryz.zeroValue210
  t171 := Tryz.underlying186
  a171 := Tryz.isAgg186
  z171 := Tryz.sizeOf186
  v171 := Tryz.zeroValue186
  t173 := Tryz.underlying189
  a173 := Tryz.isAgg189
  z173 := Tryz.sizeOf189
  v173 := Tryz.zeroValue189
  t210 := Tryz.underlying216
  a210 := Tryz.isAgg216
  z210 := Tryz.sizeOf216
  v210 := Tryz.zeroValue216
  t212 := Tryz.underlying203
  a212 := Tryz.isAgg203
  z212 := Tryz.sizeOf203
  v212 := Tryz.zeroValue203
  t213 := Tryz.underlying204
  a213 := Tryz.isAgg204
  z213 := Tryz.sizeOf204
  t232 := Tryz.underlying218
  a232 := Tryz.isAgg218
  z232 := Tryz.sizeOf218
  v232 := Tryz.zeroValue218
  t233 := Tryz.underlying219
  a233 := Tryz.isAgg219
  z233 := Tryz.sizeOf219
  v233 := Tryz.zeroValue219
  g15 := by kernel_rfl
  g16 := by kernel_rfl
  g17 := by kernel_rfl
  g18 := by kernel_rfl
  g19 := by kernel_rfl
  t80 := Tryz.underlying140
  a80 := Tryz.isAgg140
  z80 := Tryz.sizeOf140
  v80 := Tryz.zeroValue140
  i0 := by kernel_rfl
  i2 := by kernel_rfl
  i3 := by kernel_rfl
  i4 := by kernel_rfl
  i5 := by kernel_rfl
  i9 := by kernel_rfl
  i20 := by kernel_rfl
  i37 := by kernel_rfl
  i46 := by kernel_rfl
  i51 := by kernel_rfl
  i53 := by kernel_rfl
  i75 := by kernel_rfl
  i80 := by kernel_rfl
  i127 := by kernel_rfl
  i143 := by kernel_rfl
  i145 := by kernel_rfl
  i167 := by kernel_rfl
  i168 := by kernel_rfl
  i171 := by kernel_rfl
  i173 := by kernel_rfl
  i210 := by kernel_rfl
  i212 := by kernel_rfl
  i232 := by kernel_rfl
  i233 := by kernel_rfl
  m15 := by kernel_rfl
  m16 := by kernel_rfl
  m17 := by kernel_rfl
  m18 := by kernel_rfl
  m19 := by kernel_rfl
  c0 := by kernel_rfl
  c2 := by kernel_rfl
  c3 := by kernel_rfl
  c4 := by kernel_rfl
  c5 := by kernel_rfl
  c9 := by kernel_rfl
  c20 := by kernel_rfl
  c37 := by kernel_rfl
  c46 := by kernel_rfl
  c51 := by kernel_rfl
  c53 := by kernel_rfl
  c75 := by kernel_rfl
  c80 := by kernel_rfl
  c127 := by kernel_rfl
  c143 := by kernel_rfl
  c145 := by kernel_rfl
  c167 := by kernel_rfl
  c168 := by kernel_rfl
  c171 := by kernel_rfl
  c173 := by kernel_rfl
  c210 := by kernel_rfl
  c212 := by kernel_rfl
  c213 := by kernel_rfl
  c232 := by kernel_rfl
  c233 := by kernel_rfl }
open Go.RowKit in
theorem strconv_toError_syntax (fn s : ByteArray) (base bits : Int) (ev : Value) (w : World) (hlim : s.size ≤ 281474976710656) (hv : w.cell? ⟨3, 0, none⟩ = some ev) (hev : ev = .nilIface ∨ ∃ te pe, ev = .iface te pe) :
    Calls Tryz.prog 154 #[.string fn, .string s, .int .i64 base, .int .i64 bits, .iface 209 (.int .i64 2)] w fun e w' => ∃ N, e = .returned (.iface 210 (.pointer (some ⟨N, 0, none⟩))) ∧ w.heap.size ≤ N ∧ w'.heap[N]? = some (.cells #[.string fn, .string s, ev] 216 (0, 0)) ∧ Below w.heap.size w w' := Any.strconv_toError_syntax laysC245 fn s base bits ev w hlim hv hev
def lays321_ren : Go.Shelf.Ren := ⟨fun | 321 => 163 | n => n, fun | 5 => 5 | n => n, fun | n => n⟩
theorem lays321 : Go.Proofs.Lays.n321 Tryz.prog lays321_ren := {
  mixed := by kernel_rfl
  f321 := Tryz.func163.trans (congrArg some (by kernel_rfl))
  t5 := Tryz.underlying5
  a5 := Tryz.isAgg5
  z5 := Tryz.sizeOf5
  v5 := Tryz.zeroValue5 }
open Go.RowKit in
theorem internal_strconv_lower (c : Int) (w : World) :
    Calls Tryz.prog 163 #[.int .u8 c] w fun e w' => e = .returned (.int .u8 (bits .or .u8 c 32)) ∧ w' = w := Any.internal_strconv_lower lays321 c w
def lays227_ren : Go.Shelf.Ren := ⟨fun | 227 => 150 | n => n, fun | 9 => 9 | 116 => 196 | 4 => 4 | 0 => 0 | 3 => 3 | 5 => 5 | n => n, fun | n => n⟩
theorem lays227 : Go.Proofs.Lays.n227 Tryz.prog lays227_ren := {
  mixed := by kernel_rfl
  f227 := Tryz.func150.trans (congrArg some (by kernel_rfl))
  t0 := Tryz.underlying0
  a0 := Tryz.isAgg0
  z0 := Tryz.sizeOf0
  v0 := Tryz.zeroValue0
  t3 := Tryz.underlying3
  a3 := Tryz.isAgg3
  z3 := Tryz.sizeOf3
  v3 := Tryz.zeroValue3
  t4 := Tryz.underlying4
  a4 := Tryz.isAgg4
  z4 := Tryz.sizeOf4
  v4 := Tryz.zeroValue4
  t5 := Tryz.underlying5
  a5 := Tryz.isAgg5
  z5 := Tryz.sizeOf5
  v5 := Tryz.zeroValue5
  t9 := Tryz.underlying9
  a9 := Tryz.isAgg9
  z9 := Tryz.sizeOf9
  v9 := Tryz.zeroValue9
  t116 := Tryz.underlying196
  a116 := Tryz.isAgg196
  z116 := Tryz.sizeOf196 }
open Go.RowKit Go.Lib in
theorem strings_makeASCIISet (hv116 : ∀ w, (zeroValue 196).run Tryz.prog w = .ok (.agg (Array.replicate 256 (.bool false))) w) (chars : ByteArray) (w : World) (hs : chars.size < 4294967281) (hascii : ∀ (j : Nat) b, chars.data.toList[j]? = some b → b.toNat < 128) :
    Calls Tryz.prog 150 #[.string chars] w fun e w' => e = .returned (.tuple #[.agg (Lib.setCells chars.data.toList), .bool true]) ∧ w' = w.alloc (.cells (Lib.setCells chars.data.toList) 196) := Any.strings_makeASCIISet lays227 hv116 (by kernel_rfl) chars w hs hascii
def lays228_ren : Go.Shelf.Ren := ⟨fun | 228 => 160 | n => n, fun | 124 => 200 | 5 => 5 | 4 => 4 | 0 => 0 | 116 => 196 | n => n, fun | n => n⟩
theorem lays228 : Go.Proofs.Lays.n228 Tryz.prog lays228_ren := {
  mixed := by kernel_rfl
  f228 := Tryz.func160.trans (congrArg some (by kernel_rfl))
  t0 := Tryz.underlying0
  a0 := Tryz.isAgg0
  z0 := Tryz.sizeOf0
  v0 := Tryz.zeroValue0
  t4 := Tryz.underlying4
  a4 := Tryz.isAgg4
  z4 := Tryz.sizeOf4
  v4 := Tryz.zeroValue4
  t5 := Tryz.underlying5
  a5 := Tryz.isAgg5
  z5 := Tryz.sizeOf5
  v5 := Tryz.zeroValue5
  t116 := Tryz.underlying196
  a116 := Tryz.isAgg196
  z116 := Tryz.sizeOf196
  t124 := Tryz.underlying200
  a124 := Tryz.isAgg200
  z124 := Tryz.sizeOf200
  v124 := Tryz.zeroValue200 }
open Go.RowKit Go.Lib in
theorem asciiSet_contains (b : Nat) (x : UInt8) (v : Bool) (w : World) (hc : w.cell? ⟨b, x.toNat, none⟩ = some (.bool v)) :
    Calls Tryz.prog 160 #[.pointer (some ⟨b, 0, none⟩), .int .u8 x.toNat] w fun e w' => e = .returned (.bool v) ∧ w' = w := Any.asciiSet_contains lays228 b x v w hc
end Go.Proofs.YtcolnidgembniaaGreatDoor.Fs
/-
  strings.TrimRight's walk by a set of bytes: what it returns. Condition: the set holds the blanks.
-/
namespace Go.Proofs.YtcolnidgembniaaGreatDoor.Fr
open Go.RowKit Go.Proofs.YtcolnidgembniaaGreatDoor.Tk Go.Proofs.YtcolnidgembniaaGreatDoor.Fd Go.Proofs.YtcolnidgembniaaGreatDoor.Hd
set_option linter.unusedVariables false

theorem last_take {S : ByteArray} {n : Nat} (h : S.size = n + 1) : S.data.toList = (S.extract 0 n).data.toList ++ [S[n]'(by omega)] := by
  have hl : S.data.toList.length = n + 1 := by rw [Array.length_toList]; exact h
  rw [ByteArray.data_extract, Array.toList_extract, List.extract_eq_take_drop, List.drop_zero, Nat.sub_zero]
  have e := List.take_append_getElem (l := S.data.toList) (i := n) (by omega)
  have e2 : S.data.toList.take (n + 1) = S.data.toList := List.take_of_length_le (by omega)
  rw [e2] at e
  exact e.symm
theorem of_data {S : ByteArray} {l : Bs} (h : S.data.toList = l) : S = txt l := by subst h; cases S with | mk d => cases d; rfl
set_option maxRecDepth 100000 in
set_option maxHeartbeats 4000000 in
theorem trimSet_any (b : Nat) (s : ByteArray) (w : World) (hs : s.size ≤ 4294967280) (hset : ∀ x : UInt8, w.cell? ⟨b, x.toNat, none⟩ = some (.bool (Tk.blank x))) :
    Calls Tryz.prog 151 #[.string s, .pointer (some ⟨b, 0, none⟩)] w fun e w' => e = .returned (.string (txt (rtrim s.data.toList))) ∧ w = w' := by
  have HC := Lib.hid (fun x => Fs.asciiSet_contains b x (Tk.blank x) w (hset x))
  clear hset
  go_enter Tryz.func151, Tryz.ntmps151
  go_wp2_with fail
  go_loop [0] (fun u => ∃ S : ByteArray, S.size ≤ 4294967280 ∧ u = .string S ∧ Hid (rtrim S.data.toList = rtrim s.data.toList)) (fun u => match u with | .string S => S.size | _ => 0)
  case atStart => exact ⟨s, hs, rfl, Lib.hid rfl⟩
  case round =>
    obtain ⟨S, hS, rfl, HR⟩ := hrel
    by_cases h0 : S.size = 0
    · have HE := Lib.hid (show S = txt (rtrim s.data.toList) from by
        rw [← HR.out]
        have : S.data.toList = [] := by apply List.length_eq_zero_iff.1; rw [Array.length_toList]; exact h0
        rw [this]; exact of_data this)
      go_wp2_with fail
      go_ret
      exact ⟨by rw [← HE.out]; rfl, rfl⟩
    · obtain ⟨n, hn⟩ : ∃ n, S.size = n + 1 := ⟨S.size - 1, by omega⟩
      have hlt : n < S.size := by omega
      have HL := Lib.hid (last_take hn)
      have hm : (S.size : Int) - 1 = (n : Int) := by omega
      have HX := Lib.hid (HC.out (S[n]'hlt))
      cases hb : Tk.blank (S[n]'hlt) with
      | true =>
        rw [hb] at HX
        have HN := Lib.hid (show rtrim (S.extract 0 n).data.toList = rtrim s.data.toList from by rw [← HR.out, HL.out, rtrim_snoc_blank _ hb])
        have hz : (S.extract 0 n).size = n := by rw [ByteArray.size_extract]; omega
        clear hb
        go_wp2_with fail
        refine HX.out.mono ?_
        rintro e w1 ⟨rfl, rfl⟩
        go_wp2_with fail
        go_round
        case rel => exact ⟨S.extract 0 n, by omega, rfl, HN⟩
        case measure => show (S.extract 0 n).size < S.size; omega
      | false =>
        rw [hb] at HX
        have HE := Lib.hid (show S = txt (rtrim s.data.toList) from by
          rw [← HR.out]; refine of_data ?_
          rw [HL.out, rtrim_snoc_other _ hb])
        clear hb
        go_wp2_with fail
        refine HX.out.mono ?_
        rintro e w1 ⟨rfl, rfl⟩
        go_wp2_with fail
        go_ret
        exact ⟨by rw [← HE.out]; rfl, rfl⟩
def isB (o : Option Value) (b : Bool) : Bool :=
  match o with
  | some (.bool c) => c == b
  | _ => false
theorem isB_eq {o : Option Value} {b : Bool} (h : isB o b = true) : o = some (.bool b) := by
  unfold isB at h
  split at h
  · rw [beq_iff_eq] at h; rw [h]
  · cases h
theorem set_ok : ∀ j : Fin 256, isB ((Lib.setCells [32, 9])[j.val]?) (Tk.blank (UInt8.ofNat j.val)) = true := by decide +kernel
theorem set_at (x : UInt8) : (Lib.setCells [32, 9])[x.toNat]? = some (.bool (Tk.blank x)) := by
  have h : isB ((Lib.setCells [32, 9])[x.toNat]?) (Tk.blank (UInt8.ofNat x.toNat)) = true := set_ok ⟨x.toNat, x.toNat_lt⟩
  rw [UInt8.ofNat_toNat] at h
  exact isB_eq h
set_option maxRecDepth 100000 in
theorem zero_set (w : World) : (zeroValue 196).run Tryz.prog w = .ok (.agg (Array.replicate 256 (.bool false))) w := by
  have h : (Tryz.prog.info? 196).bind (·.zero) = some (.agg (Array.replicate 256 (.bool false))) := by kernel_rfl
  unfold zeroValue
  cases hi : Tryz.prog.info? 196 with
  | none => rw [hi] at h; cases h
  | some i => rw [hi] at h; simp at h; simp [typeInfo, hi, h]
end Go.Proofs.YtcolnidgembniaaGreatDoor.Fr
/-
  strings.TrimRight at the blanks: what it returns. Condition: a text of at most 2^32 bytes.
-/
namespace Go.Proofs.YtcolnidgembniaaGreatDoor.Fr
open Go.RowKit Go.Proofs.YtcolnidgembniaaGreatDoor.Tk Go.Proofs.YtcolnidgembniaaGreatDoor.Fd Go.Proofs.YtcolnidgembniaaGreatDoor.Hd
set_option linter.unusedVariables false

theorem info_set : (Tryz.prog.info? 196).map (·.size) = some 256 := by kernel_rfl
def oneAll (z : Array Value) : Bool := z.all (·.oneCell')
theorem set_size : (Lib.setCells [32, 9]).size = 256 := by decide +kernel
theorem set_one : oneAll (Lib.setCells [32, 9]) = true := by decide +kernel
theorem zero_size : Tryz.zeroCells196.size = 256 := by decide +kernel
set_option maxRecDepth 100000 in
set_option maxHeartbeats 4000000 in
theorem trimRight_any (s : ByteArray) (w : World) (hs : s.size ≤ 4294967280) :
    Calls Tryz.prog 140 #[.string s, .string ⟨#[32, 9]⟩] w fun e w' => e = .returned (.string (txt (rtrim s.data.toList))) ∧ Below w.heap.size w w' := by
  by_cases h0 : s.size = 0
  · have he : s.toList.isEmpty = true := by rw [text_empty h0]; rfl
    have HE := Lib.hid (show s = txt (rtrim s.data.toList) from by
      have : s.data.toList = [] := by apply List.length_eq_zero_iff.1; rw [Array.length_toList]; exact h0
      rw [this]; exact of_data this)
    clear h0
    go_enter Tryz.func140, Tryz.ntmps140
    go_wp2_with fail
    go_ret
    exact ⟨by rw [← HE.out]; rfl, Below.refl _ _⟩
  · have hp : 0 < s.size := by omega
    have he : s.toList.isEmpty = false := text_full hp
    have HM := Lib.hid (Fs.strings_makeASCIISet zero_set ⟨#[32, 9]⟩ w (by decide +kernel) (by intro j b hj; match j, hj with | 0, hj => cases hj; decide | 1, hj => cases hj; decide | j + 2, hj => simp at hj))
    have hL := Lib.hid (show (⟨#[32, 9]⟩ : ByteArray).data.toList = [32, 9] from rfl)
    rw [hL.out] at HM
    have HK := Lib.hid set_at
    obtain ⟨Z, hZ⟩ : ∃ Z, Z = Lib.setCells [32, 9] := ⟨_, rfl⟩
    rw [← hZ] at HM HK
    have hZs : Z.size = 256 := by rw [hZ]; exact set_size
    have hst := run_storeCells_new (P := Tryz.prog) (w.alloc (.cells Z 196)) 196 Tryz.zeroCells196 Z (by rw [hZs]; exact info_set) (by rw [hZs]; exact zero_size) (by rw [hZ]; exact set_one)
    have hst2 := run_storeAt_new (P := Tryz.prog) (w.alloc (.cells Z 196)) 196 Tryz.zeroCells196 Z (by rw [hZs]; exact info_set) (by rw [hZs]; exact zero_size) (by rw [hZ]; exact set_one)
    rw [show (w.alloc (.cells Z 196)).heap.size = w.heap.size + 1 from by simp] at hst hst2
    have HB := Lib.hid (((Below.refl w.heap.size w).alloc (Nat.le_refl _) (.cells Z 196)).alloc (by simp) (.cells Z 196))
    have HT := Lib.hid (trimSet_any (w.heap.size + 1) s ((w.alloc (.cells Z 196)).alloc (.cells Z 196)) hs (fun x => by
      have h := new_block (w.alloc (.cells Z 196)) (.cells Z 196)
      rw [show (w.alloc (.cells Z 196)).heap.size = w.heap.size + 1 from by simp] at h
      rw [Lib.cell_of_heap h]
      exact HK.out x))
    clear h0 hZ HK
    go_enter Tryz.func140, Tryz.ntmps140
    go_wp2_with fail
    refine HM.out.mono ?_
    rintro e w1 ⟨rfl, rfl⟩
    go_wp2_with fail
    refine HT.out.mono ?_
    rintro e w2 ⟨rfl, rfl⟩
    go_wp2_with fail
    go_ret
    exact ⟨rfl, HB.out⟩
end Go.Proofs.YtcolnidgembniaaGreatDoor.Fr
/-
  Hexadecimal digits as the library's ParseUint takes them, and their number's bound: plain functions. No program, no condition.
-/
namespace Go.Proofs.YtcolnidgembniaaGreatDoor.Fr
open Go.Proofs.YtcolnidgembniaaGreatDoor.Tk
set_option linter.unusedVariables false

/-- A byte's digit: 0 to 9; a letter of either case, from 10 on; 255: neither. -/
def digitOf (c : UInt8) : Nat :=
  if 48 ≤ c.toNat ∧ c.toNat ≤ 57 then c.toNat - 48
  else if 97 ≤ (c ||| 32).toNat ∧ (c ||| 32).toNat ≤ 122 then (c ||| 32).toNat - 97 + 10
  else 255
def sameDigit (c : UInt8) : Bool := if isHex c then decide (digitOf c = hexOf c ∧ digitOf c < 16) else decide (16 ≤ digitOf c)
theorem same_all : ∀ n : Fin 256, sameDigit (UInt8.ofNat n.val) = true := by decide +kernel
theorem same_at (c : UInt8) : sameDigit c = true := by
  have h : sameDigit (UInt8.ofNat c.toNat) = true := same_all ⟨c.toNat, c.toNat_lt⟩
  rwa [UInt8.ofNat_toNat] at h
theorem digit_yes {c : UInt8} (h : isHex c = true) : digitOf c = hexOf c ∧ digitOf c < 16 := by
  have := same_at c
  unfold sameDigit at this
  rw [if_pos h] at this
  exact of_decide_eq_true this
theorem digit_no {c : UInt8} (h : isHex c = false) : 16 ≤ digitOf c := by
  have := same_at c
  unfold sameDigit at this
  rw [if_neg (by rw [h]; simp)] at this
  exact of_decide_eq_true this
theorem hexGo_snoc (n : Nat) (l : Bs) (c : UInt8) : hexGo n (l ++ [c]) = hexGo n l * 16 + hexOf c := by
  induction l generalizing n with
  | nil => rfl
  | cons d r ih => exact ih _
theorem hexGo_lt (l : Bs) (h : ∀ c ∈ l, isHex c = true) (n k : Nat) (hn : n < 16 ^ k) : hexGo n l < 16 ^ (k + l.length) := by
  induction l generalizing n k with
  | nil => simpa [hexGo] using hn
  | cons d r ih =>
    have hd := (digit_yes (h d (by simp))).2
    rw [(digit_yes (h d (by simp))).1] at hd
    have h2 := ih (fun c hc => h c (by simp [hc])) (n * 16 + hexOf d) (k + 1) (by rw [Nat.pow_succ]; omega)
    show hexGo (n * 16 + hexOf d) r < _
    rw [List.length_cons, show k + (r.length + 1) = k + 1 + r.length from by omega]
    exact h2
/-- At most eight digits stay below 2^32. -/
theorem hexGo_small {l : Bs} (h : ∀ c ∈ l, isHex c = true) (hl : l.length ≤ 8) : hexGo 0 l < 4294967296 := by
  have h1 := hexGo_lt l h 0 0 (by simp)
  rw [Nat.zero_add] at h1
  have h2 : 16 ^ l.length ≤ 16 ^ 8 := Nat.pow_le_pow_right (by omega) hl
  omega
end Go.Proofs.YtcolnidgembniaaGreatDoor.Fr
/-
  Masks; bytes made of a text. No condition.
-/
namespace Go.Proofs.YtcolnidgembniaaGreatDoor.Hd
open Go.RowKit Go.Proofs.YtcolnidgembniaaGreatDoor.Tk
set_option linter.unusedVariables false

theorem mask (a : Int) (m : Nat) (hm : m < 9223372036854775808) : 0 ≤ bits .and .i64 a (m : Int) ∧ bits .and .i64 a (m : Int) ≤ (m : Int) := by
  have h1 : (BitVec.ofInt 64 a &&& BitVec.ofInt 64 (m : Int)).toNat ≤ m := by
    rw [BitVec.toNat_and, BitVec.ofInt_natCast, BitVec.toNat_ofNat]
    exact Nat.le_trans Nat.and_le_right (Nat.mod_le _ _)
  have h2 : bits .and .i64 a (m : Int) = IntKind.i64.wrap ((BitVec.ofInt 64 a &&& BitVec.ofInt 64 (m : Int)).toNat : Int) := rfl
  rw [h2, IntKind.wrap_i64]
  omega
theorem mask_nat (a : Int) (m : Nat) (hm : m < 9223372036854775808) : ∃ r : Nat, bits .and .i64 a (m : Int) = (r : Int) ∧ r ≤ m := by
  obtain ⟨h0, h1⟩ := mask a m hm
  exact ⟨(bits .and .i64 a (m : Int)).toNat, by omega, by omega⟩
/-- What '[]byte(s)' lays. -/
theorem byts_new (w : World) (s : ByteArray) (c : Nat) (fr : Nat × Nat) (hc : s.size ≤ c) (hm : c ≤ maxLen) : Byts (w.drew.alloc (.cells (bytesRow s c) 5 fr)) (.slice (some ⟨w.heap.size, 0, none⟩) s.size c) s.data.toList := by
  have hl : s.data.toList.length = s.size := by simp
  refine .inr ⟨w.heap.size, 0, c, by rw [hl], by rw [hl]; exact hc, hm, by simp, ?_⟩
  exact Tk.holds_new w.drew s c _ fr
theorem run_bytes (W : World) (s : ByteArray) : (convert 9 22 (.string s)).run Tryz.prog W = .ok (.slice (some ⟨W.heap.size, 0, none⟩) s.size (grownCap W s.size 0 5))
      (W.drew.alloc (.cells (bytesRow s (grownCap W s.size 0 5)) 5 ((bytesRow s (grownCap W s.size 0 5)).size, (bytesRow s (grownCap W s.size 0 5)).size + 1))) :=
  run_bytes_of_string (P := Tryz.prog) W 9 22 5 s Tryz.underlying9 Tryz.underlying22 Tryz.underlying5
end Go.Proofs.YtcolnidgembniaaGreatDoor.Hd
/-
  internal/strconv.ParseUint at base 16 and 32 bits, of one to eight bytes: what it returns. Condition: at most eight bytes.
-/
namespace Go.Proofs.YtcolnidgembniaaGreatDoor.Fr
open Go.RowKit Go.Proofs.YtcolnidgembniaaGreatDoor.Tk Go.Proofs.YtcolnidgembniaaGreatDoor.Fd Go.Proofs.YtcolnidgembniaaGreatDoor.Hd
set_option linter.unusedVariables false

theorem low_all : ∀ n : Fin 256, bits .or .u8 ((n.val : Nat) : Int) 32 = ((UInt8.ofNat n.val ||| 32).toNat : Int) := by decide +kernel
theorem low_at (c : UInt8) : bits .or .u8 (c.toNat : Int) 32 = ((c ||| 32).toNat : Int) := by
  have h := low_all ⟨c.toNat, c.toNat_lt⟩
  rw [UInt8.ofNat_toNat] at h
  exact h
set_option maxRecDepth 100000 in
theorem lower_byte (c : UInt8) (w : World) : Calls Tryz.prog 163 #[.int .u8 (c.toNat : Int)] w fun e w' => e = .returned (.int .u8 ((c ||| 32).toNat : Int)) ∧ w = w' := by
  have HL := Lib.hid (low_at c)
  have hlt := (c ||| 32).toNat_lt
  go_enter Tryz.func163, Tryz.ntmps163
  go_wp2_with fail
  go_ret
  exact ⟨by rw [← HL.out]; rfl, rfl⟩
/-- What the inner ParseUint answers. -/
def puVal (l : Bs) : Value := if l.all isHex then .tuple #[.int .u64 (hexGo 0 l : Nat), .nilIface] else .tuple #[.int .u64 0, .iface 209 (.int .i64 2)]
theorem pu_no {l : Bs} {k : Nat} (h : k < l.length) (hc : isHex l[k] = false) : puVal l = .tuple #[.int .u64 0, .iface 209 (.int .i64 2)] := by
  unfold puVal
  rw [if_neg]
  intro ha
  rw [List.all_eq_true.1 ha _ (List.getElem_mem h)] at hc
  cases hc
/-- How far the digits are read. -/
structure PuAt (l : Bs) (k acc : Nat) : Prop where
  all : (l.take k).all isHex = true
  val : acc = hexGo 0 (l.take k)
theorem PuAt.zero (l : Bs) : PuAt l 0 0 := ⟨rfl, rfl⟩
theorem PuAt.next {l : Bs} {k acc : Nat} (h : PuAt l k acc) (hk : k < l.length) (hc : isHex l[k] = true) : PuAt l (k + 1) (acc * 16 + hexOf l[k]) := by
  have e : l.take (k + 1) = l.take k ++ [l[k]] := (List.take_append_getElem hk).symm
  refine ⟨?_, ?_⟩
  · rw [e, List.all_append, h.all]; simp [hc]
  · rw [e, hexGo_snoc, ← h.val]
theorem PuAt.small {l : Bs} {k acc : Nat} (h : PuAt l k acc) (hk : k < l.length) (hl : l.length ≤ 8) : acc ≤ 268435455 := by
  have h1 := hexGo_lt (l.take k) (fun c hc => List.all_eq_true.1 h.all c hc) 0 0 (by simp)
  rw [← h.val, Nat.zero_add, List.length_take, Nat.min_eq_left (by omega)] at h1
  have h2 : 16 ^ k ≤ 16 ^ 7 := Nat.pow_le_pow_right (by omega) (by omega)
  omega
theorem PuAt.done {l : Bs} {acc : Nat} (h : PuAt l l.length acc) : puVal l = .tuple #[.int .u64 (acc : Nat), .nilIface] := by
  have ha := h.all
  have hv := h.val
  rw [List.take_length] at ha hv
  unfold puVal
  rw [if_pos ha, hv]
set_option maxRecDepth 100000 in
set_option maxHeartbeats 8000000 in
theorem pu_any (s : ByteArray) (w : World) (h0 : 0 < s.size) (h8 : s.size ≤ 8) :
    Calls Tryz.prog 153 #[.string s, .int .i64 16, .int .i64 32] w fun e w' => e = .returned (puVal s.data.toList) ∧ Below w.heap.size w w' := by
  have hemp : s.toList.isEmpty = false := text_full h0
  have hsl : s.data.toList.length = s.size := by simp
  have hcv := run_bytes w s
  obtain ⟨cp, hcp⟩ : ∃ cp, cp = grownCap w s.size 0 5 := ⟨_, rfl⟩
  rw [← hcp] at hcv
  have hcs : s.size ≤ cp ∧ cp ≤ maxLen := by rw [hcp]; exact ⟨grownCap_ge _ _ _ _, grownCap_le_maxLen _ _ _ _ (by unfold maxLen; omega)⟩
  have hcb : s.size ≤ cp := hcs.1
  have hcm : cp ≤ 9223372036854775807 := by have := hcs.2; unfold maxLen at this; omega
  obtain ⟨w1, hw1⟩ : ∃ w1, w1 = (w.drew.alloc (.cells (bytesRow s cp) 5 ((bytesRow s cp).size, (bytesRow s cp).size + 1))) := ⟨_, rfl⟩
  rw [← hw1] at hcv
  have HB := Lib.hid (show Below w.heap.size w w1 from by rw [hw1]; exact ((Below.refl w.heap.size w).drew).alloc (Nat.le_refl _) _)
  have HN := Lib.hid (show Holds w1 w.heap.size 0 s.data.toList from by rw [hw1]; exact Tk.holds_new w.drew s cp _ _)
  obtain ⟨l, hl⟩ : ∃ l, l = s.data.toList := ⟨_, rfl⟩
  rw [← hl] at HN ⊢
  have hll : l.length = s.size := by rw [hl]; exact hsl
  have hmv : IntKind.u64.wrap (IntKind.u64.wrap 4294967296 - 1) = 4294967295 := by
    rw [IntKind.wrap_u64, IntKind.wrap_u64]
    decide
  clear hl hsl hw1 hcp hcs
  go_enter Tryz.func153, Tryz.ntmps153
  go_wp2_with fail
  go_loop [12, 13, 101] (fun vu vn vi => ∃ (k acc : Nat) (a : Int), vu = .bool false ∧ vn = .int .u64 a ∧ vi = .int .i64 (k : Int) ∧ k ≤ l.length ∧ Hid (a = (acc : Int) ∧ PuAt l k acc))
    (fun _ _ vi => l.length - (intOf vi).toNat)
  case atStart => exact ⟨0, 0, 0, rfl, rfl, rfl, by omega, Lib.hid ⟨rfl, PuAt.zero l⟩⟩
  case round =>
    obtain ⟨k, acc, a, rfl, rfl, rfl, hk, HQ⟩ := hrel
    have HP := Lib.hid HQ.out.2
    have HQa := Lib.hid HQ.out.1
    clear HQ
    by_cases hkn : k < l.length
    · have ha0 := HP.out.small hkn (by omega)
      have a0 : 0 ≤ a := by rw [HQa.out]; omega
      have a1 : a ≤ 268435455 := by rw [HQa.out]; omega
      clear ha0
      have hc := HN.out k hkn
      rw [Nat.zero_add] at hc
      have HNo := Lib.hid (fun (hx : isHex l[k] = false) => pu_no hkn hx)
      have HYes := Lib.hid (fun (hx : isHex l[k] = true) => HP.out.next hkn hx)
      have HD1 := Lib.hid (fun (hx : isHex l[k] = true) => digit_yes hx)
      have HD0 := Lib.hid (fun (hx : isHex l[k] = false) => digit_no hx)
      have HLw := Lib.hid (fun w => lower_byte l[k] w)
      obtain ⟨c, hcc⟩ : ∃ c, c = l[k] := ⟨_, rfl⟩
      rw [← hcc] at hc HNo HYes HD1 HD0 HLw
      obtain ⟨C, hC⟩ : ∃ C, C = c.toNat := ⟨_, rfl⟩
      obtain ⟨L, hL⟩ : ∃ L, L = (c ||| 32).toNat := ⟨_, rfl⟩
      have hC6 : C < 256 := by rw [hC]; exact c.toNat_lt
      have hL6 : L < 256 := by rw [hL]; exact UInt8.toNat_lt _
      have HDg := Lib.hid (show digitOf c = if 48 ≤ C ∧ C ≤ 57 then C - 48 else if 97 ≤ L ∧ L ≤ 122 then L - 97 + 10 else 255 from by rw [hC, hL]; rfl)
      rw [← hC] at hc HLw
      rw [← hL] at HLw
      obtain ⟨B, hB⟩ : ∃ B, ((C : Int) == 95) = B := ⟨_, rfl⟩
      clear hC hL hcc
      by_cases h1 : 48 ≤ C ∧ C ≤ 57
      · have hd : digitOf c = C - 48 := by rw [HDg.out, if_pos h1]
        have hx : isHex c = true := by
          rcases Bool.eq_false_or_eq_true (isHex c) with h | h
          · exact h
          · have := HD0.out h; omega
        have HY := Lib.hid (HYes.out hx)
        have hv := (HD1.out hx).1
        rw [← hv, hd] at HY
        have HN2 := Lib.hid (show a * 16 + ((C : Int) - 48) = ((acc * 16 + (C - 48) : Nat) : Int) from by rw [HQa.out]; omega)
        clear hd hx hv
        go_wp2_with fail
        all_goals refine ⟨⟨k + 1, acc * 16 + (C - 48), a * 16 + ((C : Int) - 48), rfl, (by first | rfl | (congr 1; omega)), (by first | rfl | (congr 1; omega)), by omega, Lib.hid ⟨HN2.out, HY.out⟩⟩, by simp [intOf]; omega⟩
      · by_cases h2 : 97 ≤ L ∧ L ≤ 102
        · have hd : digitOf c = L - 97 + 10 := by rw [HDg.out, if_neg h1, if_pos (by omega)]
          have hx : isHex c = true := by
            rcases Bool.eq_false_or_eq_true (isHex c) with h | h
            · exact h
            · have := HD0.out h; omega
          have HY := Lib.hid (HYes.out hx)
          have hv := (HD1.out hx).1
          rw [← hv, hd] at HY
          have HN2 := Lib.hid (show a * 16 + ((L : Int) - 97 + 10) = ((acc * 16 + (L - 97 + 10) : Nat) : Int) from by rw [HQa.out]; omega)
          have h3 : C < 48 ∨ 57 < C := by omega
          clear hd hx hv h1
          rcases h3 with h3 | h3
          all_goals
            go_wp2_with (go_at_call 163; refine (HLw.out _).mono ?_; rintro e w2 ⟨rfl, rfl⟩)
            all_goals refine ⟨⟨k + 1, acc * 16 + (L - 97 + 10), a * 16 + ((L : Int) - 97 + 10), rfl, (by first | rfl | (congr 1; omega)), (by first | rfl | (congr 1; omega)), by omega, Lib.hid ⟨HN2.out, HY.out⟩⟩, by simp [intOf]; omega⟩
        · have hx : isHex c = false := by
            rcases Bool.eq_false_or_eq_true (isHex c) with h | h
            · have h5 := (HD1.out h).2
              rw [HDg.out, if_neg h1] at h5
              split at h5 <;> omega
            · exact h
          have HV := Lib.hid (HNo.out hx)
          have h3 : C < 48 ∨ 57 < C := by omega
          have h4 : L < 97 ∨ 122 < L ∨ (102 < L ∧ L ≤ 122) := by omega
          clear hx h1 h2
          rcases h3 with h3 | h3 <;> rcases h4 with h4 | h4 | h4
          all_goals
            go_wp2_with (go_at_call 163; refine (HLw.out _).mono ?_; rintro e w2 ⟨rfl, rfl⟩)
            all_goals
              go_ret2
              exact ⟨by rw [HV.out]; rfl, HB.out⟩
    · obtain rfl : k = l.length := by omega
      have HV := Lib.hid HP.out.done
      have hae := HQa.out
      subst hae
      go_wp2_with fail
      go_ret2
      exact ⟨by rw [HV.out]; rfl, HB.out⟩
end Go.Proofs.YtcolnidgembniaaGreatDoor.Fr
/-
  strconv.ParseUint at base 16 and 32 bits, of at most eight bytes, and framing.chunkSize: what each returns. Conditions: strconv.ErrSyntax holds an error; texts below 2^32 bytes.
-/
namespace Go.Proofs.YtcolnidgembniaaGreatDoor.Fr
open Go.RowKit Go.Proofs.YtcolnidgembniaaGreatDoor.Tk Go.Proofs.YtcolnidgembniaaGreatDoor.Fd Go.Proofs.YtcolnidgembniaaGreatDoor.Hd
set_option linter.unusedVariables false

/-- The library's variable of a syntax error holds an error. -/
def ErrV (w : World) : Prop := ∃ te pe, w.cell? ⟨3, 0, none⟩ = some (.iface te pe)
theorem ErrV.lt {w : World} (h : ErrV w) : 3 < w.heap.size := by obtain ⟨te, pe, h⟩ := h; exact World.block_lt_of_cell? w _ h
theorem ErrV.below {w w' : World} (h : ErrV w) (hb : Below w.heap.size w w') : ErrV w' := by
  have hl := h.lt
  obtain ⟨te, pe, h⟩ := h
  exact ⟨te, pe, (hb.cell (p := ⟨3, 0, none⟩) hl).trans h⟩
theorem ErrV.chg {O : Nat → Prop} {w w' : World} (h : ErrV w) (hc : Chg O w w') (ho : ¬ O 3) : ErrV w' := by
  have hl := h.lt
  obtain ⟨te, pe, h⟩ := h
  exact ⟨te, pe, by rw [World.cell?_of_block (w := w) (hc.block 3 hl ho)]; exact h⟩
set_option maxRecDepth 100000 in
set_option maxHeartbeats 4000000 in
theorem pu_empty (w : World) : Calls Tryz.prog 153 #[.string ⟨#[]⟩, .int .i64 16, .int .i64 32] w fun e w' => e = .returned (.tuple #[.int .u64 0, .iface 209 (.int .i64 2)]) ∧ w = w' := by
  go_enter Tryz.func153, Tryz.ntmps153
  go_wp2_with fail
  go_ret2
  exact ⟨rfl, rfl⟩
/-- Are these the digits of a number? -/
def numOk (l : Bs) : Bool := !l.isEmpty && l.all isHex
def PubPost (l : Bs) (w : World) (e : Ending) (w' : World) : Prop :=
  Below w.heap.size w w' ∧ ((numOk l = true ∧ e = .returned (.tuple #[.int .u64 (hexGo 0 l : Nat), .nilIface])) ∨ (numOk l = false ∧ ∃ N, e = .returned (.tuple #[.int .u64 0, .iface 210 (.pointer (some ⟨N, 0, none⟩))])))
theorem pub_of (l : Bs) (h0 : l ≠ []) (h : l.all isHex = true) : numOk l = true := by cases l with | nil => exact (h0 rfl).elim | cons c r => unfold numOk; rw [h]; rfl
theorem pub_not (l : Bs) (h : l.all isHex = false) : numOk l = false := by unfold numOk; rw [h]; simp
set_option maxRecDepth 100000 in
set_option maxHeartbeats 4000000 in
theorem pub_bad (s : ByteArray) (w : World) (h8 : s.size ≤ 8) (hE : ErrV w) (hn : numOk s.data.toList = false)
    (hp : Calls Tryz.prog 153 #[.string s, .int .i64 16, .int .i64 32] w fun e w' => e = .returned (.tuple #[.int .u64 0, .iface 209 (.int .i64 2)]) ∧ Below w.heap.size w w') :
    Calls Tryz.prog 142 #[.string s, .int .i64 16, .int .i64 32] w (PubPost s.data.toList w) := by
  have HN := Lib.hid hn
  have HE := Lib.hid hE
  have HP := Lib.hid hp
  clear hn hE hp
  go_enter Tryz.func142, Tryz.ntmps142
  go_wp2_with fail
  refine HP.out.mono ?_
  rintro e w1 ⟨rfl, hb⟩
  have HE1 := HE.out.below hb
  have HB := Lib.hid hb
  obtain ⟨te, pe, hv⟩ := HE1
  have HT := Lib.hid (Fs.strconv_toError_syntax ⟨#[80, 97, 114, 115, 101, 85, 105, 110, 116]⟩ s 16 32 (.iface te pe) w1 (by omega) hv (.inr ⟨te, pe, rfl⟩))
  clear hb hv
  go_wp2_with fail
  refine HT.out.mono ?_
  rintro e w2 ⟨N, rfl, h1, h2, h3⟩
  have HB2 := Lib.hid (show Below w.heap.size w w2 from HB.out.trans (h3.mono HB.out.size))
  clear h1 h2 h3
  go_wp2_with fail
  go_ret2
  exact ⟨HB2.out, .inr ⟨HN.out, N, rfl⟩⟩
set_option maxRecDepth 100000 in
set_option maxHeartbeats 4000000 in
theorem pub_any (s : ByteArray) (w : World) (h8 : s.size ≤ 8) (hE : ErrV w) : Calls Tryz.prog 142 #[.string s, .int .i64 16, .int .i64 32] w (PubPost s.data.toList w) := by
  by_cases h0 : s.size = 0
  · have he : s = ⟨#[]⟩ := of_data (l := []) (by apply List.length_eq_zero_iff.1; rw [Array.length_toList]; exact h0)
    subst he
    refine pub_bad ⟨#[]⟩ w h8 hE rfl ((pu_empty w).mono ?_)
    rintro e w' ⟨rfl, rfl⟩
    exact ⟨rfl, Below.refl _ _⟩
  · have hl : s.data.toList ≠ [] := fun h => h0 (by have := congrArg List.length h; rw [Array.length_toList] at this; exact this)
    have hpu := pu_any s w (by omega) h8
    cases ha : s.data.toList.all isHex with
    | false =>
      have hv : puVal s.data.toList = .tuple #[.int .u64 0, .iface 209 (.int .i64 2)] := by unfold puVal; rw [if_neg (by rw [ha]; simp)]
      rw [hv] at hpu
      exact pub_bad s w h8 hE (pub_not _ ha) hpu
    | true =>
      have hv : puVal s.data.toList = .tuple #[.int .u64 (hexGo 0 s.data.toList : Nat), .nilIface] := by unfold puVal; rw [if_pos ha]
      rw [hv] at hpu
      have HN := Lib.hid (pub_of _ hl ha)
      have HP := Lib.hid hpu
      obtain ⟨n, hn⟩ : ∃ n, n = hexGo 0 s.data.toList := ⟨_, rfl⟩
      rw [← hn] at HP
      have HH := Lib.hid hn
      clear hpu hv ha hl hn
      go_enter Tryz.func142, Tryz.ntmps142
      go_wp2_with fail
      refine HP.out.mono ?_
      rintro e w1 ⟨rfl, hb⟩
      have HB := Lib.hid hb
      clear hb
      go_wp2_with fail
      go_ret2
      exact ⟨HB.out, .inl ⟨HN.out, by rw [← HH.out]; rfl⟩⟩
theorem cut_parts (t : Bs) : ∃ b, cutVal (txt t) = .tuple #[.string (txt (numL t)), .string (txt (moreL t)), .bool b] := by
  have hs : (txt t).data.toList = t := by simp [txt]
  have hz : (txt t).size = t.length := txt_size' t
  unfold cutVal
  rw [hs, hz]
  by_cases h : semIdx t < t.length
  · rw [if_pos h]
    refine ⟨true, ?_⟩
    have e1 : (txt t).extract 0 (semIdx t) = txt (numL t) := of_data (by rw [ByteArray.data_extract, Array.toList_extract, List.extract_eq_take_drop, hs]; simp [numL])
    have e2 : (txt t).extract (semIdx t + 1) t.length = txt (moreL t) := of_data (by
      rw [ByteArray.data_extract, Array.toList_extract, List.extract_eq_take_drop, hs]
      unfold moreL
      rw [List.take_of_length_le (by rw [List.length_drop]; omega)])
    rw [e1, e2]
  · rw [if_neg h]
    refine ⟨false, ?_⟩
    have e1 : numL t = t := List.take_of_length_le (by omega)
    have e2 : moreL t = [] := List.drop_eq_nil_of_le (by omega)
    rw [e1, e2]; rfl
theorem size_out (t : Bs) : sizeOf t = if (rtrim (numL t)).length ≤ 8 ∧ extAll (moreL t) = true ∧ numOk (rtrim (numL t)) = true then some (hexGo 0 (rtrim (numL t))) else none := by
  rw [size_parts]
  have e : ((rtrim (numL t)).length ≤ 8 ∧ extAll (moreL t) = true ∧ rtrim (numL t) ≠ [] ∧ ∀ c ∈ rtrim (numL t), isHex c = true) = ((rtrim (numL t)).length ≤ 8 ∧ extAll (moreL t) = true ∧ numOk (rtrim (numL t)) = true) := by
    unfold numOk
    simp [List.all_eq_true]
  simp only [e]
theorem below_drewN {B : Nat} {w w' : World} (h : Below B w w') (n : Nat) : Below B w (w'.drewN n) := ⟨h.os, h.tape, h.output, h.size, h.block⟩
def SizePost (t : Bs) (w : World) (e : Ending) (w' : World) : Prop :=
  Below w.heap.size w w' ∧ ((sizeOf t = none ∧ e = .returned (.tuple #[.int .u64 0, .bool false])) ∨ ∃ n : Nat, sizeOf t = some n ∧ n < 4294967296 ∧ e = .returned (.tuple #[.int .u64 (n : Int), .bool true]))
set_option maxRecDepth 100000 in
set_option maxHeartbeats 4000000 in
theorem chunkSize_any (t : Bs) (w : World) (ht : t.length ≤ 4294967280) (hE : ErrV w) : Calls Tryz.prog 134 #[.string (txt t)] w (SizePost t w) := by
  have hz : (txt t).size = t.length := txt_size' t
  obtain ⟨b, hcv⟩ := cut_parts t
  have HV := Lib.hid hcv
  have HC := Lib.hid (cut_any (txt t) w (by unfold maxLen; omega))
  have hnl : (numL t).length ≤ t.length := by unfold numL; rw [List.length_take]; omega
  have hml : (moreL t).length ≤ t.length := by unfold moreL; rw [List.length_drop]; omega
  have hrl := rtrim_length (numL t)
  have HO := Lib.hid (size_out t)
  have HD := Lib.hid (show (txt (numL t)).data.toList = numL t from by simp [txt])
  have HTr := Lib.hid (fun w => trimRight_any (txt (numL t)) w (by rw [txt_size']; omega))
  rw [HD.out] at HTr
  have HDM := Lib.hid (show (txt (moreL t)).data.toList = moreL t from by simp [txt])
  have HX := Lib.hid (fun w => ext_any (txt (moreL t)) w (by rw [txt_size']; unfold maxLen; omega))
  rw [HDM.out] at HX
  have HE := Lib.hid hE
  obtain ⟨G, hG⟩ : ∃ G, G = rtrim (numL t) := ⟨_, rfl⟩
  rw [← hG] at HTr HO hrl
  have HPu := Lib.hid (fun (w : World) (h8 : (txt G).size ≤ 8) (hE : ErrV w) => pub_any (txt G) w h8 hE)
  have hGd : (txt G).data.toList = G := by simp [txt]
  rw [hGd] at HPu
  have hGs : (txt G).size = G.length := txt_size' G
  have HG8 := Lib.hid (show (∀ c ∈ G, isHex c = true) → G.length ≤ 8 → hexGo 0 G < 4294967296 from fun h1 h2 => hexGo_small h1 h2)
  obtain ⟨TG, hTG⟩ : ∃ TG, TG = txt G := ⟨_, rfl⟩
  rw [← hTG] at HTr HPu hGs
  obtain ⟨TN, hTN⟩ : ∃ TN, TN = txt (numL t) := ⟨_, rfl⟩
  rw [← hTN] at HTr HV
  obtain ⟨TM, hTM⟩ : ∃ TM, TM = txt (moreL t) := ⟨_, rfl⟩
  rw [← hTM] at HX HV
  obtain ⟨X, hX⟩ : ∃ X, X = extAll (moreL t) := ⟨_, rfl⟩
  rw [← hX] at HX HO
  clear hcv hGd hTG hG hTN hTM hX hE hnl hml
  go_enter Tryz.func134, Tryz.ntmps134
  go_wp2_with fail
  refine HC.out.mono ?_
  rintro e w1 ⟨rfl, nn, hw1⟩
  rw [HV.out]
  have HB1 := Lib.hid (show Below w.heap.size w w1 from by rw [hw1]; exact ⟨rfl, rfl, rfl, Nat.le_refl _, fun _ _ => rfl⟩)
  clear hw1
  go_wp2_with fail
  refine (HTr.out w1).mono ?_
  rintro e w2 ⟨rfl, hb2⟩
  have HB2 := Lib.hid (Bl.next HB1.out hb2)
  clear hb2
  by_cases h8 : 8 < G.length
  · have HN := Lib.hid (show sizeOf t = none from by rw [HO.out, if_neg (by omega)])
    go_wp2_with fail
    go_ret2
    exact ⟨HB2.out, .inl ⟨HN.out, rfl⟩⟩
  · go_wp2_with fail
    refine (HX.out w2).mono ?_
    rintro e w3 ⟨rfl, rfl⟩
    cases X with
    | false =>
      have HN := Lib.hid (show sizeOf t = none from by rw [HO.out, if_neg (by simp)])
      go_wp2_with fail
      go_ret2
      exact ⟨HB2.out, .inl ⟨HN.out, rfl⟩⟩
    | true =>
      have HPp := Lib.hid (HPu.out w2 (by omega) (HE.out.below HB2.out))
      go_wp2_with fail
      refine HPp.out.mono ?_
      rintro e w4 ⟨hb4, hr⟩
      have HB4 := Lib.hid (Bl.next HB2.out hb4)
      clear hb4
      rcases hr with ⟨hok, rfl⟩ | ⟨hok, N, rfl⟩
      · have HN := Lib.hid (show sizeOf t = some (hexGo 0 G) from by rw [HO.out, if_pos ⟨by omega, by simp, hok⟩])
        have HL := Lib.hid (HG8.out (by unfold numOk at hok; simp only [Bool.and_eq_true, List.all_eq_true] at hok; exact hok.2) (by omega))
        clear hok
        go_wp2_with fail
        go_quiet (fail)
        all_goals try go_wp2_with fail
        all_goals
          go_ret2
          exact ⟨below_drewN HB4.out _, .inr ⟨_, HN.out, HL.out, rfl⟩⟩
      · have HN := Lib.hid (show sizeOf t = none from by rw [HO.out, if_neg (by rw [hok]; simp)])
        clear hok
        go_wp2_with fail
        go_quiet (fail)
        all_goals try go_wp2_with fail
        all_goals
          go_ret2
          exact ⟨below_drewN HB4.out _, .inl ⟨HN.out, rfl⟩⟩
end Go.Proofs.YtcolnidgembniaaGreatDoor.Fr
