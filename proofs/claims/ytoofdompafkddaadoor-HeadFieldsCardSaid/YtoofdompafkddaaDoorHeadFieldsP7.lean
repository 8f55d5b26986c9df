/-
  Texts that the law's proof stands on, 4 of them in one file; each one's head says what it proves and under which condition.
-/
import Derived.Test.YtoofdompafkddaaDoorHeadFieldsP6
import Derived.KernelRfl
import Derived.Test.YtoofdompafkddaaDoorHeadFieldsP3
import Derived.Test.YtoofdompafkddaaDoorHeadFieldsP4
import Derived.Laws.CopyOwn
import Derived.Deep.AppendLies
/-
  Whole lines that a reader reads: plain functions on bytes. No program, no condition.
-/
namespace Go.Proofs.YtoofdompafkddaaDoor.Hd
open Go.Proofs.YtoofdompafkddaaDoor.Tk Go.Proofs.YtoofdompafkddaaDoor.Fd Go.Proofs.YtoofdompafkddaaDoor.Ln
set_option linter.unusedVariables false

theorem ended_first {resp : Bool} {t : Bs} {n : Nat} {fs : List Fl} (ht : t ≠ []) (he : (firstOf resp (txt t)).2 = 0) : ended resp none n fs t = .on (some (firstOf resp (txt t)).1) [] n fs := by
  show (if t = [] then _ else _) = _
  rw [if_neg ht, if_pos he]
theorem ended_skip {resp : Bool} {n : Nat} {fs : List Fl} : ended resp none n fs [] = .on none [] n fs := rfl
theorem ended_last {resp : Bool} {q : Parts} {n : Nat} {fs : List Fl} : ended resp (some q) n fs [] = .done q fs := rfl
theorem ended_full {resp : Bool} {q : Parts} {n : Nat} {fs : List Fl} {t : Bs} (ht : t ≠ []) (hl : fs.length = 64) : ended resp (some q) n fs t = .bad 3 := by
  show (if t = [] then _ else _) = _
  rw [if_neg ht, if_pos hl]
theorem ended_field {resp : Bool} {q : Parts} {n : Nat} {fs : List Fl} {t : Bs} (ht : t ≠ []) (hl : fs.length ≠ 64) (he : (fldOf (txt t)).2 = 0) : ended resp (some q) n fs t = .on (some q) [] n (fs ++ [(fldOf (txt t)).1]) := by
  show (if t = [] then _ else _) = _
  rw [if_neg ht, if_neg hl, if_pos he]
/-- A line that ends, from its beginning on. -/
theorem run_whole {resp : Bool} {p : Option Parts} {n : Nat} {fs : List Fl} {t r : Bs} (h10 : ∀ c ∈ t, c ≠ 10) (hn : n + t.length < 8192) (hm : t.length < most p) :
    run resp (.on p [] n fs) (t ++ 10 :: r) = (t.length + 1 + (run resp (ended resp p (n + t.length + 1) fs (own t)) r).1, (run resp (ended resp p (n + t.length + 1) fs (own t)) r).2) := by
  have := run_line (resp := resp) (b := t) (r := r) (p := p) (l := []) (n := n) (fs := fs) h10 (by unfold room; simp; omega)
  simpa using this
theorem run_end {resp : Bool} {q : Parts} {n : Nat} {fs : List Fl} {r : Bs} (hn : n < 8192) : run resp (.on (some q) [] n fs) (10 :: r) = (1, .done q fs) := by
  have := run_whole (resp := resp) (p := some q) (n := n) (fs := fs) (t := []) (r := r) (by simp) (by simpa using hn) (by simp [most])
  rw [List.nil_append] at this
  rw [this, show own [] = [] from rfl, ended_last, run_over rfl]
  rfl

/-! GET / HTTP/1.1 -/
def getL : Bs := [71, 69, 84, 32, 47, 32, 72, 84, 84, 80, 47, 49, 46, 49]
def getP : Parts := ⟨1, 0, ⟨#[71, 69, 84]⟩, ⟨#[47]⟩⟩
theorem get_first : firstOf false (txt getL) = (getP, 0) := by kernel_rfl
theorem get_run (r : Bs) : run false start (getL ++ 10 :: r) = (15 + (run false (.on (some getP) [] 15 []) r).1, (run false (.on (some getP) [] 15 []) r).2) := by
  have h := run_whole (resp := false) (p := none) (n := 0) (fs := []) (t := getL) (r := r) (by decide) (by decide) (by decide)
  have e : ended false none (0 + getL.length + 1) [] (own getL) = .on (some getP) [] 15 [] := by
    have h2 := ended_first (resp := false) (t := getL) (n := 15) (fs := []) (by decide) (by rw [get_first])
    rw [get_first] at h2
    exact h2
  rw [e] at h
  exact h
/-! Lines 'a: b'. -/
def abL : Bs := [97, 58, 32, 98]
def abF : Fl := (⟨#[97]⟩, ⟨#[98]⟩)
theorem ab_fld : fldOf (txt abL) = (abF, 0) := by kernel_rfl
def reps : Nat → Bs
  | 0 => []
  | n + 1 => abL ++ 10 :: reps n
theorem reps_length (n : Nat) : (reps n).length = 5 * n := by
  induction n with
  | zero => rfl
  | succ n ih => show (abL ++ 10 :: reps n).length = _; simp [abL, ih]; omega
theorem reps_snoc (n : Nat) : reps (n + 1) = reps n ++ (abL ++ [10]) := by
  induction n with
  | zero => rfl
  | succ n ih =>
    show abL ++ 10 :: reps (n + 1) = (abL ++ 10 :: reps n) ++ (abL ++ [10])
    rw [ih]; simp
/-- Fields as long as there is room. -/
theorem reps_run (k : Nat) (q : Parts) (n : Nat) (fs : List Fl) (r : Bs) (hk : fs.length + k ≤ 64) (hn : n + 5 * k < 8192) :
    run false (.on (some q) [] n fs) (reps k ++ r) = (5 * k + (run false (.on (some q) [] (n + 5 * k) (fs ++ List.replicate k abF)) r).1, (run false (.on (some q) [] (n + 5 * k) (fs ++ List.replicate k abF)) r).2) := by
  induction k generalizing n fs with
  | zero => simp [reps]
  | succ k ih =>
    have h := run_whole (resp := false) (p := some q) (n := n) (fs := fs) (t := abL) (r := reps k ++ r) (by decide) (by simp [abL]; omega) (by simp [abL, most])
    have e : ended false (some q) (n + abL.length + 1) fs (own abL) = .on (some q) [] (n + 5) (fs ++ [abF]) := by
      have h2 := ended_field (resp := false) (q := q) (n := n + 5) (fs := fs) (t := abL) (by decide) (by omega) (by rw [ab_fld])
      rw [ab_fld] at h2
      exact h2
    rw [e, ih (n + 5) (fs ++ [abF]) (by simp; omega) (by omega)] at h
    show run false _ ((abL ++ 10 :: reps k) ++ r) = _
    rw [List.append_assoc, List.cons_append, h, List.append_assoc, show [abF] ++ List.replicate k abF = List.replicate (k + 1) abF from by rw [List.replicate_succ]; rfl, show n + 5 + 5 * k = n + 5 * (k + 1) from by omega]
    simp only [Prod.mk.injEq, and_true]
    simp [abL]; omega
/-- As many fields as there are, and what comes of them. -/
theorem many_run (n : Nat) (hn : n ≤ 67) : doneOf (run false start (getL ++ 10 :: (reps n ++ [10]))).2 = decide (n ≤ 64) ∧ errOf (run false start (getL ++ 10 :: (reps n ++ [10]))).2 = if n ≤ 64 then 0 else 3 := by
  rw [get_run]
  by_cases h : n ≤ 64
  · rw [reps_run n getP 15 [] [10] (by simpa using h) (by omega), run_end (by omega)]
    simp [doneOf, errOf, h]
  · obtain ⟨m, rfl⟩ : ∃ m, n = 64 + (m + 1) := ⟨n - 65, by omega⟩
    have hs : reps (64 + (m + 1)) ++ [10] = reps 64 ++ (abL ++ 10 :: (reps m ++ [10])) := by
      have : ∀ a b, reps (a + b) = reps a ++ reps b := by
        intro a b
        induction a with
        | zero => simp [reps]
        | succ a ih => rw [show a + 1 + b = (a + b) + 1 from by omega]; show abL ++ 10 :: reps (a + b) = (abL ++ 10 :: reps a) ++ reps b; rw [ih]; simp
      rw [this]
      show reps 64 ++ (abL ++ 10 :: reps m) ++ [10] = _
      simp
    rw [hs, reps_run 64 getP 15 [] _ (by simp) (by omega)]
    have h := run_whole (resp := false) (p := some getP) (n := 15 + 5 * 64) (fs := [] ++ List.replicate 64 abF) (t := abL) (r := reps m ++ [10]) (by decide) (by simp [abL]) (by decide)
    rw [ended_full (t := own abL) (by decide) (by simp), run_over (s := .bad 3) rfl] at h
    rw [h]
    have : ¬ 64 + (m + 1) ≤ 64 := by omega
    simp [doneOf, errOf]
/-! A field as long as may be. -/
def xs (k : Nat) : Bs := List.replicate k 120
theorem xs_val (k : Nat) : isVal (xs k) = true := by
  unfold isVal xs
  cases k with
  | zero => rfl
  | succ k =>
    have h1 : (List.replicate (k + 1) (120 : UInt8)).all textByte = true := by
      rw [List.all_eq_true]; intro c hc; rw [List.eq_of_mem_replicate hc]; decide
    have h2 : (List.replicate (k + 1) (120 : UInt8)).headD 0 = 120 := rfl
    have h3 : (List.replicate (k + 1) (120 : UInt8)).getLastD 0 = 120 := by
      rw [List.getLastD_eq_getLast?, List.getLast?_replicate]; simp
    rw [h1, h2, h3]
    have h4 : Tk.blank (120 : UInt8) = false := by decide
    rw [h4]
    simp
theorem two_of {a b c d : Value} (h : Value.tuple #[a, b] = Value.tuple #[c, d]) : b = d := by
  injection h with h
  injection h with h
  injection h with _ h
  injection h
theorem fld_x (k : Nat) : (fldOf (txt ([97, 58, 32] ++ xs k))).2 = 0 := by
  have hf : isFld (⟨#[97]⟩ : ByteArray).data.toList (⟨(xs k).toArray⟩ : ByteArray).data.toList = true := by
    have h1 : isTok (⟨#[97]⟩ : ByteArray).data.toList = true := by decide
    have h2 : isVal (⟨(xs k).toArray⟩ : ByteArray).data.toList = true := xs_val k
    unfold isFld; rw [h1, h2]; rfl
  have h := parse_line hf
  have e : (⟨#[97]⟩ ++ ⟨#[58, 32]⟩ ++ ⟨(xs k).toArray⟩ : ByteArray) = txt ([97, 58, 32] ++ xs k) := by
    apply bytes_eq
    rw [line_data]
    rfl
  rw [e, parseVal_of] at h
  have h2 := two_of h
  clear h hf e
  generalize (fldOf (txt ([97, 58, 32] ++ xs k))).2 = z at h2 ⊢
  injection h2 with _ h2
  omega
theorem own_x (k : Nat) : own ([97, 58, 32] ++ xs k) = [97, 58, 32] ++ xs k := by
  unfold own
  rw [if_neg]
  intro h
  cases k with
  | zero => simp [xs] at h
  | succ k =>
    have : ([97, 58, 32] ++ xs (k + 1)).getLast? = some 120 := by
      rw [List.getLast?_append, xs, List.getLast?_replicate]; simp
    rw [this] at h; exact absurd h (by decide)
theorem x_no (k : Nat) : ∀ c ∈ [97, 58, 32] ++ xs k, c ≠ 10 := by
  intro c hc
  rw [List.mem_append] at hc
  rcases hc with hc | hc
  · revert hc; revert c; decide
  · rw [List.eq_of_mem_replicate hc]; decide
theorem long_run (k : Nat) (hk : k ≤ 8205) : (k + 18 + 2 ≤ 8192 → (run false start (getL ++ 10 :: ([97, 58, 32] ++ xs k ++ [10, 10]))).1 = k + 20 ∧ doneOf (run false start (getL ++ 10 :: ([97, 58, 32] ++ xs k ++ [10, 10]))).2 = true ∧ errOf (run false start (getL ++ 10 :: ([97, 58, 32] ++ xs k ++ [10, 10]))).2 = 0) ∧
    (8192 < k + 18 + 2 → (run false start (getL ++ 10 :: ([97, 58, 32] ++ xs k ++ [10, 10]))).1 = 8193 ∧ doneOf (run false start (getL ++ 10 :: ([97, 58, 32] ++ xs k ++ [10, 10]))).2 = false ∧ errOf (run false start (getL ++ 10 :: ([97, 58, 32] ++ xs k ++ [10, 10]))).2 = 3) := by
  have hl : ([97, 58, 32] ++ xs k).length = k + 3 := by simp [xs]
  rw [get_run]
  by_cases h8 : 15 + (k + 3) < 8192
  · have h := run_whole (resp := false) (p := some getP) (n := 15) (fs := []) (t := [97, 58, 32] ++ xs k) (r := [10]) (x_no k) (by rw [hl]; exact h8) (by rw [hl]; simp only [most, Option.isNone_some]; simp; omega)
    rw [own_x, hl, ended_field (by simp) (by simp) (fld_x k)] at h
    rw [show [97, 58, 32] ++ xs k ++ [10, 10] = [97, 58, 32] ++ xs k ++ 10 :: [10] from rfl, h]
    refine ⟨fun h2 => ?_, fun h2 => ?_⟩
    · rw [run_end (by omega)]
      exact ⟨by show 15 + (k + 3 + 1 + 1) = _; omega, rfl, rfl⟩
    · have e : 15 + (k + 3) + 1 = 8192 := by omega
      rw [e, run_cons rfl, step_on, if_pos (by simp [room, most]), run_nil]
      exact ⟨by show 15 + (k + 3 + 1 + (0 + 1)) = _; omega, rfl, rfl⟩
  · have hb : room (some getP) [] 15 < ([97, 58, 32] ++ xs k ++ [10, 10]).length := by rw [List.length_append, hl]; simp [room, most]; omega
    have hr : room (some getP) [] 15 = 8177 := by simp [room, most]
    have h := run_big (resp := false) (b := [97, 58, 32] ++ xs k ++ [10, 10]) (p := some getP) (l := []) (n := 15) (fs := []) (fun c hc => by
      rw [hr, List.take_append_of_le_length (by rw [hl]; omega)] at hc
      exact x_no k c (List.mem_of_mem_take hc)) hb
    rw [h, hr]
    exact ⟨fun h2 => by omega, fun _ => ⟨rfl, rfl, rfl⟩⟩
end Go.Proofs.YtoofdompafkddaaDoor.Hd
/-
  A head of fields as the law HeadFields writes it, and what a reader comes to: plain functions on bytes. No program, no condition.
-/
namespace Go.Proofs.YtoofdompafkddaaDoor.Hd
open Go.Proofs.YtoofdompafkddaaDoor.Tk Go.Proofs.YtoofdompafkddaaDoor.Fd Go.Proofs.YtoofdompafkddaaDoor.Ln
set_option linter.unusedVariables false

/-- The i-th field's name and line. -/
def nmF (i : Nat) : ByteArray := ⟨#[78, UInt8.ofNat (97 + i)]⟩
def lnF (i : Nat) (v : ByteArray) : Bs := [78, UInt8.ofNat (97 + i)] ++ 58 :: 9 :: (v.data.toList ++ [32])
/-- Is a value taken? -/
def okV (v : ByteArray) : Bool := decide (v.size ≤ 100) && isVal v.data.toList
def crB (crlf : Bool) : Bs := if crlf then [13] else []
def endL (crlf : Bool) : Bs := crB crlf ++ [10]
def bodyF (crlf : Bool) (acc : List (Nat × ByteArray)) : Bs := acc.flatMap fun p => lnF p.1 p.2 ++ endL crlf
def OkAll (acc : List (Nat × ByteArray)) : Prop := ∀ p ∈ acc, p.1 < 20 ∧ okV p.2 = true
def flF (p : Nat × ByteArray) : Fl := (nmF p.1, p.2)

theorem name_facts : ∀ i, i < 20 → isTok [78, UInt8.ofNat (97 + i)] = true ∧ (∀ c ∈ ([78, UInt8.ofNat (97 + i)] : Bs), c ≠ 58 ∧ c ≠ 10) := by decide
theorem crB_no (crlf : Bool) : ∀ c ∈ crB crlf, c ≠ 10 := by cases crlf <;> decide
theorem own_cr (crlf : Bool) : own (crB crlf) = [] := by cases crlf <;> rfl
theorem own_more {l : Bs} {c : UInt8} (crlf : Bool) (hc : c ≠ 13) : own ((l ++ [c]) ++ crB crlf) = l ++ [c] := by
  cases crlf with
  | true =>
    show own ((l ++ [c]) ++ [13]) = _
    unfold own
    rw [if_pos (by simp), List.dropLast_concat]
  | false =>
    show own ((l ++ [c]) ++ []) = _
    unfold own
    rw [List.append_nil, if_neg (by simp [hc])]
theorem crB_len (crlf : Bool) : (crB crlf).length ≤ 1 := by cases crlf <;> simp [crB]
theorem endL_len (crlf : Bool) : (endL crlf).length = (crB crlf).length + 1 := by unfold endL; simp
theorem lnF_len (i : Nat) (v : ByteArray) : (lnF i v).length = v.size + 5 := by unfold lnF; simp
theorem val_text {v : ByteArray} (h : okV v = true) : ∀ c ∈ v.data.toList, c ≠ 10 := by
  unfold okV isVal at h
  simp only [Bool.and_eq_true] at h
  intro c hc e
  subst e
  have := List.all_eq_true.1 h.2.1 10 hc
  revert this; decide
theorem lnF_no {i : Nat} {v : ByteArray} (hi : i < 20) (h : okV v = true) : ∀ c ∈ lnF i v, c ≠ 10 := by
  intro c hc
  unfold lnF at hc
  rcases List.mem_append.1 hc with hc | hc
  · exact ((name_facts i hi).2 c hc).2
  · simp only [List.mem_cons, List.mem_append, List.not_mem_nil, or_false] at hc
    rcases hc with rfl | rfl | hc | rfl
    · decide
    · decide
    · exact val_text h c hc
    · decide
theorem lnF_snoc (i : Nat) (v : ByteArray) : lnF i v = ([78, UInt8.ofNat (97 + i)] ++ 58 :: 9 :: v.data.toList) ++ [32] := by unfold lnF; simp
theorem trim_tab {l : Bs} (h : isVal l = true) : trim (9 :: (l ++ [32])) = l := by
  rw [trim_cons_blank _ (by decide), trim_snoc_blank _ (by decide)]
  have := trim_val h
  rw [trim_cons_blank l (by decide)] at this
  exact this
theorem fld_ln {i : Nat} {v : ByteArray} (hi : i < 20) (h : okV v = true) : fldOf (txt (lnF i v)) = ((nmF i, v), 0) := by
  have hv : isVal v.data.toList = true := by unfold okV at h; rw [Bool.and_eq_true] at h; exact h.2
  have ht := (name_facts i hi).1
  have hd : (txt (lnF i v)).data.toList = lnF i v := rfl
  have hk : colIdx (txt (lnF i v)).data.toList = 2 := by
    rw [hd]; unfold lnF
    rw [col_at _ _ (fun c hc => ((name_facts i hi).2 c hc).1)]; rfl
  have hs : (txt (lnF i v)).size = v.size + 5 := by rw [txt_size, lnF_len]
  have hn : pName (txt (lnF i v)) = nmF i := by
    unfold pName; rw [hk]
    apply bytes_eq
    rw [ByteArray.data_extract, Array.toList_extract, hd]
    unfold lnF nmF
    rw [List.extract_eq_take_drop]
    rfl
  have hp : pVal (txt (lnF i v)) = v := by
    unfold pVal; rw [hk]
    apply bytes_eq
    have e : ((txt (lnF i v)).extract (2 + 1) (txt (lnF i v)).size).data.toList = 9 :: (v.data.toList ++ [32]) := by
      rw [ByteArray.data_extract, Array.toList_extract, hd, hs]
      unfold lnF
      rw [List.extract_eq_take_drop]
      show List.take (v.size + 5 - 3) (9 :: (v.data.toList ++ [32])) = _
      rw [List.take_of_length_le (by simp)]
    rw [e, trim_tab hv]
  have hok : parseOk (txt (lnF i v)) = true := by
    unfold parseOk
    rw [hk, hn, hp, hs]
    unfold isFld nmF
    simp only [Bool.and_eq_true, decide_eq_true_eq]
    exact ⟨by omega, ht, hv⟩
  unfold fldOf
  rw [if_pos hok, hn, hp]
theorem bodyF_cons (crlf : Bool) (p : Nat × ByteArray) (acc : List (Nat × ByteArray)) : bodyF crlf (p :: acc) = lnF p.1 p.2 ++ endL crlf ++ bodyF crlf acc := by simp [bodyF]
theorem bodyF_snoc (crlf : Bool) (acc : List (Nat × ByteArray)) (p : Nat × ByteArray) : bodyF crlf (acc ++ [p]) = bodyF crlf acc ++ (lnF p.1 p.2 ++ endL crlf) := by simp [bodyF]
theorem okV_size {v : ByteArray} (h : okV v = true) : v.size ≤ 100 := by unfold okV at h; rw [Bool.and_eq_true] at h; exact of_decide_eq_true h.1
theorem bodyF_len (crlf : Bool) (acc : List (Nat × ByteArray)) (h : OkAll acc) : (bodyF crlf acc).length ≤ 107 * acc.length := by
  induction acc with
  | nil => simp [bodyF]
  | cons p r ih =>
    have h1 := okV_size (h p (by simp)).2
    have h2 := ih (fun q hq => h q (by simp [hq]))
    have h3 := crB_len crlf
    rw [bodyF_cons, List.length_append, List.length_append, lnF_len, endL_len, List.length_cons]; omega
theorem lines_run (crlf : Bool) (acc : List (Nat × ByteArray)) (q : Parts) (n : Nat) (fs : List Fl) (r : Bs) (h : OkAll acc) (hk : fs.length + acc.length ≤ 64) (hn : n + (bodyF crlf acc).length < 8192) :
    run false (.on (some q) [] n fs) (bodyF crlf acc ++ r) = ((bodyF crlf acc).length + (run false (.on (some q) [] (n + (bodyF crlf acc).length) (fs ++ acc.map flF)) r).1, (run false (.on (some q) [] (n + (bodyF crlf acc).length) (fs ++ acc.map flF)) r).2) := by
  induction acc generalizing n fs with
  | nil => simp [bodyF]
  | cons p acc ih =>
    obtain ⟨hi, hv⟩ := h p (by simp)
    have hvs := okV_size hv
    have hc := crB_len crlf
    rw [bodyF_cons] at hn ⊢
    simp only [List.length_append, lnF_len, endL_len, List.length_cons] at hn hk ⊢
    have h1 := run_whole (resp := false) (p := some q) (n := n) (fs := fs) (t := lnF p.1 p.2 ++ crB crlf) (r := bodyF crlf acc ++ r) (fun c hc => by
      rcases List.mem_append.1 hc with hc | hc
      · exact lnF_no hi hv c hc
      · exact crB_no crlf c hc) (by simp only [List.length_append, lnF_len]; omega) (by simp only [List.length_append, lnF_len, most, Option.isNone_some, Bool.false_eq_true, if_false]; omega)
    have ho : own (lnF p.1 p.2 ++ crB crlf) = lnF p.1 p.2 := by rw [lnF_snoc]; exact own_more crlf (by decide)
    have he := ended_field (resp := false) (q := q) (n := n + (lnF p.1 p.2 ++ crB crlf).length + 1) (fs := fs) (t := lnF p.1 p.2) (by unfold lnF; simp) (by omega) (by rw [fld_ln hi hv])
    rw [fld_ln hi hv] at he
    rw [ho, he, ih _ _ (fun q hq => h q (by simp [hq])) (by simp; omega) (by simp only [List.length_append, lnF_len]; omega)] at h1
    have e : lnF p.1 p.2 ++ endL crlf ++ bodyF crlf acc ++ r = lnF p.1 p.2 ++ crB crlf ++ 10 :: (bodyF crlf acc ++ r) := by unfold endL; simp
    rw [e, h1]
    simp only [List.length_append, lnF_len, List.map_cons]
    have e2 : n + (p.2.size + 5 + (crB crlf).length) + 1 + (bodyF crlf acc).length = n + (p.2.size + 5 + ((crB crlf).length + 1) + (bodyF crlf acc).length) := by omega
    rw [e2]
    have e3 : fs ++ [(nmF p.1, p.2)] ++ List.map flF acc = fs ++ flF p :: List.map flF acc := by simp [flF]
    rw [e3]
    simp only [Prod.mk.injEq, and_true]
    omega
/-! PUT /x HTTP/1.0 -/
def putL : Bs := [80, 85, 84, 32, 47, 120, 32, 72, 84, 84, 80, 47, 49, 46, 48]
def putP : Parts := ⟨0, 0, ⟨#[80, 85, 84]⟩, ⟨#[47, 120]⟩⟩
theorem put_no : ∀ c ∈ putL, c ≠ 10 := by decide
theorem put_first : firstOf false (txt putL) = (putP, 0) := by kernel_rfl
/-- The text ahead of the fields. -/
def preF (crlf : Bool) : Bs := endL crlf ++ putL ++ endL crlf
theorem fields_run (crlf : Bool) (acc : List (Nat × ByteArray)) (h : OkAll acc) (hl : acc.length ≤ 20) :
    run false start (preF crlf ++ bodyF crlf acc ++ endL crlf ++ [120]) = ((preF crlf ++ bodyF crlf acc ++ endL crlf).length, .done putP (acc.map flF)) := by
  have hc := crB_len crlf
  have hb := bodyF_len crlf acc h
  have h1 := run_whole (resp := false) (p := none) (n := 0) (fs := []) (t := crB crlf) (r := putL ++ crB crlf ++ 10 :: (bodyF crlf acc ++ (crB crlf ++ 10 :: [120]))) (crB_no crlf) (by omega) (by simp only [most, Option.isNone_none, if_true]; omega)
  rw [own_cr, ended_skip] at h1
  have h2 := run_whole (resp := false) (p := none) (n := 0 + (crB crlf).length + 1) (fs := []) (t := putL ++ crB crlf) (r := bodyF crlf acc ++ (crB crlf ++ 10 :: [120])) (fun c hc => by
    rcases List.mem_append.1 hc with hc | hc
    · exact put_no c hc
    · exact crB_no crlf c hc) (by rw [List.length_append, show putL.length = 15 from rfl]; omega) (by rw [List.length_append, show putL.length = 15 from rfl]; simp only [most, Option.isNone_none, if_true]; omega)
  have ho : own (putL ++ crB crlf) = putL := own_more (l := [80, 85, 84, 32, 47, 120, 32, 72, 84, 84, 80, 47, 49, 46]) (c := 48) crlf (by decide)
  have he := ended_first (resp := false) (t := putL) (n := 0 + (crB crlf).length + 1 + (putL ++ crB crlf).length + 1) (fs := []) (by decide) (by rw [put_first])
  rw [put_first] at he
  rw [ho, he, lines_run crlf acc putP _ [] _ h (by simpa using Nat.le_trans hl (by omega)) (by rw [List.length_append, show putL.length = 15 from rfl]; omega)] at h2
  have h3 := run_whole (resp := false) (p := some putP) (n := 0 + (crB crlf).length + 1 + (putL ++ crB crlf).length + 1 + (bodyF crlf acc).length) (fs := [] ++ acc.map flF) (t := crB crlf) (r := [120]) (crB_no crlf) (by rw [List.length_append, show putL.length = 15 from rfl]; omega) (by simp only [most, Option.isNone_some, Bool.false_eq_true, if_false]; omega)
  rw [own_cr, ended_last, run_over (s := .done putP ([] ++ acc.map flF)) rfl] at h3
  rw [h3] at h2
  rw [h2] at h1
  have e : preF crlf ++ bodyF crlf acc ++ endL crlf ++ [120] = crB crlf ++ 10 :: (putL ++ crB crlf ++ 10 :: (bodyF crlf acc ++ (crB crlf ++ 10 :: [120]))) := by unfold preF endL; simp
  rw [e, show start = .on none [] 0 [] from rfl, h1]
  simp only [List.nil_append, Prod.mk.injEq, and_true]
  unfold preF
  simp only [List.length_append, endL_len]
  omega
end Go.Proofs.YtoofdompafkddaaDoor.Hd
/-
  Lists of fields that calls made: rows of cells of their own. No condition.
-/
namespace Go.Proofs.YtoofdompafkddaaDoor.Fd
open Go.RowKit Tk
set_option linter.unusedVariables false

/-- Fields as cells. -/
def flat (fs : List Fl) : List Value := fs.flatMap fun f => [.string f.1, .string f.2]
theorem flat_snoc (fs : List Fl) (f : Fl) : flat (fs ++ [f]) = flat fs ++ [.string f.1, .string f.2] := by simp [flat]
theorem flat_length (fs : List Fl) : (flat fs).length = fs.length * 2 := by
  induction fs with
  | nil => rfl
  | cons f r ih => simp only [flat, List.flatMap_cons, List.length_append, List.length_cons, List.length_nil] at ih ⊢; omega
theorem flat_at (fs : List Fl) (j : Nat) (h : j < fs.length) : (flat fs)[j * 2]? = some (.string fs[j].1) ∧ (flat fs)[j * 2 + 1]? = some (.string fs[j].2) := by
  induction fs generalizing j with
  | nil => simp at h
  | cons f r ih =>
    cases j with
    | zero => exact ⟨rfl, rfl⟩
    | succ j =>
      have h2 := ih j (by simpa using h)
      have e1 : (j + 1) * 2 = j * 2 + 2 := by omega
      have e2 : (j + 1) * 2 + 1 = j * 2 + 1 + 2 := by omega
      rw [e2, e1]
      exact ⟨h2.1, h2.2⟩
theorem owns_kept {w w' : World} {base : Nat} {e : TypeId} {sz : Nat} {v : Value} {n : Nat} {xs : List Value} (h : w.ownsRow base e sz v n xs) (hb : Below w.heap.size w w') : w'.ownsRow base e sz v n xs := by
  refine ⟨h.1, ?_⟩
  rcases h.2 with h2 | ⟨g, cap, cur, hv, hg, hh, r⟩
  · exact .inl h2
  · exact .inr ⟨g, cap, cur, hv, hg, (hb.block g (block_lt hh)).trans hh, r⟩
theorem owns_mono {w : World} {base base' : Nat} {e : TypeId} {size : Nat} {v : Value} {n : Nat} {xs : List Value} (h : w.ownsRow base e size v n xs) (hb : base' ≤ base) : w.ownsRow base' e size v n xs := by
  refine ⟨h.1, ?_⟩
  rcases h.2 with h2 | ⟨g, cap, cur, hv, hg, r⟩
  · exact .inl h2
  · exact .inr ⟨g, cap, cur, hv, by omega, r⟩
/-- A slice of fields that a call made, in memory from base on. -/
def OwnF (w : World) (base : Nat) (v : Value) (fs : List Fl) : Prop := w.ownsRow base 56 2 v fs.length (flat fs)
theorem OwnF.nil (w : World) (base : Nat) : OwnF w base (.slice none 0 0) [] := World.ownsRow_nil _ _ _ _
theorem OwnF.flds {w : World} {base : Nat} {v : Value} {fs : List Fl} (h : OwnF w base v fs) : Flds w v fs := by
  rcases h.2 with ⟨hv, h0⟩ | ⟨g, cap, cur, hv, _, hg, _⟩
  · exact .inl ⟨List.length_eq_zero_iff.1 h0, none, 0, hv⟩
  · refine .inr ⟨g, 0, cap, hv, block_lt hg, fun j hj => ?_⟩
    have h' : w.ownsRow base 56 2 (.slice (some ⟨g, 0, none⟩) fs.length cap) fs.length (flat fs) := by rw [← hv]; exact h
    obtain ⟨a, b⟩ := flat_at fs j hj
    rw [Nat.zero_add, h'.cellAt (j * 2) (by omega), h'.cellAt (j * 2 + 1) (by omega), a, b]
    exact ⟨rfl, rfl⟩
theorem OwnF.kept {w w' : World} {base : Nat} {v : Value} {fs : List Fl} (h : OwnF w base v fs) (hb : Below w.heap.size w w') : OwnF w' base v fs := owns_kept h hb
theorem OwnF.form {w : World} {base : Nat} {v : Value} {fs : List Fl} (h : OwnF w base v fs) : ∃ a cap, v = .slice a fs.length cap := h.flds.shape
theorem OwnF.row {w : World} {base : Nat} {v : Value} {fs : List Fl} (h : OwnF w base v fs) : ∀ k, v.ownBlock = some k → base ≤ k := fun k hk => (World.ownsRow.lt h k hk).1
theorem one_cells (x y : ByteArray) : ∀ u ∈ [Value.string x, Value.string y], u.oneCell' = true := by intro u hu; simp at hu; rcases hu with rfl | rfl <;> rfl
theorem news_at {w : World} {g : Nat} {x y : Value} {t : TypeId} (h : w.heap[g]? = some (.cells #[x, y] t (0, 0))) : ∀ j u, [x, y][j]? = some u → w.cell? ((⟨g, 0, none⟩ : Addr).add j) = some u := by
  intro j u hu
  match j, hu with
  | 0, hu => simp at hu; subst hu; exact two0 h
  | 1, hu => simp at hu; subst hu; exact two1 h

end Go.Proofs.YtoofdompafkddaaDoor.Fd
/-
  Worlds that turned within some blocks alone. No condition.
-/
namespace Go.Proofs.YtoofdompafkddaaDoor.Hd
open Go.RowKit Go.Proofs.YtoofdompafkddaaDoor.Tk Go.Proofs.YtoofdompafkddaaDoor.Fd
set_option linter.unusedVariables false

/-- But for the blocks of O, and new ones, w' is as w was. -/
structure Chg (O : Nat → Prop) (w w' : World) : Prop where
  os : w'.os = w.os
  tape : w'.tape = w.tape
  output : w'.output = w.output
  size : w.heap.size ≤ w'.heap.size
  block : ∀ k, k < w.heap.size → ¬ O k → w'.heap[k]? = w.heap[k]?
theorem Chg.refl (O : Nat → Prop) (w : World) : Chg O w w := ⟨rfl, rfl, rfl, Nat.le_refl _, fun _ _ _ => rfl⟩
theorem Chg.of_below {O : Nat → Prop} {w w' : World} (h : Below w.heap.size w w') : Chg O w w' := ⟨h.os, h.tape, h.output, h.size, fun k hk _ => h.block k hk⟩
theorem Chg.below {O : Nat → Prop} {w w' : World} {B : Nat} (h : Chg O w w') (hO : ∀ k, O k → B ≤ k) (hB : B ≤ w.heap.size) : Below B w w' :=
  ⟨h.os, h.tape, h.output, h.size, fun k hk => h.block k (by omega) (fun ho => by have := hO k ho; omega)⟩
/-- The blocks of O, and those that are new since w. -/
def New (O : Nat → Prop) (w : World) (k : Nat) : Prop := O k ∨ w.heap.size ≤ k
theorem Chg.trans {O O' : Nat → Prop} {a b c : World} (h : Chg O a b) (k : Chg O' b c) (hO : ∀ i, O' i → New O a i) : Chg O a c :=
  ⟨k.os.trans h.os, k.tape.trans h.tape, k.output.trans h.output, Nat.le_trans h.size k.size, fun i hi hn =>
    (k.block i (Nat.lt_of_lt_of_le hi h.size) (fun ho => by rcases hO i ho with h1 | h1; exact hn h1; omega)).trans (h.block i hi hn)⟩
theorem Chg.put {O : Nat → Prop} {a w : World} (h : Chg O a w) (p : Addr) (v : Value) (hp : New O a p.block) : Chg O a (w.setCell p v) :=
  h.trans (O' := fun k => k = p.block) ⟨rfl, rfl, rfl, by simp [World.setCell], fun k hk hn => Below.heap_setCell _ _ _ _ hn⟩ (fun i hi => by subst hi; exact hp)
theorem Chg.row {O : Nat → Prop} {a w : World} (h : Chg O a w) (g : Nat) (cs : Array Value) (hp : New O a g) : Chg O a (w.setRow g cs) :=
  h.trans (O' := fun k => k = g) ⟨rfl, rfl, rfl, by simp [World.setRow], fun k hk hn => setRow_other w g k cs hn⟩ (fun i hi => by subst hi; exact hp)
theorem Chg.grown {O : Nat → Prop} {a w w' : World} {row : Option Nat} (h : Chg O a w) (hg : w.grownBy w' row) (hr : ∀ k, row = some k → New O a k) : Chg O a w' :=
  h.trans (O' := fun k => some k = row) ⟨hg.os, hg.tape, hg.output, hg.size, fun k hk hn => hg.block k hk hn⟩ (fun i hi => hr i hi.symm)
theorem Chg.next {O : Nat → Prop} {a w w' : World} (h : Chg O a w) (hb : Below w.heap.size w w') : Chg O a w' :=
  h.trans (O' := fun _ => False) (Chg.of_below hb) (fun i hi => hi.elim)
theorem Chg.alloc {O : Nat → Prop} {a w : World} (h : Chg O a w) (o : Obj) : Chg O a (w.alloc o) := h.next ((Below.refl _ _).alloc (Nat.le_refl _) o)
theorem Chg.drew {O : Nat → Prop} {a w : World} (h : Chg O a w) : Chg O a w.drew := ⟨h.os, h.tape, h.output, h.size, h.block⟩
theorem Chg.drewN {O : Nat → Prop} {a w : World} (h : Chg O a w) (n : Nat) : Chg O a (w.drewN n) := ⟨h.os, h.tape, h.output, h.size, h.block⟩
theorem Chg.again {O : Nat → Prop} {a b c : World} (h : Chg O a b) (k : Chg (New O a) b c) : Chg O a c := h.trans k (fun _ hi => hi)
theorem new_new {O : Nat → Prop} {a b : World} (hs : a.heap.size ≤ b.heap.size) (i : Nat) (h : New (New O a) b i) : New O a i := by
  rcases h with h | h
  · exact h
  · exact .inr (by omega)
theorem Chg.old {O : Nat → Prop} {w w' : World} (h : Chg O w w') {k : Nat} (ho : ¬ O k) {o : Obj} (e : w.heap[k]? = some o) : w'.heap[k]? = some o := (h.block k (block_lt e) ho).trans e

/-- Bytes as cells. -/
def bys (l : Bs) : List Value := l.map fun c => .int .u8 (c.toNat : Int)
theorem bys_length (l : Bs) : (bys l).length = l.length := by simp [bys]
theorem bys_append (a b : Bs) : bys (a ++ b) = bys a ++ bys b := by simp [bys]
theorem bys_one (l : Bs) : ∀ v ∈ bys l, v.oneCell' = true := by
  intro v hv; obtain ⟨c, _, rfl⟩ := List.mem_map.1 hv; rfl
theorem bys_at (l : Bs) (j : Nat) (h : j < l.length) : (bys l)[j]? = some (.int .u8 (l[j].toNat : Int)) := by simp [bys, h]
/-- Bytes in a row of a call's own. -/
def OwnB (w : World) (v : Value) (l : Bs) : Prop := w.ownsRow 0 5 1 v l.length (bys l)
theorem OwnB.nil (w : World) : OwnB w (.slice none 0 0) [] := World.ownsRow_nil _ _ _ _
/-- A row's fact hangs on its block alone. -/
theorem row_same {w w' : World} {base : Nat} {e : TypeId} {sz : Nat} {v : Value} {n : Nat} {xs : List Value} (h : w.ownsRow base e sz v n xs) (hb : ∀ k, v.ownBlock = some k → w'.heap[k]? = w.heap[k]?) : w'.ownsRow base e sz v n xs := by
  refine ⟨h.1, ?_⟩
  rcases h.2 with h2 | ⟨g, cap, cur, hv, hg, hh, r⟩
  · exact .inl h2
  · exact .inr ⟨g, cap, cur, hv, hg, (hb g (by rw [hv]; rfl)).trans hh, r⟩
theorem row_chg {O O' : Nat → Prop} {w w' : World} {base : Nat} {e : TypeId} {sz : Nat} {v : Value} {n : Nat} {xs : List Value} (h : w.ownsRow base e sz v n xs) (hc : Chg O' w w') (ho : ∀ k, v.ownBlock = some k → O k) (hd : ∀ k, O k → ¬ O' k) : w'.ownsRow base e sz v n xs :=
  row_same h fun k hk => hc.block k (World.ownsRow.lt h k hk).2 (hd k (ho k hk))
theorem OwnB.holds {w : World} {v : Value} {l : Bs} (h : OwnB w v l) {g cap : Nat} (hv : v = .slice (some ⟨g, 0, none⟩) l.length cap) : Holds w g 0 l := by
  subst hv
  intro j hj
  rw [Nat.zero_add, World.ownsRow.cellAt h j (by omega), bys_at l j hj]
theorem OwnB.shape {w : World} {v : Value} {l : Bs} (h : OwnB w v l) : ∃ a cap, v = .slice a l.length cap := by
  rcases h.2 with ⟨hv, h0⟩ | ⟨g, cap, cur, hv, _⟩
  · rw [h0]; exact ⟨none, 0, hv⟩
  · exact ⟨_, cap, hv⟩
/-- The type of a row's block. -/
theorem row_type {w : World} {base : Nat} {e : TypeId} {sz : Nat} {v : Value} {n : Nat} {xs : List Value} (h : w.ownsRow base e sz v n xs) {k : Nat} (hk : v.ownBlock = some k) : ∃ cur, w.heap[k]? = some (.cells cur e (0, 0)) := by
  rcases h.2 with ⟨hv, _⟩ | ⟨g, cap, cur, hv, _, hh, _⟩
  · rw [hv] at hk; cases hk
  · rw [hv] at hk; injection hk with hk; subst hk; exact ⟨cur, hh⟩
/-- Blocks of unlike types are unlike. -/
theorem apart_of {w : World} {a b : Nat} {x y : Array Value} {s t : TypeId} {fr fs : Nat × Nat} (ha : w.heap[a]? = some (.cells x s fr)) (hb : w.heap[b]? = some (.cells y t fs)) (h : s ≠ t) : a ≠ b := by
  intro e; subst e; rw [ha] at hb; injection hb with hb; injection hb with _ h2; exact h h2
theorem put_far {w : World} {a : Addr} {v : Value} {k : Nat} {o : Option Obj} (h : w.heap[k]? = o) (hk : k ≠ a.block) : (w.setCell a v).heap[k]? = o := (Below.heap_setCell w a v k hk).trans h
theorem row_far {w : World} {g : Nat} {cs : Array Value} {k : Nat} {o : Option Obj} (h : w.heap[k]? = o) (hk : k ≠ g) : (w.setRow g cs).heap[k]? = o := (setRow_other w g k cs hk).trans h
end Go.Proofs.YtoofdompafkddaaDoor.Hd
