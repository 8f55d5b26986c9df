/-
  Whole lines that a reader reads: plain functions on bytes. No program, no condition.
-/
import Derived.Test.YtlnlihkljnkhiaaDoorHdMath
import Derived.KernelRfl
namespace Go.Proofs.YtlnlihkljnkhiaaDoor.Hd
open Go.Proofs.YtlnlihkljnkhiaaDoor.Tk Go.Proofs.YtlnlihkljnkhiaaDoor.Fd Go.Proofs.YtlnlihkljnkhiaaDoor.Ln
set_option linter.unusedVariables false

theorem ended_first {resp : Bool} {t : Bs} {n : Nat} {fs : List Fl} (ht : t ≠ []) (he : (firstOf resp (txt t)).2 = 0) : ended resp none n fs t = .on (some (firstOf resp (txt t)).1) [] n fs := by
  show (if t = [] then _ else _) = _
  rw [if_neg ht, if_pos he]
theorem ended_skip {resp : Bool} {n : Nat} {fs : List Fl} : ended resp none n fs [] = .on none [] n fs := rfl
theorem ended_last {resp : Bool} {q : Parts} {n : Nat} {fs : List Fl} : ended resp (some q) n fs [] = .done q fs := rfl
theorem ended_full {resp : Bool} {q : Parts} {n : Nat} {fs : List Fl} {t : Bs} (ht : t ≠ []) (hl : fs.length = 64) : ended resp (some q) n fs t = .bad 3 := by
  show (if t = [] then _ else _) = _
  rw [if_neg ht, if_pos hl]
theorem ended_field {resp : Bool} {q : Parts} {n : Nat} {fs : List Fl} {t : Bs} (ht : t ≠ []) (hl : fs.length ≠ 64) (he : (fldOf (txt t)).2 = 0) : ended resp (some q) n fs t = .on (some q) [] n (fs ++ [(fldOf (txt t)).1]) := by
  show (if t = [] then _ else _) = _
  rw [if_neg ht, if_neg hl, if_pos he]
/-- A line that ends, from its beginning on. -/
theorem run_whole {resp : Bool} {p : Option Parts} {n : Nat} {fs : List Fl} {t r : Bs} (h10 : ∀ c ∈ t, c ≠ 10) (hn : n + t.length < 8192) (hm : t.length < most p) :
    run resp (.on p [] n fs) (t ++ 10 :: r) = (t.length + 1 + (run resp (ended resp p (n + t.length + 1) fs (own t)) r).1, (run resp (ended resp p (n + t.length + 1) fs (own t)) r).2) := by
  have := run_line (resp := resp) (b := t) (r := r) (p := p) (l := []) (n := n) (fs := fs) h10 (by unfold room; simp; omega)
  simpa using this
theorem run_end {resp : Bool} {q : Parts} {n : Nat} {fs : List Fl} {r : Bs} (hn : n < 8192) : run resp (.on (some q) [] n fs) (10 :: r) = (1, .done q fs) := by
  have := run_whole (resp := resp) (p := some q) (n := n) (fs := fs) (t := []) (r := r) (by simp) (by simpa using hn) (by simp [most])
  rw [List.nil_append] at this
  rw [this, show own [] = [] from rfl, ended_last, run_over rfl]
  rfl

/-! GET / HTTP/1.1 -/
def getL : Bs := [71, 69, 84, 32, 47, 32, 72, 84, 84, 80, 47, 49, 46, 49]
def getP : Parts := ⟨1, 0, ⟨#[71, 69, 84]⟩, ⟨#[47]⟩⟩
theorem get_first : firstOf false (txt getL) = (getP, 0) := by kernel_rfl
theorem get_run (r : Bs) : run false start (getL ++ 10 :: r) = (15 + (run false (.on (some getP) [] 15 []) r).1, (run false (.on (some getP) [] 15 []) r).2) := by
  have h := run_whole (resp := false) (p := none) (n := 0) (fs := []) (t := getL) (r := r) (by decide) (by decide) (by decide)
  have e : ended false none (0 + getL.length + 1) [] (own getL) = .on (some getP) [] 15 [] := by
    have h2 := ended_first (resp := false) (t := getL) (n := 15) (fs := []) (by decide) (by rw [get_first])
    rw [get_first] at h2
    exact h2
  rw [e] at h
  exact h
/-! Lines 'a: b'. -/
def abL : Bs := [97, 58, 32, 98]
def abF : Fl := (⟨#[97]⟩, ⟨#[98]⟩)
theorem ab_fld : fldOf (txt abL) = (abF, 0) := by kernel_rfl
def reps : Nat → Bs
  | 0 => []
  | n + 1 => abL ++ 10 :: reps n
theorem reps_length (n : Nat) : (reps n).length = 5 * n := by
  induction n with
  | zero => rfl
  | succ n ih => show (abL ++ 10 :: reps n).length = _; simp [abL, ih]; omega
theorem reps_snoc (n : Nat) : reps (n + 1) = reps n ++ (abL ++ [10]) := by
  induction n with
  | zero => rfl
  | succ n ih =>
    show abL ++ 10 :: reps (n + 1) = (abL ++ 10 :: reps n) ++ (abL ++ [10])
    rw [ih]; simp
/-- Fields as long as there is room. -/
theorem reps_run (k : Nat) (q : Parts) (n : Nat) (fs : List Fl) (r : Bs) (hk : fs.length + k ≤ 64) (hn : n + 5 * k < 8192) :
    run false (.on (some q) [] n fs) (reps k ++ r) = (5 * k + (run false (.on (some q) [] (n + 5 * k) (fs ++ List.replicate k abF)) r).1, (run false (.on (some q) [] (n + 5 * k) (fs ++ List.replicate k abF)) r).2) := by
  induction k generalizing n fs with
  | zero => simp [reps]
  | succ k ih =>
    have h := run_whole (resp := false) (p := some q) (n := n) (fs := fs) (t := abL) (r := reps k ++ r) (by decide) (by simp [abL]; omega) (by simp [abL, most])
    have e : ended false (some q) (n + abL.length + 1) fs (own abL) = .on (some q) [] (n + 5) (fs ++ [abF]) := by
      have h2 := ended_field (resp := false) (q := q) (n := n + 5) (fs := fs) (t := abL) (by decide) (by omega) (by rw [ab_fld])
      rw [ab_fld] at h2
      exact h2
    rw [e, ih (n + 5) (fs ++ [abF]) (by simp; omega) (by omega)] at h
    show run false _ ((abL ++ 10 :: reps k) ++ r) = _
    rw [List.append_assoc, List.cons_append, h, List.append_assoc, show [abF] ++ List.replicate k abF = List.replicate (k + 1) abF from by rw [List.replicate_succ]; rfl, show n + 5 + 5 * k = n + 5 * (k + 1) from by omega]
    simp only [Prod.mk.injEq, and_true]
    simp [abL]; omega
/-- As many fields as there are, and what comes of them. -/
theorem many_run (n : Nat) (hn : n ≤ 67) : doneOf (run false start (getL ++ 10 :: (reps n ++ [10]))).2 = decide (n ≤ 64) ∧ errOf (run false start (getL ++ 10 :: (reps n ++ [10]))).2 = if n ≤ 64 then 0 else 3 := by
  rw [get_run]
  by_cases h : n ≤ 64
  · rw [reps_run n getP 15 [] [10] (by simpa using h) (by omega), run_end (by omega)]
    simp [doneOf, errOf, h]
  · obtain ⟨m, rfl⟩ : ∃ m, n = 64 + (m + 1) := ⟨n - 65, by omega⟩
    have hs : reps (64 + (m + 1)) ++ [10] = reps 64 ++ (abL ++ 10 :: (reps m ++ [10])) := by
      have : ∀ a b, reps (a + b) = reps a ++ reps b := by
        intro a b
        induction a with
        | zero => simp [reps]
        | succ a ih => rw [show a + 1 + b = (a + b) + 1 from by omega]; show abL ++ 10 :: reps (a + b) = (abL ++ 10 :: reps a) ++ reps b; rw [ih]; simp
      rw [this]
      show reps 64 ++ (abL ++ 10 :: reps m) ++ [10] = _
      simp
    rw [hs, reps_run 64 getP 15 [] _ (by simp) (by omega)]
    have h := run_whole (resp := false) (p := some getP) (n := 15 + 5 * 64) (fs := [] ++ List.replicate 64 abF) (t := abL) (r := reps m ++ [10]) (by decide) (by simp [abL]) (by decide)
    rw [ended_full (t := own abL) (by decide) (by simp), run_over (s := .bad 3) rfl] at h
    rw [h]
    have : ¬ 64 + (m + 1) ≤ 64 := by omega
    simp [doneOf, errOf]
/-! A field as long as may be. -/
def xs (k : Nat) : Bs := List.replicate k 120
theorem xs_val (k : Nat) : isVal (xs k) = true := by
  unfold isVal xs
  cases k with
  | zero => rfl
  | succ k =>
    have h1 : (List.replicate (k + 1) (120 : UInt8)).all textByte = true := by
      rw [List.all_eq_true]; intro c hc; rw [List.eq_of_mem_replicate hc]; decide
    have h2 : (List.replicate (k + 1) (120 : UInt8)).headD 0 = 120 := rfl
    have h3 : (List.replicate (k + 1) (120 : UInt8)).getLastD 0 = 120 := by
      rw [List.getLastD_eq_getLast?, List.getLast?_replicate]; simp
    rw [h1, h2, h3]
    have h4 : Tk.blank (120 : UInt8) = false := by decide
    rw [h4]
    simp
theorem two_of {a b c d : Value} (h : Value.tuple #[a, b] = Value.tuple #[c, d]) : b = d := by
  injection h with h
  injection h with h
  injection h with _ h
  injection h
theorem fld_x (k : Nat) : (fldOf (txt ([97, 58, 32] ++ xs k))).2 = 0 := by
  have hf : isFld (⟨#[97]⟩ : ByteArray).data.toList (⟨(xs k).toArray⟩ : ByteArray).data.toList = true := by
    have h1 : isTok (⟨#[97]⟩ : ByteArray).data.toList = true := by decide
    have h2 : isVal (⟨(xs k).toArray⟩ : ByteArray).data.toList = true := xs_val k
    unfold isFld; rw [h1, h2]; rfl
  have h := parse_line hf
  have e : (⟨#[97]⟩ ++ ⟨#[58, 32]⟩ ++ ⟨(xs k).toArray⟩ : ByteArray) = txt ([97, 58, 32] ++ xs k) := by
    apply bytes_eq
    rw [line_data]
    rfl
  rw [e, parseVal_of] at h
  have h2 := two_of h
  clear h hf e
  generalize (fldOf (txt ([97, 58, 32] ++ xs k))).2 = z at h2 ⊢
  injection h2 with _ h2
  omega
theorem own_x (k : Nat) : own ([97, 58, 32] ++ xs k) = [97, 58, 32] ++ xs k := by
  unfold own
  rw [if_neg]
  intro h
  cases k with
  | zero => simp [xs] at h
  | succ k =>
    have : ([97, 58, 32] ++ xs (k + 1)).getLast? = some 120 := by
      rw [List.getLast?_append, xs, List.getLast?_replicate]; simp
    rw [this] at h; exact absurd h (by decide)
theorem x_no (k : Nat) : ∀ c ∈ [97, 58, 32] ++ xs k, c ≠ 10 := by
  intro c hc
  rw [List.mem_append] at hc
  rcases hc with hc | hc
  · revert hc; revert c; decide
  · rw [List.eq_of_mem_replicate hc]; decide
theorem long_run (k : Nat) (hk : k ≤ 8205) : (k + 18 + 2 ≤ 8192 → (run false start (getL ++ 10 :: ([97, 58, 32] ++ xs k ++ [10, 10]))).1 = k + 20 ∧ doneOf (run false start (getL ++ 10 :: ([97, 58, 32] ++ xs k ++ [10, 10]))).2 = true ∧ errOf (run false start (getL ++ 10 :: ([97, 58, 32] ++ xs k ++ [10, 10]))).2 = 0) ∧
    (8192 < k + 18 + 2 → (run false start (getL ++ 10 :: ([97, 58, 32] ++ xs k ++ [10, 10]))).1 = 8193 ∧ doneOf (run false start (getL ++ 10 :: ([97, 58, 32] ++ xs k ++ [10, 10]))).2 = false ∧ errOf (run false start (getL ++ 10 :: ([97, 58, 32] ++ xs k ++ [10, 10]))).2 = 3) := by
  have hl : ([97, 58, 32] ++ xs k).length = k + 3 := by simp [xs]
  rw [get_run]
  by_cases h8 : 15 + (k + 3) < 8192
  · have h := run_whole (resp := false) (p := some getP) (n := 15) (fs := []) (t := [97, 58, 32] ++ xs k) (r := [10]) (x_no k) (by rw [hl]; exact h8) (by rw [hl]; simp only [most, Option.isNone_some]; simp; omega)
    rw [own_x, hl, ended_field (by simp) (by simp) (fld_x k)] at h
    rw [show [97, 58, 32] ++ xs k ++ [10, 10] = [97, 58, 32] ++ xs k ++ 10 :: [10] from rfl, h]
    refine ⟨fun h2 => ?_, fun h2 => ?_⟩
    · rw [run_end (by omega)]
      exact ⟨by show 15 + (k + 3 + 1 + 1) = _; omega, rfl, rfl⟩
    · have e : 15 + (k + 3) + 1 = 8192 := by omega
      rw [e, run_cons rfl, step_on, if_pos (by simp [room, most]), run_nil]
      exact ⟨by show 15 + (k + 3 + 1 + (0 + 1)) = _; omega, rfl, rfl⟩
  · have hb : room (some getP) [] 15 < ([97, 58, 32] ++ xs k ++ [10, 10]).length := by rw [List.length_append, hl]; simp [room, most]; omega
    have hr : room (some getP) [] 15 = 8177 := by simp [room, most]
    have h := run_big (resp := false) (b := [97, 58, 32] ++ xs k ++ [10, 10]) (p := some getP) (l := []) (n := 15) (fs := []) (fun c hc => by
      rw [hr, List.take_append_of_le_length (by rw [hl]; omega)] at hc
      exact x_no k c (List.mem_of_mem_take hc)) hb
    rw [h, hr]
    exact ⟨fun h2 => by omega, fun _ => ⟨rfl, rfl, rfl⟩⟩
end Go.Proofs.YtlnlihkljnkhiaaDoor.Hd
