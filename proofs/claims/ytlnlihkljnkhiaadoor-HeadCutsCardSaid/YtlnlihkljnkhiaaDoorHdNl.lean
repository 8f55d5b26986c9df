/-
  Where a line ends; bytes.IndexByte at a byte 10; a whole step of a reader. No condition but what a slice can have.
-/
import Derived.Test.YtlnlihkljnkhiaaDoorHdEnd
namespace Go.Proofs.YtlnlihkljnkhiaaDoor.Hd
open Go.RowKit Go.Proofs.YtlnlihkljnkhiaaDoor.Tk Go.Proofs.YtlnlihkljnkhiaaDoor.Fd
set_option linter.unusedVariables false

/-- Where the first byte 10 stands; the length, if there is none. -/
def nl : Bs → Nat
  | [] => 0
  | c :: r => if c = 10 then 0 else nl r + 1
theorem nl_le (l : Bs) : nl l ≤ l.length := by
  induction l with
  | nil => exact Nat.le_refl _
  | cons c r ih => unfold nl; split <;> simp; omega
theorem nl_at (l : Bs) (h : nl l < l.length) : l[nl l] = 10 := by
  induction l with
  | nil => simp at h
  | cons c r ih =>
    by_cases hc : c = 10
    · simp [nl, hc]
    · have h' : nl r < r.length := by simp [nl, hc] at h; omega
      simp [nl, hc, ih h']
theorem nl_before (l : Bs) : ∀ c ∈ l.take (nl l), c ≠ 10 := by
  induction l with
  | nil => simp
  | cons c r ih =>
    by_cases hc : c = 10
    · simp [nl, hc]
    · simp only [nl, hc, if_false, List.take_succ_cons]
      intro d hd
      rcases List.mem_cons.1 hd with rfl | hd
      · exact hc
      · exact ih d hd
theorem nl_index (l : Bs) : Lib.indexByte l 10 = if nl l < l.length then (nl l : Int) else -1 := by
  induction l with
  | nil => simp [Lib.indexByte, nl]
  | cons c r ih =>
    unfold Lib.indexByte nl
    by_cases hc : c = 10
    · simp [hc]
    · have hb : (c == 10) = false := by simpa using hc
      rw [if_neg hc, hb, ih, List.length_cons]
      by_cases h : nl r < r.length
      · have h2 : nl r + 1 < r.length + 1 := by omega
        have h3 : ((nl r : Int) == -1) = false := by rw [beq_eq_false_iff_ne]; omega
        rw [if_pos h, if_pos h2, h3]; simp
      · have h2 : ¬ nl r + 1 < r.length + 1 := by omega
        rw [if_neg h, if_neg h2]; rfl
theorem nl_none {l : Bs} (h : ¬ nl l < l.length) : ∀ c ∈ l, c ≠ 10 := by
  have := nl_before l
  rwa [List.take_of_length_le (by omega)] at this
/-- The first byte 10 of a beginning, in the whole. -/
theorem nl_split {b : Bs} {m : Nat} (h : nl (b.take m) < (b.take m).length) :
    b = b.take (nl (b.take m)) ++ 10 :: b.drop (nl (b.take m) + 1) ∧ (∀ c ∈ b.take (nl (b.take m)), c ≠ 10) ∧ nl (b.take m) < m ∧ nl (b.take m) < b.length := by
  have h1 := nl_at _ h
  have h2 := nl_before (b.take m)
  have hl : (b.take m).length = min m b.length := List.length_take
  have hb : nl (b.take m) < b.length := by omega
  rw [List.getElem_take] at h1
  rw [List.take_take, Nat.min_eq_left (by omega)] at h2
  refine ⟨?_, h2, by omega, hb⟩
  rw [← h1, List.getElem_cons_drop]
  exact (List.take_append_drop _ _).symm

theorem idx10_any (b off cap : Nat) (l : Bs) (w : World) (h : Holds w b off l) :
    Calls Tryd.prog 33 #[.slice (some ⟨b, off, none⟩) l.length cap, .int .u8 10] w fun e w' => e = .returned (.int .i64 (Lib.indexByte l 10)) ∧ w = w' := by
  refine (Ln.bytes_IndexByte b off l.length cap (l.map fun c => (c.toNat : Int)) 10 w (by simp) ?_).mono ?_
  · intro i hi
    rw [h i hi]
    simp [hi]
  · rintro e w' ⟨rfl, rfl⟩
    rw [Ln.bytesOf_map]
    exact ⟨rfl, rfl⟩

/-- What a step took, and where the reader stands then: the rest is read from there. -/
def Took (resp : Bool) (s : St) (b : Bs) (k : Nat) (st : St) : Prop := 0 < k ∧ k ≤ b.length ∧ run resp s b = (k + (run resp st (b.drop k)).1, (run resp st (b.drop k)).2) ∧ (Good s → Good st)
theorem took_line {resp : Bool} {b : Bs} {p : Option Parts} {l : Bs} {n i : Nat} {fs : List Fl} (hi : i < b.length) (hb : b = b.take i ++ 10 :: b.drop (i + 1)) (h10 : ∀ c ∈ b.take i, c ≠ 10) (hr : i < room p l n) :
    Took resp (.on p l n fs) b (i + 1) (ended resp p (n + (i + 1)) fs (own (l ++ b.take i))) := by
  have hl : (b.take i).length = i := by rw [List.length_take]; omega
  have := run_line (resp := resp) (fs := fs) (r := b.drop (i + 1)) h10 (by rw [hl]; exact hr)
  rw [← hb, hl] at this
  refine ⟨by omega, by omega, this, fun hg => ?_⟩
  have h2 := run_line (resp := resp) (fs := fs) (r := []) h10 (by rw [hl]; exact hr)
  have h3 := good_run resp (b.take i ++ [10]) hg
  rw [h2, run_nil, hl] at h3
  exact h3
theorem took_big {resp : Bool} {b : Bs} {p : Option Parts} {l : Bs} {n : Nat} {fs : List Fl} (h10 : ∀ c ∈ b.take (room p l n), c ≠ 10) (hr : room p l n < b.length) : Took resp (.on p l n fs) b (room p l n + 1) (.bad 3) := by
  refine ⟨by omega, by omega, ?_, fun _ => .inl rfl⟩
  rw [run_big h10 hr, run_over (s := .bad 3) rfl]; rfl
theorem took_part {resp : Bool} {b : Bs} {p : Option Parts} {l : Bs} {n : Nat} {fs : List Fl} (hb : 0 < b.length) (h10 : ∀ c ∈ b, c ≠ 10) (hr : b.length ≤ room p l n) : Took resp (.on p l n fs) b b.length (.on p (l ++ b) (n + b.length) fs) := by
  refine ⟨hb, Nat.le_refl _, ?_, fun hg => ?_⟩
  · rw [run_part h10 hr, List.drop_length, run_nil]; rfl
  · have h3 := good_run resp b hg
    rw [run_part h10 hr] at h3
    exact h3
end Go.Proofs.YtlnlihkljnkhiaaDoor.Hd
