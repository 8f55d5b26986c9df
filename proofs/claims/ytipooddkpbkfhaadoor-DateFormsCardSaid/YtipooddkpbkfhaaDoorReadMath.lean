/-
  How a text is read by a form: a plain function on bytes; and date.fieldReader: what it lays. No condition.
-/
import Derived.Test.YtipooddkpbkfhaaDoorReadsE
import Derived.Laws.EntriesVeiled
namespace Go.Proofs.YtipooddkpbkfhaaDoor.Dt
open Go.RowKit

def zeros : List Int := [0, 0, 0, 0, 0, 0, 0]
def readF : Bs → List Int → Bs → Bool × List Int
  | [], R, s => (s.isEmpty, R)
  | [c], R, s => if c = 37 then (false, zeros) else match s with
    | [] => (false, zeros)
    | x :: t => if x = c then (t.isEmpty, R) else (false, zeros)
  | c :: l :: f, R, s => if c = 37 then (if (fieldF l R s).1 = true then readF f (fieldF l R s).2.1 (fieldF l R s).2.2 else (false, zeros)) else match s with
    | [] => (false, zeros)
    | x :: t => if x = c then readF (l :: f) R t else (false, zeros)
def okForm : Bs → Bool
  | [] => true
  | [c] => c != 37
  | c :: l :: f => if c = 37 then letters.contains l && okForm f else okForm (l :: f)

theorem readF_field {l : UInt8} {f : Bs} (R : List Int) (s : Bs) : readF (37 :: l :: f) R s = if (fieldF l R s).1 = true then readF f (fieldF l R s).2.1 (fieldF l R s).2.2 else (false, zeros) := by
  simp [readF]
theorem readF_none {c : UInt8} {f : Bs} (R : List Int) (hc : c ≠ 37) : readF (c :: f) R [] = (false, zeros) := by
  cases f <;> simp [readF, hc]
theorem readF_hit {c : UInt8} {f : Bs} (R : List Int) (t : Bs) (hc : c ≠ 37) : readF (c :: f) R (c :: t) = readF f R t := by
  cases f with
  | nil => simp [readF, hc]
  | cons l f => simp [readF, hc]
theorem readF_miss {c x : UInt8} {f : Bs} (R : List Int) (t : Bs) (hc : c ≠ 37) (hx : x ≠ c) : readF (c :: f) R (x :: t) = (false, zeros) := by
  cases f <;> simp [readF, hc, hx]
theorem okForm_field {f : Bs} (h : okForm (37 :: f) = true) : ∃ l r, f = l :: r ∧ l ∈ letters ∧ okForm r = true := by
  cases f with
  | nil => simp [okForm] at h
  | cons l r =>
    rw [okForm, if_pos rfl, Bool.and_eq_true] at h
    exact ⟨l, r, rfl, by simpa using h.1, h.2⟩
theorem okForm_plain {c : UInt8} {f : Bs} (hc : c ≠ 37) (h : okForm (c :: f) = true) : okForm f = true := by
  cases f with
  | nil => rfl
  | cons l r => rwa [okForm, if_neg hc] at h

set_option maxHeartbeats 1000000 in
theorem fieldReader_at (w : World) (p q : Addr) (n : Nat) (hn : w.heap.size = n) :
    Calls Tryd.prog 35 #[.pointer (some p), .pointer (some q)] w fun e w' =>
      e = .returned (.func (.func 43) #[] #[.pointer (some ⟨n + 3, 0, none⟩), .pointer (some ⟨n, 0, none⟩), .pointer (some ⟨n + 2, 0, none⟩), .pointer (some ⟨n + 1, 0, none⟩)]) ∧
      w' = (((w.alloc (.cells #[.pointer (some p)] 47)).alloc (.cells #[.pointer (some q)] 48)).alloc (.cells #[.func (.func 39) #[] #[.pointer (some ⟨n + 1, 0, none⟩)]] 56)).alloc
        (.cells #[.func (.func 41) #[] #[.pointer (some ⟨n + 1, 0, none⟩)]] 58) := by
  subst hn
  go_enter Tryd.func35, Tryd.ntmps35
  go_wp2_with fail
  go_ret
  exact ⟨rfl, rfl⟩
end Go.Proofs.YtipooddkpbkfhaaDoor.Dt
