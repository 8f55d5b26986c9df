/-
  Texts that the laws' proofs stand on, 1 of them in one file; each one's head says what it proves and under which condition.
-/
import Derived.Test.YtcolnidgembniaaGreatDoorMsAllP10
import Derived.Test.YtcolnidgembniaaGreatDoorMsAllP13
import Derived.Test.YtcolnidgembniaaGreatDoorMsAllP4
/-
  What the reading of a response comes to whose body's length nothing tells. No program, no condition but that the body is no bigger than may be.
-/
namespace Go.Proofs.YtcolnidgembniaaGreatDoor.Ms
open Go.RowKit Go.Proofs.YtcolnidgembniaaGreatDoor.Tk Go.Proofs.YtcolnidgembniaaGreatDoor.Fd Go.Proofs.YtcolnidgembniaaGreatDoor.Hd
set_option linter.unusedVariables false

def okL (d : UInt8) : Bs := [72, 84, 84, 80, 47, 49, 46, d, 32, 50, 48, 48, 32, 79, 75]
def okS (d : UInt8) : Bs := okL d ++ [10, 10]
def okP (m : Int) : Hd.Parts := ⟨m, 200, ⟨#[79, 75]⟩, ⟨#[]⟩⟩
def getK : ByteArray := ⟨#[71, 69, 84]⟩
def headK : ByteArray := ⟨#[72, 69, 65, 68]⟩
/-- A status line's digit and what it is read as. -/
def Digit (d : UInt8) (m : Int) : Prop := d = 48 ∧ m = 0 ∨ d = 49 ∧ m = 1
theorem ok_first {d : UInt8} {m : Int} (h : Digit d m) : firstOf true (txt (okL d)) = (okP m, 0) := by
  rcases h with ⟨rfl, rfl⟩ | ⟨rfl, rfl⟩
  · kernel_rfl
  · kernel_rfl
theorem ok_line {d : UInt8} {m : Int} (h : Digit d m) : (∀ c ∈ okL d, c ≠ 10) ∧ own (okL d) = okL d := by
  rcases h with ⟨rfl, rfl⟩ | ⟨rfl, rfl⟩ <;> exact ⟨by decide, by decide⟩
theorem ok_run {d : UInt8} {m : Int} (h : Digit d m) (x : Bs) : Hd.run true Hd.start (okS d ++ x) = (17, .done (okP m) []) := by
  have h1 := run_whole (resp := true) (p := none) (n := 0) (fs := []) (t := okL d) (r := 10 :: x) (ok_line h).1 (by simp [okL]) (by simp [okL, most])
  have e : ended true none (0 + (okL d).length + 1) [] (own (okL d)) = .on (some (okP m)) [] 16 [] := by
    rw [(ok_line h).2]
    have h2 := ended_first (resp := true) (t := okL d) (n := 16) (fs := []) (by simp [okL]) (by rw [ok_first h])
    rw [ok_first h] at h2
    exact h2
  rw [e, run_end (by omega)] at h1
  have h3 : okS d ++ x = okL d ++ 10 :: (10 :: x) := by simp [okS]
  rw [h3]
  exact h1
theorem ok_drop (d : UInt8) (x : Bs) : (okS d ++ x).drop 17 = x := rfl
theorem ok_length (d : UInt8) : (okS d).length = 17 := rfl
theorem get_list : getK.toList = [71, 69, 84] := by kernel_rfl
theorem head_list : headK.toList = [72, 69, 65, 68] := by kernel_rfl
theorem told_get (m : Int) : resT getK (okP m) [] = (3, 0, 0) := by
  unfold resT
  rw [Fr.resVal_some (by show ¬ (getK.toList = [72, 69, 65, 68] ∨ (200 : Int) < 200 ∨ (200 : Int) = 204 ∨ (200 : Int) = 304); rw [get_list]; decide)]
  rfl
theorem told_head (m : Int) : resT headK (okP m) [] = (0, 0, 0) := by
  unfold resT
  rw [Fr.resVal_none (.inl head_list)]
theorem opn_run (x : Bs) (hx : x.length ≤ 1048576) : Fr.run (.opn 1048576) x = (x, x.length, .opn (1048576 - x.length)) := by
  have h := Fr.run_opn x [] 1048576 hx
  rw [List.append_nil, Fr.run_nil] at h
  simpa using h
theorem made_opn : Fr.made 3 0 = some (.opn 1048576) := rfl
theorem made_done : Fr.made 0 0 = some .done := rfl
theorem ok_open {d : UInt8} {m : Int} (h : Digit d m) (x : Bs) (hx : x.length ≤ 1048576) : msgOf true (resT getK) (okS d ++ x) false = failed 11 := by
  unfold msgOf
  rw [ok_run h]
  show behindHead (resT getK (okP m) []) (okP m) [] 17 (okS d ++ x) false = _
  rw [told_get]
  unfold behindHead
  rw [ok_drop, bodyOf_some made_opn, opn_run x hx]
  rfl
theorem ok_whole {d : UInt8} {m : Int} (h : Digit d m) (x : Bs) (hx : x.length ≤ 1048576) : msgOf true (resT getK) (okS d ++ x) true = ⟨0, okP m, [], x, 17 + x.length⟩ := by
  unfold msgOf
  rw [ok_run h]
  show behindHead (resT getK (okP m) []) (okP m) [] 17 (okS d ++ x) true = _
  rw [told_get]
  unfold behindHead
  rw [ok_drop, bodyOf_some made_opn, opn_run x hx]
  rfl
theorem ok_none {d : UInt8} {m : Int} (h : Digit d m) (x : Bs) : msgOf true (resT headK) (okS d ++ x) false = ⟨0, okP m, [], [], 17⟩ := by
  unfold msgOf
  rw [ok_run h]
  show behindHead (resT headK (okP m) []) (okP m) [] 17 (okS d ++ x) false = _
  rw [told_head]
  unfold behindHead
  rw [ok_drop, bodyOf_some made_done, Fr.run_over rfl]
  rfl
/-- What '[]byte(s)' lays is the call's own. -/
theorem own_bytes (w : World) (s : ByteArray) (c : Nat) (hc : s.size ≤ c) (hm : c ≤ maxLen) :
    Fr.Own (w.drew.alloc (.cells (bytesRow s c) 5 ((bytesRow s c).size, (bytesRow s c).size + 1))) w.heap.size (.slice (some ⟨w.heap.size, 0, none⟩) s.data.toList.length c) s.data.toList := by
  have hl : s.data.toList.length = s.size := by simp
  have hs : s.data.size = s.size := rfl
  have hsz : (bytesRow s c).size = c := by unfold bytesRow; rw [Array.size_append, Array.size_map, Array.size_replicate]; omega
  refine .inr ⟨w.heap.size, c, rfl, Nat.le_refl _, by simp, by rw [hl]; exact hc, hm, fun j hj => ⟨?_, ?_⟩, Tk.holds_new w.drew s c _ _⟩
  · have hB : (w.drew.alloc (.cells (bytesRow s c) 5 ((bytesRow s c).size, (bytesRow s c).size + 1))).heap[w.heap.size]? = some (.cells (bytesRow s c) 5 ((bytesRow s c).size, (bytesRow s c).size + 1)) := new_block w.drew _
    rw [Lib.cell_of_heap hB, Array.getElem?_eq_getElem (by omega)]; rfl
  · have h := World.frozen?_alloc_mark w.drew (bytesRow s c) 5 (bytesRow s c).size ((bytesRow s c).size + 1) j
    refine h.trans ?_
    simp; omega
end Go.Proofs.YtcolnidgembniaaGreatDoor.Ms
