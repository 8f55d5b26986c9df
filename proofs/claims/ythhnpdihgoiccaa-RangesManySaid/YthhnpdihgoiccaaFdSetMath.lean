/-
  What Set and Del leave, asked by Get: plain functions. No program, no condition.
-/
import Derived.Test.YthhnpdihgoiccaaFdMath
namespace Go.Proofs.Ythhnpdihgoiccaa.Fd
open Tk

/-- The fields behind Set. -/
def setF (fs : List Fl) (nm val : ByteArray) : List Fl := del fs nm.data.toList ++ [(nm, val)]
theorem alike_refl (a : Bs) : alike a a = true := by unfold alike; simp
theorem has_other {nm other : Bs} (h : alike nm other = false) {f : Fl} (hf : has nm f = true) : has other f = false := by
  unfold has alike at *
  rw [beq_iff_eq] at hf
  rw [hf]; exact h
theorem sel_del (fs : List Fl) (nm : Bs) : sel (del fs nm) nm = [] := by
  unfold sel del
  rw [List.filter_filter]
  have e : (fs.filter fun a => has nm a && !has nm a) = [] := by
    rw [List.filter_eq_nil_iff]; intro a _; cases has nm a <;> simp
  rw [e]; rfl
theorem sel_del_other (fs : List Fl) {nm other : Bs} (h : alike nm other = false) : sel (del fs nm) other = sel fs other := by
  unfold sel del
  rw [List.filter_filter]
  congr 1
  apply List.filter_congr
  intro a _
  cases ha : has nm a with
  | false => simp
  | true => rw [has_other h ha]; rfl
theorem sel_set (fs : List Fl) (nm val : ByteArray) : sel (setF fs nm val) nm.data.toList = [val.data.toList] := by
  have h := sel_del fs nm.data.toList
  unfold setF
  unfold sel at h ⊢
  rw [List.filter_append, List.map_append, h]
  have e : has nm.data.toList (nm, val) = true := alike_refl _
  simp [e]
theorem sel_set_other (fs : List Fl) (nm val : ByteArray) {other : Bs} (h : alike nm.data.toList other = false) : sel (setF fs nm val) other = sel fs other := by
  have h2 := sel_del_other fs h
  unfold setF
  unfold sel at h2 ⊢
  rw [List.filter_append, List.map_append, h2]
  have e : has other (nm, val) = false := h
  simp [e]
theorem del_del (fs : List Fl) (nm : Bs) : del (del fs nm) nm = del fs nm := by
  unfold del; rw [List.filter_filter]; congr 1; funext a; simp
theorem del_set (fs : List Fl) (nm val : ByteArray) : del (setF fs nm val) nm.data.toList = del fs nm.data.toList := by
  have h := del_del fs nm.data.toList
  unfold setF
  unfold del at h ⊢
  rw [List.filter_append, h]
  have e : has nm.data.toList (nm, val) = true := alike_refl _
  simp [e]
theorem tot_del (fs : List Fl) (nm : Bs) : tot (del fs nm) ≤ tot fs := tot_filter _ fs
theorem tot_set (fs : List Fl) (nm val : ByteArray) : tot (setF fs nm val) ≤ tot fs + nm.size + val.size + 1 := by
  unfold setF; rw [tot_append]
  have := tot_del fs nm.data.toList
  have e : tot [(nm, val)] = nm.size + val.size + 1 := by simp [tot]
  omega
theorem get_set (fs : List Fl) (nm val : ByteArray) : getT (setF fs nm val) nm.data.toList = val.data.toList ∧ getN (setF fs nm val) nm.data.toList = 1 := by
  unfold getT getN; rw [sel_set]; exact ⟨rfl, rfl⟩
theorem get_del (fs : List Fl) (nm : Bs) : getT (del fs nm) nm = [] ∧ getN (del fs nm) nm = 0 := by
  unfold getT getN; rw [sel_del]; exact ⟨rfl, rfl⟩
theorem get_set_other (fs : List Fl) (nm val : ByteArray) {other : Bs} (h : alike nm.data.toList other = false) : getT (setF fs nm val) other = getT fs other ∧ getN (setF fs nm val) other = getN fs other := by
  unfold getT getN; rw [sel_set_other fs nm val h]; exact ⟨rfl, rfl⟩
theorem get_del_other (fs : List Fl) {nm other : Bs} (h : alike nm other = false) : getT (del fs nm) other = getT fs other ∧ getN (del fs nm) other = getN fs other := by
  unfold getT getN; rw [sel_del_other fs h]; exact ⟨rfl, rfl⟩
end Go.Proofs.Ythhnpdihgoiccaa.Fd
