/-
  What Strip takes away: plain functions. No program, no condition.
-/
import Derived.Test.YtacnlohfipcbdaaDoorFdTokMath
import Derived.Test.YtacnlohfipcbdaaDoorFdKeep
namespace Go.Proofs.YtacnlohfipcbdaaDoor.Fd
open Tk

/-- The names that are for one connection alone, as the program has them, and in small letters. -/
def sevenU : List Bs := [[67, 111, 110, 110, 101, 99, 116, 105, 111, 110], [75, 101, 101, 112, 45, 65, 108, 105, 118, 101], [80, 114, 111, 120, 121, 45, 67, 111, 110, 110, 101, 99, 116, 105, 111, 110], [84, 69], [84, 114, 97, 105, 108, 101, 114], [84, 114, 97, 110, 115, 102, 101, 114, 45, 69, 110, 99, 111, 100, 105, 110, 103], [85, 112, 103, 114, 97, 100, 101]]
def sevenL : List Bs := [[99, 111, 110, 110, 101, 99, 116, 105, 111, 110], [107, 101, 101, 112, 45, 97, 108, 105, 118, 101], [112, 114, 111, 120, 121, 45, 99, 111, 110, 110, 101, 99, 116, 105, 111, 110], [116, 101], [116, 114, 97, 105, 108, 101, 114], [116, 114, 97, 110, 115, 102, 101, 114, 45, 101, 110, 99, 111, 100, 105, 110, 103], [117, 112, 103, 114, 97, 100, 101]]
def connU : Bs := [67, 111, 110, 110, 101, 99, 116, 105, 111, 110]
def connL : Bs := [99, 111, 110, 110, 101, 99, 116, 105, 111, 110]
theorem seven_low : sevenU.map lower = sevenL := by decide +kernel
theorem sevenL_low : sevenL.map lower = sevenL := by decide +kernel
theorem conn_low : lower connU = lower connL := by decide +kernel
/-- The names that Connection's text lists; none, if one is no token. -/
def listed (fs : List Fl) : List Bs := match namesOf (getT fs connL) with
  | none => []
  | some ls => ls
def gone (fs : List Fl) : List Bs := listed fs ++ sevenL
def stripF (fs : List Fl) : List Fl := keepF fs (gone fs)

theorem has_congr {a b : Bs} (h : lower a = lower b) (f : Fl) : has a f = has b f := by unfold has alike; rw [h]
theorem getT_congr {a b : Bs} (h : lower a = lower b) (fs : List Fl) : getT fs a = getT fs b := by
  unfold getT sel
  rw [show has a = has b from funext (has_congr h)]
theorem names_low {t : Bs} {ls : List Bs} (h : namesOf t = some ls) : ls.map lower = ls := by
  unfold namesOf at h
  split at h
  · cases h
  · split at h
    · injection h with h; subst h; rw [List.map_map]; apply List.map_congr_left; intro x _; exact lower_lower x
    · cases h
theorem listed_low (fs : List Fl) : (listed fs).map lower = listed fs := by
  unfold listed
  split
  · rfl
  · rename_i ls h; exact names_low h
theorem gone_low (fs : List Fl) : (gone fs).map lower = gone fs := by unfold gone; rw [List.map_append, listed_low, sevenL_low]
theorem listed_some {fs : List Fl} {ls : List Bs} (h : namesOf (getT fs connU) = some ls) : listed fs = ls := by
  rw [getT_congr conn_low] at h; unfold listed; rw [h]
theorem listed_none {fs : List Fl} (h : namesOf (getT fs connU) = none) : listed fs = [] := by
  rw [getT_congr conn_low] at h; unfold listed; rw [h]
theorem strip_prog (fs : List Fl) : keepF fs ((listed fs ++ sevenU).map lower) = stripF fs := by
  unfold stripF gone; rw [List.map_append, listed_low, seven_low]
theorem listed_length (fs : List Fl) : (listed fs).length ≤ 2 * tot fs + 1 := by
  have hg := getT_length fs connL
  unfold listed
  split
  · simp
  · rename_i ls h; have := names_length h; omega
theorem listed_piece (fs : List Fl) : ∀ x ∈ listed fs, x.length ≤ 2 * tot fs := by
  have hg := getT_length fs connL
  unfold listed
  split
  · simp
  · rename_i ls h; intro x hx; have := names_piece h x hx; omega

/-- One name after another taken away. -/
def delAll (fs : List Fl) (ns : List Bs) : List Fl := ns.foldl del fs
theorem delAll_next (fs : List Fl) (ns : List Bs) (k : Nat) (h : k < ns.length) : delAll fs (ns.take (k + 1)) = del (delAll fs (ns.take k)) ns[k] := by
  unfold delAll; rw [take_next ns k h, List.foldl_append]; rfl
theorem delAll_filter (ns : List Bs) : ∀ fs : List Fl, delAll fs ns = fs.filter fun f => ns.all fun n => !has n f := by
  induction ns with
  | nil => intro fs; exact (List.filter_eq_self.2 (fun _ _ => rfl)).symm
  | cons n r ih =>
    intro fs
    show delAll (del fs n) r = _
    rw [ih]
    unfold del
    rw [List.filter_filter]
    congr 1
    funext f
    rw [List.all_cons, Bool.and_comm]
theorem tot_delAll (ns : List Bs) (fs : List Fl) : tot (delAll fs ns) ≤ tot fs := by rw [delAll_filter]; exact tot_filter _ fs
theorem all_not (ns : List Bs) (h : ns.map lower = ns) (f : Fl) : (ns.all fun n => !has n f) = !ns.contains (lower f.1.data.toList) := by
  induction ns with
  | nil => rfl
  | cons n r ih =>
    rw [List.map_cons] at h
    injection h with h1 h2
    rw [List.all_cons, List.contains_cons, ih h2, Bool.not_or]
    congr 2
    unfold has alike; rw [h1]
theorem keep_comm (fs : List Fl) (a b : List Bs) : keepF fs (a ++ b) = keepF fs (b ++ a) := by
  unfold keepF
  congr 1
  funext f
  congr 1
  rw [Bool.eq_iff_iff]
  simp only [List.contains_iff_mem, List.mem_append]
  exact Or.comm
theorem strip_ref (fs : List Fl) : delAll fs (sevenL ++ listed fs) = stripF fs := by
  rw [delAll_filter]
  unfold stripF gone
  rw [keep_comm]
  unfold keepF
  congr 1
  funext f
  exact all_not _ (by rw [List.map_append, listed_low, sevenL_low]) f

theorem mem_strip {fs : List Fl} {f : Fl} (h : f ∈ stripF fs) : (gone fs).contains (lower f.1.data.toList) = false := by
  unfold stripF keepF at h
  rw [List.mem_filter] at h
  simpa using h.2
theorem strip_none {fs : List Fl} {nm : Bs} (h : lower nm ∈ gone fs) : sel (stripF fs) nm = [] := by
  unfold sel
  have e : (stripF fs).filter (has nm) = [] := by
    rw [List.filter_eq_nil_iff]
    intro f hf hb
    have h1 := mem_strip hf
    unfold has alike at hb
    rw [beq_iff_eq] at hb
    rw [hb, List.contains_eq_mem, decide_eq_false_iff_not] at h1
    exact h1 h
  rw [e]; rfl
theorem strip_get {fs : List Fl} {nm : Bs} (h : lower nm ∈ sevenL) : getT (stripF fs) nm = [] ∧ getN (stripF fs) nm = 0 := by
  have := strip_none (fs := fs) (nm := nm) (by unfold gone; exact List.mem_append_right _ h)
  unfold getT getN; rw [this]; exact ⟨rfl, rfl⟩
theorem strip_strip (fs : List Fl) : stripF (stripF fs) = stripF fs := by
  have h1 : listed (stripF fs) = [] := by
    unfold listed
    rw [(strip_get (fs := fs) (nm := connL) (by decide +kernel)).1]
    rfl
  have h2 : gone (stripF fs) = sevenL := by unfold gone; rw [h1]; rfl
  show keepF (stripF fs) (gone (stripF fs)) = _
  rw [h2]
  unfold keepF
  rw [List.filter_eq_self]
  intro f hf
  have h3 := mem_strip hf
  rw [List.contains_eq_mem, decide_eq_false_iff_not] at h3
  rw [Bool.not_eq_true', List.contains_eq_mem, decide_eq_false_iff_not]
  intro h4
  exact h3 (by unfold gone; exact List.mem_append_right _ h4)
theorem tot_strip (fs : List Fl) : tot (stripF fs) ≤ tot fs := tot_filter _ fs
/-- The four fields of the law on Strip. -/
def four : List Fl := [(⟨#[65]⟩, ⟨#[49]⟩), (⟨#[99, 111, 110, 110, 101, 99, 116, 105, 111, 110]⟩, ⟨#[98, 44, 32, 97]⟩), (⟨#[66]⟩, ⟨#[50]⟩), (⟨#[67]⟩, ⟨#[51]⟩)]
theorem strip_four : stripF four = [(⟨#[67]⟩, ⟨#[51]⟩)] := by
  have h : listed four = [[98], [97]] := by
    unfold listed
    rw [show getT four connL = [98] ++ [44, 32] ++ [97] from rfl, names_two (a := [98]) (b := [97]) (by decide) (by decide)]
    rfl
  unfold stripF gone
  rw [h]
  rfl
end Go.Proofs.YtacnlohfipcbdaaDoor.Fd
