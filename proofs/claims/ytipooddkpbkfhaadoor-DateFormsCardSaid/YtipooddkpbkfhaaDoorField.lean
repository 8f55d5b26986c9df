/-
  The closures of date.fieldReader that read a number and a name: what each returns, and what it stores. Conditions: as for cutNumber and cutName.
-/
import Derived.Test.YtipooddkpbkfhaaDoorCut
import Derived.Deep.RegionHeld3
import Derived.Deep.RegionWith
import Derived.OneCell
import Derived.Laws.Rows
namespace Go.Proofs.YtipooddkpbkfhaaDoor.Dt
open Go.RowKit

def ints (R : List Int) : Array Value := (R.map fun n => Value.int .i64 n).toArray
theorem ints_set (R : List Int) (i : Nat) (n : Int) : (ints R).setIfInBounds i (.int .i64 n) = ints (R.set i n) := by
  unfold ints
  rw [List.setIfInBounds_toArray, List.map_set]
theorem ints_at {w : World} {g : Nat} {R : List Int} {t : TypeId} (h : w.heap[g]? = some (.cells (ints R) t (0, 0))) (i : Nat) (hi : i < R.length) : w.cell? ⟨g, i, none⟩ = some (.int .i64 (R.getD i 0)) := by
  simp [World.cell?, h, ints, hi]
theorem ints_free {w : World} {g : Nat} {R : List Int} {t : TypeId} (h : w.heap[g]? = some (.cells (ints R) t (0, 0))) (i : Nat) : w.frozen? ⟨g, i, none⟩ = false := by
  simp [World.frozen?, h]

/-- What 'read' has laid for its closures, and how far it has come: the reading R, the rest s. -/
structure FInv (w0 : World) (b : Nat) (R : List Int) (s : Bs) (w : World) : Prop where
  base : b = w0.heap.size
  len : R.length = 7
  few : s.length ≤ 1000000
  vs : w.heap[b]? = some (.cells #[.string (B s)] 9 (0, 0))
  vq : w.heap[b + 1]? = some (.cells (ints [0, 0, 0, 0, 0, 0, 0]) 34 (0, 0))
  vr : w.heap[b + 2]? = some (.cells (ints R) 34 (0, 0))
  pr : w.heap[b + 3]? = some (.cells #[.pointer (some ⟨b + 2, 0, none⟩)] 47 (0, 0))
  ps : w.heap[b + 4]? = some (.cells #[.pointer (some ⟨b, 0, none⟩)] 48 (0, 0))
  fn : w.heap[b + 5]? = some (.cells #[.func (.func 39) #[] #[.pointer (some ⟨b + 4, 0, none⟩)]] 56 (0, 0))
  fm : w.heap[b + 6]? = some (.cells #[.func (.func 41) #[] #[.pointer (some ⟨b + 4, 0, none⟩)]] 58 (0, 0))
  below : Below b w0 w

theorem FInv.drawn {w0 w w' : World} {b n : Nat} {R : List Int} {s : Bs} (h : FInv w0 b R s w) (e : w' = w.drewN n) : FInv w0 b R s w' := by
  subst e
  exact ⟨h.base, h.len, h.few, h.vs, h.vq, h.vr, h.pr, h.ps, h.fn, h.fm, ⟨h.below.os, h.below.tape, h.below.output, h.below.size, h.below.block⟩⟩
theorem FInv.setR {w0 w : World} {b : Nat} {R : List Int} {s : Bs} (h : FInv w0 b R s w) (i : Nat) (n : Int) : FInv w0 b (R.set i n) s (w.setCell ⟨b + 2, i, none⟩ (.int .i64 n)) := by
  refine ⟨h.base, by simp [h.len], h.few, ?_, ?_, ?_, ?_, ?_, ?_, ?_, h.below.setCell (by show b ≤ b + 2; omega) _⟩
  · rw [heap_setCell_other _ _ _ _ (by show b ≠ b + 2; omega)]; exact h.vs
  · rw [heap_setCell_other _ _ _ _ (by show b + 1 ≠ b + 2; omega)]; exact h.vq
  · rw [heap_setCell_same _ _ _ _ _ _ h.vr, ints_set]
  · rw [heap_setCell_other _ _ _ _ (by show b + 3 ≠ b + 2; omega)]; exact h.pr
  · rw [heap_setCell_other _ _ _ _ (by show b + 4 ≠ b + 2; omega)]; exact h.ps
  · rw [heap_setCell_other _ _ _ _ (by show b + 5 ≠ b + 2; omega)]; exact h.fn
  · rw [heap_setCell_other _ _ _ _ (by show b + 6 ≠ b + 2; omega)]; exact h.fm
theorem FInv.setS {w0 w : World} {b : Nat} {R : List Int} {s : Bs} (h : FInv w0 b R s w) (t : Bs) (ht : t.length ≤ s.length) : FInv w0 b R t (w.setCell ⟨b, 0, none⟩ (.string (B t))) := by
  refine ⟨h.base, h.len, Nat.le_trans ht h.few, ?_, ?_, ?_, ?_, ?_, ?_, ?_, h.below.setCell (by show b ≤ b; omega) _⟩
  · exact one_setCell h.vs
  · rw [heap_setCell_other _ _ _ _ (by show b + 1 ≠ b; omega)]; exact h.vq
  · rw [heap_setCell_other _ _ _ _ (by show b + 2 ≠ b; omega)]; exact h.vr
  · rw [heap_setCell_other _ _ _ _ (by show b + 3 ≠ b; omega)]; exact h.pr
  · rw [heap_setCell_other _ _ _ _ (by show b + 4 ≠ b; omega)]; exact h.ps
  · rw [heap_setCell_other _ _ _ _ (by show b + 5 ≠ b; omega)]; exact h.fn
  · rw [heap_setCell_other _ _ _ _ (by show b + 6 ≠ b; omega)]; exact h.fm

/-- What a field's reading answers, stores into the reading, and leaves. -/
def put (i : Nat) (R : List Int) (s : Bs) (r : Option (Int × Bs)) : Bool × List Int × Bs := match r with
  | some (n, t) => (true, R.set i n, t)
  | none => (false, R.set i 0, s)
def numF (i k : Nat) (R : List Int) (s : Bs) : Bool × List Int × Bs := put i R s (cutN s k)
def nameF (i : Nat) (names : List Bs) (R : List Int) (s : Bs) : Bool × List Int × Bs := put i R s ((pick s names).map fun x => ((x.1 : Int), x.2))
theorem cutN_le {s t : Bs} {k : Nat} {n : Int} (h : cutN s k = some (n, t)) : t.length ≤ s.length := by
  unfold cutN at h
  split at h
  · cases h
  · split at h
    · injection h with h; injection h with _ h; subst h; simp
    · cases h

theorem put_eq (i : Nat) (R : List Int) (s : Bs) (r : Option (Int × Bs)) : ∃ n t ok, put i R s r = (ok, R.set i n, t) ∧ cutRes s r = .tuple #[.int .i64 n, .string (B t), .bool ok] ∧ ((∀ n' t', r = some (n', t') → t'.length ≤ s.length) → t.length ≤ s.length) := by
  match r with
  | some (n, t) => exact ⟨n, t, true, rfl, rfl, fun h => h n t rfl⟩
  | none => exact ⟨0, s, false, rfl, rfl, fun _ => Nat.le_refl _⟩
theorem pick_le {s : Bs} : ∀ {names : List Bs} {j : Nat} {t : Bs}, pick s names = some (j, t) → t.length ≤ s.length
  | [], _, _, h => by cases h
  | n :: r, j, t, h => by
    unfold pick at h
    split at h
    · injection h with h; injection h with _ h; subst h
      unfold Lib.trimPrefix; split <;> simp
    · cases hr : pick s r with
      | none => rw [hr] at h; cases h
      | some p =>
        rw [hr] at h
        injection h with h
        have h2 : p.2 = t := by injection h
        have := pick_le (s := s) (names := r) (j := p.1) (t := p.2) hr
        rw [← h2]; exact this

set_option maxHeartbeats 2000000 in
theorem number_any (w0 w : World) (b i k : Nat) (R : List Int) (s : Bs) (hi : i < 7) (hk : k ≤ 4) (h : FInv w0 b R s w) :
    Calls Tryd.prog 39 #[.pointer (some ⟨b + 2, i, none⟩), .int .i64 (k : Int), .pointer (some ⟨b + 4, 0, none⟩)] w
      fun e w' => e = .returned (.bool (numF i k R s).1) ∧ FInv w0 b (numF i k R s).2.1 (numF i k R s).2.2 w' := by
  have c4 := cell_of_one h.ps
  have c0 := cell_of_one h.vs
  have f0 := free_of_one h.vs
  have cR := ints_at h.vr i (by rw [h.len]; exact hi)
  have fR := ints_free h.vr i
  have hsz : (B s).size ≤ maxLen := by rw [B_size]; have := h.few; unfold maxLen; omega
  obtain ⟨x, hx⟩ : ∃ x, x = R.getD i 0 := ⟨_, rfl⟩
  rw [← hx] at cR
  obtain ⟨n, t, ok, hF, hC, hle⟩ := put_eq i R s (cutN s k)
  have hle' := hle fun n' t' e => cutN_le e
  obtain ⟨S, hS⟩ : ∃ S, S = B s := ⟨_, rfl⟩
  rw [← hS] at c0 hsz
  have HSZ := Lib.hid hsz
  have HK := Lib.hid hk
  have HC := Lib.hid (show cutRes S.data.toList (cutN S.data.toList k) = .tuple #[.int .i64 n, .string (B t), .bool ok] from by rw [hS, B_list]; exact hC)
  have HF := Lib.hid (show numF i k R s = (ok, R.set i n, t) from hF)
  have HW := Lib.hid ((h.setR i n).setS t hle')
  have e4 : b + 2 ≠ b + 4 := by omega
  have e0 : b + 2 ≠ b := by omega
  have e04 : b ≠ b + 4 := by omega
  obtain ⟨T, hT⟩ : ∃ T, T = B t := ⟨_, rfl⟩
  rw [← hT] at HC HW
  clear h hS hsz hk hx hi hF hC hle hle' hT
  go_enter Tryd.func39, Tryd.ntmps39
  go_wp2_with fail
  go_region_with (first | (go_at_call 40; refine (cutNumber_any _ _ _ HK.out HSZ.out).mono ?_; rintro e w' ⟨rfl, m, rfl⟩; rw [HC.out]))
  all_goals
    go_wp2_with fail
    go_ret
    exact ⟨by rw [HF.out]; rfl, by rw [HF.out]; exact HW.out.drawn rfl⟩

set_option maxHeartbeats 2000000 in
theorem name_any (w0 w : World) (b i : Nat) (R : List Int) (s : Bs) (names : List Bs) (cnt : Int) (fv : Value) (hi : i < 7) (h : FInv w0 b R s w)
    (hcall : ∀ w' : World, w'.heap = w.heap → Calls Tryd.prog 42 #[.string (B s), .int .i64 cnt, fv] w' fun e w'' => e = .returned (nameRes s (pick s names)) ∧ w' = w'') :
    Calls Tryd.prog 41 #[.pointer (some ⟨b + 2, i, none⟩), .int .i64 cnt, fv, .pointer (some ⟨b + 4, 0, none⟩)] w
      fun e w' => e = .returned (.bool (nameF i names R s).1) ∧ FInv w0 b (nameF i names R s).2.1 (nameF i names R s).2.2 w' := by
  have c4 := cell_of_one h.ps
  have c0 := cell_of_one h.vs
  have f0 := free_of_one h.vs
  have cR := ints_at h.vr i (by rw [h.len]; exact hi)
  have fR := ints_free h.vr i
  obtain ⟨x, hx⟩ : ∃ x, x = R.getD i 0 := ⟨_, rfl⟩
  rw [← hx] at cR
  obtain ⟨n, t, ok, hF, hC, hle⟩ := put_eq i R s ((pick s names).map fun x => ((x.1 : Int), x.2))
  have hle' := hle fun n' t' e => by
    cases hp : pick s names with
    | none => rw [hp] at e; cases e
    | some p =>
      rw [hp] at e
      injection e with e
      have h2 : p.2 = t' := by injection e
      rw [← h2]; exact pick_le (j := p.1) hp
  have HC := Lib.hid (show ∀ w' : World, w'.heap = w.heap → Calls Tryd.prog 42 #[.string (B s), .int .i64 cnt, fv] w' fun e w'' => e = .returned (.tuple #[.int .i64 n, .string (B t), .bool ok]) ∧ w' = w'' from by rw [← hC]; exact hcall)
  have HF := Lib.hid (show nameF i names R s = (ok, R.set i n, t) from hF)
  have HW := Lib.hid ((h.setR i n).setS t hle')
  have e4 : b + 2 ≠ b + 4 := by omega
  have e0 : b + 2 ≠ b := by omega
  have e04 : b ≠ b + 4 := by omega
  obtain ⟨T, hT⟩ : ∃ T, T = B t := ⟨_, rfl⟩
  rw [← hT] at HC HW
  obtain ⟨S, hS⟩ : ∃ S, S = B s := ⟨_, rfl⟩
  rw [← hS] at HC c0
  clear h hx hi hF hC hle hle' hT hcall hS
  go_enter Tryd.func41, Tryd.ntmps41
  go_wp2_with fail
  go_region_with (first | (go_at_call 42; refine (HC.out _ (by rfl)).mono ?_; rintro e w' ⟨rfl, rfl⟩))
  all_goals
    go_wp2_with fail
    go_ret
    exact ⟨by rw [HF.out]; rfl, by rw [HF.out]; exact HW.out.drawn (n := 1) rfl⟩
end Go.Proofs.YtipooddkpbkfhaaDoor.Dt
