/-
  Texts that the laws' proofs stand on, 10 of them in one file; each one's head says what it proves and under which condition.
-/
import Derived.Test.YtcolnidgembniaaGreatDoorMsAllP3
import Derived.Test.YtcolnidgembniaaGreatDoorMsAllP10
import Derived.Test.YtcolnidgembniaaGreatDoorMsAllP1
import Derived.Test.YtcolnidgembniaaGreatDoorMsAllP4
import Derived.Test.YtcolnidgembniaaGreatDoorMsAllP2
import Derived.Laws.BytesArg
import Derived.Test.YtcolnidgembniaaGreatDoorMsAllP6
import Derived.Deep.QuietTactic
import Derived.BigQuiet
import Derived.RegionTactic
import Derived.Deep.DeepCutAuto
import Derived.Test.YtcolnidgembniaaGreatDoorMsAllP7
/-
  The reference's decoder in memory, and its End. No condition.
-/
namespace Go.Proofs.YtcolnidgembniaaGreatDoor.Fr
open Go.RowKit Go.Proofs.YtcolnidgembniaaGreatDoor.Tk Go.Proofs.YtcolnidgembniaaGreatDoor.Fd Go.Proofs.YtcolnidgembniaaGreatDoor.Hd
set_option linter.unusedVariables false

def rdc (K L S P : Nat) (o : ByteArray) (D : Bool) (E : Nat) : Array Value := #[.int .i64 (K : Int), .int .i64 (L : Int), .int .i64 (S : Int), .int .i64 (P : Int), .string o, .bool D, .int .i64 (E : Int)]
def RBlk (w : World) (g K L S P : Nat) (o : ByteArray) (D : Bool) (E : Nat) : Prop := w.heap[g]? = some (.cells (rdc K L S P o D E) 123 (0, 0))
/-- The reference's decoder at block g. -/
def RDec (w : World) (g : Nat) : St → Prop
  | .len n => RBlk w g 1 n 0 0 ⟨#[]⟩ false 0
  | .opn n => ∃ S, S + n = 1048576 ∧ RBlk w g 3 0 S 0 ⟨#[]⟩ false 0
  | .size m l => ∃ S, S + m = 1048576 ∧ RBlk w g 2 0 S 0 (txt l) false 0
  | .chunk m n => ∃ S, S + m = 1048576 ∧ RBlk w g 2 n S 1 ⟨#[]⟩ false 0
  | .gap m l => ∃ S, S + m = 1048576 ∧ RBlk w g 2 0 S 2 (txt l) false 0
  | .trail m l => ∃ S, S + m = 1048576 ∧ RBlk w g 2 0 S 3 (txt l) false 0
  | .done => ∃ K L S P o, RBlk w g K L S P o true 0
  | .bad e => ∃ K L S P o, RBlk w g K L S P o false e
section
variable {w : World} {g K L S P E : Nat} {o : ByteArray} {D : Bool}
theorem rd0 (h : RBlk w g K L S P o D E) : w.cell? ⟨g, 0, none⟩ = some (.int .i64 (K : Int)) := by unfold RBlk at h; rw [Lib.cell_of_heap h]; rfl
theorem rd5 (h : RBlk w g K L S P o D E) : w.cell? ⟨g, 5, none⟩ = some (.bool D) := by unfold RBlk at h; rw [Lib.cell_of_heap h]; rfl
theorem rd6 (h : RBlk w g K L S P o D E) : w.cell? ⟨g, 6, none⟩ = some (.int .i64 (E : Int)) := by unfold RBlk at h; rw [Lib.cell_of_heap h]; rfl
theorem rd_put5 (h : RBlk w g K L S P o D E) (D' : Bool) : RBlk (w.setCell ⟨g, 5, none⟩ (.bool D')) g K L S P o D' E := heap_put h 5 _
theorem rd_put6 (h : RBlk w g K L S P o D E) (E' : Nat) : RBlk (w.setCell ⟨g, 6, none⟩ (.int .i64 (E' : Int))) g K L S P o D E' := heap_put h 6 _
end
def REndPost (g : Nat) (s : St) (w : World) (e : Ending) (w' : World) : Prop :=
  e = .returned (.tuple #[.bool (doneOf s), .int .i64 (errOf s : Nat)]) ∧ RDec w' g s ∧ Chg (fun k => k = g) w w'
set_option maxRecDepth 100000 in
set_option maxHeartbeats 4000000 in
theorem rend_lost (g K L S P : Nat) (o : ByteArray) (w : World) (h : RBlk w g K L S P o false 0) (hK : K ≠ 3) : Calls Tryz.prog 38 #[.pointer (some ⟨g, 0, none⟩)] w (REndPost g (.bad 20) w) := by
  have c0 := rd0 h
  have c5 := rd5 h
  have c6 : w.cell? ⟨g, 6, none⟩ = some (.int .i64 0) := rd6 h
  have f6 := free h 6
  have hk : ((K : Int) == 3) = false := by simp; omega
  have hk2 : ¬ ((K : Int) = 3) := by omega
  have HB := Lib.hid (rd_put6 h 20)
  have HC := Lib.hid ((Chg.refl (fun k => k = g) w).put ⟨g, 6, none⟩ (.int .i64 (20 : Nat)) (.inl rfl))
  have d5 := rd5 HB.out
  have d6 := rd6 HB.out
  obtain ⟨W, hW⟩ : ∃ W, W = w.setCell ⟨g, 6, none⟩ (.int .i64 ((20 : Nat) : Int)) := ⟨_, rfl⟩
  have hW' : w.setCell ⟨g, 6, none⟩ (.int .i64 20) = W := hW.symm
  rw [← hW] at HB HC d5 d6
  have d6' : W.cell? ⟨g, 6, none⟩ = some (.int .i64 20) := d6
  clear h d6 hW
  go_enter Tryz.func38, Tryz.ntmps38
  go_upto_region 5 with fail
  try rw [hW']
  clear hW' c0 c5 c6 f6
  go_wp2_with fail
  try go_quiet (fail)
  all_goals try go_wp2_with fail
  all_goals
    go_ret2
    exact ⟨rfl, ⟨K, L, S, P, o, HB.out⟩, HC.out.drewN _⟩
set_option maxRecDepth 100000 in
set_option maxHeartbeats 4000000 in
theorem rend_opn (g L S P : Nat) (o : ByteArray) (w : World) (h : RBlk w g 3 L S P o false 0) : Calls Tryz.prog 38 #[.pointer (some ⟨g, 0, none⟩)] w (REndPost g .done w) := by
  have c0 : w.cell? ⟨g, 0, none⟩ = some (.int .i64 3) := rd0 h
  have c5 := rd5 h
  have c6 : w.cell? ⟨g, 6, none⟩ = some (.int .i64 0) := rd6 h
  have f5 := free h 5
  have HB := Lib.hid (rd_put5 h true)
  have HC := Lib.hid ((Chg.refl (fun k => k = g) w).put ⟨g, 5, none⟩ (.bool true) (.inl rfl))
  have d5 := rd5 HB.out
  have d6 : (w.setCell ⟨g, 5, none⟩ (.bool true)).cell? ⟨g, 6, none⟩ = some (.int .i64 0) := rd6 HB.out
  obtain ⟨W, hW⟩ : ∃ W, W = w.setCell ⟨g, 5, none⟩ (.bool true) := ⟨_, rfl⟩
  have hW' : w.setCell ⟨g, 5, none⟩ (.bool true) = W := hW.symm
  rw [← hW] at HB HC d5 d6
  clear h hW
  go_enter Tryz.func38, Tryz.ntmps38
  go_upto_region 5 with fail
  try rw [hW']
  clear hW' c0 c5 c6 f5
  go_wp2_with fail
  try go_quiet (fail)
  all_goals try go_wp2_with fail
  all_goals
    go_ret2
    exact ⟨rfl, ⟨3, L, S, P, o, HB.out⟩, HC.out.drewN _⟩
set_option maxRecDepth 100000 in
set_option maxHeartbeats 4000000 in
theorem rend_over (g K L S P E : Nat) (o : ByteArray) (D : Bool) (w : World) (h : RBlk w g K L S P o D E) (hD : D = true ∧ E = 0 ∨ D = false ∧ E ≠ 0) :
    Calls Tryz.prog 38 #[.pointer (some ⟨g, 0, none⟩)] w (REndPost g (if D then .done else .bad E) w) := by
  have HH := Lib.hid h
  have c5 := rd5 h
  have c6 := rd6 h
  clear h
  rcases hD with ⟨rfl, rfl⟩ | ⟨rfl, h0⟩
  · have c6' : w.cell? ⟨g, 6, none⟩ = some (.int .i64 0) := c6
    clear c6
    go_enter Tryz.func38, Tryz.ntmps38
    go_wp2_with fail
    try go_quiet (fail)
    all_goals try go_wp2_with fail
    all_goals
      go_ret2
      exact ⟨rfl, ⟨K, L, S, P, o, HH.out⟩, (Chg.refl _ w).drewN _⟩
  · have he : ((E : Int) == 0) = false := by simp; omega
    have he2 : ¬ ((E : Int) = 0) := by omega
    clear h0
    go_enter Tryz.func38, Tryz.ntmps38
    go_wp2_with fail
    try go_quiet (fail)
    all_goals try go_wp2_with fail
    all_goals
      go_ret2
      exact ⟨rfl, ⟨K, L, S, P, o, HH.out⟩, (Chg.refl _ w).drewN _⟩
/-- The reference's End, whatever came in. -/
theorem rend_any (g : Nat) (s : St) (w : World) (h : RDec w g s) (hG : Good s) : Calls Tryz.prog 38 #[.pointer (some ⟨g, 0, none⟩)] w (REndPost g (closed s) w) := by
  cases s with
  | len n => exact rend_lost g _ _ _ _ _ w h (by omega)
  | opn n => obtain ⟨S, _, h⟩ := h; exact rend_opn g _ _ _ _ w h
  | size m l => obtain ⟨S, _, h⟩ := h; exact rend_lost g _ _ _ _ _ w h (by omega)
  | chunk m n => obtain ⟨S, _, h⟩ := h; exact rend_lost g _ _ _ _ _ w h (by omega)
  | gap m l => obtain ⟨S, _, h⟩ := h; exact rend_lost g _ _ _ _ _ w h (by omega)
  | trail m l => obtain ⟨S, _, h⟩ := h; exact rend_lost g _ _ _ _ _ w h (by omega)
  | done => obtain ⟨K, L, S, P, o, h⟩ := h; exact rend_over g K L S P 0 o true w h (.inl ⟨rfl, rfl⟩)
  | bad e =>
    obtain ⟨K, L, S, P, o, h⟩ := h
    have he : e ≠ 0 := by rcases hG with h | h | h | h <;> omega
    exact rend_over g K L S P e o false w h (.inr ⟨rfl, he⟩)
end Go.Proofs.YtcolnidgembniaaGreatDoor.Fr
/-
  The reference's New: what it returns. No condition.
-/
namespace Go.Proofs.YtcolnidgembniaaGreatDoor.Fr
open Go.RowKit Go.Proofs.YtcolnidgembniaaGreatDoor.Tk Go.Proofs.YtcolnidgembniaaGreatDoor.Fd Go.Proofs.YtcolnidgembniaaGreatDoor.Hd
set_option linter.unusedVariables false

def RNewPost (k n : Int) (w : World) (e : Ending) (w' : World) : Prop :=
  Below w.heap.size w w' ∧ match made k n with
  | none => e = .returned (.tuple #[.pointer none, .int .i64 (madeErr k n : Nat)])
  | some s => ∃ g, e = .returned (.tuple #[.pointer (some ⟨g, 0, none⟩), .int .i64 0]) ∧ RDec w' g s ∧ w.heap.size ≤ g
set_option maxRecDepth 100000 in
set_option maxHeartbeats 4000000 in
theorem rnew_none (k n : Int) (w : World) (h : made k n = none) : Calls Tryz.prog 36 #[.int .i64 k, .int .i64 n] w (RNewPost k n w) := by
  have HP := Lib.hid (fun (e : Ending) => show e = .returned (.tuple #[.pointer none, .int .i64 (madeErr k n : Nat)]) → RNewPost k n w e w from fun he => ⟨Below.refl _ _, by rw [h]; exact he⟩)
  by_cases h1 : k < 0 ∨ 3 < k ∨ n < 0 ∨ (0 < n ∧ k ≠ 1)
  · have HE := Lib.hid (show madeErr k n = 2 from by unfold madeErr; rw [if_pos h1])
    clear h
    go_enter Tryz.func36, Tryz.ntmps36
    by_cases ha : k < 0
    · clear h1
      go_wp2_with fail
      go_ret2
      exact HP.out _ (by rw [HE.out]; rfl)
    · by_cases hb : 3 < k
      · clear h1
        go_wp2_with fail
        go_ret2
        exact HP.out _ (by rw [HE.out]; rfl)
      · by_cases hc : n < 0
        · clear h1
          go_wp2_with fail
          go_ret2
          exact HP.out _ (by rw [HE.out]; rfl)
        · have hd : 0 < n := by omega
          have he : (k != 1) = true := by simp; omega
          clear h1
          go_wp2_with fail
          go_ret2
          exact HP.out _ (by rw [HE.out]; rfl)
  · have h2 : 1048576 < n := by unfold made at h; rcases Int.lt_or_le 1048576 n with h3 | h3; exact h3; rw [if_neg (by omega)] at h; split at h <;> (try split at h) <;> (try split at h) <;> cases h
    have HE := Lib.hid (show madeErr k n = 3 from by unfold madeErr; rw [if_neg h1, if_pos h2])
    clear h
    have h3 : k = 1 := by omega
    subst h3
    go_enter Tryz.func36, Tryz.ntmps36
    go_wp2_with fail
    go_ret2
    exact HP.out _ (by rw [HE.out]; rfl)
def rmade (w : World) (k L : Nat) (D : Bool) : World := w.alloc (.cells (rdc k L 0 0 ⟨#[]⟩ D 0) 123)
theorem rmade_blk (w : World) (k L : Nat) (D : Bool) : RBlk (rmade w k L D) w.heap.size k L 0 0 ⟨#[]⟩ D 0 := new_block _ _
theorem rmade_below (w : World) (k L : Nat) (D : Bool) : Below w.heap.size w (rmade w k L D) := (Below.refl w.heap.size w).alloc (Nat.le_refl _) _
set_option maxRecDepth 100000 in
set_option maxHeartbeats 4000000 in
theorem rnew_some (k n : Int) (s : St) (w : World) (h : made k n = some s) : Calls Tryz.prog 36 #[.int .i64 k, .int .i64 n] w (RNewPost k n w) := by
  have HP := Lib.hid (fun (e : Ending) (K L : Nat) (D : Bool) (he : e = .returned (.tuple #[.pointer (some ⟨w.heap.size, 0, none⟩), .int .i64 0])) (hd : RDec (rmade w K L D) w.heap.size s) => show RNewPost k n w e (rmade w K L D) from ⟨rmade_below w K L D, by rw [h]; exact ⟨_, he, hd, Nat.le_refl _⟩⟩)
  unfold made at h
  split at h
  · cases h
  rename_i h1
  split at h
  · cases h
    rename_i h2
    subst h2
    have hn : n = 0 := by omega
    subst hn
    clear h1
    go_enter Tryz.func36, Tryz.ntmps36
    go_wp2_with fail
    go_ret2
    exact HP.out _ 2 0 false rfl ⟨0, rfl, rmade_blk w 2 0 false⟩
  · split at h
    · cases h
      rename_i _ h2
      subst h2
      have hn : n = 0 := by omega
      subst hn
      clear h1
      go_enter Tryz.func36, Tryz.ntmps36
      go_wp2_with fail
      go_ret2
      exact HP.out _ 3 0 false rfl ⟨0, rfl, rmade_blk w 3 0 false⟩
    · split at h
      · cases h
        have hk : k = 1 := by omega
        subst hk
        obtain ⟨m, rfl⟩ : ∃ m : Nat, n = (m : Int) := ⟨n.toNat, by omega⟩
        have hn0 : 0 < m := by omega
        have hn1 : m ≤ 1048576 := by omega
        have hz : ((m : Int) == 0) = false := by simp; omega
        rw [Int.toNat_natCast] at HP
        clear h1
        go_enter Tryz.func36, Tryz.ntmps36
        go_wp2_with fail
        go_ret2
        exact HP.out _ 1 m false rfl (rmade_blk w 1 m false)
      · cases h
        have hn : n = 0 := by omega
        subst hn
        have hk : k = 0 ∨ k = 1 := by omega
        clear h1
        go_enter Tryz.func36, Tryz.ntmps36
        rcases hk with rfl | rfl
        · go_wp2_with fail
          go_ret2
          exact HP.out _ 0 0 true rfl ⟨0, 0, 0, 0, _, rmade_blk w 0 0 true⟩
        · go_wp2_with fail
          go_ret2
          exact HP.out _ 1 0 true rfl ⟨1, 0, 0, 0, _, rmade_blk w 1 0 true⟩
theorem rnew_any (k n : Int) (w : World) : Calls Tryz.prog 36 #[.int .i64 k, .int .i64 n] w (RNewPost k n w) := by
  cases h : made k n with
  | none => exact rnew_none k n w h
  | some s => exact rnew_some k n s w h
end Go.Proofs.YtcolnidgembniaaGreatDoor.Fr
/-
  The reference's number of a chunk's line: plain functions. No condition.
-/
namespace Go.Proofs.YtcolnidgembniaaGreatDoor.Fr
open Go.RowKit Go.Proofs.YtcolnidgembniaaGreatDoor.Tk Go.Proofs.YtcolnidgembniaaGreatDoor.Fd Go.Proofs.YtcolnidgembniaaGreatDoor.Hd
set_option linter.unusedVariables false

/-- The number as the reference tells it. -/
def sizeI (t : Bs) : Int := match sizeOf t with
  | none => -1
  | some n => (n : Int)
theorem sizeI_no {t : Bs} (h : sizeOk t = false) : sizeI t = -1 := by unfold sizeI sizeOf; rw [if_neg (by rw [h]; simp)]
theorem sizeI_yes {t : Bs} (h : sizeOk t = true) : sizeI t = (hexGo 0 (hexes t) : Nat) := by unfold sizeI sizeOf; rw [if_pos h]
/-- Digits up to a place behind which none stands. -/
theorem split_at {t : Bs} {k : Nat} (hk : k ≤ t.length) (ha : (t.take k).all isHex = true) (hb : ∀ h : k < t.length, isHex t[k] = false) : hexes t = t.take k ∧ behind t = t.drop k := by
  have h := hexes_mk (a := t.take k) (b := t.drop k) (fun c hc => List.all_eq_true.1 ha c hc) (fun c r e => by
    by_cases h : k < t.length
    · rw [List.drop_eq_getElem_cons h] at e
      injection e with e1 e2
      rw [← e1]; exact hb h
    · rw [List.drop_eq_nil_of_le (by omega)] at e; cases e)
  rwa [List.take_append_drop] at h
theorem hexes_long {t : Bs} {k : Nat} (hk : k < t.length) (ha : (t.take k).all isHex = true) (hb : isHex t[k] = true) : k < (hexes t).length := by
  have e : t = t.take (k + 1) ++ t.drop (k + 1) := (List.take_append_drop _ _).symm
  have e1 : t.take (k + 1) = t.take k ++ [t[k]] := (List.take_append_getElem hk).symm
  have hall : ∀ (a b : Bs), (∀ c ∈ a, isHex c = true) → a.length ≤ (hexes (a ++ b)).length := by
    intro a b h
    induction a with
    | nil => simp
    | cons c r ih =>
      show _ ≤ (if isHex c then c :: hexes (r ++ b) else []).length
      rw [if_pos (h c (by simp)), List.length_cons, List.length_cons]
      have := ih (fun d hd => h d (by simp [hd]))
      omega
  have h := hall (t.take (k + 1)) (t.drop (k + 1)) (fun c hc => by
    rw [e1] at hc
    rcases List.mem_append.1 hc with hc | hc
    · exact List.all_eq_true.1 ha c hc
    · simp at hc; subst hc; exact hb)
  rw [← e, List.length_take] at h
  omega
theorem trim_nil (r : Bs) : (trim r = []) ↔ ltrim r = [] := by
  unfold trim
  constructor
  · intro h
    rcases ltrim_begin r with h1 | ⟨c, t, h1, h2⟩
    · exact h1
    · obtain ⟨t', h3⟩ := rtrim_cons_other t h2
      rw [h1, h3] at h; cases h
  · intro h; rw [h]; rfl
theorem trim_cons {r : Bs} {c : UInt8} {m : Bs} (h : ltrim r = c :: m) : ∃ m', trim r = c :: m' := by
  rcases ltrim_begin r with h1 | ⟨d, t, h1, h2⟩
  · rw [h1] at h; cases h
  · rw [h] at h1
    injection h1 with e1 e2
    subst e1 e2
    obtain ⟨t', h3⟩ := rtrim_cons_other m h2
    exact ⟨t', by unfold trim; rw [h, h3]⟩
theorem tail_nil {r : Bs} (h : trim r = []) : tailOk r = true := by unfold tailOk; rw [(trim_nil r).1 h]
theorem tail_other {r : Bs} {c : UInt8} {m : Bs} (h : trim r = c :: m) (hc : c ≠ 59) : tailOk r = false := by
  rcases hl : ltrim r with _ | ⟨d, t⟩
  · rw [(trim_nil r).2 hl] at h; cases h
  · obtain ⟨m', h2⟩ := trim_cons hl
    rw [h] at h2
    injection h2 with e1 e2
    subst e1
    unfold tailOk
    rw [hl]
    simp [hc]
theorem tail_sem {r : Bs} {m : Bs} (h : trim r = 59 :: m) : tailOk r = r.all ext := by
  rcases hl : ltrim r with _ | ⟨d, t⟩
  · rw [(trim_nil r).2 hl] at h; cases h
  · obtain ⟨m', h2⟩ := trim_cons hl
    rw [h] at h2
    injection h2 with e1 e2
    subst e1
    obtain ⟨bl, h3, h4⟩ := ltrim_parts r
    have hb : bl.all ext = true := by
      rw [List.all_eq_true]; intro c hc
      have := h4 c hc
      simp [Tk.blank] at this
      rcases this with rfl | rfl <;> decide
    unfold tailOk
    rw [hl]
    conv => rhs; rw [h3, hl, List.all_append, hb]
    show ((59 : UInt8) == 59 && t.all ext) = (true && ((59 : UInt8) :: t).all ext)
    rw [List.all_cons]
    rfl
/-- How far the digits are read. -/
structure SzAt (t : Bs) (k n : Nat) : Prop where
  le : k ≤ t.length
  k8 : k ≤ 8
  all : (t.take k).all isHex = true
  val : n = hexGo 0 (t.take k)
theorem SzAt.next {t : Bs} {k n : Nat} (h : SzAt t k n) (hk : k < t.length) (h8 : k ≠ 8) (hc : isHex t[k] = true) : SzAt t (k + 1) (n * 16 + hexOf t[k]) := by
  have e : t.take (k + 1) = t.take k ++ [t[k]] := (List.take_append_getElem hk).symm
  have := h.k8
  refine ⟨by omega, by omega, ?_, ?_⟩
  · rw [e, List.all_append, h.all]; simp [hc]
  · rw [e, hexGo_snoc, ← h.val]
theorem SzAt.small {t : Bs} {k n : Nat} (h : SzAt t k n) (h8 : k < 8) : n ≤ 268435455 := by
  have h1 := hexGo_lt (t.take k) (fun c hc => List.all_eq_true.1 h.all c hc) 0 0 (by simp)
  rw [← h.val, Nat.zero_add, List.length_take, Nat.min_eq_left h.le] at h1
  have h2 : 16 ^ k ≤ 16 ^ 7 := Nat.pow_le_pow_right (by omega) (by omega)
  omega
/-- The digits end here. -/
structure SzEnd (t : Bs) (k n : Nat) : Prop where
  le : k ≤ t.length
  k8 : k ≤ 8
  hex : hexes t = t.take k
  beh : behind t = t.drop k
  val : n = hexGo 0 (t.take k)
theorem SzAt.ends {t : Bs} {k n : Nat} (h : SzAt t k n) (hb : ∀ h : k < t.length, isHex t[k] = false) : SzEnd t k n :=
  ⟨h.le, h.k8, (split_at h.le h.all hb).1, (split_at h.le h.all hb).2, h.val⟩
theorem SzAt.long {t : Bs} {n : Nat} (h : SzAt t 8 n) (hk : 8 < t.length) (hc : isHex t[8] = true) : sizeI t = -1 := by
  have := hexes_long hk h.all hc
  refine sizeI_no ?_
  unfold sizeOk
  rw [decide_eq_false (show ¬ (hexes t).length ≤ 8 from by omega)]
  simp
theorem SzEnd.none {t : Bs} {n : Nat} (h : SzEnd t 0 n) : sizeI t = -1 := by
  refine sizeI_no ?_
  unfold sizeOk
  rw [h.hex]
  simp
theorem SzEnd.ok {t : Bs} {k n : Nat} (h : SzEnd t k n) (h0 : 0 < k) (htl : tailOk (t.drop k) = true) : sizeI t = (n : Int) := by
  rw [sizeI_yes, h.hex, ← h.val]
  unfold sizeOk
  have hl := h.le
  have h8 := h.k8
  rw [h.hex, h.beh, htl]
  have : (t.take k).isEmpty = false := by rw [List.isEmpty_eq_false_iff]; intro e; have h3 : (t.take k).length = 0 := (by rw [e]; rfl); rw [List.length_take] at h3; omega
  rw [this, decide_eq_true (by rw [List.length_take]; omega)]
  rfl
theorem SzEnd.bad {t : Bs} {k n : Nat} (h : SzEnd t k n) (htl : tailOk (t.drop k) = false) : sizeI t = -1 := by
  refine sizeI_no ?_
  unfold sizeOk
  rw [h.beh, htl]
  simp
theorem all_drop (p : UInt8 → Bool) (s : Bs) (k i : Nat) (hk : k ≤ i) (hi : i < s.length) : ((s.take (i + 1)).drop k).all p = (((s.take i).drop k).all p && p s[i]) := by
  have e : s.take (i + 1) = s.take i ++ [s[i]] := (List.take_append_getElem hi).symm
  rw [e, List.drop_append_of_le_length (by rw [List.length_take]; omega), List.all_append]
  simp
theorem all_drop_no (p : UInt8 → Bool) (s : Bs) (k i : Nat) (hk : k ≤ i) (hi : i < s.length) (h : p s[i] = false) : (s.drop k).all p = false := by
  rw [Bool.eq_false_iff]
  intro ha
  have hm : s[i] ∈ s.drop k := by
    rw [List.mem_iff_getElem]
    exact ⟨i - k, by rw [List.length_drop]; omega, by rw [List.getElem_drop]; congr 1; omega⟩
  rw [List.all_eq_true.1 ha _ hm] at h
  cases h
theorem txt_data (t : Bs) : (txt t).data.toList = t := by simp [txt]
end Go.Proofs.YtcolnidgembniaaGreatDoor.Fr
/-
  The reference's size of a chunk's line: what it returns. Condition: a text of at most 1025 bytes.
-/
namespace Go.Proofs.YtcolnidgembniaaGreatDoor.Fr
open Go.RowKit Go.Proofs.YtcolnidgembniaaGreatDoor.Tk Go.Proofs.YtcolnidgembniaaGreatDoor.Fd Go.Proofs.YtcolnidgembniaaGreatDoor.Hd
set_option linter.unusedVariables false

set_option maxRecDepth 100000 in
set_option maxHeartbeats 8000000 in
theorem rsize_any (s : ByteArray) (w : World) (hs : s.size ≤ 1025) :
    Calls Tryz.prog 99 #[.string s] w fun e w' => e = .returned (.int .i64 (sizeI s.data.toList)) ∧ w = w' := by
  obtain ⟨t, ht⟩ : ∃ t, t = s.data.toList := ⟨_, rfl⟩
  have hts : t.length = s.size := by rw [ht]; simp
  have HE := Lib.hid (fun (k : Nat) (hk : k < s.size) => show s[k] = t[k]'(by omega) from by subst ht; rfl)
  have HT := Lib.hid ht
  rw [← ht]
  clear ht
  go_enter Tryz.func99, Tryz.ntmps99
  go_wp2_with fail
  go_loop [3, 4] (fun vn vk => ∃ k n : Nat, vn = .int .i64 (n : Int) ∧ vk = .int .i64 (k : Int) ∧ Hid (SzAt t k n)) (fun _ vk => s.size - (intOf vk).toNat)
  case atStart => exact ⟨0, 0, rfl, rfl, Lib.hid ⟨Nat.zero_le _, by omega, rfl, rfl⟩⟩
  case round =>
    obtain ⟨k, n, rfl, rfl, HA⟩ := hrel
    have hk1 := HA.out.le
    have hk8 := HA.out.k8
    by_cases hgo : ∃ h : k < t.length, isHex t[k] = true
    · obtain ⟨hk, hc⟩ := hgo
      have hks : k < s.size := by omega
      have HX := Lib.hid (fun w => rhex_any (s[k]'hks) w)
      have hI : hexI (s[k]'hks) = (hexOf t[k] : Nat) := by rw [HE.out k hks]; unfold hexI; rw [if_pos hc]
      rw [hI] at HX
      have hd := (digit_yes hc)
      have hd16 : hexOf t[k] < 16 := by omega
      by_cases h8 : k = 8
      · subst h8
        have HV := Lib.hid (HA.out.long hk hc)
        obtain ⟨d, hdd⟩ : ∃ d, d = hexOf t[8] := ⟨_, rfl⟩
        rw [← hdd] at HX hd16
        clear hdd hd hc hI hk1 hk8
        go_wp2_with (go_at_call 119; refine (HX.out _).mono ?_; rintro e w' ⟨rfl, rfl⟩)
        all_goals
          go_ret
          exact ⟨by rw [HV.out]; rfl, rfl⟩
      · have HN := Lib.hid (HA.out.next hk h8 hc)
        have hsm := HA.out.small (by omega)
        obtain ⟨d, hdd⟩ : ∃ d, d = hexOf t[k] := ⟨_, rfl⟩
        rw [← hdd] at HX HN hd16
        clear hdd hd hc hI hk1
        go_wp2_with (go_at_call 119; refine (HX.out _).mono ?_; rintro e w' ⟨rfl, rfl⟩)
        all_goals
          go_round
          case rel => exact ⟨k + 1, n * 16 + d, by go_num, by go_num, HN⟩
          case measure => simp [intOf]; omega
    · have hend : ∀ h : k < t.length, isHex t[k] = false := fun h => by
        rcases Bool.eq_false_or_eq_true (isHex t[k]) with h1 | h1
        · exact absurd ⟨h, h1⟩ hgo
        · exact h1
      have HEn := Lib.hid (HA.out.ends hend)
      have hXs : k < s.size → ∃ h : k < s.size, hexI s[k] = -1 := fun h => ⟨h, by rw [HE.out k h]; unfold hexI; rw [if_neg (by rw [hend (by omega)]; simp)]⟩
      have HX := Lib.hid (fun (h : k < s.size) (w : World) => show Calls Tryz.prog 119 #[.int .u8 ((s[k]'h).toNat : Int)] w fun e w' => e = .returned (.int .i64 (-1)) ∧ w = w' from by
        obtain ⟨_, h1⟩ := hXs h
        rw [← h1]; exact rhex_any _ w)
      clear hXs hgo hend HA
      by_cases h0 : k = 0
      · subst h0
        have HV := Lib.hid HEn.out.none
        rcases Nat.lt_or_ge 0 s.size with hks | hks
        all_goals
          go_wp2_with (go_at_call 119; refine (HX.out (by omega) _).mono ?_; rintro e w' ⟨rfl, rfl⟩)
          go_ret
          exact ⟨by rw [HV.out]; rfl, rfl⟩
      · have hk0 : 0 < k := by omega
        obtain ⟨R, hR⟩ : ∃ R, s.extract k s.size = R := ⟨_, rfl⟩
        have hRd : R.data.toList = t.drop k := by
          rw [← hR, ByteArray.data_extract, Array.toList_extract, List.extract_eq_take_drop, ← HT.out]
          rw [List.take_of_length_le (by rw [List.length_drop]; omega)]
        have hRs : R.size ≤ 1025 := by rw [← hR, ByteArray.size_extract]; omega
        have HTr := Lib.hid (fun w => refTrim_any R w (by unfold maxLen; omega))
        rw [hRd] at HTr
        obtain ⟨Q, hQ⟩ : ∃ Q : ByteArray, Q = ⟨(trim (t.drop k)).toArray⟩ := ⟨_, rfl⟩
        rw [← hQ] at HTr
        have hQd : Q.data.toList = trim (t.drop k) := by rw [hQ]
        have hQs : Q.size ≤ 1025 := by
          have h1 : Q.data.toList.length = Q.size := by simp
          have h2 := trim_length (t.drop k)
          rw [← hQd, h1, List.length_drop] at h2
          omega
        have HQ := Lib.hid hQd
        clear hQ hQd hRd
        have hks' : k < s.size ∨ s.size ≤ k := by omega
        by_cases hq0 : Q.size = 0
        · have hqe : Q.toList.isEmpty = true := by rw [text_empty hq0]; rfl
          have HV := Lib.hid (HEn.out.ok hk0 (tail_nil (by rw [← HQ.out]; apply List.length_eq_zero_iff.1; rw [Array.length_toList]; exact hq0)))
          rcases hks' with hks | hks
          all_goals
            go_wp2_with (first | (go_at_call 119; refine (HX.out (by omega) _).mono ?_; rintro e w' ⟨rfl, rfl⟩) | (go_at_call 94; refine (HTr.out _).mono ?_; rintro e w' ⟨rfl, rfl⟩))
            go_ret
            exact ⟨by rw [HV.out]; rfl, rfl⟩
        · have hq1 : 0 < Q.size := by omega
          have hqe : Q.toList.isEmpty = false := text_full hq1
          obtain ⟨c, hc⟩ : ∃ c, c = Q[0] := ⟨_, rfl⟩
          have HQ1 := Lib.hid (show ∃ m, trim (t.drop k) = c :: m from by
            rw [← HQ.out]
            have h1 : Q.data.toList.length = Q.size := by simp
            cases hl : Q.data.toList with
            | nil => rw [hl] at h1; simp at h1; omega
            | cons d r => exact ⟨r, by rw [hc]; show d :: r = Q.data.toList[0]'(by omega) :: r; simp [hl]⟩)
          have hks : k < s.size := by
            rcases hks' with h | h
            · exact h
            · exfalso
              obtain ⟨m, hm⟩ := HQ1.out
              rw [List.drop_eq_nil_of_le (by omega)] at hm
              cases hm
          clear hks'
          by_cases hc59 : c = 59
          · have hcn : ((Q[0].toNat : Int) != 59) = false := by rw [← hc, hc59]; rfl
            have HTL := Lib.hid (show tailOk (t.drop k) = (t.drop k).all ext from by obtain ⟨m, hm⟩ := HQ1.out; rw [hc59] at hm; exact tail_sem hm)
            clear hc hc59
            go_wp2_with (first | (go_at_call 119; refine (HX.out (by omega) _).mono ?_; rintro e w' ⟨rfl, rfl⟩) | (go_at_call 94; refine (HTr.out _).mono ?_; rintro e w' ⟨rfl, rfl⟩))
            go_loop [6] (fun vi => ∃ i : Nat, vi = .int .i64 (i : Int) ∧ k ≤ i ∧ i ≤ s.size ∧ Hid (((t.take i).drop k).all ext = true)) (fun vi => s.size - (intOf vi).toNat)
            case atStart => exact ⟨k, rfl, Nat.le_refl _, by omega, Lib.hid (by rw [List.drop_take, Nat.sub_self]; rfl)⟩
            case round =>
              obtain ⟨i, rfl, hki, his, HAl⟩ := hrel
              by_cases hlt : i < s.size
              · have hst := Lib.hid (HE.out i hlt)
                by_cases h9 : s[i].toNat < 9
                · have HV := Lib.hid (HEn.out.bad (by rw [HTL.out]; exact all_drop_no ext t k i hki (by omega) (by rw [← hst.out]; unfold ext; simp; omega)))
                  have h9' : (s[i].toNat : Int) < 9 := by omega
                  go_wp2_with fail
                  go_ret
                  exact ⟨by rw [HV.out]; rfl, rfl⟩
                · have h9' : ¬ ((s[i].toNat : Int) < 9) := by omega
                  by_cases h127 : s[i].toNat = 127
                  · have HV := Lib.hid (HEn.out.bad (by rw [HTL.out]; exact all_drop_no ext t k i hki (by omega) (by rw [← hst.out]; unfold ext; simp [h127])))
                    have hd : (s[i].toNat : Int) = 127 := by omega
                    have hd2 : ((s[i].toNat : Int) == 127) = true := by simp; omega
                    clear h127
                    go_wp2_with fail
                    go_ret
                    exact ⟨by rw [HV.out]; rfl, rfl⟩
                  · have HN := Lib.hid (show ((t.take (i + 1)).drop k).all ext = true from by
                      rw [all_drop ext t k i hki (by omega), HAl.out, ← hst.out]; unfold ext; simp [h127]; omega)
                    have hd : ¬ ((s[i].toNat : Int) = 127) := by omega
                    have hd2 : ((s[i].toNat : Int) == 127) = false := by simp; omega
                    clear h127
                    go_wp2_with fail
                    go_round
                    case rel => exact ⟨i + 1, by go_num, by omega, by omega, HN⟩
                    case measure => simp [intOf]; omega
              · have HV := Lib.hid (HEn.out.ok hk0 (by rw [HTL.out]; have := HAl.out; rwa [List.take_of_length_le (by omega)] at this))
                go_wp2_with fail
                go_ret
                exact ⟨by rw [HV.out]; rfl, rfl⟩
          · have hcn : ((Q[0].toNat : Int) != 59) = true := by
              rw [bne_iff_ne, ← hc]; intro e; apply hc59; apply UInt8.toNat.inj; show c.toNat = 59; omega
            have HV := Lib.hid (HEn.out.bad (by obtain ⟨m, hm⟩ := HQ1.out; exact tail_other hm hc59))
            clear hc hc59
            go_wp2_with (first | (go_at_call 119; refine (HX.out (by omega) _).mono ?_; rintro e w' ⟨rfl, rfl⟩) | (go_at_call 94; refine (HTr.out _).mono ?_; rintro e w' ⟨rfl, rfl⟩))
            go_ret
            exact ⟨by rw [HV.out]; rfl, rfl⟩
end Go.Proofs.YtcolnidgembniaaGreatDoor.Fr
/-
  gatepostref04.Parse: what it returns. Condition: a text of at most 2^46 bytes.
-/
namespace Go.Proofs.YtcolnidgembniaaGreatDoor.Fd
open Go.RowKit Tk
set_option linter.unusedVariables false

theorem get58 {s : ByteArray} {k : Nat} (h : k < s.size) (e : (((s[k]'h).toNat : Int) != 58) = false) : s.data.toList[k]'(by simpa using h) = 58 := by
  rcases Decidable.em (((s[k]'h).toNat : Int) = 58) with h1 | h1
  · apply UInt8.toNat.inj
    show (s[k]'h).toNat = 58
    omega
  · rw [bne_iff_ne.2 h1] at e; cases e
theorem not58 {s : ByteArray} {k : Nat} (h : k < s.size) (e : (((s[k]'h).toNat : Int) != 58) = true) : s.data.toList[k]'(by simpa using h) ≠ 58 := by
  intro h2
  have h3 : (s[k]'h) = 58 := h2
  rw [h3] at e; simp at e

def Upto (s : ByteArray) (k : Nat) : Prop := ∀ j (hj : j < s.data.toList.length), j < k → s.data.toList[j] ≠ 58

set_option maxHeartbeats 2000000 in
theorem refParse_any (s : ByteArray) (w : World) (hs : s.size ≤ 70368744177664) :
    Calls Tryz.prog 53 #[.string s] w fun e w' => e = .returned (parseVal s) ∧ Below w.heap.size w w' := by
  have hlen : s.data.toList.length = s.size := by simp
  have HLEN := Lib.hid hlen
  clear hlen
  go_enter Tryz.func53, Tryz.ntmps53
  go_wp2_with fail
  go_loop [4] (fun i => ∃ k : Nat, k ≤ s.size ∧ i = .int .i64 (k : Int) ∧ Upto s k) (fun i => s.size - (intOf i).toNat)
  case atStart => exact ⟨0, Nat.zero_le _, rfl, fun j _ h => by omega⟩
  case round =>
    obtain ⟨k, hk, rfl, hup⟩ := hrel
    have HUP := Lib.hid hup
    clear hup
    by_cases hlt : k < s.size
    · cases hne : (((s[k]'hlt).toNat : Int) != 58) with
      | true =>
        have HN := Lib.hid (not58 hlt hne)
        go_wp2_with fail
        go_round
        case rel => exact ⟨k + 1, by omega, by go_num, fun j h1 h2 => by
          by_cases e : j = k
          · subst e; exact HN.out
          · exact HUP.out j h1 (by omega)⟩
        case measure => simp [intOf]; omega
      | false =>
        have hci : colIdx s.data.toList = k := colIdx_is _ k (by rw [HLEN.out]; omega) (fun j hj => HUP.out j (by rw [HLEN.out]; omega) hj) (fun h => get58 hlt hne)
        have hks : ((k : Int) == (s.size : Int)) = false := beq_eq_false_iff_ne.2 (by omega)
        obtain ⟨n, hn⟩ : ∃ n, n = s.extract 0 k := ⟨_, rfl⟩
        obtain ⟨T, hT⟩ : ∃ T, T = s.extract (k + 1) s.size := ⟨_, rfl⟩
        obtain ⟨v, hv⟩ : ∃ v : ByteArray, v = ⟨(trim T.data.toList).toArray⟩ := ⟨_, rfl⟩
        have hns : n.size ≤ s.size := by rw [hn]; simp; omega
        have hTs : T.size ≤ s.size := by rw [hT]; simp
        have hvs : v.size ≤ s.size := by
          have h := trim_length T.data.toList
          have e : T.data.toList.length = T.size := by simp
          rw [hv]; show (trim _).toArray.size ≤ _
          rw [List.size_toArray]; omega
        have HPV := Lib.hid (show parseVal s = if isFld n.data.toList v.data.toList then .tuple #[FV n v, .int .i64 0] else .tuple #[FV ⟨#[]⟩ ⟨#[]⟩, .int .i64 31] from by
          unfold parseVal parseOk pName pVal; rw [hci, hv, hT, hn]; simp [hlt])
        have HNE := Lib.hid hn
        have HTE := Lib.hid hT
        have HVE := Lib.hid hv
        clear hn hT hv hci HUP
        cases h1 : isTok n.data.toList with
        | false =>
          have H1 := Lib.hid h1
          have HF := Lib.hid (show isFld n.data.toList v.data.toList = false from by unfold isFld; rw [h1]; rfl)
          clear h1
          rw [HF.out] at HPV
          have hr0 := new_block w (.cells #[.string ⟨#[]⟩, .string ⟨#[]⟩] 80)
          go_wp2_with fail
          rw [← HNE.out]
          refine (refIs_any n _ (by unfold maxLen; omega)).mono ?_
          rintro e w1 ⟨rfl, rfl⟩
          rw [H1.out]
          go_wp2_with fail
          refine bodyPost_ret (results_pair rfl _ _ w.heap.size 80 _ (0, 0) _ rfl (new_block w _) Tryz.underlying80 rfl infoFieldSize) rfl ?_
          exact ⟨by rw [HPV.out]; rfl, (Below.refl _ _).alloc (Nat.le_refl _) _⟩
        | true =>
          have H1 := Lib.hid h1
          cases h2 : isVal v.data.toList
          all_goals
            have H2 := Lib.hid h2
            first | have HF := Lib.hid (show isFld n.data.toList v.data.toList = true from by unfold isFld; rw [h1, h2]; rfl) | have HF := Lib.hid (show isFld n.data.toList v.data.toList = false from by unfold isFld; rw [h1, h2]; rfl)
            clear h2
            rw [HF.out] at HPV
            have hr0 := new_block w (.cells #[.string ⟨#[]⟩, .string ⟨#[]⟩] 80)
            try clear h1
            go_wp2_with fail
            rw [← HNE.out]
            refine (refIs_any n _ (by unfold maxLen; omega)).mono ?_
            rintro e w1 ⟨rfl, rfl⟩
            rw [H1.out]
            go_wp2_with fail
            rw [← HTE.out]
            refine (refTrim_any T _ (by unfold maxLen; omega)).mono ?_
            rintro e w1 ⟨rfl, rfl⟩
            rw [← HVE.out]
            go_wp2_with fail
            refine (refValue_any v _ (by unfold maxLen; omega)).mono ?_
            rintro e w1 ⟨rfl, rfl⟩
            rw [H2.out]
            go_wp2_with fail
            try rw [← HNE.out]
            refine bodyPost_ret (results_pair rfl _ _ w.heap.size 80 _ (0, 0) _ rfl (new_block w _) Tryz.underlying80 rfl infoFieldSize) rfl ?_
            exact ⟨by rw [HPV.out]; rfl, (Below.refl _ _).alloc (Nat.le_refl _) _⟩
    · have hci : colIdx s.data.toList = s.size := colIdx_is _ s.size (by rw [HLEN.out]; omega) (fun j hj => HUP.out j (by rw [HLEN.out]; omega) (by omega)) (fun h => by rw [HLEN.out] at h; omega)
      have hks : ((k : Int) == (s.size : Int)) = true := beq_iff_eq.2 (by omega)
      have HPV := Lib.hid (show parseVal s = .tuple #[FV ⟨#[]⟩ ⟨#[]⟩, .int .i64 31] from by unfold parseVal parseOk; simp [hci])
      have hr0 := new_block w (.cells #[.string ⟨#[]⟩, .string ⟨#[]⟩] 80)
      clear hci HUP
      go_wp2_with fail
      refine bodyPost_ret (results_pair rfl _ _ w.heap.size 80 _ (0, 0) _ rfl (new_block w _) Tryz.underlying80 rfl infoFieldSize) rfl ?_
      exact ⟨by rw [HPV.out]; rfl, (Below.refl _ _).alloc (Nat.le_refl _) _⟩
end Go.Proofs.YtcolnidgembniaaGreatDoor.Fd
/-
  The reference's ended: what it leaves. Condition: a text of at most 1025 bytes.
-/
namespace Go.Proofs.YtcolnidgembniaaGreatDoor.Fr
open Go.RowKit Go.Proofs.YtcolnidgembniaaGreatDoor.Tk Go.Proofs.YtcolnidgembniaaGreatDoor.Fd Go.Proofs.YtcolnidgembniaaGreatDoor.Hd
set_option linter.unusedVariables false

theorem sizeOf_small {t : Bs} {n : Nat} (h : sizeOf t = some n) : n < 4294967296 := by
  unfold sizeOf at h
  split at h
  · rename_i hk
    cases h
    unfold sizeOk at hk
    simp only [Bool.and_eq_true, decide_eq_true_eq] at hk
    exact hexGo_small (hexes_all t) hk.1.2
  · cases h
def bare : St → Prop
  | .size _ l => l = []
  | .gap _ l => l = []
  | .trail _ l => l = []
  | _ => False
def REndedPost (g : Nat) (s : St) (t : Bs) (w : World) (e : Ending) (w' : World) : Prop := e = .returned (.tuple #[]) ∧ RDec w' g (ended s t) ∧ Chg (fun k => k = g) w w'
section
variable {w : World} {g K L S P E : Nat} {o : ByteArray} {D : Bool}
theorem rd1 (h : RBlk w g K L S P o D E) : w.cell? ⟨g, 1, none⟩ = some (.int .i64 (L : Int)) := by unfold RBlk at h; rw [Lib.cell_of_heap h]; rfl
theorem rd2 (h : RBlk w g K L S P o D E) : w.cell? ⟨g, 2, none⟩ = some (.int .i64 (S : Int)) := by unfold RBlk at h; rw [Lib.cell_of_heap h]; rfl
theorem rd3 (h : RBlk w g K L S P o D E) : w.cell? ⟨g, 3, none⟩ = some (.int .i64 (P : Int)) := by unfold RBlk at h; rw [Lib.cell_of_heap h]; rfl
theorem rd4 (h : RBlk w g K L S P o D E) : w.cell? ⟨g, 4, none⟩ = some (.string o) := by unfold RBlk at h; rw [Lib.cell_of_heap h]; rfl
theorem rd_put1 (h : RBlk w g K L S P o D E) (x : Nat) : RBlk (w.setCell ⟨g, 1, none⟩ (.int .i64 (x : Int))) g K x S P o D E := heap_put h 1 _
theorem rd_put2 (h : RBlk w g K L S P o D E) (x : Nat) : RBlk (w.setCell ⟨g, 2, none⟩ (.int .i64 (x : Int))) g K L x P o D E := heap_put h 2 _
theorem rd_put3 (h : RBlk w g K L S P o D E) (x : Nat) : RBlk (w.setCell ⟨g, 3, none⟩ (.int .i64 (x : Int))) g K L S x o D E := heap_put h 3 _
theorem rd_put4 (h : RBlk w g K L S P o D E) (x : ByteArray) : RBlk (w.setCell ⟨g, 4, none⟩ (.string x)) g K L S P x D E := heap_put h 4 _
end
set_option maxRecDepth 100000 in
set_option maxHeartbeats 4000000 in
theorem rended_size (g m S : Nat) (t : Bs) (w : World) (hS : S + m = 1048576) (h : RBlk w g 2 0 S 0 ⟨#[]⟩ false 0) (ht : t.length ≤ 1025) :
    Calls Tryz.prog 57 #[.pointer (some ⟨g, 0, none⟩), .string (txt t)] w (REndedPost g (.size m []) t w) := by
  have HSS := Lib.hid hS
  have hS6 : S ≤ 1048576 := by omega
  have HS := Lib.hid (rsize_any (txt t) w (by rw [txt_size']; exact ht))
  rw [txt_data] at HS
  have HZ := Lib.hid (show ended (.size m []) t = sizeSt m (sizeOf t) from rfl)
  have c2 := rd2 h
  have c1 : w.cell? ⟨g, 1, none⟩ = some (.int .i64 0) := rd1 h
  have c6 : w.cell? ⟨g, 6, none⟩ = some (.int .i64 0) := rd6 h
  have c3 : w.cell? ⟨g, 3, none⟩ = some (.int .i64 0) := rd3 h
  have f1 := free h 1
  have f2 := free h 2
  have f3 := free h 3
  have f6 := free h 6
  have HB := Lib.hid h
  have hc : ∀ i x, Chg (fun k => k = g) w (w.setCell ⟨g, i, none⟩ x) := fun i x => (Chg.refl (fun k => k = g) w).put ⟨g, i, none⟩ x (.inl rfl)
  have HC := Lib.hid hc
  obtain ⟨T, hT⟩ : ∃ T, T = txt t := ⟨_, rfl⟩
  rw [← hT] at HS ⊢
  cases hz : sizeOf t with
  | none =>
    have hI : sizeI t = -1 := by unfold sizeI; rw [hz]
    have HN := Lib.hid (show ended (.size m []) t = .bad 32 from by rw [HZ.out, hz]; rfl)
    rw [hI] at HS
    have HB6 := Lib.hid (rd_put6 HB.out 32)
    clear h hT hz hI hc c2 f1 f2 f3
    clear hS
    go_enter Tryz.func57, Tryz.ntmps57
    go_wp2_with fail
    refine HS.out.mono ?_
    rintro e w1 ⟨rfl, rfl⟩
    go_wp2_with fail
    go_end0
    exact ⟨rfl, by rw [HN.out]; exact ⟨2, 0, S, 0, _, HB6.out⟩, HC.out _ _⟩
  | some n =>
    have hI : sizeI t = (n : Int) := by unfold sizeI; rw [hz]
    have hn4 := sizeOf_small hz
    rw [hI] at HS
    by_cases hmn : m < n
    · have HN := Lib.hid (show ended (.size m []) t = .bad 3 from by rw [HZ.out, hz]; show (if n = 0 then St.trail m [] else if m < n then .bad 3 else .chunk (m - n) n) = _; rw [if_neg (by omega), if_pos hmn])
      have HB6 := Lib.hid (rd_put6 HB.out 3)
      have hgt : 1048576 < (S : Int) + (n : Int) := by omega
      clear h hT hz hI hc f1 f2 f3 hmn
      clear hS
      go_enter Tryz.func57, Tryz.ntmps57
      go_wp2_with fail
      refine HS.out.mono ?_
      rintro e w1 ⟨rfl, rfl⟩
      go_wp2_with fail
      go_end0
      exact ⟨rfl, by rw [HN.out]; exact ⟨2, 0, S, 0, _, HB6.out⟩, HC.out _ _⟩
    · have hle : ¬ 1048576 < (S : Int) + (n : Int) := by omega
      have hcast : ((S + n : Nat) : Int) = (S : Int) + (n : Int) := by omega
      by_cases h0 : n = 0
      · subst h0
        have HN := Lib.hid (show ended (.size m []) t = .trail m [] from by rw [HZ.out, hz]; rfl)
        have HB3 := Lib.hid (rd_put3 (rd_put3 (rd_put1 (rd_put2 HB.out S) 0) 1) 3)
        have HCC := Lib.hid (fun a b c d => ((((Chg.refl (fun k => k = g) w).put ⟨g, 2, none⟩ a (.inl rfl)).put ⟨g, 1, none⟩ b (.inl rfl)).put ⟨g, 3, none⟩ c (.inl rfl)).put ⟨g, 3, none⟩ d (.inl rfl))
        clear h hT hz hI hc hmn hcast hn4
        clear hS
        go_enter Tryz.func57, Tryz.ntmps57
        go_wp2_with fail
        refine HS.out.mono ?_
        rintro e w1 ⟨rfl, rfl⟩
        go_wp2_with fail
        go_end0
        exact ⟨rfl, by rw [HN.out]; exact ⟨S, HSS.out, HB3.out⟩, HCC.out _ _ _ _⟩
      · have HN := Lib.hid (show ended (.size m []) t = .chunk (m - n) n from by rw [HZ.out, hz]; show (if n = 0 then St.trail m [] else if m < n then .bad 3 else .chunk (m - n) n) = _; rw [if_neg h0, if_neg hmn])
        have HB3 := Lib.hid (rd_put3 (rd_put1 (rd_put2 HB.out (S + n)) n) 1)
        rw [hcast] at HB3
        have hSn : S + n + (m - n) = 1048576 := by omega
        have HCC := Lib.hid (fun a b c => (((Chg.refl (fun k => k = g) w).put ⟨g, 2, none⟩ a (.inl rfl)).put ⟨g, 1, none⟩ b (.inl rfl)).put ⟨g, 3, none⟩ c (.inl rfl))
        have HSn := Lib.hid hSn
        have hn0 : 0 < n := by omega
        clear h hT hz hI hc hmn hcast h0 hSn
        clear hS
        go_enter Tryz.func57, Tryz.ntmps57
        go_wp2_with fail
        refine HS.out.mono ?_
        rintro e w1 ⟨rfl, rfl⟩
        go_wp2_with fail
        go_end0
        exact ⟨rfl, by rw [HN.out]; exact ⟨S + n, HSn.out, HB3.out⟩, HCC.out _ _ _⟩
set_option maxRecDepth 100000 in
set_option maxHeartbeats 4000000 in
theorem rended_gap (g m S : Nat) (t : Bs) (w : World) (hS : S + m = 1048576) (h : RBlk w g 2 0 S 2 ⟨#[]⟩ false 0) :
    Calls Tryz.prog 57 #[.pointer (some ⟨g, 0, none⟩), .string (txt t)] w (REndedPost g (.gap m []) t w) := by
  have HSS := Lib.hid hS
  have hS6 : S ≤ 1048576 := by omega
  have c3 : w.cell? ⟨g, 3, none⟩ = some (.int .i64 2) := rd3 h
  have c6 : w.cell? ⟨g, 6, none⟩ = some (.int .i64 0) := rd6 h
  have f3 := free h 3
  have f6 := free h 6
  by_cases ht : t = []
  · subst ht
    rw [txt_nil]
    have HB3 := Lib.hid (rd_put3 h 0)
    have HC := Lib.hid (fun a => (Chg.refl (fun k => k = g) w).put ⟨g, 3, none⟩ a (.inl rfl))
    clear h
    clear hS
    go_enter Tryz.func57, Tryz.ntmps57
    go_wp2_with fail
    go_end0
    exact ⟨rfl, ⟨S, HSS.out, HB3.out⟩, HC.out _⟩
  · have hs : 0 < (txt t).size := by rw [txt_size']; cases t with | nil => exact (ht rfl).elim | cons c r => simp
    have HN := Lib.hid (show ended (.gap m []) t = .bad 32 from by show gapSt m t = _; unfold gapSt; rw [if_neg ht])
    have HB := Lib.hid (rd_put3 (rd_put6 h 32) 0)
    have HC := Lib.hid (fun a b => ((Chg.refl (fun k => k = g) w).put ⟨g, 6, none⟩ a (.inl rfl)).put ⟨g, 3, none⟩ b (.inl rfl))
    obtain ⟨T, hT⟩ : ∃ T, T = txt t := ⟨_, rfl⟩
    rw [← hT] at hs ⊢
    have ht0 : T.toList.isEmpty = false := text_full hs
    clear h hT ht
    clear hS
    go_enter Tryz.func57, Tryz.ntmps57
    go_wp2_with fail
    go_end0
    exact ⟨rfl, by rw [HN.out]; exact ⟨2, 0, S, 0, _, HB.out⟩, HC.out _ _⟩
set_option maxRecDepth 100000 in
set_option maxHeartbeats 4000000 in
theorem rended_trail (g m S : Nat) (t : Bs) (w : World) (hS : S + m = 1048576) (h : RBlk w g 2 0 S 3 ⟨#[]⟩ false 0) (hl : t.length ≤ 1025) :
    Calls Tryz.prog 57 #[.pointer (some ⟨g, 0, none⟩), .string (txt t)] w (REndedPost g (.trail m []) t w) := by
  have HSS := Lib.hid hS
  have hS6 : S ≤ 1048576 := by omega
  have c3 : w.cell? ⟨g, 3, none⟩ = some (.int .i64 3) := rd3 h
  have c5 : w.cell? ⟨g, 5, none⟩ = some (.bool false) := rd5 h
  have f5 := free h 5
  by_cases ht : t = []
  · subst ht
    rw [txt_nil]
    have HB := Lib.hid (rd_put5 h true)
    have HC := Lib.hid (fun a => (Chg.refl (fun k => k = g) w).put ⟨g, 5, none⟩ a (.inl rfl))
    clear h
    clear hS
    go_enter Tryz.func57, Tryz.ntmps57
    go_wp2_with fail
    go_end0
    exact ⟨rfl, ⟨2, 0, S, 3, _, HB.out⟩, HC.out _⟩
  · have hs : 0 < (txt t).size := by rw [txt_size']; cases t with | nil => exact (ht rfl).elim | cons c r => simp
    have HE := Lib.hid (show ended (.trail m []) t = if (fldOf (txt t)).2 = 0 then .trail m [] else .bad (fldOf (txt t)).2 from by show trailSt m t = _; unfold trailSt; rw [if_neg ht])
    have hsz : (txt t).size ≤ 70368744177664 := by rw [txt_size']; omega
    obtain ⟨T, hTT⟩ : ∃ T, T = txt t := ⟨_, rfl⟩
    rw [← hTT] at hs HE hsz ⊢
    have ht0 : T.toList.isEmpty = false := text_full hs
    have HV := Lib.hid (parseVal_of T)
    have HP := Lib.hid (refParse_any T w hsz)
    obtain ⟨⟨⟨a, b⟩, e0⟩, hR⟩ : ∃ R, R = fldOf T := ⟨_, rfl⟩
    rw [← hR] at HV HE
    have HH := Lib.hid h
    have HLt := block_lt h
    clear h hTT ht hR hl hsz f5
    clear hS
    go_enter Tryz.func57, Tryz.ntmps57
    go_wp2_with fail
    refine HP.out.mono ?_
    rintro e w1 ⟨rfl, hb⟩
    rw [HV.out]
    unfold FV
    have HB := Lib.hid hb
    have HK : RBlk w1 g 2 0 S 3 ⟨#[]⟩ false 0 := Bl.old hb HLt HH.out
    have d6 : w1.cell? ⟨g, 6, none⟩ = some (.int .i64 0) := rd6 HK
    have f6 := free HK 6
    have hall : ∀ X, RBlk (w1.alloc X) g 2 0 S 3 ⟨#[]⟩ false 0 := fun X => (old_block _ _ (block_lt HK)).trans HK
    have e6 : ∀ X, (w1.alloc X).cell? ⟨g, 6, none⟩ = some (.int .i64 0) := fun X => rd6 (hall X)
    have g6 : ∀ X, (w1.alloc X).frozen? ⟨g, 6, none⟩ = false := fun X => free (hall X) 6
    have HK6 := Lib.hid (rd_put6 HK e0)
    have HA6 := Lib.hid (fun X => rd_put6 (hall X) e0)
    have HC := Lib.hid (show ∀ x, Chg (fun k => k = g) w (w1.setCell ⟨g, 6, none⟩ x) from fun x => (Chg.of_below (O := fun k => k = g) hb).put _ _ (.inl rfl))
    have HCA := Lib.hid (show ∀ X x, Chg (fun k => k = g) w ((w1.alloc X).setCell ⟨g, 6, none⟩ x) from fun X x => ((Chg.of_below (O := fun k => k = g) hb).alloc X).put _ _ (.inl rfl))
    have HR := Lib.hid (show ∀ w', RBlk w' g 2 0 S 3 ⟨#[]⟩ false e0 → RDec w' g (ended (.trail m []) t) from fun w' hw => by
      rw [HE.out]
      by_cases h0 : e0 = 0
      · subst h0; exact ⟨S, HSS.out, hw⟩
      · rw [if_neg h0]; exact ⟨2, 0, S, 3, _, hw⟩)
    clear hb HK hall
    go_wp2_with fail
    go_end0
    first
      | exact ⟨rfl, HR.out _ (HA6.out _), HCA.out _ _⟩
      | exact ⟨rfl, HR.out _ HK6.out, HC.out _⟩
/-- The reference's ended, at any line. -/
theorem rended_any (g : Nat) (s : St) (t : Bs) (w : World) (h : RDec w g s) (hs : bare s) (hl : t.length ≤ 1025) : Calls Tryz.prog 57 #[.pointer (some ⟨g, 0, none⟩), .string (txt t)] w (REndedPost g s t w) := by
  cases s with
  | size m l => obtain rfl : l = [] := hs; obtain ⟨S, hS, h⟩ := h; exact rended_size g m S t w hS h hl
  | gap m l => obtain rfl : l = [] := hs; obtain ⟨S, hS, h⟩ := h; exact rended_gap g m S t w hS h
  | trail m l => obtain rfl : l = [] := hs; obtain ⟨S, hS, h⟩ := h; exact rended_trail g m S t w hS h hl
  | _ => exact hs.elim
end Go.Proofs.YtcolnidgembniaaGreatDoor.Fr
/-
  Where the reference's Feed stands at its loop's head, and what a byte leaves. No condition.
-/
namespace Go.Proofs.YtcolnidgembniaaGreatDoor.Fr
open Go.RowKit Go.Proofs.YtcolnidgembniaaGreatDoor.Tk Go.Proofs.YtcolnidgembniaaGreatDoor.Fd Go.Proofs.YtcolnidgembniaaGreatDoor.Hd
set_option linter.unusedVariables false

/-- Where the reference's Feed stands at its loop's head. -/
structure RAt (g : Nat) (s : St) (b : Bs) (w : World) (k : Nat) (acc : Bs) (st : St) (ov : Value) (wr : World) : Prop where
  le : k ≤ b.length
  eq : run s b = (acc ++ (run st (b.drop k)).1, k + (run st (b.drop k)).2.1, (run st (b.drop k)).2.2)
  good : Good st
  accLe : acc.length ≤ k
  own : Own wr w.heap.size ov acc
  dec : RDec wr g st
  chg : Chg (fun k => k = g) w wr
theorem RAt.start {g : Nat} {s : St} {b : Bs} {w : World} (h : RDec w g s) (hG : Good s) : RAt g s b w 0 [] s (.slice none 0 0) w :=
  ⟨Nat.zero_le _, by simp, hG, Nat.le_refl _, Own.nil _ _, h, Chg.refl _ _⟩
theorem RAt.ends {g : Nat} {s : St} {b : Bs} {w : World} {k : Nat} {acc : Bs} {st : St} {ov : Value} {wr : World} (h : RAt g s b w k acc st ov wr) (ho : over st = true ∨ k = b.length) : run s b = (acc, k, st) := by
  rw [h.eq]
  rcases ho with ho | ho
  · rw [run_over ho]; simp
  · rw [ho, List.drop_length, run_nil]; simp
theorem RAt.next {g : Nat} {s : St} {b : Bs} {w : World} {k : Nat} {acc : Bs} {st : St} {ov : Value} {wr : World} (h : RAt g s b w k acc st ov wr) (hk : k < b.length) (ho : over st = false)
    {x : Bs} {st' : St} (hs : step st b[k] = (x, st')) {ov' : Value} {w' : World} (hown : Own w' w.heap.size ov' (acc ++ x)) (hdec : RDec w' g st') (hc : Chg (fun k => k = g) w w') : RAt g s b w (k + 1) (acc ++ x) st' ov' w' := by
  refine ⟨by omega, ?_, ?_, ?_, hown, hdec, hc⟩
  · rw [h.eq, List.drop_eq_getElem_cons hk, run_cons ho, hs]
    simp only [List.append_assoc, Prod.mk.injEq, true_and, and_true]
    omega
  · have := good_step h.good b[k]; rw [hs] at this; exact this
  · have := step_out st b[k]; rw [hs] at this; have h2 := h.accLe; rw [List.length_append]; simp at this; omega
theorem RDec.tells {w : World} {g : Nat} {s : St} (h : RDec w g s) : ∃ K L S P o, RBlk w g K L S P o (doneOf s) (errOf s) := by
  cases s with
  | len n => exact ⟨_, _, _, _, _, h⟩
  | opn n => obtain ⟨S, _, h⟩ := h; exact ⟨_, _, _, _, _, h⟩
  | size m l => obtain ⟨S, _, h⟩ := h; exact ⟨_, _, _, _, _, h⟩
  | chunk m n => obtain ⟨S, _, h⟩ := h; exact ⟨_, _, _, _, _, h⟩
  | gap m l => obtain ⟨S, _, h⟩ := h; exact ⟨_, _, _, _, _, h⟩
  | trail m l => obtain ⟨S, _, h⟩ := h; exact ⟨_, _, _, _, _, h⟩
  | done => exact h
  | bad e => exact h
theorem RBlk.below {w w' : World} {g K L S P E : Nat} {o : ByteArray} {D : Bool} (h : RBlk w g K L S P o D E) (hb : Below w.heap.size w w') : RBlk w' g K L S P o D E := Bl.old hb (block_lt h) h
theorem RDec.below {w w' : World} {g : Nat} {s : St} (h : RDec w g s) (hb : Below w.heap.size w w') : RDec w' g s := by
  cases s with
  | len n => exact RBlk.below h hb
  | opn n => obtain ⟨S, h1, h⟩ := h; exact ⟨S, h1, h.below hb⟩
  | size m l => obtain ⟨S, h1, h⟩ := h; exact ⟨S, h1, h.below hb⟩
  | chunk m n => obtain ⟨S, h1, h⟩ := h; exact ⟨S, h1, h.below hb⟩
  | gap m l => obtain ⟨S, h1, h⟩ := h; exact ⟨S, h1, h.below hb⟩
  | trail m l => obtain ⟨S, h1, h⟩ := h; exact ⟨S, h1, h.below hb⟩
  | done => obtain ⟨K, L, S, P, o, h⟩ := h; exact ⟨K, L, S, P, o, h.below hb⟩
  | bad e => obtain ⟨K, L, S, P, o, h⟩ := h; exact ⟨K, L, S, P, o, h.below hb⟩
def RFeedPost (g : Nat) (s : St) (b : Bs) (w : World) (e : Ending) (w' : World) : Prop :=
  ∃ ov, e = .returned (.tuple #[ov, .int .i64 ((run s b).2.1 : Nat), .bool (doneOf (run s b).2.2), .int .i64 (errOf (run s b).2.2 : Nat)]) ∧ Own w' w.heap.size ov (run s b).1 ∧ RDec w' g (run s b).2.2 ∧ Chg (fun k => k = g) w w'
theorem RAt.post {g : Nat} {s : St} {b : Bs} {w : World} {k : Nat} {acc : Bs} {st : St} {ov : Value} {wr : World} (h : RAt g s b w k acc st ov wr) (ho : over st = true ∨ k = b.length) {n : Nat} :
    RFeedPost g s b w (.returned (.tuple #[ov, .int .i64 (k : Int), .bool (doneOf st), .int .i64 (errOf st : Nat)])) (wr.drewN n) := by
  unfold RFeedPost
  rw [h.ends ho]
  exact ⟨ov, rfl, h.own.below (below_drewN (Below.refl _ _) n), h.dec.below (below_drewN (Below.refl _ _) n), h.chg.drewN n⟩
theorem byts_one (w : World) (c : UInt8) : Byts (w.alloc (.cells #[.int .u8 (c.toNat : Int)] 5)) (.slice (some ⟨w.heap.size, 0, none⟩) 1 1) [c] := by
  have HN := new_block w (.cells #[.int .u8 (c.toNat : Int)] 5)
  refine .inr ⟨w.heap.size, 0, 1, rfl, Nat.le_refl 1, by unfold maxLen; omega, by simp, fun j hj => ?_⟩
  rw [Lib.cell_of_heap HN, Nat.zero_add]
  have : j = 0 := by simpa using hj
  subst this; rfl
/-- What an append of a byte leaves of the decoder and of the bytes. -/
theorem app_one {x : World} {g base : Nat} {ov : Value} {acc : Bs} {c : UInt8} {v' : Value} {w' : World} (hown : Own x base ov acc) (hgb : g < base) (hp : AppPost base ov acc [c] (x.alloc (.cells #[.int .u8 (c.toNat : Int)] 5)) v' w') :
    Own w' base v' (acc ++ [c]) ∧ (∀ K L S P o D E, RBlk x g K L S P o D E → RBlk w' g K L S P o D E) ∧ Chg (fun k => base ≤ k) x w' := by
  obtain ⟨h1, h2, _⟩ := hp
  have hne : ¬ ov.ownBlock = some g := fun e => by have := (hown.lt _ e).1; omega
  refine ⟨h1, fun K L S P o D E hb => ?_, ?_⟩
  · exact h2.old (k := g) hne ((old_block _ _ (block_lt hb)).trans hb)
  · exact ((Chg.refl (fun k => base ≤ k) x).alloc _).trans h2 (fun k hk => .inl (hown.lt _ hk).1)
end Go.Proofs.YtcolnidgembniaaGreatDoor.Fr
/-
  The reference's Feed: what it returns and leaves. Condition: at most 2^40 bytes are fed.
-/
namespace Go.Proofs.YtcolnidgembniaaGreatDoor.Fr
open Go.RowKit Go.Proofs.YtcolnidgembniaaGreatDoor.Tk Go.Proofs.YtcolnidgembniaaGreatDoor.Fd Go.Proofs.YtcolnidgembniaaGreatDoor.Hd
set_option linter.unusedVariables false

theorem last_get {T : ByteArray} {l i : Bs} {d : UInt8} (hT : T = txt l) (hl : l = i ++ [d]) (h : l.length - 1 < T.size) : T[l.length - 1] = d := by
  subst hT hl
  rw [ByteArray.getElem_eq_getElem_data]
  show (i ++ [d]).toArray[(i ++ [d]).length - 1]'_ = d
  simp
theorem last_no {T : ByteArray} {l i : Bs} {d : UInt8} (hT : T = txt l) (hl : l = i ++ [d]) (h : l.length - 1 < T.size) (h3 : (((T[l.length - 1]'h).toNat : Int) == 13) = false) : T = txt (own l) := by
  rw [last_get hT hl h] at h3
  have hd : d ≠ 13 := by rintro rfl; revert h3; decide
  rw [hT, hl]
  simp [own, hd]
theorem last_13 {T : ByteArray} {l i : Bs} {d : UInt8} (hT : T = txt l) (hl : l = i ++ [d]) (h : l.length - 1 < T.size) (h3 : (((T[l.length - 1]'h).toNat : Int) == 13) = true) : T.extract 0 (l.length - 1) = txt (own l) := by
  rw [last_get hT hl h] at h3
  have hd : d = 13 := by
    apply UInt8.toNat.inj
    have := eq_of_beq h3
    show d.toNat = 13
    omega
  rw [hT, hl]
  subst hd
  apply of_data
  rw [ByteArray.data_extract, Array.toList_extract, List.extract_eq_take_drop]
  simp [txt, own]
/-- The reference's decoder at a line. -/
theorem RDec.line {w : World} {g : Nat} {s : St} {l : Bs} (h : RDec w g s) (hl : lineOf s = some l) :
    ∃ S P, (P = 0 ∨ P = 2 ∨ P = 3) ∧ RBlk w g 2 0 S P (txt l) false 0 ∧ ∀ w' x, RBlk w' g 2 0 S P (txt x) false 0 → RDec w' g (onto (emptied s) x) := by
  cases s with
  | size m k => cases hl; obtain ⟨S, h1, h⟩ := h; exact ⟨S, 0, .inl rfl, h, fun w' x hx => ⟨S, h1, hx⟩⟩
  | gap m k => cases hl; obtain ⟨S, h1, h⟩ := h; exact ⟨S, 2, .inr (.inl rfl), h, fun w' x hx => ⟨S, h1, hx⟩⟩
  | trail m k => cases hl; obtain ⟨S, h1, h⟩ := h; exact ⟨S, 3, .inr (.inr rfl), h, fun w' x hx => ⟨S, h1, hx⟩⟩
  | _ => cases hl
theorem bare_emptied {s : St} {l : Bs} (h : lineOf s = some l) : bare (onto (emptied s) []) ∧ ended (onto (emptied s) []) = ended s ∧ ∀ x, onto (emptied s) (l ++ x) = onto s x := by
  cases s <;> first | (injection h with h; subst h; exact ⟨rfl, rfl, fun x => rfl⟩) | cases h
theorem no_line {s : St} (h : over s = false) (hl : lineOf s = none) : (∃ n, s = .len n) ∨ (∃ n, s = .opn n) ∨ ∃ m n, s = .chunk m n := by
  cases s with
  | len n => exact .inl ⟨n, rfl⟩
  | opn n => exact .inr (.inl ⟨n, rfl⟩)
  | chunk m n => exact .inr (.inr ⟨m, n, rfl⟩)
  | done => cases h
  | bad e => cases h
  | _ => cases hl
set_option maxRecDepth 100000 in
set_option maxHeartbeats 16000000 in
theorem rfeed_any (g : Nat) (s : St) (v : Value) (b : Bs) (w : World) (h : RDec w g s) (hG : Good s) (hv : Byts w v b) (hvo : 0 < b.length → v.ownBlock ≠ some g) (hbl : b.length ≤ 1099511627775) (hg : g < w.heap.size) :
    Calls Tryz.prog 37 #[.pointer (some ⟨g, 0, none⟩), v] w (RFeedPost g s b w) := by
  obtain ⟨va, vc, hvs⟩ := hv.shape
  have HF0 := Lib.hid (RAt.start (b := b) h hG)
  have HV := Lib.hid hv
  subst hvs
  clear h hv hG
  go_enter Tryz.func37, Tryz.ntmps37
  go_wp2_with fail
  go_loopw [8, 9, 10, 11] (fun v8 v9 v10 v11 wr => ∃ (k : Nat) (acc : Bs) (st : St), v9 = .int .i64 (k : Int) ∧ RAt g s b w k acc st v8 wr) (fun _ v9 _ _ _ => b.length - (intOf v9).toNat)
  case atStart => exact ⟨0, [], s, rfl, HF0.out⟩
  case round =>
    obtain ⟨k, acc, st, rfl, hAt⟩ := hrel
    have HA := Lib.hid hAt
    have hk := hAt.le
    have HP := Lib.hid (fun (n : Nat) (ho : over st = true ∨ k = b.length) => (show RFeedPost g s b w (.returned (.tuple #[u8, .int .i64 (k : Int), .bool (doneOf st), .int .i64 (errOf st : Nat)])) (wr.drewN n) from hAt.post ho))
    clear hAt
    by_cases hlt : k < b.length
    · cases hov : over st with
      | true =>
        have HOv := Lib.hid hov
        obtain ⟨K, L, S, P, o, hb⟩ := HA.out.dec.tells
        have c5 := rd5 hb
        have c6 := rd6 hb
        have hGs := HA.out.good
        cases st with
        | done =>
          have c6' : wr.cell? ⟨g, 6, none⟩ = some (.int .i64 0) := c6
          have c5' : wr.cell? ⟨g, 5, none⟩ = some (.bool true) := c5
          clear c5 c6 hb hov hGs
          go_wp2_with fail
          go_quiet (fail)
          all_goals try go_wp2_with fail
          all_goals
            refine bodyPost_ret (four_results rfl _ _ _) rfl ?_
            exact HP.out _ (.inl HOv.out)
        | bad e =>
          have he : e ≠ 0 := by rcases hGs with h | h | h | h <;> omega
          have hne : ((e : Int) == 0) = false := by rw [beq_eq_false_iff_ne]; omega
          have c6' : wr.cell? ⟨g, 6, none⟩ = some (.int .i64 (e : Int)) := c6
          have c5' : wr.cell? ⟨g, 5, none⟩ = some (.bool false) := c5
          clear c5 c6 hb hov hGs he
          go_wp2_with fail
          go_quiet (fail)
          all_goals try go_wp2_with fail
          all_goals
            refine bodyPost_ret (four_results rfl _ _ _) rfl ?_
            exact HP.out _ (.inl HOv.out)
        | _ => cases hov
      | false =>
        rcases HV.out with ⟨hb0, _⟩ | ⟨B, off, cap, hve, hcap, hcm, hB, hh⟩
        · rw [hb0] at hlt; simp at hlt
        injection hve with e1 e2 e3
        subst e1 e3
        have hBg : ¬ B = g := fun e => hvo (by omega) (by subst e; rfl)
        obtain ⟨c, hc⟩ : ∃ c, c = b[k] := ⟨_, rfl⟩
        have cb : wr.cell? ⟨B, off + k, none⟩ = some (.int .u8 (c.toNat : Int)) := by rw [World.cell?_of_block (w := w) (HA.out.chg.block B hB hBg), hc]; exact hh k hlt
        have HN := Lib.hid (fun (x : Bs) (st' : St) (hs : step st c = (x, st')) (ov' : Value) (w' : World) (h1 : Own w' w.heap.size ov' (acc ++ x)) (h2 : RDec w' g st') (h3 : Chg (fun k => k = g) w w') => HA.out.next hlt hov (by rw [← hc]; exact hs) h1 h2 h3)
        have hcm' : vc ≤ 9223372036854775807 := by unfold maxLen at hcm; omega
        have hck : k < vc := by omega
        have hal := HA.out.accLe
        have hws : w.heap.size ≤ wr.heap.size := HA.out.chg.size
        have hgw : g < wr.heap.size := by omega
        clear hh hc e2 hcm hBg
        cases hl : lineOf st with
        | none =>
          rcases no_line hov hl with ⟨n, hst⟩ | ⟨n, hst⟩ | ⟨m, n, hst⟩
          · subst hst
            have hb : RBlk wr g 1 n 0 0 ⟨#[]⟩ false 0 := HA.out.dec
            have hn0 : 0 < n := HA.out.good.1
            have hn1 : n ≤ 1048576 := HA.out.good.2
            obtain ⟨m, rfl⟩ : ∃ m, n = m + 1 := ⟨n - 1, by omega⟩
            have HBk := Lib.hid hb
            have c0 : wr.cell? ⟨g, 0, none⟩ = some (.int .i64 1) := rd0 hb
            have c5 := rd5 hb
            have c6 : wr.cell? ⟨g, 6, none⟩ = some (.int .i64 0) := rd6 hb
            have HO := Lib.hid ((HA.out.own).below ((Below.refl wr.heap.size wr).alloc (Nat.le_refl _) (.cells #[.int .u8 (c.toNat : Int)] 5)))
            have HY := Lib.hid (byts_one wr c)
            have hs1 : w.heap.size ≤ (wr.alloc (.cells #[.int .u8 (c.toNat : Int)] 5)).heap.size := by simp; omega
            have HOW := Lib.hid HA.out.own
            have HCH := Lib.hid HA.out.chg
            have HL1 := Lib.hid (show acc.length + [c].length ≤ 1099511627776 from by simp; omega)
            clear hb hov hl
            by_cases hm : m = 0
            · subst hm
              have HS := Lib.hid (show step (.len 1) c = ([c], .done) from rfl)
              go_wp2_with (at_builtin; refine wpList_append_any _ rfl _ _ 22 rfl w.heap.size _ _ acc [c] rfl rfl hs1 HO.out (src_byts HY.out) HL1.out ?_; intro v4 w4 hp4; obtain ⟨ho4, hk4, hc4⟩ := app_one HOW.out hg hp4; obtain ⟨a4, cc4, hv4⟩ := ho4.form; obtain ⟨n4, hn4⟩ : ∃ n4, n4 = (acc ++ [c]).length := ⟨_, rfl⟩; rw [← hn4] at hv4; subst hv4; have HO4 := Lib.hid ho4; have HK4 := Lib.hid hk4; have HC4 := Lib.hid (HCH.out.trans hc4 (fun i hi => .inr hi)); have hq4 := hk4 _ _ _ _ _ _ _ HBk.out; have q0 : w4.cell? ⟨g, 0, none⟩ = some (.int .i64 1) := rd0 hq4; have q1 := rd1 hq4; have q5 := rd5 hq4; have r1 := free hq4 1; have r5 := free hq4 5; clear hq4; clear hn4 ho4 hk4 hc4 hp4)
              have HFin := Lib.hid (HN.out _ _ HS.out _ ((w4.setCell ⟨g, 1, none⟩ (.int .i64 0)).setCell ⟨g, 5, none⟩ (.bool true)) (HO4.out.chg ((Chg.refl (fun k => k = g) w4).put ⟨g, 1, none⟩ _ (.inl rfl) |>.put ⟨g, 5, none⟩ _ (.inl rfl)) (fun k hk e => by have := (HO4.out.lt k hk).1; omega)) ⟨_, _, _, _, _, rd_put5 (rd_put1 (HK4.out _ _ _ _ _ _ _ HBk.out) 0) true⟩ ((HC4.out.put ⟨g, 1, none⟩ _ (.inl rfl)).put ⟨g, 5, none⟩ _ (.inl rfl)))
              go_wp2_with fail
              go_roundw
              case rel => exact ⟨k + 1, _, _, by go_num, HFin.out⟩
              case measure => simp [intOf]; omega
            · have HS := Lib.hid (show step (.len (m + 1)) c = ([c], .len m) from by show ([c], if m + 1 ≤ 1 then St.done else .len (m + 1 - 1)) = _; rw [if_neg (by omega)]; rfl)
              have hz : ¬ ((m : Int) = 0) := by omega
              have hz2 : ((m : Int) == 0) = false := by simp; omega
              go_wp2_with (at_builtin; refine wpList_append_any _ rfl _ _ 22 rfl w.heap.size _ _ acc [c] rfl rfl hs1 HO.out (src_byts HY.out) HL1.out ?_; intro v4 w4 hp4; obtain ⟨ho4, hk4, hc4⟩ := app_one HOW.out hg hp4; obtain ⟨a4, cc4, hv4⟩ := ho4.form; obtain ⟨n4, hn4⟩ : ∃ n4, n4 = (acc ++ [c]).length := ⟨_, rfl⟩; rw [← hn4] at hv4; subst hv4; have HO4 := Lib.hid ho4; have HK4 := Lib.hid hk4; have HC4 := Lib.hid (HCH.out.trans hc4 (fun i hi => .inr hi)); have hq4 := hk4 _ _ _ _ _ _ _ HBk.out; have q0 : w4.cell? ⟨g, 0, none⟩ = some (.int .i64 1) := rd0 hq4; have q1 := rd1 hq4; have q5 := rd5 hq4; have r1 := free hq4 1; have r5 := free hq4 5; clear hq4; clear hn4 ho4 hk4 hc4 hp4)
              have HFin := Lib.hid (HN.out _ _ HS.out _ (w4.setCell ⟨g, 1, none⟩ (.int .i64 (m : Int))) (HO4.out.chg ((Chg.refl (fun k => k = g) w4).put ⟨g, 1, none⟩ _ (.inl rfl)) (fun k hk e => by have := (HO4.out.lt k hk).1; omega)) (show RDec _ g (.len m) from rd_put1 (HK4.out _ _ _ _ _ _ _ HBk.out) m) (HC4.out.put ⟨g, 1, none⟩ _ (.inl rfl)))
              go_wp2_with fail
              go_roundw
              case rel => exact ⟨k + 1, _, _, by go_num, HFin.out⟩
              case measure => simp [intOf]; omega
          · subst hst
            obtain ⟨SS, hSS, hb⟩ := HA.out.dec
            have c0 : wr.cell? ⟨g, 0, none⟩ = some (.int .i64 3) := rd0 hb
            have c2 := rd2 hb
            have c5 := rd5 hb
            have c6 : wr.cell? ⟨g, 6, none⟩ = some (.int .i64 0) := rd6 hb
            have f2 := free hb 2
            have hS6 : SS ≤ 1048576 := by omega
            obtain ⟨x0, hx0⟩ : ∃ x0, x0 = wr.setCell ⟨g, 2, none⟩ (.int .i64 ((SS : Int) + 1)) := ⟨_, rfl⟩
            have hb0 : RBlk x0 g 3 0 (SS + 1) 0 ⟨#[]⟩ false 0 := by rw [hx0]; exact rd_put2 hb (SS + 1)
            have hc0 : Chg (fun k => k = g) w x0 := by rw [hx0]; exact HA.out.chg.put ⟨g, 2, none⟩ _ (.inl rfl)
            have ho0 : Own x0 w.heap.size u8 acc := HA.out.own.chg (O := fun k => k = g) (by rw [hx0]; exact (Chg.refl _ wr).put ⟨g, 2, none⟩ _ (.inl rfl)) (fun k hk e => by have := (HA.out.own.lt k hk).1; omega)
            have x2 := rd2 hb0
            have x5 := rd5 hb0
            have x6 : x0.cell? ⟨g, 6, none⟩ = some (.int .i64 0) := rd6 hb0
            have y6 := free hb0 6
            have HBk := Lib.hid hb0
            have HX0 := Lib.hid hx0
            have HCH := Lib.hid hc0
            have HOW := Lib.hid ho0
            by_cases hn : n = 0
            · subst hn
              have hS7 : 1048576 < (SS : Int) + 1 := by omega
              have HS := Lib.hid (show step (.opn 0) c = ([], .bad 3) from rfl)
              have hfin := HN.out _ _ HS.out u8 (x0.setCell ⟨g, 6, none⟩ (.int .i64 3)) (by rw [List.append_nil]; exact ho0.chg (O := fun k => k = g) ((Chg.refl _ x0).put ⟨g, 6, none⟩ _ (.inl rfl)) (fun k hk e => by have := (ho0.lt k hk).1; omega)) ⟨_, _, _, _, _, rd_put6 hb0 3⟩ (hc0.put ⟨g, 6, none⟩ _ (.inl rfl))
              have HPo := Lib.hid (fun (m : Nat) => (show RFeedPost g s b w (.returned (.tuple #[u8, .int .i64 ((k : Int) + 1), .bool false, .int .i64 3])) ((x0.setCell ⟨g, 6, none⟩ (.int .i64 3)).drewN m) from by have := hfin.post (n := m) (.inl rfl); exact this))
              clear hb hSS hx0 hb0 hc0 ho0 hov hl hfin
              go_upto_region 8 with fail
              rw [← HX0.out]
              clear c0 c2 c5 c6 f2
              go_wp2_with fail
              go_quiet (fail)
              all_goals try go_wp2_with fail
              all_goals
                refine bodyPost_ret (four_results rfl _ _ _) rfl ?_
                exact HPo.out _
            · obtain ⟨m, rfl⟩ : ∃ m, n = m + 1 := ⟨n - 1, by omega⟩
              have hS7 : ¬ (1048576 < (SS : Int) + 1) := by omega
              have HS := Lib.hid (show step (.opn (m + 1)) c = ([c], .opn m) from rfl)
              have hSm : SS + 1 + m = 1048576 := by omega
              have HSm := Lib.hid hSm
              have HO := Lib.hid (ho0.below ((Below.refl x0.heap.size x0).alloc (Nat.le_refl _) (.cells #[.int .u8 (c.toNat : Int)] 5)))
              have HY := Lib.hid (byts_one x0 c)
              have hs1 : w.heap.size ≤ (x0.alloc (.cells #[.int .u8 (c.toNat : Int)] 5)).heap.size := by have := hc0.size; simp; omega
              have HL1 := Lib.hid (show acc.length + [c].length ≤ 1099511627776 from by simp; omega)
              clear hb hSS hx0 hb0 hc0 ho0 hov hl hn hSm
              go_upto_region 8 with fail
              rw [← HX0.out]
              clear c0 c2 c5 c6 f2
              go_wp2_with (at_builtin; refine wpList_append_any _ rfl _ _ 22 rfl w.heap.size _ _ acc [c] rfl rfl hs1 HO.out (src_byts HY.out) HL1.out ?_; intro v4 w4 hp4; obtain ⟨ho4, hk4, hc4⟩ := app_one HOW.out hg hp4; obtain ⟨a4, cc4, hv4⟩ := ho4.form; obtain ⟨n4, hn4⟩ : ∃ n4, n4 = (acc ++ [c]).length := ⟨_, rfl⟩; rw [← hn4] at hv4; subst hv4; have HO4 := Lib.hid ho4; have HK4 := Lib.hid hk4; have HC4 := Lib.hid (HCH.out.trans hc4 (fun i hi => .inr hi)); clear hs1; clear hn4 ho4 hk4 hc4 hp4)
              have HFin := Lib.hid (HN.out _ _ HS.out _ w4 HO4.out ⟨SS + 1, HSm.out, HK4.out _ _ _ _ _ _ _ HBk.out⟩ HC4.out)
              go_wp2_with fail
              go_roundw
              case rel => exact ⟨k + 1, _, _, by go_num, HFin.out⟩
              case measure => simp [intOf]; omega
          · subst hst
            obtain ⟨SS, hSS, hdd⟩ := HA.out.dec
            have HSS := Lib.hid hSS
            have hb : RBlk wr g 2 n SS 1 ⟨#[]⟩ false 0 := hdd
            have hn0 : 0 < n := HA.out.good.1
            have hn1 : n ≤ 1048576 := HA.out.good.2.1
            obtain ⟨j, rfl⟩ : ∃ j, n = j + 1 := ⟨n - 1, by omega⟩
            have HBk := Lib.hid hb
            have c0 : wr.cell? ⟨g, 0, none⟩ = some (.int .i64 2) := rd0 hb
            have c3 : wr.cell? ⟨g, 3, none⟩ = some (.int .i64 1) := rd3 hb
            have c5 := rd5 hb
            have c6 : wr.cell? ⟨g, 6, none⟩ = some (.int .i64 0) := rd6 hb
            have HO := Lib.hid ((HA.out.own).below ((Below.refl wr.heap.size wr).alloc (Nat.le_refl _) (.cells #[.int .u8 (c.toNat : Int)] 5)))
            have HY := Lib.hid (byts_one wr c)
            have hs1 : w.heap.size ≤ (wr.alloc (.cells #[.int .u8 (c.toNat : Int)] 5)).heap.size := by simp; omega
            have HOW := Lib.hid HA.out.own
            have HCH := Lib.hid HA.out.chg
            have HL1 := Lib.hid (show acc.length + [c].length ≤ 1099511627776 from by simp; omega)
            clear hb hov hl hSS hdd
            by_cases hm : j = 0
            · subst hm
              have HS := Lib.hid (show step (.chunk m 1) c = ([c], .gap m []) from rfl)
              go_wp2_with (at_builtin; refine wpList_append_any _ rfl _ _ 22 rfl w.heap.size _ _ acc [c] rfl rfl hs1 HO.out (src_byts HY.out) HL1.out ?_; intro v4 w4 hp4; obtain ⟨ho4, hk4, hc4⟩ := app_one HOW.out hg hp4; obtain ⟨a4, cc4, hv4⟩ := ho4.form; obtain ⟨n4, hn4⟩ : ∃ n4, n4 = (acc ++ [c]).length := ⟨_, rfl⟩; rw [← hn4] at hv4; subst hv4; have HO4 := Lib.hid ho4; have HK4 := Lib.hid hk4; have HC4 := Lib.hid (HCH.out.trans hc4 (fun i hi => .inr hi)); have hq4 := hk4 _ _ _ _ _ _ _ HBk.out; have q0 : w4.cell? ⟨g, 0, none⟩ = some (.int .i64 2) := rd0 hq4; have q1 := rd1 hq4; have q3 : w4.cell? ⟨g, 3, none⟩ = some (.int .i64 1) := rd3 hq4; have r1 := free hq4 1; have r3 := free hq4 3; clear hq4; clear hn4 ho4 hk4 hc4 hp4)
              have HFin := Lib.hid (HN.out _ _ HS.out _ ((w4.setCell ⟨g, 1, none⟩ (.int .i64 0)).setCell ⟨g, 3, none⟩ (.int .i64 2)) (HO4.out.chg ((Chg.refl (fun k => k = g) w4).put ⟨g, 1, none⟩ _ (.inl rfl) |>.put ⟨g, 3, none⟩ _ (.inl rfl)) (fun k hk e => by have := (HO4.out.lt k hk).1; omega)) ⟨SS, HSS.out, rd_put3 (rd_put1 (HK4.out _ _ _ _ _ _ _ HBk.out) 0) 2⟩ ((HC4.out.put ⟨g, 1, none⟩ _ (.inl rfl)).put ⟨g, 3, none⟩ _ (.inl rfl)))
              go_wp2_with fail
              go_roundw
              case rel => exact ⟨k + 1, _, _, by go_num, HFin.out⟩
              case measure => simp [intOf]; omega
            · have HS := Lib.hid (show step (.chunk m (j + 1)) c = ([c], .chunk m j) from by show ([c], if j + 1 ≤ 1 then St.gap m [] else .chunk m (j + 1 - 1)) = _; rw [if_neg (by omega)]; rfl)
              have hz : ¬ ((j : Int) = 0) := by omega
              have hz2 : ((j : Int) == 0) = false := by simp; omega
              go_wp2_with (at_builtin; refine wpList_append_any _ rfl _ _ 22 rfl w.heap.size _ _ acc [c] rfl rfl hs1 HO.out (src_byts HY.out) HL1.out ?_; intro v4 w4 hp4; obtain ⟨ho4, hk4, hc4⟩ := app_one HOW.out hg hp4; obtain ⟨a4, cc4, hv4⟩ := ho4.form; obtain ⟨n4, hn4⟩ : ∃ n4, n4 = (acc ++ [c]).length := ⟨_, rfl⟩; rw [← hn4] at hv4; subst hv4; have HO4 := Lib.hid ho4; have HK4 := Lib.hid hk4; have HC4 := Lib.hid (HCH.out.trans hc4 (fun i hi => .inr hi)); have hq4 := hk4 _ _ _ _ _ _ _ HBk.out; have q0 : w4.cell? ⟨g, 0, none⟩ = some (.int .i64 2) := rd0 hq4; have q1 := rd1 hq4; have q3 : w4.cell? ⟨g, 3, none⟩ = some (.int .i64 1) := rd3 hq4; have r1 := free hq4 1; have r3 := free hq4 3; clear hq4; clear hn4 ho4 hk4 hc4 hp4)
              have HFin := Lib.hid (HN.out _ _ HS.out _ (w4.setCell ⟨g, 1, none⟩ (.int .i64 (j : Int))) (HO4.out.chg ((Chg.refl (fun k => k = g) w4).put ⟨g, 1, none⟩ _ (.inl rfl)) (fun k hk e => by have := (HO4.out.lt k hk).1; omega)) (show RDec _ g (.chunk m j) from ⟨SS, HSS.out, rd_put1 (HK4.out _ _ _ _ _ _ _ HBk.out) j⟩) (HC4.out.put ⟨g, 1, none⟩ _ (.inl rfl)))
              go_wp2_with fail
              go_roundw
              case rel => exact ⟨k + 1, _, _, by go_num, HFin.out⟩
              case measure => simp [intOf]; omega
        | some l =>
          obtain ⟨SS, PP, hP, hb, hback⟩ := HA.out.dec.line hl
          obtain ⟨hba, hen, hon⟩ := bare_emptied hl
          have hl25 : l.length ≤ 1025 := by have hG := HA.out.good; clear hback hba hen hon; cases st <;> first | (injection hl with hl; subst hl; exact hG.2) | cases hl
          have c0 : wr.cell? ⟨g, 0, none⟩ = some (.int .i64 2) := rd0 hb
          have c3 := rd3 hb
          have c5 := rd5 hb
          have c6 : wr.cell? ⟨g, 6, none⟩ = some (.int .i64 0) := rd6 hb
          have e2 := rd4 hb
          have g2 := free hb 4
          have hKA : RBlk (wr.drew.alloc (.cells #[.int .u8 (c.toNat : Int)] 5)) g _ _ _ _ _ _ _ := (old_block wr.drew _ (block_lt hb)).trans hb
          have e2' : (wr.alloc (.cells #[.int .u8 (c.toNat : Int)] 5)).cell? ⟨g, 4, none⟩ = some (.string (txt l)) := rd4 (w := wr.drew.alloc (.cells #[.int .u8 (c.toNat : Int)] 5)) hKA
          have g2' : (wr.alloc (.cells #[.int .u8 (c.toNat : Int)] 5)).frozen? ⟨g, 4, none⟩ = false := free (w := wr.drew.alloc (.cells #[.int .u8 (c.toNat : Int)] 5)) hKA 4
          have hcv : (convert 22 9 (.slice (some ⟨wr.heap.size, 0, none⟩) 1 1)).run Tryz.prog (wr.alloc (.cells #[.int .u8 (c.toNat : Int)] 5)).drew = .ok (.string ⟨#[c]⟩) (wr.alloc (.cells #[.int .u8 (c.toNat : Int)] 5)).drew :=
            Tk.run_back (P := Tryz.prog) _ 22 9 5 wr.heap.size 0 1 [c] Tryz.underlying22 Tryz.underlying5 Tryz.underlying9 (fun j hj => by
              have : j = 0 := by simpa using hj
              subst this
              rw [Nat.zero_add, show (wr.alloc (.cells #[.int .u8 (c.toNat : Int)] 5)).drew.cell? ⟨wr.heap.size, 0, none⟩ = (wr.alloc (.cells #[.int .u8 (c.toNat : Int)] 5)).cell? ⟨wr.heap.size, 0, none⟩ from rfl, Lib.cell_of_heap (new_block wr _)]; rfl)
          obtain ⟨X, hX⟩ : ∃ X, txt l ++ ⟨#[c]⟩ = X := ⟨_, rfl⟩
          have HX := Lib.hid (show X = txt (l ++ [c]) from by rw [← hX]; exact bytes_eq (by simp [txt]))
          have hXs : X.size = l.length + 1 := by rw [HX.out, txt_size']; simp
          have hls : (txt l).size ≤ 1025 := by rw [txt_size']; omega
          obtain ⟨x2, hx2⟩ : ∃ x2, x2 = ((wr.setCell ⟨g, 4, none⟩ (.string X)).alloc (.cells #[.int .u8 (c.toNat : Int)] 5)).drew := ⟨_, rfl⟩
          have hsp : (wr.setCell ⟨g, 4, none⟩ (.string X)).heap.size = wr.heap.size := by simp [World.setCell]
          have hb2 : RBlk x2 g 2 0 SS PP X false 0 := by rw [hx2]; exact (old_block _ _ (by rw [hsp]; exact hgw)).trans (rd_put4 hb X)
          have hc1 : Chg (fun k => k = g) wr x2 := by rw [hx2]; exact (((Chg.refl (fun k => k = g) wr).put ⟨g, 4, none⟩ (.string X) (.inl rfl)).alloc _).drew
          have hc2 : Chg (fun k => k = g) w x2 := HA.out.chg.trans hc1 (fun i hi => .inl hi)
          have ho2 : Own x2 w.heap.size u8 acc := HA.out.own.chg hc1 (fun k hk e => by have := (HA.out.own.lt k hk).1; omega)
          have i4 := rd4 hb2
          have i5 := rd5 hb2
          have i6 : x2.cell? ⟨g, 6, none⟩ = some (.int .i64 0) := rd6 hb2
          have j4 := free hb2 4
          have j6 := free hb2 6
          have HB2 := Lib.hid hb2
          have HX2 := Lib.hid hx2
          have HC2 := Lib.hid hc2
          have HO2 := Lib.hid ho2
          have HBK := Lib.hid hback
          have HEN := Lib.hid hen
          have HON := Lib.hid hon
          have HBA := Lib.hid hba
          have HLn := Lib.hid hl
          have hP1 : ((PP : Int) == 1) = false := by rcases hP with rfl | rfl | rfl <;> decide
          have hP2 : ¬ ((PP : Int) = 1) := by rcases hP with rfl | rfl | rfl <;> decide
          clear hx2 hsp hb hKA hback hba hen hon hov hl hb2 hc1 hc2 ho2 hP
          go_upto_region 18 with fail
          clear c0 c3 c5 c6
          go_region
          rw [← HX2.out]
          clear e2 g2 e2' g2' hcv hX cb
          by_cases h25 : 1025 ≤ l.length
          · have HS := Lib.hid (show step st c = ([], .bad 3) from by rw [step_line HLn.out]; unfold stepL; rw [if_pos h25])
            have hfin := HN.out _ _ HS.out u8 (x2.setCell ⟨g, 6, none⟩ (.int .i64 3)) (by rw [List.append_nil]; exact HO2.out.chg (O := fun k => k = g) ((Chg.refl _ x2).put ⟨g, 6, none⟩ _ (.inl rfl)) (fun k hk e => by have := (HO2.out.lt k hk).1; omega)) ⟨_, _, _, _, _, rd_put6 HB2.out 3⟩ (HC2.out.put ⟨g, 6, none⟩ _ (.inl rfl))
            have HPo := Lib.hid (fun (m : Nat) => (show RFeedPost g s b w (.returned (.tuple #[u8, .int .i64 ((k : Int) + 1), .bool false, .int .i64 3])) ((x2.setCell ⟨g, 6, none⟩ (.int .i64 3)).drewN m) from by have := hfin.post (n := m) (.inl rfl); exact this))
            clear hfin
            go_wp2_with fail
            go_quiet (fail)
            all_goals try go_wp2_with fail
            all_goals
              refine bodyPost_ret (four_results rfl _ _ _) rfl ?_
              exact HPo.out _
          · by_cases hc10 : c = 10
            · have hc10' : ((c.toNat : Int) == 10) = true := by rw [hc10]; rfl
              have HS := Lib.hid (show step st c = ([], ended st (own l)) from by rw [step_line HLn.out]; unfold stepL; rw [if_neg h25, if_pos hc10])
              obtain ⟨T, xT⟩ : ∃ T, X.extract 0 l.length = T := ⟨_, rfl⟩
              have HTT := Lib.hid (show T = txt l from by
                rw [← xT, HX.out]
                apply of_data
                rw [ByteArray.data_extract, Array.toList_extract, List.extract_eq_take_drop]
                simp [txt])
              have hTs : T.size = l.length := by rw [HTT.out, txt_size']
              have HEnd := Lib.hid (fun (y : World) (x : ByteArray) (hx : x = txt (own l)) (hy : ∃ m, y = (x2.drewN m).setCell ⟨g, 4, none⟩ (.string ⟨#[]⟩)) => (show Calls Tryz.prog 57 #[.pointer (some ⟨g, 0, none⟩), .string x] y fun e w' => e = .returned (.tuple #[]) ∧ RAt g s b w (k + 1) acc (ended st (own l)) u8 w' from by
                obtain ⟨m, rfl⟩ := hy
                subst hx
                have hb3 : RBlk ((x2.drewN m).setCell ⟨g, 4, none⟩ (.string ⟨#[]⟩)) g 2 0 SS PP ⟨#[]⟩ false 0 := rd_put4 (w := x2.drewN m) (HB2.out.below (below_drewN (Below.refl _ _) m)) ⟨#[]⟩
                have hc3 := (HC2.out.drewN m).put ⟨g, 4, none⟩ (.string ⟨#[]⟩) (.inl rfl)
                refine (rended_any g _ (own l) _ (HBK.out _ [] hb3) HBA.out (by have := own_length l; omega)).mono ?_
                rintro e w' ⟨rfl, hR, hC⟩
                rw [HEN.out] at hR
                refine ⟨rfl, ?_⟩
                have hcc : Chg (fun k => k = g) x2 w' := ((((Chg.refl (fun k => k = g) x2).drewN m).put ⟨g, 4, none⟩ (.string ⟨#[]⟩) (.inl rfl)).trans hC (fun i hi => .inl hi))
                have := HN.out _ _ HS.out u8 w' (by rw [List.append_nil]; exact HO2.out.chg hcc (fun k hk e => by have := (HO2.out.lt k hk).1; omega)) hR (HC2.out.trans hcc (fun i hi => .inl hi))
                rwa [List.append_nil] at this))
              clear hc10
              rcases snoc_cases l with hl0 | ⟨i, d, hld⟩
              · have hz : l.length = 0 := by rw [hl0]; rfl
                have HO := Lib.hid (show (ByteArray.empty : ByteArray) = txt (own l) from by rw [hl0]; rfl)
                clear hl0
                go_upto_region 22 with fail
                go_region
                go_wp2_with fail
                refine (HEnd.out _ _ HO.out ⟨_, rfl⟩).mono ?_
                rintro e x3 ⟨rfl, hA3⟩
                have HA3 := Lib.hid hA3
                clear hA3
                go_wp2_with fail
                go_roundw
                case rel => exact ⟨k + 1, _, _, by go_num, HA3.out⟩
                case measure => simp [intOf]; omega
              · have hz : 1 ≤ l.length := by rw [hld]; simp
                have hlt1 : l.length - 1 < T.size := by omega
                cases h13 : (((T[l.length - 1]'hlt1).toNat : Int) == 13) with
                | true =>
                  have HLD := Lib.hid (last_13 HTT.out hld hlt1 h13)
                  clear hld
                  go_upto_region 22 with fail
                  go_region
                  go_wp2_with fail
                  refine (HEnd.out _ _ HLD.out ⟨_, rfl⟩).mono ?_
                  rintro e x3 ⟨rfl, hA3⟩
                  have HA3 := Lib.hid hA3
                  clear hA3 h13
                  go_wp2_with fail
                  go_roundw
                  case rel => exact ⟨k + 1, _, _, by go_num, HA3.out⟩
                  case measure => simp [intOf]; omega
                | false =>
                  have HLD := Lib.hid (last_no HTT.out hld hlt1 h13)
                  clear hld
                  go_upto_region 22 with fail
                  go_region
                  go_wp2_with fail
                  refine (HEnd.out _ _ HLD.out ⟨_, rfl⟩).mono ?_
                  rintro e x3 ⟨rfl, hA3⟩
                  have HA3 := Lib.hid hA3
                  clear hA3 h13
                  go_wp2_with fail
                  go_roundw
                  case rel => exact ⟨k + 1, _, _, by go_num, HA3.out⟩
                  case measure => simp [intOf]; omega
            · have hc10' : ((c.toNat : Int) == 10) = false := by
                rw [beq_eq_false_iff_ne]; intro e; apply hc10; apply UInt8.toNat.inj; show c.toNat = 10; omega
              have HS := Lib.hid (show step st c = ([], onto st [c]) from by rw [step_line HLn.out]; unfold stepL; rw [if_neg h25, if_neg hc10])
              have hfin := HN.out _ _ HS.out u8 x2 (by rw [List.append_nil]; exact HO2.out) (by have := HBK.out x2 (l ++ [c]) (by rw [← HX.out]; exact HB2.out); rwa [HON.out] at this) HC2.out
              rw [List.append_nil] at hfin
              have HFin := Lib.hid hfin
              clear hc10 hfin
              go_wp2_with fail
              go_roundw
              case rel => exact ⟨k + 1, _, _, by go_num, HFin.out⟩
              case measure => simp [intOf]; omega
    · have hke : k = b.length := by omega
      have HKE := Lib.hid hke
      obtain ⟨K, L, S, P, o, hb⟩ := HA.out.dec.tells
      have c5 := rd5 hb
      have c6 := rd6 hb
      obtain ⟨D, hD⟩ : ∃ D, D = doneOf st := ⟨_, rfl⟩
      obtain ⟨E, hE⟩ : ∃ E, E = errOf st := ⟨_, rfl⟩
      rw [← hD] at c5 HP
      rw [← hE] at c6 HP
      clear hke hb hD hE
      go_wp2_with fail
      go_quiet (fail)
      all_goals try go_wp2_with fail
      all_goals
        refine bodyPost_ret (four_results rfl _ _ _) rfl ?_
        exact HP.out _ (.inr HKE.out)
end Go.Proofs.YtcolnidgembniaaGreatDoor.Fr
/-
  Two decoders, the program's and the reference's, that stand alike: what Feed and End of each leave. Conditions: the tables.
-/
namespace Go.Proofs.YtcolnidgembniaaGreatDoor.Fr
open Go.RowKit Go.Proofs.YtcolnidgembniaaGreatDoor.Tk Go.Proofs.YtcolnidgembniaaGreatDoor.Fd Go.Proofs.YtcolnidgembniaaGreatDoor.Hd
set_option linter.unusedVariables false

theorem RDec.same {w w' : World} {g : Nat} {s : St} (h : RDec w g s) (he : w'.heap[g]? = w.heap[g]?) : RDec w' g s := by
  have hb : ∀ {K L S P : Nat} {o : ByteArray} {D : Bool} {E : Nat}, RBlk w g K L S P o D E → RBlk w' g K L S P o D E := fun h => he.trans h
  cases s with
  | len n => exact hb h
  | opn n => obtain ⟨S, h1, h⟩ := h; exact ⟨S, h1, hb h⟩
  | size m l => obtain ⟨S, h1, h⟩ := h; exact ⟨S, h1, hb h⟩
  | chunk m n => obtain ⟨S, h1, h⟩ := h; exact ⟨S, h1, hb h⟩
  | gap m l => obtain ⟨S, h1, h⟩ := h; exact ⟨S, h1, hb h⟩
  | trail m l => obtain ⟨S, h1, h⟩ := h; exact ⟨S, h1, hb h⟩
  | done => obtain ⟨K, L, S, P, o, h⟩ := h; exact ⟨K, L, S, P, o, hb h⟩
  | bad e => obtain ⟨K, L, S, P, o, h⟩ := h; exact ⟨K, L, S, P, o, hb h⟩
theorem RDec.lt {w : World} {g : Nat} {s : St} (h : RDec w g s) : g < w.heap.size := by obtain ⟨K, L, S, P, o, h⟩ := h.tells; exact block_lt h
/-- Both stand alike; the program's own memory is within O. -/
structure Two (w : World) (g h : Nat) (st : St) (O : Nat → Prop) (wr : World) : Prop where
  good : Good st
  bel : Below w.heap.size w wr
  hw : w.heap.size ≤ h
  ref : RDec wr h st
  dec : Dec wr O g st
  far : ∀ k, O k → w.heap.size ≤ k ∧ k < wr.heap.size ∧ k ≠ h
/-- The program's was fed. -/
structure Mid (w : World) (g h : Nat) (st ST : St) (O : Nat → Prop) (out : Bs) (ov : Value) (wr : World) : Prop where
  good : Good st
  goodS : Good ST
  bel : Below w.heap.size w wr
  hw : w.heap.size ≤ h
  ref : RDec wr h st
  dec : Dec wr O g ST
  far : ∀ k, O k → w.heap.size ≤ k ∧ k < wr.heap.size ∧ k ≠ h ∧ ov.ownBlock ≠ some k
  own : Own wr w.heap.size ov out
  apart : ov.ownBlock ≠ some h
theorem Two.below {w : World} {g h : Nat} {st : St} {O : Nat → Prop} {wr w' : World} (t : Two w g h st O wr) (hb : Below wr.heap.size wr w') : Two w g h st O w' :=
  ⟨t.good, t.bel.trans (hb.mono t.bel.size), t.hw, t.ref.below hb, t.dec.below hb, fun k hk => ⟨(t.far k hk).1, Nat.lt_of_lt_of_le (t.far k hk).2.1 hb.size, (t.far k hk).2.2⟩⟩
theorem Mid.below {w : World} {g h : Nat} {st ST : St} {O : Nat → Prop} {out : Bs} {ov : Value} {wr w' : World} (t : Mid w g h st ST O out ov wr) (hb : Below wr.heap.size wr w') : Mid w g h st ST O out ov w' :=
  ⟨t.good, t.goodS, t.bel.trans (hb.mono t.bel.size), t.hw, t.ref.below hb, t.dec.below hb, fun k hk => ⟨(t.far k hk).1, Nat.lt_of_lt_of_le (t.far k hk).2.1 hb.size, (t.far k hk).2.2⟩, t.own.below hb, t.apart⟩
theorem two_start {w x1 x2 : World} {g h : Nat} {s : St} (hG : Good s) (hD : Dec x1 (fun k => w.heap.size ≤ k) g s) (h1 : Below w.heap.size w x1) (hR : RDec x2 h s) (hh : x1.heap.size ≤ h) (h2 : Below x1.heap.size x1 x2) :
    Two w g h s (fun k => w.heap.size ≤ k ∧ k < x1.heap.size) x2 := by
  have := h1.size
  have := h2.size
  exact ⟨hG, h1.trans (h2.mono h1.size), by omega, hR, hD.bound.below h2, fun k hk => ⟨hk.1, by omega, by omega⟩⟩
theorem two_x {w : World} {g h : Nat} {st : St} {O : Nat → Prop} {wr : World} (t : Two w g h st O wr) (v : Value) (P : Bs) (hv : Byts wr v P) (hvo : 0 < P.length → ∀ j, v.ownBlock = some j → ¬ O j) (hl : P.length ≤ 1099511627775) (hT : Tab w) (hE : ErrV w) :
    Calls Tryz.prog 49 #[.pointer (some ⟨g, 0, none⟩), v] wr fun e y => ∃ a c O', e = .returned (.tuple #[.slice a (run st P).1.length c, .int .i64 ((run st P).2.1 : Nat), .bool (doneOf (run st P).2.2), .int .i64 (errOf (run st P).2.2 : Nat)]) ∧ Mid w g h st (run st P).2.2 O' (run st P).1 (.slice a (run st P).1.length c) y := by
  have htl := hT.lt
  have hel := hE.lt
  have hb0 := t.bel.size
  have hhw := t.ref.lt
  refine (feed_any O g st v P wr t.dec t.good hv hvo (by omega) (hT.below t.bel (by omega)) (hE.below t.bel) (fun ho => by have := (t.far _ ho).1; omega) (fun ho => by have := (t.far _ ho).1; omega)).mono ?_
  rintro e y ⟨ov, rfl, h1, h2, h3, h4⟩
  obtain ⟨a, c, rfl⟩ := h1.shape
  have hs := h4.size
  refine ⟨a, c, _, rfl, t.good, good_run P t.good, t.bel.trans (h4.below (fun k hk => (t.far k hk).1) hb0), t.hw, t.ref.same (h4.block h hhw (fun ho => (t.far h ho).2.2 rfl)), h3.bound, fun k hk => ?_, ?_, ?_⟩
  · refine ⟨?_, hk.2, ?_, hk.1.2⟩
    · rcases hk.1.1 with hx | hx
      · exact (t.far k hx).1
      · omega
    · rcases hk.1.1 with hx | hx
      · exact (t.far k hx).2.2
      · omega
  · refine (Own.row (base := wr.heap.size) ?_).mono hb0
    exact ⟨h1.1, (by
      rcases h1.2 with hx | ⟨q, cap, cur, hv, _, hr⟩
      · exact .inl hx
      · exact .inr ⟨q, cap, cur, hv, h2 q (by rw [hv]; rfl), hr⟩)⟩
  · intro e
    have := h2 h e
    omega
theorem two_y {w : World} {g h : Nat} {st ST : St} {O : Nat → Prop} {out : Bs} {ov : Value} {wr : World} (t : Mid w g h st ST O out ov wr) (v : Value) (P : Bs) (hv : Byts wr v P) (hvo : 0 < P.length → v.ownBlock ≠ some h) (hl : P.length ≤ 1099511627775) (hST : ST = (run st P).2.2) :
    Calls Tryz.prog 37 #[.pointer (some ⟨h, 0, none⟩), v] wr fun e z => ∃ a c, e = .returned (.tuple #[.slice a (run st P).1.length c, .int .i64 ((run st P).2.1 : Nat), .bool (doneOf (run st P).2.2), .int .i64 (errOf (run st P).2.2 : Nat)]) ∧
      Own z w.heap.size ov out ∧ Own z w.heap.size (.slice a (run st P).1.length c) (run st P).1 ∧ Two w g h ST O z := by
  have hhw := t.ref.lt
  have hb0 := t.bel.size
  refine (rfeed_any h st v P wr t.ref t.good hv hvo hl hhw).mono ?_
  rintro e z ⟨wv, rfl, h1, h2, h3⟩
  obtain ⟨a, c, rfl⟩ := h1.form
  have hs := h3.size
  refine ⟨a, c, rfl, t.own.chg h3 (fun k hk e => t.apart (by rw [hk, e])), h1.mono hb0, t.goodS, t.bel.trans (h3.below (fun k hk => by have := t.hw; omega) hb0), t.hw, by rw [hST]; exact h2, t.dec.kept h3 (fun k hk e => (t.far k hk).2.2.1 e), fun k hk => ⟨(t.far k hk).1, by have := (t.far k hk).2.1; omega, (t.far k hk).2.2.1⟩⟩
theorem two_ex {w : World} {g h : Nat} {st : St} {O : Nat → Prop} {wr : World} (t : Two w g h st O wr) :
    Calls Tryz.prog 50 #[.pointer (some ⟨g, 0, none⟩)] wr fun e y => e = .returned (.tuple #[.bool (doneOf (closed st)), .int .i64 (errOf (closed st) : Nat)]) ∧ Mid w g h st (closed st) O [] (.slice none 0 0) y := by
  have hhw := t.ref.lt
  have hb0 := t.bel.size
  refine (end_any O g st wr t.dec t.good).mono ?_
  rintro e y ⟨rfl, h1, h2⟩
  have hs := h2.size
  exact ⟨rfl, t.good, good_closed t.good, t.bel.trans (h2.below (fun k hk => (t.far k hk).1) hb0), t.hw, t.ref.same (h2.block h hhw (fun ho => (t.far h ho).2.2 rfl)), h1, fun k hk => ⟨(t.far k hk).1, by have := (t.far k hk).2.1; omega, (t.far k hk).2.2, fun e => by cases e⟩, Own.nil _ _, fun e => by cases e⟩
theorem two_ey {w : World} {g h : Nat} {st : St} {O : Nat → Prop} {wr : World} (t : Mid w g h st (closed st) O [] (.slice none 0 0) wr) :
    Calls Tryz.prog 38 #[.pointer (some ⟨h, 0, none⟩)] wr fun e z => e = .returned (.tuple #[.bool (doneOf (closed st)), .int .i64 (errOf (closed st) : Nat)]) ∧ Two w g h (closed st) O z := by
  have hb0 := t.bel.size
  refine (rend_any h st wr t.ref t.good).mono ?_
  rintro e z ⟨rfl, h1, h2⟩
  have hs := h2.size
  exact ⟨rfl, t.goodS, t.bel.trans (h2.below (fun k hk => by have := t.hw; omega) hb0), t.hw, h1, t.dec.kept h2 (fun k hk e => (t.far k hk).2.2.1 e), fun k hk => ⟨(t.far k hk).1, by have := (t.far k hk).2.1; omega, (t.far k hk).2.2.1⟩⟩
/-- "abc" as bytes. -/
def abc : Bs := [97, 98, 99]
def c3 : Array Value := #[.int .u8 97, .int .u8 98, .int .u8 99]
theorem c3_eq : c3.toList = bys abc := by kernel_rfl
theorem byts_const (w : World) (cs : Array Value) (l : Bs) (fr : Nat × Nat) (h : cs.toList = bys l) (hl : l.length ≤ maxLen) : Byts (w.alloc (.cells cs 5 fr)) (.slice (some ⟨w.heap.size, 0, none⟩) l.length l.length) l := by
  refine .inr ⟨w.heap.size, 0, l.length, rfl, Nat.le_refl _, hl, by simp, fun j hj => ?_⟩
  have h2 := World.news_of_block (new_block w (.cells cs 5 fr)) j (.int .u8 (l[j].toNat : Int)) (by rw [h]; simp [bys, hj])
  rw [Addr.add_lit] at h2
  exact h2
end Go.Proofs.YtcolnidgembniaaGreatDoor.Fr
/-
  The reference's read of a body behind a head: what it returns. Condition: at most 2^40 bytes.
-/
namespace Go.Proofs.YtcolnidgembniaaGreatDoor.Ms
open Go.RowKit Go.Proofs.YtcolnidgembniaaGreatDoor.Tk Go.Proofs.YtcolnidgembniaaGreatDoor.Fd Go.Proofs.YtcolnidgembniaaGreatDoor.Hd Go.Proofs.YtcolnidgembniaaGreatDoor.Fr
set_option linter.unusedVariables false

/-- What the reference's read returns of a body behind N bytes. -/
def RBodyPost (N : Nat) (V : Nat × Bs × Nat) (w : World) (e : Ending) (w' : World) : Prop :=
  ∃ (a : Option Addr) (c : Nat) (X : Bs) (M : Nat), e = .returned (.tuple #[.slice a X.length c, .int .i64 (M : Int), .int .i64 (V.1 : Int)]) ∧ Own w' w.heap.size (.slice a X.length c) X ∧ Below w.heap.size w w' ∧ (V.1 = 0 → X = V.2.1 ∧ M = N + V.2.2)
set_option maxRecDepth 100000 in
set_option maxHeartbeats 8000000 in
theorem rread_any (v : Value) (b : Bs) (N : Nat) (k n : Int) (fin : Bool) (w : World) (hv : Byts w v b) (hb0 : 0 < b.length) (hN : N ≤ b.length) (hbl : b.length ≤ 1099511627775) :
    Calls Tryz.prog 19 #[v, .int .i64 (N : Int), .int .i64 k, .int .i64 n, .bool fin] w (RBodyPost N (bodyOf k n (b.drop N) fin) w) := by
  obtain ⟨va, vc, hvs⟩ := hv.shape
  subst hvs
  have HV := Lib.hid hv
  rcases HV.out with ⟨h0, _⟩ | ⟨B, off, cap, hvv, hcap, hcm, hB, hh⟩
  · rw [h0] at hb0; simp at hb0
  injection hvv with e1 _ e3
  subst e1 e3
  unfold maxLen at hcm
  have hNew := rnew_any k n w
  unfold RNewPost at hNew
  clear hv hh
  go_enter Tryz.func19, Tryz.ntmps19
  cases hm : made k n with
  | none =>
    have hme := made_err hm
    have hV := bodyOf_none hm (b.drop N) fin
    obtain ⟨ER, hER⟩ : ∃ ER, ER = madeErr k n := ⟨_, rfl⟩
    simp only [hm] at hNew
    rw [← hER] at hNew hme hV
    have HN := Lib.hid hNew
    have HVV := Lib.hid hV
    clear hNew hm hER hV
    have eE : ((ER : Int) != 0) = true := by simp; omega
    go_wp2_with fail
    refine HN.out.mono ?_
    rintro e x1 ⟨hb, rfl⟩
    have HB1 := Lib.hid hb
    clear hb
    go_wp2_with fail
    go_ret3
    rw [HVV.out]
    exact ⟨none, 0, [], 0, rfl, Own.nil _ _, HB1.out, fun h0 => by have h1 : ER = 0 := h0; omega⟩
  | some s0 =>
    have hV := bodyOf_some hm (b.drop N) fin
    simp only [hm] at hNew
    have HN := Lib.hid hNew
    have HG := Lib.hid (good_made hm)
    clear hNew hm
    go_wp2_with fail
    refine HN.out.mono ?_
    rintro e x1 ⟨hb1, g, rfl, hD, hg⟩
    obtain ⟨X, L, S, hR⟩ : ∃ X L S, run s0 (b.drop N) = (X, L, S) := ⟨_, _, _, rfl⟩
    rw [hR] at hV
    obtain ⟨D, hDD⟩ : ∃ D, D = doneOf S := ⟨_, rfl⟩
    obtain ⟨E, hEE⟩ : ∃ E, E = errOf S := ⟨_, rfl⟩
    obtain ⟨XL, hXL⟩ : ∃ XL, XL = X.length := ⟨_, rfl⟩
    have hGS : Fr.Good S := by have := good_run (b.drop N) HG.out; rw [hR] at this; exact this
    have hLl : L ≤ 1099511627775 := by have := Fr.run_le (b.drop N) s0; rw [hR, List.length_drop] at this; have h2 : L ≤ b.length - N := this; omega
    have hgl := hD.lt
    have hsz1 := hb1.size
    have HFd := Lib.hid (fun (v : Value) (hv : Byts x1 v (b.drop N)) (hvo : 0 < (b.drop N).length → v.ownBlock ≠ some g) => (show Calls Tryz.prog 37 #[.pointer (some ⟨g, 0, none⟩), v] x1 (fun e y => ∃ a c, e = .returned (.tuple #[.slice a XL c, .int .i64 (L : Int), .bool D, .int .i64 (E : Int)]) ∧ Own y w.heap.size (.slice a XL c) X ∧ RDec y g S ∧ Below w.heap.size w y ∧ (Value.slice a XL c).ownBlock ≠ some g) from by
      refine (rfeed_any g s0 v (b.drop N) x1 hD HG.out hv hvo (by rw [List.length_drop]; omega) hgl).mono ?_
      rintro e y ⟨ov, rfl, h1, h2, h3⟩
      rw [hR] at h1 h2
      obtain ⟨a, c, rfl⟩ := h1.form
      rw [hR]
      exact ⟨a, c, by rw [hDD, hEE, hXL], by rw [hXL]; exact h1.mono hsz1, h2, hb1.trans (h3.below (fun k hk => by omega) hsz1), fun hk => by have := (h1.lt g (by rw [← hXL]; exact hk)).1; omega⟩))
    have HU1 := Lib.hid (fun (h : N < vc) => (show Byts x1 (.slice (some ⟨B, off + N, none⟩) (b.length - N) (vc - N)) (b.drop N) ∧ (0 < (b.drop N).length → (Value.slice (some ⟨B, off + N, none⟩) (b.length - N) (vc - N)).ownBlock ≠ some g) from by
      have h1 := byts_cut (k := N) (d := b.length - N) HV.out hB hcap (by unfold maxLen; omega) (by omega)
      rw [show (b.drop N).take (b.length - N) = b.drop N from by rw [← List.length_drop, List.take_length]] at h1
      exact ⟨h1.below hb1 (Nat.le_refl _), fun _ hj => by injection hj with hj; have hj' : B = g := hj; omega⟩))
    have HU2 := Lib.hid (fun (h : ¬ N < vc) (a : Option Addr) (c : Nat) => (show Byts x1 (.slice a (b.length - N) c) (b.drop N) ∧ (0 < (b.drop N).length → (Value.slice a (b.length - N) c).ownBlock ≠ some g) from ⟨.inl ⟨List.length_eq_zero_iff.1 (by rw [List.length_drop]; omega), a, c, by rw [show b.length - N = 0 from by omega]⟩, fun hp => by rw [List.length_drop] at hp; omega⟩))
    have HDD := Lib.hid hDD
    have HEE := Lib.hid hEE
    have HXL := Lib.hid hXL
    have HVV := Lib.hid hV
    have HGS := Lib.hid hGS
    clear hD hDD hEE hXL hV hGS hR hb1 HN
    go_upto_region 4 with fail
    go_cut [14, 15, 16, 17] (fun s14 s15 s16 s17 wx => ∃ a c, s14 = .int .i64 (E : Int) ∧ s15 = .slice a XL c ∧ s16 = .int .i64 (L : Int) ∧ s17 = .bool D ∧ Own wx w.heap.size (.slice a XL c) X ∧ RDec wx g S ∧ Below w.heap.size w wx ∧ (Value.slice a XL c).ownBlock ≠ some g)
    case first =>
      by_cases hNc : N < vc
      · have hvN : (vc = N) = False := eq_false (by omega)
        go_wp2_with fail
        refine (HFd.out _ (HU1.out hNc).1 (HU1.out hNc).2).mono ?_
        rintro e y ⟨a, c, rfl, h⟩
        go_wp2_with fail
        go_meet
        exact ⟨a, c, rfl, rfl, rfl, rfl, h⟩
      · have hvN : (vc = N) = True := eq_true (by omega)
        go_wp2_with fail
        refine (HFd.out _ (HU2.out hNc _ _).1 (HU2.out hNc _ _).2).mono ?_
        rintro e y ⟨a, c, rfl, h⟩
        go_wp2_with fail
        go_meet
        exact ⟨a, c, rfl, rfl, rfl, rfl, h⟩
    case rest =>
      obtain ⟨a, c, rfl, rfl, rfl, rfl, hO, hD, hb, hap⟩ := hcut
      have HO := Lib.hid hO
      have HD := Lib.hid hD
      have HB := Lib.hid hb
      have HAp := Lib.hid hap
      have HXL2 := HXL
      have HFail := Lib.hid (fun (x : World) (U : Nat) (hb : Below w.heap.size w x) (hU : endErr (lastOf fin S) = U) (h0 : U ≠ 0) => (show RBodyPost N (bodyOf k n (b.drop N) fin) w (.returned (.tuple #[.slice none 0 0, .int .i64 0, .int .i64 (U : Int)])) x from by
        rw [HVV.out]
        exact ⟨none, 0, [], 0, by rw [← hU]; rfl, Own.nil _ _, hb, fun h1 => by have h2 : endErr (lastOf fin S) = 0 := h1; omega⟩))
      have HOk := Lib.hid (fun (x : World) (hb : Below w.heap.size w x) (ho : Own x w.heap.size (.slice a XL c) X) (hU : endErr (lastOf fin S) = 0) => (show RBodyPost N (bodyOf k n (b.drop N) fin) w (.returned (.tuple #[.slice a XL c, .int .i64 ((N : Int) + (L : Int)), .int .i64 0])) x from by
        rw [HVV.out, hU]
        refine ⟨a, c, X, N + L, ?_, ?_, hb, fun _ => ⟨rfl, rfl⟩⟩
        · rw [Int.natCast_add, HXL2.out]; rfl
        · rw [← HXL2.out]; exact ho))
      clear hO hD hb hap HFd HU1 HU2 HV HG
      by_cases he : E = 0
      · subst he
        cases D with
        | true =>
          have HU := Lib.hid ((congrArg endErr (last_stays (fin := fin) (.inr (.inl HDD.out.symm)))).trans (end_done HEE.out.symm HDD.out.symm))
          go_wp2_with fail
          go_ret3
          exact HOk.out _ HB.out HO.out HU.out
        | false =>
          cases fin with
          | false =>
            have HU := Lib.hid ((congrArg endErr (last_stays (fin := false) (.inl rfl))).trans (end_more HEE.out.symm HDD.out.symm))
            go_wp2_with fail
            go_ret3
            exact HFail.out _ 11 HB.out HU.out (by omega)
          | true =>
            have hlc := congrArg endErr (last_closed HDD.out.symm HEE.out.symm)
            have hEnd := rend_any g S wc HD.out HGS.out
            unfold REndPost at hEnd
            obtain ⟨DC, hDC⟩ : ∃ DC, DC = doneOf (closed S) := ⟨_, rfl⟩
            obtain ⟨EC, hEC⟩ : ∃ EC, EC = errOf (closed S) := ⟨_, rfl⟩
            rw [← hDC, ← hEC] at hEnd
            have HEnd := Lib.hid hEnd
            have HLC := Lib.hid hlc
            have HDC := Lib.hid hDC
            have HEC := Lib.hid hEC
            clear hlc hEnd hDC hEC
            go_wp2_with fail
            refine HEnd.out.mono ?_
            rintro e x3 ⟨rfl, _, hC3⟩
            have hsx := HB.out.size
            have HB3 := Lib.hid (HB.out.trans (hC3.below (fun k hk => by omega) hsx))
            have HO3 := Lib.hid (HO.out.chg hC3 (fun k hk hO => HAp.out (by rw [hk, hO])))
            clear hC3
            by_cases he : EC = 0
            · subst he
              cases DC with
              | true =>
                have HU := Lib.hid (HLC.out.trans (end_done HEC.out.symm HDC.out.symm))
                go_wp2_with fail
                go_ret3
                exact HOk.out _ HB3.out HO3.out HU.out
              | false =>
                have HU := Lib.hid (HLC.out.trans (end_more HEC.out.symm HDC.out.symm))
                go_wp2_with fail
                go_ret3
                exact HFail.out _ 11 HB3.out HU.out (by omega)
            · have eE : ((EC : Int) != 0) = true := by simp; omega
              have HU := Lib.hid (HLC.out.trans ((end_bad (by rw [← HEC.out]; exact he)).trans HEC.out.symm))
              go_wp2_with fail
              go_ret3
              exact HFail.out _ EC HB3.out HU.out he
      · have eE : ((E : Int) != 0) = true := by simp; omega
        have HU := Lib.hid ((congrArg endErr (last_stays (fin := fin) (.inr (.inr (by rw [← HEE.out]; exact he))))).trans ((end_bad (by rw [← HEE.out]; exact he)).trans HEE.out.symm))
        go_wp2_with fail
        go_ret3
        exact HFail.out _ E HB.out HU.out he
end Go.Proofs.YtcolnidgembniaaGreatDoor.Ms
