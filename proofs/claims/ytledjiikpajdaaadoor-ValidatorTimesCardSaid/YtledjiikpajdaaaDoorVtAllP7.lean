/-
  Texts that the laws' proofs stand on, 3 of them in one file; each one's head says what it proves and under which condition.
-/
import Derived.Test.YtledjiikpajdaaaDoorVtAllP6
import Derived.Test.YtledjiikpajdaaaDoorRows
import Derived.Below
import Derived.WalkKit
import Derived.WalkLawsBesides
import Derived.Outline
import Derived.Lib.Hide
import Derived.Lib.Builder
import Derived.Laws.ResultCell
import Derived.Laws.Rows
import Derived.Maps.AppendAt
/-
  date.Parse of any text: what it returns. Conditions: the tables hold what the program's text lays; a text of at most a million bytes.
-/
namespace Go.Proofs.YtledjiikpajdaaaDoor.Dp
open Go.RowKit Go.Proofs.YtledjiikpajdaaaDoor.Dt
set_option linter.unusedVariables false

/-- What was read lies within bounds. -/
def RB (R : List Int) : Prop := R.length = 7 ∧ ∀ i, 0 ≤ R.getD i 0 ∧ R.getD i 0 ≤ 20000
theorem rb_set {R : List Int} (h : RB R) (i : Nat) {n : Int} (h0 : 0 ≤ n) (h1 : n ≤ 20000) : RB (R.set i n) := by
  refine ⟨by rw [List.length_set]; exact h.1, fun j => ?_⟩
  have := h.2 j
  simp only [List.getD, List.getElem?_set] at this ⊢
  split
  · split
    · exact ⟨h0, h1⟩
    · simp
  · exact this
theorem rb_put {R : List Int} (h : RB R) (i : Nat) (s : Bs) (r : Option (Int × Bs)) (hr : ∀ n t, r = some (n, t) → 0 ≤ n ∧ n ≤ 20000) : RB (put i R s r).2.1 := by
  cases r with
  | none => exact rb_set h i (by omega) (by omega)
  | some p => exact rb_set h i (hr p.1 p.2 rfl).1 (hr p.1 p.2 rfl).2
theorem rb_num {R : List Int} (h : RB R) (i k : Nat) (s : Bs) (hk : k ≤ 4) : RB (numF i k R s).2.1 := by
  refine rb_put h i s _ fun n t e => ?_
  unfold cutN at e
  split at e
  · cases e
  · split at e
    · rename_i h1 h2
      injection e with e
      injection e with e1 e2
      rw [← e1]
      have := numv_bd _ h2 (by simp; omega)
      omega
    · cases e
theorem rb_name {R : List Int} (h : RB R) (i : Nat) (names : List Bs) (s : Bs) (hn : names.length ≤ 100) : RB (nameF i names R s).2.1 := by
  refine rb_put h i s _ fun n t e => ?_
  cases hp : Dp.pick s names with
  | none => rw [hp] at e; cases e
  | some p =>
    rw [hp] at e
    injection e with e
    injection e with e1 e2
    have := pick_lt (s := s) (names := names) (j := p.1) (t := p.2) hp
    rw [← e1]
    omega
theorem rb_field (c : UInt8) {R : List Int} (h : RB R) (s : Bs) : RB (fieldF c R s).2.1 := by
  have hl : 2 < R.length := by rw [h.1]; omega
  have hl1 : 1 < R.length := by rw [h.1]; omega
  unfold fieldF
  repeat' split
  · exact rb_name h 0 _ s (by decide)
  · exact rb_name h 0 _ s (by decide)
  · have := nameF_bd 2 monNames R s hl (by decide)
    exact rb_set (rb_name h 2 _ s (by decide)) 2 (by omega) (by omega)
  · exact rb_num h 3 2 s (by omega)
  · exact rb_num h 3 1 _ (by omega)
  · exact rb_num h 3 2 s (by omega)
  · exact rb_num h 1 4 s (by omega)
  · have := numF_bd 1 2 R s hl1 (by omega)
    refine rb_set (rb_num h 1 2 s (by omega)) 1 ?_ ?_ <;> (unfold fullY; split <;> omega)
  · exact rb_num h 4 2 s (by omega)
  · exact rb_num h 5 2 s (by omega)
  · exact rb_num h 6 2 s (by omega)
theorem rb_zeros : RB zeros := by
  refine ⟨rfl, fun i => ?_⟩
  rcases Nat.lt_or_ge i 7 with h | h
  · match i, h with
    | 0, _ | 1, _ | 2, _ | 3, _ | 4, _ | 5, _ | 6, _ => decide
  · have : zeros.getD i 0 = 0 := by simp [List.getD, List.getElem?_eq_none (show zeros.length ≤ i from h)]
    rw [this]; decide
theorem rb_read : ∀ (f : Bs) (R : List Int) (s : Bs), RB R → RB (readF f R s).2
  | [], R, s, h => by simpa [readF] using h
  | [c], R, s, h => by
    unfold readF
    split
    · exact rb_zeros
    · split
      · exact rb_zeros
      · split
        · exact h
        · exact rb_zeros
  | c :: l :: f, R, s, h => by
    unfold readF
    split
    · split
      · exact rb_read f _ _ (rb_field l h s)
      · exact rb_zeros
    · split
      · exact rb_zeros
      · split
        · exact rb_read (l :: f) _ _ h
        · exact rb_zeros
def secR (R : List Int) : Int × Bool := secV (R.getD 0 0) (R.getD 1 0) (R.getD 2 0) (R.getD 3 0) (R.getD 4 0) (R.getD 5 0) (R.getD 6 0)
def parseL : List Bs → Bs → Int × Bool
  | [], _ => (0, false)
  | f :: r, s => if (readF f zeros s).1 = true then secR (readF f zeros s).2 else parseL r s
/-- The second of a date; false: it is none. -/
def parseD (s : Bs) : Int × Bool := parseL formTexts s
theorem drop_form (j : Nat) (hj : j < 3) : formTexts.drop j = formTexts.getD j [] :: formTexts.drop (j + 1) := by
  match j, hj with
  | 0, _ | 1, _ | 2, _ => rfl
theorem secV_bd (wd y m d h mi s : Int) (h0 : 0 ≤ h) (m0 : 0 ≤ mi) (s0 : 0 ≤ s) : 0 ≤ (secV wd y m d h mi s).1 ∧ (secV wd y m d h mi s).1 ≤ 253402300799 := by
  have := dayV_bd y m d
  unfold secV
  split
  · exact ⟨by decide, by decide⟩
  · rename_i hc
    show 0 ≤ dayV y m d * 86400 + h * 3600 + mi * 60 + min s 59 ∧ _ ≤ _
    omega
theorem parseD_bd (s : Bs) : 0 ≤ (parseD s).1 ∧ (parseD s).1 ≤ 253402300799 := by
  have hall : ∀ fs : List Bs, 0 ≤ (parseL fs s).1 ∧ (parseL fs s).1 ≤ 253402300799 := by
    intro fs
    induction fs with
    | nil => exact ⟨Int.le_refl 0, show (0 : Int) ≤ 253402300799 by decide⟩
    | cons f r ih =>
      unfold parseL
      split
      · have hb := (rb_read f zeros s rb_zeros).2
        exact secV_bd _ _ _ _ _ _ _ (hb 4).1 (hb 5).1 (hb 6).1
      · exact ih
  exact hall formTexts

set_option maxHeartbeats 4000000 in
theorem parse_any (S : ByteArray) (w : World) (hs : S.size ≤ 1000000) (hE : Env w) (hF : FM w) :
    Calls Tryd.prog 24 #[.string S] w fun e w' => e = .returned (.tuple #[.int .i64 (parseD S.data.toList).1, .bool (parseD S.data.toList).2]) ∧ Below w.heap.size w w' := by
  obtain ⟨s, hS⟩ : ∃ s, s = S.data.toList := ⟨_, rfl⟩
  have hSB : S = B s := by rw [hS, B_of]
  have HSE := Lib.hid hSB
  have hsl : s.length ≤ 1000000 := by rw [hS]; simpa using hs
  rw [← hS]
  obtain ⟨X, hX⟩ : ∃ X, (parseD s).1 = X := ⟨_, rfl⟩
  obtain ⟨Y, hY⟩ : ∃ Y, (parseD s).2 = Y := ⟨_, rfl⟩
  have HXY := Lib.hid (show parseD s = (X, Y) from by rw [← hX, ← hY])
  rw [hX, hY]
  have HE := Lib.hid hE
  have HF := Lib.hid hF
  clear hE hF hs hS hX hY hSB
  go_enter Tryd.func24, Tryd.ntmps24
  go_wp2_with fail
  go_loopw [7] (fun v wr => ∃ j : Nat, j ≤ 3 ∧ v = .int .i64 (j : Int) ∧ Hid (Below w.heap.size w wr) ∧ Hid (parseL (formTexts.drop j) s = (X, Y))) (fun v _ => 4 - (intOf v).toNat)
  case atStart => exact ⟨0, Nat.zero_le _, rfl, Lib.hid (Below.refl _ _), HXY⟩
  case round =>
    obtain ⟨j, hj, rfl, HB, HP⟩ := hrel
    by_cases hj3 : j < 3
    · obtain ⟨T, hT⟩ : ∃ T, T = formTexts.getD j [] := ⟨_, rfl⟩
      have hcell : wr.cell? ⟨0, j, none⟩ = some (.string (B T)) := by rw [hT]; exact (HF.out.below HB.out (Nat.le_refl _)) j hj3
      have hok := formTexts_ok j hj3
      rw [← hT] at hok
      have HCALL := Lib.hid (show Calls Tryd.prog 48 #[.string S, .string (B T)] wr (fun e w' => e = .returned (.tuple #[.agg (ints (readF T zeros s).2), .bool (readF T zeros s).1]) ∧ Below wr.heap.size wr w') from by
        rw [HSE.out]; exact read_any s T wr hsl hok.2 hok.1 (HE.out.below HB.out (Nat.le_refl _)))
      have hp := HP.out
      rw [drop_form j hj3, ← hT] at hp
      unfold parseL at hp
      have hrb := rb_read T zeros s rb_zeros
      obtain ⟨q0, q1, q2, q3, q4, q5, q6, hQ⟩ := seven _ (readF_length T zeros s rfl)
      rw [hQ] at hrb hp
      have HQ := Lib.hid hQ
      obtain ⟨V, hV⟩ : ∃ V, V = B T := ⟨_, rfl⟩
      rw [← hV] at hcell HCALL
      have b4 : 0 ≤ q4 ∧ q4 ≤ 20000 := hrb.2 4
      have b5 : 0 ≤ q5 ∧ q5 ≤ 20000 := hrb.2 5
      have b6 : 0 ≤ q6 ∧ q6 ≤ 20000 := hrb.2 6
      cases hk : (readF T zeros s).1 with
      | false =>
        have HK := Lib.hid hk
        rw [hk, if_neg (by decide)] at hp
        have HP2 := Lib.hid hp
        clear hT hV hQ hk hp hok hrb HP
        go_wp2_with fail
        refine HCALL.out.mono ?_
        rintro e w2 ⟨rfl, hb2⟩
        rw [HK.out, HQ.out, show ints [q0, q1, q2, q3, q4, q5, q6] = #[.int .i64 q0, .int .i64 q1, .int .i64 q2, .int .i64 q3, .int .i64 q4, .int .i64 q5, .int .i64 q6] from rfl]
        have HB2 := Lib.hid (HB.out.trans (hb2.mono HB.out.size))
        clear hb2
        go_wp2_with fail
        go_roundw
        case rel => exact ⟨j + 1, by omega, by go_num, Lib.hid (HB2.out.alloc HB2.out.size _), HP2⟩
        case measure => simp [intOf]; omega
      | true =>
        have HK := Lib.hid hk
        rw [hk, if_pos rfl] at hp
        have hsec : secV q0 q1 q2 q3 q4 q5 q6 = (X, Y) := hp
        have HSEC := Lib.hid (show ∀ w' : World, Env w' → Calls Tryd.prog 49 #[.agg #[.int .i64 q0, .int .i64 q1, .int .i64 q2, .int .i64 q3, .int .i64 q4, .int .i64 q5, .int .i64 q6]] w' (fun e w'' => e = .returned (.tuple #[.int .i64 X, .bool Y]) ∧ Below w'.heap.size w' w'') from fun w' hw' => by
          have := seconds_any q0 q1 q2 q3 q4 q5 q6 w' hw' b4.1 b4.2 b5.1 b5.2 b6.1 b6.2
          rw [hsec] at this
          exact this)
        clear hT hV hQ hk hp hok hrb HP hsec
        go_wp2_with fail
        refine HCALL.out.mono ?_
        rintro e w2 ⟨rfl, hb2⟩
        rw [HK.out, HQ.out, show ints [q0, q1, q2, q3, q4, q5, q6] = #[.int .i64 q0, .int .i64 q1, .int .i64 q2, .int .i64 q3, .int .i64 q4, .int .i64 q5, .int .i64 q6] from rfl]
        have HB2 := Lib.hid (HB.out.trans (hb2.mono HB.out.size))
        have HE2 := Lib.hid (HE.out.below HB2.out (Nat.le_refl _))
        clear hb2
        go_wp2_with fail
        refine (HSEC.out _ (HE2.out.below ((Below.refl w2.heap.size w2).alloc (Nat.le_refl _) _) (Nat.le_refl _))).mono ?_
        rintro e w3 ⟨rfl, hb3⟩
        have HB3 := Lib.hid ((HB2.out.alloc HB2.out.size _).trans (hb3.mono (HB2.out.alloc HB2.out.size _).size))
        clear hb3
        go_wp2_with fail
        go_ret2
        exact ⟨rfl, HB3.out⟩
    · obtain rfl : j = 3 := by omega
      have hp := HP.out
      have hx : X = 0 ∧ Y = false := by
        have : ((0 : Int), false) = (X, Y) := hp
        injection this with h1 h2
        exact ⟨h1.symm, h2.symm⟩
      obtain ⟨rfl, rfl⟩ := hx
      clear hp HP
      go_wp2_with fail
      go_ret2
      exact ⟨rfl, HB.out⟩
end Go.Proofs.YtledjiikpajdaaaDoor.Dp
/-
  Small lemmas on worlds: blocks of two cells, what a call that makes memory leaves; results that are structs. No condition.
-/
namespace Go.Proofs.YtledjiikpajdaaaDoor.Fd
open Go.RowKit

theorem Bl.drewN {B : Nat} {a w : World} (h : Below B a w) (n : Nat) : Below B a (w.drewN n) := ⟨h.os, h.tape, h.output, h.size, h.block⟩
theorem Bl.drewN' {B : Nat} {a w w' : World} {n : Nat} (h : Below B a w) (e : w' = w.drewN n) : Below B a w' := by subst e; exact Bl.drewN h n
/-- A call on top of another: what was made since is kept, too. -/
theorem Bl.next {a w w' : World} (h : Below a.heap.size a w) (k : Below w.heap.size w w') : Below a.heap.size a w' := h.trans (k.mono h.size)
theorem Bl.old {B : Nat} {w w' : World} (h : Below B w w') {b : Nat} (hb : b < B) {x : Option Obj} (e : w.heap[b]? = x) : w'.heap[b]? = x := (h.block b hb).trans e
theorem new_block (w : World) (o : Obj) : (w.alloc o).heap[w.heap.size]? = some o := by show (w.heap.push o)[w.heap.size]? = _; simp
theorem new_block' (w : World) (o : Obj) {g : Nat} (h : g = w.heap.size) : (w.alloc o).heap[g]? = some o := by subst h; exact new_block w o
theorem old_block (w : World) (o : Obj) {b : Nat} (h : b < w.heap.size) : (w.alloc o).heap[b]? = w.heap[b]? := Below.heap_alloc w o b h
theorem block_lt {w : World} {b : Nat} {o : Obj} (h : w.heap[b]? = some o) : b < w.heap.size := by
  rcases Nat.lt_or_ge b w.heap.size with h' | h'
  · exact h'
  · simp [Array.getElem?_eq_none h'] at h
theorem two0 {w : World} {g : Nat} {x y : Value} {t : TypeId} {fr : Nat × Nat} (h : w.heap[g]? = some (.cells #[x, y] t fr)) : w.cell? ⟨g, 0, none⟩ = some x := by rw [Lib.cell_of_heap h]; rfl
theorem two1 {w : World} {g : Nat} {x y : Value} {t : TypeId} {fr : Nat × Nat} (h : w.heap[g]? = some (.cells #[x, y] t fr)) : w.cell? ⟨g, 1, none⟩ = some y := by rw [Lib.cell_of_heap h]; rfl
theorem free {w : World} {g : Nat} {cs : Array Value} {t : TypeId} (h : w.heap[g]? = some (.cells cs t (0, 0))) (j : Nat) : w.frozen? ⟨g, j, none⟩ = false := Lib.frozen_of_heap h j
theorem heap_put {w : World} {g : Nat} {cs : Array Value} {t : TypeId} {fr : Nat × Nat} (h : w.heap[g]? = some (.cells cs t fr)) (i : Nat) (x : Value) :
    (w.setCell ⟨g, i, none⟩ x).heap[g]? = some (.cells (cs.setIfInBounds i x) t fr) := by
  simp [World.setCell, Array.getElem?_modify, h]
theorem put2 {w : World} {g : Nat} {a b : Value} {t : TypeId} {fr : Nat × Nat} (h : w.heap[g]? = some (.cells #[a, b] t fr)) (x y : Value) :
    ((w.setCell ⟨g, 0, none⟩ x).setCell ⟨g, 1, none⟩ y).heap[g]? = some (.cells #[x, y] t fr) := by
  rw [heap_put (heap_put h 0 x) 1 y]; rfl
theorem put2_below {B : Nat} {w0 w : World} {g : Nat} (h : Below B w0 w) (hg : B ≤ g) (x y : Value) : Below B w0 ((w.setCell ⟨g, 0, none⟩ x).setCell ⟨g, 1, none⟩ y) :=
  (h.setCell (p := ⟨g, 0, none⟩) hg _).setCell (p := ⟨g, 1, none⟩) hg _

/-- A struct's result in a cell, and a second one. -/
theorem results_pair {P : Program} {fn : Func} {p u : Tmp} {ty : TypeId} (h : fn.results = #[.cell p ty, .tmp u]) (tmps : Array Value) (w : World) (g : Nat) (t : TypeId) (cs : Array Value) (fr : Nat × Nat) (d : TypeDesc)
    (hp : tmps.getD p undef = .pointer (some ⟨g, 0, none⟩)) (hg : w.heap[g]? = some (.cells cs t fr))
    (hu : P.underlying ty = some d) (hd : (match d with | .struct _ | .array _ _ => true | _ => false) = true) (hi : (P.info? ty).map (·.size) = some cs.size) :
    (results fn tmps).run P w = .ok (.tuple #[.agg cs, tmps.getD u undef]) w := by
  rw [results_cell_tmp h, hp]
  simp [asAddr, run_loadVar_row w g t ty cs fr d hg hu hd hi]
/-- A struct's result in a cell, alone. -/
theorem results_one {P : Program} {fn : Func} {p : Tmp} {ty : TypeId} (h : fn.results = #[.cell p ty]) (tmps : Array Value) (w : World) (g : Nat) (t : TypeId) (cs : Array Value) (fr : Nat × Nat) (d : TypeDesc)
    (hp : tmps.getD p undef = .pointer (some ⟨g, 0, none⟩)) (hg : w.heap[g]? = some (.cells cs t fr))
    (hu : P.underlying ty = some d) (hd : (match d with | .struct _ | .array _ _ => true | _ => false) = true) (hi : (P.info? ty).map (·.size) = some cs.size) :
    (results fn tmps).run P w = .ok (.agg cs) w := by
  have e : (results fn tmps).run P w = ((asAddr (tmps.getD p undef)).run P w).andThen fun a w₁ => (loadVar ty a).run P w₁ := by
    simp only [results, h]
    simp [Sem.run_bind, Result.andThen]
  rw [e, hp]
  simp [asAddr, run_loadVar_row w g t ty cs fr d hg hu hd hi, Result.andThen]
end Go.Proofs.YtledjiikpajdaaaDoor.Fd
/-
  A field as the model lays it. No condition.
-/
namespace Go.Proofs.YtledjiikpajdaaaDoor.Fd
open Go.RowKit

theorem infoField : (Tryd.prog.info? 35).map (fun i => (i.zero, i.size, i.bytes)) = some (some (.agg #[.string ⟨#[]⟩, .string ⟨#[]⟩]), 2, 32) := by kernel_rfl
theorem infoFieldSize : (Tryd.prog.info? 35).map (·.size) = some 2 := by kernel_rfl
theorem cellsField : Tryd.prog.cellsOf 35 = 2 := by kernel_rfl
end Go.Proofs.YtledjiikpajdaaaDoor.Fd
