/-
  Texts that the laws' proofs stand on, 3 of them in one file; each one's head says what it proves and under which condition.
-/
import Derived.Test.YtjbdgndejbiikaaDoorSgBP16
import Derived.Test.YtjbdgndejbiikaaDoorSgBP24
import Derived.Test.YtjbdgndejbiikaaDoorSgBP23
import Derived.Test.YtjbdgndejbiikaaDoorSgBP6
import Derived.Test.YtjbdgndejbiikaaDoorSgBP9
import Derived.Deep.WholeRow
import Derived.Deep.RegionHeld3
import Derived.Deep.DeepCutAuto
/-
  storing.dates and its closure, age, has, final, whole, alike, open: what each returns. Conditions: fields of at most 200000 bytes in all; the tables hold what the program's text lays.
-/
namespace Go.Proofs.YtjbdgndejbiikaaDoor.Sg
open Go.RowKit Go.Proofs.YtjbdgndejbiikaaDoor.Tk Go.Proofs.YtjbdgndejbiikaaDoor.Fd Go.Proofs.YtjbdgndejbiikaaDoor.Ct Go.Proofs.YtjbdgndejbiikaaDoor.Fh
set_option maxRecDepth 100000
set_option linter.unusedVariables false

/-- What reads a date: the closure, by the variable that it holds. -/
theorem dates_any (p : Option Addr) (n c : Nat) (w : World) (k : Nat) (hk : w.heap.size = k) : Calls Tryd.prog 22 #[.slice p n c] w fun e w' => e = .returned (.func (.func 38) #[] #[.pointer (some ⟨k, 0, none⟩)]) ∧ w.alloc (.cells #[.slice p n c] 22) = w' := by
  subst hk
  go_enter Tryd.func22, Tryd.ntmps22
  go_wp2_with fail
  go_ret
  exact ⟨rfl, rfl⟩
theorem getN_len (fs : List Fl) (nm : Bs) : getN fs nm ≤ tot fs := Nat.le_trans (getN_le fs nm) (tot_len fs)

set_option maxHeartbeats 4000000 in
theorem second_any (C : Nat) (v : Value) (fs : List Fl) (nm : ByteArray) (wrong : Int) (w : World) (hC : w.heap[C]? = some (.cells #[v] 22 (0, 0))) (hf : Flds w v fs) (ht : tot fs ≤ 200000) (hn : nm.size ≤ maxLen) (hE : Dp.Env w) (hF : Dp.FM w) :
    Calls Tryd.prog 38 #[.string nm, .int .i64 wrong, .pointer (some ⟨C, 0, none⟩)] w fun e w' => e = .returned (.int .i64 (secOf fs nm.data.toList wrong)) ∧ Below w.heap.size w w' := by
  have hgl := getT_length fs nm.data.toList
  have hNl := getN_len fs nm.data.toList
  have c0 : w.cell? ⟨C, 0, none⟩ = some v := by rw [Lib.cell_of_heap hC]; rfl
  obtain ⟨X, hX⟩ : ∃ X : ByteArray, X = ⟨(getT fs nm.data.toList).toArray⟩ := ⟨_, rfl⟩
  have hXl : X.data.toList = getT fs nm.data.toList := by rw [hX]
  have hXs : X.size ≤ 1000000 := by rw [hX]; show (getT fs nm.data.toList).toArray.size ≤ _; rw [List.size_toArray]; omega
  obtain ⟨N, hN⟩ : ∃ N : Nat, N = getN fs nm.data.toList := ⟨_, rfl⟩
  have hNb : N ≤ 200000 := by omega
  have HG := Lib.hid (show getVal fs nm.data.toList = .tuple #[.string X, .int .i64 (N : Int)] from by unfold getVal; rw [hX, hN])
  obtain ⟨P, hP⟩ : ∃ P, P = (Dp.parseD X.data.toList).1 := ⟨_, rfl⟩
  obtain ⟨K, hK⟩ : ∃ K, K = (Dp.parseD X.data.toList).2 := ⟨_, rfl⟩
  have HD := Lib.hid (show Dp.parseD X.data.toList = (P, K) from by rw [hP, hK])
  obtain ⟨R, hR⟩ : ∃ R, R = secOf fs nm.data.toList wrong := ⟨_, rfl⟩
  have H0 := Lib.hid (show N = 0 → R = -1 from fun h => by rw [hR]; exact sec_zero wrong (by omega))
  have H1 := Lib.hid (show ¬ N = 0 → 1 < N → R = wrong from fun h h1 => by rw [hR]; exact sec_many wrong (by omega) (by omega))
  have H2 := Lib.hid (show ¬ N = 0 → K = false → R = wrong from fun h h1 => by rw [hR]; exact sec_bad wrong (by omega) (by rw [← hXl, ← hK]; exact h1))
  have H3 := Lib.hid (show ¬ N = 0 → ¬ 1 < N → K = true → R = P from fun h h1 h2 => by rw [hR, hP, hXl]; exact sec_good wrong (by omega) (by omega) (by rw [← hXl, ← hK]; exact h2))
  rw [← hR]
  have HF := Lib.hid hf
  have HE := Lib.hid hE
  have HM := Lib.hid hF
  clear hX hXl hN hP hK hR hf hE hF hC hgl hNl
  go_enter Tryd.func38, Tryd.ntmps38
  go_wp2_with fail
  refine (get_any v fs nm _ HF.out (by omega) hn).mono ?_
  rintro e w1 ⟨rfl, hb1⟩
  rw [HG.out]
  have HB1 := Lib.hid hb1
  clear hb1 c0
  by_cases h0 : N = 0
  · have HR := Lib.hid (H0.out h0)
    have he : ((N : Int) == 0) = true := by rw [h0]; rfl
    clear h0
    go_wp2_with fail
    go_ret
    exact ⟨by rw [HR.out]; rfl, HB1.out⟩
  · have he : ((N : Int) == 0) = false := beq_eq_false_iff_ne.2 (by omega)
    go_wp2_with fail
    refine (Dp.parse_any X _ hXs (HE.out.below HB1.out (Nat.le_refl _)) (HM.out.below HB1.out (Nat.le_refl _))).mono ?_
    rintro e w2 ⟨rfl, hb2⟩
    rw [HD.out]
    have HB2 := Lib.hid (Bl.next HB1.out hb2)
    clear hb2
    by_cases h1 : 1 < N
    · have HR := Lib.hid (H1.out h0 h1)
      have d1 : decide ((1 : Int) < (N : Int)) = true := by rw [decide_eq_true_eq]; omega
      clear h0 h1
      go_wp2_with fail
      go_ret
      exact ⟨by rw [HR.out]; rfl, HB2.out⟩
    · have d1 : decide ((1 : Int) < (N : Int)) = false := by rw [decide_eq_false_iff_not]; omega
      cases K with
      | false =>
        have HR := Lib.hid (H2.out h0 rfl)
        clear h0 h1
        go_wp2_with fail
        go_ret
        exact ⟨by rw [HR.out]; rfl, HB2.out⟩
      | true =>
        have HR := Lib.hid (H3.out h0 h1 rfl)
        clear h0 h1
        go_wp2_with fail
        go_ret
        exact ⟨by rw [HR.out]; rfl, HB2.out⟩

set_option maxHeartbeats 4000000 in
theorem age_any (v : Value) (fs : List Fl) (w : World) (hf : Flds w v fs) (ht : tot fs ≤ 200000) :
    Calls Tryd.prog 24 #[v] w fun e w' => e = .returned (.int .i64 (ageN fs)) ∧ Below w.heap.size w w' := by
  have hgl := getT_length fs ageL
  obtain ⟨X, hX⟩ : ∃ X : ByteArray, X = ⟨(getT fs ageL).toArray⟩ := ⟨_, rfl⟩
  have HXl := Lib.hid (show X.data.toList = getT fs ageL from by rw [hX])
  have hXs : X.size ≤ 400000 := by rw [hX]; show (getT fs ageL).toArray.size ≤ _; rw [List.size_toArray]; omega
  obtain ⟨N, hN⟩ : ∃ N : Nat, N = getN fs ageL := ⟨_, rfl⟩
  have HG := Lib.hid (show getVal fs [65, 103, 101] = .tuple #[.string X, .int .i64 (N : Int)] from by unfold getVal; rw [hX, hN]; rfl)
  have HF := Lib.hid hf
  clear hX hN hf
  go_enter Tryd.func24, Tryd.ntmps24
  go_wp2_with fail
  refine (get_any v fs ⟨#[65, 103, 101]⟩ _ HF.out (by omega) (by decide)).mono ?_
  rintro e w1 ⟨rfl, hb1⟩
  rw [HG.out]
  go_wp2_with fail
  refine (split_any X _ (by omega)).mono ?_
  rintro e w2 ⟨hb2, h2⟩
  have HB2 := Lib.hid (Bl.next hb1 hb2)
  rw [HXl.out] at h2
  rcases h2 with ⟨h2, rfl⟩ | ⟨ls, u, h2, rfl, ho⟩
  · have HR := Lib.hid (show ageN fs = -1 from by unfold ageN; rw [h2])
    clear h2 hb1 hb2
    go_wp2_with fail
    go_ret
    exact ⟨by rw [HR.out]; rfl, HB2.out⟩
  · have hll := split_length h2
    have hpl := split_piece h2
    cases ls with
    | nil =>
      have HR := Lib.hid (show ageN fs = -1 from by unfold ageN; rw [h2])
      obtain ⟨a, cap, hu⟩ : ∃ a cap, u = .slice a 0 cap := by
        rcases ho.2 with ⟨hv, _⟩ | ⟨g, cap, cur, hv, _⟩
        · exact ⟨none, 0, hv⟩
        · exact ⟨_, cap, hv⟩
      subst hu
      clear h2 ho hb1 hb2 hll hpl
      go_wp2_with fail
      go_ret
      exact ⟨by rw [HR.out]; rfl, HB2.out⟩
    | cons x r =>
      have hxl := hpl x (by simp)
      obtain ⟨T, hT⟩ : ∃ T : ByteArray, T = ⟨x.toArray⟩ := ⟨_, rfl⟩
      have hTs : T.size ≤ maxLen := by rw [hT]; show x.toArray.size ≤ _; rw [List.size_toArray]; unfold maxLen; omega
      have HR := Lib.hid (show ageN fs = (if (Num.numOf T 2147483648).2 then some (Num.numOf T 2147483648).1 else none).getD (-1) from by unfold ageN; rw [h2, hT]; rfl)
      obtain ⟨g, cap, hu⟩ : ∃ g cap, u = .slice (some ⟨g, 0, none⟩) (r.length + 1) cap := by
        rcases ho.2 with ⟨_, h0⟩ | ⟨g, cap, cur, hv, _⟩
        · simp at h0
        · exact ⟨g, cap, by simpa using hv⟩
      have c1 : w2.cell? ⟨g, 0, none⟩ = some (.string T) := by
        rw [hu] at ho
        have := ho.cellAt 0 (by simp)
        rw [this, hT]; rfl
      obtain ⟨L, hL⟩ : ∃ L : Nat, L = r.length := ⟨_, rfl⟩
      have hLb : L ≤ 1000000 := by rw [hL]; simp at hll; rw [← HXl.out] at hll; simp at hll; omega
      subst hu
      rw [← hL]
      obtain ⟨P, hP⟩ : ∃ P, P = (Num.numOf T 2147483648).1 := ⟨_, rfl⟩
      obtain ⟨K, hK⟩ : ∃ K, K = (Num.numOf T 2147483648).2 := ⟨_, rfl⟩
      have HD := Lib.hid (show Num.numOf T 2147483648 = (P, K) from by rw [hP, hK])
      rw [HD.out] at HR
      clear h2 ho hb1 hb2 hll hpl hT hL hP hK hxl
      go_wp2_with fail
      refine (Num.number_any T 2147483648 _ hTs (by decide)).mono ?_
      rintro e w3 ⟨rfl, rfl⟩
      rw [HD.out]
      cases K with
      | false =>
        go_wp2_with fail
        go_ret
        exact ⟨by rw [HR.out]; rfl, HB2.out⟩
      | true =>
        go_wp2_with fail
        go_ret
        exact ⟨by rw [HR.out]; rfl, HB2.out⟩

set_option maxHeartbeats 4000000 in
theorem has_any (v : Value) (fs : List Fl) (nm : ByteArray) (w : World) (hf : Flds w v fs) (ht : tot fs ≤ 200000) (hn : nm.size ≤ maxLen) :
    Calls Tryd.prog 28 #[v, .string nm] w fun e w' => e = .returned (.bool (hasN fs nm.data.toList)) ∧ Below w.heap.size w w' := by
  have hNl := getN_len fs nm.data.toList
  obtain ⟨X, hX⟩ : ∃ X : ByteArray, X = ⟨(getT fs nm.data.toList).toArray⟩ := ⟨_, rfl⟩
  obtain ⟨N, hN⟩ : ∃ N : Nat, N = getN fs nm.data.toList := ⟨_, rfl⟩
  have HG := Lib.hid (show getVal fs nm.data.toList = .tuple #[.string X, .int .i64 (N : Int)] from by unfold getVal; rw [hX, hN])
  have HR := Lib.hid (show hasN fs nm.data.toList = decide (0 < N) from by unfold hasN; rw [hN])
  have HF := Lib.hid hf
  clear hX hN hf hNl
  go_enter Tryd.func28, Tryd.ntmps28
  go_wp2_with fail
  refine (get_any v fs nm _ HF.out (by omega) hn).mono ?_
  rintro e w1 ⟨rfl, hb1⟩
  rw [HG.out]
  go_wp2_with fail
  go_ret
  exact ⟨by rw [HR.out]; simp, hb1⟩
theorem final_any (code : Int) (w : World) : Calls Tryd.prog 12 #[.int .i64 code] w fun e w' => e = .returned (.bool (finalB code)) ∧ w = w' := by
  go_enter Tryd.func12, Tryd.ntmps12
  go_wp2_with fail
  all_goals
    go_ret
    exact ⟨by unfold finalB; simp_all <;> (first | rfl | (intros; omega)), rfl⟩
set_option maxHeartbeats 4000000 in
theorem whole_any (v : Value) (fs : List Fl) (code : Int) (w : World) (hf : Flds w v fs) (ht : tot fs ≤ 200000) :
    Calls Tryd.prog 13 #[v, .int .i64 code] w fun e w' => e = .returned (.bool (wholeB fs code)) ∧ Below w.heap.size w w' := by
  have HR := Lib.hid (show hasN fs [82, 97, 110, 103, 101] = hasN fs rngL from by unfold hasN; rw [(getN_case fs (a := [82, 97, 110, 103, 101]) (b := rngL) (by decide)).1])
  have HF := Lib.hid hf
  clear hf
  go_enter Tryd.func13, Tryd.ntmps13
  go_wp2_with fail
  refine (has_any v fs ⟨#[82, 97, 110, 103, 101]⟩ _ HF.out ht (by decide)).mono ?_
  rintro e w1 ⟨rfl, hb1⟩
  rw [HR.out]
  obtain ⟨b, hb⟩ : ∃ b, b = hasN fs rngL := ⟨_, rfl⟩
  have HW := Lib.hid (show wholeB fs code = (!b || decide (code = 200) || decide (code = 206) || decide (299 < code)) from by unfold wholeB; rw [hb])
  rw [← hb]
  clear hb
  cases b
  all_goals
    go_wp2_with fail
    all_goals
      go_ret
      exact ⟨by rw [HW.out]; simp_all, hb1⟩
set_option maxHeartbeats 4000000 in
theorem open_any (v : Value) (fs : List Fl) (c : Con) (w : World) (hf : Flds w v fs) (ht : tot fs ≤ 200000) :
    Calls Tryd.prog 15 #[v, .agg (cells c)] w fun e w' => e = .returned (.bool (openB fs c)) ∧ Below w.heap.size w w' := by
  have HR := Lib.hid (show hasN fs [65, 117, 116, 104, 111, 114, 105, 122, 97, 116, 105, 111, 110] = hasN fs autL from by unfold hasN; rw [(getN_case fs (a := [65, 117, 116, 104, 111, 114, 105, 122, 97, 116, 105, 111, 110]) (b := autL) (by decide)).1])
  have HF := Lib.hid (hf.below ((Below.refl w.heap.size w).alloc (Nat.le_refl _) (.cells (cells c) 33)) (Nat.le_refl _))
  clear hf
  go_enter Tryd.func15, Tryd.ntmps15
  go_wp2_with fail
  refine (has_any v fs ⟨#[65, 117, 116, 104, 111, 114, 105, 122, 97, 116, 105, 111, 110]⟩ _ HF.out ht (by decide)).mono ?_
  rintro e w1 ⟨rfl, hb1⟩
  have hK := Bl.old hb1 (block_lt (new_block w (.cells (cells c) 33))) (new_block w (.cells (cells c) 33))
  have c3 : w1.cell? ⟨w.heap.size, 3, none⟩ = some (.bool c.pu) := by rw [Lib.cell_of_heap hK]; rfl
  have c4 : w1.cell? ⟨w.heap.size, 4, none⟩ = some (.bool c.mu) := by rw [Lib.cell_of_heap hK]; rfl
  have c8 : w1.cell? ⟨w.heap.size, 8, none⟩ = some (.int .i64 c.sh) := by rw [Lib.cell_of_heap hK]; rfl
  have HB := Lib.hid (((Below.refl w.heap.size w).alloc (Nat.le_refl _) (.cells (cells c) 33)).trans (hb1.mono (by simp)))
  rw [HR.out]
  obtain ⟨b, hb⟩ : ∃ b, b = hasN fs autL := ⟨_, rfl⟩
  obtain ⟨pu, hpu⟩ : ∃ x, x = c.pu := ⟨_, rfl⟩
  obtain ⟨mu, hmu⟩ : ∃ x, x = c.mu := ⟨_, rfl⟩
  obtain ⟨sh, hsh⟩ : ∃ x, x = c.sh := ⟨_, rfl⟩
  have HW := Lib.hid (show openB fs c = (!b || pu || mu || !decide (sh = -1)) from by unfold openB; rw [hb, hpu, hmu, hsh])
  rw [← hb]
  rw [← hpu] at c3
  rw [← hmu] at c4
  rw [← hsh] at c8
  clear hb hpu hmu hsh hK hb1
  cases b <;> cases pu <;> cases mu
  all_goals
    go_wp2_with fail
    all_goals
      go_ret
      exact ⟨by rw [HW.out]; rfl, HB.out⟩
end Go.Proofs.YtjbdgndejbiikaaDoor.Sg
/-
  A Meta in memory beside the closures that bring numbers into their ranges: what stays. No condition.
-/
-- cut by strips.py
namespace Go.Proofs.YtjbdgndejbiikaaDoor.Fh
open Go.RowKit Go.Proofs.YtjbdgndejbiikaaDoor.Ct Go.Proofs.YtjbdgndejbiikaaDoor.Fd
set_option maxRecDepth 100000
set_option linter.unusedVariables false

def MetAt (w : World) (g : Nat) (m : Mta) : Prop := w.heap[g]? = some (.cells (mcells m) 35 (0, 0))
theorem MetAt.at {w : World} {g : Nat} {m : Mta} (h : MetAt w g m) {i : Nat} {v : Value} (e : (mcells m)[i]? = some v) : w.cell? ⟨g, i, none⟩ = some v := by rw [Lib.cell_of_heap h, e]
theorem MetAt.code {w : World} {g : Nat} {m : Mta} (h : MetAt w g m) : w.cell? ⟨g, 0, none⟩ = some (.int .i64 m.code) := h.at rfl
theorem MetAt.nc {w : World} {g : Nat} {m : Mta} (h : MetAt w g m) : w.cell? ⟨g, 2, none⟩ = some (.bool m.con.nc) := h.at rfl
theorem MetAt.mu {w : World} {g : Nat} {m : Mta} (h : MetAt w g m) : w.cell? ⟨g, 5, none⟩ = some (.bool m.con.mu) := h.at rfl
theorem MetAt.px {w : World} {g : Nat} {m : Mta} (h : MetAt w g m) : w.cell? ⟨g, 6, none⟩ = some (.bool m.con.px) := h.at rfl
theorem MetAt.ag {w : World} {g : Nat} {m : Mta} (h : MetAt w g m) : w.cell? ⟨g, 8, none⟩ = some (.int .i64 m.con.ag) := h.at rfl
theorem MetAt.sh {w : World} {g : Nat} {m : Mta} (h : MetAt w g m) : w.cell? ⟨g, 9, none⟩ = some (.int .i64 m.con.sh) := h.at rfl
theorem MetAt.wh {w : World} {g : Nat} {m : Mta} (h : MetAt w g m) : w.cell? ⟨g, 10, none⟩ = some (.int .i64 m.con.wh) := h.at rfl
theorem MetAt.date {w : World} {g : Nat} {m : Mta} (h : MetAt w g m) : w.cell? ⟨g, 14, none⟩ = some (.int .i64 m.date) := h.at rfl
theorem MetAt.exp {w : World} {g : Nat} {m : Mta} (h : MetAt w g m) : w.cell? ⟨g, 15, none⟩ = some (.int .i64 m.exp) := h.at rfl
theorem MetAt.mod {w : World} {g : Nat} {m : Mta} (h : MetAt w g m) : w.cell? ⟨g, 16, none⟩ = some (.int .i64 m.mod) := h.at rfl
theorem MetAt.age {w : World} {g : Nat} {m : Mta} (h : MetAt w g m) : w.cell? ⟨g, 17, none⟩ = some (.int .i64 m.age) := h.at rfl
theorem MetAt.ask {w : World} {g : Nat} {m : Mta} (h : MetAt w g m) : w.cell? ⟨g, 18, none⟩ = some (.int .i64 m.ask) := h.at rfl
theorem MetAt.got {w : World} {g : Nat} {m : Mta} (h : MetAt w g m) : w.cell? ⟨g, 19, none⟩ = some (.int .i64 m.got) := h.at rfl
theorem MetAt.more {w w' : World} {g : Nat} {m : Mta} (h : MetAt w g m) {B : Nat} (hb : Below B w w') (hl : g < B) : MetAt w' g m := Bl.old hb hl h
theorem MetAt.lt {w : World} {g : Nat} {m : Mta} (h : MetAt w g m) : g < w.heap.size := block_lt h
theorem IVar.lt {w : World} {b : Nat} {n : Int} (h : IVar w b n) : b < w.heap.size := block_lt h
theorem MetAt.all {w : World} {g : Nat} {m : Mta} (h : MetAt w g m) : w.cell? ⟨g, 0, none⟩ = some (.int .i64 m.code) ∧ w.cell? ⟨g, 1, none⟩ = some (.bool m.con.ns) ∧ w.cell? ⟨g, 2, none⟩ = some (.bool m.con.nc) ∧ w.cell? ⟨g, 3, none⟩ = some (.bool m.con.pr) ∧ w.cell? ⟨g, 4, none⟩ = some (.bool m.con.pu) ∧ w.cell? ⟨g, 5, none⟩ = some (.bool m.con.mu) ∧ w.cell? ⟨g, 6, none⟩ = some (.bool m.con.px) ∧ w.cell? ⟨g, 7, none⟩ = some (.bool m.con.oc) ∧ w.cell? ⟨g, 8, none⟩ = some (.int .i64 m.con.ag) ∧ w.cell? ⟨g, 9, none⟩ = some (.int .i64 m.con.sh) ∧ w.cell? ⟨g, 10, none⟩ = some (.int .i64 m.con.wh) ∧ w.cell? ⟨g, 11, none⟩ = some (.int .i64 m.con.ie) ∧ w.cell? ⟨g, 12, none⟩ = some (.int .i64 m.con.mf) ∧ w.cell? ⟨g, 13, none⟩ = some (.int .i64 m.con.ms) ∧ w.cell? ⟨g, 14, none⟩ = some (.int .i64 m.date) ∧ w.cell? ⟨g, 15, none⟩ = some (.int .i64 m.exp) ∧ w.cell? ⟨g, 16, none⟩ = some (.int .i64 m.mod) ∧ w.cell? ⟨g, 17, none⟩ = some (.int .i64 m.age) ∧ w.cell? ⟨g, 18, none⟩ = some (.int .i64 m.ask) ∧ w.cell? ⟨g, 19, none⟩ = some (.int .i64 m.got) ∧ w.cell? ⟨g, 20, none⟩ = some (.string m.tag) :=
  ⟨h.at rfl, h.at rfl, h.at rfl, h.at rfl, h.at rfl, h.at rfl, h.at rfl, h.at rfl, h.at rfl, h.at rfl, h.at rfl, h.at rfl, h.at rfl, h.at rfl, h.at rfl, h.at rfl, h.at rfl, h.at rfl, h.at rfl, h.at rfl, h.at rfl⟩
/-- A whole Meta out of its block: N is its size. -/
theorem MetAt.load {w : World} {g : Nat} {m : Mta} (h : MetAt w g m) {N : Nat} (hN : N = 21) : (loadCellsFrom ⟨g, 0, none⟩ 0 N #[]).run Tryd.prog w = .ok (mcells m) w := by
  subst hN
  have := run_loadCells_list (P := Tryd.prog) w ⟨g, 0, none⟩ (mcells m).toList (fun j v hv => by
    have hadd : (⟨g, 0, none⟩ : Addr).add j = ⟨g, j, none⟩ := by unfold Addr.add; split <;> simp_all
    rw [hadd, cell_of_row _ _ j (mcells m) 35 (0, 0) h]
    simpa using hv)
  simpa [loadCells, show (mcells m).size = 21 from rfl] using this
theorem conAt_load {w : World} {g : Nat} {c : Con} (h : ConAt w g c) {N : Nat} (hN : N = 13) : (loadCellsFrom ⟨g, 0, none⟩ 0 N #[]).run Tryd.prog w = .ok (cells c) w := by
  subst hN
  have := run_loadCells_list (P := Tryd.prog) w ⟨g, 0, none⟩ (cells c).toList (fun j v hv => by
    have hadd : (⟨g, 0, none⟩ : Addr).add j = ⟨g, j, none⟩ := by unfold Addr.add; split <;> simp_all
    rw [hadd, cell_of_row _ _ j (cells c) 33 (0, 0) h]
    simpa using hv)
  simpa [loadCells, show (cells c).size = 13 from rfl] using this
/-- The Control within a Meta. -/
theorem MetAt.loadCon {w : World} {g : Nat} {m : Mta} (h : MetAt w g m) {N : Nat} (hN : N = 13) : (loadCellsFrom ⟨g, 1, none⟩ 0 N #[]).run Tryd.prog w = .ok (cells m.con) w := by
  subst hN
  have := run_loadCells_list (P := Tryd.prog) w ⟨g, 1, none⟩ (cells m.con).toList (fun j v hv => by
    have hadd : (⟨g, 1, none⟩ : Addr).add j = ⟨g, 1 + j, none⟩ := by unfold Addr.add; split <;> simp_all
    rw [hadd, cell_of_row _ _ (1 + j) (mcells m) 35 (0, 0) h]
    have hj : j < 13 := by
      rcases Nat.lt_or_ge j 13 with h1 | h1
      · exact h1
      · rw [List.getElem?_eq_none (by simpa [cells] using h1)] at hv; cases hv
    rw [← hv]
    match j, hj with
    | 0, _ | 1, _ | 2, _ | 3, _ | 4, _ | 5, _ | 6, _ | 7, _ | 8, _ | 9, _ | 10, _ | 11, _ | 12, _ => rfl)
  simpa [loadCells, show (cells m.con).size = 13 from rfl] using this
/-- The size of a type, behind a name: a walk then loads by the law above. -/
structure SizeIs (t : TypeId) (k : Nat) (Z : Sem Nat) (N : Nat) : Prop where
  is : sizeOf t = Z
  run : ∀ W, Z.run Tryd.prog W = .ok N W
  num : N = k
theorem size_met : ∃ Z N, SizeIs 35 21 Z N := ⟨_, _, rfl, fun W => by kernel_rfl, rfl⟩
theorem size_con : ∃ Z N, SizeIs 33 13 Z N := ⟨_, _, rfl, fun W => by kernel_rfl, rfl⟩
theorem metAt_new (w : World) (m : Mta) : MetAt (w.alloc (.cells (mcells m) 35)) w.heap.size m := new_block _ _

/-- What a call of within leaves. -/
structure Made (l m : Int) (w w' : World) : Prop where
  i0 : IVar w' w.heap.size l
  i1 : IVar w' (w.heap.size + 1) m
  bel : Below w.heap.size w w'
/-- A Meta, one closure or two, and nothing elder changed. -/
structure One (w : World) (g : Nat) (m : Mta) (b : Nat) (l1 m1 : Int) (W : World) : Prop where
  met : MetAt W g m
  a0 : IVar W b l1
  a1 : IVar W (b + 1) m1
  bel : Below w.heap.size w W
theorem One.more {w : World} {g : Nat} {m : Mta} {b : Nat} {l1 m1 : Int} {W W' : World} (h : One w g m b l1 m1 W) (hb : Below W.heap.size W W') : One w g m b l1 m1 W' :=
  ⟨h.met.more hb h.met.lt, h.a0.more hb h.a0.lt, h.a1.more hb h.a1.lt, Bl.next h.bel hb⟩
theorem One.drew {w : World} {g : Nat} {m : Mta} {b : Nat} {l1 m1 : Int} {W : World} (h : One w g m b l1 m1 W) : One w g m b l1 m1 W.drew := ⟨h.met, h.a0, h.a1, Bl.drewN h.bel 1⟩
theorem alloc_size (w : World) (o : Obj) : (w.alloc o).heap.size = w.heap.size + 1 := by simp
theorem one_new {w w1 : World} {m : Mta} {l1 m1 : Int} (h : Made l1 m1 (w.alloc (.cells (mcells m) 35)) w1) : One w w.heap.size m (w.heap.size + 1) l1 m1 w1 := by
  have h1 := h.i0
  have h2 := h.i1
  have h3 := h.bel
  rw [alloc_size] at h1 h2 h3
  exact ⟨(metAt_new w m).more h3 (by omega), h1, h2, ((Below.refl _ _).alloc (Nat.le_refl _) _).trans (h3.mono (by omega))⟩
structure Two (w : World) (g : Nat) (m : Mta) (b : Nat) (l1 m1 : Int) (c : Nat) (l2 m2 : Int) (W : World) : Prop where
  one : One w g m b l1 m1 W
  a2 : IVar W c l2
  a3 : IVar W (c + 1) m2
theorem One.two {w : World} {g : Nat} {m : Mta} {b : Nat} {l1 m1 : Int} {W w1 : World} {l2 m2 : Int} (h : One w g m b l1 m1 W) (k : Made l2 m2 W w1) : Two w g m b l1 m1 W.heap.size l2 m2 w1 := ⟨h.more k.bel, k.i0, k.i1⟩
theorem Two.more {w : World} {g : Nat} {m : Mta} {b : Nat} {l1 m1 : Int} {c : Nat} {l2 m2 : Int} {W W' : World} (h : Two w g m b l1 m1 c l2 m2 W) (hb : Below W.heap.size W W') : Two w g m b l1 m1 c l2 m2 W' :=
  ⟨h.one.more hb, h.a2.more hb h.a2.lt, h.a3.more hb h.a3.lt⟩
theorem Two.drew {w : World} {g : Nat} {m : Mta} {b : Nat} {l1 m1 : Int} {c : Nat} {l2 m2 : Int} {W : World} (h : Two w g m b l1 m1 c l2 m2 W) : Two w g m b l1 m1 c l2 m2 W.drew := ⟨h.one.drew, h.a2, h.a3⟩
theorem Two.cells {w : World} {g : Nat} {m : Mta} {b : Nat} {l1 m1 : Int} {c : Nat} {l2 m2 : Int} {W : World} (h : Two w g m b l1 m1 c l2 m2 W) :
    W.cell? ⟨g, 17, none⟩ = some (.int .i64 m.age) ∧ W.cell? ⟨g, 18, none⟩ = some (.int .i64 m.ask) ∧ W.cell? ⟨g, 19, none⟩ = some (.int .i64 m.got) ∧ Two w g m b l1 m1 c l2 m2 W :=
  ⟨h.one.met.at rfl, h.one.met.at rfl, h.one.met.at rfl, h⟩
end Go.Proofs.YtjbdgndejbiikaaDoor.Fh
/-
  storing.Of: what it returns. Conditions: fields of at most 200000 bytes in all; the tables hold what the program's text lays.
-/
namespace Go.Proofs.YtjbdgndejbiikaaDoor.Sg
open Go.RowKit Go.Proofs.YtjbdgndejbiikaaDoor.Tk Go.Proofs.YtjbdgndejbiikaaDoor.Fd Go.Proofs.YtjbdgndejbiikaaDoor.Ct Go.Proofs.YtjbdgndejbiikaaDoor.Fh
set_option maxRecDepth 100000
set_option linter.unusedVariables false

/-- A Meta of which nothing is laid yet. -/
def zmet : Mta := ⟨0, ⟨false, false, false, false, false, false, false, 0, 0, 0, 0, 0, 0⟩, 0, 0, 0, 0, 0, 0, ⟨#[]⟩⟩
theorem one_met' (m : Mta) : (mcells m).all (·.oneCell') = true := by simp [mcells, Value.oneCell']
theorem infoMet' : (Tryd.prog.info? 35).map (·.size) = some 21 := by kernel_rfl
/-- A Meta stored over another one, wherever it lies. -/
theorem put_any {W : World} {g : Nat} {m0 : Mta} (h : MetAt W g m0) (m : Mta) : (storeCells ⟨g, 0, none⟩ (mcells m).toList).run Tryd.prog W = .ok () (W.setRow g (mcells m)) := by
  have hq : (Tryd.prog.info? 35).map (·.size) = some (mcells m).size := infoMet'
  have h1 := run_storeVar_row (P := Tryd.prog) _ g _ _ (mcells m0) (mcells m) h hq rfl (one_met' m)
  have e : (storeVar 35 ⟨g, 0, none⟩ (.agg (mcells m))).run Tryd.prog W = (storeCells ⟨g, 0, none⟩ (mcells m).toList).run Tryd.prog W := by
    obtain ⟨Z, N, hZ⟩ := size_met
    simp [storeVar, Sem.run_bind, hZ.is, hZ.run, hZ.num, Value.cells, show (mcells m).size = 21 from rfl]
  rw [← e, h1]
/-- The response in its block, the result's block, the closure's variable; nothing elder changed. -/
structure Kn (w : World) (mi code : Int) (rs : ByteArray) (v : Value) (W : World) : Prop where
  box : W.heap[w.heap.size]? = some (.cells #[.int .i64 mi, .int .i64 code, .string rs, v] 29 (0, 0))
  res : ∃ m0, MetAt W (w.heap.size + 1) m0
  clo : W.heap[w.heap.size + 2]? = some (.cells #[v] 22 (0, 0))
  bel : Below w.heap.size w W
section
variable {w : World} {mi code : Int} {rs : ByteArray} {v : Value} {W W' : World}
theorem Kn.more (h : Kn w mi code rs v W) (hb : Below W.heap.size W W') : Kn w mi code rs v W' :=
  by
  obtain ⟨m0, hm⟩ := h.res
  exact ⟨Bl.old hb (block_lt h.box) h.box, ⟨m0, hm.more hb hm.lt⟩, Bl.old hb (block_lt h.clo) h.clo, Bl.next h.bel hb⟩
theorem Kn.drew (h : Kn w mi code rs v W) : Kn w mi code rs v W.drew := ⟨h.box, h.res, h.clo, Bl.drewN h.bel 1⟩
theorem kn_new (w : World) (mi code : Int) (rs : ByteArray) (v : Value) : Kn w mi code rs v (((w.alloc (.cells #[.int .i64 mi, .int .i64 code, .string rs, v] 29)).alloc (.cells (mcells zmet) 35)).alloc (.cells #[v] 22)) := by
  have b1 : Below w.heap.size w (w.alloc (.cells #[.int .i64 mi, .int .i64 code, .string rs, v] 29)) := (Below.refl _ _).alloc (Nat.le_refl _) _
  refine ⟨?_, ⟨zmet, ?_⟩, ?_, (b1.alloc (by simp) _).alloc (by simp; omega) _⟩
  · exact (old_block _ _ (by simp; omega)).trans ((old_block _ _ (by simp)).trans (new_block _ _))
  · exact (old_block _ _ (by simp)).trans (new_block' _ _ (by simp))
  · exact new_block' _ _ (by simp)
theorem Kn.last (h : Kn w mi code rs v W) (m : Mta) : MetAt (W.setRow (w.heap.size + 1) (mcells m)) (w.heap.size + 1) m := by
  obtain ⟨m0, hm⟩ := h.res
  exact setRow_heap W _ _ _ _ _ hm
theorem Kn.below (h : Kn w mi code rs v W) (m : Mta) : Below w.heap.size w (W.setRow (w.heap.size + 1) (mcells m)) :=
  h.bel.trans ⟨rfl, rfl, rfl, by simp [World.setRow], fun k hk => by
    show (W.heap.modify _ _)[k]? = _
    rw [Array.getElem?_modify, if_neg (by omega)]⟩
theorem Kn.set (h : Kn w mi code rs v W) (m : Mta) : Kn w mi code rs v (W.setRow (w.heap.size + 1) (mcells m)) :=
  ⟨(setRow_other W _ _ _ (by omega)).trans h.box, ⟨m, h.last m⟩, (setRow_other W _ _ _ (by omega)).trans h.clo, h.below m⟩
theorem Kn.facts (h : Kn w mi code rs v W) (m : Mta) : W.cell? ⟨w.heap.size, 1, none⟩ = some (.int .i64 code) ∧ W.cell? ⟨w.heap.size, 3, none⟩ = some v ∧
    (storeCells ⟨w.heap.size + 1, 0, none⟩ (mcells m).toList).run Tryd.prog W = .ok () (W.setRow (w.heap.size + 1) (mcells m)) ∧ Kn w mi code rs v W :=
  ⟨by rw [Lib.cell_of_heap h.box]; rfl, by rw [Lib.cell_of_heap h.box]; rfl, put_any h.res.choose_spec m, h⟩
end
theorem any_contains (ls : List Bs) (x : Bs) : ls.any (· == x) = ls.contains x := by
  induction ls with
  | nil => rfl
  | cons a r ih => rw [List.any_cons, List.contains_cons, ih]; congr 1; rw [Bool.eq_iff_iff, beq_iff_eq, beq_iff_eq]; exact eq_comm
set_option maxHeartbeats 4000000 in
theorem alike_any (v : Value) (fs : List Fl) (w : World) (hf : Flds w v fs) (ht : tot fs ≤ 200000) :
    Calls Tryd.prog 14 #[v] w fun e w' => e = .returned (.bool (varyOk fs)) ∧ Below w.heap.size w w' := by
  have hgl := getT_length fs varyL
  have hcs := (getN_case fs (a := [86, 97, 114, 121]) (b := varyL) (by decide)).2
  obtain ⟨X, hX⟩ : ∃ X : ByteArray, X = ⟨(getT fs varyL).toArray⟩ := ⟨_, rfl⟩
  have HXl := Lib.hid (show X.data.toList = getT fs varyL from by rw [hX])
  have hXs : X.size ≤ 400000 := by rw [hX]; show (getT fs varyL).toArray.size ≤ _; rw [List.size_toArray]; omega
  obtain ⟨N, hN⟩ : ∃ N : Nat, N = getN fs [86, 97, 114, 121] := ⟨_, rfl⟩
  have HG := Lib.hid (show getVal fs [86, 97, 114, 121] = .tuple #[.string X, .int .i64 (N : Int)] from by unfold getVal; rw [hcs, hX, hN])
  have HF := Lib.hid hf
  clear hX hN hcs hf
  go_enter Tryd.func14, Tryd.ntmps14
  go_wp2_with fail
  refine (get_any v fs ⟨#[86, 97, 114, 121]⟩ _ HF.out (by omega) (by decide)).mono ?_
  rintro e w1 ⟨rfl, hb1⟩
  rw [HG.out]
  go_wp2_with fail
  refine (split_any X _ (by omega)).mono ?_
  rintro e w3 ⟨hb3, h3⟩
  have HB3 := Lib.hid (Bl.next hb1 hb3)
  rw [HXl.out] at h3
  rcases h3 with ⟨h3, rfl⟩ | ⟨ls, u, h3, rfl, ho⟩
  · have HP := Lib.hid (show varyOk fs = false from by unfold varyOk; rw [h3])
    clear h3 hb1 hb3
    go_wp2_with fail
    go_ret
    exact ⟨by rw [HP.out]; rfl, HB3.out⟩
  · have hll := split_length h3
    rw [← HXl.out] at hll
    have hll2 : ls.length ≤ 1099511627776 := by simp at hll; omega
    have HP := Lib.hid (show varyOk fs = !ls.any (· == [42]) from by unfold varyOk; rw [h3, any_contains])
    have HO := Lib.hid ho
    clear h3 hb1 hb3 ho hll
    go_wp2_with fail
    refine (contains_any u ls ⟨#[42]⟩ _ _ HO.out hll2).mono ?_
    rintro e w4 ⟨rfl, rfl⟩
    go_wp2_with fail
    go_ret
    exact ⟨by rw [HP.out]; rfl, HB3.out⟩
theorem Kn.flds {w : World} {mi code : Int} {rs : ByteArray} {v : Value} {W : World} {fs : List Fl} (h : Kn w mi code rs v W) (hf : Flds w v fs) : Flds W v fs := hf.below h.bel (Nat.le_refl _)

set_option maxHeartbeats 800000 in
theorem known_lit (mi code : Int) (rs : ByteArray) (p : Option Addr) (n c : Nat) (fs : List Fl) (asked got : Int) (w : World) (hf : Flds w (.slice p n c) fs) (ht : tot fs ≤ 200000) (hT : Tab w) (hE : Dp.Env w) (hF : Dp.FM w) :
    Calls Tryd.prog 10 #[.agg #[.int .i64 mi, .int .i64 code, .string rs, .slice p n c], .int .i64 asked, .int .i64 got] w fun e w' => e = .returned (.agg (mcells (metOf code fs asked got))) ∧ Below w.heap.size w w' := by
  have H := Lib.hid (kn_new w mi code rs (.slice p n c))
  obtain ⟨C, hC⟩ : ∃ C, C = ofOf fs := ⟨_, rfl⟩
  obtain ⟨d, hd⟩ : ∃ d, d = secOf fs dateN (-1) := ⟨_, rfl⟩
  obtain ⟨x, hx⟩ : ∃ x, x = secOf fs expN 0 := ⟨_, rfl⟩
  obtain ⟨m, hm⟩ : ∃ m, m = secOf fs modN (-1) := ⟨_, rfl⟩
  obtain ⟨a, ha⟩ : ∃ a, a = ageN fs := ⟨_, rfl⟩
  obtain ⟨T, hTg⟩ : ∃ T : ByteArray, T = ⟨(getT fs tagN).toArray⟩ := ⟨_, rfl⟩
  obtain ⟨k, hk⟩ : ∃ k : Nat, k = getN fs tagN := ⟨_, rfl⟩
  have HG := Lib.hid (show getVal fs [69, 84, 97, 103] = .tuple #[.string T, .int .i64 (k : Int)] from by rw [hTg, hk]; rfl)
  obtain ⟨M, hM⟩ : ∃ M : Mta, M = ⟨code, C, d, x, m, a, asked, got, T⟩ := ⟨_, rfl⟩
  have HM := Lib.hid (show metOf code fs asked got = M from by rw [hM, hC, hd, hx, hm, ha, hTg]; rfl)
  rw [HM.out]
  have HS0 := Lib.hid (show ∀ W, Kn w mi code rs (.slice p n c) W → Calls Tryd.prog 11 #[.slice p n c] W (fun e w' => e = .returned (.agg #[.bool C.ns, .bool C.nc, .bool C.pr, .bool C.pu, .bool C.mu, .bool C.px, .bool C.oc, .int .i64 C.ag, .int .i64 C.sh, .int .i64 C.wh, .int .i64 C.ie, .int .i64 C.mf, .int .i64 C.ms]) ∧ Below W.heap.size W w') from fun W hW => by
    rw [hC]; exact of_any _ fs W (hW.flds hf) (by omega) (hT.below hW.bel hT.lt))
  have HS1 := Lib.hid (show ∀ W, Kn w mi code rs (.slice p n c) W → Calls Tryd.prog 38 #[.string ⟨#[68, 97, 116, 101]⟩, .int .i64 (-1), .pointer (some ⟨w.heap.size + 2, 0, none⟩)] W (fun e w' => e = .returned (.int .i64 d) ∧ Below W.heap.size W w') from fun W hW => by
    rw [hd]; exact second_any _ _ fs ⟨#[68, 97, 116, 101]⟩ (-1) W hW.clo (hW.flds hf) ht (by decide) (hE.below hW.bel (Nat.le_refl _)) (hF.below hW.bel (Nat.le_refl _)))
  have HS2 := Lib.hid (show ∀ W, Kn w mi code rs (.slice p n c) W → Calls Tryd.prog 38 #[.string ⟨#[69, 120, 112, 105, 114, 101, 115]⟩, .int .i64 0, .pointer (some ⟨w.heap.size + 2, 0, none⟩)] W (fun e w' => e = .returned (.int .i64 x) ∧ Below W.heap.size W w') from fun W hW => by
    rw [hx]; exact second_any _ _ fs ⟨#[69, 120, 112, 105, 114, 101, 115]⟩ 0 W hW.clo (hW.flds hf) ht (by decide) (hE.below hW.bel (Nat.le_refl _)) (hF.below hW.bel (Nat.le_refl _)))
  have HS3 := Lib.hid (show ∀ W, Kn w mi code rs (.slice p n c) W → Calls Tryd.prog 38 #[.string ⟨#[76, 97, 115, 116, 45, 77, 111, 100, 105, 102, 105, 101, 100]⟩, .int .i64 (-1), .pointer (some ⟨w.heap.size + 2, 0, none⟩)] W (fun e w' => e = .returned (.int .i64 m) ∧ Below W.heap.size W w') from fun W hW => by
    rw [hm]; exact second_any _ _ fs ⟨#[76, 97, 115, 116, 45, 77, 111, 100, 105, 102, 105, 101, 100]⟩ (-1) W hW.clo (hW.flds hf) ht (by decide) (hE.below hW.bel (Nat.le_refl _)) (hF.below hW.bel (Nat.le_refl _)))
  have HS4 := Lib.hid (show ∀ W, Kn w mi code rs (.slice p n c) W → Calls Tryd.prog 24 #[.slice p n c] W (fun e w' => e = .returned (.int .i64 a) ∧ Below W.heap.size W w') from fun W hW => by
    rw [ha]; exact age_any _ fs W (hW.flds hf) ht)
  have e0 : (#[.int .i64 code, .bool C.ns, .bool C.nc, .bool C.pr, .bool C.pu, .bool C.mu, .bool C.px, .bool C.oc, .int .i64 C.ag, .int .i64 C.sh, .int .i64 C.wh, .int .i64 C.ie, .int .i64 C.mf, .int .i64 C.ms, .int .i64 d, .int .i64 x, .int .i64 m, .int .i64 a, .int .i64 asked, .int .i64 got, .string T] : Array Value) = mcells M := by rw [hM]; rfl
  have HFl := Lib.hid hf
  clear hC hd hx hm ha hTg hk hM hf hT hE hF
  go_enter Tryd.func10, Tryd.ntmps10
  go_wp2_with fail
  refine (dates_any p n c _ (w.heap.size + 2) (by simp)).mono ?_
  rintro e w1 ⟨rfl, rfl⟩
  go_wp2_with fail
  refine (get_any _ fs ⟨#[69, 84, 97, 103]⟩ _ (H.out.flds HFl.out) (by omega) (by decide)).mono ?_
  rintro e w2 ⟨rfl, hb2⟩
  rw [HG.out]
  have H2 := Lib.hid (show Kn w mi code rs (.slice p n c) w2 from H.out.more hb2)
  clear H hb2
  go_upto_region 3 with fail
  obtain ⟨Z, N, hZ⟩ := size_met
  have z1 := hZ.is
  have z2 := hZ.run
  have n2 : (mcells M).size = N := hZ.num ▸ rfl
  clear hZ
  replace H2 := Lib.hid H2.out.drew
  go_region_held3 (fun W => W.cell? ⟨w.heap.size, 1, none⟩ = some (.int .i64 code) ∧ W.cell? ⟨w.heap.size, 3, none⟩ = some (.slice p n c) ∧
      (storeCells ⟨w.heap.size + 1, 0, none⟩ (mcells M).toList).run Tryd.prog W = .ok () (W.setRow (w.heap.size + 1) (mcells M)) ∧ Kn w mi code rs (.slice p n c) W)
    (first | exact H2.out.facts M | exact (H2.out.set M).facts M)
    ((first
      | (go_at_call 11; refine (HS0.out _ H2.out).mono ?_; rintro e w4 ⟨rfl, hb⟩; replace H2 := Lib.hid (H2.out.more hb); clear hb)
      | (go_at_call_of 38 (Value.string ⟨#[68, 97, 116, 101]⟩); refine (HS1.out _ H2.out).mono ?_; rintro e w4 ⟨rfl, hb⟩; replace H2 := Lib.hid (H2.out.more hb); clear hb)
      | (go_at_call_of 38 (Value.string ⟨#[69, 120, 112, 105, 114, 101, 115]⟩); refine (HS2.out _ H2.out).mono ?_; rintro e w4 ⟨rfl, hb⟩; replace H2 := Lib.hid (H2.out.more hb); clear hb)
      | (go_at_call_of 38 (Value.string ⟨#[76, 97, 115, 116, 45, 77, 111, 100, 105, 102, 105, 101, 100]⟩); refine (HS3.out _ H2.out).mono ?_; rintro e w4 ⟨rfl, hb⟩; replace H2 := Lib.hid (H2.out.more hb); clear hb)
      | (go_at_call 24; refine (HS4.out _ H2.out).mono ?_; rintro e w4 ⟨rfl, hb⟩; replace H2 := Lib.hid (H2.out.more hb); clear hb)))
  have H3 := Lib.hid (H2.out.last M)
  have HB := Lib.hid (H2.out.below M)
  go_wp2_with fail
  refine bodyPost_ret (results_one rfl _ _ (w.heap.size + 1) 35 _ (0, 0) _ rfl H3.out Tryd.underlying35 rfl infoMet') rfl ?_
  exact ⟨rfl, HB.out⟩
/-- A response by value. -/
theorem known_any (mi code : Int) (rs : ByteArray) (v : Value) (fs : List Fl) (asked got : Int) (w : World) (hf : Flds w v fs) (ht : tot fs ≤ 200000) (hT : Tab w) (hE : Dp.Env w) (hF : Dp.FM w) :
    Calls Tryd.prog 10 #[.agg #[.int .i64 mi, .int .i64 code, .string rs, v], .int .i64 asked, .int .i64 got] w fun e w' => e = .returned (.agg (mcells (metOf code fs asked got))) ∧ Below w.heap.size w w' := by
  obtain ⟨a, cap, rfl⟩ := hf.shape
  exact known_lit mi code rs _ _ _ fs asked got w hf ht hT hE hF
end Go.Proofs.YtjbdgndejbiikaaDoor.Sg
