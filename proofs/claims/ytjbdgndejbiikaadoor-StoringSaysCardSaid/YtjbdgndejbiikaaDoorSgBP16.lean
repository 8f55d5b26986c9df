/-
  Texts that the laws' proofs stand on, 3 of them in one file; each one's head says what it proves and under which condition.
-/
import Derived.Test.YtjbdgndejbiikaaDoorSgBP15
import Derived.Test.YtjbdgndejbiikaaDoorSgBP12
import Derived.Test.YtjbdgndejbiikaaDoorSgBP6
import Derived.Test.YtjbdgndejbiikaaDoorSgBP8
/-
  date.Parse of any text: what it returns. Conditions: the tables hold what the program's text lays; a text of at most a million bytes.
-/
namespace Go.Proofs.YtjbdgndejbiikaaDoor.Dp
open Go.RowKit Go.Proofs.YtjbdgndejbiikaaDoor.Dt
set_option linter.unusedVariables false

/-- What was read lies within bounds. -/
def RB (R : List Int) : Prop := R.length = 7 ∧ ∀ i, 0 ≤ R.getD i 0 ∧ R.getD i 0 ≤ 20000
theorem rb_set {R : List Int} (h : RB R) (i : Nat) {n : Int} (h0 : 0 ≤ n) (h1 : n ≤ 20000) : RB (R.set i n) := by
  refine ⟨by rw [List.length_set]; exact h.1, fun j => ?_⟩
  have := h.2 j
  simp only [List.getD, List.getElem?_set] at this ⊢
  split
  · split
    · exact ⟨h0, h1⟩
    · simp
  · exact this
theorem rb_put {R : List Int} (h : RB R) (i : Nat) (s : Bs) (r : Option (Int × Bs)) (hr : ∀ n t, r = some (n, t) → 0 ≤ n ∧ n ≤ 20000) : RB (put i R s r).2.1 := by
  cases r with
  | none => exact rb_set h i (by omega) (by omega)
  | some p => exact rb_set h i (hr p.1 p.2 rfl).1 (hr p.1 p.2 rfl).2
theorem rb_num {R : List Int} (h : RB R) (i k : Nat) (s : Bs) (hk : k ≤ 4) : RB (numF i k R s).2.1 := by
  refine rb_put h i s _ fun n t e => ?_
  unfold cutN at e
  split at e
  · cases e
  · split at e
    · rename_i h1 h2
      injection e with e
      injection e with e1 e2
      rw [← e1]
      have := numv_bd _ h2 (by simp; omega)
      omega
    · cases e
theorem rb_name {R : List Int} (h : RB R) (i : Nat) (names : List Bs) (s : Bs) (hn : names.length ≤ 100) : RB (nameF i names R s).2.1 := by
  refine rb_put h i s _ fun n t e => ?_
  cases hp : Dp.pick s names with
  | none => rw [hp] at e; cases e
  | some p =>
    rw [hp] at e
    injection e with e
    injection e with e1 e2
    have := pick_lt (s := s) (names := names) (j := p.1) (t := p.2) hp
    rw [← e1]
    omega
theorem rb_field (c : UInt8) {R : List Int} (h : RB R) (s : Bs) : RB (fieldF c R s).2.1 := by
  have hl : 2 < R.length := by rw [h.1]; omega
  have hl1 : 1 < R.length := by rw [h.1]; omega
  unfold fieldF
  repeat' split
  · exact rb_name h 0 _ s (by decide)
  · exact rb_name h 0 _ s (by decide)
  · have := nameF_bd 2 monNames R s hl (by decide)
    exact rb_set (rb_name h 2 _ s (by decide)) 2 (by omega) (by omega)
  · exact rb_num h 3 2 s (by omega)
  · exact rb_num h 3 1 _ (by omega)
  · exact rb_num h 3 2 s (by omega)
  · exact rb_num h 1 4 s (by omega)
  · have := numF_bd 1 2 R s hl1 (by omega)
    refine rb_set (rb_num h 1 2 s (by omega)) 1 ?_ ?_ <;> (unfold fullY; split <;> omega)
  · exact rb_num h 4 2 s (by omega)
  · exact rb_num h 5 2 s (by omega)
  · exact rb_num h 6 2 s (by omega)
theorem rb_zeros : RB zeros := by
  refine ⟨rfl, fun i => ?_⟩
  rcases Nat.lt_or_ge i 7 with h | h
  · match i, h with
    | 0, _ | 1, _ | 2, _ | 3, _ | 4, _ | 5, _ | 6, _ => decide
  · have : zeros.getD i 0 = 0 := by simp [List.getD, List.getElem?_eq_none (show zeros.length ≤ i from h)]
    rw [this]; decide
theorem rb_read : ∀ (f : Bs) (R : List Int) (s : Bs), RB R → RB (readF f R s).2
  | [], R, s, h => by simpa [readF] using h
  | [c], R, s, h => by
    unfold readF
    split
    · exact rb_zeros
    · split
      · exact rb_zeros
      · split
        · exact h
        · exact rb_zeros
  | c :: l :: f, R, s, h => by
    unfold readF
    split
    · split
      · exact rb_read f _ _ (rb_field l h s)
      · exact rb_zeros
    · split
      · exact rb_zeros
      · split
        · exact rb_read (l :: f) _ _ h
        · exact rb_zeros
def secR (R : List Int) : Int × Bool := secV (R.getD 0 0) (R.getD 1 0) (R.getD 2 0) (R.getD 3 0) (R.getD 4 0) (R.getD 5 0) (R.getD 6 0)
def parseL : List Bs → Bs → Int × Bool
  | [], _ => (0, false)
  | f :: r, s => if (readF f zeros s).1 = true then secR (readF f zeros s).2 else parseL r s
/-- The second of a date; false: it is none. -/
def parseD (s : Bs) : Int × Bool := parseL formTexts s
theorem drop_form (j : Nat) (hj : j < 3) : formTexts.drop j = formTexts.getD j [] :: formTexts.drop (j + 1) := by
  match j, hj with
  | 0, _ | 1, _ | 2, _ => rfl
theorem secV_bd (wd y m d h mi s : Int) (h0 : 0 ≤ h) (m0 : 0 ≤ mi) (s0 : 0 ≤ s) : 0 ≤ (secV wd y m d h mi s).1 ∧ (secV wd y m d h mi s).1 ≤ 253402300799 := by
  have := dayV_bd y m d
  unfold secV
  split
  · exact ⟨by decide, by decide⟩
  · rename_i hc
    show 0 ≤ dayV y m d * 86400 + h * 3600 + mi * 60 + min s 59 ∧ _ ≤ _
    omega
theorem parseD_bd (s : Bs) : 0 ≤ (parseD s).1 ∧ (parseD s).1 ≤ 253402300799 := by
  have hall : ∀ fs : List Bs, 0 ≤ (parseL fs s).1 ∧ (parseL fs s).1 ≤ 253402300799 := by
    intro fs
    induction fs with
    | nil => exact ⟨Int.le_refl 0, show (0 : Int) ≤ 253402300799 by decide⟩
    | cons f r ih =>
      unfold parseL
      split
      · have hb := (rb_read f zeros s rb_zeros).2
        exact secV_bd _ _ _ _ _ _ _ (hb 4).1 (hb 5).1 (hb 6).1
      · exact ih
  exact hall formTexts

set_option maxHeartbeats 4000000 in
theorem parse_any (S : ByteArray) (w : World) (hs : S.size ≤ 1000000) (hE : Env w) (hF : FM w) :
    Calls Tryd.prog 39 #[.string S] w fun e w' => e = .returned (.tuple #[.int .i64 (parseD S.data.toList).1, .bool (parseD S.data.toList).2]) ∧ Below w.heap.size w w' := by
  obtain ⟨s, hS⟩ : ∃ s, s = S.data.toList := ⟨_, rfl⟩
  have hSB : S = B s := by rw [hS, B_of]
  have HSE := Lib.hid hSB
  have hsl : s.length ≤ 1000000 := by rw [hS]; simpa using hs
  rw [← hS]
  obtain ⟨X, hX⟩ : ∃ X, (parseD s).1 = X := ⟨_, rfl⟩
  obtain ⟨Y, hY⟩ : ∃ Y, (parseD s).2 = Y := ⟨_, rfl⟩
  have HXY := Lib.hid (show parseD s = (X, Y) from by rw [← hX, ← hY])
  rw [hX, hY]
  have HE := Lib.hid hE
  have HF := Lib.hid hF
  clear hE hF hs hS hX hY hSB
  go_enter Tryd.func39, Tryd.ntmps39
  go_wp2_with fail
  go_loopw [7] (fun v wr => ∃ j : Nat, j ≤ 3 ∧ v = .int .i64 (j : Int) ∧ Hid (Below w.heap.size w wr) ∧ Hid (parseL (formTexts.drop j) s = (X, Y))) (fun v _ => 4 - (intOf v).toNat)
  case atStart => exact ⟨0, Nat.zero_le _, rfl, Lib.hid (Below.refl _ _), HXY⟩
  case round =>
    obtain ⟨j, hj, rfl, HB, HP⟩ := hrel
    by_cases hj3 : j < 3
    · obtain ⟨T, hT⟩ : ∃ T, T = formTexts.getD j [] := ⟨_, rfl⟩
      have hcell : wr.cell? ⟨1, j, none⟩ = some (.string (B T)) := by rw [hT]; exact (HF.out.below HB.out (Nat.le_refl _)) j hj3
      have hok := formTexts_ok j hj3
      rw [← hT] at hok
      have HCALL := Lib.hid (show Calls Tryd.prog 53 #[.string S, .string (B T)] wr (fun e w' => e = .returned (.tuple #[.agg (ints (readF T zeros s).2), .bool (readF T zeros s).1]) ∧ Below wr.heap.size wr w') from by
        rw [HSE.out]; exact read_any s T wr hsl hok.2 hok.1 (HE.out.below HB.out (Nat.le_refl _)))
      have hp := HP.out
      rw [drop_form j hj3, ← hT] at hp
      unfold parseL at hp
      have hrb := rb_read T zeros s rb_zeros
      obtain ⟨q0, q1, q2, q3, q4, q5, q6, hQ⟩ := seven _ (readF_length T zeros s rfl)
      rw [hQ] at hrb hp
      have HQ := Lib.hid hQ
      obtain ⟨V, hV⟩ : ∃ V, V = B T := ⟨_, rfl⟩
      rw [← hV] at hcell HCALL
      have b4 : 0 ≤ q4 ∧ q4 ≤ 20000 := hrb.2 4
      have b5 : 0 ≤ q5 ∧ q5 ≤ 20000 := hrb.2 5
      have b6 : 0 ≤ q6 ∧ q6 ≤ 20000 := hrb.2 6
      cases hk : (readF T zeros s).1 with
      | false =>
        have HK := Lib.hid hk
        rw [hk, if_neg (by decide)] at hp
        have HP2 := Lib.hid hp
        clear hT hV hQ hk hp hok hrb HP
        go_wp2_with fail
        refine HCALL.out.mono ?_
        rintro e w2 ⟨rfl, hb2⟩
        rw [HK.out, HQ.out, show ints [q0, q1, q2, q3, q4, q5, q6] = #[.int .i64 q0, .int .i64 q1, .int .i64 q2, .int .i64 q3, .int .i64 q4, .int .i64 q5, .int .i64 q6] from rfl]
        have HB2 := Lib.hid (HB.out.trans (hb2.mono HB.out.size))
        clear hb2
        go_wp2_with fail
        go_roundw
        case rel => exact ⟨j + 1, by omega, by go_num, Lib.hid (HB2.out.alloc HB2.out.size _), HP2⟩
        case measure => simp [intOf]; omega
      | true =>
        have HK := Lib.hid hk
        rw [hk, if_pos rfl] at hp
        have hsec : secV q0 q1 q2 q3 q4 q5 q6 = (X, Y) := hp
        have HSEC := Lib.hid (show ∀ w' : World, Env w' → Calls Tryd.prog 54 #[.agg #[.int .i64 q0, .int .i64 q1, .int .i64 q2, .int .i64 q3, .int .i64 q4, .int .i64 q5, .int .i64 q6]] w' (fun e w'' => e = .returned (.tuple #[.int .i64 X, .bool Y]) ∧ Below w'.heap.size w' w'') from fun w' hw' => by
          have := seconds_any q0 q1 q2 q3 q4 q5 q6 w' hw' b4.1 b4.2 b5.1 b5.2 b6.1 b6.2
          rw [hsec] at this
          exact this)
        clear hT hV hQ hk hp hok hrb HP hsec
        go_wp2_with fail
        refine HCALL.out.mono ?_
        rintro e w2 ⟨rfl, hb2⟩
        rw [HK.out, HQ.out, show ints [q0, q1, q2, q3, q4, q5, q6] = #[.int .i64 q0, .int .i64 q1, .int .i64 q2, .int .i64 q3, .int .i64 q4, .int .i64 q5, .int .i64 q6] from rfl]
        have HB2 := Lib.hid (HB.out.trans (hb2.mono HB.out.size))
        have HE2 := Lib.hid (HE.out.below HB2.out (Nat.le_refl _))
        clear hb2
        go_wp2_with fail
        refine (HSEC.out _ (HE2.out.below ((Below.refl w2.heap.size w2).alloc (Nat.le_refl _) _) (Nat.le_refl _))).mono ?_
        rintro e w3 ⟨rfl, hb3⟩
        have HB3 := Lib.hid ((HB2.out.alloc HB2.out.size _).trans (hb3.mono (HB2.out.alloc HB2.out.size _).size))
        clear hb3
        go_wp2_with fail
        go_ret2
        exact ⟨rfl, HB3.out⟩
    · obtain rfl : j = 3 := by omega
      have hp := HP.out
      have hx : X = 0 ∧ Y = false := by
        have : ((0 : Int), false) = (X, Y) := hp
        injection this with h1 h2
        exact ⟨h1.symm, h2.symm⟩
      obtain ⟨rfl, rfl⟩ := hx
      clear hp HP
      go_wp2_with fail
      go_ret2
      exact ⟨rfl, HB.out⟩
end Go.Proofs.YtjbdgndejbiikaaDoor.Dp
/-
  What is known of a response, and what a refresh leaves, as plain functions of fields. No program's run, no condition.
-/
namespace Go.Proofs.YtjbdgndejbiikaaDoor.Sg
open Go.Proofs.YtjbdgndejbiikaaDoor.Tk Go.Proofs.YtjbdgndejbiikaaDoor.Fd Go.Proofs.YtjbdgndejbiikaaDoor.Ct Go.Proofs.YtjbdgndejbiikaaDoor.Fh
set_option linter.unusedVariables false
set_option linter.unusedSimpArgs false

/-- The second that the one field of a name tells. -/
def secOf (fs : List Fl) (nm : Bs) (wrong : Int) : Int :=
  if getN fs nm = 0 then -1 else if 1 < getN fs nm ∨ (Dp.parseD (getT fs nm)).2 = false then wrong else (Dp.parseD (getT fs nm)).1
theorem sec_zero {fs : List Fl} {nm : Bs} (wrong : Int) (h : getN fs nm = 0) : secOf fs nm wrong = -1 := by unfold secOf; rw [if_pos h]
theorem sec_many {fs : List Fl} {nm : Bs} (wrong : Int) (h : ¬ getN fs nm = 0) (h1 : 1 < getN fs nm) : secOf fs nm wrong = wrong := by unfold secOf; rw [if_neg h, if_pos (.inl h1)]
theorem sec_bad {fs : List Fl} {nm : Bs} (wrong : Int) (h : ¬ getN fs nm = 0) (h1 : (Dp.parseD (getT fs nm)).2 = false) : secOf fs nm wrong = wrong := by unfold secOf; rw [if_neg h, if_pos (.inr h1)]
theorem sec_good {fs : List Fl} {nm : Bs} (wrong : Int) (h : ¬ getN fs nm = 0) (h1 : ¬ 1 < getN fs nm) (h2 : (Dp.parseD (getT fs nm)).2 = true) : secOf fs nm wrong = (Dp.parseD (getT fs nm)).1 := by
  unfold secOf
  rw [if_neg h, if_neg]
  rintro (h3 | h3)
  · exact h1 h3
  · rw [h2] at h3; cases h3
/-- Expires is told just where there is such a field. -/
theorem sec_told (fs : List Fl) (nm : Bs) : secOf fs nm 0 = -1 ↔ getN fs nm = 0 := by
  constructor
  · intro h
    by_cases h0 : getN fs nm = 0
    · exact h0
    · exfalso
      unfold secOf at h
      rw [if_neg h0] at h
      have := (Dp.parseD_bd (getT fs nm)).1
      split at h <;> omega
  · exact sec_zero 0
def dateN : Bs := [68, 97, 116, 101]
def expN : Bs := [69, 120, 112, 105, 114, 101, 115]
def modN : Bs := [76, 97, 115, 116, 45, 77, 111, 100, 105, 102, 105, 101, 100]
def ageL : Bs := [65, 103, 101]
def tagN : Bs := [69, 84, 97, 103]
/-- The number that the Age field begins with. -/
def ageN (fs : List Fl) : Int := match splitOf (getT fs ageL) with
  | some (x :: _) => (numB x).getD (-1)
  | _ => -1
/-- What is known of a response. -/
def metOf (code : Int) (fs : List Fl) (asked got : Int) : Mta :=
  ⟨code, ofOf fs, secOf fs dateN (-1), secOf fs expN 0, secOf fs modN (-1), ageN fs, asked, got, ⟨(getT fs tagN).toArray⟩⟩
theorem fine_of (fs : List Fl) : Fine (ofOf fs) := by
  unfold ofOf
  split
  · exact fine_parse _
  · split
    · exact fine_zero
    · split
      · exact ⟨fine_zero.ag, fine_zero.sh, fine_zero.wh, fine_zero.ie, fine_zero.mf, fine_zero.ms⟩
      · exact fine_zero
/-- A name in other letters' sizes. -/
theorem getN_case (fs : List Fl) {a b : Bs} (h : lower a = lower b) : getN fs a = getN fs b ∧ getT fs a = getT fs b := by
  have e : sel fs a = sel fs b := by
    unfold sel
    congr 2
    funext f
    unfold has alike
    rw [h]
  unfold getN getT
  rw [e]
  exact ⟨rfl, rfl⟩
/-- May a response be kept, or is it one that is kept without being told? -/
def lastB (exp : Int) (c : Con) (code : Int) : Bool := (!(decide (exp = -1) && !c.pu && decide (c.ag = -1) && decide (c.sh = -1))) || heurOf code
def finalB (code : Int) : Bool := decide (200 ≤ code) && decide (code ≤ 599) && !decide (code = 304)
def wholeB (rq : List Fl) (code : Int) : Bool := !hasN rq rngL || decide (code = 200) || decide (code = 206) || decide (299 < code)
def openB (rq : List Fl) (c : Con) : Bool := !hasN rq autL || c.pu || c.mu || !decide (c.sh = -1)
def bareB (c : Con) : Bool := !c.ns && !c.pr
theorem may_prog (meth : Bs) (rq : List Fl) (code : Int) (rs : List Fl) :
    mayOf meth rq code rs = ((meth == getM && !(ofOf rq).ns) && bareB (ofOf rs) && finalB code && wholeB rq code && varyOk rs && openB rq (ofOf rs) && lastB (secOf rs expN 0) (ofOf rs) code) := by
  have hf := fine_of rs
  have h1 := hf.ag
  have h2 := hf.sh
  have he : hasN rs expL = !decide (secOf rs expN 0 = -1) := by
    unfold hasN
    have e := sec_told rs expN
    have e2 : getN rs expN = getN rs expL := (getN_case rs (by decide)).1
    rw [e2] at e
    by_cases h0 : getN rs expL = 0
    · rw [decide_eq_true (e.2 h0), h0]; rfl
    · rw [decide_eq_false (fun h => h0 (e.1 h)), decide_eq_true (show 0 < getN rs expL by omega)]; rfl
  have s1 : decide (0 ≤ (ofOf rs).ag) = !decide ((ofOf rs).ag = -1) := by rw [← decide_not]; exact decide_eq_decide.2 (by omega)
  have s2 : decide (0 ≤ (ofOf rs).sh) = !decide ((ofOf rs).sh = -1) := by rw [← decide_not]; exact decide_eq_decide.2 (by omega)
  have s3 : decide ((ofOf rs).sh < 0) = decide ((ofOf rs).sh = -1) := decide_eq_decide.2 (by omega)
  have s4 : decide (200 ≤ code ∧ code ≤ 599 ∧ code ≠ 304) = finalB code := by unfold finalB; rw [Bool.decide_and, Bool.decide_and, ← Bool.and_assoc]; simp
  have s5 : (!(hasN rq rngL && decide (code ≠ 200 ∧ code ≠ 206 ∧ code < 300))) = wholeB rq code := by
    unfold wholeB
    rw [Bool.not_and, ← decide_not, Bool.or_assoc, Bool.or_assoc]
    congr 1
    rw [← Bool.decide_or, ← Bool.decide_or]
    exact decide_eq_decide.2 (by omega)
  unfold mayOf mayT lastB openB bareB
  rw [he, s1, s2, s3, s4, s5]
  generalize decide (secOf rs expN 0 = -1) = b1
  generalize decide ((ofOf rs).ag = -1) = b2
  generalize decide ((ofOf rs).sh = -1) = b3
  generalize finalB code = b4
  generalize wholeB rq code = b5
  generalize (meth == getM) = b6
  generalize (ofOf rq).ns = b7
  generalize (ofOf rs).ns = b8
  generalize (ofOf rs).pr = b9
  generalize (ofOf rs).pu = b10
  generalize (ofOf rs).mu = b11
  generalize hasN rq autL = b12
  generalize varyOk rs = b13
  generalize heurOf code = b14
  cases b6 <;> cases b7 <;> cases b8 <;> cases b9 <;> cases b4 <;> cases b5 <;> cases b13 <;> simp

/-! A refresh. -/
/-- The fields of r that stay behind those of l: none that speaks of the body. -/
theorem add_keep (rs : List Fl) : addOf rs = keepF (stripF rs) stay := by
  unfold addOf
  rw [delAll_filter]
  unfold keepF
  congr 1
  funext f
  exact all_not stay (by decide +kernel) f
def lowN (f : Fl) : Bs := lower f.1.data.toList
theorem has_low (fs : List Fl) (x : Bs) : hasN fs x = (fs.map lowN).contains (lower x) := by
  unfold hasN getN sel
  rw [List.length_map]
  induction fs with
  | nil => rfl
  | cons f r ih =>
    rw [List.map_cons, List.contains_cons, ← ih]
    unfold has alike lowN
    by_cases h : lower x = lower f.1.data.toList
    · rw [List.filter_cons_of_pos (by simp [h])]; simp [h]
    · rw [List.filter_cons_of_neg (by simp; exact fun e => h e.symm)]
      have : (lower x == lower f.1.data.toList) = false := by simpa using h
      rw [this]; rfl
theorem out_keep (fs rs : List Fl) : outOf fs rs = keepF fs ((addOf rs).map lowN) ++ addOf rs := by
  unfold outOf keepF
  congr 2
  funext f
  rw [has_low]
end Go.Proofs.YtjbdgndejbiikaaDoor.Sg
/-
  Lists of fields that calls made: rows of cells of their own. No condition.
-/
namespace Go.Proofs.YtjbdgndejbiikaaDoor.Fd
open Go.RowKit Tk
set_option linter.unusedVariables false

/-- Fields as cells. -/
def flat (fs : List Fl) : List Value := fs.flatMap fun f => [.string f.1, .string f.2]
theorem flat_snoc (fs : List Fl) (f : Fl) : flat (fs ++ [f]) = flat fs ++ [.string f.1, .string f.2] := by simp [flat]
theorem flat_length (fs : List Fl) : (flat fs).length = fs.length * 2 := by
  induction fs with
  | nil => rfl
  | cons f r ih => simp only [flat, List.flatMap_cons, List.length_append, List.length_cons, List.length_nil] at ih ⊢; omega
theorem flat_at (fs : List Fl) (j : Nat) (h : j < fs.length) : (flat fs)[j * 2]? = some (.string fs[j].1) ∧ (flat fs)[j * 2 + 1]? = some (.string fs[j].2) := by
  induction fs generalizing j with
  | nil => simp at h
  | cons f r ih =>
    cases j with
    | zero => exact ⟨rfl, rfl⟩
    | succ j =>
      have h2 := ih j (by simpa using h)
      have e1 : (j + 1) * 2 = j * 2 + 2 := by omega
      have e2 : (j + 1) * 2 + 1 = j * 2 + 1 + 2 := by omega
      rw [e2, e1]
      exact ⟨h2.1, h2.2⟩
theorem owns_kept {w w' : World} {base : Nat} {e : TypeId} {sz : Nat} {v : Value} {n : Nat} {xs : List Value} (h : w.ownsRow base e sz v n xs) (hb : Below w.heap.size w w') : w'.ownsRow base e sz v n xs := by
  refine ⟨h.1, ?_⟩
  rcases h.2 with h2 | ⟨g, cap, cur, hv, hg, hh, r⟩
  · exact .inl h2
  · exact .inr ⟨g, cap, cur, hv, hg, (hb.block g (block_lt hh)).trans hh, r⟩
theorem owns_mono {w : World} {base base' : Nat} {e : TypeId} {size : Nat} {v : Value} {n : Nat} {xs : List Value} (h : w.ownsRow base e size v n xs) (hb : base' ≤ base) : w.ownsRow base' e size v n xs := by
  refine ⟨h.1, ?_⟩
  rcases h.2 with h2 | ⟨g, cap, cur, hv, hg, r⟩
  · exact .inl h2
  · exact .inr ⟨g, cap, cur, hv, by omega, r⟩
/-- A slice of fields that a call made, in memory from base on. -/
def OwnF (w : World) (base : Nat) (v : Value) (fs : List Fl) : Prop := w.ownsRow base 27 2 v fs.length (flat fs)
theorem OwnF.nil (w : World) (base : Nat) : OwnF w base (.slice none 0 0) [] := World.ownsRow_nil _ _ _ _
theorem OwnF.flds {w : World} {base : Nat} {v : Value} {fs : List Fl} (h : OwnF w base v fs) : Flds w v fs := by
  rcases h.2 with ⟨hv, h0⟩ | ⟨g, cap, cur, hv, _, hg, _⟩
  · exact .inl ⟨List.length_eq_zero_iff.1 h0, none, 0, hv⟩
  · refine .inr ⟨g, 0, cap, hv, block_lt hg, fun j hj => ?_⟩
    have h' : w.ownsRow base 27 2 (.slice (some ⟨g, 0, none⟩) fs.length cap) fs.length (flat fs) := by rw [← hv]; exact h
    obtain ⟨a, b⟩ := flat_at fs j hj
    rw [Nat.zero_add, h'.cellAt (j * 2) (by omega), h'.cellAt (j * 2 + 1) (by omega), a, b]
    exact ⟨rfl, rfl⟩
theorem OwnF.kept {w w' : World} {base : Nat} {v : Value} {fs : List Fl} (h : OwnF w base v fs) (hb : Below w.heap.size w w') : OwnF w' base v fs := owns_kept h hb
theorem OwnF.form {w : World} {base : Nat} {v : Value} {fs : List Fl} (h : OwnF w base v fs) : ∃ a cap, v = .slice a fs.length cap := h.flds.shape
theorem OwnF.row {w : World} {base : Nat} {v : Value} {fs : List Fl} (h : OwnF w base v fs) : ∀ k, v.ownBlock = some k → base ≤ k := fun k hk => (World.ownsRow.lt h k hk).1
theorem one_cells (x y : ByteArray) : ∀ u ∈ [Value.string x, Value.string y], u.oneCell' = true := by intro u hu; simp at hu; rcases hu with rfl | rfl <;> rfl
theorem news_at {w : World} {g : Nat} {x y : Value} {t : TypeId} (h : w.heap[g]? = some (.cells #[x, y] t (0, 0))) : ∀ j u, [x, y][j]? = some u → w.cell? ((⟨g, 0, none⟩ : Addr).add j) = some u := by
  intro j u hu
  match j, hu with
  | 0, hu => simp at hu; subst hu; exact two0 h
  | 1, hu => simp at hu; subst hu; exact two1 h

end Go.Proofs.YtjbdgndejbiikaaDoor.Fd
