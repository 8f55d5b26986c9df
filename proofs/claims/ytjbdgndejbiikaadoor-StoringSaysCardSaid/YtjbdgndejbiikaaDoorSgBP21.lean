/-
  Texts that the laws' proofs stand on, 3 of them in one file; each one's head says what it proves and under which condition.
-/
import Derived.Test.YtjbdgndejbiikaaDoorSgBP20
import Derived.Test.YtjbdgndejbiikaaDoorSgBP19
import Derived.Test.YtjbdgndejbiikaaDoorSgBP10
import Derived.Test.YtjbdgndejbiikaaDoorSgBP7
import Derived.Test.YtjbdgndejbiikaaDoorSgBP1
/-
  token.Pair: what it returns. Conditions: a text of at most 2^47 bytes; the table of token bytes holds what the program's text lays.
-/
namespace Go.Proofs.YtjbdgndejbiikaaDoor.Tk
open Go.RowKit
set_option maxRecDepth 100000

/-- What a call of Pair answers. -/
def pairVal (l : Bs) : Value :=
  match pairOf l with
  | none => .tuple #[.string ⟨#[]⟩, .string ⟨#[]⟩, .bool false, .bool false]
  | some (a, none) => .tuple #[.string ⟨a.toArray⟩, .string ⟨#[]⟩, .bool false, .bool true]
  | some (a, some v) => .tuple #[.string ⟨a.toArray⟩, .string ⟨v.toArray⟩, .bool true, .bool true]
theorem four_results {fn : Func} {a b c d : Tmp} (h : fn.results = #[.tmp a, .tmp b, .tmp c, .tmp d]) (tmps : Array Value) (P : Program) (w : World) :
    (results fn tmps).run P w = .ok (.tuple #[tmps.getD a undef, tmps.getD b undef, tmps.getD c undef, tmps.getD d undef]) w := by
  simp [results, h]

theorem pair_noname {l : Bs} (h : isTok (l.take (eqIdx l)) = false) : pairVal l = .tuple #[.string ⟨#[]⟩, .string ⟨#[]⟩, .bool false, .bool false] := by
  unfold pairVal pairOf; rw [if_pos h]
theorem pair_bare {l : Bs} (h : isTok (l.take (eqIdx l)) = true) (hk : eqIdx l = l.length) : pairVal l = .tuple #[.string ⟨l.toArray⟩, .string ⟨#[]⟩, .bool false, .bool true] := by
  unfold pairVal pairOf; rw [if_neg (by rw [h]; simp), if_pos hk]
theorem pair_tok {l : Bs} (h : isTok (l.take (eqIdx l)) = true) (hk : eqIdx l ≠ l.length) (ht : isTok (l.drop (eqIdx l + 1)) = true) : pairVal l = .tuple #[.string ⟨(l.take (eqIdx l)).toArray⟩, .string ⟨(l.drop (eqIdx l + 1)).toArray⟩, .bool true, .bool true] := by
  unfold pairVal pairOf; rw [if_neg (by rw [h]; simp), if_neg hk, if_pos ht]
theorem pair_quoted {l u : Bs} (h : isTok (l.take (eqIdx l)) = true) (hk : eqIdx l ≠ l.length) (ht : isTok (l.drop (eqIdx l + 1)) = false) (hu : unq (l.drop (eqIdx l + 1)) = some u) : pairVal l = .tuple #[.string ⟨(l.take (eqIdx l)).toArray⟩, .string ⟨u.toArray⟩, .bool true, .bool true] := by
  unfold pairVal pairOf; rw [if_neg (by rw [h]; simp), if_neg hk, if_neg (by rw [ht]; simp), hu]; rfl
theorem pair_bad {l : Bs} (h : isTok (l.take (eqIdx l)) = true) (hk : eqIdx l ≠ l.length) (ht : isTok (l.drop (eqIdx l + 1)) = false) (hu : unq (l.drop (eqIdx l + 1)) = none) : pairVal l = .tuple #[.string ⟨#[]⟩, .string ⟨#[]⟩, .bool false, .bool false] := by
  unfold pairVal pairOf; rw [if_neg (by rw [h]; simp), if_neg hk, if_neg (by rw [ht]; simp), hu]; rfl

theorem left_data (s : ByteArray) (k : Nat) : (s.extract 0 k).data.toList = s.data.toList.take k := by simp
theorem right_data (s : ByteArray) (k : Nat) : (s.extract k s.size).data.toList = s.data.toList.drop k := by
  simp
  apply List.take_of_length_le
  have h : s.data.toList.length = s.size := by simp
  rw [List.length_drop, h]; exact Nat.le_refl _
theorem left_text (s : ByteArray) (k : Nat) : s.extract 0 k = ⟨(s.data.toList.take k).toArray⟩ := bytes_ext' (left_data s k)
theorem right_text (s : ByteArray) (k : Nat) : s.extract k s.size = ⟨(s.data.toList.drop k).toArray⟩ := bytes_ext' (right_data s k)
theorem whole_text (s : ByteArray) : s = ⟨s.data.toList.toArray⟩ := bytes_ext' rfl
theorem Tab.drewN {w w' : World} (h : Tab w) {n : Nat} (e : w' = w.drewN n) : Tab w' := by subst e; exact h
theorem below_drawn {B : Nat} {w w' : World} {n : Nat} (e : w' = w.drewN n) : Below B w w' := by
  subst e; exact ⟨rfl, rfl, rfl, Nat.le_refl _, fun _ _ => rfl⟩

set_option maxHeartbeats 2000000 in
theorem pair_any (s : ByteArray) (w : World) (hs : s.size ≤ 140737488351232) (hT : Tab w) :
    Calls Tryd.prog 44 #[.string s] w fun e w' => e = .returned (pairVal s.data.toList) ∧ Below w.heap.size w w' := by
  have HT := Lib.hid hT
  have hlen : s.data.toList.length = s.size := by simp
  have hle := eqIdx_le s.data.toList
  obtain ⟨k, hk⟩ : ∃ k, k = eqIdx s.data.toList := ⟨_, rfl⟩
  rw [← hk] at hle
  clear hT
  by_cases hks : k < s.size
  · have HC := Lib.hid (show cutVal s = .tuple #[.string (s.extract 0 k), .string (s.extract (k + 1) s.size), .bool true] from by unfold cutVal; rw [← hk, if_pos hks])
    obtain ⟨L, hL⟩ : ∃ L : ByteArray, L = s.extract 0 k := ⟨_, rfl⟩
    obtain ⟨R, hR⟩ : ∃ R : ByteArray, R = s.extract (k + 1) s.size := ⟨_, rfl⟩
    have hLd : L.data.toList = s.data.toList.take k := by rw [hL, left_data]
    have hRd : R.data.toList = s.data.toList.drop (k + 1) := by rw [hR, right_data]
    have hLs : L.size ≤ s.size := by rw [hL]; simp; omega
    have hRs : R.size ≤ s.size := by rw [hR]; simp
    have HLt := Lib.hid (show L = ⟨(s.data.toList.take k).toArray⟩ from by rw [hL, left_text])
    have HRt := Lib.hid (show R = ⟨(s.data.toList.drop (k + 1)).toArray⟩ from by rw [hR, right_text])
    have hkl : eqIdx s.data.toList ≠ s.data.toList.length := by omega
    rw [← hL, ← hR] at HC
    cases h1 : isTok L.data.toList with
    | false =>
      have HV := Lib.hid (pair_noname (l := s.data.toList) (by rw [← hk, ← hLd]; exact h1))
      have HI := Lib.hid h1
      clear h1 hkl hLd hRd hL hR hk hlen hle
      go_enter Tryd.func44, Tryd.ntmps44
      go_wp2_with fail
      refine (cut_any s _ (by unfold maxLen; omega)).mono ?_
      rintro e w1 ⟨rfl, n1, hw1⟩
      have HW := Lib.hid hw1
      clear hw1
      rw [HC.out]
      go_wp2_with fail
      refine (is_any L _ (by unfold maxLen; omega) (HT.out.drewN HW.out)).mono ?_
      rintro e w' ⟨rfl, rfl⟩
      rw [HI.out]
      go_wp2_with fail
      refine bodyPost_ret (four_results rfl _ _ _) rfl ?_
      exact ⟨by rw [HV.out]; rfl, below_drawn HW.out⟩
    | true =>
      have hN : isTok (s.data.toList.take (eqIdx s.data.toList)) = true := by rw [← hk, ← hLd]; exact h1
      have HI := Lib.hid h1
      cases h2 : isTok R.data.toList with
      | true =>
        have HV := Lib.hid (pair_tok hN hkl (by rw [← hk, ← hRd]; exact h2))
        rw [← hk, ← HLt.out, ← HRt.out] at HV
        have HI2 := Lib.hid h2
        clear h1 h2 hkl hLd hRd hL hR hk hlen hle hN
        go_enter Tryd.func44, Tryd.ntmps44
        go_wp2_with fail
        refine (cut_any s _ (by unfold maxLen; omega)).mono ?_
        rintro e w1 ⟨rfl, n1, hw1⟩
        have HW := Lib.hid hw1
        clear hw1
        rw [HC.out]
        go_wp2_with fail
        refine (is_any L _ (by unfold maxLen; omega) (HT.out.drewN HW.out)).mono ?_
        rintro e w' ⟨rfl, rfl⟩
        rw [HI.out]
        go_wp2_with fail
        refine (is_any R _ (by unfold maxLen; omega) (HT.out.drewN HW.out)).mono ?_
        rintro e w' ⟨rfl, rfl⟩
        rw [HI2.out]
        go_wp2_with fail
        refine (clone_any L _ (by omega)).mono ?_
        rintro e w2 ⟨rfl, hb2⟩
        go_wp2_with fail
        refine (clone_any R _ (by omega)).mono ?_
        rintro e w3 ⟨rfl, hb3⟩
        have hB := ((below_drawn (B := w.heap.size) HW.out).trans (hb2.mono (below_drawn (B := w.heap.size) HW.out).size)).trans (hb3.mono (Nat.le_trans (below_drawn (B := w.heap.size) HW.out).size hb2.size))
        have HB := Lib.hid hB
        clear hb2 hb3 hB
        go_wp2_with fail
        refine bodyPost_ret (four_results rfl _ _ _) rfl ?_
        exact ⟨by rw [HV.out]; rfl, HB.out⟩
      | false =>
        have HI2 := Lib.hid h2
        cases hu : unq R.data.toList with
        | none =>
          have HV := Lib.hid (pair_bad hN hkl (by rw [← hk, ← hRd]; exact h2) (by rw [← hk, ← hRd]; exact hu))
          have HU := Lib.hid hu
          clear h1 h2 hkl hLd hRd hL hR hk hlen hle hN hu
          go_enter Tryd.func44, Tryd.ntmps44
          go_wp2_with fail
          refine (cut_any s _ (by unfold maxLen; omega)).mono ?_
          rintro e w1 ⟨rfl, n1, hw1⟩
          have HW := Lib.hid hw1
          clear hw1
          rw [HC.out]
          go_wp2_with fail
          refine (is_any L _ (by unfold maxLen; omega) (HT.out.drewN HW.out)).mono ?_
          rintro e w' ⟨rfl, rfl⟩
          rw [HI.out]
          go_wp2_with fail
          refine (is_any R _ (by unfold maxLen; omega) (HT.out.drewN HW.out)).mono ?_
          rintro e w' ⟨rfl, rfl⟩
          rw [HI2.out]
          go_wp2_with fail
          refine (unquote_any R _ (by omega)).mono ?_
          rintro e w2 ⟨hb2, h3⟩
          have hB := (below_drawn (B := w.heap.size) HW.out).trans (hb2.mono (below_drawn (B := w.heap.size) HW.out).size)
          have HB := Lib.hid hB
          clear hb2 hB
          rcases h3 with ⟨_, he⟩ | ⟨u, h, _⟩
          · rw [he]
            clear he
            go_wp2_with fail
            refine bodyPost_ret (four_results rfl _ _ _) rfl ?_
            exact ⟨by rw [HV.out]; rfl, HB.out⟩
          · have := HU.out; rw [this] at h; cases h
        | some u =>
          have HV := Lib.hid (pair_quoted hN hkl (by rw [← hk, ← hRd]; exact h2) (by rw [← hk, ← hRd]; exact hu))
          rw [← hk, ← HLt.out] at HV
          have HU := Lib.hid hu
          clear h1 h2 hkl hLd hRd hL hR hk hlen hle hN hu
          go_enter Tryd.func44, Tryd.ntmps44
          go_wp2_with fail
          refine (cut_any s _ (by unfold maxLen; omega)).mono ?_
          rintro e w1 ⟨rfl, n1, hw1⟩
          have HW := Lib.hid hw1
          clear hw1
          rw [HC.out]
          go_wp2_with fail
          refine (is_any L _ (by unfold maxLen; omega) (HT.out.drewN HW.out)).mono ?_
          rintro e w' ⟨rfl, rfl⟩
          rw [HI.out]
          go_wp2_with fail
          refine (is_any R _ (by unfold maxLen; omega) (HT.out.drewN HW.out)).mono ?_
          rintro e w' ⟨rfl, rfl⟩
          rw [HI2.out]
          go_wp2_with fail
          refine (unquote_any R _ (by omega)).mono ?_
          rintro e w2 ⟨hb2, h3⟩
          have hB := (below_drawn (B := w.heap.size) HW.out).trans (hb2.mono (below_drawn (B := w.heap.size) HW.out).size)
          clear hb2
          rcases h3 with ⟨h, _⟩ | ⟨u', h, he⟩
          · have := HU.out; rw [this] at h; cases h
          · rw [he]
            have e1 : u = u' := by have := HU.out; rw [this] at h; injection h
            clear he h
            subst e1
            go_wp2_with fail
            refine (clone_any L _ (by omega)).mono ?_
            rintro e w3 ⟨rfl, hb3⟩
            have hB3 := hB.trans (hb3.mono hB.size)
            have HB := Lib.hid hB3
            clear hb3 hB hB3
            go_wp2_with fail
            refine bodyPost_ret (four_results rfl _ _ _) rfl ?_
            exact ⟨by rw [HV.out]; rfl, HB.out⟩
  · have HC := Lib.hid (show cutVal s = .tuple #[.string s, .string ⟨#[]⟩, .bool false] from by unfold cutVal; rw [← hk, if_neg hks])
    have hkl : eqIdx s.data.toList = s.data.toList.length := by omega
    have htk : s.data.toList.take (eqIdx s.data.toList) = s.data.toList := by rw [hkl, List.take_length]
    cases h1 : isTok s.data.toList with
    | false =>
      have HV := Lib.hid (pair_noname (l := s.data.toList) (by rw [htk]; exact h1))
      have HI := Lib.hid h1
      clear h1 hkl htk hk hlen hle
      go_enter Tryd.func44, Tryd.ntmps44
      go_wp2_with fail
      refine (cut_any s _ (by unfold maxLen; omega)).mono ?_
      rintro e w1 ⟨rfl, n1, hw1⟩
      have HW := Lib.hid hw1
      clear hw1
      rw [HC.out]
      go_wp2_with fail
      refine (is_any s _ (by unfold maxLen; omega) (HT.out.drewN HW.out)).mono ?_
      rintro e w' ⟨rfl, rfl⟩
      rw [HI.out]
      go_wp2_with fail
      refine bodyPost_ret (four_results rfl _ _ _) rfl ?_
      exact ⟨by rw [HV.out]; rfl, below_drawn HW.out⟩
    | true =>
      have HV := Lib.hid (pair_bare (l := s.data.toList) (by rw [htk]; exact h1) hkl)
      rw [← whole_text s] at HV
      have HI := Lib.hid h1
      clear h1 hkl htk hk hlen hle
      go_enter Tryd.func44, Tryd.ntmps44
      go_wp2_with fail
      refine (cut_any s _ (by unfold maxLen; omega)).mono ?_
      rintro e w1 ⟨rfl, n1, hw1⟩
      have HW := Lib.hid hw1
      clear hw1
      rw [HC.out]
      go_wp2_with fail
      refine (is_any s _ (by unfold maxLen; omega) (HT.out.drewN HW.out)).mono ?_
      rintro e w' ⟨rfl, rfl⟩
      rw [HI.out]
      go_wp2_with fail
      refine (clone_any s _ (by omega)).mono ?_
      rintro e w2 ⟨rfl, hb2⟩
      have hB := (below_drawn (B := w.heap.size) HW.out).trans (hb2.mono (below_drawn (B := w.heap.size) HW.out).size)
      have HB := Lib.hid hB
      clear hb2 hB
      go_wp2_with fail
      refine bodyPost_ret (four_results rfl _ _ _) rfl ?_
      exact ⟨by rw [HV.out]; rfl, HB.out⟩
end Go.Proofs.YtjbdgndejbiikaaDoor.Tk
/-
  What a directive does, by its kind: plain functions. No program's run, no condition.
-/
namespace Go.Proofs.YtjbdgndejbiikaaDoor.Ct
open Go.RowKit Go.Proofs.YtjbdgndejbiikaaDoor.Tk Go.Proofs.YtjbdgndejbiikaaDoor.Fd Go.Proofs.YtjbdgndejbiikaaDoor.Hd
set_option maxRecDepth 100000
set_option linter.unusedVariables false

theorem act_none (c : Con) (nm : Bs) (v : Option Bs) (h : ∀ k, k < 13 → nm ≠ nameOf k) : act c nm v = c := by
  unfold act
  rw [if_neg (show ¬ nm = nst from h 0 (by omega)), if_neg (show ¬ nm = nca from h 1 (by omega)), if_neg (show ¬ nm = pri from h 2 (by omega)), if_neg (show ¬ nm = pub from h 3 (by omega)), if_neg (show ¬ nm = mus from h 4 (by omega)), if_neg (show ¬ nm = pro from h 5 (by omega)), if_neg (show ¬ nm = onl from h 6 (by omega)), if_neg (show ¬ nm = age from h 7 (by omega)), if_neg (show ¬ nm = sma from h 8 (by omega)), if_neg (show ¬ nm = swr from h 9 (by omega)), if_neg (show ¬ nm = sie from h 10 (by omega)), if_neg (show ¬ nm = mif from h 11 (by omega)), if_neg (show ¬ nm = mst from h 12 (by omega))]
theorem table_none (nm : Bs) (h : table.lookup nm = none) : ∀ k, k < 13 → nm ≠ nameOf k := by
  intro k hk e
  rw [e, table_at k hk] at h
  cases h
theorem table_some (nm : Bs) (d : Kind) (h : table.lookup nm = some d) : ∃ k, k < 13 ∧ nm = nameOf k ∧ d = kindOf k := by
  by_cases hx : ∃ k, k < 13 ∧ nm = nameOf k
  · obtain ⟨k, hk, rfl⟩ := hx
    rw [table_at k hk] at h
    injection h with h
    exact ⟨k, hk, rfl, h.symm⟩
  · rw [lookup_none (fun p hp => by obtain ⟨k, hk, rfl⟩ := List.mem_map.1 hp; intro e; exact hx ⟨k, List.mem_range.1 hk, e⟩)] at h
    cases h
/-- A pair's value, as both results of Pair have it. -/
def valB : Option Bs → ByteArray
  | none => ⟨#[]⟩
  | some x => ⟨x.toArray⟩
def hasB : Option Bs → Bool
  | none => false
  | some _ => true
theorem told_same (d : Int) (v : Option Bs) : told d d (valB v) (hasB v) = (numV v).getD d := by
  cases v with
  | none => rfl
  | some x =>
    show told d d ⟨x.toArray⟩ true = (numB x).getD d
    unfold told numB
    rw [if_neg (by decide)]
    cases h : (Num.numOf ⟨x.toArray⟩ most).2 with
    | false => rfl
    | true => rfl
theorem leastP_numV {a : Int} (ha : -1 ≤ a) (v : Option Bs) : leastP a (told (-1) (-1) (valB v) (hasB v)) = upd a (numV v) := by
  rw [told_same]
  cases h : numV v with
  | none => exact leastP_unsaid ha
  | some n => exact leastP_least ha (numV_bd h).1
theorem leastP_zero {a : Int} (ha : -1 ≤ a) (v : Option Bs) : leastP a (told 0 0 (valB v) (hasB v)) = least a ((numV v).getD 0) := by
  rw [told_same]
  exact leastP_least ha (getD_bd v).1
theorem leastP_stale {a : Int} (ha : -1 ≤ a) (v : Option Bs) : leastP a (told 2147483648 (-1) (valB v) (hasB v)) = upd a (stale v) := by
  cases v with
  | none => exact leastP_least ha (by decide)
  | some x =>
    have h := leastP_numV ha (some x)
    exact h
/-- A number's cell. -/
def numAt (c : Con) : Nat → Int
  | 7 => c.ag
  | 8 => c.sh
  | 9 => c.wh
  | 10 => c.ie
  | 11 => c.mf
  | _ => c.ms
/-- What a directive's kind makes of the cells. -/
def setK (c : Con) (k : Kind) (v : ByteArray) (has : Bool) : Array Value := match k with
  | .flag i => (cells c).setIfInBounds i (.bool true)
  | .num i b wr => (cells c).setIfInBounds i (.int .i64 (leastP (numAt c i) (told b wr v has)))
theorem act_kind (c : Con) (hc : Fine c) (v : Option Bs) : ∀ k, k < 13 → cells (act c (nameOf k) v) = setK c (kindOf k) (valB v) (hasB v) := by
  refine below13 ?_ ?_ ?_ ?_ ?_ ?_ ?_ ?_ ?_ ?_ ?_ ?_ ?_
  · show cells (act c nst v) = _; rw [act_ns]; rfl
  · show cells (act c nca v) = _; rw [act_nc]; rfl
  · show cells (act c pri v) = _; rw [act_pr]; rfl
  · show cells (act c pub v) = _; rw [act_pub]; rfl
  · show cells (act c mus v) = _; rw [act_mu]; rfl
  · show cells (act c pro v) = _; rw [act_px]; rfl
  · show cells (act c onl v) = _; rw [act_oc]; rfl
  · show cells (act c age v) = (cells c).setIfInBounds 7 (.int .i64 (leastP c.ag (told 0 0 (valB v) (hasB v)))); rw [act_ag, leastP_zero hc.ag]; rfl
  · show cells (act c sma v) = (cells c).setIfInBounds 8 (.int .i64 (leastP c.sh (told 0 0 (valB v) (hasB v)))); rw [act_sh, leastP_zero hc.sh]; rfl
  · show cells (act c swr v) = (cells c).setIfInBounds 9 (.int .i64 (leastP c.wh (told (-1) (-1) (valB v) (hasB v)))); rw [act_wh, leastP_numV hc.wh]; rfl
  · show cells (act c sie v) = (cells c).setIfInBounds 10 (.int .i64 (leastP c.ie (told (-1) (-1) (valB v) (hasB v)))); rw [act_ie, leastP_numV hc.ie]; rfl
  · show cells (act c mif v) = (cells c).setIfInBounds 11 (.int .i64 (leastP c.mf (told (-1) (-1) (valB v) (hasB v)))); rw [act_mf, leastP_numV hc.mf]; rfl
  · show cells (act c mst v) = (cells c).setIfInBounds 12 (.int .i64 (leastP c.ms (told 2147483648 (-1) (valB v) (hasB v)))); rw [act_ms, leastP_stale hc.ms]; rfl
/-- What a directive's call leaves: one cell of the struct turned. -/
def DirPost (g : Nat) (c' : Con) (w : World) (e : Ending) (w' : World) : Prop := e = .returned (.tuple #[]) ∧ ∃ i x, PutAt w w' ⟨g, i, none⟩ x ∧ ConAt w' g c'
def FlagWay (g : Nat) (c' : Con) (v : ByteArray) (has : Bool) (w : World) (d : Value) : Prop :=
  ∃ b, d = .agg #[.func (.func 67) #[] #[.pointer (some ⟨b, 0, none⟩)]] ∧ Calls Tryd.prog 67 #[.string v, .bool has, .pointer (some ⟨b, 0, none⟩)] w (DirPost g c' w)
def NumWay (g : Nat) (c' : Con) (v : ByteArray) (has : Bool) (w : World) (d : Value) : Prop :=
  ∃ b0 b1 b2, d = .agg #[.func (.func 68) #[] #[.pointer (some ⟨b0, 0, none⟩), .pointer (some ⟨b1, 0, none⟩), .pointer (some ⟨b2, 0, none⟩)]] ∧
    Calls Tryd.prog 68 #[.string v, .bool has, .pointer (some ⟨b0, 0, none⟩), .pointer (some ⟨b1, 0, none⟩), .pointer (some ⟨b2, 0, none⟩)] w (DirPost g c' w)
theorem way_flag {g i : Nat} {c c' : Con} {v : ByteArray} {has : Bool} {w : World} {x : Value} (hx : (cells c)[i]? = some x) (hc : ConAt w g c) (e : cells c' = setK c (.flag i) v has) {d : Value} (hd : DirOf w g (.flag i) d) : FlagWay g c' v has w d := by
  obtain ⟨b, rfl, hg, hvb⟩ := hd
  exact ⟨b, rfl, (flag1_any g i b x v has w hvb ((conAt_cell hc i).trans hx) (free hc i)).mono fun e2 w' ⟨h1, h2⟩ => ⟨h1, i, _, h2, h2.con hc e.symm⟩⟩
theorem way_num {g i : Nat} {c c' : Con} {v : ByteArray} {has : Bool} {w : World} {b wr : Int} (hv : v.size ≤ maxLen) (hx : (cells c)[i]? = some (.int .i64 (numAt c i))) (hc : ConAt w g c) (e : cells c' = setK c (.num i b wr) v has) {d : Value} (hd : DirOf w g (.num i b wr) d) : NumWay g c' v has w d := by
  obtain ⟨b0, b1, b2, rfl, g0, g1, g2, v0, v1, v2⟩ := hd
  exact ⟨b0, b1, b2, rfl, (number1_any g i b0 b1 b2 _ b wr v has w hv v0 v1 v2 ((conAt_cell hc i).trans hx) (free hc i)).mono fun e2 w' ⟨h1, h2⟩ => ⟨h1, i, _, h2, h2.con hc e.symm⟩⟩
/-- A directive's call. -/
theorem dir_call (g : Nat) (c c' : Con) (v : ByteArray) (has : Bool) (w : World) (hv : v.size ≤ maxLen) (hc : ConAt w g c) (d : Value) : ∀ k, k < 13 → cells c' = setK c (kindOf k) v has → DirOf w g (kindOf k) d → FlagWay g c' v has w d ∨ NumWay g c' v has w d := by
  refine below13 ?_ ?_ ?_ ?_ ?_ ?_ ?_ ?_ ?_ ?_ ?_ ?_ ?_
  · exact fun e hd => .inl (way_flag (i := 0) rfl hc e hd)
  · exact fun e hd => .inl (way_flag (i := 1) rfl hc e hd)
  · exact fun e hd => .inl (way_flag (i := 2) rfl hc e hd)
  · exact fun e hd => .inl (way_flag (i := 3) rfl hc e hd)
  · exact fun e hd => .inl (way_flag (i := 4) rfl hc e hd)
  · exact fun e hd => .inl (way_flag (i := 5) rfl hc e hd)
  · exact fun e hd => .inl (way_flag (i := 6) rfl hc e hd)
  · exact fun e hd => .inr (way_num (i := 7) hv rfl hc e hd)
  · exact fun e hd => .inr (way_num (i := 8) hv rfl hc e hd)
  · exact fun e hd => .inr (way_num (i := 9) hv rfl hc e hd)
  · exact fun e hd => .inr (way_num (i := 10) hv rfl hc e hd)
  · exact fun e hd => .inr (way_num (i := 11) hv rfl hc e hd)
  · exact fun e hd => .inr (way_num (i := 12) hv rfl hc e hd)
/-- One element, by what its pair is. -/
theorem elem_none {c : Con} {x : Bs} (h : pairOf x = none) : elem c x = c := by unfold elem; rw [h]
theorem elem_some {c : Con} {x a : Bs} {v : Option Bs} (h : pairOf x = some (a, v)) : elem c x = act c (lower a) v := by unfold elem; rw [h]
theorem pairVal_none {x : Bs} (h : pairOf x = none) : pairVal x = .tuple #[.string ⟨#[]⟩, .string ⟨#[]⟩, .bool false, .bool false] := by unfold pairVal; rw [h]
theorem pairVal_some {x a : Bs} {v : Option Bs} (h : pairOf x = some (a, v)) : pairVal x = .tuple #[.string ⟨a.toArray⟩, .string (valB v), .bool (hasB v), .bool true] := by
  unfold pairVal
  rw [h]
  cases v <;> rfl
end Go.Proofs.YtjbdgndejbiikaaDoor.Ct
/-
  Slices of texts as the model has them. No condition.
-/
namespace Go.Proofs.YtjbdgndejbiikaaDoor.Fd
open Go.RowKit Tk

/-- A text as the model has it. -/
def TS (x : Bs) : Value := .string ⟨x.toArray⟩
/-- A slice value that reads as these texts. -/
def Texts (w : World) (v : Value) (ls : List Bs) : Prop :=
  (ls = [] ∧ ∃ a cap, v = .slice a 0 cap) ∨ ∃ g off cap, v = .slice (some ⟨g, off, none⟩) ls.length cap ∧ ∀ j (hj : j < ls.length), w.cell? ⟨g, off + j, none⟩ = some (TS ls[j])
theorem Texts.of_owns {w : World} {base : Nat} {v : Value} {ls : List Bs} {n : Nat} {t : TypeId} (h : w.ownsRow base t 1 v n (ls.map TS)) (hn : n = ls.length) : Texts w v ls := by
  subst hn
  rcases h.2 with ⟨hv, h0⟩ | ⟨g, cap, cur, hv, _⟩
  · exact .inl ⟨List.length_eq_zero_iff.1 h0, none, 0, by rw [hv]⟩
  · refine .inr ⟨g, 0, cap, hv, fun j hj => ?_⟩
    rw [hv] at h
    rw [Nat.zero_add, h.cellAt j (by omega), List.getElem?_map, List.getElem?_eq_getElem hj]; rfl
theorem Texts.shape {w : World} {v : Value} {ls : List Bs} (h : Texts w v ls) : ∃ a cap, v = .slice a ls.length cap := by
  rcases h with ⟨rfl, a, cap, hv⟩ | ⟨g, off, cap, hv, _⟩
  · exact ⟨a, cap, hv⟩
  · exact ⟨_, cap, hv⟩

end Go.Proofs.YtjbdgndejbiikaaDoor.Fd
