/-
  ranges.Read: what it returns. Condition: a text of at most 2^47 bytes.
-/
import Derived.Test.YthhnpdihgoiccaaDoorRnFits
import Derived.Test.YthhnpdihgoiccaaDoorRnPart
import Derived.Test.YthhnpdihgoiccaaDoorRnCutS
import Derived.Test.YthhnpdihgoiccaaDoorDpShelf
namespace Go.Proofs.YthhnpdihgoiccaaDoor.Rn
open Go.RowKit Go.Proofs.YthhnpdihgoiccaaDoor.Fd Go.Proofs.YthhnpdihgoiccaaDoor.Sn Go.Proofs.YthhnpdihgoiccaaDoor.Rm
set_option maxRecDepth 100000
set_option linter.unusedVariables false
set_option linter.unusedSimpArgs false

/-- A span, a length, and whether there are. -/
def rdV (o : Option (Rm.W × Int)) : Value := match o with
  | some (x, n) => .tuple #[SV x, .int .i64 n, .bool true]
  | none => .tuple #[SV (0, 0), .int .i64 0, .bool false]
theorem ret_read {fn : Func} {p u v : Tmp} (h : fn.results = #[.cell p 23, .tmp u, .tmp v]) (tmps : Array Value) (w : World) (g : Nat) (x y : Value)
    (hp : tmps.getD p undef = .pointer (some ⟨g, 0, none⟩)) (hg : w.heap[g]? = some (.cells #[x, y] 23 (0, 0))) :
    (results fn tmps).run Tryd.prog w = .ok (.tuple #[.agg #[x, y], tmps.getD u undef, tmps.getD v undef]) w := by
  have e : (results fn tmps).run Tryd.prog w = ((asAddr (tmps.getD p undef)).run Tryd.prog w).andThen fun a w₁ => ((loadVar 23 a).run Tryd.prog w₁).andThen fun r w₂ => .ok (.tuple #[r, tmps.getD u undef, tmps.getD v undef]) w₂ := by
    simp only [results, h]
    simp [Sem.run_bind, Result.andThen]
  rw [e, hp]
  simp [asAddr, run_loadVar_row w g 23 23 #[x, y] (0, 0) _ hg Tryd.underlying23 rfl (infoSpanSize x y), Result.andThen]
def begB (s : Tk.Bs) : Bool := Lib.hasPrefix s [98, 121, 116, 101, 115, 32]
def restL (s : Tk.Bs) : Tk.Bs := Lib.trimPrefix s [98, 121, 116, 101, 115, 32]
def bodyR (t : Tk.Bs) : Option (Rm.W × Int) := match readLong (t.drop (ix 47 t + 1)), readSpan (t.take (ix 47 t)) with
  | some n, some x => if rightR x n then some (x, n) else none
  | _, _ => none
theorem read_parts (s : Tk.Bs) : readR s = if begB s && decide (ix 47 (restL s) < (restL s).length) then bodyR (restL s) else none := by
  have hb : begB s = true ↔ s.take 6 = bytL := by
    unfold begB Lib.hasPrefix
    rw [List.isPrefixOf_iff_prefix, List.prefix_iff_eq_take]
    exact ⟨fun h => h.symm, fun h => h.symm⟩
  unfold readR
  by_cases h : s.take 6 = bytL
  · have e : restL s = s.drop 6 := by
      unfold restL Lib.trimPrefix
      rw [if_pos (show Lib.hasPrefix s [98, 121, 116, 101, 115, 32] = true from hb.2 h)]; rfl
    rw [hb.2 h, e, Bool.true_and]
    have hle := ix_le 47 (s.drop 6)
    by_cases h2 : ix 47 (s.drop 6) < (s.drop 6).length
    · rw [if_pos ⟨h, by omega⟩, if_pos (by rw [decide_eq_true h2])]; rfl
    · rw [if_neg (fun q => q.2 (by omega)), if_neg (by rw [decide_eq_false h2]; simp)]
  · rw [if_neg (fun q => h q.1), if_neg (by
      have : begB s = false := by rw [Bool.eq_false_iff]; exact fun q => h (hb.1 q)
      rw [this]; simp)]
theorem res_parts (o : Option Rm.W) : ∃ p0 p1 b, resV o = .tuple #[.agg #[.int .i64 p0, .int .i64 p1], .bool b] ∧ (b = true → o = some (p0, p1)) ∧ (b = false → o = none) := by
  cases o with
  | none => exact ⟨_, _, _, rfl, fun h => by (cases h), fun _ => rfl⟩
  | some q => exact ⟨_, _, _, rfl, fun _ => rfl, fun h => by (cases h)⟩
theorem long_parts (o : Option Int) : ∃ n b, longV o = .tuple #[.int .i64 n, .bool b] ∧ (b = true → o = some n) ∧ (b = false → o = none) := by
  cases o with
  | none => exact ⟨_, _, rfl, fun h => by (cases h), fun _ => rfl⟩
  | some q => exact ⟨_, _, rfl, fun _ => rfl, fun h => by (cases h)⟩
/-- The two parts at the first '/'. -/
theorem cut_parts (T : ByteArray) : ∃ L R b, Rc47.cutVal T = .tuple #[.string L, .string R, .bool b] ∧ b = decide (ix 47 T.data.toList < T.data.toList.length) ∧ L.size ≤ T.size ∧ R.size ≤ T.size ∧
    (b = true → L.data.toList = T.data.toList.take (ix 47 T.data.toList) ∧ R.data.toList = T.data.toList.drop (ix 47 T.data.toList + 1)) := by
  by_cases h : ix 47 T.data.toList < T.size
  · exact ⟨T.extract 0 (ix 47 T.data.toList), T.extract (ix 47 T.data.toList + 1) T.size, true, by unfold Rc47.cutVal; rw [if_pos h], by rw [decide_eq_true (by rw [len_size]; exact h)], by simp; omega, by simp, fun _ => ⟨ext_take _ _, ext_drop _ _⟩⟩
  · exact ⟨T, ⟨#[]⟩, false, by unfold Rc47.cutVal; rw [if_neg h], by rw [decide_eq_false (by rw [len_size]; exact h)], Nat.le_refl _, Nat.zero_le _, fun h => by (cases h)⟩
set_option maxHeartbeats 8000000 in
theorem readP_any (s : ByteArray) (w : World) (hs : s.size ≤ maxLen) :
    Calls Tryd.prog 7 #[.string s] w fun e w' => e = .returned (rdV (readR s.data.toList)) ∧ Below w.heap.size w w' := by
  obtain ⟨W, hW⟩ : ∃ W, W = w.alloc (.cells #[.int .i64 0, .int .i64 0] 23) := ⟨_, rfl⟩
  have hr : W.heap[w.heap.size]? = some (.cells #[.int .i64 0, .int .i64 0] 23 (0, 0)) := by rw [hW]; exact new_block _ _
  have hB : Below w.heap.size w W := by rw [hW]; exact (Below.refl _ _).alloc (Nat.le_refl _) _
  obtain ⟨T, hT⟩ : ∃ T : ByteArray, T = ⟨(restL s.data.toList).toArray⟩ := ⟨_, rfl⟩
  have hTl : T.data.toList = restL s.data.toList := by rw [hT]
  have hTs : T.size ≤ maxLen := by
    have e : T.size = (restL s.data.toList).length := by rw [← hTl, len_size]
    have h2 : (restL s.data.toList).length ≤ s.data.toList.length := by unfold restL Lib.trimPrefix; split <;> simp
    rw [len_size] at h2; omega
  obtain ⟨b0, hb0⟩ : ∃ b, begB s.data.toList = b := ⟨_, rfl⟩
  have C0 := Lib.hid (show ∀ V : World, Calls Tryd.prog 14 #[.string s, .string ⟨#[98, 121, 116, 101, 115, 32]⟩] V fun e w' => e = .returned (.tuple #[.string T, .bool b0]) ∧ w' = V from fun V => by rw [hT, ← hb0]; exact Dp.cutPrefix_any s ⟨#[98, 121, 116, 101, 115, 32]⟩ V)
  obtain ⟨L, R, hb, hcv, hbe, hLs, hRs, hLR⟩ := cut_parts T
  have C1 := Lib.hid (show ∀ V : World, Calls Tryd.prog 15 #[.string T, .string ⟨#[47]⟩] V fun e w' => e = .returned (.tuple #[.string L, .string R, .bool hb]) ∧ ∃ n, w' = V.drewN n from fun V => by rw [← hcv]; exact Rc47.cut_any T V hTs)
  obtain ⟨p0, p1, b1, hv1, ho1, hn1⟩ := res_parts (readSpan L.data.toList)
  have C2 := Lib.hid (show ∀ V : World, Calls Tryd.prog 16 #[.string L] V fun e w' => e = .returned (.tuple #[.agg #[.int .i64 p0, .int .i64 p1], .bool b1]) ∧ Below V.heap.size V w' from fun V => by rw [← hv1]; exact part_any L V (by omega))
  obtain ⟨n, b2, hv2, ho2, hn2⟩ := long_parts (readLong R.data.toList)
  have C3 := Lib.hid (show ∀ V : World, Calls Tryd.prog 17 #[.string R] V fun e w' => e = .returned (.tuple #[.int .i64 n, .bool b2]) ∧ V = w' from fun V => by rw [← hv2]; exact length_any R V (by omega))
  have HV := Lib.hid (show readR s.data.toList = if b0 && hb && b1 && b2 && rightR (p0, p1) n then some ((p0, p1), n) else none from by
    rw [read_parts, hb0, ← hTl, ← hbe]
    cases b0 with
    | false => rfl
    | true =>
      cases hb with
      | false => rfl
      | true =>
        obtain ⟨e1, e2⟩ := hLR rfl
        show bodyR T.data.toList = _
        unfold bodyR
        rw [← e1, ← e2]
        cases b1 with
        | false => rw [hn1 rfl]; cases b2 <;> simp <;> (cases readLong R.data.toList <;> rfl)
        | true =>
          rw [ho1 rfl]
          cases b2 with
          | false => rw [hn2 rfl]; rfl
          | true => rw [ho2 rfl]; simp)
  clear hT hTl hTs hb0 hcv hbe hLs hRs hLR hv1 ho1 hn1 hv2 ho2 hn2 hs
  go_enter Tryd.func7, Tryd.ntmps7
  go_wp2_with fail
  rw [← hW]
  clear hW
  refine (C0.out _).mono ?_
  rintro e w1 ⟨rfl, rfl⟩
  go_wp2_with fail
  refine (C1.out _).mono ?_
  rintro e w2 ⟨rfl, nn, hw2⟩
  have hb2 := Bl.drewN' (Below.refl w1.heap.size w1) hw2
  have hr2 := Bl.old hb2 (block_lt hr) hr
  have hB2 := Bl.next hB hb2
  clear hw2 hb2 hr hB
  go_wp2_with fail
  refine (C2.out _).mono ?_
  rintro e w3 ⟨rfl, hb3⟩
  have hr3 := Bl.old hb3 (block_lt hr2) hr2
  have hB3 := Bl.next hB2 hb3
  clear hb3 hr2 hB2
  have hr4 : (w3.alloc (.cells #[.int .i64 p0, .int .i64 p1] 23)).heap[w.heap.size]? = some (.cells #[.int .i64 0, .int .i64 0] 23 (0, 0)) := by rw [old_block _ _ (block_lt hr3)]; exact hr3
  have hk4 := new_block w3 (.cells #[.int .i64 p0, .int .i64 p1] 23)
  have hB4 := hB3.alloc hB3.size (.cells #[.int .i64 p0, .int .i64 p1] 23)
  go_wp2_with fail
  refine (C3.out _).mono ?_
  rintro e w5 ⟨rfl, hw5⟩
  generalize hg : w3.heap.size = g at hk4 hw5 ⊢
  rw [hw5] at hr4 hk4 hB4
  clear hw5 hg hr3 hB3 C0 C1 C2 C3
  have r0 := two0 hr4
  have r1 := two1 hr4
  have f0 := free hr4 0
  have f1 := free hr4 1
  have k0 := two0 hk4
  have k1 := two1 hk4
  have HR := Lib.hid hr4
  have HB := Lib.hid hB4
  have HK := Lib.hid hk4
  clear hr4 hB4 hk4
  cases b0 with
  | false =>
    replace HV := Lib.hid (show readR s.data.toList = none from by rw [HV.out]; simp)
    go_wp2_with fail
    refine bodyPost_ret (ret_read rfl _ _ w.heap.size _ _ rfl (put2 HR.out _ _)) rfl ?_
    exact ⟨by rw [HV.out]; rfl, put2_below HB.out (Nat.le_refl _) _ _⟩
  | true =>
  cases hb with
  | false =>
    replace HV := Lib.hid (show readR s.data.toList = none from by rw [HV.out]; simp)
    go_wp2_with fail
    refine bodyPost_ret (ret_read rfl _ _ w.heap.size _ _ rfl (put2 HR.out _ _)) rfl ?_
    exact ⟨by rw [HV.out]; rfl, put2_below HB.out (Nat.le_refl _) _ _⟩
  | true =>
  cases b1 with
  | false =>
    replace HV := Lib.hid (show readR s.data.toList = none from by rw [HV.out]; simp)
    go_wp2_with fail
    refine bodyPost_ret (ret_read rfl _ _ w.heap.size _ _ rfl (put2 HR.out _ _)) rfl ?_
    exact ⟨by rw [HV.out]; rfl, put2_below HB.out (Nat.le_refl _) _ _⟩
  | true =>
  cases b2 with
  | false =>
    replace HV := Lib.hid (show readR s.data.toList = none from by rw [HV.out]; simp)
    go_wp2_with fail
    refine bodyPost_ret (ret_read rfl _ _ w.heap.size _ _ rfl (put2 HR.out _ _)) rfl ?_
    exact ⟨by rw [HV.out]; rfl, put2_below HB.out (Nat.le_refl _) _ _⟩
  | true =>
  replace HV := Lib.hid (show readR s.data.toList = if rightR (p0, p1) n then some ((p0, p1), n) else none from by rw [HV.out]; simp)
  go_wp2_with fail
  refine (fits_any p0 p1 n _).mono ?_
  rintro e w6 ⟨rfl, hb6⟩
  have hr6 := Bl.old hb6 (block_lt HR.out) HR.out
  have hk6 := Bl.old hb6 (block_lt HK.out) HK.out
  have HB6 := Lib.hid (Bl.next HB.out hb6)
  clear hb6 r0 r1 f0 f1 k0 k1 HR HK HB
  have r0 := two0 hr6
  have r1 := two1 hr6
  have f0 := free hr6 0
  have f1 := free hr6 1
  have k0 := two0 hk6
  have k1 := two1 hk6
  have HR := Lib.hid hr6
  clear hr6 hk6
  cases hrr : rightR (p0, p1) n with
  | false =>
    replace HV := Lib.hid (show readR s.data.toList = none from by rw [HV.out, hrr]; rfl)
    clear hrr
    go_wp2_with fail
    refine bodyPost_ret (ret_read rfl _ _ w.heap.size _ _ rfl (put2 HR.out _ _)) rfl ?_
    exact ⟨by rw [HV.out]; rfl, put2_below HB6.out (Nat.le_refl _) _ _⟩
  | true =>
    replace HV := Lib.hid (show readR s.data.toList = some ((p0, p1), n) from by rw [HV.out, hrr]; rfl)
    clear hrr
    go_wp2_with fail
    refine bodyPost_ret (ret_read rfl _ _ w.heap.size _ _ rfl (put2 HR.out _ _)) rfl ?_
    exact ⟨by rw [HV.out]; rfl, put2_below HB6.out (Nat.le_refl _) _ _⟩
end Go.Proofs.YthhnpdihgoiccaaDoor.Rn
