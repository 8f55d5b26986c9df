/-
  gatepostref14.one: what it returns. Condition: a text of at most 2^47 bytes.
-/
import Derived.Test.YthhnpdihgoiccaaRnIx
import Derived.Test.YthhnpdihgoiccaaRnTold
namespace Go.Proofs.Ythhnpdihgoiccaa.Rn
open Go.RowKit Go.Proofs.Ythhnpdihgoiccaa.Fd Go.Proofs.Ythhnpdihgoiccaa.Sn Go.Proofs.Ythhnpdihgoiccaa.Rm
set_option maxRecDepth 100000
set_option linter.unusedVariables false
set_option linter.unusedSimpArgs false

theorem infoRefSize (x y : Value) : (Try.prog.info? 30).map (·.size) = some #[x, y].size := by
  have h : (Try.prog.info? 30).map (·.size) = some 2 := by kernel_rfl
  exact h
theorem ret_ref {fn : Func} {p u : Tmp} (h : fn.results = #[.cell p 30, .tmp u]) (tmps : Array Value) (w : World) (g : Nat) (x y : Value)
    (hp : tmps.getD p undef = .pointer (some ⟨g, 0, none⟩)) (hg : w.heap[g]? = some (.cells #[x, y] 30 (0, 0))) :
    (results fn tmps).run Try.prog w = .ok (.tuple #[.agg #[x, y], tmps.getD u undef]) w :=
  results_pair h _ _ g 30 _ (0, 0) _ hp hg Try.underlying30 rfl (infoRefSize x y)
/-- A range, if the text is one. -/
def OneP (l : Tk.Bs) (w : World) (e : Ending) (w' : World) : Prop := ∃ (p : Int × Int) (b : Bool), e = .returned (.tuple #[SV p, .bool b]) ∧ oneW l = (if b then some p else none) ∧ Below w.heap.size w w'
theorem byte_ne {a c : UInt8} (h : a ≠ c) : ((a.toNat : Int) != (c.toNat : Int)) = true := by
  rw [bne_iff_ne]; intro e; exact h (UInt8.toNat_inj.1 (by exact_mod_cast e))
theorem oneW_at {s : ByteArray} {k : Nat} (hi : ix 45 s.data.toList = k) (hk : k < s.size) {n1 n2 : Int} {b1 b2 : Bool} (h1 : Num.numOf (s.extract 0 k) mostT = (n1, b1)) (h2 : Num.numOf (s.extract (k + 1) s.size) mostT = (n2, b2)) :
    oneW s.data.toList = if k = 0 then (if b2 then some (-1, n2) else none) else if k + 1 = s.size then (if b1 then some (n1, -1) else none) else if b1 && b2 && decide (n1 ≤ n2) then some (n1, n2) else none := by
  unfold oneW
  have e1 : numT mostT (s.data.toList.take k) = if b1 then some n1 else none := by rw [← ext_take, numT_of, h1]
  have e2 : numT mostT (s.data.toList.drop (k + 1)) = if b2 then some n2 else none := by rw [← ext_drop, numT_of, h2]
  rw [hi, if_neg (by rw [len_size]; omega), len_size, e1, e2]
  by_cases h0 : k = 0
  · subst h0
    rw [if_pos rfl, if_pos rfl]
    have e3 : numT mostT (s.data.toList.drop 1) = if b2 then some n2 else none := e2
    rw [e3]
    cases b2 <;> rfl
  · rw [if_neg h0, if_neg h0]
    split
    · cases b1 <;> rfl
    · cases b1 <;> cases b2 <;> simp
set_option maxHeartbeats 8000000 in
theorem refOne_any (s : ByteArray) (w : World) (hs : s.size ≤ maxLen) :
    Calls Try.prog 18 #[.string s] w (OneP s.data.toList w) := by
  unfold maxLen at hs
  obtain ⟨W, hW⟩ : ∃ W, W = w.alloc (.cells #[.int .i64 0, .int .i64 0] 30) := ⟨_, rfl⟩
  have hr : W.heap[w.heap.size]? = some (.cells #[.int .i64 0, .int .i64 0] 30 (0, 0)) := by rw [hW]; exact new_block _ _
  have HB := Lib.hid (show Below w.heap.size w W from by rw [hW]; exact (Below.refl _ _).alloc (Nat.le_refl _) _)
  have r0 := two0 hr
  have r1 := two1 hr
  have f0 := free hr 0
  have f1 := free hr 1
  have HR := Lib.hid hr
  clear hr
  go_enter Try.func18, Try.ntmps18
  go_wp2_with fail
  rw [← hW]
  clear hW
  go_loop [4] (fun v => ∃ k : Nat, k ≤ s.size ∧ v = .int .i64 (k : Int) ∧ k ≤ ix 45 s.data.toList) (fun v => s.size - (intOf v).toNat)
  case atStart => exact ⟨0, Nat.zero_le _, rfl, Nat.zero_le _⟩
  case round =>
    obtain ⟨k, hk, rfl, hix⟩ := hrel
    by_cases hlt : k < s.size
    · by_cases hc : s[k] = 45
      · have hi := ixs_here 45 s k hix hlt hc
        obtain ⟨⟨n1, b1⟩, h1⟩ : ∃ p, Num.numOf (s.extract 0 k) mostT = p := ⟨_, rfl⟩
        obtain ⟨⟨n2, b2⟩, h2⟩ : ∃ p, Num.numOf (s.extract (k + 1) s.size) mostT = p := ⟨_, rfl⟩
        have HV := Lib.hid (oneW_at hi hlt h1 h2)
        have N1 := Lib.hid (show ∀ V : World, Calls Try.prog 30 #[.string (s.extract 0 k), .int .i64 1099511627776] V fun e w' => e = .returned (.tuple #[.int .i64 n1, .bool b1]) ∧ V = w' from fun V => by
          have h := Num.refNumber_any (s.extract 0 k) 1099511627776 V (by unfold maxLen; simp; omega) (by decide) (by decide)
          rw [show Num.numOf (s.extract 0 k) 1099511627776 = (n1, b1) from h1] at h
          exact h)
        have N2 := Lib.hid (show ∀ V : World, Calls Try.prog 30 #[.string (s.extract (k + 1) s.size), .int .i64 1099511627776] V fun e w' => e = .returned (.tuple #[.int .i64 n2, .bool b2]) ∧ V = w' from fun V => by
          have h := Num.refNumber_any (s.extract (k + 1) s.size) 1099511627776 V (by unfold maxLen; simp; omega) (by decide) (by decide)
          rw [show Num.numOf (s.extract (k + 1) s.size) 1099511627776 = (n2, b2) from h2] at h
          exact h)
        have HC := Lib.hid hc
        clear hix hi h1 h2
        go_wp2_with fail
        refine (N1.out _).mono ?_
        rintro e w' ⟨rfl, rfl⟩
        go_wp2_with fail
        refine (N2.out _).mono ?_
        rintro e w' ⟨rfl, rfl⟩
        by_cases h0 : k = 0
        · replace HV := Lib.hid (show oneW s.data.toList = (if b2 then some (-1, n2) else none) from by rw [HV.out, if_pos h0])
          subst h0
          go_wp2_with fail
          all_goals
            refine bodyPost_ret (ret_ref rfl _ _ w.heap.size _ _ rfl (put2 HR.out _ _)) rfl ?_
            refine ⟨(-1, n2), _, rfl, ?_, put2_below HB.out (Nat.le_refl _) _ _⟩
            rw [HV.out]
        · replace HV := Lib.hid (show oneW s.data.toList = (if k + 1 = s.size then (if b1 then some (n1, -1) else none) else if b1 && b2 && decide (n1 ≤ n2) then some (n1, n2) else none) from by rw [HV.out, if_neg h0])
          by_cases h1 : k + 1 = s.size
          · replace HV := Lib.hid (show oneW s.data.toList = (if b1 then some (n1, -1) else none) from by rw [HV.out, if_pos h1])
            go_wp2_with fail
            all_goals
              refine bodyPost_ret (ret_ref rfl _ _ w.heap.size _ _ rfl (put2 HR.out _ _)) rfl ?_
              refine ⟨(n1, -1), _, rfl, ?_, put2_below HB.out (Nat.le_refl _) _ _⟩
              rw [HV.out]
          · replace HV := Lib.hid (show oneW s.data.toList = (if b1 && b2 && decide (n1 ≤ n2) then some (n1, n2) else none) from by rw [HV.out, if_neg h1])
            go_wp2_with fail
            all_goals
              refine bodyPost_ret (ret_ref rfl _ _ w.heap.size _ _ rfl (put2 HR.out _ _)) rfl ?_
              refine ⟨(n1, n2), _, rfl, ?_, put2_below HB.out (Nat.le_refl _) _ _⟩
              rw [HV.out]; simp [*]
      · have hi := ixs_step 45 s k hix hlt hc
        have hne : ((s[k].toNat : Int) != 45) = true := byte_ne hc
        clear hix
        go_wp2_with fail
        go_round
        case rel => exact ⟨k + 1, by omega, by go_num, hi⟩
        case measure => simp [intOf]; omega
    · have hi : ix 45 s.data.toList = s.data.toList.length := by have := ixs_le 45 s; rw [len_size]; omega
      have HV := Lib.hid (show oneW s.data.toList = none from by unfold oneW; rw [if_pos hi])
      obtain rfl : k = s.size := by omega
      clear hi hix
      go_wp2_with fail
      refine bodyPost_ret (ret_ref rfl _ _ w.heap.size _ _ rfl (put2 HR.out _ _)) rfl ?_
      exact ⟨(0, 0), false, rfl, by rw [HV.out]; rfl, put2_below HB.out (Nat.le_refl _) _ _⟩
end Go.Proofs.Ythhnpdihgoiccaa.Rn
