/-
  gatepostref14.Pick: what it returns. Condition: a text of at most 2^30 bytes.
-/
import Derived.Test.YthhnpdihgoiccaaRnPick
import Derived.Test.YthhnpdihgoiccaaRnRefParse
import Derived.Test.YthhnpdihgoiccaaRnRefRes
namespace Go.Proofs.Ythhnpdihgoiccaa.Rn
open Go.RowKit Go.Proofs.Ythhnpdihgoiccaa.Fd Go.Proofs.Ythhnpdihgoiccaa.Sn Go.Proofs.Ythhnpdihgoiccaa.Rm
set_option maxRecDepth 100000
set_option linter.unusedVariables false
set_option linter.unusedSimpArgs false

/-- The last of a list, or nothing. -/
def lastS (M : List Sp) : Sp := M.getLastD (0, 0)
theorem lastS_snoc (M : List Sp) (p : Sp) : lastS (M ++ [p]) = p := by unfold lastS; simp
structure Rq (w1 : World) (M : List Sp) (wr : World) : Prop where
  var : wr.heap[w1.heap.size]? = some (.cells #[.int .i64 (lastS M).1, .int .i64 (lastS M).2] 31 (0, 0))
  bel : Below w1.heap.size w1 wr
theorem Rq.next {w1 : World} {M : List Sp} {wr wr' : World} (h : Rq w1 M wr) (hb : Below wr.heap.size wr wr') : Rq w1 M wr' :=
  ⟨Bl.old hb (block_lt h.var) h.var, Bl.next h.bel hb⟩
theorem Rq.put {w1 : World} {M : List Sp} {wr : World} (h : Rq w1 M wr) (x y : Int) : Rq w1 (M ++ [(x, y)]) ((wr.setCell ⟨w1.heap.size, 0, none⟩ (.int .i64 x)).setCell ⟨w1.heap.size, 1, none⟩ (.int .i64 y)) :=
  ⟨by rw [lastS_snoc]; exact put2 h.var _ _, put2_below h.bel (Nat.le_refl _) _ _⟩
set_option maxHeartbeats 8000000 in
theorem refPick_any (s : ByteArray) (long : Int) (w : World) (hs : s.size ≤ 1073741824) :
    Calls Try.prog 11 #[.string s, .int .i64 long] w fun e w' => e = .returned (pickV (Rm.pick s.data.toList long)) ∧ Below w.heap.size w w' := by
  obtain ⟨W, hW⟩ : ∃ W, W = w.alloc (.cells #[.int .i64 0, .int .i64 0] 31) := ⟨_, rfl⟩
  have hr : W.heap[w.heap.size]? = some (.cells #[.int .i64 0, .int .i64 0] 31 (0, 0)) := by rw [hW]; exact new_block _ _
  have hB : Below w.heap.size w W := by rw [hW]; exact (Below.refl _ _).alloc (Nat.le_refl _) _
  have HSZ := Lib.hid hs
  go_enter Try.func11, Try.ntmps11
  go_wp2_with fail
  rw [← hW]
  clear hW
  refine (refParse_any s W HSZ.out).mono ?_
  rintro e w1 ⟨v, rfl, hv, hb1⟩
  have hr1 := Bl.old hb1 (block_lt hr) hr
  have hB1 := Bl.next hB hb1
  clear hr hB hb1
  cases hp : parseR s.data.toList with
  | none =>
    have HV := Lib.hid (pick_bad (long := long) (.inl hp))
    have r0 := two0 hr1
    have r1 := two1 hr1
    have f0 := free hr1 0
    have f1 := free hr1 1
    rw [hp] at hv
    obtain ⟨a, cap, hv⟩ := hv.shape
    rw [hv]
    have HR := Lib.hid hr1
    have HB := Lib.hid hB1
    clear hp hr1 hB1 hv
    simp only [Option.isSome]
    go_wp2_with fail
    refine bodyPost_ret (ret_span rfl _ _ w.heap.size _ _ rfl (put2 HR.out _ _)) rfl ?_
    exact ⟨by rw [HV.out]; rfl, put2_below HB.out (Nat.le_refl _) _ _⟩
  | some L =>
    have hlen := parse_len hp
    rw [hp] at hv
    have hv : Spans w1 v L := hv
    simp only [Option.isSome]
    cases hl : longB long with
    | false =>
      have HV := Lib.hid (pick_bad (l := s.data.toList) (.inr hl))
      have hl2 : long < 0 ∨ 1048576 < long := by have := of_decide_eq_false hl; omega
      have r0 := two0 hr1
      have r1 := two1 hr1
      have f0 := free hr1 0
      have f1 := free hr1 1
      obtain ⟨a, cap, hv⟩ := hv.shape
      rw [hv]
      have HR := Lib.hid hr1
      have HB := Lib.hid hB1
      clear hp hr1 hB1 hv hl
      rcases hl2 with hl2 | hl2
      all_goals
        go_wp2_with fail
        refine bodyPost_ret (ret_span rfl _ _ w.heap.size _ _ rfl (put2 HR.out _ _)) rfl ?_
        exact ⟨by rw [HV.out]; rfl, put2_below HB.out (Nat.le_refl _) _ _⟩
    | true =>
      have HV := Lib.hid (pick_good hp hl)
      have hl1 : ¬ long < 0 := by have := of_decide_eq_true hl; omega
      have hl2 : ¬ 1048576 < long := by have := of_decide_eq_true hl; omega
      obtain ⟨a, cap, hvv⟩ := hv.shape
      rw [hvv] at hv ⊢
      have HS := Lib.hid hv
      have HR := Lib.hid hr1
      have HB := Lib.hid hB1
      have hlt1 := block_lt hr1
      have HQ := Lib.hid (show Rq w1 [] (w1.alloc (.cells #[.int .i64 0, .int .i64 0] 31)) from ⟨new_block _ _, (Below.refl _ _).alloc (Nat.le_refl _) _⟩)
      clear hp hr1 hB1 hv hl hvv
      have i32 : (L.length : Int) ≤ 32 := by omega
      go_wp2_with fail
      go_loopw [8, 10] (fun n i wr => ∃ (k : Nat), k ≤ L.length ∧ i = .int .i64 (k : Int) ∧ n = .int .i64 (((L.take k).filterMap fun w => Rm.resolve w long).length : Int) ∧ Rq w1 ((L.take k).filterMap fun w => Rm.resolve w long) wr) (fun _ i _ => L.length - (intOf i).toNat)
      case atStart => exact ⟨0, Nat.zero_le _, rfl, rfl, HQ.out⟩
      case round =>
        obtain ⟨k, hk, rfl, rfl, hR⟩ := hrel
        clear HQ
        have HRp := Lib.hid hR
        clear hR
        have hfl := fm_le L k long
        have HE := Lib.hid (show L.length ≤ k → (L.take k).filterMap (fun w => Rm.resolve w long) = L.filterMap fun w => Rm.resolve w long from fun h => by rw [List.take_of_length_le h])
        have HST := Lib.hid (fun h : k < L.length => fm_step L k h long)
        generalize (L.take k).filterMap (fun w => Rm.resolve w long) = M at HRp HE HST hfl ⊢
        by_cases hlt : k < L.length
        · obtain ⟨b, off, hbo, hblt, hc0, hc1⟩ : ∃ b off, a = some ⟨b, off, none⟩ ∧ b < w1.heap.size ∧ w1.cell? ⟨b, off + k * 2, none⟩ = some (.int .i64 L[k].1) ∧ w1.cell? ⟨b, off + k * 2 + 1, none⟩ = some (.int .i64 L[k].2) := by
            rcases HS.out with ⟨h, _⟩ | ⟨b, off, cap', he, _, _, hb, hs⟩
            · rw [h] at hlt; simp at hlt
            · injection he with e1 e2 e3
              exact ⟨b, off, e1, hb, (hs k hlt).1, (hs k hlt).2⟩
          subst hbo
          obtain ⟨x, hx⟩ : ∃ x, x = L[k].1 := ⟨_, rfl⟩
          obtain ⟨y, hy⟩ : ∃ y, y = L[k].2 := ⟨_, rfl⟩
          rw [← hx] at hc0
          rw [← hy] at hc1
          have HST2 := Lib.hid (show (L.take (k + 1)).filterMap (fun w => Rm.resolve w long) = M ++ (Rm.resolve (x, y) long).toList from by rw [HST.out hlt, hx, hy])
          have c0 := (HRp.out.bel.cell (p := ⟨b, off + k * 2, none⟩) hblt).trans hc0
          have c1 := (HRp.out.bel.cell (p := ⟨b, off + k * 2 + 1, none⟩) hblt).trans hc1
          have HR3 := HRp
          clear hx hy hc0 hc1 HST
          go_wp2_with fail
          refine (refResolve_any x y long _).mono ?_
          rintro e w5 ⟨rfl, hb5⟩
          have HR5 := Lib.hid (HR3.out.next hb5)
          clear hb5 HR3 HRp c0 c1
          cases ho : Rm.resolve (x, y) long with
          | none =>
            have HN := Lib.hid (show (L.take (k + 1)).filterMap (fun w => Rm.resolve w long) = M from by rw [HST2.out, ho]; simp)
            have HR6 := Lib.hid (HR5.out.next ((Below.refl _ _).alloc (Nat.le_refl _) (.cells #[.int .i64 0, .int .i64 0] 31)))
            clear ho
            unfold resV SV
            go_wp2_with fail
            go_roundw
            case rel => exact ⟨k + 1, by omega, by go_num, by rw [HN.out], by rw [HN.out]; exact HR6.out⟩
            case measure => simp [intOf]; omega
          | some q =>
            obtain ⟨qx, qy⟩ := q
            have HN := Lib.hid (show (L.take (k + 1)).filterMap (fun w => Rm.resolve w long) = M ++ [(qx, qy)] from by rw [HST2.out, ho]; simp)
            have hR6 := HR5.out.next ((Below.refl _ _).alloc (Nat.le_refl _) (.cells #[.int .i64 qx, .int .i64 qy] 31))
            have HR7 := Lib.hid (hR6.put qx qy)
            have e0 := two0 hR6.var
            have e1 := two1 hR6.var
            have f0 := free hR6.var 0
            have f1 := free hR6.var 1
            clear ho HR5 hR6
            unfold resV SV
            go_wp2_with fail
            go_roundw
            case rel => exact ⟨k + 1, by omega, by go_num, by rw [HN.out, List.length_append]; go_num, by rw [HN.out]; exact HR7.out⟩
            case measure => simp [intOf]; omega
        · replace HV := Lib.hid (show Rm.pick s.data.toList long = pickL M from by rw [HV.out, ← HE.out (by omega)])
          have hr2 := Bl.old HRp.out.bel hlt1 HR.out
          have HB2 := Lib.hid (Bl.next HB.out HRp.out.bel)
          have r0 := two0 hr2
          have r1 := two1 hr2
          have f0 := free hr2 0
          have f1 := free hr2 1
          have HR2 := Lib.hid hr2
          clear hr2
          match M, HV, HRp with
          | [], HV, HRp =>
            go_wp2_with fail
            refine bodyPost_ret (ret_span rfl _ _ w.heap.size _ _ rfl (put2 HR2.out _ _)) rfl ?_
            exact ⟨by rw [HV.out]; rfl, put2_below HB2.out (Nat.le_refl _) _ _⟩
          | [(px, py)], HV, HRp =>
            have e0 : wr.cell? ⟨w1.heap.size, 0, none⟩ = some (.int .i64 px) := two0 HRp.out.var
            have e1 : wr.cell? ⟨w1.heap.size, 1, none⟩ = some (.int .i64 py) := two1 HRp.out.var
            simp only [List.length_cons, List.length_nil, Nat.zero_add]
            go_wp2_with fail
            refine bodyPost_ret (ret_span rfl _ _ w.heap.size _ _ rfl (put2 HR2.out _ _)) rfl ?_
            exact ⟨by rw [HV.out]; rfl, put2_below HB2.out (Nat.le_refl _) _ _⟩
          | p :: q :: T, HV, HRp =>
            obtain ⟨N, hN⟩ : ∃ N, (p :: q :: T).length = N := ⟨_, rfl⟩
            have h2 : 2 ≤ N := by rw [← hN]; simp
            rw [hN]
            have n0 : ((N : Int) == 0) = false := by rw [beq_eq_false_iff_ne]; omega
            have n1 : (1 : Int) < N := by omega
            clear hN HRp hfl HST
            go_wp2_with fail
            refine bodyPost_ret (ret_span rfl _ _ w.heap.size _ _ rfl (put2 HR2.out _ _)) rfl ?_
            exact ⟨by rw [HV.out]; rfl, put2_below HB2.out (Nat.le_refl _) _ _⟩
end Go.Proofs.Ythhnpdihgoiccaa.Rn
