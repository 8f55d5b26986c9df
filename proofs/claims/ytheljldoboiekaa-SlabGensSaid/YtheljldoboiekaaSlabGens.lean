/-
  SlabGens: SlabGens: for any two ints the law's call returns true.
  Conditions: none.
-/
import Derived.Test.YtheljldoboiekaaRows
import Derived.Test.YtheljldoboiekaaSlLw
import Derived.Deep.DeepCutAuto
import Derived.Deep.RegionHeld3
import Derived.WalkKit
import Derived.WalkLawsBesides
import Derived.ProofKit
import Derived.OpenShut
import Derived.ShutString
import Derived.SizedLaws
import Derived.Carry
import Derived.Below
import Derived.Outline
import Derived.Lib.Hide
namespace Go.Proofs.Ytheljldoboiekaa.slabGens
open Go.ChangeShapes Go.WideShapes Go.ChangeAt Go.RowKit
open Go.ChangeMaps (open_string shut_string)
set_option linter.unusedVariables false

theorem own : ownKnob Try.prog.godebug = none := by kernel_rfl
theorem laidOut : laidOutB Try.prog = true := by kernel_rfl

open Go.Proofs.Ytheljldoboiekaa.Fd Go.Proofs.Ytheljldoboiekaa.Sl
/-- The handles of one block's first generations. -/
def gensH (c i : Nat) : List Hd := (List.range i).map fun (k : Nat) => ((c : Int), (0 : Int), (k : Int) + 1)
theorem gensH_len (c i : Nat) : (gensH c i).length = i := by simp [gensH]
theorem gensH_at (c i k : Nat) (h : k < i) : (gensH c i)[k]'(by rw [gensH_len]; exact h) = ((c : Int), 0, (k : Int) + 1) := by simp [gensH]
theorem gensH_succ (c i : Nat) : gensH c (i + 1) = gensH c i ++ [((c : Int), 0, (i : Int) + 1)] := by simp [gensH, List.range_succ]
theorem one_start (c : Nat) : newA (fun _ => 1) = one (newA fun _ => 1) c noB := by
  funext d
  unfold one upd
  split <;> rfl
theorem live_one (c i d : Nat) (m : Tk.Bs) (hd : d < 4) : liveA (one (newA fun _ => 1) c ⟨i, 0, m⟩) (d : Int) = 0 := by
  unfold liveA
  rw [if_pos (by omega), Int.toNat_natCast]
  unfold one upd
  split <;> rfl
set_option maxRecDepth 100000 in
set_option maxHeartbeats 16000000 in
theorem walk (a0 : Int) (w0 : (Lit.int .i64 a0).wf = true) (a1 : Int) (w1 : (Lit.int .i64 a1).wf = true) (w : World) :
    Calls Try.prog 7 #[.int .i64 a0, .int .i64 a1] w fun e w' => e = .returned (.bool true) ∧ Below w.heap.size w w' := by
  clear w0 w1
  obtain ⟨n, hn, hn2⟩ := mask_nat a0 31 (by omega)
  obtain ⟨m, hm, hm2⟩ := mask_nat a1 4095 (by omega)
  have hn' : bits BinOp.and IntKind.i64 a0 31 = (n : Int) := hn
  have hm' : bits BinOp.and IntKind.i64 a1 4095 = (m : Int) := hm
  clear hn hm
  obtain ⟨c, hc⟩ : ∃ c, classN m = c := ⟨_, rfl⟩
  have c4 : c < 4 := by rw [← hc]; exact classN_lt _
  have HAl := Lib.hid (fun (i : Nat) (mem : Tk.Bs) => (show allocA (one (newA fun _ => 1) c ⟨i, 0, mem⟩) (m : Int) = (((c : Int), 0, (i : Int) + 1), 0, one (newA fun _ => 1) c ⟨i + 1, 1, zer c⟩) from by
    have h := alloc_one (A := newA fun _ => 1) (n := m) (x := ⟨i, 0, mem⟩) (by omega) rfl
    rw [hc] at h
    exact h))
  clear hc
  go_enter Try.func7, Try.ntmps7
  go_wp2_with fail
  refine (pnew_any (fun _ => 1) w).mono ?_
  rintro e w1 ⟨hb1, h2⟩
  rcases h2 with ⟨⟨k, _, hk⟩, _⟩ | ⟨_, ⟨k, _, hk⟩, _⟩ | ⟨_, p, rfl, hr⟩
  · exact absurd hk (by show ¬ (1 : Int) < 0; decide)
  · exact absurd hk (by show ¬ (4096 : Int) < 1; decide)
  have hL0 : Lw w p (fun _ => 1) (one (newA fun _ => 1) c ⟨0, 0, []⟩) 0 (.slice none 0 0) (gensH c 0) w1 := ⟨by have h := hr; rw [show (newA fun c => ((fun _ => (1 : Int)) c).toNat) = one (newA fun _ => 1) c ⟨0, 0, []⟩ from one_start c] at h; exact h, OwnH.nil _ _, hb1⟩
  have HL0 := Lib.hid hL0
  clear hr hL0 hb1
  go_wp2_with fail
  go_loopw [7, 8] (fun v j wr => ∃ (i : Nat) (mem : Tk.Bs), i ≤ n + 1 ∧ j = .int .i64 (i : Int) ∧ Lw w p (fun _ => 1) (one (newA fun _ => 1) c ⟨i, 0, mem⟩) i v (gensH c i) wr) (fun _ j _ => n + 1 - (intOf j).toNat)
  case atStart => exact ⟨0, [], Nat.zero_le _, rfl, HL0.out⟩
  case round =>
    obtain ⟨i, mem, hi, rfl, hL⟩ := hrel
    obtain ⟨la, lc, hv⟩ := hL.own.form
    rw [gensH_len] at hv
    subst hv
    have HL := Lib.hid hL
    clear hL HL0
    by_cases hlt : i < n + 1
    · have hlti : (i : Int) < 1 + n := by omega
      go_wp2_with fail
      refine (palloc_any (m : Int) wr HL.out.rel (by omega)).mono ?_
      rintro e w2 ⟨rfl, hr2, ht2⟩
      rw [HAl.out i mem] at hr2 ⊢
      have HL2 := Lib.hid (HL.out.call hr2 ht2)
      have hap := HL.out.apart (b := w2.heap.size) ht2.size
      have hB3 := (Below.refl w2.heap.size w2).alloc (Nat.le_refl _) (.cells #[.int .i64 (c : Int), .int .i64 0, .int .i64 ((i : Int) + 1)] 34)
      have HL3 := Lib.hid (HL2.out.next hB3)
      have HX3 := Lib.hid (show Bx w2.heap.size ((c : Int), 0, (i : Int) + 1) (w2.alloc (.cells #[.int .i64 (c : Int), .int .i64 0, .int .i64 ((i : Int) + 1)] 34)) from new_block _ _)
      have HHe := Lib.hid (show heldA (one (newA fun _ => 1) c ⟨i + 1, 1, zer c⟩) ((c : Int), 0, (i : Int) + 1) = 1 from by
        unfold heldA
        have h := right_one (A := newA fun _ => 1) (c := c) (x := ⟨i + 1, 1, zer c⟩) c4 (Nat.succ_ne_zero _)
        rw [show (((⟨i + 1, 1, zer c⟩ : Blk).gen : Nat) : Int) = (i : Int) + 1 from rfl] at h
        rw [h]; rfl)
      have HHe2 := Lib.hid (fun V (h : PRel V w.heap.size p (fun _ => 1) (one (newA fun _ => 1) c ⟨i + 1, 1, zer c⟩) (i + 1)) => by
        have h2 := pheld_any (c : Int) 0 ((i : Int) + 1) V h
        rw [HHe.out] at h2
        exact h2)
      have hwi : IntKind.i64.wrap ((i : Int) + 1) = (i : Int) + 1 := IntWalk.i64_in _ (by omega)
      clear hr2 ht2 hB3
      go_wp2_with fail
      refine (HHe2.out _ HL3.out.rel).mono ?_
      rintro e w4 ⟨rfl, hb4⟩
      have HL4 := Lib.hid (HL3.out.next hb4)
      have HX4 := Lib.hid (HX3.out.next hb4)
      clear hb4 HL3 HX3 HL2 HHe HHe2
      generalize w2.heap.size = bx at *
      go_wp2_with fail
      go_loopw [11] (fun j wq => ∃ k : Nat, k ≤ i ∧ j = .int .i64 (k : Int) ∧ Lw w p (fun _ => 1) (one (newA fun _ => 1) c ⟨i + 1, 1, zer c⟩) (i + 1) (.slice la i lc) (gensH c i) wq ∧ Bx bx ((c : Int), 0, (i : Int) + 1) wq) (fun j _ => i - (intOf j).toNat)
      case atStart => exact ⟨0, Nat.zero_le _, rfl, HL4.out, HX4.out⟩
      case round =>
        obtain ⟨k, hk, rfl, hLq, hXq⟩ := hrel
        have HLq := Lib.hid hLq
        have HXq := Lib.hid hXq
        clear HL4 HX4 HL
        by_cases hki : k < i
        · obtain ⟨lg, lcap, hv', hlg, _, d0, d1, d2, _⟩ := hLq.own.entry (k := k) (by rw [gensH_len]; exact hki)
          rw [gensH_at c i k hki] at d0 d1 d2
          replace d0 : wr.cell? ⟨lg, k * 3, none⟩ = some (.int .i64 (c : Int)) := d0
          replace d1 : wr.cell? ⟨lg, k * 3 + 1, none⟩ = some (.int .i64 0) := d1
          replace d2 : wr.cell? ⟨lg, k * 3 + 2, none⟩ = some (.int .i64 ((k : Int) + 1)) := d2
          injection hv' with e1 e2 e3
          subst e1 e3
          have hgone : rightA (one (newA fun _ => 1) c ⟨i + 1, 1, zer c⟩) ((c : Int), 0, (k : Int) + 1) = none := right_one_gone c4 (.inl (by show ((i + 1 : Nat) : Int) ≠ _; omega))
          have HHk := Lib.hid (fun V (h : PRel V w.heap.size p (fun _ => 1) (one (newA fun _ => 1) c ⟨i + 1, 1, zer c⟩) (i + 1)) => by
            have h2 := pheld_any (c : Int) 0 ((k : Int) + 1) V h
            rw [show heldA (one (newA fun _ => 1) c ⟨i + 1, 1, zer c⟩) ((c : Int), 0, (k : Int) + 1) = 0 from by unfold heldA; rw [hgone]] at h2
            exact h2)
          have HHo := Lib.hid (fun V (h : PRel V w.heap.size p (fun _ => 1) (one (newA fun _ => 1) c ⟨i + 1, 1, zer c⟩) (i + 1)) => by
            have h2 := phold_any (c : Int) 0 ((k : Int) + 1) V h
            rw [show holdA (one (newA fun _ => 1) c ⟨i + 1, 1, zer c⟩) ((c : Int), 0, (k : Int) + 1) = (15, one (newA fun _ => 1) c ⟨i + 1, 1, zer c⟩) from by unfold holdA; rw [hgone]] at h2
            exact h2)
          clear hLq hXq hgone e2
          go_wp2_with fail
          refine (HHk.out _ HLq.out.rel).mono ?_
          rintro e w5 ⟨rfl, hb5⟩
          have HL5 := Lib.hid (HLq.out.next hb5)
          have HX5 := Lib.hid (HXq.out.next hb5)
          replace d0 := (hb5.cell (p := ⟨lg, k * 3, none⟩) hlg).trans d0
          replace d1 := (hb5.cell (p := ⟨lg, k * 3 + 1, none⟩) hlg).trans d1
          replace d2 := (hb5.cell (p := ⟨lg, k * 3 + 2, none⟩) hlg).trans d2
          clear hb5
          go_wp2_with fail
          refine (HHo.out _ HL5.out.rel).mono ?_
          rintro e w6 ⟨rfl, hr6, ht6⟩
          have HL6 := Lib.hid (HL5.out.call hr6 ht6)
          have HX6 := Lib.hid (HX5.out.call ht6)
          clear hr6 ht6
          go_wp2_with fail
          go_roundw
          case rel => exact ⟨k + 1, by omega, by go_num, HL6.out, HX6.out⟩
          case measure => simp [intOf]; omega
        · obtain rfl : k = i := by omega
          obtain ⟨x0, x1, x2⟩ := hXq.cells
          have hB6 := (Below.refl wr.heap.size wr).alloc (Nat.le_refl _) (.cells #[.int .i64 (c : Int), .int .i64 0, .int .i64 ((k : Int) + 1)] 34)
          have HL6 := Lib.hid (HLq.out.next hB6)
          have HX6 := Lib.hid (HXq.out.next hB6)
          have HN6 := Lib.hid (new_block wr (.cells #[.int .i64 (c : Int), .int .i64 0, .int .i64 ((k : Int) + 1)] 34))
          have HAp := Lib.hid hap
          clear hLq hXq hB6 hap
          go_wp2_with (at_builtin; refine wpList_append_hd _ rfl _ _ rfl w.heap.size _ (gensH c k) ((c : Int), 0, (k : Int) + 1) _ _ rfl (by rfl) HL6.out.own HN6.out (by rw [gensH_len]; omega) HL6.out.bel.size ?_; intro v' w7 ho hg; have HL7 := Lib.hid (HL6.out.app ho hg); have HX7 := Lib.hid (HX6.out.app hg HAp.out); obtain ⟨y0, y1, y2⟩ := HX7.out.cells; clear ho hg x0 x1 x2)
          have HDr := Lib.hid (fun V (h : PRel V w.heap.size p (fun _ => 1) (one (newA fun _ => 1) c ⟨k + 1, 1, zer c⟩) (k + 1)) => by
            have h2 := pdrop_any (c : Int) 0 ((k : Int) + 1) V h
            rw [show dropA (one (newA fun _ => 1) c ⟨k + 1, 1, zer c⟩) ((c : Int), 0, (k : Int) + 1) = (0, one (newA fun _ => 1) c ⟨k + 1, 0, zer c⟩) from drop_one (x := ⟨k + 1, 1, zer c⟩) c4 (Nat.succ_ne_zero _)] at h2
            exact h2)
          refine (HDr.out _ HL7.out.rel).mono ?_
          rintro e w8 ⟨rfl, hr8, ht8⟩
          have HL8 := Lib.hid (HL7.out.call hr8 ht8)
          clear hr8 ht8
          go_wp2_with fail
          go_roundw
          case rel => exact ⟨k + 1, zer c, by omega, by go_num, by rw [gensH_succ]; exact HL8.out⟩
          case measure => simp [intOf]; omega
    · obtain rfl : i = n + 1 := by omega
      have HLv := Lib.hid (fun d (hd : d < 4) V (h : PRel V w.heap.size p (fun _ => 1) (one (newA fun _ => 1) c ⟨n + 1, 0, mem⟩) (n + 1)) => by
        have h2 := plive_any (d : Int) V h
        rw [live_one c (n + 1) d mem hd] at h2
        exact h2)
      go_wp2_with fail
      refine (HLv.out 0 (by decide) _ HL.out.rel).mono ?_
      rintro e w2 ⟨rfl, hb2⟩
      have HL2 := Lib.hid (HL.out.next hb2)
      clear hb2
      go_wp2_with fail
      refine (HLv.out 1 (by decide) _ HL2.out.rel).mono ?_
      rintro e w3 ⟨rfl, hb3⟩
      have HL3 := Lib.hid (HL2.out.next hb3)
      clear hb3
      go_wp2_with fail
      refine (HLv.out 2 (by decide) _ HL3.out.rel).mono ?_
      rintro e w4 ⟨rfl, hb4⟩
      have HL4 := Lib.hid (HL3.out.next hb4)
      clear hb4
      go_wp2_with fail
      refine (HLv.out 3 (by decide) _ HL4.out.rel).mono ?_
      rintro e w5 ⟨rfl, hb5⟩
      have HL5 := Lib.hid (HL4.out.next hb5)
      clear hb5
      go_wp2_with fail
      go_ret
      exact ⟨rfl, HL5.out.bel⟩

set_option maxRecDepth 100000 in
theorem lifted (os : Os) (started : os.Started) (H : Type) (enc : TypeId × Value → H) :
    ReturnsInHanded {} Try.checked os 7 .any (Rows.slabGensSpec.pre6 enc Try.prog Try.f7 Rows.slabGensRow.domain false) (Rows.slabGensSpec.post enc Try.prog Try.f7 false true false false) := by
  refine returnsInHanded_of_change_sized (C := Try.checked) own started (by kernel_rfl) Try.func7
    (ChangeSpec.witness6 (enc := enc) (C := Try.checked) false ⟨#[], #[.int .i64 0, .int .i64 0], []⟩ 8 (by kernel_rfl) (by kernel_rfl) (by kernel_rfl) (by kernel_rfl)) ?_
  intro W base args ds gs before hval0 hW hcnd hsz _
  have hval : ∀ (j : Nat) t v, Try.f7.params[j]? = some t → args[j]? = some v → Value.okWide Try.prog W .any base t v := hval0
  have hW' := hW
  obtain ⟨p, q, hA0, hV, rfl, hfz, hnd⟩ := hW
  have hA : DataW.TrodAll enc Try.prog W 0 (fun _ => true) true Try.f7.params.toList args.toList ds p := hA0
  rw [Try.params7] at hA hval hsz
  obtain ⟨v0, vs0, d0, ds0, p0, q0, hargs, rfl, rfl, h0, r0⟩ := trodAll_cons hA
  obtain ⟨v1, vs1, d1, ds1, p1, q1, rfl, rfl, rfl, h1, r1⟩ := trodAll_cons r0
  obtain ⟨rfl, rfl, rfl⟩ := trodAll_nil r1
  obtain rfl : args = #[v0, v1] := by cases args; simp_all
  obtain ⟨rfl, rfl⟩ := trodVars_none hV
  obtain ⟨a0, rfl, rfl, rfl, w0⟩ := open_int Try.underlying3 (hval 0 3 v0 rfl rfl) h0
  obtain ⟨a1, rfl, rfl, rfl, w1⟩ := open_int Try.underlying3 (hval 1 3 v1 rfl rfl) h1
  clear hA0 hval0
  simp only [List.append_nil] at hW'
  refine (walk a0 w0 a1 w1 W).mono fun e W' ⟨he, bel⟩ => ?_
  subst he
  exact ⟨_, rfl, _, _, _, [], _, [], hW', trodAll_mk1 (shut_bool Try.underlying4 _), (trodAll_cons_mk (shut_int Try.underlying3 w0) (trodAll_cons_mk (shut_int Try.underlying3 w1) trodAll_mk0)), rfl, bel.frame _, fun h => by cases h⟩

theorem over : Rows.slabGensRow.holds Try.pinned (OpenSpec.ofChange Rows.slabGensSpec) :=
  OpenClaim.holds_of_wide 7 Try.f7 rfl rfl rfl rfl rfl rfl rfl ⟨rfl, rfl, rfl, rfl, rfl⟩ rfl rfl rfl rfl rfl (by kernel_rfl) Try.func7 (by kernel_rfl)
    (of_decide_eq_true (by kernel_rfl)) (by unfold Func.isWrapper; first | (rw [if_pos (by decide +kernel)]; kernel_rfl) | (rw [if_neg (by decide +kernel)]; exact ⟨rfl, rfl⟩))
    (fun os started H enc _ => lifted os started H enc)

theorem proved : Rows.SlabGensSaid := over
end Go.Proofs.Ytheljldoboiekaa.slabGens
