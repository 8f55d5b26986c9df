/-
  SlabFills: SlabFills: for any two ints and any list of ints the law's call returns true.
  Conditions: none.
-/
import Derived.Test.YtheljldoboiekaaRows
import Derived.Test.YtheljldoboiekaaSlLw
import Derived.Test.YtheljldoboiekaaHdNums
import Derived.Test.YtheljldoboiekaaRgVal
import Derived.Deep.DeepCutAuto
import Derived.Deep.RegionHeld3
import Derived.WalkKit
import Derived.WalkLawsBesides
import Derived.ProofKit
import Derived.OpenShut
import Derived.ShutString
import Derived.SizedLaws
import Derived.Carry
import Derived.Below
import Derived.Outline
import Derived.Lib.Hide
namespace Go.Proofs.Ytheljldoboiekaa.slabFills
open Go.ChangeShapes Go.WideShapes Go.ChangeAt Go.RowKit
open Go.ChangeMaps (open_string shut_string)
set_option linter.unusedVariables false

theorem own : ownKnob Try.prog.godebug = none := by kernel_rfl
theorem laidOut : laidOutB Try.prog = true := by kernel_rfl

open Go.Proofs.Ytheljldoboiekaa.Fd Go.Proofs.Ytheljldoboiekaa.Sl
/-- One handle for each block, of these generations. -/
def Hs (c : Nat) (gs : List Nat) (l : List Hd) : Prop := l.length = gs.length ∧ ∀ (k g : Nat), gs[k]? = some g → l[k]? = some ((c : Int), (k : Int), (g : Int))
theorem Hs.put {c k g : Nat} {gs : List Nat} {l : List Hd} (h : Hs c gs l) (hk : k < gs.length) : Hs c (gs.set k g) (l.set k ((c : Int), (k : Int), (g : Int))) := by
  refine ⟨by rw [List.length_set, List.length_set]; exact h.1, fun j x hj => ?_⟩
  by_cases e : k = j
  · subst e
    rw [List.getElem?_set_self hk] at hj
    injection hj with hj
    subst hj
    rw [List.getElem?_set_self (by rw [h.1]; exact hk)]
  · rw [List.getElem?_set_ne e] at hj
    rw [List.getElem?_set_ne e]
    exact h.2 j x hj
def firstH (c i : Nat) : List Hd := (List.range i).map fun (k : Nat) => ((c : Int), (k : Int), (1 : Int))
theorem firstH_len (c i : Nat) : (firstH c i).length = i := by simp [firstH]
theorem firstH_succ (c i : Nat) : firstH c (i + 1) = firstH c i ++ [((c : Int), (i : Int), (1 : Int))] := by simp [firstH, List.range_succ]
theorem firstH_hs (c i : Nat) : Hs c (List.replicate i 1) (firstH c i) := by
  refine ⟨by rw [firstH_len, List.length_replicate], fun k g hk => ?_⟩
  rw [List.getElem?_replicate] at hk
  split at hk
  · rename_i h
    injection hk with hk
    subst hk
    simp [firstH, h]
  · cases hk
theorem new_filled (ns : Nat → Nat) (c N : Nat) (h : ns c = N) : newA ns = upd (newA ns) c (filledL N 0 c) := by
  have e : newA ns c = filledL N 0 c := by rw [filled_zero, ← h]; rfl
  rw [← e, upd_self]
theorem flatH_set (l : List Hd) (h : Hd) : ∀ (k : Nat), k < l.length → flatH (l.set k h) = (((flatH l).set (k * 3) (.int .i64 h.1)).set (k * 3 + 1) (.int .i64 h.2.1)).set (k * 3 + 2) (.int .i64 h.2.2) := by
  induction l with
  | nil => intro k hk; simp at hk
  | cons x r ih =>
    intro k hk
    cases k with
    | zero => rfl
    | succ k =>
      have e : (k + 1) * 3 = k * 3 + 3 := by omega
      rw [e]
      show hdC x ++ flatH (r.set k h) = ((((hdC x ++ flatH r).set (k * 3 + 3) _).set (k * 3 + 3 + 1) _).set (k * 3 + 3 + 2) _)
      rw [ih k (by simpa using hk)]
      rfl
/-- A handle is stored. -/
theorem lw_put {w : World} {p : Nat} {n : Nat → Nat} {A : Ar} {G : Nat} {l : List Hd} {W : World} {g cap k : Nat} {h : Hd} (hL : Lw w p n A G (.slice (some ⟨g, 0, none⟩) l.length cap) l W) (hk : k < l.length) :
    Lw w p n A G (.slice (some ⟨g, 0, none⟩) l.length cap) (l.set k h) (((W.setCell ⟨g, k * 3, none⟩ (.int .i64 h.1)).setCell ⟨g, k * 3 + 1, none⟩ (.int .i64 h.2.1)).setCell ⟨g, k * 3 + 2, none⟩ (.int .i64 h.2.2)) := by
  have h0 : W.ownsRow w.heap.size 34 3 (.slice (some ⟨g, 0, none⟩) l.length cap) l.length (flatH l) := hL.own
  have h1 := World.ownsRow.stored h0 (k * 3) (.int .i64 h.1)
  have h2 := World.ownsRow.stored h1.1 (k * 3 + 1) (.int .i64 h.2.1)
  have h3 := World.ownsRow.stored h2.1 (k * 3 + 2) (.int .i64 h.2.2)
  have hg : ∀ V : World, OwnH W w.heap.size (.slice (some ⟨g, 0, none⟩) l.length cap) l → True := fun _ _ => trivial
  obtain ⟨i1, hb⟩ := hL.own.row g rfl
  have y : ∀ (V : World) (j : Nat) (u : Value), IsT TH V g → IsT TH (V.setCell ⟨g, j, none⟩ u) g := fun V j u ⟨cs, t, fr, z1, z2⟩ => ⟨_, t, fr, heap_put z1 _ _, z2⟩
  have ht : Tn TH w.heap.size W (((W.setCell ⟨g, k * 3, none⟩ (.int .i64 h.1)).setCell ⟨g, k * 3 + 1, none⟩ (.int .i64 h.2.1)).setCell ⟨g, k * 3 + 2, none⟩ (.int .i64 h.2.2)) :=
    ((Tn.set i1 hb _).trans (Tn.set (y _ _ _ i1) hb _)).trans (Tn.set (y _ _ _ (y _ _ _ i1)) hb _)
  refine ⟨hL.rel.tn ht TP_TH, ?_, hL.bel.trans (ht.below hL.bel.size)⟩
  unfold OwnH
  rw [flatH_set l h k hk, List.length_set]
  exact h3.1
theorem tmod_in (z : Int) (N : Nat) (hN : 0 < N) : -(N : Int) < z.tmod N ∧ z.tmod N < (N : Int) := by
  have h1 := Int.tmod_lt_of_pos z (b := (N : Int)) (by omega)
  have h2 := Int.tmod_lt_of_pos (-z) (b := (N : Int)) (by omega)
  rw [Int.neg_tmod] at h2
  exact ⟨by omega, h1⟩
theorem tmod_nat (y : Int) (N : Nat) (hN : 0 < N) (h0 : 0 ≤ y) : ∃ k : Nat, y.tmod N = (k : Int) ∧ k < N := by
  have h1 := Int.tmod_lt_of_pos y (b := (N : Int)) (by omega)
  have h2 : 0 ≤ y.tmod N := Int.tmod_nonneg _ h0
  exact ⟨(y.tmod N).toNat, by omega, by omega⟩
set_option maxRecDepth 100000 in
set_option maxHeartbeats 32000000 in
theorem walk (a0 : Int) (w0 : (Lit.int .i64 a0).wf = true) (a1 : Int) (w1 : (Lit.int .i64 a1).wf = true) (v2 : Value) (ls2 : Nat) (w : World) (f2 : Hd.Ints w v2 ls2) (l2 : ls2 ≤ maxLen) :
    Calls Try.prog 6 #[.int .i64 a0, .int .i64 a1, v2] w fun e w' => e = .returned (.bool true) ∧ Below w.heap.size w w' := by
  clear w0 w1
  unfold maxLen at l2
  obtain ⟨c, hm, hm2⟩ := mask_nat a0 3 (by omega)
  obtain ⟨n, hq, hq2⟩ := mask_nat a1 31 (by omega)
  have hm' : bits BinOp.and IntKind.i64 a0 3 = (c : Int) := hm
  have hq' : bits BinOp.and IntKind.i64 a1 31 = (n : Int) := hq
  clear hm hq
  have c4 : c < 4 := by omega
  have q4 : (c : Int) < 4 := by omega
  obtain ⟨va, vc, rfl⟩ := f2.shape
  have HV2 := Lib.hid f2
  clear f2
  have hS4 := sizeC_le c4
  have hSI : sizesI (c : Int) = (sizeC c : Int) := by unfold sizesI; rw [if_pos (by omega), Int.toNat_natCast]
  have HSz := Lib.hid (show ∀ V : World, Calls Try.prog 10 #[.int .i64 (c : Int)] V fun e w' => e = .returned (.int .i64 (sizeC c : Int)) ∧ Below V.heap.size V w' from fun V => by rw [← hSI]; exact sizesP_any (c : Int) V)
  clear hSI
  obtain ⟨N, hN⟩ : ∃ N, N = n + 1 := ⟨_, rfl⟩
  have HwN := Lib.hid (show (1 : Int) + (n : Int) = (N : Int) by omega)
  have N0 : 0 < N := by omega
  have N33 : N ≤ 32 := by omega
  clear hN
  obtain ⟨bl, hbl⟩ : ∃ bl : Nat → Int, bl = fun k => if k = c then (N : Int) else 0 := ⟨_, rfl⟩
  have hblc : (fun k => (bl k).toNat) c = N := by rw [hbl]; show (if c = c then (N : Int) else 0).toNat = N; rw [if_pos rfl, Int.toNat_natCast]
  obtain ⟨W1, hW1⟩ : ∃ W1, W1 = w.alloc (.cells (([.int .i64 0, .int .i64 0, .int .i64 0, .int .i64 0] : List Value).set c (.int .i64 (N : Int))).toArray 22) := ⟨_, rfl⟩
  have hB1 : Below w.heap.size w W1 := by rw [hW1]; exact (Below.refl _ _).alloc (Nat.le_refl _) _
  have hbx : ∀ k, k < 4 → W1.cell? ⟨w.heap.size, k, none⟩ = some (.int .i64 (bl k)) := by
    intro k hk
    rw [hW1, Lib.cell_of_heap (new_block w _), hbl]
    rcases (by omega : c = 0 ∨ c = 1 ∨ c = 2 ∨ c = 3) with rfl | rfl | rfl | rfl <;> rcases (by omega : k = 0 ∨ k = 1 ∨ k = 2 ∨ k = 3) with rfl | rfl | rfl | rfl <;> rfl
  have b0 := hbx 0 (by decide)
  have b1 := hbx 1 (by decide)
  have b2 := hbx 2 (by decide)
  have b3 := hbx 3 (by decide)
  have hpos : ∀ k, k < 4 → 0 ≤ bl k ∧ bl k ≤ 4096 := fun k hk => by rw [hbl]; show 0 ≤ (if k = c then (N : Int) else 0) ∧ (if k = c then (N : Int) else 0) ≤ 4096; split <;> omega
  have z0 : (w.alloc (.cells #[.int .i64 0, .int .i64 0, .int .i64 0, .int .i64 0] 22)).cell? ⟨w.heap.size, c, none⟩ = some (.int .i64 0) := by
    rw [Lib.cell_of_heap (new_block w _)]
    rcases (by omega : c = 0 ∨ c = 1 ∨ c = 2 ∨ c = 3) with rfl | rfl | rfl | rfl <;> rfl
  have z1 := free (new_block w (.cells #[.int .i64 0, .int .i64 0, .int .i64 0, .int .i64 0] 22)) c
  have HW1 := Lib.hid hW1
  have HPos := Lib.hid hpos
  have HBc := Lib.hid hblc
  clear hbx hbl hW1 hpos hblc
  go_enter Try.func6, Try.ntmps6
  go_upto_region 5 with fail
  rw [HwN.out, ← HW1.out]
  clear z0 z1
  go_wp2_with fail
  refine (pnew_any bl W1).mono ?_
  rintro e w1 ⟨hb1, h2⟩
  rcases h2 with ⟨⟨k, hk4, hk⟩, _⟩ | ⟨_, ⟨k, hk4, hk⟩, _⟩ | ⟨_, p, rfl, hr⟩
  · exact absurd hk (by have := (HPos.out k hk4).1; omega)
  · exact absurd hk (by have := (HPos.out k hk4).2; omega)
  obtain ⟨ns, hns⟩ : ∃ ns : Nat → Nat, ns = fun k => (bl k).toNat := ⟨_, rfl⟩
  have hnsc : ns c = N := by rw [hns]; exact HBc.out
  rw [← hns] at hr
  have HL0 := Lib.hid (show Lw w p ns (upd (newA ns) c (filledL N 0 c)) 0 (.slice none 0 0) (firstH c 0) w1 from ⟨by
    rw [← new_filled ns c N hnsc]
    exact hr.low hB1.size, OwnH.nil _ _, Bl.next hB1 hb1⟩)
  clear hr hns hnsc hb1 hB1 b0 b1 b2 b3 HBc HPos HW1
  generalize newA ns = A at *
  have HAl := Lib.hid (fun (i : Nat) (hi : i < N) => alloc_filled (A := A) (c := c) c4 hi)
  go_wp2_with fail
  go_loopw [10, 11] (fun v j wr => ∃ i : Nat, i ≤ N ∧ j = .int .i64 (i : Int) ∧ Lw w p ns (upd A c (filledL N i c)) i v (firstH c i) wr) (fun _ j _ => N - (intOf j).toNat)
  case atStart => exact ⟨0, Nat.zero_le _, rfl, HL0.out⟩
  case round =>
    obtain ⟨i, hi, rfl, hL⟩ := hrel
    obtain ⟨la, lc, hv⟩ := hL.own.form
    rw [firstH_len] at hv
    subst hv
    have HL := Lib.hid hL
    clear hL HL0
    by_cases hlt : i < N
    · go_wp2_with fail
      refine (HSz.out _).mono ?_
      rintro e w2 ⟨rfl, hb2⟩
      have HL2 := Lib.hid (HL.out.next hb2)
      clear hb2 HL
      go_wp2_with fail
      have HA := Lib.hid (palloc_any (sizeC c : Int) w2 HL2.out.rel (by omega))
      rw [HAl.out i hlt] at HA
      refine HA.out.mono ?_
      rintro e w3 ⟨rfl, hr3, ht3⟩
      have HL3 := Lib.hid (HL2.out.call hr3 ht3)
      have hB4 := (Below.refl w3.heap.size w3).alloc (Nat.le_refl _) (.cells #[.int .i64 (c : Int), .int .i64 (i : Int), .int .i64 1] 34)
      have HL4 := Lib.hid (HL3.out.next hB4)
      have hB5 := (Below.refl (w3.alloc (.cells #[.int .i64 (c : Int), .int .i64 (i : Int), .int .i64 1] 34)).heap.size (w3.alloc (.cells #[.int .i64 (c : Int), .int .i64 (i : Int), .int .i64 1] 34))).alloc (Nat.le_refl _) (.cells #[.int .i64 (c : Int), .int .i64 (i : Int), .int .i64 1] 34)
      have HL5 := Lib.hid (HL4.out.next hB5)
      have HN5 := Lib.hid (new_block' (g := w3.heap.size + 1) (w3.alloc (.cells #[.int .i64 (c : Int), .int .i64 (i : Int), .int .i64 1] 34)) (.cells #[.int .i64 (c : Int), .int .i64 (i : Int), .int .i64 1] 34) (by simp))
      clear hr3 ht3 hB4 hB5 HA HL2 HL3
      go_wp2_with (at_builtin; refine wpList_append_hd _ rfl _ _ rfl w.heap.size _ (firstH c i) ((c : Int), (i : Int), (1 : Int)) _ _ rfl (by rfl) HL5.out.own HN5.out (by rw [firstH_len]; omega) HL5.out.bel.size ?_; intro v' w7 ho hg; have HL7 := Lib.hid (HL5.out.app ho hg); clear ho hg)
      go_roundw
      case rel => exact ⟨i + 1, by omega, by go_num, by rw [firstH_succ]; exact HL7.out⟩
      case measure => simp [intOf]; omega
    · obtain rfl : i = N := by omega
      have HLg := Lib.hid (show Lw w p ns (upd A c (gensL (List.replicate i 1) c)) i (.slice la i lc) (firstH c i) wr from by have h := HL.out; rw [full_gens] at h; exact h)
      clear HL HAl
      go_wp2_with fail
      refine (HSz.out _).mono ?_
      rintro e w2 ⟨rfl, hb2⟩
      have HL2 := Lib.hid (HLg.out.next hb2)
      clear hb2 HLg
      go_wp2_with fail
      have HA := Lib.hid (palloc_any (sizeC c : Int) w2 HL2.out.rel (by omega))
      rw [alloc_gens c4] at HA
      refine HA.out.mono ?_
      rintro e w3 ⟨rfl, hr3, ht3⟩
      have HL3 := Lib.hid (HL2.out.call hr3 ht3)
      have hB4 := (Below.refl w3.heap.size w3).alloc (Nat.le_refl _) (.cells #[.int .i64 0, .int .i64 0, .int .i64 0] 34)
      have HL4 := Lib.hid (HL3.out.next hB4)
      clear hr3 ht3 hB4 HA HL2 HL3
      have HLv := Lib.hid (fun (gs : List Nat) (G : Nat) V (h : PRel V w.heap.size p ns (upd A c (gensL gs c)) G) => by
        have h2 := plive_any (c : Int) V h
        rw [live_gens c4] at h2
        exact h2)
      go_wp2_with fail
      refine (HLv.out _ _ _ HL4.out.rel).mono ?_
      rintro e w5 ⟨rfl, hb5⟩
      have HL5 := Lib.hid (HL4.out.next hb5)
      clear hb5 HL4
      rw [List.length_replicate]
      go_wp2_with fail
      go_loopw [16] (fun j wr => ∃ (t : Nat) (gs : List Nat) (l : List Hd), t ≤ 50 ∧ j = .int .i64 (t : Int) ∧ gs.length = i ∧ (∀ g ∈ gs, g ≤ t + 1) ∧ Hs c gs l ∧ Lw w p ns (upd A c (gensL gs c)) (i + 1 + t) (.slice la i lc) l wr) (fun j _ => 50 - (intOf j).toNat)
      case atStart => exact ⟨0, List.replicate i 1, firstH c i, Nat.zero_le _, rfl, by simp, fun g hg => by rw [List.mem_replicate] at hg; omega, firstH_hs c i, HL5.out⟩
      case round =>
        obtain ⟨t, gs, l, ht, rfl, hgl, hgb, hH, hL⟩ := hrel
        have HL := Lib.hid hL
        have HH := Lib.hid hH
        clear hL hH HL5
        by_cases hin : t < ls2
        · by_cases h50 : t < 50
          · obtain ⟨ob, oo, rfl, z, hz⟩ : ∃ b off, va = some ⟨b, off, none⟩ ∧ ∃ z : Int, wr.cell? ⟨b, off + t, none⟩ = some (.int .i64 z) := by
              rcases HV2.out with ⟨h, _⟩ | ⟨b, off, cap, h1, h3, h4⟩
              · omega
              · injection h1 with e1 e2 e3
                obtain ⟨z, hz⟩ := h4 t hin
                exact ⟨b, off, e1, z, (HL.out.bel.cell (p := ⟨b, off + t, none⟩) h3).trans hz⟩
            obtain ⟨y, hy⟩ : ∃ y, z.tmod (i : Int) = y := ⟨_, rfl⟩
            have hyb := tmod_in z i N0
            rw [hy] at hyb
            obtain ⟨k, hk, hki⟩ := tmod_nat (y + i) i N0 (by omega)
            have hwy : IntKind.i64.wrap (y + (i : Int)) = y + (i : Int) := IntWalk.i64_in _ (by omega)
            have hi0 : ¬ ((i : Int) = 0) := by omega
            obtain ⟨g, hg⟩ : ∃ g, gs[k]? = some g := ⟨_, List.getElem?_eq_getElem (by omega)⟩
            have hgt := hgb g (List.mem_of_getElem? hg)
            have hlk := HH.out.2 k g hg
            have hll : l.length = i := by rw [HH.out.1]; exact hgl
            have hkl : k < l.length := by omega
            have HE := Lib.hid (HL.out.own.entry hkl)
            obtain ⟨hkl2, hlk2⟩ := List.getElem?_eq_some_iff.1 hlk
            obtain ⟨lg, lcap, hv', hlg, hlb, d0, d1, d2, hfr⟩ := HE.out
            rw [hll] at hv'
            injection hv' with e1 e2 e3
            subst e1 e3
            rw [hlk2] at d0 d1 d2
            replace d0 : wr.cell? ⟨lg, k * 3, none⟩ = some (.int .i64 (c : Int)) := d0
            replace d1 : wr.cell? ⟨lg, k * 3 + 1, none⟩ = some (.int .i64 (k : Int)) := d1
            replace d2 : wr.cell? ⟨lg, k * 3 + 2, none⟩ = some (.int .i64 (g : Int)) := d2
            have hki2 : (k : Int) < (i : Int) := by omega
            have HG := Lib.hid hg
            clear e2 hfr HE hlk hlk2 hkl2 hg hyb
            go_wp2_with fail
            have HD := Lib.hid (pdrop_any (c : Int) (k : Int) (g : Int) wr HL.out.rel)
            rw [drop_gens c4 HG.out] at HD
            refine HD.out.mono ?_
            rintro e w2 ⟨rfl, hr2, ht2⟩
            have HL2 := Lib.hid (HL.out.call hr2 ht2)
            clear hr2 ht2 HD HL d0 d1 d2 hz
            go_wp2_with fail
            refine (HSz.out _).mono ?_
            rintro e w3 ⟨rfl, hb3⟩
            have HL3 := Lib.hid (HL2.out.next hb3)
            clear hb3 HL2
            go_wp2_with fail
            have HA := Lib.hid (palloc_any (sizeC c : Int) w3 HL3.out.rel (by omega))
            rw [alloc_dropped c4 HG.out] at HA
            refine HA.out.mono ?_
            rintro e w4 ⟨rfl, hr4, ht4⟩
            have HL4 := Lib.hid (HL3.out.call hr4 ht4)
            clear hr4 ht4 HA HL3
            obtain ⟨w5, hw5⟩ : ∃ w5, w5 = w4.alloc (.cells #[.int .i64 (c : Int), .int .i64 (k : Int), .int .i64 ((g : Int) + 1)] 34) := ⟨_, rfl⟩
            have hB5 : Below w4.heap.size w4 w5 := by rw [hw5]; exact (Below.refl w4.heap.size w4).alloc (Nat.le_refl _) _
            have HL5 := Lib.hid (HL4.out.next hB5)
            have HX5 := Lib.hid (show Bx w4.heap.size ((c : Int), (k : Int), (g : Int) + 1) w5 from by rw [hw5]; exact new_block w4 _)
            have HW5 := Lib.hid hw5
            have hap := HL4.out.apart (b := w4.heap.size) (Nat.le_refl _)
            have hne : lg ≠ w4.heap.size := fun e => hap (by rw [e]; rfl)
            clear hw5 hB5 HL4 hap
            obtain ⟨gx, hgx⟩ : ∃ gx, gx = w4.heap.size := ⟨_, rfl⟩
            rw [← hgx] at HX5 hne
            have HGx := Lib.hid hgx
            clear hgx
            have HF := Lib.hid (show ∀ V, Below w5.heap.size w5 V → (V.cell? ⟨gx, 0, none⟩ = some (.int .i64 (c : Int)) ∧ V.cell? ⟨gx, 1, none⟩ = some (.int .i64 (k : Int)) ∧ V.cell? ⟨gx, 2, none⟩ = some (.int .i64 ((g : Int) + 1))) ∧ V.cell? ⟨lg, k * 3, none⟩ = some (.int .i64 (c : Int)) ∧ V.cell? ⟨lg, k * 3 + 1, none⟩ = some (.int .i64 (k : Int)) ∧ V.cell? ⟨lg, k * 3 + 2, none⟩ = some (.int .i64 (g : Int)) ∧ (∀ j, V.frozen? ⟨lg, j, none⟩ = false) from fun V hV => by
              refine ⟨(HX5.out.next hV).cells, ?_⟩
              obtain ⟨lg', lcap', hv', _, _, d0, d1, d2, hfr⟩ := (HL5.out.next hV).own.entry hkl
              rw [hll] at hv'
              injection hv' with e1 e2 e3
              injection e1 with e1
              injection e1 with e1
              subst e1
              obtain ⟨hkl2, hlk2⟩ := List.getElem?_eq_some_iff.1 (HH.out.2 k g HG.out)
              rw [hlk2] at d0 d1 d2
              exact ⟨d0, d1, d2, hfr⟩)
            have HLv2 := Lib.hid (fun V (h : Below w5.heap.size w5 V) => HLv.out _ _ V (HL5.out.next h).rel)
            have hgi : IntKind.i64.wrap ((g : Int) + 1) = (g : Int) + 1 := IntWalk.i64_in _ (by omega)
            have hgl2 : (gs.set k (g + 1)).length = i := by rw [List.length_set]; exact hgl
            rw [hgl2] at HLv2
            clear HSz
            go_upto_region 26 with fail
            rw [← HW5.out, ← HGx.out]
            refine Rg.val_region (n := 145) (J := fun V => Below w5.heap.size w5 V) [(115, .int .i64 0), (116, .bool false), (117, .bool false), (118, .pointer (some ⟨gx, 1, none⟩)), (119, .int .i64 ((k : Int))), (120, .int .i64 ((k : Int))), (121, .bool false), (122, .bool false), (123, .bool false), (124, .pointer (some ⟨gx, 2, none⟩)), (125, .int .i64 ((g : Int) + 1)), (126, .slice (some ⟨lg, 0, none⟩) i lc), (127, .int .i64 ((k : Int))), (128, .pointer (some ⟨lg, k * 3, none⟩)), (129, .pointer (some ⟨lg, k * 3 + 2, none⟩)), (130, .int .i64 ((g : Int))), (131, .int .i64 ((g : Int) + 1)), (132, .bool false), (133, .bool false), (134, .bool false), (135, .pointer (some ⟨p, 0, none⟩)), (136, .int .i64 ((c : Int))), (137, .int .i64 ((i : Int))), (138, .int .i64 ((i : Int))), (139, .bool false), (140, .bool false)] (by kernel_rfl) (by kernel_rfl) (by kernel_rfl) (by kernel_rfl) (Bl.drewN (Below.refl _ _) 1) (fun F hF => ?_)
            simp only [Rg.fill, List.setIfInBounds_toArray, List.set_cons_zero, List.set_cons_succ] at hF
            subst hF
            refine ⟨?_, fun V hJ => ?_⟩
            · show ∀ i, i < 26 → _
              repeat' refine Rg.below_succ ?_ ?_
              all_goals first
                | exact Rg.below_zero
                | (refine Rg.StepOK.of rfl ?_
                   first
                   | (left; exact ⟨by kernel_rfl, fun d hd => by injection hd with hd; subst hd; rfl⟩)
                   | (right
                      refine ⟨by kernel_rfl, fun V hJ K hK => ?_⟩
                      obtain ⟨⟨c0, c1, c2⟩, d0, d1, d2, _⟩ := HF.out V hJ
                      have HJ := Lib.hid hJ
                      clear hJ
                      go_simp
                      first
                        | exact hK _ HJ.out
                        | (refine (HLv2.out _ HJ.out).mono ?_; rintro e w9 ⟨rfl, hb⟩; exact hK _ (Bl.next HJ.out hb))))
            · obtain ⟨⟨c0, c1, c2⟩, d0, d1, d2, hfr⟩ := HF.out V hJ
              have f0 := hfr (k * 3)
              have f1 := hfr (k * 3 + 1)
              have f2 := hfr (k * 3 + 2)
              have HL6 := Lib.hid (HL5.out.next hJ)
              have HL7 := Lib.hid (show Lw w p ns (upd A c (gensL (gs.set k (g + 1)) c)) (i + 1 + t + 1) (.slice (some ⟨lg, 0, none⟩) i lc) (l.set k ((c : Int), (k : Int), (g : Int) + 1)) _ from by
                have h := HL6.out
                have h2 := hll
                subst h2
                exact lw_put (h := ((c : Int), (k : Int), (g : Int) + 1)) h hkl)
              have HH2 := Lib.hid (show Hs c (gs.set k (g + 1)) (l.set k ((c : Int), (k : Int), (g : Int) + 1)) from HH.out.put (by omega))
              have hgb2 : ∀ x ∈ gs.set k (g + 1), x ≤ t + 1 + 1 := fun x hx => by
                rcases List.mem_or_eq_of_mem_set hx with hx | rfl
                · have := hgb x hx; omega
                · omega
              have HGB := Lib.hid hgb2
              clear hJ hfr HF HLv2 HLv HL6 HL5 HX5 HW5 hgb hgb2
              go_wp2_with fail
              go_roundw
              case rel => exact ⟨t + 1, _, _, by omega, by go_num, hgl2, HGB.out, HH2.out, HL7.out⟩
              case measure => simp [intOf]; omega
          · have h50i : ¬ (t : Int) < 50 := by omega
            go_wp2_with fail
            go_ret
            exact ⟨rfl, HL.out.bel⟩
        · have hin2 : ¬ (t : Int) < (ls2 : Int) := by omega
          go_wp2_with fail
          go_ret
          exact ⟨rfl, HL.out.bel⟩

set_option maxRecDepth 100000 in
theorem lifted (os : Os) (started : os.Started) (H : Type) (enc : TypeId × Value → H) :
    ReturnsInHanded {} Try.checked os 6 .any (Rows.slabFillsSpec.pre6 enc Try.prog Try.f6 Rows.slabFillsRow.domain false) (Rows.slabFillsSpec.post enc Try.prog Try.f6 false true false false) := by
  refine returnsInHanded_of_change_sized (C := Try.checked) own started (by kernel_rfl) Try.func6
    (ChangeSpec.witness6 (enc := enc) (C := Try.checked) false ⟨#[], #[.int .i64 0, .int .i64 0, .slice none 0 0], []⟩ 8 (by kernel_rfl) (by kernel_rfl) (by kernel_rfl) (by kernel_rfl)) ?_
  intro W base args ds gs before hval0 hW hcnd hsz _
  have hval : ∀ (j : Nat) t v, Try.f6.params[j]? = some t → args[j]? = some v → Value.okWide Try.prog W .any base t v := hval0
  have hW' := hW
  obtain ⟨p, q, hA0, hV, rfl, hfz, hnd⟩ := hW
  have hA : DataW.TrodAll enc Try.prog W 0 (fun _ => true) true Try.f6.params.toList args.toList ds p := hA0
  rw [Try.params6] at hA hval hsz
  obtain ⟨v0, vs0, d0, ds0, p0, q0, hargs, rfl, rfl, h0, r0⟩ := trodAll_cons hA
  obtain ⟨v1, vs1, d1, ds1, p1, q1, rfl, rfl, rfl, h1, r1⟩ := trodAll_cons r0
  obtain ⟨v2, vs2, d2, ds2, p2, q2, rfl, rfl, rfl, h2, r2⟩ := trodAll_cons r1
  obtain ⟨rfl, rfl, rfl⟩ := trodAll_nil r2
  obtain rfl : args = #[v0, v1, v2] := by cases args; simp_all
  obtain ⟨rfl, rfl⟩ := trodVars_none hV
  obtain ⟨a0, rfl, rfl, rfl, w0⟩ := open_int Try.underlying3 (hval 0 3 v0 rfl rfl) h0
  obtain ⟨a1, rfl, rfl, rfl, w1⟩ := open_int Try.underlying3 (hval 1 3 v1 rfl rfl) h1
  have k2 := h2
  have lt2 : ∀ x ∈ p2, x.block < W.heap.size := by obtain ⟨m, hm⟩ := k2; exact DataW.trod_lt m _ _ _ hm
  obtain ⟨ls2, f2, l2⟩ := Hd.open_nums (hval 2 48 v2 rfl rfl) h2
  clear hA0 hval0
  simp only [List.append_nil] at hW'
  refine (walk a0 w0 a1 w1 v2 ls2 W f2 l2).mono fun e W' ⟨he, bel⟩ => ?_
  subst he
  exact ⟨_, rfl, _, _, _, [], _, [], hW', trodAll_mk1 (shut_bool Try.underlying4 _), (trodAll_cons_mk (shut_int Try.underlying3 w0) (trodAll_cons_mk (shut_int Try.underlying3 w1) (trodAll_cons_mk (Below.trod laidOut (by kernel_rfl) (of_decide_eq_true (by kernel_rfl)) k2 bel lt2) trodAll_mk0))), rfl, bel.frame _, fun h => by cases h⟩

theorem over : Rows.slabFillsRow.holds Try.pinned (OpenSpec.ofChange Rows.slabFillsSpec) :=
  OpenClaim.holds_of_wide 6 Try.f6 rfl rfl rfl rfl rfl rfl rfl ⟨rfl, rfl, rfl, rfl, rfl⟩ rfl rfl rfl rfl rfl (by kernel_rfl) Try.func6 (by kernel_rfl)
    (of_decide_eq_true (by kernel_rfl)) (by unfold Func.isWrapper; first | (rw [if_pos (by decide +kernel)]; kernel_rfl) | (rw [if_neg (by decide +kernel)]; exact ⟨rfl, rfl⟩))
    (fun os started H enc _ => lifted os started H enc)

theorem proved : Rows.SlabFillsSaid := over
end Go.Proofs.Ytheljldoboiekaa.slabFills
