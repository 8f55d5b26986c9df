/-
  SlabPlays: SlabPlays: for any four ints and any acts the law's call returns true.
  Conditions: none.
-/
import Derived.Test.YtheljldoboiekaaRows
import Derived.Test.YtheljldoboiekaaSlPlK
import Derived.Test.YtheljldoboiekaaRgVal
import Derived.Deep.DeepCutAuto
import Derived.Deep.RegionHeld3
import Derived.WalkKit
import Derived.WalkLawsBesides
import Derived.ProofKit
import Derived.OpenShut
import Derived.ShutString
import Derived.SizedLaws
import Derived.Carry
import Derived.Below
import Derived.Outline
import Derived.Lib.Hide
namespace Go.Proofs.Ytheljldoboiekaa.slabPlays
open Go.ChangeShapes Go.WideShapes Go.ChangeAt Go.RowKit
open Go.ChangeMaps (open_string shut_string)
set_option linter.unusedVariables false

theorem own : ownKnob Try.prog.godebug = none := by kernel_rfl
theorem laidOut : laidOutB Try.prog = true := by kernel_rfl

open Go.Proofs.Ytheljldoboiekaa.Fd Go.Proofs.Ytheljldoboiekaa.Sl
structure Pq (w : World) (px py : Nat) (n : Nat → Nat) (A : Ar) (G : Nat) (v : Value) (l : List Hd) (W : World) : Prop where
  x : PRel W w.heap.size px n A G
  y : RRel W w.heap.size py n A G
  own : OwnH W w.heap.size v l
  bel : Below w.heap.size w W
theorem Pq.next {w : World} {px py : Nat} {n : Nat → Nat} {A : Ar} {G : Nat} {v : Value} {l : List Hd} {W V : World} (s : Pq w px py n A G v l W) (hb : Below W.heap.size W V) : Pq w px py n A G v l V :=
  ⟨s.x.same hb, s.y.same hb, s.own.kept hb, Bl.next s.bel hb⟩
theorem bytes_l {w W : World} {v : Value} {l : Tk.Bs} (h : BytesL w w.heap.size v l) (hb : Below w.heap.size w W) : BytesL W w.heap.size v l := by
  rcases h with h | ⟨g, off, cap, h1, h2, h3⟩
  · exact .inl h
  · exact .inr ⟨g, off, cap, h1, h2, fun j hj => (hb.cell (p := ⟨g, off + j, none⟩) h2).trans (h3 j hj)⟩
theorem bytes_in {w : World} {v : Value} {l : Tk.Bs} (h : Hd.Byts w v l) : BytesL w w.heap.size v l := by
  rcases h with h | ⟨g, off, cap, h1, _, _, h2, h3⟩
  · exact .inl h
  · exact .inr ⟨g, off, cap, h1, h2, h3⟩
theorem bytes_cut {w : World} {v : Value} {l : Tk.Bs} (h : Hd.Byts w v l) (hl : 5000 < l.length) : ∃ g off cap, v = .slice (some ⟨g, off, none⟩) l.length cap ∧ l.length ≤ cap ∧ BytesL w w.heap.size (.slice (some ⟨g, off, none⟩) (l.take 5000).length cap) (l.take 5000) := by
  rcases h with ⟨rfl, _⟩ | ⟨g, off, cap, h1, hc, _, h2, h3⟩
  · simp at hl
  · refine ⟨g, off, cap, h1, hc, .inr ⟨g, off, cap, rfl, h2, fun j hj => ?_⟩⟩
    rw [List.length_take] at hj
    rw [h3 j (by omega)]
    simp
theorem tmod_in (z : Int) (N : Nat) (hN : 0 < N) : -(N : Int) < z.tmod N ∧ z.tmod N < (N : Int) := by
  have h1 := Int.tmod_lt_of_pos z (b := (N : Int)) (by omega)
  have h2 := Int.tmod_lt_of_pos (-z) (b := (N : Int)) (by omega)
  rw [Int.neg_tmod] at h2
  exact ⟨by omega, h1⟩
theorem tmod_nat (y : Int) (N : Nat) (hN : 0 < N) (h0 : 0 ≤ y) : ∃ k : Nat, y.tmod N = (k : Int) ∧ k < N := by
  have h1 := Int.tmod_lt_of_pos y (b := (N : Int)) (by omega)
  have h2 : 0 ≤ y.tmod N := Int.tmod_nonneg _ h0
  exact ⟨(y.tmod N).toNat, by omega, by omega⟩
set_option maxRecDepth 100000 in
set_option maxHeartbeats 64000000 in
theorem walk (bl : Nat → Int) (v1 : Value) (ls1 : List ActD) (w : World) (f1 : Acts w v1 ls1) (l1 : ls1.length ≤ maxLen) :
    Calls Try.prog 3 #[.agg #[.int .i64 (bl 0), .int .i64 (bl 1), .int .i64 (bl 2), .int .i64 (bl 3)], v1] w fun e w' => e = .returned (.bool true) ∧ Below w.heap.size w w' := by
  unfold maxLen at l1
  obtain ⟨va, vc, rfl⟩ : ∃ a c, v1 = .slice a ls1.length c := by
    rcases f1 with ⟨rfl, a, cap, hv⟩ | ⟨b, off, cap, hv, _⟩
    · exact ⟨a, cap, hv⟩
    · exact ⟨_, cap, hv⟩
  have HAc := Lib.hid f1
  clear f1
  obtain ⟨LN, hLN⟩ : ∃ N, N = ls1.length := ⟨_, rfl⟩
  have HLN := Lib.hid hLN
  rw [← hLN] at l1 ⊢
  clear hLN
  obtain ⟨w1, hw1⟩ : ∃ w1, w1 = w.alloc (.cells #[.int .i64 (bl 0), .int .i64 (bl 1), .int .i64 (bl 2), .int .i64 (bl 3)] 22) := ⟨_, rfl⟩
  have hB1 : Below w.heap.size w w1 := by rw [hw1]; exact (Below.refl _ _).alloc (Nat.le_refl _) _
  have hbox : w1.heap[w.heap.size]? = some (.cells #[.int .i64 (bl 0), .int .i64 (bl 1), .int .i64 (bl 2), .int .i64 (bl 3)] 22 (0, 0)) := by rw [hw1]; exact new_block _ _
  have HBx := Lib.hid (show ∀ V, Below w1.heap.size w1 V → ∀ k, k < 4 → V.cell? ⟨w.heap.size, k, none⟩ = some (.int .i64 (bl k)) from fun V hV k hk => by
    rw [Lib.cell_of_heap (Bl.old hV (block_lt hbox) hbox)]
    rcases (by omega : k = 0 ∨ k = 1 ∨ k = 2 ∨ k = 3) with rfl | rfl | rfl | rfl <;> rfl)
  have HB1 := Lib.hid hB1
  have HW1 := Lib.hid hw1
  have b0 := HBx.out w1 (Below.refl _ _) 0 (by decide)
  have b1 := HBx.out w1 (Below.refl _ _) 1 (by decide)
  have b2 := HBx.out w1 (Below.refl _ _) 2 (by decide)
  have b3 := HBx.out w1 (Below.refl _ _) 3 (by decide)
  clear hB1 hw1 hbox
  go_enter Try.func3, Try.ntmps3
  go_upto_region 1 with fail
  rw [← HW1.out]
  go_wp2_with fail
  refine (pnew_any bl w1).mono ?_
  rintro e w2 ⟨hb2, h2⟩
  have c0 := HBx.out w2 hb2 0 (by decide)
  have c1 := HBx.out w2 hb2 1 (by decide)
  have c2 := HBx.out w2 hb2 2 (by decide)
  have c3 := HBx.out w2 hb2 3 (by decide)
  have HB2 := Lib.hid hb2
  clear b0 b1 b2 b3 hb2 HBx
  have HR := Lib.hid (rnew_any bl w2)
  rcases h2 with ⟨hk2, rfl⟩ | ⟨hp2, hk2, rfl⟩ | ⟨hp2, px, rfl, hx⟩
  · go_wp2_with fail
    refine HR.out.mono ?_
    rintro e w3 ⟨hb3, h3⟩
    have HB3 := Lib.hid (Bl.next (Bl.next HB1.out HB2.out) hb3)
    rcases h3 with ⟨_, rfl⟩ | ⟨hp3, _⟩ | ⟨hp3, _⟩
    · clear hb3 hk2
      go_wp2_with fail
      refine (sizesP_any 3 w3).mono ?_
      rintro e w4 ⟨rfl, hb4⟩
      rw [show sizesI 3 = 4096 from rfl]
      have HB4 := Lib.hid (Bl.next HB3.out hb4)
      clear hb4
      go_wp2_with fail
      go_ret
      exact ⟨rfl, HB4.out⟩
    · obtain ⟨k, hk, hneg⟩ := hk2
      exact absurd (hp3 k hk) (by omega)
    · obtain ⟨k, hk, hneg⟩ := hk2
      exact absurd (hp3 k hk).1 (by omega)
  · go_wp2_with fail
    refine HR.out.mono ?_
    rintro e w3 ⟨hb3, h3⟩
    have HB3 := Lib.hid (Bl.next (Bl.next HB1.out HB2.out) hb3)
    rcases h3 with ⟨hk3, _⟩ | ⟨_, _, rfl⟩ | ⟨hp3, _⟩
    · obtain ⟨k, hk, hneg⟩ := hk3
      exact absurd (hp2 k hk) (by omega)
    · clear hb3 hk2 hp2
      go_wp2_with fail
      refine (sizesP_any 3 w3).mono ?_
      rintro e w4 ⟨rfl, hb4⟩
      rw [show sizesI 3 = 4096 from rfl]
      have HB4 := Lib.hid (Bl.next HB3.out hb4)
      clear hb4
      go_wp2_with fail
      go_ret
      exact ⟨rfl, HB4.out⟩
    · obtain ⟨k, hk, hneg⟩ := hk2
      exact absurd (hp3 k hk).2 (by omega)
  have HX := Lib.hid hx
  have HPs := Lib.hid hp2
  clear hx hp2
  go_wp2_with fail
  refine HR.out.mono ?_
  rintro e w3 ⟨hb3, h3⟩
  have HB3 := Lib.hid hb3
  clear hb3
  rcases h3 with ⟨hk3, _⟩ | ⟨_, hk3, _⟩ | ⟨_, py, rfl, hy⟩
  · obtain ⟨k, hk, hneg⟩ := hk3
    exact absurd (HPs.out k hk).1 (by omega)
  · obtain ⟨k, hk, hneg⟩ := hk3
    exact absurd (HPs.out k hk).2 (by omega)
  have HY := Lib.hid hy
  clear hy HR c0 c1 c2 c3
  go_wp2_with fail
  refine (sizesP_any 3 w3).mono ?_
  rintro e w4 ⟨rfl, hb4⟩
  rw [show sizesI 3 = 4096 from rfl]
  obtain ⟨ns, hns⟩ : ∃ ns : Nat → Nat, ns = fun k => (bl k).toNat := ⟨_, rfl⟩
  have HNs := Lib.hid (show ∀ c, c < 4 → ns c ≤ 4096 from fun c hc => by have := HPs.out c hc; rw [hns]; show (bl c).toNat ≤ 4096; omega)
  have HQ0 := Lib.hid (show Pq w px py ns (newA ns) 0 (.slice none 0 0) [] w4 from by
    have h1 := HX.out
    have h2 := HY.out
    rw [← hns] at h1 h2
    exact ⟨((h1.same HB3.out).same hb4).low HB1.out.size, (h2.same hb4).low (Nat.le_trans HB1.out.size HB2.out.size), OwnH.nil _ _, Bl.next (Bl.next (Bl.next HB1.out HB2.out) HB3.out) hb4⟩)
  clear hb4 hns HX HY HPs HB1 HB2 HB3 HW1
  go_wp2_with fail
  go_loopw [9, 10] (fun v j wr => ∃ (t : Nat) (A : Ar) (l : List Hd), t ≤ 150 ∧ j = .int .i64 (t : Int) ∧ l.length ≤ t ∧ Pq w px py ns A t v l wr) (fun _ j _ => 150 - (intOf j).toNat)
  case atStart => exact ⟨0, _, [], Nat.zero_le _, rfl, Nat.le_refl _, HQ0.out⟩
  case round =>
    obtain ⟨t, A, l, ht, rfl, hlt, hQ⟩ := hrel
    obtain ⟨la, lc, hv⟩ := hQ.own.form
    subst hv
    have HQ := Lib.hid hQ
    clear hQ HQ0
    by_cases hin : t < LN
    · by_cases h150 : t < 150
      · obtain ⟨ab, ao, rfl, hbl0, hcs, hgood⟩ : ∃ b off, va = some ⟨b, off, none⟩ ∧ b < w.heap.size ∧ (∀ s, s < 9 → wr.cell? ⟨b, off + t * 9 + s, none⟩ = (actC (ls1[t]'(by rw [← HLN.out]; exact hin)))[s]?) ∧ GoodAct w (ls1[t]'(by rw [← HLN.out]; exact hin)) := by
          have hin3 : t < ls1.length := by rw [← HLN.out]; exact hin
          rcases HAc.out with ⟨h, _⟩ | ⟨b, off, cap, h1, h3, h4⟩
          · rw [h] at hin3; simp at hin3
          · injection h1 with e1 e2 e3
            obtain ⟨g1, g2⟩ := h4 t hin3
            exact ⟨b, off, e1, h3, fun s hs => (HQ.out.bel.cell (p := ⟨b, off + t * 9 + s, none⟩) h3).trans (g1 s hs), g2⟩
        obtain ⟨x, hx⟩ : ∃ x, x = ls1[t]'(by rw [← HLN.out]; exact hin) := ⟨_, rfl⟩
        rw [← hx] at hcs hgood
        clear hx
        obtain ⟨xk, xn, xK, xa, ⟨xc, xi, xg⟩, xo, xb, xs⟩ := x
        obtain ⟨g1, g2, g3, g4⟩ := hgood
        replace g1 : Hd.Byts w xb xs := g1
        replace g2 : xs.length ≤ maxLen := g2
        replace g3 : -9223372036854775808 ≤ xa := g3
        replace g4 : xa ≤ 9223372036854775807 := g4
        unfold maxLen at g2
        obtain ⟨ba, bc, rfl⟩ := (bytes_in g1).form
        have d0 := hcs 0 (by decide)
        have d1 := hcs 1 (by decide)
        have d2 := hcs 2 (by decide)
        have d3 := hcs 3 (by decide)
        have d4 := hcs 4 (by decide)
        have d5 := hcs 5 (by decide)
        have d6 := hcs 6 (by decide)
        have d7 := hcs 7 (by decide)
        have d8 := hcs 8 (by decide)
        replace d0 : wr.cell? ⟨ab, ao + t * 9, none⟩ = some (.int .i64 xk) := d0
        replace d1 : wr.cell? ⟨ab, ao + t * 9 + 1, none⟩ = some (.int .i64 xn) := d1
        replace d2 : wr.cell? ⟨ab, ao + t * 9 + 2, none⟩ = some (.int .i64 xK) := d2
        replace d3 : wr.cell? ⟨ab, ao + t * 9 + 3, none⟩ = some (.int .i64 xa) := d3
        replace d4 : wr.cell? ⟨ab, ao + t * 9 + 4, none⟩ = some (.int .i64 xc) := d4
        replace d5 : wr.cell? ⟨ab, ao + t * 9 + 5, none⟩ = some (.int .i64 xi) := d5
        replace d6 : wr.cell? ⟨ab, ao + t * 9 + 6, none⟩ = some (.int .i64 xg) := d6
        replace d7 : wr.cell? ⟨ab, ao + t * 9 + 7, none⟩ = some (.bool xo) := d7
        replace d8 : wr.cell? ⟨ab, ao + t * 9 + 8, none⟩ = some (.slice ba xs.length bc) := d8
        obtain ⟨x, hx⟩ : ∃ x : ActD, x = ⟨xk, xn, xK, xa, (xc, xi, xg), xo, .slice ba xs.length bc, xs⟩ := ⟨_, rfl⟩
        obtain ⟨w5, hw5⟩ : ∃ w5, w5 = wr.alloc (.cells #[.int .i64 xk, .int .i64 xn, .int .i64 xK, .int .i64 xa, .int .i64 xc, .int .i64 xi, .int .i64 xg, .bool xo, .slice ba xs.length bc] 37) := ⟨_, rfl⟩
        obtain ⟨w6, hw6⟩ : ∃ w6, w6 = w5.alloc (.cells #[.int .i64 xc, .int .i64 xi, .int .i64 xg] 34) := ⟨_, rfl⟩
        have hB5 : Below wr.heap.size wr w5 := by rw [hw5]; exact (Below.refl _ _).alloc (Nat.le_refl _) _
        have hB6 : Below w5.heap.size w5 w6 := by rw [hw6]; exact (Below.refl _ _).alloc (Nat.le_refl _) _
        have hs5 : w5.heap.size = wr.heap.size + 1 := by rw [hw5]; simp
        have hact : w5.heap[wr.heap.size]? = some (.cells (actC x).toArray 37 (0, 0)) := by rw [hw5, hx]; exact new_block _ _
        have HS := Lib.hid (show Ps w px py ns A A t t (.slice la l.length lc) l wr.heap.size x (wr.heap.size + 1) (xc, xi, xg) w6 from by
          have q := (HQ.out.next hB5).next hB6
          exact ⟨q.x, q.y, q.own, q.bel, Bl.old hB6 (block_lt hact) hact, by rw [← hs5, hw6]; exact new_block w5 _⟩)
        have hax : w.heap.size ≤ wr.heap.size := HQ.out.bel.size
        have hna : (Value.slice la l.length lc).ownBlock ≠ some (wr.heap.size + 1) := fun e => by
          have := (World.ownsRow.lt HQ.out.own _ e).2
          omega
        have HW6 := Lib.hid (show w6 = (wr.alloc (.cells #[.int .i64 xk, .int .i64 xn, .int .i64 xK, .int .i64 xa, .int .i64 xc, .int .i64 xi, .int .i64 xg, .bool xo, .slice ba xs.length bc] 37)).alloc (.cells #[.int .i64 xc, .int .i64 xi, .int .i64 xg] 34) from by rw [hw6, hw5])
        have HG1 := Lib.hid g1
        have HX := Lib.hid hx
        have HNa := Lib.hid hna
        clear hcs hw5 hw6 hB5 hB6 hs5 hact g1 hx hna
        have hti : (t : Int) < (LN : Int) := by omega
        go_upto_region 13 with fail
        rw [← HW6.out]
        clear d0 d1 d2 d3 d4 d5 d6 d7 d8 HW6
        obtain ⟨ax, hax2⟩ : ∃ ax, ax = wr.heap.size := ⟨_, rfl⟩
        obtain ⟨hx, hhx⟩ : ∃ hx, hx = wr.heap.size + 1 := ⟨_, rfl⟩
        rw [← hhx] at HNa HS ⊢
        rw [← hax2] at HS ⊢
        have hhb : w.heap.size ≤ hx := by omega
        clear hax2 hhx hax
        have HAct := Lib.hid (show ∀ (V : World), V.heap[ax]? = some (.cells (actC x).toArray 37 (0, 0)) → V.cell? ⟨ax, 0, none⟩ = some (.int .i64 xk) ∧ V.cell? ⟨ax, 1, none⟩ = some (.int .i64 xn) ∧ V.cell? ⟨ax, 2, none⟩ = some (.int .i64 xK) ∧ V.cell? ⟨ax, 3, none⟩ = some (.int .i64 xa) ∧ V.cell? ⟨ax, 5, none⟩ = some (.int .i64 xi) ∧ V.cell? ⟨ax, 7, none⟩ = some (.bool xo) ∧ V.cell? ⟨ax, 8, none⟩ = some (.slice ba xs.length bc) from fun V h => by
          rw [HX.out] at h
          refine ⟨?_, ?_, ?_, ?_, ?_, ?_, ?_⟩ <;> (rw [Lib.cell_of_heap h]; rfl))
        have a7 := (HAct.out w6 HS.out.act).2.2.2.2.2.1
        go_cut [76] from 53 to 76 (fun s76 wx => s76 = .bool (!xo && decide (0 < l.length)) ∧ w6 = wx)
        case first =>
          cases xo with
          | true =>
            go_wp2_with fail
            go_meet
            exact ⟨rfl, rfl⟩
          | false =>
            by_cases hl0 : 0 < l.length
            · have hl0i : (0 : Int) < (l.length : Int) := by omega
              go_wp2_with fail
              go_meet
              exact ⟨by simp [hl0], rfl⟩
            · have hl0i : ¬ (0 : Int) < (l.length : Int) := by omega
              go_wp2_with fail
              go_meet
              exact ⟨by simp [hl0], rfl⟩
        case rest =>
        obtain ⟨rfl, hwc⟩ := hcut
        replace hwc := hwc.symm
        subst hwc
        have a2 := (HAct.out wc HS.out.act).2.2.1
        go_upto_if 76 with fail
        go_cut [12] from 53 to 90 (fun s12 wx => s12 = .pointer (some ⟨hx, 0, none⟩) ∧ ∃ h : Hd, Ps w px py ns A A t t (.slice la l.length lc) l ax x hx h wx)
        case first =>
          cases hch : (!xo && decide (0 < l.length)) with
          | false =>
            go_wp2_with fail
            go_meet
            exact ⟨rfl, _, HS.out⟩
          | true =>
            have hl0 : 0 < l.length := by simp at hch; exact hch.2
            clear hch
            obtain ⟨i, hi⟩ : ∃ i, i = l.length := ⟨_, rfl⟩
            have N0 : 0 < i := by omega
            obtain ⟨y, hy⟩ : ∃ y, xK.tmod (i : Int) = y := ⟨_, rfl⟩
            have hyb := tmod_in xK i N0
            rw [hy] at hyb
            obtain ⟨k, hk, hki⟩ := tmod_nat (y + i) i N0 (by omega)
            have hwy : IntKind.i64.wrap (y + (i : Int)) = y + (i : Int) := IntWalk.i64_in _ (by omega)
            have hi0 : ¬ ((i : Int) = 0) := by omega
            have hkl : k < l.length := by omega
            obtain ⟨lg, lcap, hv', hlg, hlb, e0, e1, e2, -⟩ := HS.out.own.entry hkl
            injection hv' with f1 f2 f3
            subst f1 f3
            obtain ⟨⟨kc, kk, kg⟩, hlk⟩ : ∃ q, q = l[k] := ⟨_, rfl⟩
            rw [← hlk] at e0 e1 e2
            obtain ⟨x0, x1, x2⟩ := HS.out.hd.cells
            have z0 := free HS.out.hd 0
            have z1 := free HS.out.hd 1
            have z2 := free HS.out.hd 2
            have hki2 : (k : Int) < (i : Int) := by omega
            have HP := Lib.hid (HS.out.putH HNa.out hhb (kc, kk, kg))
            rw [← hi] at HP HS HNa ⊢
            have HI := Lib.hid hi
            clear hi hlk f2 hyb hkl hl0
            go_wp2_with fail
            have hi2 := HI.out
            subst hi2
            go_meet
            exact ⟨rfl, _, HP.out⟩
        case rest =>
        obtain ⟨rfl, ⟨qc, qi, qg⟩, hS⟩ := hcut
        have HS := Lib.hid hS
        clear hS a2 a7
        obtain ⟨a0, a1, a2, a3, a5, a7, a8⟩ := HAct.out wc HS.out.act
        go_upto_if 95 with fail
        go_cut [13] from 91 to 97 (fun s13 wx => ∃ (bs : Tk.Bs) (ca : Option Addr) (cc : Nat), s13 = .slice ca bs.length cc ∧ bs.length ≤ 5000 ∧ BytesL w w.heap.size (.slice ca bs.length cc) bs ∧ wc = wx)
        case first =>
          by_cases h5 : 5000 < xs.length
          · obtain ⟨g, off, cap, hv, hcap, hbl⟩ := bytes_cut HG1.out h5
            injection hv with e1 e2 e3
            subst e1 e3
            have hlen : (xs.take 5000).length = 5000 := by rw [List.length_take]; omega
            have h5i : (5000 : Int) < (xs.length : Int) := by omega
            have hc5 : 5000 ≤ bc := by omega
            have HBL := Lib.hid hbl
            clear hbl e2
            go_wp2_with fail
            go_meet
            exact ⟨xs.take 5000, _, _, by rw [hlen], by omega, HBL.out, rfl⟩
          · have h5i : ¬ (5000 : Int) < (xs.length : Int) := by omega
            go_wp2_with fail
            go_meet
            exact ⟨xs, _, _, rfl, by omega, bytes_in HG1.out, rfl⟩
        case rest =>
        obtain ⟨bs, ca, cc, rfl, hbs, hbl, hwc⟩ := hcut
        replace hwc := hwc.symm
        subst hwc
        have HBL := Lib.hid hbl
        clear hbl
        have HNa2 := HNa
        have hlen6 : l.length ≤ 150 := by omega
        obtain ⟨x0, x1, x2⟩ := HS.out.hd.cells
        go_upto_block 2 with fail
        go_cut [9, 14, 15, 16, 17, 18, 19] from 98 to 180 (fun s9 s14 s15 s16 s17 s18 s19 wx => ∃ (A' : Ar) (l' : List Hd) (la' : Option Addr) (lc' : Nat), s9 = .slice la' l'.length lc' ∧ l'.length ≤ t + 1 ∧ Ps w px py ns A' A' (t + 1) (t + 1) (.slice la' l'.length lc') l' ax x hx (qc, qi, qg) wx)
        case first =>
          have HSame := Lib.hid (show Ps w px py ns A A (t + 1) (t + 1) (.slice la l.length lc) l ax x hx (qc, qi, qg) wc from ⟨HS.out.x.more (Nat.le_succ _) (by omega), HS.out.y.more (Nat.le_succ _) (by omega), HS.out.own, HS.out.bel, HS.out.act, HS.out.hd⟩)
          by_cases k0 : xk = 0
          · subst k0
            obtain ⟨⟨⟨rc, ri, rg⟩, re, A1⟩, hr⟩ : ∃ r, r = allocA A xn := ⟨_, rfl⟩
            have HCX := Lib.hid (palloc_any xn wc HS.out.x (by omega))
            have HCY := Lib.hid (fun V (h : RRel V w.heap.size py ns A t) => ralloc_any xn V h (by omega) HNs.out)
            rw [← hr] at HCX HCY
            clear hr
            go_wp2_with fail
            refine HCX.out.mono ?_
            rintro e w7 ⟨rfl, hr7, ht7⟩
            have HS7 := Lib.hid (HS.out.callX hr7 ht7)
            have hB8 := (Below.refl w7.heap.size w7).alloc (Nat.le_refl _) (.cells #[.int .i64 rc, .int .i64 ri, .int .i64 rg] 34)
            have HS8 := Lib.hid (HS7.out.next hB8)
            have HG8 := Lib.hid (show Bx w7.heap.size (rc, ri, rg) _ from new_block w7 (.cells #[.int .i64 rc, .int .i64 ri, .int .i64 rg] 34))
            clear hr7 ht7 hB8 HCX a0 a1 a2 a3 a5 a7 a8 x0 x1 x2
            obtain ⟨a0, a1, a2, a3, a5, a7, a8⟩ := HAct.out _ HS8.out.act
            go_wp2_with fail
            refine (HCY.out _ HS8.out.y).mono ?_
            rintro e w9 ⟨rfl, hr9, ht9⟩
            have HS9 := Lib.hid (HS8.out.callY hr9 ht9)
            have HG9 := Lib.hid (show Bx w7.heap.size (rc, ri, rg) w9 from ht9.other HG8.out rfl)
            obtain ⟨y0, y1, y2⟩ := HG9.out.cells
            have hB10 := (Below.refl w9.heap.size w9).alloc (Nat.le_refl _) (.cells #[.int .i64 rc, .int .i64 ri, .int .i64 rg] 34)
            have HS10 := Lib.hid (HS9.out.next hB10)
            have HN10 := Lib.hid (new_block w9 (.cells #[.int .i64 rc, .int .i64 ri, .int .i64 rg] 34))
            clear hr9 ht9 hB10 HCY HS8 HS7 a0 a1 a2 a3 a5 a7 a8 HG8
            go_wp2_with (at_builtin; refine wpList_append_hd _ rfl _ _ rfl w.heap.size _ l (rc, ri, rg) _ _ rfl (by rfl) HS10.out.own HN10.out (by omega) HS10.out.bel.size ?_; intro v' w11 ho hgw; have HS11 := Lib.hid (HS10.out.app ho hgw HNa2.out); clear ho hgw)
            go_meet
            obtain ⟨la', lc', hv'⟩ := HS11.out.own.form
            subst hv'
            exact ⟨A1, l ++ [(rc, ri, rg)], la', lc', rfl, by simp; omega, HS11.out⟩
          · have k0i : (xk == 0) = false := by rw [beq_eq_false_iff_ne]; exact k0
            by_cases k1 : xk = 1
            · subst k1
              obtain ⟨⟨re, A1⟩, hr⟩ : ∃ r, r = holdA A (qc, qi, qg) := ⟨_, rfl⟩
              have HCX := Lib.hid (fun V (h : PRel V w.heap.size px ns A t) (HBV : BytesL V w.heap.size (.slice ca bs.length cc) bs) => phold_any qc qi qg V h)
              have HCY := Lib.hid (fun V (h : RRel V w.heap.size py ns A t) (HBV : BytesL V w.heap.size (.slice ca bs.length cc) bs) => hold_any qc qi qg V h)
              rw [← hr] at HCX HCY
              clear hr
              have HBW := Lib.hid (show ∀ V, Below w.heap.size w V → BytesL V w.heap.size (.slice ca bs.length cc) bs from fun V hV => bytes_l HBL.out hV)
              go_upto_region 26 with fail
              have HT := Lib.hid HS.out.drew
              clear x0 x1 x2 a0 a1 a2 a5 a7 a8 HSame
              go_region_held3 (fun W =>  W.cell? ⟨hx, 0, none⟩ = some (.int .i64 qc) ∧ W.cell? ⟨hx, 1, none⟩ = some (.int .i64 qi) ∧ W.cell? ⟨hx, 2, none⟩ = some (.int .i64 qg))
                (exact HT.out.hd.cells)
                (first
                  | (go_at_call 13; refine (HCX.out _ HT.out.x (HBW.out _ HT.out.bel)).mono ?_; rintro e w9 ⟨rfl, hr9, ht9⟩; replace HT := Lib.hid (HT.out.callX hr9 ht9); clear hr9 ht9)
                  | (go_at_call 14; refine (HCY.out _ HT.out.y (HBW.out _ HT.out.bel)).mono ?_; rintro e w9 ⟨rfl, hr9, ht9⟩; replace HT := Lib.hid (HT.out.callY hr9 ht9); clear hr9 ht9))
              all_goals
                go_wp2_with fail
                go_meet
                exact ⟨A1, l, la, lc, rfl, by omega, ⟨HT.out.x.more (Nat.le_succ _) (by omega), HT.out.y.more (Nat.le_succ _) (by omega), HT.out.own, HT.out.bel, HT.out.act, HT.out.hd⟩⟩
            · have k1i : (xk == 1) = false := by rw [beq_eq_false_iff_ne]; exact k1
              by_cases k2 : xk = 2
              · subst k2
                obtain ⟨⟨re, A1⟩, hr⟩ : ∃ r, r = dropA A (qc, qi, qg) := ⟨_, rfl⟩
                have HCX := Lib.hid (fun V (h : PRel V w.heap.size px ns A t) (HBV : BytesL V w.heap.size (.slice ca bs.length cc) bs) => pdrop_any qc qi qg V h)
                have HCY := Lib.hid (fun V (h : RRel V w.heap.size py ns A t) (HBV : BytesL V w.heap.size (.slice ca bs.length cc) bs) => drop_any qc qi qg V h)
                rw [← hr] at HCX HCY
                clear hr
                have HBW := Lib.hid (show ∀ V, Below w.heap.size w V → BytesL V w.heap.size (.slice ca bs.length cc) bs from fun V hV => bytes_l HBL.out hV)
                go_upto_region 29 with fail
                have HT := Lib.hid HS.out.drew
                clear x0 x1 x2 a0 a1 a2 a5 a7 a8 HSame
                go_region_held3 (fun W =>  W.cell? ⟨hx, 0, none⟩ = some (.int .i64 qc) ∧ W.cell? ⟨hx, 1, none⟩ = some (.int .i64 qi) ∧ W.cell? ⟨hx, 2, none⟩ = some (.int .i64 qg))
                  (exact HT.out.hd.cells)
                  (first
                    | (go_at_call 15; refine (HCX.out _ HT.out.x (HBW.out _ HT.out.bel)).mono ?_; rintro e w9 ⟨rfl, hr9, ht9⟩; replace HT := Lib.hid (HT.out.callX hr9 ht9); clear hr9 ht9)
                    | (go_at_call 16; refine (HCY.out _ HT.out.y (HBW.out _ HT.out.bel)).mono ?_; rintro e w9 ⟨rfl, hr9, ht9⟩; replace HT := Lib.hid (HT.out.callY hr9 ht9); clear hr9 ht9))
                all_goals
                  go_wp2_with fail
                  go_meet
                  exact ⟨A1, l, la, lc, rfl, by omega, ⟨HT.out.x.more (Nat.le_succ _) (by omega), HT.out.y.more (Nat.le_succ _) (by omega), HT.out.own, HT.out.bel, HT.out.act, HT.out.hd⟩⟩
              · have k2i : (xk == 2) = false := by rw [beq_eq_false_iff_ne]; exact k2
                by_cases k3 : xk = 3
                · subst k3
                  obtain ⟨⟨re, A1⟩, hr⟩ : ∃ r, r = writeA A (qc, qi, qg) xa bs := ⟨_, rfl⟩
                  have HCX := Lib.hid (fun V (h : PRel V w.heap.size px ns A t) (HBV : BytesL V w.heap.size (.slice ca bs.length cc) bs) => pwrite_any qc qi qg xa _ bs V h HBV (by omega))
                  have HCY := Lib.hid (fun V (h : RRel V w.heap.size py ns A t) (HBV : BytesL V w.heap.size (.slice ca bs.length cc) bs) => write_any qc qi qg xa _ bs V h HBV (by omega))
                  rw [← hr] at HCX HCY
                  clear hr
                  have HBW := Lib.hid (show ∀ V, Below w.heap.size w V → BytesL V w.heap.size (.slice ca bs.length cc) bs from fun V hV => bytes_l HBL.out hV)
                  go_upto_region 32 with fail
                  have HT := Lib.hid HS.out.drew
                  clear x0 x1 x2 a0 a1 a2 a5 a7 a8 HSame
                  go_region_held3 (fun W => W.cell? ⟨ax, 3, none⟩ = some (.int .i64 xa) ∧ W.cell? ⟨hx, 0, none⟩ = some (.int .i64 qc) ∧ W.cell? ⟨hx, 1, none⟩ = some (.int .i64 qi) ∧ W.cell? ⟨hx, 2, none⟩ = some (.int .i64 qg))
                    (exact ⟨(HAct.out _ HT.out.act).2.2.2.1, HT.out.hd.cells⟩)
                    (first
                      | (go_at_call 17; refine (HCX.out _ HT.out.x (HBW.out _ HT.out.bel)).mono ?_; rintro e w9 ⟨rfl, hr9, ht9⟩; replace HT := Lib.hid (HT.out.callX hr9 ht9); clear hr9 ht9)
                      | (go_at_call 18; refine (HCY.out _ HT.out.y (HBW.out _ HT.out.bel)).mono ?_; rintro e w9 ⟨rfl, hr9, ht9⟩; replace HT := Lib.hid (HT.out.callY hr9 ht9); clear hr9 ht9))
                  all_goals
                    go_wp2_with fail
                    go_meet
                    exact ⟨A1, l, la, lc, rfl, by omega, ⟨HT.out.x.more (Nat.le_succ _) (by omega), HT.out.y.more (Nat.le_succ _) (by omega), HT.out.own, HT.out.bel, HT.out.act, HT.out.hd⟩⟩
                · have k3i : (xk == 3) = false := by rw [beq_eq_false_iff_ne]; exact k3
                  go_wp2_with fail
                  go_meet
                  exact ⟨A, l, la, lc, rfl, by omega, HSame.out⟩
        case rest =>
        obtain ⟨A', l', la', lc', rfl, hl', hS⟩ := hcut
        have HS := Lib.hid hS
        clear hS a0 a1 a2 a3 a5 a7 a8 x0 x1 x2
        obtain ⟨a0, a1, a2, a3, a5, a7, a8⟩ := HAct.out wc HS.out.act
        obtain ⟨x0, x1, x2⟩ := HS.out.hd.cells
        go_upto_if 184 with fail
        go_cut [20] from 181 to 184 (fun s20 wx => ∃ m : Int, s20 = .int .i64 m ∧ m ≤ 300 ∧ wc = wx)
        case first =>
          by_cases h3 : 300 < xn
          · go_wp2_with fail
            go_meet
            exact ⟨300, rfl, by decide, rfl⟩
          · go_wp2_with fail
            go_meet
            exact ⟨xn, rfl, by omega, rfl⟩
        case rest =>
        obtain ⟨m, rfl, hm, hwc⟩ := hcut
        replace hwc := hwc.symm
        subst hwc
        go_wp2_with fail
        refine (pread_any qc qi qg xa m wc HS.out.x (by omega)).mono ?_
        rintro e w7 ⟨gv, rfl, hgv, hb7⟩
        have HS7 := Lib.hid (HS.out.next hb7)
        have HGv := Lib.hid hgv.reads
        obtain ⟨ga, gc, hgf⟩ := hgv.form
        subst hgf
        clear hgv hb7 HS x0 x1 x2 a0 a1 a2 a3 a5 a7 a8
        obtain ⟨a0, a1, a2, a3, a5, a7, a8⟩ := HAct.out w7 HS7.out.act
        obtain ⟨x0, x1, x2⟩ := HS7.out.hd.cells
        obtain ⟨⟨R, re⟩, hR⟩ : ∃ r, r = readA A' (qc, qi, qg) xa m := ⟨_, rfl⟩
        rw [← hR] at HGv ⊢
        have HRr := Lib.hid hR
        clear hR
        have HYr := Lib.hid (read_any qc qi qg xa m w7 HS7.out.y ⟨g3, g4⟩)
        rw [← HRr.out] at HYr
        go_wp2_with fail
        refine HYr.out.mono ?_
        rintro e w8 ⟨uv, rfl, huv, hb8⟩
        have HS8 := Lib.hid (HS7.out.next hb8)
        have HGv8 := Lib.hid (HGv.out.kept hb8)
        have HUv := Lib.hid huv
        obtain ⟨ua, uc, huf⟩ := huv.form
        subst huf
        clear huv hb8 HS7 HGv HYr x0 x1 x2 a0 a1 a2 a3 a5 a7 a8
        have hRl : R.length ≤ 1048576 := by
          rw [show R = (readA A' (qc, qi, qg) xa m).1 from by rw [← HRr.out]]
          unfold readA
          split
          · exact Nat.zero_le _
          · split
            · show (List.take _ _).length ≤ _
              rw [List.length_take]; omega
            · exact Nat.zero_le _
        have HF := Lib.hid (show ∀ V, Below w8.heap.size w8 V → V.cell? ⟨ax, 2, none⟩ = some (.int .i64 xK) ∧ V.cell? ⟨hx, 0, none⟩ = some (.int .i64 qc) ∧ V.cell? ⟨hx, 1, none⟩ = some (.int .i64 qi) ∧ V.cell? ⟨hx, 2, none⟩ = some (.int .i64 qg) from fun V hV =>
          ⟨(HAct.out V (HS8.out.next hV).act).2.2.1, (HS8.out.next hV).hd.cells⟩)
        have C1 := Lib.hid (fun V (hV : Below w8.heap.size w8 V) => same_any ga ua gc uc _ R V (HGv8.out.kept hV) (HUv.out.kept hV) hRl)
        have C2 := Lib.hid (fun V (hV : Below w8.heap.size w8 V) => pheld_any qc qi qg V (HS8.out.next hV).x)
        have C3 := Lib.hid (fun V (hV : Below w8.heap.size w8 V) => (held_any qc qi qg V (HS8.out.next hV).y).mono (fun e w' h => (show e = .returned (.int .i64 (heldA A' (qc, qi, qg))) ∧ Below V.heap.size V w' from ⟨h.1, by rw [← h.2]; exact Below.refl _ _⟩)))
        have C4 := Lib.hid (fun V (hV : Below w8.heap.size w8 V) => plive_any xK V (HS8.out.next hV).x)
        have C5 := Lib.hid (fun V (hV : Below w8.heap.size w8 V) => (live_any xK V (HS8.out.next hV).y).mono (fun e w' h => (show e = .returned (.int .i64 (liveA A' xK)) ∧ Below V.heap.size V w' from ⟨h.1, by rw [← h.2]; exact Below.refl _ _⟩)))
        have C6 := Lib.hid (fun V (hV : Below w8.heap.size w8 V) => sizesP_any xK V)
        have C7 := Lib.hid (fun V (hV : Below w8.heap.size w8 V) => sizes_any xK V)
        generalize heldA A' (qc, qi, qg) = hv at C2 C3
        generalize liveA A' xK = lv at C4 C5
        generalize sizesI xK = sv at C6 C7
        generalize R.length = RN at *
        clear HGv8 HUv HRr HAct
        go_upto_region 39 with fail
        refine Rg.val_region (n := 251) (J := fun V => Below w8.heap.size w8 V) [(208, .slice ga RN gc), (209, .slice ua RN uc), (210, .bool true), (211, .bool false), (212, .bool false), (213, .int .i64 re), (214, .int .i64 re), (215, .bool false), (216, .bool false), (217, .bool false), (218, .pointer (some ⟨px, 0, none⟩)), (219, .agg #[.int .i64 qc, .int .i64 qi, .int .i64 qg]), (220, .int .i64 hv), (221, .pointer (some ⟨py, 0, none⟩)), (222, .pointer (some ⟨hx, 0, none⟩)), (223, .int .i64 qc), (224, .pointer (some ⟨hx, 1, none⟩)), (225, .int .i64 qi), (226, .pointer (some ⟨hx, 2, none⟩)), (227, .int .i64 qg), (228, .int .i64 hv), (229, .bool false), (230, .bool false), (231, .bool false), (232, .pointer (some ⟨px, 0, none⟩)), (233, .pointer (some ⟨ax, 2, none⟩)), (234, .int .i64 xK), (235, .int .i64 lv), (236, .pointer (some ⟨py, 0, none⟩)), (237, .pointer (some ⟨ax, 2, none⟩)), (238, .int .i64 xK), (239, .int .i64 lv), (240, .bool false), (241, .bool false), (242, .bool false), (243, .pointer (some ⟨ax, 2, none⟩)), (244, .int .i64 xK), (245, .int .i64 sv), (246, .pointer (some ⟨ax, 2, none⟩)), (247, .int .i64 xK), (248, .int .i64 sv), (249, .bool false), (250, .bool false)] (by kernel_rfl) (by kernel_rfl) (by kernel_rfl) (by kernel_rfl) (Bl.drewN (Below.refl _ _) 1) (fun F hF => ?_)
        simp only [Rg.fill, List.setIfInBounds_toArray, List.set_cons_zero, List.set_cons_succ] at hF
        subst hF
        refine ⟨?_, fun V hJ => ?_⟩
        · show ∀ i, i < 43 → _
          repeat' refine Rg.below_succ ?_ ?_
          all_goals first
            | exact Rg.below_zero
            | (refine Rg.StepOK.of rfl ?_
               first
               | (left; exact ⟨by kernel_rfl, fun d hd => by injection hd with hd; subst hd; rfl⟩)
               | (right
                  refine ⟨by kernel_rfl, fun V hJ K hK => ?_⟩
                  obtain ⟨c2, h0, h1, h2⟩ := HF.out V hJ
                  have HJ := Lib.hid hJ
                  clear hJ
                  go_simp
                  first
                    | exact hK _ HJ.out
                    | (with_reducible refine (C1.out _ HJ.out).mono ?_; rintro e w9 ⟨rfl, hb⟩; exact hK _ (Bl.next HJ.out hb))
                    | (with_reducible refine (C2.out _ HJ.out).mono ?_; rintro e w9 ⟨rfl, hb⟩; exact hK _ (Bl.next HJ.out hb))
                    | (with_reducible refine (C3.out _ HJ.out).mono ?_; rintro e w9 ⟨rfl, hb⟩; exact hK _ (Bl.next HJ.out hb))
                    | (with_reducible refine (C4.out _ HJ.out).mono ?_; rintro e w9 ⟨rfl, hb⟩; exact hK _ (Bl.next HJ.out hb))
                    | (with_reducible refine (C5.out _ HJ.out).mono ?_; rintro e w9 ⟨rfl, hb⟩; exact hK _ (Bl.next HJ.out hb))
                    | (with_reducible refine (C6.out _ HJ.out).mono ?_; rintro e w9 ⟨rfl, hb⟩; exact hK _ (Bl.next HJ.out hb))
                    | (with_reducible refine (C7.out _ HJ.out).mono ?_; rintro e w9 ⟨rfl, hb⟩; exact hK _ (Bl.next HJ.out hb))))
        · have HQ9 := Lib.hid (show Pq w px py ns A' (t + 1) (.slice la' l'.length lc') l' V from by
            have q := HS8.out.next hJ
            exact ⟨q.x, q.y, q.own, q.bel⟩)
          clear hJ HF C1 C2 C3 C4 C5 C6 C7 HS8
          go_wp2_with fail
          go_roundw
          case rel => exact ⟨t + 1, A', l', by omega, by go_num, hl', HQ9.out⟩
          case measure => simp [intOf]; omega
      · have h150i : ¬ (t : Int) < 150 := by omega
        go_wp2_with fail
        go_ret
        exact ⟨rfl, HQ.out.bel⟩
    · have hin2 : ¬ (t : Int) < (LN : Int) := by omega
      go_wp2_with fail
      go_ret
      exact ⟨rfl, HQ.out.bel⟩

set_option maxRecDepth 100000 in
theorem lifted (os : Os) (started : os.Started) (H : Type) (enc : TypeId × Value → H) :
    ReturnsInHanded {} Try.checked os 3 .any (Rows.slabPlaysSpec.pre6 enc Try.prog Try.f3 Rows.slabPlaysRow.domain false) (Rows.slabPlaysSpec.post enc Try.prog Try.f3 false true false false) := by
  refine returnsInHanded_of_change_sized (C := Try.checked) own started (by kernel_rfl) Try.func3
    (ChangeSpec.witness6 (enc := enc) (C := Try.checked) false ⟨#[], #[.agg #[.int .i64 0, .int .i64 0, .int .i64 0, .int .i64 0], .slice none 0 0], []⟩ 8 (by kernel_rfl) (by kernel_rfl) (by kernel_rfl) (by kernel_rfl)) ?_
  intro W base args ds gs before hval0 hW hcnd hsz _
  have hval : ∀ (j : Nat) t v, Try.f3.params[j]? = some t → args[j]? = some v → Value.okWide Try.prog W .any base t v := hval0
  have hW' := hW
  obtain ⟨p, q, hA0, hV, rfl, hfz, hnd⟩ := hW
  have hA : DataW.TrodAll enc Try.prog W 0 (fun _ => true) true Try.f3.params.toList args.toList ds p := hA0
  rw [Try.params3] at hA hval hsz
  obtain ⟨v0, vs0, d0, ds0, p0, q0, hargs, rfl, rfl, h0, r0⟩ := trodAll_cons hA
  obtain ⟨v1, vs1, d1, ds1, p1, q1, rfl, rfl, rfl, h1, r1⟩ := trodAll_cons r0
  obtain ⟨rfl, rfl, rfl⟩ := trodAll_nil r1
  obtain rfl : args = #[v0, v1] := by cases args; simp_all
  obtain ⟨rfl, rfl⟩ := trodVars_none hV
  have k0 := h0
  have lt0 : ∀ x ∈ p0, x.block < W.heap.size := by obtain ⟨m, hm⟩ := k0; exact DataW.trod_lt m _ _ _ hm
  obtain ⟨bl0, rfl⟩ := Sl.open_arr4 (hval 0 22 v0 rfl rfl) h0
  have k1 := h1
  have lt1 : ∀ x ∈ p1, x.block < W.heap.size := by obtain ⟨m, hm⟩ := k1; exact DataW.trod_lt m _ _ _ hm
  obtain ⟨ls1, f1, l1⟩ := Sl.open_acts (hval 1 23 v1 rfl rfl) h1
  clear hA0 hval0
  simp only [List.append_nil] at hW'
  refine (walk bl0 v1 ls1 W f1 l1).mono fun e W' ⟨he, bel⟩ => ?_
  subst he
  exact ⟨_, rfl, _, _, _, [], _, [], hW', trodAll_mk1 (shut_bool Try.underlying4 _), (trodAll_cons_mk (Below.trod laidOut (by kernel_rfl) (of_decide_eq_true (by kernel_rfl)) k0 bel lt0) (trodAll_cons_mk (Below.trod laidOut (by kernel_rfl) (of_decide_eq_true (by kernel_rfl)) k1 bel lt1) trodAll_mk0)), rfl, bel.frame _, fun h => by cases h⟩

theorem over : Rows.slabPlaysRow.holds Try.pinned (OpenSpec.ofChange Rows.slabPlaysSpec) :=
  OpenClaim.holds_of_wide 3 Try.f3 rfl rfl rfl rfl rfl rfl rfl ⟨rfl, rfl, rfl, rfl, rfl⟩ rfl rfl rfl rfl rfl (by kernel_rfl) Try.func3 (by kernel_rfl)
    (of_decide_eq_true (by kernel_rfl)) (by unfold Func.isWrapper; first | (rw [if_pos (by decide +kernel)]; kernel_rfl) | (rw [if_neg (by decide +kernel)]; exact ⟨rfl, rfl⟩))
    (fun os started H enc _ => lifted os started H enc)

theorem proved : Rows.SlabPlaysSaid := over
end Go.Proofs.Ytheljldoboiekaa.slabPlays
