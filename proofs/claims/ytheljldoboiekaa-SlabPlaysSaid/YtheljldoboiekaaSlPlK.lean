/-
  SlabPlays' state: both arenas beside plain ones, the law's handles, its boxes; same. No condition.
-/
import Derived.Test.YtheljldoboiekaaSlOpen
import Derived.Test.YtheljldoboiekaaSlRAlloc
import Derived.Test.YtheljldoboiekaaSlRNew
import Derived.Test.YtheljldoboiekaaSlLive
import Derived.Test.YtheljldoboiekaaSlRead
import Derived.Test.YtheljldoboiekaaSlWrite
import Derived.Test.YtheljldoboiekaaSlNo
import Derived.Deep.CutBlock
namespace Go.Proofs.Ytheljldoboiekaa.Sl
open Go.RowKit Go.Proofs.Ytheljldoboiekaa.Fd
set_option maxRecDepth 100000
set_option linter.unusedVariables false
set_option linter.unusedSimpArgs false

theorem TP_TR (t : TypeId) (h : TR t = true) : TP t = false := by
  unfold TR at h
  simp at h
  rcases h with (rfl | rfl) | rfl <;> rfl
theorem TR_TP (t : TypeId) (h : TP t = true) : TR t = false := by
  unfold TP at h
  simp at h
  rcases h with (rfl | rfl) | rfl <;> rfl
theorem TR_TH (t : TypeId) (h : TR t = true) : TH t = false := by
  unfold TR at h
  simp at h
  rcases h with (rfl | rfl) | rfl <;> rfl
theorem RRel.low {w : World} {base base' p : Nat} {n : Nat → Nat} {A : Ar} {G : Nat} (h : RRel w base p n A G) (hb : base' ≤ base) : RRel w base' p n A G := by
  obtain ⟨L, v, h1, h2⟩ := h.it
  refine ⟨⟨L, v, ⟨h1.arena, ?_, h1.mem, fun x hx => ⟨Nat.le_trans hb (h1.apart x hx).1, (h1.apart x hx).2⟩, h1.nodup, ⟨Nat.le_trans hb h1.out.1, h1.out.2⟩⟩, h2⟩, h.small⟩
  have hr := h1.row
  refine ⟨hr.1, ?_⟩
  rcases hr.2 with ⟨h1, h2⟩ | ⟨g, cap, cur, h1, h2, h3, h4⟩
  · exact .inl ⟨h1, h2⟩
  · exact .inr ⟨g, cap, cur, h1, Nat.le_trans hb h2, h3, h4⟩
/-- The program's arena at A, the reference's at B, the handles that were told, the act's box and the handle's. -/
structure Ps (w : World) (px py : Nat) (n : Nat → Nat) (A B : Ar) (G H : Nat) (v : Value) (l : List Hd) (ax : Nat) (a : ActD) (hx : Nat) (h : Hd) (W : World) : Prop where
  x : PRel W w.heap.size px n A G
  y : RRel W w.heap.size py n B H
  own : OwnH W w.heap.size v l
  bel : Below w.heap.size w W
  act : W.heap[ax]? = some (.cells (actC a).toArray 37 (0, 0))
  hd : Bx hx h W
section
variable {w : World} {px py : Nat} {n : Nat → Nat} {A B A' B' : Ar} {G H G' H' : Nat} {v v' : Value} {l l' : List Hd} {ax : Nat} {a : ActD} {hx : Nat} {h : Hd} {W V : World}
theorem Ps.next (s : Ps w px py n A B G H v l ax a hx h W) (hb : Below W.heap.size W V) : Ps w px py n A B G H v l ax a hx h V :=
  ⟨s.x.same hb, s.y.same hb, s.own.kept hb, Bl.next s.bel hb, Bl.old hb (block_lt s.act) s.act, s.hd.next hb⟩
theorem Ps.drew (s : Ps w px py n A B G H v l ax a hx h W) : Ps w px py n A B G H v l ax a hx h W.drew := s.next ((Below.refl _ _).drew)
theorem Ps.callX (s : Ps w px py n A B G H v l ax a hx h W) (hr : PRel V w.heap.size px n A' G') (ht : Tn TP w.heap.size W V) : Ps w px py n A' B G' H v l ax a hx h V :=
  ⟨hr, s.y.tn ht TP_TR, s.own.tn ht rfl, s.bel.trans (ht.below s.bel.size), ht.other s.act rfl, s.hd.call ht⟩
theorem Ps.callY (s : Ps w px py n A B G H v l ax a hx h W) (hr : RRel V w.heap.size py n B' H') (ht : Tn TR w.heap.size W V) : Ps w px py n A B' G H' v l ax a hx h V :=
  ⟨s.x.tn ht TR_TP, hr, s.own.tn ht rfl, s.bel.trans (ht.below s.bel.size), ht.other s.act rfl, ht.other s.hd rfl⟩
theorem Ps.app (s : Ps w px py n A B G H v l ax a hx h W) (ho : OwnH V w.heap.size v' l') (hg : W.grownBy V v.ownBlock) (hn : v.ownBlock ≠ some hx) : Ps w px py n A B G H v' l' ax a hx h V := by
  have ht : Tn TH w.heap.size W V := Tn.grown hg s.own.row
  exact ⟨s.x.tn ht TP_TH, s.y.tn ht TR_TH, ho, s.bel.trans (ht.below s.bel.size), ht.other s.act rfl, s.hd.app hg hn⟩
/-- The handle's box is stored anew. -/
theorem Ps.putH (s : Ps w px py n A B G H v l ax a hx h W) (hn : v.ownBlock ≠ some hx) (hb : w.heap.size ≤ hx) (h' : Hd) :
    Ps w px py n A B G H v l ax a hx h' (((W.setCell ⟨hx, 0, none⟩ (.int .i64 h'.1)).setCell ⟨hx, 1, none⟩ (.int .i64 h'.2.1)).setCell ⟨hx, 2, none⟩ (.int .i64 h'.2.2)) := by
  have i1 : IsT TH W hx := ⟨_, _, _, s.hd, rfl⟩
  have y : ∀ (V : World) (j : Nat) (u : Value), IsT TH V hx → IsT TH (V.setCell ⟨hx, j, none⟩ u) hx := fun V j u ⟨cs, t, fr, z1, z2⟩ => ⟨_, t, fr, heap_put z1 _ _, z2⟩
  have ht : Tn TH w.heap.size W (((W.setCell ⟨hx, 0, none⟩ (.int .i64 h'.1)).setCell ⟨hx, 1, none⟩ (.int .i64 h'.2.1)).setCell ⟨hx, 2, none⟩ (.int .i64 h'.2.2)) :=
    ((Tn.set i1 hb _).trans (Tn.set (y _ _ _ i1) hb _)).trans (Tn.set (y _ _ _ (y _ _ _ i1)) hb _)
  have hne : ∀ b, b ≠ hx → (((W.setCell ⟨hx, 0, none⟩ (.int .i64 h'.1)).setCell ⟨hx, 1, none⟩ (.int .i64 h'.2.1)).setCell ⟨hx, 2, none⟩ (.int .i64 h'.2.2)).heap[b]? = W.heap[b]? := fun b hb => by rw [set_heap hb, set_heap hb, set_heap hb]
  refine ⟨s.x.tn ht TP_TH, s.y.tn ht TR_TH, ?_, s.bel.trans (ht.below s.bel.size), ht.other s.act rfl, put3 s.hd _ _ _⟩
  refine ⟨s.own.1, ?_⟩
  rcases s.own.2 with ⟨h1, h2⟩ | ⟨g, cap, cur, h1, h2, h3, h4⟩
  · exact .inl ⟨h1, h2⟩
  · exact .inr ⟨g, cap, cur, h1, h2, by rw [hne g (fun e => hn (by rw [h1, e]; rfl))]; exact h3, h4⟩
theorem Ps.acts (s : Ps w px py n A B G H v l ax a hx h W) : ∀ t, W.cell? ⟨ax, t, none⟩ = (actC a)[t]? := fun t => by
  rw [Lib.cell_of_heap s.act]; simp
end

set_option maxHeartbeats 4000000 in
theorem same_any (va ua : Option Addr) (vc uc base : Nat) (bs : Tk.Bs) (W : World) (hv : ReadsB W (.slice va bs.length vc) bs) (hu : IntsR W base (.slice ua bs.length uc) bs) (hl : bs.length ≤ 1048576) :
    Calls Try.prog 21 #[.slice va bs.length vc, .slice ua bs.length uc] W fun e w' => e = .returned (.bool true) ∧ Below W.heap.size W w' := by
  have HV := Lib.hid hv
  have HU := Lib.hid hu
  obtain ⟨L, hL⟩ : ∃ L, L = bs.length := ⟨_, rfl⟩
  have HL := Lib.hid hL
  rw [← hL] at hl ⊢
  clear hv hu hL
  go_enter Try.func21, Try.ntmps21
  go_wp2_with fail
  go_loopw [5] (fun j wr => ∃ i : Nat, i ≤ L ∧ j = .int .i64 (i : Int) ∧ Below W.heap.size W wr) (fun j _ => L - (intOf j).toNat)
  case atStart => exact ⟨0, Nat.zero_le _, rfl, Below.refl _ _⟩
  case round =>
    obtain ⟨i, hi, rfl, hB⟩ := hrel
    by_cases hlt : i < L
    · have hib : i < bs.length := by rw [← HL.out]; exact hlt
      obtain ⟨vg, vo, rfl, hvl, c0⟩ : ∃ g off, va = some ⟨g, off, none⟩ ∧ g < W.heap.size ∧ W.cell? ⟨g, off + i, none⟩ = some (.int .u8 (bs[i].toNat : Int)) := by
        rcases HV.out with ⟨h, _⟩ | ⟨g, off, cap, h1, h2, h3⟩
        · rw [h] at hib; simp at hib
        · injection h1 with e1 e2 e3
          exact ⟨g, off, e1, h2, h3 i hib⟩
      obtain ⟨ug, rfl, hul, d0⟩ : ∃ g, ua = some ⟨g, 0, none⟩ ∧ g < W.heap.size ∧ W.cell? ⟨g, i, none⟩ = some (.int .i64 (bs[i].toNat : Int)) := by
        have hr : W.ownsRow base 3 1 (.slice ua bs.length uc) bs.length (intL bs) := HU.out
        rcases hr.2 with ⟨h1, h2⟩ | ⟨g, cap, cur, h1, h2, h3, _⟩
        · rw [h2] at hib; exact absurd hib (Nat.not_lt_zero _)
        · injection h1 with e1 e2 e3
          subst e1
          refine ⟨g, rfl, block_lt h3, ?_⟩
          rw [hr.cellAt i (by omega)]
          simp [intL, hib]
      replace c0 := (hB.cell (p := ⟨vg, vo + i, none⟩) hvl).trans c0
      replace d0 := (hB.cell (p := ⟨ug, i, none⟩) hul).trans d0
      have hb8 : bs[i].toNat < 256 := UInt8.toNat_lt _
      generalize bs[i].toNat = b at c0 d0 hb8
      have hw : IntKind.i64.wrap (b : Int) = (b : Int) := IntWalk.i64_in _ (by omega)
      have HB := Lib.hid hB
      clear hB
      go_upto_region 6 with fail
      go_region
      go_wp2_with fail
      go_roundw
      case rel => exact ⟨i + 1, by omega, by go_num, HB.out.drew⟩
      case measure => simp [intOf]; omega
    · have HB := Lib.hid hB
      clear hB
      go_wp2_with fail
      go_ret
      exact ⟨rfl, HB.out⟩
end Go.Proofs.Ytheljldoboiekaa.Sl
