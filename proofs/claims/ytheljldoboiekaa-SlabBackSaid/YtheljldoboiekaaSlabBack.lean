/-
  SlabBack: SlabBack: for any two ints and any bytes the law's call returns true.
  Conditions: none.
-/
import Derived.Test.YtheljldoboiekaaRows
import Derived.Test.YtheljldoboiekaaSlBk
import Derived.Deep.DeepCutAuto
import Derived.Deep.RegionHeld3
import Derived.WalkKit
import Derived.WalkLawsBesides
import Derived.ProofKit
import Derived.OpenShut
import Derived.ShutString
import Derived.SizedLaws
import Derived.Carry
import Derived.Below
import Derived.Outline
import Derived.Lib.Hide
namespace Go.Proofs.Ytheljldoboiekaa.slabBack
open Go.ChangeShapes Go.WideShapes Go.ChangeAt Go.RowKit
open Go.ChangeMaps (open_string shut_string)
set_option linter.unusedVariables false

theorem own : ownKnob Try.prog.godebug = none := by kernel_rfl
theorem laidOut : laidOutB Try.prog = true := by kernel_rfl

open Go.Proofs.Ytheljldoboiekaa.Fd Go.Proofs.Ytheljldoboiekaa.Sl
structure SB (w : World) (p c : Nat) (A : Ar) (G bx : Nat) (W : World) : Prop where
  rel : PRel W w.heap.size p (fun _ => 2) A G
  bel : Below w.heap.size w W
  hx : Bx bx ((c : Int), 0, 1) W
theorem SB.next {w : World} {p c : Nat} {A : Ar} {G bx : Nat} {W V : World} (h : SB w p c A G bx W) (hb : Below W.heap.size W V) : SB w p c A G bx V := ⟨h.rel.same hb, Bl.next h.bel hb, h.hx.next hb⟩
theorem SB.call {w : World} {p c : Nat} {A A' : Ar} {G G' bx : Nat} {W V : World} (h : SB w p c A G bx W) (hr : PRel V w.heap.size p (fun _ => 2) A' G') (ht : Tn TP w.heap.size W V) : SB w p c A' G' bx V :=
  ⟨hr, h.bel.trans (ht.below h.bel.size), h.hx.call ht⟩
theorem bytes_l {w W : World} {v : Value} {l : Tk.Bs} (h : BytesL w w.heap.size v l) (hb : Below w.heap.size w W) : BytesL W w.heap.size v l := by
  rcases h with h | ⟨g, off, cap, h1, h2, h3⟩
  · exact .inl h
  · exact .inr ⟨g, off, cap, h1, h2, fun j hj => (hb.cell (p := ⟨g, off + j, none⟩) h2).trans (h3 j hj)⟩
theorem bytes_r {w : World} {v : Value} {l : Tk.Bs} {base : Nat} (h : BytesL w base v l) (hb : base ≤ w.heap.size) : ReadsB w v l := by
  rcases h with h | ⟨g, off, cap, h1, h2, h3⟩
  · exact .inl h
  · exact .inr ⟨g, off, cap, h1, by omega, h3⟩
theorem bytes_in {w : World} {v : Value} {l : Tk.Bs} (h : Hd.Byts w v l) : BytesL w w.heap.size v l := by
  rcases h with h | ⟨g, off, cap, h1, _, _, h2, h3⟩
  · exact .inl h
  · exact .inr ⟨g, off, cap, h1, h2, h3⟩
theorem bytes_cut {w : World} {v : Value} {l : Tk.Bs} (h : Hd.Byts w v l) (hl : 500 < l.length) : ∃ g off cap, v = .slice (some ⟨g, off, none⟩) l.length cap ∧ l.length ≤ cap ∧ BytesL w w.heap.size (.slice (some ⟨g, off, none⟩) (l.take 500).length cap) (l.take 500) := by
  rcases h with ⟨rfl, _⟩ | ⟨g, off, cap, h1, hc, _, h2, h3⟩
  · simp at hl
  · refine ⟨g, off, cap, h1, hc, .inr ⟨g, off, cap, rfl, h2, fun j hj => ?_⟩⟩
    rw [List.length_take] at hj
    rw [h3 j (by omega)]
    simp
theorem zer_at (c i : Nat) (h : i < (zer c).length) : ((zer c)[i].toNat : Int) = 0 := by simp [zer]
set_option maxRecDepth 100000 in
set_option maxHeartbeats 32000000 in
theorem walk (a0 : Int) (w0 : (Lit.int .i64 a0).wf = true) (a1 : Int) (w1 : (Lit.int .i64 a1).wf = true) (v2 : Value) (ls2 : Tk.Bs) (w : World) (f2 : Hd.Byts w v2 ls2) (l2 : ls2.length ≤ maxLen) :
    Calls Try.prog 5 #[.int .i64 a0, .int .i64 a1, v2] w fun e w' => e = .returned (.bool true) ∧ Below w.heap.size w w' := by
  clear w0 w1
  unfold maxLen at l2
  obtain ⟨m, hm, hm2⟩ := mask_nat a0 4095 (by omega)
  obtain ⟨q, hq, hq2⟩ := mask_nat a1 4095 (by omega)
  have hm' : bits BinOp.and IntKind.i64 a0 4095 = (m : Int) := hm
  have hq' : bits BinOp.and IntKind.i64 a1 4095 = (q : Int) := hq
  clear hm hq
  obtain ⟨c, hc⟩ : ∃ c, classN m = c := ⟨_, rfl⟩
  obtain ⟨c4, hfit⟩ := two_reads hm2 hc
  have hS4 := sizeC_le c4
  have hS0 : 64 ≤ sizeC c := by rcases (by omega : c = 0 ∨ c = 1 ∨ c = 2 ∨ c = 3) with rfl | rfl | rfl | rfl <;> decide
  have hSI : sizesI (c : Int) = (sizeC c : Int) := by unfold sizesI; rw [if_pos (by omega), Int.toNat_natCast]
  have HSz := Lib.hid (show ∀ V : World, Calls Try.prog 10 #[.int .i64 (c : Int)] V fun e w' => e = .returned (.int .i64 (sizeC c : Int)) ∧ Below V.heap.size V w' from fun V => by rw [← hSI]; exact sizesP_any (c : Int) V)
  have htm : (q : Int).tmod (sizeC c : Int) = ((q % sizeC c : Nat) : Int) := by rw [Int.tmod_eq_emod_of_nonneg (by omega)]; rfl
  have hr0 : q % sizeC c < sizeC c := Nat.mod_lt _ (by omega)
  have HC := Lib.hid hc
  have HZl := Lib.hid (zer_length c)
  clear hSI
  by_cases h500 : 500 < ls2.length
  · obtain ⟨g, off, cap, rfl, hcap, hbl⟩ := bytes_cut f2 h500
    have hlen : (ls2.take 500).length = 500 := by rw [List.length_take]; omega
    have h500i : (500 : Int) < (ls2.length : Int) := by omega
    have hc5 : 500 ≤ cap := by omega
    clear f2
    go_enter Try.func5, Try.ntmps5
    go_wp2_with fail
    generalize ls2.take 500 = bs at hbl hlen
    rw [← hlen]
    have hlen2 : bs.length ≤ 500 := by omega
    generalize (some (⟨g, off, none⟩ : Addr)) = ba at *
    clear hlen h500 h500i hc5 hcap l2
    refine (pnew_any (fun _ => 2) w).mono ?_
    rintro e w1 ⟨hb1, h2⟩
    rcases h2 with ⟨⟨k, _, hk⟩, _⟩ | ⟨_, ⟨k, _, hk⟩, _⟩ | ⟨_, p, rfl, hr⟩
    · exact absurd hk (by show ¬ (2 : Int) < 0; decide)
    · exact absurd hk (by show ¬ (4096 : Int) < 2; decide)
    have HBL := Lib.hid hbl
    have HR1 := Lib.hid (show PRel w1 w.heap.size p (fun _ => 2) (two (newA fun _ => 2) c noB noB) 0 from by have h := hr; rw [show (newA fun c => ((fun _ => (2 : Int)) c).toNat) = two (newA fun _ => 2) c noB noB from two_start c] at h; exact h)
    have HB1 := Lib.hid hb1
    clear hr hb1 hbl hc
    generalize (newA fun _ => 2) = A at *
    go_wp2_with fail
    refine (bk_al1 hm2 HC.out w1 HR1.out).mono ?_
    rintro e w2 ⟨rfl, hr2, ht2⟩
    have hB3 := (Below.refl w2.heap.size w2).alloc (Nat.le_refl _) (.cells #[.int .i64 (c : Int), .int .i64 0, .int .i64 1] 34)
    have HS3 := Lib.hid (show SB w p c _ 1 w2.heap.size _ from ⟨hr2.same hB3, Bl.next (HB1.out.trans (ht2.below HB1.out.size)) hB3, new_block w2 (.cells #[.int .i64 (c : Int), .int .i64 0, .int .i64 1] 34)⟩)
    clear hr2 ht2 hB3 HR1
    go_wp2_with fail
    refine (bk_al2 hm2 HC.out _ HS3.out.rel).mono ?_
    rintro e w4 ⟨rfl, hr4, ht4⟩
    have HS4 := Lib.hid (HS3.out.call hr4 ht4)
    clear hr4 ht4 HS3
    generalize w2.heap.size = bx at *
    have hB5 := (Below.refl w4.heap.size w4).alloc (Nat.le_refl _) (.cells #[.int .i64 (c : Int), .int .i64 1, .int .i64 1] 34)
    have HS5 := Lib.hid (HS4.out.next hB5)
    have HK5 := Lib.hid (show Bx w4.heap.size ((c : Int), 1, 1) _ from new_block w4 (.cells #[.int .i64 (c : Int), .int .i64 1, .int .i64 1] 34))
    obtain ⟨x0, x1, x2⟩ := HS5.out.hx.cells
    clear hB5
    go_wp2_with fail
    refine (HSz.out _).mono ?_
    rintro e w6 ⟨rfl, hb6⟩
    have HS6 := Lib.hid (HS5.out.next hb6)
    have HK6 := Lib.hid (HK5.out.next hb6)
    clear hb6 HS5 HK5 HS4 x0 x1 x2 HSz
    generalize w4.heap.size = kx at *
    obtain ⟨x0, x1, x2⟩ := HS6.out.hx.cells
    obtain ⟨k0, k1, k2⟩ := HK6.out.cells
    have hsn : ¬ (sizeC c : Int) < (m : Int) := by omega
    have hsz0 : ¬ ((sizeC c : Int) = 0) := by omega
    obtain ⟨S, hS⟩ : ∃ S, S = sizeC c := ⟨_, rfl⟩
    obtain ⟨r, hr⟩ : ∃ r, r = q % S := ⟨_, rfl⟩
    rw [← hS, ← hr] at htm
    rw [← hS, ← hr] at hr0
    rw [← hS] at hS4 hS0 hfit hsn hsz0 ⊢
    have HSS := Lib.hid hS
    have hwr : IntKind.i64.wrap ((S : Int) - (r : Int)) = (S : Int) - (r : Int) := IntWalk.i64_in _ (by omega)
    clear hr hS
    by_cases hov : (S : Int) - (r : Int) < (bs.length : Int)
    · go_wp2_with fail
      refine (bk_big c4 r _ bs w6 HS6.out.rel (bytes_l HBL.out HS6.out.bel) (by omega) (by rw [← HSS.out]; omega)).mono ?_
      rintro e w7 ⟨rfl, ht7⟩
      have HB7 := Lib.hid (HS6.out.bel.trans (ht7.below HS6.out.bel.size))
      clear ht7
      go_wp2_with fail
      go_ret
      exact ⟨rfl, HB7.out⟩
    · have hok : r + bs.length ≤ sizeC c := by rw [← HSS.out]; omega
      have HOK := Lib.hid hok
      clear hok
      go_wp2_with fail
      refine (bk_wr c4 r _ bs w6 HS6.out.rel (bytes_l HBL.out HS6.out.bel) (by omega) HOK.out).mono ?_
      rintro e w7 ⟨rfl, hr7, ht7⟩
      have HS7 := Lib.hid (HS6.out.call hr7 ht7)
      have HK7 := Lib.hid (HK6.out.call ht7)
      clear hr7 ht7 HS6 HK6 x0 x1 x2 k0 k1 k2
      obtain ⟨x0, x1, x2⟩ := HS7.out.hx.cells
      go_wp2_with fail
      refine (bk_rd1 c4 r bs w7 HS7.out.rel HOK.out (by omega)).mono ?_
      rintro e w8 ⟨xv, rfl, hxv, hb8⟩
      have HS8 := Lib.hid (HS7.out.next hb8)
      have HK8 := Lib.hid (HK7.out.next hb8)
      have HX8 := Lib.hid hxv.reads
      clear hb8 hxv HS7 HK7 x0 x1 x2
      obtain ⟨k0, k1, k2⟩ := HK8.out.cells
      go_wp2_with fail
      have HRd2 := Lib.hid (bk_rd2 c4 _ w8 HS8.out.rel)
      rw [← HSS.out] at HRd2
      refine HRd2.out.mono ?_
      rintro e w9 ⟨yv, rfl, hyv, hb9⟩
      have HS9 := Lib.hid (HS8.out.next hb9)
      have HX9 := Lib.hid (HX8.out.kept hb9)
      have HY9 := Lib.hid hyv.reads
      obtain ⟨ya, yc, hyf⟩ := hyv.form
      rw [zer_length, ← HSS.out] at hyf
      subst hyf
      have hcx := HX9.out.conv
      have hcb := (bytes_r (bytes_l HBL.out HS9.out.bel) HS9.out.bel.size).conv
      clear hb9 hyv HS8 HX8 HK8 k0 k1 k2 HRd2
      go_wp2_with fail
      clear hcx hcb
      go_loop [15] (fun j => ∃ i : Nat, i ≤ S ∧ j = .int .i64 (i : Int)) (fun j => S - (intOf j).toNat)
      case atStart => exact ⟨0, Nat.zero_le _, rfl⟩
      case round =>
        obtain ⟨i, hi, rfl⟩ := hrel
        by_cases hlt : i < S
        · obtain ⟨yg, yo, rfl, hyc⟩ : ∃ g off, ya = some ⟨g, off, none⟩ ∧ w9.cell? ⟨g, off + i, none⟩ = some (.int .u8 0) := by
            rcases HY9.out with ⟨h, _⟩ | ⟨g, off, cap, h1, _, h3⟩
            · have h8 := zer_length c; rw [h] at h8; have h9 : S = 0 := by { rw [HSS.out, ← h8]; rfl }; omega
            · injection h1 with e1 e2 e3
              refine ⟨g, off, e1, ?_⟩
              have hz : i < (zer c).length := by rw [zer_length, ← HSS.out]; exact hlt
              rw [h3 i hz, zer_at c i hz]
          go_wp2_with fail
          go_round
          case rel => exact ⟨i + 1, by omega, by go_num⟩
          case measure => simp [intOf]; omega
        · clear HY9
          obtain ⟨x0, x1, x2⟩ := HS9.out.hx.cells
          go_wp2_with fail
          refine (bk_hold c4 _ _ w9 HS9.out.rel).mono ?_
          rintro e w10 ⟨rfl, hr10, ht10⟩
          have HS10 := Lib.hid (HS9.out.call hr10 ht10)
          clear hr10 ht10 x0 x1 x2 HX9
          obtain ⟨x0, x1, x2⟩ := HS10.out.hx.cells
          go_wp2_with fail
          refine (bk_drop c4 _ _ 1 w10 HS10.out.rel).mono ?_
          rintro e w11 ⟨rfl, hr11, ht11⟩
          have HS11 := Lib.hid (HS10.out.call hr11 ht11)
          clear hr11 ht11 x0 x1 x2
          obtain ⟨x0, x1, x2⟩ := HS11.out.hx.cells
          go_wp2_with fail
          refine (bk_held1 c4 _ _ w11 HS11.out.rel).mono ?_
          rintro e w12 ⟨rfl, hb12⟩
          have HS12 := Lib.hid (HS11.out.next hb12)
          clear hb12 x0 x1 x2
          obtain ⟨x0, x1, x2⟩ := HS12.out.hx.cells
          go_wp2_with fail
          refine (bk_drop c4 _ _ 0 w12 HS12.out.rel).mono ?_
          rintro e w13 ⟨rfl, hr13, ht13⟩
          have HS13 := Lib.hid (HS12.out.call hr13 ht13)
          clear hr13 ht13 x0 x1 x2
          obtain ⟨x0, x1, x2⟩ := HS13.out.hx.cells
          go_wp2_with fail
          refine (bk_drop0 c4 _ _ w13 HS13.out.rel).mono ?_
          rintro e w14 ⟨rfl, hr14, ht14⟩
          have HS14 := Lib.hid (HS13.out.call hr14 ht14)
          clear hr14 ht14 x0 x1 x2
          obtain ⟨x0, x1, x2⟩ := HS14.out.hx.cells
          go_wp2_with fail
          refine (bk_held0 c4 _ _ w14 HS14.out.rel).mono ?_
          rintro e w15 ⟨rfl, hb15⟩
          have HS15 := Lib.hid (HS14.out.next hb15)
          clear hb15 x0 x1 x2 HS9 HS10 HS11 HS12 HS13 HS14
          go_wp2_with fail
          refine (bk_al3 hm2 HC.out _ w15 HS15.out.rel).mono ?_
          rintro e w16 ⟨rfl, hr16, ht16⟩
          have HS16 := Lib.hid (HS15.out.call hr16 ht16)
          have hB17 := (Below.refl w16.heap.size w16).alloc (Nat.le_refl _) (.cells #[.int .i64 (c : Int), .int .i64 0, .int .i64 2] 34)
          have HS17 := Lib.hid (HS16.out.next hB17)
          have HG17 := Lib.hid (show Bx w16.heap.size ((c : Int), 0, 2) _ from new_block w16 (.cells #[.int .i64 (c : Int), .int .i64 0, .int .i64 2] 34))
          clear hr16 ht16 hB17 HS15
          have HRd3 := Lib.hid (fun V h => bk_rd3 (base := w.heap.size) (p := p) (n := fun _ => 2) (A := A) c4 ⟨1, 1, zer c⟩ V h)
          rw [← HSS.out] at HRd3
          go_wp2_with fail
          refine (HRd3.out _ HS17.out.rel).mono ?_
          rintro e w18 ⟨zv, rfl, hzv, hb18⟩
          have HS18 := Lib.hid (HS17.out.next hb18)
          have HG18 := Lib.hid (HG17.out.next hb18)
          have HZ18 := Lib.hid hzv.reads
          obtain ⟨za, zc, hzf⟩ := hzv.form
          rw [zer_length, ← HSS.out] at hzf
          subst hzf
          clear hb18 hzv HS16 HS17 HG17 HRd3
          generalize w16.heap.size = gx at *
          obtain ⟨x0, x1, x2⟩ := HS18.out.hx.cells
          obtain ⟨g0, g1, g2⟩ := HG18.out.cells
          go_wp2_with fail
          refine (bk_stale c4 _ w18 HS18.out.rel).mono ?_
          rintro e w19 ⟨rfl, hb19⟩
          have HS19 := Lib.hid (HS18.out.next hb19)
          have HZ19 := Lib.hid (HZ18.out.kept hb19)
          clear hb19 HS18 HG18 HZ18 x0 x1 x2 g0 g1 g2
          go_wp2_with fail
          go_loop [18] (fun j => ∃ i : Nat, i ≤ S ∧ j = .int .i64 (i : Int)) (fun j => S - (intOf j).toNat)
          case atStart => exact ⟨0, Nat.zero_le _, rfl⟩
          case round =>
            obtain ⟨i, hi, rfl⟩ := hrel
            by_cases hlt : i < S
            · obtain ⟨yg, yo, rfl, hyc⟩ : ∃ g off, za = some ⟨g, off, none⟩ ∧ w19.cell? ⟨g, off + i, none⟩ = some (.int .u8 0) := by
                rcases HZ19.out with ⟨h, _⟩ | ⟨g, off, cap, h1, _, h3⟩
                · have h8 := zer_length c; rw [h] at h8; have h9 : S = 0 := by { rw [HSS.out, ← h8]; rfl }; omega
                · injection h1 with e1 e2 e3
                  refine ⟨g, off, e1, ?_⟩
                  have hz : i < (zer c).length := by rw [zer_length, ← HSS.out]; exact hlt
                  rw [h3 i hz, zer_at c i hz]
              go_wp2_with fail
              go_round
              case rel => exact ⟨i + 1, by omega, by go_num⟩
              case measure => simp [intOf]; omega
            · clear HZ19
              go_wp2_with fail
              go_ret
              exact ⟨rfl, HS19.out.bel⟩
  · have hbl := bytes_in f2
    obtain ⟨ba, cap, rfl⟩ := hbl.form
    have hlen2 : ls2.length ≤ 500 := by omega
    have h500i : ¬ (500 : Int) < (ls2.length : Int) := by omega
    clear f2 h500
    go_enter Try.func5, Try.ntmps5
    go_wp2_with fail
    generalize ls2 = bs at *
    clear h500i l2
    refine (pnew_any (fun _ => 2) w).mono ?_
    rintro e w1 ⟨hb1, h2⟩
    rcases h2 with ⟨⟨k, _, hk⟩, _⟩ | ⟨_, ⟨k, _, hk⟩, _⟩ | ⟨_, p, rfl, hr⟩
    · exact absurd hk (by show ¬ (2 : Int) < 0; decide)
    · exact absurd hk (by show ¬ (4096 : Int) < 2; decide)
    have HBL := Lib.hid hbl
    have HR1 := Lib.hid (show PRel w1 w.heap.size p (fun _ => 2) (two (newA fun _ => 2) c noB noB) 0 from by have h := hr; rw [show (newA fun c => ((fun _ => (2 : Int)) c).toNat) = two (newA fun _ => 2) c noB noB from two_start c] at h; exact h)
    have HB1 := Lib.hid hb1
    clear hr hb1 hbl hc
    generalize (newA fun _ => 2) = A at *
    go_wp2_with fail
    refine (bk_al1 hm2 HC.out w1 HR1.out).mono ?_
    rintro e w2 ⟨rfl, hr2, ht2⟩
    have hB3 := (Below.refl w2.heap.size w2).alloc (Nat.le_refl _) (.cells #[.int .i64 (c : Int), .int .i64 0, .int .i64 1] 34)
    have HS3 := Lib.hid (show SB w p c _ 1 w2.heap.size _ from ⟨hr2.same hB3, Bl.next (HB1.out.trans (ht2.below HB1.out.size)) hB3, new_block w2 (.cells #[.int .i64 (c : Int), .int .i64 0, .int .i64 1] 34)⟩)
    clear hr2 ht2 hB3 HR1
    go_wp2_with fail
    refine (bk_al2 hm2 HC.out _ HS3.out.rel).mono ?_
    rintro e w4 ⟨rfl, hr4, ht4⟩
    have HS4 := Lib.hid (HS3.out.call hr4 ht4)
    clear hr4 ht4 HS3
    generalize w2.heap.size = bx at *
    have hB5 := (Below.refl w4.heap.size w4).alloc (Nat.le_refl _) (.cells #[.int .i64 (c : Int), .int .i64 1, .int .i64 1] 34)
    have HS5 := Lib.hid (HS4.out.next hB5)
    have HK5 := Lib.hid (show Bx w4.heap.size ((c : Int), 1, 1) _ from new_block w4 (.cells #[.int .i64 (c : Int), .int .i64 1, .int .i64 1] 34))
    obtain ⟨x0, x1, x2⟩ := HS5.out.hx.cells
    clear hB5
    go_wp2_with fail
    refine (HSz.out _).mono ?_
    rintro e w6 ⟨rfl, hb6⟩
    have HS6 := Lib.hid (HS5.out.next hb6)
    have HK6 := Lib.hid (HK5.out.next hb6)
    clear hb6 HS5 HK5 HS4 x0 x1 x2 HSz
    generalize w4.heap.size = kx at *
    obtain ⟨x0, x1, x2⟩ := HS6.out.hx.cells
    obtain ⟨k0, k1, k2⟩ := HK6.out.cells
    have hsn : ¬ (sizeC c : Int) < (m : Int) := by omega
    have hsz0 : ¬ ((sizeC c : Int) = 0) := by omega
    obtain ⟨S, hS⟩ : ∃ S, S = sizeC c := ⟨_, rfl⟩
    obtain ⟨r, hr⟩ : ∃ r, r = q % S := ⟨_, rfl⟩
    rw [← hS, ← hr] at htm
    rw [← hS, ← hr] at hr0
    rw [← hS] at hS4 hS0 hfit hsn hsz0 ⊢
    have HSS := Lib.hid hS
    have hwr : IntKind.i64.wrap ((S : Int) - (r : Int)) = (S : Int) - (r : Int) := IntWalk.i64_in _ (by omega)
    clear hr hS
    by_cases hov : (S : Int) - (r : Int) < (bs.length : Int)
    · go_wp2_with fail
      refine (bk_big c4 r _ bs w6 HS6.out.rel (bytes_l HBL.out HS6.out.bel) (by omega) (by rw [← HSS.out]; omega)).mono ?_
      rintro e w7 ⟨rfl, ht7⟩
      have HB7 := Lib.hid (HS6.out.bel.trans (ht7.below HS6.out.bel.size))
      clear ht7
      go_wp2_with fail
      go_ret
      exact ⟨rfl, HB7.out⟩
    · have hok : r + bs.length ≤ sizeC c := by rw [← HSS.out]; omega
      have HOK := Lib.hid hok
      clear hok
      go_wp2_with fail
      refine (bk_wr c4 r _ bs w6 HS6.out.rel (bytes_l HBL.out HS6.out.bel) (by omega) HOK.out).mono ?_
      rintro e w7 ⟨rfl, hr7, ht7⟩
      have HS7 := Lib.hid (HS6.out.call hr7 ht7)
      have HK7 := Lib.hid (HK6.out.call ht7)
      clear hr7 ht7 HS6 HK6 x0 x1 x2 k0 k1 k2
      obtain ⟨x0, x1, x2⟩ := HS7.out.hx.cells
      go_wp2_with fail
      refine (bk_rd1 c4 r bs w7 HS7.out.rel HOK.out (by omega)).mono ?_
      rintro e w8 ⟨xv, rfl, hxv, hb8⟩
      have HS8 := Lib.hid (HS7.out.next hb8)
      have HK8 := Lib.hid (HK7.out.next hb8)
      have HX8 := Lib.hid hxv.reads
      clear hb8 hxv HS7 HK7 x0 x1 x2
      obtain ⟨k0, k1, k2⟩ := HK8.out.cells
      go_wp2_with fail
      have HRd2 := Lib.hid (bk_rd2 c4 _ w8 HS8.out.rel)
      rw [← HSS.out] at HRd2
      refine HRd2.out.mono ?_
      rintro e w9 ⟨yv, rfl, hyv, hb9⟩
      have HS9 := Lib.hid (HS8.out.next hb9)
      have HX9 := Lib.hid (HX8.out.kept hb9)
      have HY9 := Lib.hid hyv.reads
      obtain ⟨ya, yc, hyf⟩ := hyv.form
      rw [zer_length, ← HSS.out] at hyf
      subst hyf
      have hcx := HX9.out.conv
      have hcb := (bytes_r (bytes_l HBL.out HS9.out.bel) HS9.out.bel.size).conv
      clear hb9 hyv HS8 HX8 HK8 k0 k1 k2 HRd2
      go_wp2_with fail
      clear hcx hcb
      go_loop [15] (fun j => ∃ i : Nat, i ≤ S ∧ j = .int .i64 (i : Int)) (fun j => S - (intOf j).toNat)
      case atStart => exact ⟨0, Nat.zero_le _, rfl⟩
      case round =>
        obtain ⟨i, hi, rfl⟩ := hrel
        by_cases hlt : i < S
        · obtain ⟨yg, yo, rfl, hyc⟩ : ∃ g off, ya = some ⟨g, off, none⟩ ∧ w9.cell? ⟨g, off + i, none⟩ = some (.int .u8 0) := by
            rcases HY9.out with ⟨h, _⟩ | ⟨g, off, cap, h1, _, h3⟩
            · have h8 := zer_length c; rw [h] at h8; have h9 : S = 0 := by { rw [HSS.out, ← h8]; rfl }; omega
            · injection h1 with e1 e2 e3
              refine ⟨g, off, e1, ?_⟩
              have hz : i < (zer c).length := by rw [zer_length, ← HSS.out]; exact hlt
              rw [h3 i hz, zer_at c i hz]
          go_wp2_with fail
          go_round
          case rel => exact ⟨i + 1, by omega, by go_num⟩
          case measure => simp [intOf]; omega
        · clear HY9
          obtain ⟨x0, x1, x2⟩ := HS9.out.hx.cells
          go_wp2_with fail
          refine (bk_hold c4 _ _ w9 HS9.out.rel).mono ?_
          rintro e w10 ⟨rfl, hr10, ht10⟩
          have HS10 := Lib.hid (HS9.out.call hr10 ht10)
          clear hr10 ht10 x0 x1 x2 HX9
          obtain ⟨x0, x1, x2⟩ := HS10.out.hx.cells
          go_wp2_with fail
          refine (bk_drop c4 _ _ 1 w10 HS10.out.rel).mono ?_
          rintro e w11 ⟨rfl, hr11, ht11⟩
          have HS11 := Lib.hid (HS10.out.call hr11 ht11)
          clear hr11 ht11 x0 x1 x2
          obtain ⟨x0, x1, x2⟩ := HS11.out.hx.cells
          go_wp2_with fail
          refine (bk_held1 c4 _ _ w11 HS11.out.rel).mono ?_
          rintro e w12 ⟨rfl, hb12⟩
          have HS12 := Lib.hid (HS11.out.next hb12)
          clear hb12 x0 x1 x2
          obtain ⟨x0, x1, x2⟩ := HS12.out.hx.cells
          go_wp2_with fail
          refine (bk_drop c4 _ _ 0 w12 HS12.out.rel).mono ?_
          rintro e w13 ⟨rfl, hr13, ht13⟩
          have HS13 := Lib.hid (HS12.out.call hr13 ht13)
          clear hr13 ht13 x0 x1 x2
          obtain ⟨x0, x1, x2⟩ := HS13.out.hx.cells
          go_wp2_with fail
          refine (bk_drop0 c4 _ _ w13 HS13.out.rel).mono ?_
          rintro e w14 ⟨rfl, hr14, ht14⟩
          have HS14 := Lib.hid (HS13.out.call hr14 ht14)
          clear hr14 ht14 x0 x1 x2
          obtain ⟨x0, x1, x2⟩ := HS14.out.hx.cells
          go_wp2_with fail
          refine (bk_held0 c4 _ _ w14 HS14.out.rel).mono ?_
          rintro e w15 ⟨rfl, hb15⟩
          have HS15 := Lib.hid (HS14.out.next hb15)
          clear hb15 x0 x1 x2 HS9 HS10 HS11 HS12 HS13 HS14
          go_wp2_with fail
          refine (bk_al3 hm2 HC.out _ w15 HS15.out.rel).mono ?_
          rintro e w16 ⟨rfl, hr16, ht16⟩
          have HS16 := Lib.hid (HS15.out.call hr16 ht16)
          have hB17 := (Below.refl w16.heap.size w16).alloc (Nat.le_refl _) (.cells #[.int .i64 (c : Int), .int .i64 0, .int .i64 2] 34)
          have HS17 := Lib.hid (HS16.out.next hB17)
          have HG17 := Lib.hid (show Bx w16.heap.size ((c : Int), 0, 2) _ from new_block w16 (.cells #[.int .i64 (c : Int), .int .i64 0, .int .i64 2] 34))
          clear hr16 ht16 hB17 HS15
          have HRd3 := Lib.hid (fun V h => bk_rd3 (base := w.heap.size) (p := p) (n := fun _ => 2) (A := A) c4 ⟨1, 1, zer c⟩ V h)
          rw [← HSS.out] at HRd3
          go_wp2_with fail
          refine (HRd3.out _ HS17.out.rel).mono ?_
          rintro e w18 ⟨zv, rfl, hzv, hb18⟩
          have HS18 := Lib.hid (HS17.out.next hb18)
          have HG18 := Lib.hid (HG17.out.next hb18)
          have HZ18 := Lib.hid hzv.reads
          obtain ⟨za, zc, hzf⟩ := hzv.form
          rw [zer_length, ← HSS.out] at hzf
          subst hzf
          clear hb18 hzv HS16 HS17 HG17 HRd3
          generalize w16.heap.size = gx at *
          obtain ⟨x0, x1, x2⟩ := HS18.out.hx.cells
          obtain ⟨g0, g1, g2⟩ := HG18.out.cells
          go_wp2_with fail
          refine (bk_stale c4 _ w18 HS18.out.rel).mono ?_
          rintro e w19 ⟨rfl, hb19⟩
          have HS19 := Lib.hid (HS18.out.next hb19)
          have HZ19 := Lib.hid (HZ18.out.kept hb19)
          clear hb19 HS18 HG18 HZ18 x0 x1 x2 g0 g1 g2
          go_wp2_with fail
          go_loop [18] (fun j => ∃ i : Nat, i ≤ S ∧ j = .int .i64 (i : Int)) (fun j => S - (intOf j).toNat)
          case atStart => exact ⟨0, Nat.zero_le _, rfl⟩
          case round =>
            obtain ⟨i, hi, rfl⟩ := hrel
            by_cases hlt : i < S
            · obtain ⟨yg, yo, rfl, hyc⟩ : ∃ g off, za = some ⟨g, off, none⟩ ∧ w19.cell? ⟨g, off + i, none⟩ = some (.int .u8 0) := by
                rcases HZ19.out with ⟨h, _⟩ | ⟨g, off, cap, h1, _, h3⟩
                · have h8 := zer_length c; rw [h] at h8; have h9 : S = 0 := by { rw [HSS.out, ← h8]; rfl }; omega
                · injection h1 with e1 e2 e3
                  refine ⟨g, off, e1, ?_⟩
                  have hz : i < (zer c).length := by rw [zer_length, ← HSS.out]; exact hlt
                  rw [h3 i hz, zer_at c i hz]
              go_wp2_with fail
              go_round
              case rel => exact ⟨i + 1, by omega, by go_num⟩
              case measure => simp [intOf]; omega
            · clear HZ19
              go_wp2_with fail
              go_ret
              exact ⟨rfl, HS19.out.bel⟩

set_option maxRecDepth 100000 in
theorem lifted (os : Os) (started : os.Started) (H : Type) (enc : TypeId × Value → H) :
    ReturnsInHanded {} Try.checked os 5 .any (Rows.slabBackSpec.pre6 enc Try.prog Try.f5 Rows.slabBackRow.domain false) (Rows.slabBackSpec.post enc Try.prog Try.f5 false true false false) := by
  refine returnsInHanded_of_change_sized (C := Try.checked) own started (by kernel_rfl) Try.func5
    (ChangeSpec.witness6 (enc := enc) (C := Try.checked) false ⟨#[], #[.int .i64 0, .int .i64 0, .slice none 0 0], []⟩ 8 (by kernel_rfl) (by kernel_rfl) (by kernel_rfl) (by kernel_rfl)) ?_
  intro W base args ds gs before hval0 hW hcnd hsz _
  have hval : ∀ (j : Nat) t v, Try.f5.params[j]? = some t → args[j]? = some v → Value.okWide Try.prog W .any base t v := hval0
  have hW' := hW
  obtain ⟨p, q, hA0, hV, rfl, hfz, hnd⟩ := hW
  have hA : DataW.TrodAll enc Try.prog W 0 (fun _ => true) true Try.f5.params.toList args.toList ds p := hA0
  rw [Try.params5] at hA hval hsz
  obtain ⟨v0, vs0, d0, ds0, p0, q0, hargs, rfl, rfl, h0, r0⟩ := trodAll_cons hA
  obtain ⟨v1, vs1, d1, ds1, p1, q1, rfl, rfl, rfl, h1, r1⟩ := trodAll_cons r0
  obtain ⟨v2, vs2, d2, ds2, p2, q2, rfl, rfl, rfl, h2, r2⟩ := trodAll_cons r1
  obtain ⟨rfl, rfl, rfl⟩ := trodAll_nil r2
  obtain rfl : args = #[v0, v1, v2] := by cases args; simp_all
  obtain ⟨rfl, rfl⟩ := trodVars_none hV
  obtain ⟨a0, rfl, rfl, rfl, w0⟩ := open_int Try.underlying3 (hval 0 3 v0 rfl rfl) h0
  obtain ⟨a1, rfl, rfl, rfl, w1⟩ := open_int Try.underlying3 (hval 1 3 v1 rfl rfl) h1
  have k2 := h2
  have lt2 : ∀ x ∈ p2, x.block < W.heap.size := by obtain ⟨m, hm⟩ := k2; exact DataW.trod_lt m _ _ _ hm
  obtain ⟨ls2, f2, l2⟩ := Hd.open_byts (hval 2 35 v2 rfl rfl) h2
  clear hA0 hval0
  simp only [List.append_nil] at hW'
  refine (walk a0 w0 a1 w1 v2 ls2 W f2 l2).mono fun e W' ⟨he, bel⟩ => ?_
  subst he
  exact ⟨_, rfl, _, _, _, [], _, [], hW', trodAll_mk1 (shut_bool Try.underlying4 _), (trodAll_cons_mk (shut_int Try.underlying3 w0) (trodAll_cons_mk (shut_int Try.underlying3 w1) (trodAll_cons_mk (Below.trod laidOut (by kernel_rfl) (of_decide_eq_true (by kernel_rfl)) k2 bel lt2) trodAll_mk0))), rfl, bel.frame _, fun h => by cases h⟩

theorem over : Rows.slabBackRow.holds Try.pinned (OpenSpec.ofChange Rows.slabBackSpec) :=
  OpenClaim.holds_of_wide 5 Try.f5 rfl rfl rfl rfl rfl rfl rfl ⟨rfl, rfl, rfl, rfl, rfl⟩ rfl rfl rfl rfl rfl (by kernel_rfl) Try.func5 (by kernel_rfl)
    (of_decide_eq_true (by kernel_rfl)) (by unfold Func.isWrapper; first | (rw [if_pos (by decide +kernel)]; kernel_rfl) | (rw [if_neg (by decide +kernel)]; exact ⟨rfl, rfl⟩))
    (fun os started H enc _ => lifted os started H enc)

theorem proved : Rows.SlabBackSaid := over
end Go.Proofs.Ytheljldoboiekaa.slabBack
