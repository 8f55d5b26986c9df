/-
  The program's part of a block: what it returns. Condition: the arena and the plain one are related; numbers of an int.
-/
import Derived.Test.YtheljldoboiekaaSlPRel
import Derived.Test.YtheljldoboiekaaSlRead
namespace Go.Proofs.Ytheljldoboiekaa.Sl
open Go.RowKit Go.Proofs.Ytheljldoboiekaa.Fd
set_option maxRecDepth 100000
set_option linter.unusedVariables false
set_option linter.unusedSimpArgs false

/-- What a right block is. -/
def cfun (c i : Nat) (b : Blk) (Q : Mp) (A : Ar) (q : Nat) : Prop := c < 4 ∧ (A c)[i]? = some b ∧ b.held ≠ 0 ∧ Q c i = some q
/-- A part of a block's memory, or what is wrong. -/
def PartP (Q : Mp) (A : Ar) (c i g at' m : Int) (w : World) (e : Ending) (w' : World) : Prop :=
  Below w.heap.size w w' ∧
  ((rightA A (c, i, g) = none ∧ e = .returned (.tuple #[.slice none 0 0, .int .i64 15])) ∨
   (∃ b, rightA A (c, i, g) = some b ∧ fitsI c at' m = false ∧ e = .returned (.tuple #[.slice none 0 0, .int .i64 2])) ∨
   ∃ (cn im q an mn cap : Nat) (b : Blk) (ad : Addr), c = (cn : Int) ∧ i = (im : Int) ∧ at' = (an : Int) ∧ m = (mn : Int) ∧ cn < 4 ∧ (A cn)[im]? = some b ∧ b.held ≠ 0 ∧ (b.gen : Int) = g ∧ rightA A (c, i, g) = some b ∧ fitsI c at' m = true ∧ Q cn im = some q ∧ an + mn ≤ sizeC cn ∧
     mn ≤ cap ∧ (0 < mn → ad = ⟨q, an, none⟩) ∧ e = .returned (.tuple #[.slice (some ad) mn cap, .int .i64 0]))
set_option maxHeartbeats 4000000 in
theorem part_any {base p : Nat} {n gs : Nat → Nat} {Q : Mp} {M : Nat → Nat → Tk.Bs} {A : Ar} {G : Nat} (c i g at' m : Int) (w : World) (hP : PAt w base p n gs Q M A) (hG : PGood Q M A G) (hfew : ∀ c, c < 4 → n c ≤ 4096)
    (hm : m ≤ 9223372036854775807) :
    Calls Try.prog 40 #[.pointer (some ⟨p, 0, none⟩), .agg #[.int .i64 c, .int .i64 i, .int .i64 g], .int .i64 at', .int .i64 m] w (PartP Q A c i g at' m w) := by
  have hB1 := (Below.refl w.heap.size w).alloc (Nat.le_refl _) (.cells #[.int .i64 c, .int .i64 i, .int .i64 g] 34)
  have HR := Lib.hid (pright_any c i g _ (hP.same hB1) hG.aged hfew)
  rcases right_ways (A := A) gs c i g with ⟨h1, h2⟩ | ⟨c, i, b, rfl, rfl, c4, hb, hh, rfl, h1, h2⟩
  · have H1 := Lib.hid h1
    rw [h2] at HR
    clear h1 h2 hP hG
    go_enter Try.func40, Try.ntmps40
    go_wp2_with fail
    refine HR.out.mono ?_
    rintro e w2 ⟨rfl, hb2⟩
    have HB := Lib.hid (Bl.next hB1 hb2)
    clear hb2 hB1 HR
    go_wp2_with fail
    go_ret2
    exact ⟨HB.out, .inl ⟨H1.out, rfl⟩⟩
  · have hgl := hP.ltG c4
    obtain ⟨hge, ⟨q, hq⟩, hmem⟩ := hG.busy c i b c4 hb hh
    rw [h2] at HR
    have d4 := (hP.cell c4 hb (t := 4) (by decide)).1
    replace d4 : w.cell? ⟨gs c, i * 5 + 4, none⟩ = some (bytV c (Q c i)) := d4
    rw [hq] at d4
    replace d4 : w.cell? ⟨gs c, i * 5 + 4, none⟩ = some (.slice (some ⟨q, 0, none⟩) (sizeC c) (sizeC c)) := d4
    have hS : sizesI (c : Int) = (sizeC c : Int) := by unfold sizesI; rw [if_pos (by omega), Int.toNat_natCast]
    have hSl := sizes_le (c : Int)
    have hfit := fits_iff (c := (c : Int)) (i := at') (n := m)
    rw [hS] at hfit hSl
    have H1 := Lib.hid h1
    have HD := Lib.hid (show cfun c i b Q A q from ⟨c4, hb, hh, hq⟩)
    clear h1 h2 hP hG hb hh hge hmem hq hS
    go_enter Try.func40, Try.ntmps40
    go_wp2_with fail
    refine HR.out.mono ?_
    rintro e w2 ⟨rfl, hb2⟩
    have hB2 := Bl.next hB1 hb2
    replace d4 := (hB2.cell (p := ⟨gs c, i * 5 + 4, none⟩) hgl).trans d4
    have HB := Lib.hid hB2
    clear hb2 hB1 HR hB2
    obtain ⟨S, hS⟩ : ∃ S, sizeC c = S := ⟨_, rfl⟩
    rw [hS] at d4 hSl hfit
    by_cases hat : at' < 0
    · have HX := Lib.hid (show fitsI (c : Int) at' m = false from by rw [Bool.eq_false_iff, Ne, hfit]; omega)
      clear hfit
      go_wp2_with fail
      go_ret2
      exact ⟨HB.out, .inr (.inl ⟨b, H1.out, HX.out, rfl⟩)⟩
    · by_cases hm0 : m < 0
      · have HX := Lib.hid (show fitsI (c : Int) at' m = false from by rw [Bool.eq_false_iff, Ne, hfit]; omega)
        clear hfit
        go_wp2_with fail
        go_ret2
        exact ⟨HB.out, .inr (.inl ⟨b, H1.out, HX.out, rfl⟩)⟩
      · have hw : IntKind.i64.wrap ((S : Int) - m) = (S : Int) - m := IntWalk.i64_in _ (by omega)
        by_cases hbig : (S : Int) - m < at'
        · have HX := Lib.hid (show fitsI (c : Int) at' m = false from by rw [Bool.eq_false_iff, Ne, hfit]; omega)
          clear hfit
          go_wp2_with fail
          go_ret2
          exact ⟨HB.out, .inr (.inl ⟨b, H1.out, HX.out, rfl⟩)⟩
        · have HX := Lib.hid (show fitsI (c : Int) at' m = true from by rw [hfit]; omega)
          obtain ⟨an, rfl⟩ : ∃ x : Nat, at' = x := ⟨at'.toNat, by omega⟩
          obtain ⟨mn, rfl⟩ : ∃ x : Nat, m = x := ⟨m.toNat, by omega⟩
          have k1 : an + mn ≤ S := by omega
          have k2 : ((an + mn : Nat) : Int) ≤ 9223372036854775807 := by omega
          have hsum : IntKind.i64.wrap ((an : Int) + (mn : Int)) = ((an + mn : Nat) : Int) := by rw [IntWalk.i64_in _ (by omega)]; omega
          clear hfit
          go_wp2_with fail
          all_goals
            go_ret2
            obtain ⟨z1, z2, z3, z4⟩ := HD.out
            refine ⟨HB.out, .inr (.inr ⟨c, i, q, an, mn, _, b, _, rfl, rfl, rfl, rfl, z1, z2, z3, rfl, H1.out, HX.out, z4, by omega, ?_, ?_, rfl⟩)⟩
            · omega
            · intro hmp; first | rfl | (exfalso; omega) | (simp; done)
end Go.Proofs.Ytheljldoboiekaa.Sl
