/-
  Texts that the laws' proofs stand on, 2 of them in one file; each one's head says what it proves and under which condition.
-/
import Derived.Test.YtledjiikpajdaaaDoorVtAllP18
import Derived.Test.YtledjiikpajdaaaDoorVtAllP19
import Derived.Test.YtledjiikpajdaaaDoorVtAllP16
import Derived.Test.YtledjiikpajdaaaDoorVtAllP7
import Derived.Deep.WholeRow
/-
  gatepostref02.Format: what it returns of a second from 0 to the last one of 9999. No condition.
-/
namespace Go.Proofs.YtledjiikpajdaaaDoor.Dp
open Go.RowKit Go.Proofs.YtledjiikpajdaaaDoor.Dt
set_option linter.unusedVariables false
set_option maxRecDepth 100000

/-- What the blocks hold that short and months made. -/
def Made : Nat → Nat → World → Prop
  | 0, b, W => ∀ k, k < 7 → W.cell? ⟨b, k, none⟩ = some (.string (B (short k)))
  | _, b, W => ∀ k, k < 12 → W.cell? ⟨b, k, none⟩ = some (.string (B (monNames.getD k [])))
def madeVal : Nat → Nat → Value
  | 0, b => .slice (some ⟨b, 0, none⟩) 7 7
  | _, b => .slice (some ⟨b, 0, none⟩) 12 12
theorem made_more (j b : Nat) (W W' : World) (h : Made j b W) (hb : Below W.heap.size W W') : Made j b W' := by
  cases j with
  | zero => exact fun k hk => (hb.cell (p := ⟨b, k, none⟩) (World.block_lt_of_cell? W _ (h k hk))).trans (h k hk)
  | succ j => exact fun k hk => (hb.cell (p := ⟨b, k, none⟩) (World.block_lt_of_cell? W _ (h k hk))).trans (h k hk)
theorem below_drewN (w : World) (n : Nat) : Below w.heap.size w (w.drewN n) := ⟨rfl, rfl, rfl, Nat.le_refl _, fun j hj => rfl⟩
set_option maxHeartbeats 16000000 in
theorem rformat_in (sec : Int) (w : World) (h0 : 0 ≤ sec) (h1 : sec ≤ 253402300799) :
    Calls Tryd.prog 13 #[.int .i64 sec] w fun e w' => (∃ (y : Int) (k : Nat) (d : Int), e = .returned (.string (B (form1 ((sec / 86400 + 3) % 7).toNat y.toNat k d.toNat (sec % 86400).toNat))) ∧ Valid y k d ∧ dayOf y k d = sec / 86400) ∧ Below w.heap.size w w' := by
  have b1 : sec / 86400 ≤ 2932896 := by omega
  go_enter Tryd.func13, Tryd.ntmps13
  go_wp2_with fail
  refine (rcivil_in (sec / 86400) w (by omega) (by omega)).mono ?_
  rintro e w' ⟨⟨y, k, d, rfl, hv, hd⟩, rfl⟩
  have hd31 : d ≤ 31 := by have := mlen_pos y k hv.k1; have := hv.d1; omega
  have hy0 := hv.y0
  have hy1 := hv.y1
  have hk := hv.k1
  have hd1 := hv.d0
  have HV := Lib.hid hv
  have HD := Lib.hid hd
  clear hv hd
  go_wp2_with fail
  obtain ⟨D, hD⟩ : ∃ D, D = sec / 86400 := ⟨_, rfl⟩
  obtain ⟨c, hc⟩ : ∃ c, c = sec % 86400 := ⟨_, rfl⟩
  rw [← hD] at HD b1
  simp only [← hD, ← hc]
  have HDD := Lib.hid hD
  have HCC := Lib.hid hc
  have d0 : 0 ≤ D := by omega
  have c0 : 0 ≤ c := by omega
  have c1 : c < 86400 := by omega
  clear hD hc
  obtain ⟨wd, hwd⟩ : ∃ wd : Nat, (D + 3) % 7 = (wd : Int) := ⟨((D + 3) % 7).toNat, by omega⟩
  have hwd7 : wd < 7 := by omega
  have HWD := Lib.hid (show ((D + 3) % 7).toNat = wd by omega)
  obtain ⟨T1, hT1⟩ : ∃ t, t = B (short wd) := ⟨_, rfl⟩
  have sT1 : T1.size = 3 := by rw [hT1, B_size, short_length wd hwd7]
  obtain ⟨T2, hT2⟩ : ∃ t, t = B (two d.toNat) := ⟨_, rfl⟩
  have sT2 : T2.size = 2 := by rw [hT2, B_size]; rfl
  obtain ⟨T3, hT3⟩ : ∃ t, t = B (monNames.getD k []) := ⟨_, rfl⟩
  have sT3 : T3.size = 3 := by rw [hT3, B_size, mon_length k hk]
  obtain ⟨T4, hT4⟩ : ∃ t, t = B (two (y / 100).toNat) := ⟨_, rfl⟩
  have sT4 : T4.size = 2 := by rw [hT4, B_size]; rfl
  obtain ⟨T5, hT5⟩ : ∃ t, t = B (two (y % 100).toNat) := ⟨_, rfl⟩
  have sT5 : T5.size = 2 := by rw [hT5, B_size]; rfl
  obtain ⟨T6, hT6⟩ : ∃ t, t = B (two (c / 3600).toNat) := ⟨_, rfl⟩
  have sT6 : T6.size = 2 := by rw [hT6, B_size]; rfl
  obtain ⟨T7, hT7⟩ : ∃ t, t = B (two (c / 60 % 60).toNat) := ⟨_, rfl⟩
  have sT7 : T7.size = 2 := by rw [hT7, B_size]; rfl
  obtain ⟨T8, hT8⟩ : ∃ t, t = B (two (c % 60).toNat) := ⟨_, rfl⟩
  have sT8 : T8.size = 2 := by rw [hT8, B_size]; rfl
  have C2 := Lib.hid (show ∀ V : World, Calls Tryd.prog 32 #[.int .i64 (d)] V fun e w' => e = .returned (.string T2) ∧ ∃ q, w' = V.drewN q from fun V => by rw [hT2]; exact rtwo_any (d) (d).toNat V (by omega) (by omega))
  have C4 := Lib.hid (show ∀ V : World, Calls Tryd.prog 32 #[.int .i64 (y / 100)] V fun e w' => e = .returned (.string T4) ∧ ∃ q, w' = V.drewN q from fun V => by rw [hT4]; exact rtwo_any (y / 100) (y / 100).toNat V (by omega) (by omega))
  have C5 := Lib.hid (show ∀ V : World, Calls Tryd.prog 32 #[.int .i64 (y % 100)] V fun e w' => e = .returned (.string T5) ∧ ∃ q, w' = V.drewN q from fun V => by rw [hT5]; exact rtwo_any (y % 100) (y % 100).toNat V (by omega) (by omega))
  have C6 := Lib.hid (show ∀ V : World, Calls Tryd.prog 32 #[.int .i64 (c / 3600)] V fun e w' => e = .returned (.string T6) ∧ ∃ q, w' = V.drewN q from fun V => by rw [hT6]; exact rtwo_any (c / 3600) (c / 3600).toNat V (by omega) (by omega))
  have C7 := Lib.hid (show ∀ V : World, Calls Tryd.prog 32 #[.int .i64 (c / 60 % 60)] V fun e w' => e = .returned (.string T7) ∧ ∃ q, w' = V.drewN q from fun V => by rw [hT7]; exact rtwo_any (c / 60 % 60) (c / 60 % 60).toNat V (by omega) (by omega))
  have C8 := Lib.hid (show ∀ V : World, Calls Tryd.prog 32 #[.int .i64 (c % 60)] V fun e w' => e = .returned (.string T8) ∧ ∃ q, w' = V.drewN q from fun V => by rw [hT8]; exact rtwo_any (c % 60) (c % 60).toNat V (by omega) (by omega))
  obtain ⟨p0, hp0⟩ : ∃ t, T1 ++ ⟨#[44, 32]⟩ = t := ⟨_, rfl⟩
  have sp0 : p0.size = 5 := by rw [← hp0, ByteArray.size_append]; rw [sT1]; rfl
  obtain ⟨p1, hp1⟩ : ∃ t, p0 ++ T2 = t := ⟨_, rfl⟩
  have sp1 : p1.size = 7 := by rw [← hp1, ByteArray.size_append]; rw [sp0, sT2]
  obtain ⟨p2, hp2⟩ : ∃ t, p1 ++ ⟨#[32]⟩ = t := ⟨_, rfl⟩
  have sp2 : p2.size = 8 := by rw [← hp2, ByteArray.size_append]; rw [sp1]; rfl
  obtain ⟨p3, hp3⟩ : ∃ t, p2 ++ T3 = t := ⟨_, rfl⟩
  have sp3 : p3.size = 11 := by rw [← hp3, ByteArray.size_append]; rw [sp2, sT3]
  obtain ⟨p4, hp4⟩ : ∃ t, p3 ++ ⟨#[32]⟩ = t := ⟨_, rfl⟩
  have sp4 : p4.size = 12 := by rw [← hp4, ByteArray.size_append]; rw [sp3]; rfl
  obtain ⟨p5, hp5⟩ : ∃ t, p4 ++ T4 = t := ⟨_, rfl⟩
  have sp5 : p5.size = 14 := by rw [← hp5, ByteArray.size_append]; rw [sp4, sT4]
  obtain ⟨p6, hp6⟩ : ∃ t, p5 ++ T5 = t := ⟨_, rfl⟩
  have sp6 : p6.size = 16 := by rw [← hp6, ByteArray.size_append]; rw [sp5, sT5]
  obtain ⟨p7, hp7⟩ : ∃ t, p6 ++ ⟨#[32]⟩ = t := ⟨_, rfl⟩
  have sp7 : p7.size = 17 := by rw [← hp7, ByteArray.size_append]; rw [sp6]; rfl
  obtain ⟨p8, hp8⟩ : ∃ t, p7 ++ T6 = t := ⟨_, rfl⟩
  have sp8 : p8.size = 19 := by rw [← hp8, ByteArray.size_append]; rw [sp7, sT6]
  obtain ⟨p9, hp9⟩ : ∃ t, p8 ++ ⟨#[58]⟩ = t := ⟨_, rfl⟩
  have sp9 : p9.size = 20 := by rw [← hp9, ByteArray.size_append]; rw [sp8]; rfl
  obtain ⟨p10, hp10⟩ : ∃ t, p9 ++ T7 = t := ⟨_, rfl⟩
  have sp10 : p10.size = 22 := by rw [← hp10, ByteArray.size_append]; rw [sp9, sT7]
  obtain ⟨p11, hp11⟩ : ∃ t, p10 ++ ⟨#[58]⟩ = t := ⟨_, rfl⟩
  have sp11 : p11.size = 23 := by rw [← hp11, ByteArray.size_append]; rw [sp10]; rfl
  obtain ⟨p12, hp12⟩ : ∃ t, p11 ++ T8 = t := ⟨_, rfl⟩
  have sp12 : p12.size = 25 := by rw [← hp12, ByteArray.size_append]; rw [sp11, sT8]
  obtain ⟨p13, hp13⟩ : ∃ t, p12 ++ ⟨#[32, 71, 77, 84]⟩ = t := ⟨_, rfl⟩
  have sp13 : p13.size = 29 := by rw [← hp13, ByteArray.size_append]; rw [sp12]; rfl
  have HT1 := Lib.hid hT1
  have HT3 := Lib.hid hT3
  have HR := Lib.hid (show p13 = B (form1 wd y.toNat k d.toNat c.toNat) from by
    have e1 : c.toNat / 3600 = (c / 3600).toNat := by omega
    have e2 : c.toNat / 60 % 60 = (c / 60 % 60).toNat := by omega
    have e3 : c.toNat % 60 = (c % 60).toNat := by omega
    have e4 : y.toNat / 100 = (y / 100).toNat := by omega
    have e5 : y.toNat % 100 = (y % 100).toNat := by omega
    rw [← hp13, ← hp12, ← hp11, ← hp10, ← hp9, ← hp8, ← hp7, ← hp6, ← hp5, ← hp4, ← hp3, ← hp2, ← hp1, ← hp0, hT1, hT2, hT3, hT4, hT5, hT6, hT7, hT8]
    rw [show (⟨#[44, 32]⟩ : ByteArray) = B [44, 32] from rfl, show (⟨#[32]⟩ : ByteArray) = B [32] from rfl, show (⟨#[58]⟩ : ByteArray) = B [58] from rfl, show (⟨#[32, 71, 77, 84]⟩ : ByteArray) = B [32, 71, 77, 84] from rfl]
    simp only [B_append, form1, four, clk, e1, e2, e3, e4, e5, List.append_assoc])
  clear hT1 hT2 hT3 hT4 hT5 hT6 hT7 hT8
  have q1 : IntKind.i64.wrap (D + 3) = D + 3 := IntWalk.i64_in _ (by omega)
  have q2 : (D + 3).tmod 7 = (wd : Int) := by rw [Int.tmod_eq_emod_of_nonneg (by omega)]; exact hwd
  have q3 : IntKind.i64.wrap ((k : Int) + 1 - 1) = (k : Int) := by rw [show (k : Int) + 1 - 1 = k by omega]; exact IntWalk.i64_in _ (by omega)
  have q4 : y.tdiv 100 = y / 100 := Int.tdiv_eq_ediv_of_nonneg (by omega)
  have q5 : y.tmod 100 = y % 100 := Int.tmod_eq_emod_of_nonneg (by omega)
  have q6 : c.tdiv 3600 = c / 3600 := Int.tdiv_eq_ediv_of_nonneg (by omega)
  have q7 : c.tdiv 60 = c / 60 := Int.tdiv_eq_ediv_of_nonneg (by omega)
  have q8 : (c / 60).tmod 60 = c / 60 % 60 := Int.tmod_eq_emod_of_nonneg (by omega)
  have q9 : c.tmod 60 = c % 60 := Int.tmod_eq_emod_of_nonneg (by omega)
  have r1 : IntKind.i64.wrap (wd : Int) = (wd : Int) := IntWalk.i64_in _ (by omega)
  have r2 : IntKind.i64.wrap (y / 100) = y / 100 := IntWalk.i64_in _ (by omega)
  have r3 : IntKind.i64.wrap (y % 100) = y % 100 := IntWalk.i64_in _ (by omega)
  have r4 : IntKind.i64.wrap (c / 3600) = c / 3600 := IntWalk.i64_in _ (by omega)
  have r5 : IntKind.i64.wrap (c / 60) = c / 60 := IntWalk.i64_in _ (by omega)
  have r6 : IntKind.i64.wrap (c / 60 % 60) = c / 60 % 60 := IntWalk.i64_in _ (by omega)
  have r7 : IntKind.i64.wrap (c % 60) = c % 60 := IntWalk.i64_in _ (by omega)
  have r8 : IntKind.i64.wrap (k : Int) = (k : Int) := IntWalk.i64_in _ (by omega)
  have t1 : (wd : Int) < 7 := by omega
  have t2 : (k : Int) < 12 := by omega
  have t3 : (0 : Int) ≤ (wd : Int) := by omega
  have t4 : (0 : Int) ≤ (k : Int) := by omega
  refine Rg.pend_fill (n := 67) (spec := [0, 11]) (A := Made) (sv := madeVal) (J := fun V => Below w.heap.size w V) (fun x => [(24, .slice (some ⟨x 0, 0, none⟩) 7 7), (25, .int .i64 (D)), (26, .int .i64 (D + 3)), (27, .int .i64 ((wd : Int))), (28, .pointer (some ⟨x 0, wd, none⟩)), (29, .string T1), (30, .string p0), (31, .int .i64 (d)), (32, .string T2), (33, .string p1), (34, .string p2), (35, .slice (some ⟨x 11, 0, none⟩) 12 12), (36, .int .i64 ((k : Int) + 1)), (37, .int .i64 ((k : Int))), (38, .pointer (some ⟨x 11, k, none⟩)), (39, .string T3), (40, .string p3), (41, .string p4), (42, .int .i64 (y)), (43, .int .i64 (y / 100)), (44, .string T4), (45, .string p5), (46, .int .i64 (y)), (47, .int .i64 (y % 100)), (48, .string T5), (49, .string p6), (50, .string p7), (51, .int .i64 (c)), (52, .int .i64 (c / 3600)), (53, .string T6), (54, .string p8), (55, .string p9), (56, .int .i64 (c)), (57, .int .i64 (c / 60)), (58, .int .i64 (c / 60 % 60)), (59, .string T7), (60, .string p10), (61, .string p11), (62, .int .i64 (c)), (63, .int .i64 (c % 60)), (64, .string T8), (65, .string p12), (66, .string p13), (2, .string p13)]) (by kernel_rfl) (by kernel_rfl) (by kernel_rfl) (by kernel_rfl) made_more (below_drewN w 1) (fun F hF => ?_)
  simp only [Rg.fill, List.setIfInBounds_toArray, List.set_cons_zero, List.set_cons_succ] at hF
  subst hF
  refine ⟨?_, ?_, ?_⟩
  · intro i hi x b s hs
    rcases (show i = 0 ∨ i = 11 from by simpa using hi) with rfl | rfl
    all_goals dsimp only
    · refine Rg.puts_other [(24, .slice (some ⟨b, 0, none⟩) 7 7), (28, .pointer (some ⟨b, wd, none⟩))] (by kernel_rfl) (fun p hp => ?_)
      simp only [List.mem_cons, List.not_mem_nil, or_false] at hp
      rcases hp with rfl | rfl
      · rintro rfl; exact (hs 0 (by kernel_rfl)).1 rfl
      · rintro rfl; exact Bool.false_ne_true ((hs 4 (by kernel_rfl)).2.symm.trans (by kernel_rfl))
    · refine Rg.puts_other [(35, .slice (some ⟨b, 0, none⟩) 12 12), (38, .pointer (some ⟨b, k, none⟩))] (by kernel_rfl) (fun p hp => ?_)
      simp only [List.mem_cons, List.not_mem_nil, or_false] at hp
      rcases hp with rfl | rfl
      · rintro rfl; exact (hs 11 (by kernel_rfl)).1 rfl
      · rintro rfl; exact Bool.false_ne_true ((hs 14 (by kernel_rfl)).2.symm.trans (by kernel_rfl))
  · show ∀ i, i < 44 → _
    repeat' refine Rg.below_succ ?_ ?_
    all_goals first
      | exact Rg.below_zero
      | (refine ⟨fun hi => absurd hi (by decide), fun _ => Rg.PlainOK.of rfl (fun x => .inr ⟨by kernel_rfl, fun V hJ hA K hK => ?_⟩)⟩
         first
           | (have q := hA 0 (by decide) (by decide +kernel) wd hwd7; rw [← HT1.out] at q; clear hA; go_simp; exact hK _ hJ (Below.refl _ _))
           | (have q := hA 11 (by decide) (by decide +kernel) k hk; rw [← HT3.out] at q; clear hA; go_simp; exact hK _ hJ (Below.refl _ _))
           | (clear hA
              go_simp
              first
                | exact hK _ hJ (Below.refl _ _)
                | ((with_reducible refine Calls.mono (C2.out V) ?_); rintro e w9 ⟨rfl, q, hq⟩; subst hq; exact hK _ (hJ.trans ((below_drewN V q).mono hJ.size)) (below_drewN V q))
                | ((with_reducible refine Calls.mono (C4.out V) ?_); rintro e w9 ⟨rfl, q, hq⟩; subst hq; exact hK _ (hJ.trans ((below_drewN V q).mono hJ.size)) (below_drewN V q))
                | ((with_reducible refine Calls.mono (C5.out V) ?_); rintro e w9 ⟨rfl, q, hq⟩; subst hq; exact hK _ (hJ.trans ((below_drewN V q).mono hJ.size)) (below_drewN V q))
                | ((with_reducible refine Calls.mono (C6.out V) ?_); rintro e w9 ⟨rfl, q, hq⟩; subst hq; exact hK _ (hJ.trans ((below_drewN V q).mono hJ.size)) (below_drewN V q))
                | ((with_reducible refine Calls.mono (C7.out V) ?_); rintro e w9 ⟨rfl, q, hq⟩; subst hq; exact hK _ (hJ.trans ((below_drewN V q).mono hJ.size)) (below_drewN V q))
                | ((with_reducible refine Calls.mono (C8.out V) ?_); rintro e w9 ⟨rfl, q, hq⟩; subst hq; exact hK _ (hJ.trans ((below_drewN V q).mono hJ.size)) (below_drewN V q))))
      | (refine ⟨fun _ => Rg.SpecOK.of rfl rfl ⟨_, rfl, fun x => rfl⟩ (fun x V hJ K hK => ?_), fun hi => absurd (by decide) hi⟩
         go_simp
         first
           | ((with_reducible refine Calls.mono (rshort_any V) ?_); rintro e w9 ⟨⟨b, rfl, hc⟩, hb⟩; exact hK b _ (hJ.trans (hb.mono hJ.size)) hb hc)
           | ((with_reducible refine Calls.mono (rmonths_any V) ?_); rintro e w9 ⟨⟨b, rfl, hc⟩, hb⟩; exact hK b _ (hJ.trans (hb.mono hJ.size)) hb hc))
  · intro x V hJ _
    clear C2 C4 C5 C6 C7 C8
    go_wp2_with fail
    go_ret
    exact ⟨⟨y, k, d, by rw [HR.out, ← HDD.out, HWD.out, ← HCC.out]; rfl, HV.out, by rw [HD.out, HDD.out]⟩, hJ⟩
end Go.Proofs.YtledjiikpajdaaaDoor.Dp
/-
  A Meta in memory: its cells, loaded whole or one by one. No condition.
-/
namespace Go.Proofs.YtledjiikpajdaaaDoor.Fh
open Go.RowKit Go.Proofs.YtledjiikpajdaaaDoor.Ct Go.Proofs.YtledjiikpajdaaaDoor.Fd
set_option maxRecDepth 100000
set_option linter.unusedVariables false

def MetAt (w : World) (g : Nat) (m : Mta) : Prop := w.heap[g]? = some (.cells (mcells m) 28 (0, 0))
theorem MetAt.at {w : World} {g : Nat} {m : Mta} (h : MetAt w g m) {i : Nat} {v : Value} (e : (mcells m)[i]? = some v) : w.cell? ⟨g, i, none⟩ = some v := by rw [Lib.cell_of_heap h, e]
theorem MetAt.code {w : World} {g : Nat} {m : Mta} (h : MetAt w g m) : w.cell? ⟨g, 0, none⟩ = some (.int .i64 m.code) := h.at rfl
theorem MetAt.nc {w : World} {g : Nat} {m : Mta} (h : MetAt w g m) : w.cell? ⟨g, 2, none⟩ = some (.bool m.con.nc) := h.at rfl
theorem MetAt.mu {w : World} {g : Nat} {m : Mta} (h : MetAt w g m) : w.cell? ⟨g, 5, none⟩ = some (.bool m.con.mu) := h.at rfl
theorem MetAt.px {w : World} {g : Nat} {m : Mta} (h : MetAt w g m) : w.cell? ⟨g, 6, none⟩ = some (.bool m.con.px) := h.at rfl
theorem MetAt.ag {w : World} {g : Nat} {m : Mta} (h : MetAt w g m) : w.cell? ⟨g, 8, none⟩ = some (.int .i64 m.con.ag) := h.at rfl
theorem MetAt.sh {w : World} {g : Nat} {m : Mta} (h : MetAt w g m) : w.cell? ⟨g, 9, none⟩ = some (.int .i64 m.con.sh) := h.at rfl
theorem MetAt.wh {w : World} {g : Nat} {m : Mta} (h : MetAt w g m) : w.cell? ⟨g, 10, none⟩ = some (.int .i64 m.con.wh) := h.at rfl
theorem MetAt.date {w : World} {g : Nat} {m : Mta} (h : MetAt w g m) : w.cell? ⟨g, 14, none⟩ = some (.int .i64 m.date) := h.at rfl
theorem MetAt.exp {w : World} {g : Nat} {m : Mta} (h : MetAt w g m) : w.cell? ⟨g, 15, none⟩ = some (.int .i64 m.exp) := h.at rfl
theorem MetAt.mod {w : World} {g : Nat} {m : Mta} (h : MetAt w g m) : w.cell? ⟨g, 16, none⟩ = some (.int .i64 m.mod) := h.at rfl
theorem MetAt.age {w : World} {g : Nat} {m : Mta} (h : MetAt w g m) : w.cell? ⟨g, 17, none⟩ = some (.int .i64 m.age) := h.at rfl
theorem MetAt.ask {w : World} {g : Nat} {m : Mta} (h : MetAt w g m) : w.cell? ⟨g, 18, none⟩ = some (.int .i64 m.ask) := h.at rfl
theorem MetAt.got {w : World} {g : Nat} {m : Mta} (h : MetAt w g m) : w.cell? ⟨g, 19, none⟩ = some (.int .i64 m.got) := h.at rfl
theorem MetAt.more {w w' : World} {g : Nat} {m : Mta} (h : MetAt w g m) {B : Nat} (hb : Below B w w') (hl : g < B) : MetAt w' g m := Bl.old hb hl h
theorem MetAt.lt {w : World} {g : Nat} {m : Mta} (h : MetAt w g m) : g < w.heap.size := block_lt h
theorem MetAt.all {w : World} {g : Nat} {m : Mta} (h : MetAt w g m) : w.cell? ⟨g, 0, none⟩ = some (.int .i64 m.code) ∧ w.cell? ⟨g, 1, none⟩ = some (.bool m.con.ns) ∧ w.cell? ⟨g, 2, none⟩ = some (.bool m.con.nc) ∧ w.cell? ⟨g, 3, none⟩ = some (.bool m.con.pr) ∧ w.cell? ⟨g, 4, none⟩ = some (.bool m.con.pu) ∧ w.cell? ⟨g, 5, none⟩ = some (.bool m.con.mu) ∧ w.cell? ⟨g, 6, none⟩ = some (.bool m.con.px) ∧ w.cell? ⟨g, 7, none⟩ = some (.bool m.con.oc) ∧ w.cell? ⟨g, 8, none⟩ = some (.int .i64 m.con.ag) ∧ w.cell? ⟨g, 9, none⟩ = some (.int .i64 m.con.sh) ∧ w.cell? ⟨g, 10, none⟩ = some (.int .i64 m.con.wh) ∧ w.cell? ⟨g, 11, none⟩ = some (.int .i64 m.con.ie) ∧ w.cell? ⟨g, 12, none⟩ = some (.int .i64 m.con.mf) ∧ w.cell? ⟨g, 13, none⟩ = some (.int .i64 m.con.ms) ∧ w.cell? ⟨g, 14, none⟩ = some (.int .i64 m.date) ∧ w.cell? ⟨g, 15, none⟩ = some (.int .i64 m.exp) ∧ w.cell? ⟨g, 16, none⟩ = some (.int .i64 m.mod) ∧ w.cell? ⟨g, 17, none⟩ = some (.int .i64 m.age) ∧ w.cell? ⟨g, 18, none⟩ = some (.int .i64 m.ask) ∧ w.cell? ⟨g, 19, none⟩ = some (.int .i64 m.got) ∧ w.cell? ⟨g, 20, none⟩ = some (.string m.tag) :=
  ⟨h.at rfl, h.at rfl, h.at rfl, h.at rfl, h.at rfl, h.at rfl, h.at rfl, h.at rfl, h.at rfl, h.at rfl, h.at rfl, h.at rfl, h.at rfl, h.at rfl, h.at rfl, h.at rfl, h.at rfl, h.at rfl, h.at rfl, h.at rfl, h.at rfl⟩
/-- A whole Meta out of its block: N is its size. -/
theorem MetAt.load {w : World} {g : Nat} {m : Mta} (h : MetAt w g m) {N : Nat} (hN : N = 21) : (loadCellsFrom ⟨g, 0, none⟩ 0 N #[]).run Tryd.prog w = .ok (mcells m) w := by
  subst hN
  have := run_loadCells_list (P := Tryd.prog) w ⟨g, 0, none⟩ (mcells m).toList (fun j v hv => by
    have hadd : (⟨g, 0, none⟩ : Addr).add j = ⟨g, j, none⟩ := by unfold Addr.add; split <;> simp_all
    rw [hadd, cell_of_row _ _ j (mcells m) 28 (0, 0) h]
    simpa using hv)
  simpa [loadCells, show (mcells m).size = 21 from rfl] using this
theorem conAt_load {w : World} {g : Nat} {c : Con} (h : ConAt w g c) {N : Nat} (hN : N = 13) : (loadCellsFrom ⟨g, 0, none⟩ 0 N #[]).run Tryd.prog w = .ok (cells c) w := by
  subst hN
  have := run_loadCells_list (P := Tryd.prog) w ⟨g, 0, none⟩ (cells c).toList (fun j v hv => by
    have hadd : (⟨g, 0, none⟩ : Addr).add j = ⟨g, j, none⟩ := by unfold Addr.add; split <;> simp_all
    rw [hadd, cell_of_row _ _ j (cells c) 26 (0, 0) h]
    simpa using hv)
  simpa [loadCells, show (cells c).size = 13 from rfl] using this
/-- The Control within a Meta. -/
theorem MetAt.loadCon {w : World} {g : Nat} {m : Mta} (h : MetAt w g m) {N : Nat} (hN : N = 13) : (loadCellsFrom ⟨g, 1, none⟩ 0 N #[]).run Tryd.prog w = .ok (cells m.con) w := by
  subst hN
  have := run_loadCells_list (P := Tryd.prog) w ⟨g, 1, none⟩ (cells m.con).toList (fun j v hv => by
    have hadd : (⟨g, 1, none⟩ : Addr).add j = ⟨g, 1 + j, none⟩ := by unfold Addr.add; split <;> simp_all
    rw [hadd, cell_of_row _ _ (1 + j) (mcells m) 28 (0, 0) h]
    have hj : j < 13 := by
      rcases Nat.lt_or_ge j 13 with h1 | h1
      · exact h1
      · rw [List.getElem?_eq_none (by simpa [cells] using h1)] at hv; cases hv
    rw [← hv]
    match j, hj with
    | 0, _ | 1, _ | 2, _ | 3, _ | 4, _ | 5, _ | 6, _ | 7, _ | 8, _ | 9, _ | 10, _ | 11, _ | 12, _ => rfl)
  simpa [loadCells, show (cells m.con).size = 13 from rfl] using this
/-- The size of a type, behind a name: a walk then loads by the law above. -/
structure SizeIs (t : TypeId) (k : Nat) (Z : Sem Nat) (N : Nat) : Prop where
  is : sizeOf t = Z
  run : ∀ W, Z.run Tryd.prog W = .ok N W
  num : N = k
theorem size_met : ∃ Z N, SizeIs 28 21 Z N := ⟨_, _, rfl, fun W => by kernel_rfl, rfl⟩
theorem size_con : ∃ Z N, SizeIs 26 13 Z N := ⟨_, _, rfl, fun W => by kernel_rfl, rfl⟩
theorem metAt_new (w : World) (m : Mta) : MetAt (w.alloc (.cells (mcells m) 28)) w.heap.size m := new_block _ _
theorem mcells_size (m : Mta) : (mcells m).size = 21 := rfl
theorem one_met (m : Mta) : (mcells m).all (·.oneCell') = true := by simp [mcells, Value.oneCell']
theorem infoMet : (Tryd.prog.info? 28).map (·.size) = some 21 := by kernel_rfl
theorem put_met (W : World) (c : Array Value) (hc : c.size = 21) (m : Mta) : (storeCells ⟨W.heap.size, 0, none⟩ (mcells m).toList 0).run Tryd.prog (W.alloc (.cells c 28)) = .ok () (W.alloc (.cells (mcells m) 28)) :=
  run_storeCells_new W _ c _ infoMet hc (one_met m)
theorem put_met_at (W : World) (g : Nat) (hg : g = W.heap.size) (c : Array Value) (hc : c.size = 21) (m : Mta) : (storeCells ⟨g, 0, none⟩ (mcells m).toList).run Tryd.prog (W.alloc (.cells c 28)) = .ok () (W.alloc (.cells (mcells m) 28)) := by subst hg; exact put_met W c hc m
end Go.Proofs.YtledjiikpajdaaaDoor.Fh
