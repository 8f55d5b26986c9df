/-
  Texts that the laws' proofs stand on, 3 of them in one file; each one's head says what it proves and under which condition.
-/
import Derived.Test.YtbpadliiekhkjaaCHNP19
import Derived.Test.YtbpadliiekhkjaaCHNP16
import Derived.Test.YtbpadliiekhkjaaCHNP17
import Derived.Test.YtbpadliiekhkjaaCHNP12
/-
  The program's Read of a chain. Condition: the arena and the plain one are related ahead, the chain's bytes lie in its blocks.
-/
namespace Go.Proofs.Ytbpadliiekhkjaa.Ch
open Go.RowKit Go.Proofs.Ytbpadliiekhkjaa.Fd Go.Proofs.Ytbpadliiekhkjaa.Sl
set_option maxRecDepth 100000
set_option linter.unusedVariables false
set_option linter.unusedSimpArgs false

/-- What Read tells and leaves. -/
def CReadP (r : Tk.Bs × Int) (w : World) (e : Ending) (w' : World) : Prop := ∃ v, e = .returned (.tuple #[v, .int .i64 r.2]) ∧ ReadsB w' v r.1 ∧ Below w.heap.size w w'
/-- A block's part is the part of the chain's bytes. -/
theorem piece_is {A : Ar} {hs : List Hd} {k Z x : Nat} {b : Blk} (hk : k < hs.length) (hm : ∀ q, q ∈ hs → ∃ b, rightA A q = some b ∧ b.mem.length = sizeC q.1.toNat) (hb : rightA A hs[k] = some b) (hx : Z + x ≤ sizeC hs[k].1.toNat) :
    ((memAll A hs).drop (sizesOf (hs.take k) + Z)).take x = (b.mem.drop Z).take x := by
  have hbl : b.mem.length = sizeC hs[k].1.toNat := by
    obtain ⟨b2, h1, h2⟩ := hm _ (List.getElem_mem hk)
    rw [hb] at h1
    injection h1 with h1
    rw [h1]; exact h2
  have h1 : (memAll A (hs.take k)).length = sizesOf (hs.take k) := memAll_length fun q hq => by
    obtain ⟨b2, h1, h2⟩ := hm q (List.mem_of_mem_take hq)
    rw [blkMem_of h1]; exact h2
  have h2 : memAll A hs = memAll A (hs.take k) ++ (b.mem ++ memAll A (hs.drop (k + 1))) := by
    have h3 : hs = hs.take k ++ (hs[k] :: hs.drop (k + 1)) := by rw [← List.drop_eq_getElem_cons hk, List.take_append_drop]
    rw [show memAll A hs = memAll A (hs.take k ++ (hs[k] :: hs.drop (k + 1))) from by rw [← h3], memAll_app, memAll_cons, blkMem_of hb]
  rw [h2, List.drop_append, List.drop_of_length_le (by omega), List.nil_append, show sizesOf (hs.take k) + Z - (memAll A (hs.take k)).length = Z from by omega, List.drop_append]
  rw [List.take_append_of_le_length (by rw [List.length_drop]; omega)]
theorem read_in {A : Ar} {q : Hd} {b : Blk} {Z x : Nat} (hr : rightA A q = some b) (hx : Z + x ≤ sizeC q.1.toNat) : readA A q (Z : Int) (x : Int) = ((b.mem.drop Z).take x, 0) := by
  unfold readA
  rw [hr]
  obtain ⟨h0, h3⟩ := right_lt hr
  have hf : fitsI q.1 (Z : Int) (x : Int) = true := by
    unfold fitsI sizesI
    rw [if_pos ⟨h0, h3⟩, decide_eq_true_iff]
    omega
  show (if fitsI q.1 (Z : Int) (x : Int) = true then _ else _) = _
  rw [if_pos hf]
  rfl
/-- While bytes are read. -/
structure Kd (w : World) (tb N D : Nat) (P : Tk.Bs) (W : World) : Prop where
  bel : Below w.heap.size w W
  tb : W.heap[tb]? = some (.cells (u8V (P ++ List.replicate (N - D) 0)) 5 (0, 0))
  len : P.length = D
theorem Kd.next {w : World} {tb N D : Nat} {P : Tk.Bs} {W V : World} (h : Kd w tb N D P W) (hb : Below W.heap.size W V) : Kd w tb N D P V := ⟨Bl.next h.bel hb, Bl.old hb (block_lt h.tb) h.tb, h.len⟩
set_option maxHeartbeats 8000000 in
theorem cread_any {base ap cp : Nat} {n : Nat → Nat} {A : Ar} {G : Nat} {hv : Value} {c : Chn} (i m : Int) (w : World) (h : Sl.PRel w base ap n A G) (hp : PC w cp ap hv c) (hi : c.freed = false → InvB A c) (hib : -9223372036854775808 ≤ i ∧ i ≤ 9223372036854775807) (hmb : -9223372036854775808 ≤ m ∧ m ≤ 9223372036854775807) :
    Calls Try.prog 17 #[.pointer (some ⟨cp, 0, none⟩), .int .i64 i, .int .i64 m] w (CReadP (readC c i m) w) := by
  have HU := Lib.hid (usable_any hp)
  cases hf : c.freed with
  | true =>
    have HV := Lib.hid (show CReadP (readC c i m) w (.returned (.tuple #[.slice none 0 0, .int .i64 16])) w from by
      have e : readC c i m = ([], 16) := by unfold readC; rw [hf]; rfl
      rw [e]
      exact ⟨_, rfl, .inl ⟨rfl, none, 0, rfl⟩, Below.refl _ _⟩)
    rw [hf] at HU
    clear h hp hi hf
    go_enter Try.func17, Try.ntmps17
    go_wp2_with fail
    refine HU.out.mono ?_
    rintro e w1 ⟨rfl, hw⟩
    subst hw
    go_wp2_with fail
    go_ret2
    exact HV.out
  | false =>
    have vb := hi hf
    obtain ⟨b1, b2, b3⟩ := vb.few
    obtain ⟨c0, c1, c2, _, _, _⟩ := hp.cells hf
    rw [hf] at HU
    obtain ⟨BL, hBL⟩ : ∃ BL, BL = c.bytes.length := ⟨_, rfl⟩
    rw [← hBL] at c2 b3
    by_cases hok : 0 ≤ i ∧ 0 ≤ m ∧ i + m ≤ (BL : Int)
    · obtain ⟨hi0, hm0, him⟩ := hok
      obtain ⟨I, rfl⟩ : ∃ I : Nat, i = (I : Int) := ⟨i.toNat, by omega⟩
      obtain ⟨N, rfl⟩ : ∃ N : Nat, m = (N : Int) := ⟨m.toNat, by omega⟩
      have hIN : I + N ≤ BL := by omega
      obtain ⟨ha, hc, hvf⟩ := hp.own.form
      subst hvf
      obtain ⟨L, hL⟩ : ∃ L, L = c.hs.length := ⟨_, rfl⟩
      rw [← hL] at c1 b2
      have HL := Lib.hid hL
      have hs1 : IntKind.i64.wrap ((BL : Int) - (N : Int)) = (BL : Int) - (N : Int) := IntWalk.i64_in _ (by omega)
      have hle : ¬ ((BL : Int) - (N : Int) < (I : Int)) := by omega
      have hmk := fun W => make_any W N (by omega)
      obtain ⟨R, hR⟩ : ∃ R, R = ((memAll A c.hs).drop I).take N := ⟨_, rfl⟩
      have hml : (memAll A c.hs).length = sizesOf c.hs := memAll_length fun q hq => by
        obtain ⟨b, h1, h2⟩ := vb.mem q hq
        rw [blkMem_of h1]; exact h2
      have hfit := vb.fit
      have hRl : R.length = N := by rw [hR, List.length_take, List.length_drop, hml]; omega
      have HV := Lib.hid (show readC c I N = (R, 0) from by
        unfold readC
        rw [hf, if_neg (by decide), if_pos (by rw [← hBL]; omega)]
        simp only [Int.toNat_natCast]
        rw [hR, ← vb.bytes, List.drop_take, List.take_take, ← hBL]
        congr 2
        omega)
      have HR := Lib.hid hR
      have HRl := Lib.hid hRl
      have HH := Lib.hid h
      have HP := Lib.hid hp
      have HVb := Lib.hid vb
      have hfitL : BL ≤ sizesOf c.hs := by rw [hBL]; exact hfit
      clear h hp hi vb hR hRl hBL hL hml hfit hi0 hm0
      go_enter Try.func17, Try.ntmps17
      go_wp2_with fail
      refine HU.out.mono ?_
      rintro e w1 ⟨rfl, hw⟩
      subst hw
      have hcp := HP.out.lt
      have c1a : ∀ o, (w.alloc o).cell? ⟨cp, 1, none⟩ = some (.slice ha L hc) := fun o => (Below.cell ((Below.refl w.heap.size w).alloc (Nat.le_refl _) o) (p := ⟨cp, 1, none⟩) hcp).trans c1
      have hB1 := (Below.refl w.heap.size w).alloc (Nat.le_refl _) (.cells (u8V (List.replicate N 0)) 5)
      have HD1 := Lib.hid (show Kd w w.heap.size N 0 [] (w.alloc (.cells (u8V (List.replicate N 0)) 5)) from ⟨hB1, new_block _ _, rfl⟩)
      clear hB1
      go_wp2_with fail
      clear c0 c1 c2 c1a hs1 hle
      obtain ⟨tb, htb⟩ : ∃ tb, tb = w.heap.size := ⟨_, rfl⟩
      rw [← htb] at HD1 ⊢
      have HTb := Lib.hid htb
      clear htb hmk
      go_loopw [1, 10, 44] (fun s1 s10 s44 wr => ∃ (k Z D : Nat), k ≤ L ∧ s44 = .int .i64 (k : Int) ∧ s1 = .int .i64 (Z : Int) ∧ s10 = .int .i64 (D : Int) ∧ D ≤ N ∧ Z ≤ I ∧ (D = 0 ∨ Z = 0) ∧ (Z + sizesOf (c.hs.take k) = I + D ∨ (D = N ∧ Z = 0)) ∧ Kd w tb N D (R.take D) wr) (fun _ _ s44 _ => L - (intOf s44).toNat)
      case atStart => exact ⟨0, I, 0, Nat.zero_le _, rfl, rfl, rfl, Nat.zero_le _, Nat.le_refl _, .inl rfl, .inl (by simp [sizesOf]), HD1.out⟩
      case round =>
        clear HD1
        obtain ⟨k, Z, D, hk, rfl, rfl, rfl, hDN, hZI, hDZ, hpre, hKd⟩ := hrel
        have HKd := Lib.hid hKd
        have HDone := Lib.hid (fun (hD : D = N) => (show CReadP (readC c I N) w (.returned (.tuple #[.slice (some ⟨tb, 0, none⟩) N N, .int .i64 0])) wr from by
          rw [HV.out]
          refine ⟨_, rfl, ?_, hKd.bel⟩
          subst hD
          have hb := hKd.tb
          rw [Nat.sub_self, List.replicate_zero, List.append_nil, List.take_of_length_le (by rw [HRl.out]; exact Nat.le_refl _)] at hb
          refine .inr ⟨tb, 0, D, by rw [HRl.out], block_lt hb, fun j hj => ?_⟩
          rw [Lib.cell_of_heap hb, Nat.zero_add]
          simp [u8V, hj]))
        clear hKd
        by_cases hlt : k < L
        · have hkT : k < c.hs.length := by rw [← HL.out]; exact hlt
          obtain ⟨g, cap, hv2, hg, _, d0, d1, d2, _⟩ := HP.out.own.entry hkT
          rw [← HL.out] at hv2
          injection hv2 with e1 e2 e3
          subst e1 e3
          clear e2
          obtain ⟨b, hb, hbl⟩ := HVb.out.mem _ (List.getElem_mem hkT)
          have hq := right_lt hb
          have hsz : sizesOf (c.hs.take (k + 1)) = sizesOf (c.hs.take k) + sizeC c.hs[k].1.toNat := by
            rw [List.take_succ_eq_append_getElem hkT, sizesOf_app, sizesOf_cons]; rfl
          have HPc := Lib.hid (fun x (hx : Z + x ≤ sizeC c.hs[k].1.toNat) => piece_is (x := x) (Z := Z) hkT HVb.out.mem hb hx)
          have HRd := Lib.hid (fun x (hx : Z + x ≤ sizeC c.hs[k].1.toNat) => read_in (x := x) (Z := Z) hb hx)
          obtain ⟨⟨qc, qi, qg⟩, hqe⟩ : ∃ q, q = c.hs[k] := ⟨_, rfl⟩
          rw [← hqe] at d0 d1 d2 hq hsz HPc HRd
          replace hq : 0 ≤ qc ∧ qc ≤ 3 := hq
          obtain ⟨S, hS⟩ : ∃ S, S = sizeC qc.toNat := ⟨_, rfl⟩
          have hS0 := sizeC_pos (c := qc.toNat) (by omega)
          have hS4 := sizeC_le (c := qc.toNat) (by omega)
          replace hsz : sizesOf (c.hs.take (k + 1)) = sizesOf (c.hs.take k) + S := by rw [hS]; exact hsz
          have HZ := Lib.hid (fun V => (show Calls Try.prog 25 #[.int .i64 qc] V fun e w' => e = .returned (.int .i64 (S : Int)) ∧ Below V.heap.size V w' from by
            have h1 := sizesP_any qc V
            rw [show sizesI qc = (S : Int) from by unfold sizesI; rw [if_pos hq, hS]] at h1
            exact h1))
          replace HPc : Hid (∀ x, Z + x ≤ S → ((memAll A c.hs).drop (sizesOf (c.hs.take k) + Z)).take x = (b.mem.drop Z).take x) := by rw [hS]; exact HPc
          replace HRd : Hid (∀ x, Z + x ≤ S → readA A (qc, qi, qg) (Z : Int) (x : Int) = ((b.mem.drop Z).take x, 0)) := by rw [hS]; exact HRd
          rw [← hS] at hS0 hS4
          have HSz := Lib.hid hsz
          have HPre := Lib.hid hpre
          have z0 := (HKd.out.bel.cell (p := ⟨g, k * 3, none⟩) hg).trans d0
          have z1 := (HKd.out.bel.cell (p := ⟨g, k * 3 + 1, none⟩) hg).trans d1
          have z2 := (HKd.out.bel.cell (p := ⟨g, k * 3 + 2, none⟩) hg).trans d2
          replace z0 : wr.cell? ⟨g, k * 3, none⟩ = some (.int .i64 qc) := z0
          replace z1 : wr.cell? ⟨g, k * 3 + 1, none⟩ = some (.int .i64 qi) := z1
          replace z2 : wr.cell? ⟨g, k * 3 + 2, none⟩ = some (.int .i64 qg) := z2
          have hx : Bx wr.heap.size (qc, qi, qg) (wr.alloc (.cells #[.int .i64 qc, .int .i64 qi, .int .i64 qg] 78)) := new_block _ _
          obtain ⟨w2, hw2⟩ : ∃ w2, w2 = wr.alloc (.cells #[.int .i64 qc, .int .i64 qi, .int .i64 qg] 78) := ⟨_, rfl⟩
          have hB2 := (Below.refl wr.heap.size wr).alloc (Nat.le_refl _) (.cells #[.int .i64 qc, .int .i64 qi, .int .i64 qg] 78)
          rw [← hw2] at hx hB2
          have HK2 := Lib.hid (HKd.out.next hB2)
          have HX2 := Lib.hid hx
          have HW2 := Lib.hid hw2
          obtain ⟨bx, hbx⟩ : ∃ bx, bx = wr.heap.size := ⟨_, rfl⟩
          rw [← hbx] at HX2
          have HBx := Lib.hid hbx
          obtain ⟨x0, x1, x2⟩ := HX2.out.cells
          have HBl := Lib.hid (show b.mem.length = S from by rw [hS, hbl, ← hqe])
          clear d0 d1 d2 hb hbl hsz hqe hS hx hw2 hB2 hbx hpre
          go_upto_region 11 with fail
          rw [← HW2.out, ← HBx.out]
          by_cases hZS : S ≤ Z
          · have hZi : (S : Int) ≤ (Z : Int) := by omega
            have hsub : IntKind.i64.wrap ((Z : Int) - (S : Int)) = ((Z - S : Nat) : Int) := by rw [IntWalk.i64_in _ (by omega)]; omega
            have hD0 : D = 0 := by omega
            subst hD0
            have HN := Lib.hid (show Z - S + sizesOf (c.hs.take (k + 1)) = I + 0 from by
              rw [HSz.out]
              rcases HPre.out with h1 | ⟨_, h1⟩ <;> omega)
            clear hDZ HDone
            go_wp2_with fail
            refine (HZ.out _).mono ?_
            rintro e w3 ⟨rfl, hb3⟩
            have HK3 := Lib.hid (HK2.out.next hb3)
            clear hb3
            go_wp2_with fail
            go_roundw
            case rel => exact ⟨k + 1, Z - S, 0, by omega, by go_num, rfl, rfl, Nat.zero_le _, by omega, .inl rfl, .inl HN.out, HK3.out⟩
            case measure => simp [intOf]; omega
          · have hZi : ¬ ((S : Int) ≤ (Z : Int)) := by omega
            by_cases hDe : D = N
            · have HF := Lib.hid (HDone.out hDe)
              have hDi : ((D : Int) == (N : Int)) = true := by rw [beq_iff_eq, hDe]
              have HFb := Lib.hid (fun V (hb : Below wr.heap.size wr V) => (show CReadP (readC c I N) w (.returned (.tuple #[.slice (some ⟨tb, 0, none⟩) N N, .int .i64 0])) V from by
                obtain ⟨v, h1, h2, h3⟩ := HF.out
                exact ⟨v, h1, h2.kept hb, Bl.next h3 hb⟩))
              have HB2 := Lib.hid (show Below wr.heap.size wr w2 from by rw [HW2.out]; exact (Below.refl wr.heap.size wr).alloc (Nat.le_refl _) _)
              clear hDe hDZ HDone HF
              go_wp2_with fail
              refine (HZ.out _).mono ?_
              rintro e w3 ⟨rfl, hb3⟩
              have HB3 := Lib.hid (HFb.out _ (Bl.next HB2.out hb3))
              clear hb3
              go_wp2_with fail
              go_ret2
              exact HB3.out
            · have hDlt : D < N := by omega
              have hDi : ((D : Int) == (N : Int)) = false := by rw [beq_eq_false_iff_ne]; omega
              have hPR : Z + sizesOf (c.hs.take k) = I + D := by
                rcases HPre.out with h1 | ⟨h1, _⟩
                · exact h1
                · exact absurd h1 hDe
              obtain ⟨X, hX⟩ : ∃ X, X = min (S - Z) (N - D) := ⟨_, rfl⟩
              have hXS : Z + X ≤ S := by omega
              have hXN : D + X ≤ N := by omega
              have hX1 : 1 ≤ X := by omega
              obtain ⟨PC, hPC⟩ : ∃ PC, PC = (b.mem.drop Z).take X := ⟨_, rfl⟩
              have HPCl := Lib.hid (show PC.length = X from by rw [hPC, List.length_take, List.length_drop, HBl.out]; omega)
              have HRn := Lib.hid (show R.take (D + X) = R.take D ++ PC from by
                rw [List.take_add, hPC, ← HPc.out X hXS, show R.drop D = ((memAll A c.hs).drop (I + D)).take (N - D) from by rw [HR.out, List.drop_take, List.drop_drop], List.take_take, show sizesOf (c.hs.take k) + Z = I + D from by omega, show min X (N - D) = X from by omega])
              have HNx := Lib.hid (show (0 + sizesOf (c.hs.take (k + 1)) = I + (D + X) ∨ (D + X = N ∧ (0 : Nat) = 0)) from by
                rw [HSz.out]
                by_cases hle : S - Z ≤ N - D
                · left; omega
                · right; exact ⟨by omega, rfl⟩)
              have HPr := Lib.hid (fun V (hV : Below w.heap.size w V) (y : Int) (hy : y = (X : Int)) => (show Calls Try.prog 41 #[.pointer (some ⟨ap, 0, none⟩), .agg #[.int .i64 qc, .int .i64 qi, .int .i64 qg], .int .i64 (Z : Int), .int .i64 y] V (ReadP (PC, 0) V) from by
                have h1 := pread_any qc qi qg (Z : Int) (X : Int) V (HH.out.same hV) (by omega)
                rw [HRd.out X hXS, ← hPC] at h1
                rw [hy]
                exact h1))
              have hs1 : IntKind.i64.wrap ((S : Int) - (Z : Int)) = (S : Int) - (Z : Int) := IntWalk.i64_in _ (by omega)
              have hs2 : IntKind.i64.wrap ((N : Int) - (D : Int)) = (N : Int) - (D : Int) := IntWalk.i64_in _ (by omega)
              have HX0 := Lib.hid hX
              clear hPC hX hPR hDe HDone hDZ
              go_upto_region 15 with (go_at_call 25; refine (HZ.out _).mono ?_; rintro e w3 ⟨rfl, hb3⟩; have HK3 := Lib.hid (HK2.out.next hb3); have HX3 := Lib.hid (HX2.out.next hb3); clear hb3)
              clear z0 z1 z2 x0 x1 x2
              go_cut [14, 15] from 60 to 76 (fun s14 s15 wx => ∃ bg bo bcap : Nat, s14 = .slice (some ⟨bg, bo, none⟩) X bcap ∧ s15 = .int .i64 0 ∧ (∀ j (hj : j < PC.length), wx.cell? ⟨bg, bo + j, none⟩ = some (.int .u8 (PC[j].toNat : Int))) ∧ Kd w tb N D (R.take D) wx)
              case first =>
                have HT := Lib.hid (HK3.out.next (Below.drew (Below.refl _ _)))
                have HY := Lib.hid (HX3.out.next (Below.drew (Below.refl _ _)))
                have HCp := Lib.hid (fun V (hV : Below w.heap.size w V) => (HP.out.same hV).arena.1)
                have hXc : ((N : Int) - (D : Int) < (S : Int) - (Z : Int) ∧ (N : Int) - (D : Int) = (X : Int)) ∨ (¬ ((N : Int) - (D : Int) < (S : Int) - (Z : Int)) ∧ (S : Int) - (Z : Int) = (X : Int)) := by have := HX0.out; omega
                rcases hXc with ⟨hm1, hm2⟩ | ⟨hm1, hm2⟩
                all_goals
                  have HM2 := Lib.hid hm2
                  clear hm2
                  go_region_held3 (fun W => W.cell? ⟨cp, 0, none⟩ = some (.pointer (some ⟨ap, 0, none⟩)) ∧ W.cell? ⟨bx, 0, none⟩ = some (.int .i64 qc) ∧ W.cell? ⟨bx, 1, none⟩ = some (.int .i64 qi) ∧ W.cell? ⟨bx, 2, none⟩ = some (.int .i64 qg))
                    (exact ⟨HCp.out _ HT.out.bel, HY.out.cells⟩)
                    (first
                      | (go_at_call 41; refine (HPr.out _ HT.out.bel _ HM2.out).mono ?_; rintro e w9 ⟨gv, rfl, hgv, hb9⟩; replace HT := Lib.hid (HT.out.next hb9); replace HY := Lib.hid (HY.out.next hb9); have HG := Lib.hid hgv; clear hgv hb9))
                  go_wp2_with fail
                  have hPl := HPCl.out
                  rcases HG.out.reads with ⟨h1, _⟩ | ⟨bg, bo, bcap, h1, _, h3⟩
                  · replace h1 : PC = [] := h1
                    rw [h1] at hPl
                    simp at hPl
                    omega
                  · replace h1 : gv = .slice (some ⟨bg, bo, none⟩) X bcap := by rw [h1, ← hPl]
                    subst h1
                    go_meet
                    exact ⟨bg, bo, bcap, rfl, rfl, h3, HT.out⟩
              case rest =>
                obtain ⟨bg, bo, bcap, rfl, rfl, hsrc, hK⟩ := hcut
                have hsl := fun W => run_slice_drop W (some ⟨tb, 0, none⟩) N N D (by omega)
                have hoff : offA (some ⟨tb, 0, none⟩) N D = some ⟨tb, D, none⟩ := by
                  unfold offA
                  rw [if_neg (by omega), Option.map_some, Addr.add_lit, Nat.zero_add]
                rw [hoff] at hsl
                have HTk := Lib.hid hK.tb
                have HSrc := Lib.hid (show ∀ j v, (u8L PC)[j]? = some v → wc.cell? ((⟨bg, bo, none⟩ : Addr).add j) = some v from fun j v hv => by
                  obtain ⟨hj, hv⟩ := List.getElem?_eq_some_iff.1 hv
                  rw [u8L_length] at hj
                  rw [Addr.add_lit, hsrc j hj, ← hv]
                  simp [u8L])
                have HCe := Lib.hid (lay_cells (R.take D ++ List.replicate (N - D) 0) PC D)
                have HLy := Lib.hid (show lay (R.take D ++ List.replicate (N - D) 0) D PC = R.take (D + X) ++ List.replicate (N - (D + X)) 0 from by
                  have h1 : (R.take D).length = D := hK.len
                  unfold lay
                  rw [HRn.out, HPCl.out, List.take_append_of_le_length (by omega), List.take_of_length_le (l := R.take D) (by omega), List.drop_append, show (R.take D).drop (D + X) = [] from List.drop_of_length_le (by omega), List.nil_append, h1, List.drop_replicate]
                  congr 2
                  omega)
                have HK4 := Lib.hid (show Kd w tb N (D + X) (R.take (D + X)) (wc.setRow tb (u8V (R.take (D + X) ++ List.replicate (N - (D + X)) 0))) from ⟨below_setRow hK.bel (by rw [HTb.out]; exact Nat.le_refl _) _, setRow_heap _ _ _ _ _ _ hK.tb, by rw [List.length_take, HRl.out]; omega⟩)
                have hsum : IntKind.i64.wrap ((D : Int) + (X : Int)) = ((D + X : Nat) : Int) := by rw [IntWalk.i64_in _ (by omega)]; omega
                have hszs : (u8V (R.take D ++ List.replicate (N - D) 0)).size = N := by
                  have h1 : (R.take D).length = D := hK.len
                  rw [u8V_size, List.length_append, List.length_replicate, h1]; omega
                have HSs := Lib.hid hszs
                clear hK hsrc hoff hszs
                go_wp2_with ((with_reducible show wpList _ _ _ (⟨some 85, _, _, _, _, _⟩ :: _) _ _); refine wpList_copy_own rfl (.tmp 83) (.tmp 84) 36 36 rfl 5 Try.underlying36 infoByteS tb D (N - D) (N - D) ⟨bg, bo, none⟩ X bcap (by rfl) (by rfl) (u8V (R.take D ++ List.replicate (N - D) 0)) 5 HTk.out (u8L PC) (by rw [u8L_length, HPCl.out]; exact (Nat.min_eq_left (by omega)).symm) HSrc.out (by rw [u8L_length, HPCl.out, HSs.out]; omega) (u8L_one PC) ?_; rw [HCe.out, HLy.out, u8L_length, HPCl.out])
                go_roundw
                case rel => exact ⟨k + 1, 0, D + X, by omega, by go_num, rfl, rfl, by omega, Nat.zero_le _, .inr rfl, HNx.out.imp id (fun q => ⟨q.1, rfl⟩), HK4.out⟩
                case measure => simp [intOf]; omega
        · obtain rfl : k = L := by omega
          have hD : D = N := by
            rcases hpre with hpre | ⟨h1, _⟩
            · rw [List.take_of_length_le (by rw [← HL.out]; exact Nat.le_refl _)] at hpre
              omega
            · exact h1
          have HF := Lib.hid (HDone.out hD)
          clear hpre hDZ HDone hD
          go_wp2_with fail
          go_ret2
          exact HF.out
    · have HV := Lib.hid (show CReadP (readC c i m) w (.returned (.tuple #[.slice none 0 0, .int .i64 2])) w from by
        have e : readC c i m = ([], 2) := by
          unfold readC
          rw [hf, if_neg (by decide), if_neg (by rw [← hBL]; omega)]
        rw [e]
        exact ⟨_, rfl, .inl ⟨rfl, none, 0, rfl⟩, Below.refl _ _⟩)
      clear h hp hi vb
      by_cases hi0 : i < 0
      · go_enter Try.func17, Try.ntmps17
        go_wp2_with fail
        refine HU.out.mono ?_
        rintro e w1 ⟨rfl, hw⟩
        subst hw
        go_wp2_with fail
        go_ret2
        exact HV.out
      · by_cases hm0 : m < 0
        · go_enter Try.func17, Try.ntmps17
          go_wp2_with fail
          refine HU.out.mono ?_
          rintro e w1 ⟨rfl, hw⟩
          subst hw
          go_wp2_with fail
          go_ret2
          exact HV.out
        · have hs1 : IntKind.i64.wrap ((BL : Int) - m) = (BL : Int) - m := IntWalk.i64_in _ (by omega)
          have hgt : (BL : Int) - m < i := by omega
          clear hok
          go_enter Try.func17, Try.ntmps17
          go_wp2_with fail
          refine HU.out.mono ?_
          rintro e w1 ⟨rfl, hw⟩
          subst hw
          go_wp2_with fail
          go_ret2
          exact HV.out
end Go.Proofs.Ytbpadliiekhkjaa.Ch
/-
  A slice of ints that came in. Condition: what the form says of what is read.
-/
namespace Go.Proofs.Ytbpadliiekhkjaa.Hd
open Go.RowKit Go.Proofs.Ytbpadliiekhkjaa.Tk Go.ChangeShapes Go.WideShapes
set_option linter.unusedVariables false

/-- A slice of so many ints. -/
def Ints (w : World) (v : Value) (L : Nat) : Prop :=
  (L = 0 ∧ ∃ a cap, v = .slice a 0 cap) ∨ ∃ b off cap, v = .slice (some ⟨b, off, none⟩) L cap ∧ b < w.heap.size ∧ ∀ j, j < L → ∃ z : Int, w.cell? ⟨b, off + j, none⟩ = some (.int .i64 z)
theorem Ints.below {B : Nat} {w w' : World} {v : Value} {L : Nat} (h : Ints w v L) (hb : Below B w w') (hB : w.heap.size ≤ B) : Ints w' v L := by
  rcases h with h | ⟨b, off, cap, hv, hlt, hh⟩
  · exact .inl h
  · exact .inr ⟨b, off, cap, hv, Nat.lt_of_lt_of_le hlt hb.size, fun j hj => by rw [hb.cell (p := ⟨b, off + j, none⟩) (by show b < B; omega)]; exact hh j hj⟩
theorem Ints.shape {w : World} {v : Value} {L : Nat} (h : Ints w v L) : ∃ a cap, v = .slice a L cap := by
  rcases h with ⟨rfl, a, cap, hv⟩ | ⟨b, off, cap, hv, _⟩
  · exact ⟨a, cap, hv⟩
  · exact ⟨_, cap, hv⟩
theorem cellsInt : Try.prog.cellsOf 3 = 1 := by kernel_rfl
set_option maxRecDepth 100000 in
theorem open_nums {H : Type} {enc : TypeId × Value → H} {W : World} {base : Nat} {v : Value} {d : DataW H} {p : List MemPlace} (hv : Value.okWide Try.prog W .any base 69 v)
    (h : DataW.Trod enc Try.prog W 0 (fun _ => true) true 69 v d p) :
    ∃ L : Nat, Ints W v L ∧ L ≤ maxLen := by
  obtain ⟨a0, len0, cap0, rfl⟩ := okWide_slice Try.underlying69 hv
  obtain ⟨fuel, hf⟩ := h
  rcases open_ints Try.underlying69 Try.underlying3 cellsInt hf with ⟨hcs, _⟩ | ⟨a, len, cap, zs, hcs, _, hl, hm, hz, hx, hcell, hwz⟩
  · simp [Value.cells] at hcs
    obtain ⟨rfl, rfl, rfl⟩ := hcs
    exact ⟨0, .inl ⟨rfl, _, _, rfl⟩, by simp⟩
  · simp [Value.cells] at hcs
    obtain ⟨rfl, rfl, rfl⟩ := hcs
    simp only [if_true] at hz
    by_cases h0 : len0 = 0
    · subst h0; exact ⟨0, .inl ⟨rfl, _, _, rfl⟩, by simp⟩
    · obtain ⟨b, off, spot⟩ := a
      have hc0 := hcell 0 (by omega)
      have hspot : spot = none := by simpa [Addr.add] using World.cell?_spot hc0
      subst hspot
      refine ⟨len0, .inr ⟨b, off, cap0, rfl, ?_, fun j hj => ?_⟩, by omega⟩
      · rw [Addr.add_lit] at hc0
        exact World.block_lt_of_cell? W _ hc0
      · have hcj := hcell j (by omega)
        rw [Addr.add_lit] at hcj
        exact ⟨_, hcj⟩
end Go.Proofs.Ytbpadliiekhkjaa.Hd
/-
  A chain that is nil, or of no arena: what each call returns. No condition.
-/
namespace Go.Proofs.Ytbpadliiekhkjaa.Ch
open Go.RowKit Go.Proofs.Ytbpadliiekhkjaa.Fd Go.Proofs.Ytbpadliiekhkjaa.Sl
set_option maxRecDepth 100000
set_option linter.unusedVariables false
set_option linter.unusedSimpArgs false

set_option maxHeartbeats 4000000 in
theorem no_append (pv bv : Value) (w : World) (h : NoC pv w) : Calls Try.prog 10 #[pv, bv] w fun e w' => e = .returned (.int .i64 1) ∧ w = w' := by
  have HU := Lib.hid (no_usable pv w h)
  clear h
  go_enter Try.func10, Try.ntmps10
  go_wp2_with fail
  refine HU.out.mono ?_
  rintro e w1 ⟨rfl, rfl⟩
  go_wp2_with fail
  go_ret
  exact ⟨rfl, rfl⟩
set_option maxHeartbeats 4000000 in
theorem no_readC (pv : Value) (i m : Int) (w : World) (h : NoC pv w) : Calls Try.prog 17 #[pv, .int .i64 i, .int .i64 m] w fun e w' => e = .returned (.tuple #[.slice none 0 0, .int .i64 1]) ∧ w = w' := by
  have HU := Lib.hid (no_usable pv w h)
  clear h
  go_enter Try.func17, Try.ntmps17
  go_wp2_with fail
  refine HU.out.mono ?_
  rintro e w1 ⟨rfl, rfl⟩
  go_wp2_with fail
  go_ret2
  exact ⟨rfl, rfl⟩
set_option maxHeartbeats 4000000 in
theorem no_share (pv : Value) (w : World) (h : NoC pv w) : Calls Try.prog 12 #[pv] w fun e w' => e = .returned (.tuple #[.pointer none, .int .i64 1]) ∧ w = w' := by
  have HU := Lib.hid (no_usable pv w h)
  clear h
  go_enter Try.func12, Try.ntmps12
  go_wp2_with fail
  refine HU.out.mono ?_
  rintro e w1 ⟨rfl, rfl⟩
  go_wp2_with fail
  go_ret2
  exact ⟨rfl, rfl⟩
set_option maxHeartbeats 4000000 in
theorem no_free (pv : Value) (w : World) (h : NoC pv w) : Calls Try.prog 14 #[pv] w fun e w' => e = .returned (.int .i64 1) ∧ w = w' := by
  have HU := Lib.hid (no_usable pv w h)
  clear h
  go_enter Try.func14, Try.ntmps14
  go_wp2_with fail
  refine HU.out.mono ?_
  rintro e w1 ⟨rfl, rfl⟩
  go_wp2_with fail
  go_ret
  exact ⟨rfl, rfl⟩
set_option maxHeartbeats 4000000 in
theorem no_len (pv : Value) (w : World) (h : NoC pv w) : Calls Try.prog 19 #[pv] w fun e w' => e = .returned (.int .i64 0) ∧ w = w' := by
  have HU := Lib.hid (no_usable pv w h)
  clear h
  go_enter Try.func19, Try.ntmps19
  go_wp2_with fail
  refine HU.out.mono ?_
  rintro e w1 ⟨rfl, rfl⟩
  go_wp2_with fail
  go_ret
  exact ⟨rfl, rfl⟩
set_option maxHeartbeats 4000000 in
theorem no_charge (pv : Value) (w : World) (h : NoC pv w) : Calls Try.prog 20 #[pv] w fun e w' => e = .returned (.int .i64 0) ∧ w = w' := by
  have HU := Lib.hid (no_usable pv w h)
  clear h
  go_enter Try.func20, Try.ntmps20
  go_wp2_with fail
  refine HU.out.mono ?_
  rintro e w1 ⟨rfl, rfl⟩
  go_wp2_with fail
  go_ret
  exact ⟨rfl, rfl⟩
set_option maxHeartbeats 4000000 in
theorem no_alike (pv : Value) (w : World) (h : NoC pv w) : Calls Try.prog 21 #[pv, pv] w fun e w' => e = .returned (.bool false) ∧ w = w' := by
  have HU := Lib.hid (no_usable pv w h)
  clear h
  go_enter Try.func21, Try.ntmps21
  go_wp2_with fail
  refine HU.out.mono ?_
  rintro e w1 ⟨rfl, rfl⟩
  go_wp2_with fail
  go_ret
  exact ⟨rfl, rfl⟩
set_option maxHeartbeats 4000000 in
theorem no_new (pv : Value) (w : World) (h : NoA pv w) : Calls Try.prog 9 #[pv] w fun e w' => ∃ b, e = .returned (.pointer (some ⟨b, 0, none⟩)) ∧ NoC (.pointer (some ⟨b, 0, none⟩)) w' ∧ Below w.heap.size w w' := by
  have HA := Lib.hid (no_alloc pv (-1) w h)
  clear h
  go_enter Try.func9, Try.ntmps9
  go_wp2_with fail
  refine HA.out.mono ?_
  rintro e w1 ⟨rfl, hb1⟩
  have hB := ((Below.refl w1.heap.size w1).alloc (Nat.le_refl _) (.cells #[.int .i64 0, .int .i64 0, .int .i64 0] 78)).alloc (by simp) (.cells #[.pointer none, .slice none 0 0, .int .i64 0, .int .i64 0, .bool false, .bool false] 60)
  have hN := new_block' (w1.alloc (.cells #[.int .i64 0, .int .i64 0, .int .i64 0] 78)) (.cells #[.pointer none, .slice none 0 0, .int .i64 0, .int .i64 0, .bool false, .bool false] 60) (g := w1.heap.size + 1) (by simp)
  have HF := Lib.hid (fun W (hB : Below w1.heap.size w1 W) (hN : W.heap[w1.heap.size + 1]? = some (.cells #[.pointer none, .slice none 0 0, .int .i64 0, .int .i64 0, .bool false, .bool false] 60 (0, 0))) => (show NoC (.pointer (some ⟨w1.heap.size + 1, 0, none⟩)) W ∧ Below w.heap.size w W from ⟨.inr ⟨_, rfl, by rw [Lib.cell_of_heap hN]; rfl, block_lt hN⟩, Bl.next hb1 hB⟩))
  have HF := Lib.hid (HF.out _ hB hN)
  clear hB hN hb1
  go_wp2_with fail
  go_ret
  exact ⟨_, rfl, HF.out⟩
end Go.Proofs.Ytbpadliiekhkjaa.Ch
