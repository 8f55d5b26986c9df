/-
  The reference's Alloc beside the plain arena. Condition: they are related ahead.
-/
import Derived.Test.YtheljldoboiekaaSlRPre
import Derived.Deep.DeepCutAuto
import Derived.Deep.RegionHeld3
import Derived.Test.YtheljldoboiekaaRgSto
namespace Go.Proofs.Ytheljldoboiekaa.Sl
open Go.RowKit Go.Proofs.Ytheljldoboiekaa.Fd
set_option maxRecDepth 100000
set_option linter.unusedVariables false
set_option linter.unusedSimpArgs false

theorem results_tmp4 {fn : Func} {t u v x : Tmp} (h : fn.results = #[.tmp t, .tmp u, .tmp v, .tmp x]) (tmps : Array Value) (P : Program) (w : World) :
    (results fn tmps).run P w = .ok (.tuple #[tmps.getD t undef, tmps.getD u undef, tmps.getD v undef, tmps.getD x undef]) w := by
  simp [results, h]
/-- What a call leaves that takes a block. -/
def AllocR (base p : Nat) (n : Nat → Nat) (r : Hd × Int × Ar) (G : Nat) (w : World) (e : Ending) (w' : World) : Prop :=
  e = .returned (.tuple #[.int .i64 r.1.1, .int .i64 r.1.2.1, .int .i64 r.1.2.2, .int .i64 r.2.1]) ∧ RRel w' base p n r.2.2 (G + 1) ∧ Tn TR base w w'
theorem RRel.more {w : World} {base p : Nat} {n : Nat → Nat} {A : Ar} {G G' : Nat} (h : RRel w base p n A G) (hg : G ≤ G') (hs : G' ≤ 1099511627776) : RRel w base p n A G' := by
  obtain ⟨L, v, h1, h2, h3, h4⟩ := h.it
  exact ⟨⟨L, v, h1, h2, by omega, fun x hx => by have := h4 x hx; omega⟩, hs⟩
theorem infoBk : (Try.prog.info? 82).map (fun i => (i.zero, i.size, i.bytes)) = some (some (.agg #[.int .i64 0, .int .i64 0, .int .i64 0, .int .i64 0, .slice none 0 0]), 5, 56) := by kernel_rfl
theorem zero_ints (S : Nat) : madeCells (Value.int .i64 0).cells S = memV (List.replicate S 0) := by
  unfold madeCells memV
  apply Array.ext
  · simp [Value.cells]
  · intro i h1 h2
    simp [Value.cells, Nat.mod_one]
theorem make_ints (W : World) (S : Nat) (hS : S ≤ 4096) : (Instr.makeSlice 48 (.int .i64 (S : Int)) (.int .i64 (S : Int))).run Try.prog W = .ok (.slice (some ⟨W.heap.size, 0, none⟩) S S) (W.alloc (.cells (memV (List.replicate S 0)) 3)) := by
  obtain ⟨i, hi, hz, hs, hb⟩ := info_parts infoI
  have hr := run_makeSlice (P := Try.prog) W 48 3 i _ Try.underlying48 hi hz .i64 .i64 (S : Int) (S : Int) (by omega) (by omega) (by rw [hs]; simp; omega) (by rw [hb]; omega) (by omega)
  simp only [Int.toNat_natCast, hs, Nat.mul_one] at hr
  rw [hr, zero_ints]
theorem sizeC_le' {c : Nat} (hc : c < 4) : sizeC c ≤ 4096 := by
  rcases (by omega : c = 0 ∨ c = 1 ∨ c = 2 ∨ c = 3) with rfl | rfl | rfl | rfl <;> decide
def valIn (W : World) (a : Addr) : Value := (W.cell? a).getD undef
theorem valIn_of {W : World} {a : Addr} {x : Value} (h : W.cell? a = some x) : W.cell? a = some (valIn W a) := by unfold valIn; rw [h]; rfl
/-- While the entry's bytes are made. -/
structure K3 (base p : Nat) (n : Nat → Nat) (P S : List RQ) (a b c d : Value) (v : Value) (w0 W : World) : Prop where
  it : ∃ u, RPre W base p n P S [a, b, c, d, u] v
  tn : Tn TR base w0 W
theorem K3.more {base p : Nat} {n : Nat → Nat} {P S : List RQ} {a b c d : Value} {v : Value} {w0 W V : World} (h : K3 base p n P S a b c d v w0 W) (hb : Below W.heap.size W V) : K3 base p n P S a b c d v w0 V := by
  obtain ⟨u, hu⟩ := h.it
  exact ⟨⟨u, hu.same hb⟩, h.tn.next hb⟩
theorem K3.store {base p : Nat} {n : Nat → Nat} {P S : List RQ} {a b c d : Value} {g l cap : Nat} {w0 W : World} (h : K3 base p n P S a b c d (.slice (some ⟨g, 0, none⟩) l cap) w0 W) (x : Value) : K3 base p n P S a b c d (.slice (some ⟨g, 0, none⟩) l cap) w0 (W.setCell ⟨g, P.length * 5 + 4, none⟩ x) := by
  obtain ⟨u, hu⟩ := h.it
  obtain ⟨h1, h2⟩ := hu.store rfl (t := 4) (by decide) x
  exact ⟨⟨x, h1⟩, h.tn.trans h2⟩
theorem K3.facts {base p : Nat} {n : Nat → Nat} {P S : List RQ} {a b c d : Value} {g l cap : Nat} {w0 W : World} (h : K3 base p n P S a b c d (.slice (some ⟨g, 0, none⟩) l cap) w0 W) :
    W.cell? ⟨p, 4, none⟩ = some (.slice (some ⟨g, 0, none⟩) l cap) ∧ W.cell? ⟨g, P.length * 5 + 4, none⟩ = some (valIn W ⟨g, P.length * 5 + 4, none⟩) ∧ W.frozen? ⟨g, P.length * 5 + 4, none⟩ = false ∧ K3 base p n P S a b c d (.slice (some ⟨g, 0, none⟩) l cap) w0 W := by
  obtain ⟨u, hu⟩ := h.it
  obtain ⟨g2, cap2, hv, _, _, _, hc, hf⟩ := hu.form
  injection hv with e1 e2 e3
  injection e1 with e1
  injection e1 with e1
  subst e1
  exact ⟨hu.arenaV, valIn_of (hc 4 (by decide)), hf _, h⟩
set_option maxHeartbeats 16000000 in
theorem ralloc_any {base p : Nat} {n : Nat → Nat} {A : Ar} {G : Nat} (k : Int) (w : World) (h : RRel w base p n A G) (hG1 : G + 1 ≤ 1099511627776) (hn : ∀ c, c < 4 → n c ≤ 4096) :
    Calls Try.prog 12 #[.pointer (some ⟨p, 0, none⟩), .int .i64 k] w (AllocR base p n (allocA A k) G w) := by
  have HH := Lib.hid h
  obtain ⟨L, v, hA, hR, hlen, hbd⟩ := h.it
  clear h
  by_cases hlow : k < 0
  · have HV := Lib.hid (show allocA A k = ((0, 0, 0), 2, A) from by unfold allocA; rw [if_pos (.inl hlow)])
    clear hA hR hlen hbd
    go_enter Try.func12, Try.ntmps12
    go_wp2_with fail
    (try simp only [Exit.inBlock, Exit.then])
    refine bodyPost_ret (results_tmp4 rfl _ _ _) rfl ?_
    exact ⟨by rw [HV.out]; rfl, by rw [HV.out]; exact HH.out.more (Nat.le_succ _) hG1, Tn.refl _ _ _⟩
  by_cases hbig : 4096 < k
  · have HV := Lib.hid (show allocA A k = ((0, 0, 0), 2, A) from by unfold allocA; rw [if_pos (.inr hbig)])
    clear hA hR hlen hbd
    go_enter Try.func12, Try.ntmps12
    go_wp2_with fail
    (try simp only [Exit.inBlock, Exit.then])
    refine bodyPost_ret (results_tmp4 rfl _ _ _) rfl ?_
    exact ⟨by rw [HV.out]; rfl, by rw [HV.out]; exact HH.out.more (Nat.le_succ _) hG1, Tn.refl _ _ _⟩
  obtain ⟨m, rfl⟩ : ∃ m : Nat, k = (m : Int) := ⟨k.toNat, by omega⟩
  obtain ⟨c, hc⟩ : ∃ c, c = classN m := ⟨_, rfl⟩
  have c4 : c < 4 := by rw [hc]; exact classN_lt _
  have q4 : (c : Int) < 4 := by omega
  have hfitc : ¬ (sizeC c : Int) < (m : Int) := by have := classN_fit (n := m) (by omega); rw [← hc] at this; omega
  have hleast : ∀ d, d < c → (sizeC d : Int) < (m : Int) := fun d hd => by have := classN_least (n := m) (c := d) (by omega); omega
  have hAl : allocA A (m : Int) = match (A c)[freeAt (A c)]? with
      | none => ((0, 0, 0), 14, A)
      | some b => (((c : Int), (freeAt (A c) : Int), (b.gen : Int) + 1), 0, upd A c ((A c).set (freeAt (A c)) ⟨b.gen + 1, 1, List.replicate (sizeC c) 0⟩)) := by
    unfold allocA; rw [if_neg (by omega), Int.toNat_natCast, ← hc]; cases (A c)[freeAt (A c)]? <;> rfl
  have hln := hR.len c c4
  have hnc := hn c c4
  have hf4 := freeAt_le (A c)
  have HA := Lib.hid hA
  have HR := Lib.hid hR
  have HBD := Lib.hid hbd
  have HLe := Lib.hid hleast
  have HAl := Lib.hid hAl
  have hS4 := sizeC_le' c4
  have hsm := HH.out.small
  clear hA hR hbd hleast hAl hc
  obtain ⟨f, hf⟩ : ∃ f, f = freeAt (A c) := ⟨_, rfl⟩
  rw [← hf] at hf4 HAl
  have hfn : f ≤ n c := by omega
  have Hf := Lib.hid hf
  clear hf4 hf
  go_enter Try.func12, Try.ntmps12
  go_wp2_with fail
  go_loopw [8] (fun j wr => ∃ d : Nat, d ≤ c ∧ j = .int .i64 (d : Int) ∧ Below w.heap.size w wr) (fun j _ => 4 - (intOf j).toNat)
  case atStart => exact ⟨0, Nat.zero_le _, rfl, Below.refl _ _⟩
  case round =>
    obtain ⟨d, hd, rfl, hB⟩ := hrel
    have HSz := Lib.hid (sizes_any (d : Int) wr)
    rw [show sizesI (d : Int) = (sizeC d : Int) from by unfold sizesI; rw [if_pos (by omega), Int.toNat_natCast]] at HSz
    by_cases hdc : d < c
    · have hlt := HLe.out d hdc
      go_wp2_with fail
      refine HSz.out.mono ?_
      rintro e w2 ⟨rfl, hb2⟩
      have HB2 := Lib.hid (Bl.next hB hb2)
      clear hb2 hB HSz
      generalize sizeC d = Sd at hlt ⊢
      go_wp2_with fail
      go_roundw
      case rel => exact ⟨d + 1, by omega, by go_num, HB2.out⟩
      case measure => simp [intOf]; omega
    · obtain rfl : d = c := by omega
      clear HLe hdc
      go_wp2_with fail
      refine HSz.out.mono ?_
      rintro e w2 ⟨rfl, hb2⟩
      have hB2 := Bl.next hB hb2
      clear hb2 hB HSz
      obtain ⟨Sd, hSd⟩ : ∃ Sd, Sd = sizeC d := ⟨_, rfl⟩
      rw [← hSd] at hfitc hS4 ⊢
      have HSd := Lib.hid hSd
      have hfitn : ¬ Sd < m := by omega
      clear hSd
      go_wp2_with fail
      go_loopw [9] (fun j wr => ∃ i : Nat, i ≤ f ∧ j = .int .i64 (i : Int) ∧ Below w.heap.size w wr) (fun j _ => 4097 - (intOf j).toNat)
      case atStart => exact ⟨0, Nat.zero_le _, rfl, hB2⟩
      case round =>
        obtain ⟨i, hi, rfl, hB⟩ := hrel
        have hA := HA.out.same hB
        have hnv : wr.cell? ⟨p, d, none⟩ = some (.int .i64 (n d : Int)) := by
          rw [Lib.cell_of_heap hA.arena]
          rcases (by omega : d = 0 ∨ d = 1 ∨ d = 2 ∨ d = 3) with rfl | rfl | rfl | rfl <;> rfl
        have HF := Lib.hid (find_any (d : Int) (i : Int) wr hA (by omega))
        have HAr := Lib.hid hA
        have HBr := Lib.hid hB
        obtain ⟨la, lcap, hv⟩ := hA.form
        have hc4v := hA.arenaV
        rw [hv] at hc4v
        clear hA hB hB2
        by_cases hif : i < f
        · obtain ⟨r, hr, hrh⟩ := HR.out.busy c4 (j := i) (by rw [← Hf.out]; exact hif)
          obtain ⟨hlt, hre⟩ := List.getElem?_eq_some_iff.1 hr
          have hlt2 : findR (d : Int) (i : Int) (rbs L) < L.length := by rw [← rbs_length]; exact hlt
          rw [rbs_at L _ hlt2] at hre
          have HP := Lib.hid (show placeI (d : Int) (i : Int) L = (findR (d : Int) (i : Int) (rbs L) : Int) from by unfold placeI; rw [if_pos hlt2])
          rw [HP.out] at HF
          obtain ⟨gg, cap', hv', _, _, hcell, _⟩ := HAr.out.entry hlt2
          rw [hv] at hv'
          injection hv' with e1 e2 e3
          subst e1 e3
          have d3 := hcell 3 (by decide)
          generalize findR (d : Int) (i : Int) (rbs L) = q at hlt2 HF d3 hre
          replace d3 : wr.cell? ⟨gg, q * 5 + 3, none⟩ = some (.int .i64 (L[q].1.held : Int)) := d3
          rw [hre] at d3
          have hh : ((r.held : Int) == 0) = false := by rw [beq_eq_false_iff_ne]; omega
          have hin : (i : Int) < (n d : Int) := by omega
          clear hcell hr hlt hre hrh HP
          go_wp2_with fail
          refine HF.out.mono ?_
          rintro e w3 ⟨rfl, hw3⟩
          subst hw3
          go_wp2_with fail
          go_roundw
          case rel => exact ⟨i + 1, by omega, by go_num, HBr.out⟩
          case measure => simp [intOf]; omega
        · obtain rfl : i = f := by omega
          by_cases hfull : i = n d
          · have HV := Lib.hid (show allocA A (m : Int) = ((0, 0, 0), 14, A) from by rw [HAl.out, List.getElem?_eq_none (by omega)])
            have hnin : ¬ (i : Int) < (n d : Int) := by omega
            go_wp2_with fail
            (try simp only [Exit.inBlock, Exit.then])
            refine bodyPost_ret (results_tmp4 rfl _ _ _) rfl ?_
            exact ⟨by rw [HV.out]; rfl, by rw [HV.out]; exact (HH.out.same HBr.out).more (Nat.le_succ _) hG1, Tn.of_below HBr.out⟩
          · have hin : (i : Int) < (n d : Int) := by omega
            obtain ⟨b, hb⟩ : ∃ b, (A d)[i]? = some b := ⟨_, List.getElem?_eq_getElem (by omega)⟩
            have hV := HAl.out
            rw [hb] at hV
            have HV := Lib.hid (show allocA A (m : Int) = (((d : Int), (i : Int), (b.gen : Int) + 1), 0, upd A d ((A d).set i ⟨b.gen + 1, 1, List.replicate (sizeC d) 0⟩)) from hV)
            have hbf : (A d)[freeAt (A d)]? = some b := by rw [← Hf.out]; exact hb
            obtain ⟨hb0, hfr⟩ := HR.out.free c4 hbf
            have HBF := Lib.hid hbf
            rw [← Hf.out] at hfr
            have hmk := fun W => make_ints W Sd hS4
            have HSz := Lib.hid (show ∀ W : World, Calls Try.prog 26 #[.int .i64 (d : Int)] W fun e w' => e = .returned (.int .i64 (Sd : Int)) ∧ Below W.heap.size W w' from fun W => by
              have h1 := sizes_any (d : Int) W
              rw [show sizesI (d : Int) = (sizeC d : Int) from by unfold sizesI; rw [if_pos (by omega), Int.toNat_natCast], ← HSd.out] at h1
              exact h1)
            clear hV hbf HAl
            rcases hfr with ⟨hnf, hg0⟩ | ⟨r, hr, hrh, hrg⟩
            · rw [hg0] at HV
              have HFn := Lib.hid (fun (W : World) (q : Nat) (u : Value) (hW : RAt W base p n (L ++ (⟨d, i, 1, 1, List.replicate Sd 0⟩, q) :: []) u) => (show RRel W base p n (upd A d ((A d).set i ⟨0 + 1, 1, List.replicate (sizeC d) 0⟩)) (G + 1) from by
                have h1 := HR.out.alloc_new c4 HBF.out (by rw [← Hf.out]; exact hnf) (List.replicate (sizeC d) 0) hg0
                rw [← Hf.out, hg0] at h1
                refine ⟨⟨_, u, hW, ?_, by simp; omega, fun x hx => ?_⟩, hG1⟩
                · rw [show rbs (L ++ [(⟨d, i, 1, 1, List.replicate Sd 0⟩, q)]) = rbs L ++ [⟨d, i, 1, 1, List.replicate Sd 0⟩] from by simp [rbs], HSd.out]
                  exact h1
                · rcases List.mem_append.1 hx with hx | hx
                  · have := HBD.out x hx; omega
                  · rw [List.mem_singleton] at hx
                    subst hx
                    exact ⟨by show 1 ≤ G + 1; omega, by show 1 ≤ 1048576; decide⟩))
              have HNF := Lib.hid (show placeI (d : Int) (i : Int) L = -1 from by unfold placeI; rw [if_neg (by rw [hnf, rbs_length]; omega)])
              rw [HNF.out] at HF
              have HNf := Lib.hid hnf
              obtain ⟨ii, hi5, hz5, hs5, hb5⟩ := info_parts infoBk
              have HW := Lib.hid (show ((wr.alloc (.cells #[.int .i64 (d : Int), .int .i64 (i : Int), .int .i64 0, .int .i64 0, .slice none 0 0] 82)).ownsRow base 82 5 v L.length (flatR L)) from (HAr.out.same ((Below.refl _ _).alloc (Nat.le_refl _) _)).row)
              have HA2 := Lib.hid (HAr.out.same ((Below.refl wr.heap.size wr).alloc (Nat.le_refl _) (.cells #[.int .i64 (d : Int), .int .i64 (i : Int), .int .i64 0, .int .i64 0, .slice none 0 0] 82)))
              have hbs : base ≤ (wr.alloc (.cells #[.int .i64 (d : Int), .int .i64 (i : Int), .int .i64 0, .int .i64 0, .slice none 0 0] 82)).heap.size := Nat.le_trans HA2.out.out.1 (Nat.le_of_lt HA2.out.lt)
              have HN := Lib.hid (show ∀ j u, [Value.int .i64 (d : Int), .int .i64 (i : Int), .int .i64 0, .int .i64 0, .slice none 0 0][j]? = some u → (wr.alloc (.cells #[.int .i64 (d : Int), .int .i64 (i : Int), .int .i64 0, .int .i64 0, .slice none 0 0] 82)).cell? ((⟨wr.heap.size, 0, none⟩ : Addr).add j) = some u from fun j u hj => by
                rw [Addr.add_lit, Nat.zero_add, Lib.cell_of_heap (new_block wr _)]
                simpa using hj)
              rw [hv] at HW
              clear hnf
              go_wp2_with fail
              refine HF.out.mono ?_
              rintro e w3 ⟨rfl, hw3⟩
              subst hw3
              go_upto_region 12 with (at_builtin; refine wpList_append_own _ rfl _ _ 68 rfl base 82 ii (.agg #[.int .i64 0, .int .i64 0, .int .i64 0, .int .i64 0, .slice none 0 0]) 5 56 Try.underlying68 hi5 hz5 hs5 hb5 rfl (by decide) _ _ _ rfl HW.out ⟨wr.heap.size, 0, none⟩ 1 1 [.int .i64 (d : Int), .int .i64 (i : Int), .int .i64 0, .int .i64 0, .slice none 0 0] rfl rfl HN.out (fun y hy => by simp at hy; rcases hy with rfl | rfl | rfl | rfl <;> rfl) (by unfold maxLen; omega) (by omega) hbs ?_; intro v' w6 hown' hgrow hnil; rw [← hv] at hgrow; have hpre := RPre.app HA2.out rfl hown' hgrow; have hpc := (hgrow.block p HA2.out.lt (Ne.symm HA2.out.out.2)).trans HA2.out.arena; have hp4 := Lib.cell_of_heap hpc 4; replace hp4 : w6.cell? ⟨p, 4, none⟩ = some v := hp4; have hpf := free hpc 4; rw [hv] at hp4; obtain ⟨gg, cap9, hv9, -, -, -, -, -⟩ := hpre.1.form; obtain ⟨w7, hw7⟩ : ∃ w7, w7 = w6.setCell ⟨p, 4, none⟩ v' := ⟨_, rfl⟩; rw [← hw7] at hpre; rw [hv9] at hpre; have HPre := Lib.hid (show RPre w7 base p n L [] [.int .i64 (d : Int), .int .i64 (i : Int), .int .i64 0, .int .i64 0, .slice none 0 0] (.slice (some ⟨gg, 0, none⟩) (L.length + 1) cap9) from hpre.1); have HT7 := Lib.hid (((Tn.of_below (T := TR) (base := base) HBr.out).next ((Below.refl wr.heap.size wr).alloc (Nat.le_refl _) (.cells #[.int .i64 (d : Int), .int .i64 (i : Int), .int .i64 0, .int .i64 0, .slice none 0 0] 82))).trans hpre.2); rw [hv9] at hw7 ⊢; have HW7 := Lib.hid (show w7 = w6.setCell ⟨p, 4, none⟩ (.slice (some ⟨gg, 0, none⟩) (L.length + 1) cap9) from hw7); clear hw7 hpre hown' hgrow hnil hv9 hpc)
              rw [← HW7.out]
              clear hp4 hpf
              obtain ⟨NN, hNN⟩ : ∃ NN : Nat, NN = (L.length + 1) := ⟨_, rfl⟩
              rw [← hNN] at HPre
              (try rw [← hNN])
              have hqn : (L.length : Int) < (NN : Int) := by first | omega | (simp at hNN; omega)
              have hqn2 : L.length < NN := by first | omega | (simp at hNN; omega)
              have hNm : (NN : Int) - 1 = (L.length : Int) := by omega
              clear hNN
              obtain ⟨gx, cx, hvx, hgl, hgb, hgT, hcs, hfz⟩ := HPre.out.form
              injection hvx with e1 e2 e3
              injection e1 with e1
              injection e1 with e1
              subst e1
              clear e2 e3
              have hp4 := HPre.out.arenaV
              have e3 := hcs 3 (by decide)
              have e2 := hcs 2 (by decide)
              have f3 := hfz (L.length * 5 + 3)
              have f2 := hfz (L.length * 5 + 2)
              replace e3 : w7.cell? ⟨gg, L.length * 5 + 3, none⟩ = some (.int .i64 0) := e3
              replace e2 : w7.cell? ⟨gg, L.length * 5 + 2, none⟩ = some (.int .i64 0) := e2
              have st1 := HPre.out.store rfl (t := 2) (by decide) (.int .i64 1)
              have st2 := st1.1.store rfl (t := 3) (by decide) (.int .i64 1)
              obtain ⟨wg, hwg⟩ : ∃ wg, wg = (w7.setCell ⟨gg, L.length * 5 + 2, none⟩ (.int .i64 1)).setCell ⟨gg, L.length * 5 + 3, none⟩ (.int .i64 1) := ⟨_, rfl⟩
              rw [← hwg] at st2
              have HPg := Lib.hid (show RPre wg base p n L [] [.int .i64 (d : Int), .int .i64 (i : Int), .int .i64 1, .int .i64 1, .slice none 0 0] (.slice (some ⟨gg, 0, none⟩) NN cap9) from st2.1)
              have HTg := Lib.hid ((HT7.out.trans st1.2).trans st2.2)
              have HWg := Lib.hid hwg
              clear hwg st1 st2 hcs hfz
              go_upto_region 16 with fail
              rw [← HWg.out]
              clear e2 e3 f2 f3 hp4
              have HK0 := Lib.hid (show K3 base p n L [] (.int .i64 (d : Int)) (.int .i64 (i : Int)) (.int .i64 1) (.int .i64 1) (.slice (some ⟨gg, 0, none⟩) NN cap9) wg wg from ⟨⟨_, HPg.out⟩, Tn.refl _ _ _⟩)
              have HK := HK0
              go_region_held3 (fun W => W.cell? ⟨p, 4, none⟩ = some (.slice (some ⟨gg, 0, none⟩) (NN) cap9) ∧ W.cell? ⟨gg, L.length * 5 + 4, none⟩ = some (valIn W ⟨gg, L.length * 5 + 4, none⟩) ∧ W.frozen? ⟨gg, L.length * 5 + 4, none⟩ = false ∧ K3 base p n L [] (.int .i64 (d : Int)) (.int .i64 (i : Int)) (.int .i64 1) (.int .i64 1) (.slice (some ⟨gg, 0, none⟩) (NN) cap9) wg W)
                (first | exact K3.facts (HK.out.more ((Below.refl _ _).drew)) | exact K3.facts HK.out | exact K3.facts (HK.out.more ((Below.refl _ _).alloc (Nat.le_refl _) _)) | exact K3.facts ((HK.out.more ((Below.refl _ _).alloc (Nat.le_refl _) _)).store _))
                ((refine (HSz.out _).mono ?_; rintro e w9 ⟨rfl, hb9⟩; replace HK := Lib.hid ((HK0.out.more ((Below.refl _ _).drew)).more hb9)))
              have hPw := (HPg.out.same ((Below.refl _ _).drew)).same hb9
              have hPa := hPw.same ((Below.refl w9.heap.size w9).alloc (Nat.le_refl _) (.cells (memV (List.replicate Sd 0)) 3))
              have st4 := hPa.store rfl (t := 4) (by decide) (.slice (some ⟨w9.heap.size, 0, none⟩) Sd Sd)
              have hg9 : gg < w9.heap.size := by
                obtain ⟨gy, cy, hvy, h9, _⟩ := hPw.form
                injection hvy with e1 e2 e3
                injection e1 with e1
                injection e1 with e1
                subst e1; exact h9
              obtain ⟨wk, hwk⟩ : ∃ wk, wk = (w9.alloc (.cells (memV (List.replicate Sd 0)) 3)).setCell ⟨gg, L.length * 5 + 4, none⟩ (.slice (some ⟨w9.heap.size, 0, none⟩) Sd Sd) := ⟨_, rfl⟩
              rw [← hwk] at st4 ⊢
              have hmk9 : wk.heap[w9.heap.size]? = some (.cells (memV (List.replicate Sd 0)) 3 (0, 0)) := by
                rw [hwk, Below.heap_setCell _ _ _ _ (show w9.heap.size ≠ gg by omega)]; exact new_block w9 _
              have HT9 := Lib.hid ((((HTg.out.drew).next hb9).next ((Below.refl w9.heap.size w9).alloc (Nat.le_refl _) (.cells (memV (List.replicate Sd 0)) 3))).trans st4.2)
              have hpre9 : RPre wk base p n L [] (five (⟨d, i, 1, 1, List.replicate Sd 0⟩, w9.heap.size)) (.slice (some ⟨gg, 0, none⟩) NN cap9) := by
                have h1 := st4.1
                have h2 := HSd.out
                unfold five
                simp only
                rw [← h2]
                exact h1
              have HD9 := Lib.hid (hpre9.done hmk9 (by rw [← HSd.out]; simp) (Nat.le_trans hPw.out.1 (Nat.le_of_lt hPw.lt)) (by show w9.heap.size ≠ p; have := hPw.lt; omega) (by show some gg ≠ some w9.heap.size; intro e; injection e with e; omega) (fun y hy => by show y.2 ≠ w9.heap.size; have := block_lt (hPw.mem y hy).1; omega))
              have hp9 := st4.1.arenaV
              obtain ⟨gz, cz, hvz, -, -, -, hcz, -⟩ := st4.1.form
              injection hvz with e1 e2 e3
              injection e1 with e1
              injection e1 with e1
              subst e1
              have e9 := hcz 2 (by decide)
              replace e9 : wk.cell? ⟨gg, L.length * 5 + 2, none⟩ = some (.int .i64 1) := e9
              clear e2 e3 hcz st4 hPw hPa hpre9 hmk9 hwk hb9 HK hg9
              go_upto_region 17 with fail
              go_region
              go_wp2_with fail
              (try simp only [Exit.inBlock, Exit.then])
              refine bodyPost_ret (results_tmp4 rfl _ _ _) rfl ?_
              have HRF := Lib.hid (HFn.out _ _ _ HD9.out)
              exact ⟨by rw [HV.out]; rfl, by rw [HV.out]; exact HRF.out.same ((Below.refl _ _).drew), HT9.out.drew⟩
            · obtain ⟨hlt, hre⟩ := List.getElem?_eq_some_iff.1 hr
              have hlt2 : findR (d : Int) (i : Int) (rbs L) < L.length := by rw [← rbs_length]; exact hlt
              rw [rbs_at L _ hlt2] at hre
              have hkey := of_decide_eq_true (findR_key hr)
              have HP := Lib.hid (show placeI (d : Int) (i : Int) L = (findR (d : Int) (i : Int) (rbs L) : Int) from by unfold placeI; rw [if_pos hlt2])
              rw [HP.out] at HF
              have h1 := HR.out.alloc_old c4 HBF.out (by rw [← Hf.out]; exact hr) hrh hrg (List.replicate (sizeC d) 0)
              rw [← Hf.out] at h1
              have hbg := (HBD.out _ (List.getElem_mem hlt2)).1
              rw [hre] at hbg
              obtain ⟨x, hx⟩ : ∃ x, x = L[findR (d : Int) (i : Int) (rbs L)] := ⟨_, rfl⟩
              rw [← hx] at hre
              obtain ⟨q, hq⟩ : ∃ q, q = findR (d : Int) (i : Int) (rbs L) := ⟨_, rfl⟩
              rw [← hq] at HF h1 hlt2
              have hL : L = L.take q ++ x :: L.drop (q + 1) := by
                subst hq
                rw [hx, ← List.drop_eq_getElem_cons, List.take_append_drop]
              have hPl : (L.take q).length = q := by rw [List.length_take]; omega
              obtain ⟨P, hP⟩ : ∃ P, P = L.take q := ⟨_, rfl⟩
              obtain ⟨S, hS⟩ : ∃ S, S = L.drop (q + 1) := ⟨_, rfl⟩
              rw [← hP, ← hS] at hL
              rw [← hP] at hPl
              have hall : ∀ y, y ∈ P ∨ y ∈ S → y ∈ L := fun y hy => by
                rw [hL, List.mem_append]
                rcases hy with hy | hy
                · exact .inl hy
                · exact .inr (List.mem_cons_of_mem _ hy)
              have hlen2 : L.length = P.length + (1 + S.length) := by rw [hL]; simp; omega
              have hc1 : r.c = d := by exact_mod_cast hkey.1
              have hc2 : r.i = i := by exact_mod_cast hkey.2
              obtain ⟨xr, xq⟩ := x
              replace hre : xr = r := hre
              subst hre
              have hrb : rbs L = rbs P ++ xr :: rbs S := by rw [hL]; simp [rbs]
              have HFn := Lib.hid (fun (W : World) (qq : Nat) (u : Value) (hW : RAt W base p n (P ++ (⟨d, i, b.gen + 1, 1, List.replicate Sd 0⟩, qq) :: S) u) => (show RRel W base p n (upd A d ((A d).set i ⟨b.gen + 1, 1, List.replicate (sizeC d) 0⟩)) (G + 1) from by
                refine ⟨⟨_, u, hW, ?_, by simp; omega, fun y hy => ?_⟩, hG1⟩
                · have e : rbs (P ++ (⟨d, i, b.gen + 1, 1, List.replicate Sd 0⟩, qq) :: S) = (rbs L).set q { xr with gen := xr.gen + 1, held := 1, mem := List.replicate (sizeC d) 0 } := by
                    rw [hrb, ← hPl, List.set_append_right _ _ (by simp [rbs])]
                    simp [rbs, hc1, hc2, hrg, HSd.out]
                  rw [e]
                  exact h1
                · rcases List.mem_append.1 hy with hy | hy
                  · have := HBD.out y (hall y (.inl hy)); omega
                  · rcases List.mem_cons.1 hy with rfl | hy
                    · exact ⟨by show b.gen + 1 ≤ G + 1; omega, by show 1 ≤ 1048576; decide⟩
                    · have := HBD.out y (hall y (.inr hy)); omega))
              have HV7 := Lib.hid (show RPre wr base p n P S (five (xr, xq)) v from RPre.of (by rw [← hL]; exact HAr.out))
              obtain ⟨gg, cap9, hv9, -, -, -, -, -⟩ := HV7.out.form
              rw [hv9] at hv
              injection hv with hv1 hv2 hv3
              subst hv1 hv3
              have HPre := Lib.hid (show RPre wr base p n P S [.int .i64 (d : Int), .int .i64 (i : Int), .int .i64 (b.gen : Int), .int .i64 0, .slice (some ⟨xq, 0, none⟩) (sizeC d) (sizeC d)] (.slice (some ⟨gg, 0, none⟩) (P.length + (1 + S.length)) cap9) from by
                have h9 := HV7.out
                unfold five at h9
                simp only at h9
                rw [hc1, hc2, hrg, hrh, hv9] at h9
                exact h9)
              have HT7 := Lib.hid (Tn.of_below (T := TR) (base := base) HBr.out)
              have hgw : IntKind.i64.wrap ((b.gen : Int) + 1) = (b.gen : Int) + 1 := IntWalk.i64_in _ (by omega)
              clear hc4v
              rw [← hPl] at HF
              clear hx hq hP hS hL hPl hrb h1 hall hlt hlt2 hkey HP hv2 hv9 hr hrh hc1 hc2 hbg HV7
              go_wp2_with fail
              refine HF.out.mono ?_
              rintro e w3 ⟨rfl, hw3⟩
              subst hw3
              obtain ⟨NN, hNN⟩ : ∃ NN : Nat, NN = (P.length + (1 + S.length)) := ⟨_, rfl⟩
              rw [← hNN] at HPre
              (try rw [← hNN])
              have hqn : (P.length : Int) < (NN : Int) := by first | omega | (simp at hNN; omega)
              have hqn2 : P.length < NN := by first | omega | (simp at hNN; omega)
              clear hNN
              obtain ⟨gx, cx, hvx, hgl, hgb, hgT, hcs, hfz⟩ := HPre.out.form
              injection hvx with e1 e2 e3
              injection e1 with e1
              injection e1 with e1
              subst e1
              clear e2 e3
              have hp4 := HPre.out.arenaV
              have e3 := hcs 3 (by decide)
              have e2 := hcs 2 (by decide)
              have f3 := hfz (P.length * 5 + 3)
              have f2 := hfz (P.length * 5 + 2)
              replace e3 : wr.cell? ⟨gg, P.length * 5 + 3, none⟩ = some (.int .i64 0) := e3
              replace e2 : wr.cell? ⟨gg, P.length * 5 + 2, none⟩ = some (.int .i64 (b.gen : Int)) := e2
              have st1 := HPre.out.store rfl (t := 2) (by decide) (.int .i64 ((b.gen : Int) + 1))
              have st2 := st1.1.store rfl (t := 3) (by decide) (.int .i64 1)
              obtain ⟨wg, hwg⟩ : ∃ wg, wg = (wr.setCell ⟨gg, P.length * 5 + 2, none⟩ (.int .i64 ((b.gen : Int) + 1))).setCell ⟨gg, P.length * 5 + 3, none⟩ (.int .i64 1) := ⟨_, rfl⟩
              rw [← hwg] at st2
              have HPg := Lib.hid (show RPre wg base p n P S [.int .i64 (d : Int), .int .i64 (i : Int), .int .i64 ((b.gen : Int) + 1), .int .i64 1, .slice (some ⟨xq, 0, none⟩) (sizeC d) (sizeC d)] (.slice (some ⟨gg, 0, none⟩) NN cap9) from st2.1)
              have HTg := Lib.hid ((HT7.out.trans st1.2).trans st2.2)
              have HWg := Lib.hid hwg
              clear hwg st1 st2 hcs hfz
              go_upto_region 16 with fail
              rw [← HWg.out]
              clear e2 e3 f2 f3 hp4
              have HK0 := Lib.hid (show K3 base p n P S (.int .i64 (d : Int)) (.int .i64 (i : Int)) (.int .i64 ((b.gen : Int) + 1)) (.int .i64 1) (.slice (some ⟨gg, 0, none⟩) NN cap9) wg wg from ⟨⟨_, HPg.out⟩, Tn.refl _ _ _⟩)
              have HK := HK0
              go_region_held3 (fun W => W.cell? ⟨p, 4, none⟩ = some (.slice (some ⟨gg, 0, none⟩) (NN) cap9) ∧ W.cell? ⟨gg, P.length * 5 + 4, none⟩ = some (valIn W ⟨gg, P.length * 5 + 4, none⟩) ∧ W.frozen? ⟨gg, P.length * 5 + 4, none⟩ = false ∧ K3 base p n P S (.int .i64 (d : Int)) (.int .i64 (i : Int)) (.int .i64 ((b.gen : Int) + 1)) (.int .i64 1) (.slice (some ⟨gg, 0, none⟩) (NN) cap9) wg W)
                (first | exact K3.facts (HK.out.more ((Below.refl _ _).drew)) | exact K3.facts HK.out | exact K3.facts (HK.out.more ((Below.refl _ _).alloc (Nat.le_refl _) _)) | exact K3.facts ((HK.out.more ((Below.refl _ _).alloc (Nat.le_refl _) _)).store _))
                ((refine (HSz.out _).mono ?_; rintro e w9 ⟨rfl, hb9⟩; replace HK := Lib.hid ((HK0.out.more ((Below.refl _ _).drew)).more hb9)))
              have hPw := (HPg.out.same ((Below.refl _ _).drew)).same hb9
              have hPa := hPw.same ((Below.refl w9.heap.size w9).alloc (Nat.le_refl _) (.cells (memV (List.replicate Sd 0)) 3))
              have st4 := hPa.store rfl (t := 4) (by decide) (.slice (some ⟨w9.heap.size, 0, none⟩) Sd Sd)
              have hg9 : gg < w9.heap.size := by
                obtain ⟨gy, cy, hvy, h9, _⟩ := hPw.form
                injection hvy with e1 e2 e3
                injection e1 with e1
                injection e1 with e1
                subst e1; exact h9
              obtain ⟨wk, hwk⟩ : ∃ wk, wk = (w9.alloc (.cells (memV (List.replicate Sd 0)) 3)).setCell ⟨gg, P.length * 5 + 4, none⟩ (.slice (some ⟨w9.heap.size, 0, none⟩) Sd Sd) := ⟨_, rfl⟩
              rw [← hwk] at st4 ⊢
              have hmk9 : wk.heap[w9.heap.size]? = some (.cells (memV (List.replicate Sd 0)) 3 (0, 0)) := by
                rw [hwk, Below.heap_setCell _ _ _ _ (show w9.heap.size ≠ gg by omega)]; exact new_block w9 _
              have HT9 := Lib.hid ((((HTg.out.drew).next hb9).next ((Below.refl w9.heap.size w9).alloc (Nat.le_refl _) (.cells (memV (List.replicate Sd 0)) 3))).trans st4.2)
              have hpre9 : RPre wk base p n P S (five (⟨d, i, b.gen + 1, 1, List.replicate Sd 0⟩, w9.heap.size)) (.slice (some ⟨gg, 0, none⟩) NN cap9) := by
                have h1 := st4.1
                have h2 := HSd.out
                unfold five
                simp only
                rw [← h2]
                exact h1
              have HD9 := Lib.hid (hpre9.done hmk9 (by rw [← HSd.out]; simp) (Nat.le_trans hPw.out.1 (Nat.le_of_lt hPw.lt)) (by show w9.heap.size ≠ p; have := hPw.lt; omega) (by show some gg ≠ some w9.heap.size; intro e; injection e with e; omega) (fun y hy => by show y.2 ≠ w9.heap.size; have := block_lt (hPw.mem y hy).1; omega))
              have hp9 := st4.1.arenaV
              obtain ⟨gz, cz, hvz, -, -, -, hcz, -⟩ := st4.1.form
              injection hvz with e1 e2 e3
              injection e1 with e1
              injection e1 with e1
              subst e1
              have e9 := hcz 2 (by decide)
              replace e9 : wk.cell? ⟨gg, P.length * 5 + 2, none⟩ = some (.int .i64 ((b.gen : Int) + 1)) := e9
              clear e2 e3 hcz st4 hPw hPa hpre9 hmk9 hwk hb9 HK hg9
              go_upto_region 17 with fail
              go_region
              go_wp2_with fail
              (try simp only [Exit.inBlock, Exit.then])
              refine bodyPost_ret (results_tmp4 rfl _ _ _) rfl ?_
              have HRF := Lib.hid (HFn.out _ _ _ HD9.out)
              exact ⟨by rw [HV.out]; rfl, by rw [HV.out]; exact HRF.out.same ((Below.refl _ _).drew), HT9.out.drew⟩
end Go.Proofs.Ytheljldoboiekaa.Sl
