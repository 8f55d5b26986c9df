/-
  Texts that the laws' proofs stand on, 3 of them in one file; each one's head says what it proves and under which condition.
-/
import Derived.Test.YtbpadliiekhkjaaCHNP9
import Derived.Test.YtbpadliiekhkjaaCHNP10
import Derived.Laws.ResultCell
import Derived.WalkSpells
import Derived.Lib.LazyBuf
import Derived.Test.YtbpadliiekhkjaaCHNP8
/-
  The program's New, its arena in the blocks that it made; how the set is widened and narrowed. No condition.
-/
namespace Go.Proofs.Ytbpadliiekhkjaa.So
open Go.RowKit Go.Proofs.Ytbpadliiekhkjaa.Fd Go.Proofs.Ytbpadliiekhkjaa.Sl
set_option maxRecDepth 100000
set_option linter.unusedVariables false

theorem PAt.mono {w : World} {O O' : Nat → Prop} {p : Nat} {n gs : Nat → Nat} {Q : Mp} {M : Nat → Nat → Tk.Bs} {A : Ar} (h : PAt w O p n gs Q M A) (hO : ∀ k, k < w.heap.size → O k → O' k) : PAt w O' p n gs Q M A :=
  ⟨h.arena, h.row, h.len, h.mem, hO _ h.lt h.apP, fun c hc => ⟨hO _ (h.ltG hc) (h.apG c hc).1, (h.apG c hc).2⟩, h.apGG, fun c i q hq => ⟨(h.apQ c i q hq).1, hO _ (h.ltQ hq) (h.apQ c i q hq).2.1, (h.apQ c i q hq).2.2⟩, h.apQQ⟩
theorem PRel.mono {w : World} {O O' : Nat → Prop} {p : Nat} {n : Nat → Nat} {A : Ar} {G : Nat} (h : PRel w O p n A G) (hO : ∀ k, k < w.heap.size → O k → O' k) : PRel w O' p n A G := by
  obtain ⟨gs, Q, M, h1, h2⟩ := h.it
  exact ⟨⟨gs, Q, M, h1.mono hO, h2⟩, h.few, h.small⟩
/-- All blocks of the arena are there: what is made later is none of them. -/
theorem PRel.shut {w : World} {O : Nat → Prop} {p : Nat} {n : Nat → Nat} {A : Ar} {G : Nat} (h : PRel w O p n A G) : PRel w (fun k => O k ∧ k < w.heap.size) p n A G := h.mono fun k hk ho => ⟨ho, hk⟩
theorem PRel.ofSl {w : World} {base p : Nat} {n : Nat → Nat} {A : Ar} {G : Nat} (h : Sl.PRel w base p n A G) : PRel w (fun k => base ≤ k) p n A G := by
  obtain ⟨gs, Q, M, h1, h2⟩ := h.it
  exact ⟨⟨gs, Q, M, ⟨h1.arena, h1.row, h1.len, h1.mem, h1.apP, h1.apG, h1.apGG, h1.apQ, h1.apQQ⟩, h2⟩, h.few, h.small⟩
theorem PRel.toSl {w : World} {O : Nat → Prop} {p : Nat} {n : Nat → Nat} {A : Ar} {G : Nat} (h : PRel w O p n A G) : Sl.PRel w 0 p n A G := by
  obtain ⟨gs, Q, M, h1, h2⟩ := h.it
  exact ⟨⟨gs, Q, M, h1.toSl, h2⟩, h.few, h.small⟩
/-- Nothing of the set has changed. -/
theorem PRel.kept {w w' : World} {O : Nat → Prop} {p : Nat} {n : Nat → Nat} {A : Ar} {G : Nat} (h : PRel w O p n A G) (hs : ∀ k, k < w.heap.size → O k → w'.heap[k]? = w.heap[k]?) : PRel w' O p n A G := by
  obtain ⟨gs, Q, M, h1, h2⟩ := h.it
  refine ⟨⟨gs, Q, M, ⟨(hs _ h1.lt h1.apP).trans h1.arena, fun c hc => ?_, h1.len, fun c i q hq => ⟨(hs _ (h1.ltQ hq) (h1.apQ c i q hq).2.1).trans (h1.mem c i q hq).1, (h1.mem c i q hq).2⟩, h1.apP, h1.apG, h1.apGG, h1.apQ, h1.apQQ⟩, h2⟩, h.few, h.small⟩
  obtain ⟨cur, h3, h4⟩ := h1.row c hc
  exact ⟨cur, (hs _ (h1.ltG hc) (h1.apG c hc).1).trans h3, h4⟩
end Go.Proofs.Ytbpadliiekhkjaa.So
/-
  The program's Alloc beside the plain arena. Condition: they are related ahead.
-/
namespace Go.Proofs.Ytbpadliiekhkjaa.Sl
open Go.RowKit Go.Proofs.Ytbpadliiekhkjaa.Fd
set_option maxRecDepth 100000
set_option linter.unusedVariables false
set_option linter.unusedSimpArgs false

theorem infoH : (Try.prog.info? 78).map (·.size) = some 3 := by kernel_rfl
/-- What a call leaves that takes a block. -/
def AllocP (base p : Nat) (n : Nat → Nat) (r : Hd × Int × Ar) (G : Nat) (w : World) (e : Ending) (w' : World) : Prop :=
  e = .returned (.tuple #[.agg #[.int .i64 r.1.1, .int .i64 r.1.2.1, .int .i64 r.1.2.2], .int .i64 r.2.1]) ∧ PRel w' base p n r.2.2 (G + 1) ∧ Tn TP base w w'
theorem classI_n (n : Int) (h : 0 ≤ n) (h2 : n ≤ 4096) : classI n = (classN n.toNat : Int) := by
  unfold classI classN
  by_cases h1 : n ≤ 64
  · rw [if_pos h1, if_pos (by omega)]; rfl
  · by_cases h3 : n ≤ 256
    · rw [if_neg h1, if_pos h3, if_neg (by omega), if_pos (by omega)]; rfl
    · by_cases h4 : n ≤ 1024
      · rw [if_neg h1, if_neg h3, if_pos h4, if_neg (by omega), if_neg (by omega), if_pos (by omega)]; rfl
      · rw [if_neg h1, if_neg h3, if_neg h4, if_pos h2, if_neg (by omega), if_neg (by omega), if_neg (by omega)]; rfl
theorem classI_big (n : Int) (h2 : 4096 < n) : classI n = -1 := by
  unfold classI
  rw [if_neg (by omega), if_neg (by omega), if_neg (by omega), if_neg (by omega)]
theorem classI_low (n : Int) (h2 : n < 0) : classI n = 0 := by
  unfold classI
  rw [if_pos (by omega)]
theorem three {w : World} {g : Nat} {x y z : Value} {t : TypeId} {fr : Nat × Nat} (h : w.heap[g]? = some (.cells #[x, y, z] t fr)) : w.cell? ⟨g, 0, none⟩ = some x ∧ w.cell? ⟨g, 1, none⟩ = some y ∧ w.cell? ⟨g, 2, none⟩ = some z := by
  refine ⟨?_, ?_, ?_⟩ <;> (rw [Lib.cell_of_heap h]; rfl)
theorem put3 {w : World} {g : Nat} {a b c : Value} {t : TypeId} {fr : Nat × Nat} (h : w.heap[g]? = some (.cells #[a, b, c] t fr)) (x y z : Value) :
    (((w.setCell ⟨g, 0, none⟩ x).setCell ⟨g, 1, none⟩ y).setCell ⟨g, 2, none⟩ z).heap[g]? = some (.cells #[x, y, z] t fr) := by
  rw [heap_put (heap_put (heap_put h 0 x) 1 y) 2 z]; rfl
theorem sizeC_le {c : Nat} (hc : c < 4) : sizeC c ≤ 4096 := by
  rcases (by omega : c = 0 ∨ c = 1 ∨ c = 2 ∨ c = 3) with rfl | rfl | rfl | rfl <;> decide
theorem make_bytes (W : World) (S : Nat) (hS : S ≤ 4096) : ∃ w', (Instr.makeSlice 36 (.int .i64 (S : Int)) (.int .i64 (S : Int))).run Try.prog W = .ok (.slice (some ⟨W.heap.size, 0, none⟩) S S) w' ∧
    w'.heap[W.heap.size]? = some (.cells (u8V (List.replicate S 0)) 5 (0, 0)) ∧ Below W.heap.size W w' := by
  obtain ⟨i, hi, hz, hs, hb⟩ := info_parts8 infoU8
  have hr := run_makeSlice (P := Try.prog) W 36 5 i _ Try.underlying36 hi hz .i64 .i64 (S : Int) (S : Int) (by omega) (by omega) (by rw [hs]; simp; omega) (by rw [hb]; omega) (by omega)
  simp only [Int.toNat_natCast, hs, Nat.mul_one] at hr
  refine ⟨_, hr, ?_, (Below.refl _ _).alloc (Nat.le_refl _) _⟩
  rw [new_block, ← zero_bytes]
  congr 2
  unfold madeCells Builtin.zeroCells
  simp [Value.cells]
/-- The answer's cells are not the arena's. -/
theorem res_tn {base : Nat} {w w4 w8 : World} {x y z : Value} (h : Below w.heap.size w w4) (h8 : Tn TP base w4 w8) : Tn TP base w (((w8.setCell ⟨w.heap.size + 1, 0, none⟩ x).setCell ⟨w.heap.size + 1, 1, none⟩ y).setCell ⟨w.heap.size + 1, 2, none⟩ z) := by
  have h1 := (Tn.of_below (T := TP) (base := base) h).trans h8
  refine ⟨h1.os, h1.tape, h1.output, by simpa [World.setCell] using h1.size, fun k hk hn => ?_⟩
  rw [set_heap (by omega), set_heap (by omega), set_heap (by omega)]
  exact h1.block k hk hn
theorem res_rel {base p : Nat} {n : Nat → Nat} {A : Ar} {G g : Nat} {w8 : World} {x y z : Value} {cs : Array Value} (h : PRel w8 base p n A G) (hg : w8.heap[g]? = some (.cells cs 78 (0, 0))) :
    PRel (((w8.setCell ⟨g, 0, none⟩ x).setCell ⟨g, 1, none⟩ y).setCell ⟨g, 2, none⟩ z) base p n A G := by
  have i1 : IsT (fun t => t == 78) w8 g := ⟨_, _, _, hg, rfl⟩
  have i2 : IsT (fun t => t == 78) (w8.setCell ⟨g, 0, none⟩ x) g := ⟨_, _, _, heap_put hg _ _, rfl⟩
  have i3 : IsT (fun t => t == 78) ((w8.setCell ⟨g, 0, none⟩ x).setCell ⟨g, 1, none⟩ y) g := ⟨_, _, _, heap_put (heap_put hg _ _) _ _, rfl⟩
  refine h.tn (((Tn.set (base := 0) i1 (Nat.zero_le _) x).trans (Tn.set i2 (Nat.zero_le _) y)).trans (Tn.set i3 (Nat.zero_le _) z)) (fun t ht => ?_)
  unfold TP at ht
  simp at ht
  rcases ht with (rfl | rfl) | rfl <;> rfl
/-- The call's own blocks, made since. -/
theorem new3_below {w : World} {w2 : World} {g : Nat} (h : Below w.heap.size w w2) (hg : w.heap.size ≤ g) (x y z : Value) : Below w.heap.size w (((w2.setCell ⟨g, 0, none⟩ x).setCell ⟨g, 1, none⟩ y).setCell ⟨g, 2, none⟩ z) :=
  ((h.setCell (p := ⟨g, 0, none⟩) hg _).setCell (p := ⟨g, 1, none⟩) hg _).setCell (p := ⟨g, 2, none⟩) hg _
set_option maxHeartbeats 8000000 in
theorem palloc_any {base p : Nat} {n : Nat → Nat} {A : Ar} {G : Nat} (k : Int) (w : World) (h : PRel w base p n A G) (hG1 : G + 1 ≤ 1099511627776) :
    Calls Try.prog 30 #[.pointer (some ⟨p, 0, none⟩), .int .i64 k] w (AllocP base p n (allocA A k) G w) := by
  obtain ⟨gs, Q, M, hP, hG⟩ := h.it
  obtain ⟨w2, hw2⟩ : ∃ w2, w2 = (w.alloc (.cells #[.int .i64 k] 3)).alloc (.cells #[.int .i64 0, .int .i64 0, .int .i64 0] 78) := ⟨_, rfl⟩
  have hB2 : Below w.heap.size w w2 := by rw [hw2]; exact ((Below.refl _ _).alloc (Nat.le_refl _) _).alloc (by simp) _
  have hk2 : w2.heap[w.heap.size]? = some (.cells #[.int .i64 k] 3 (0, 0)) := by rw [hw2]; exact (old_block _ _ (by simp)).trans (new_block _ _)
  have hr2 : w2.heap[w.heap.size + 1]? = some (.cells #[.int .i64 0, .int .i64 0, .int .i64 0] 78 (0, 0)) := by rw [hw2]; exact new_block' _ _ (by simp)
  have hP2 := hP.same hB2
  have HM := Lib.hid (made_yes p w2 (hP2.size (c := 0) (by decide)))
  have HC := Lib.hid (firstC_any p w.heap.size gs n k w2 hP2.arena (by rw [Lib.cell_of_heap hk2]; rfl) (block_lt hk2))
  have HH := Lib.hid h
  have HP := Lib.hid hP2
  have HG := Lib.hid hG
  have HB2 := Lib.hid hB2
  have HW2 := Lib.hid hw2
  have HK2 := Lib.hid hk2
  have HR2 := Lib.hid hr2
  clear hP hG hP2 h hB2 hw2 hk2 hr2
  by_cases hlow : k < 0
  · have HV := Lib.hid (show allocA A k = ((0, 0, 0), 2, A) from by unfold allocA; rw [if_pos (.inl hlow)])
    rw [classI_low k hlow] at HC
    go_enter Try.func30, Try.ntmps30
    go_wp2_with fail
    rw [← HW2.out]
    refine HM.out.mono ?_
    rintro e w1 ⟨rfl, hw⟩
    subst hw
    go_wp2_with fail
    refine HC.out.mono ?_
    rintro e w3 ⟨rfl, hb3⟩
    have c0 : w3.cell? ⟨w.heap.size, 0, none⟩ = some (.int .i64 k) := by rw [Lib.cell_of_heap (Bl.old hb3 (block_lt HK2.out) HK2.out)]; rfl
    have HR3 := Lib.hid (Bl.old hb3 (block_lt HR2.out) HR2.out)
    obtain ⟨r0, r1, r2⟩ := three HR3.out
    have f0 := free HR3.out 0
    have f1 := free HR3.out 1
    have f2 := free HR3.out 2
    have HB3 := Lib.hid (Bl.next HB2.out hb3)
    clear hb3
    go_wp2_with fail
    refine bodyPost_ret (results_pair rfl _ _ (w.heap.size + 1) 78 _ (0, 0) _ rfl (put3 HR3.out _ _ _) Try.underlying78 rfl infoH) rfl ?_
    exact ⟨by rw [HV.out]; rfl, by rw [HV.out]; exact (HH.out.same (new3_below HB3.out (by omega) _ _ _)).more (Nat.le_succ _) hG1, Tn.of_below (new3_below HB3.out (by omega) _ _ _)⟩
  · by_cases hbig : 4096 < k
    · have HV := Lib.hid (show allocA A k = ((0, 0, 0), 2, A) from by unfold allocA; rw [if_pos (.inr hbig)])
      rw [classI_big k hbig] at HC
      go_enter Try.func30, Try.ntmps30
      go_wp2_with fail
      rw [← HW2.out]
      refine HM.out.mono ?_
      rintro e w1 ⟨rfl, hw⟩
      subst hw
      go_wp2_with fail
      refine HC.out.mono ?_
      rintro e w3 ⟨rfl, hb3⟩
      have c0 : w3.cell? ⟨w.heap.size, 0, none⟩ = some (.int .i64 k) := by rw [Lib.cell_of_heap (Bl.old hb3 (block_lt HK2.out) HK2.out)]; rfl
      have HR3 := Lib.hid (Bl.old hb3 (block_lt HR2.out) HR2.out)
      obtain ⟨r0, r1, r2⟩ := three HR3.out
      have f0 := free HR3.out 0
      have f1 := free HR3.out 1
      have f2 := free HR3.out 2
      have HB3 := Lib.hid (Bl.next HB2.out hb3)
      clear hb3
      go_wp2_with fail
      refine bodyPost_ret (results_pair rfl _ _ (w.heap.size + 1) 78 _ (0, 0) _ rfl (put3 HR3.out _ _ _) Try.underlying78 rfl infoH) rfl ?_
      exact ⟨by rw [HV.out]; rfl, by rw [HV.out]; exact (HH.out.same (new3_below HB3.out (by omega) _ _ _)).more (Nat.le_succ _) hG1, Tn.of_below (new3_below HB3.out (by omega) _ _ _)⟩
    · rw [classI_n k (by omega) (by omega)] at HC
      obtain ⟨c, hc⟩ : ∃ c, c = classN k.toNat := ⟨_, rfl⟩
      have c4 : c < 4 := by rw [hc]; exact classN_lt _
      have q4 : (c : Int) < 4 := by omega
      have qn : ((c : Int) == -1) = false := by rw [beq_eq_false_iff_ne]; omega
      have hAl : allocA A k = match (A c)[freeAt (A c)]? with
          | none => ((0, 0, 0), 14, A)
          | some b => (((c : Int), (freeAt (A c) : Int), (b.gen : Int) + 1), 0, upd A c ((A c).set (freeAt (A c)) ⟨b.gen + 1, 1, List.replicate (sizeC c) 0⟩)) := by
        unfold allocA; rw [if_neg (by omega), ← hc]; cases (A c)[freeAt (A c)]? <;> rfl
      rw [← hc] at HC
      clear hc
      have hln := HP.out.len c c4
      have hfew := HH.out.few c c4
      obtain ⟨cur, hcu, hrow⟩ := HP.out.row c c4
      have HFB := Lib.hid (show ∀ W : World, Below w2.heap.size w2 W → Calls Try.prog 47 #[.slice (some ⟨gs c, 0, none⟩) (n c) (n c), .func (.func 48) #[] #[]] W fun e w' => e = .returned (.int .i64 (freeI (A c))) ∧ Below W.heap.size W w' from fun W hW => by
        rw [← hln]
        exact firstB_any (gs c) c (Q c) (A c) cur W (Bl.old hW (block_lt hcu) hcu) hrow (by omega))
      have HE := Lib.hid (HP.out.blocks c4)
      replace HE : Hid (w2.cell? ⟨p, c * 2 + 1, none⟩ = some (.slice (some ⟨gs c, 0, none⟩) (n c) (n c))) := HE
      have HZ := Lib.hid (HP.out.size c4)
      have hpl := HP.out.lt
      clear hcu hrow
      by_cases hfull : freeAt (A c) = n c
      · have HV := Lib.hid (show allocA A k = ((0, 0, 0), 14, A) from by rw [hAl, List.getElem?_eq_none (by omega)])
        rw [show freeI (A c) = -1 from by unfold freeI; rw [if_neg (by omega)]] at HFB
        clear hAl hfull hln
        generalize n c = N at *
        generalize gs c = g at *
        go_enter Try.func30, Try.ntmps30
        go_wp2_with fail
        rw [← HW2.out]
        refine HM.out.mono ?_
        rintro e w1 ⟨rfl, hw⟩
        subst hw
        go_wp2_with fail
        refine HC.out.mono ?_
        rintro e w3 ⟨rfl, hb3⟩
        have c0 : w3.cell? ⟨w.heap.size, 0, none⟩ = some (.int .i64 k) := by rw [Lib.cell_of_heap (Bl.old hb3 (block_lt HK2.out) HK2.out)]; rfl
        have c1 := (hb3.cell (p := ⟨p, c * 2 + 1, none⟩) hpl).trans HE.out
        go_wp2_with fail
        refine (HFB.out _ hb3).mono ?_
        rintro e w4 ⟨rfl, hb4⟩
        replace hb3 := Bl.next hb3 hb4
        have HR3 := Lib.hid (Bl.old hb3 (block_lt HR2.out) HR2.out)
        obtain ⟨r0, r1, r2⟩ := three HR3.out
        have f0 := free HR3.out 0
        have f1 := free HR3.out 1
        have f2 := free HR3.out 2
        have HB3 := Lib.hid (Bl.next HB2.out hb3)
        clear hb3
        go_wp2_with fail
        refine bodyPost_ret (results_pair rfl _ _ (w.heap.size + 1) 78 _ (0, 0) _ rfl (put3 HR3.out _ _ _) Try.underlying78 rfl infoH) rfl ?_
        exact ⟨by rw [HV.out]; rfl, by rw [HV.out]; exact (HH.out.same (new3_below HB3.out (by omega) _ _ _)).more (Nat.le_succ _) hG1, Tn.of_below (new3_below HB3.out (by omega) _ _ _)⟩
      · have hlt : freeAt (A c) < n c := by have := freeAt_le (A c); omega
        obtain ⟨b, hb⟩ : ∃ b, (A c)[freeAt (A c)]? = some b := ⟨_, List.getElem?_eq_getElem (by omega)⟩
        have hh0 : b.held = 0 := by
          have h1 := freeAt_free (A c) (by omega)
          obtain ⟨h2, h3⟩ := List.getElem?_eq_some_iff.1 hb
          rw [h3] at h1; exact h1
        obtain ⟨hsm1, _⟩ := HG.out.small c _ b c4 hb
        rw [show freeI (A c) = freeAt (A c) from by unfold freeI; rw [if_pos (by omega)]] at HFB
        rw [hb] at hAl
        obtain ⟨i, hi⟩ : ∃ i, i = freeAt (A c) := ⟨_, rfl⟩
        rw [← hi] at hb hAl HFB hlt
        have HV := Lib.hid (show allocA A k = (((c : Int), (i : Int), (b.gen : Int) + 1), 0, upd A c ((A c).set i ⟨b.gen + 1, 1, List.replicate (sizeC c) 0⟩)) from hAl)
        have HHb := Lib.hid hb
        have hgl := HP.out.ltG c4
        have hgn : (b.gen : Int) ≤ 1099511627775 := by have := HH.out.small; omega
        have hwg : IntKind.i64.wrap ((b.gen : Int) + 1) = ((b.gen + 1 : Nat) : Int) := by rw [IntWalk.i64_in _ (by omega)]; omega
        have hin : (i : Int) < (n c : Int) := by omega
        have qi : ((i : Int) == -1) = false := by rw [beq_eq_false_iff_ne]; omega
        have hS := sizeC_le c4
        have HFin := Lib.hid (fun (Q' : Mp) (M' : Nat → Nat → Tk.Bs) (W : World) (h1 : ∀ d j, ¬ (d = c ∧ j = i) → Q' d j = Q d j) (h2 : ∀ d j, ¬ (d = c ∧ j = i) → M' d j = M d j) (h3 : ∃ q, Q' c i = some q) (h4 : M' c i = List.replicate (sizeC c) 0)
            (hW : PAt W base p n gs Q' M' (upd A c ((A c).set i ⟨b.gen + 1, 1, List.replicate (sizeC c) 0⟩))) =>
          (show PRel W base p n (upd A c ((A c).set i ⟨b.gen + 1, 1, List.replicate (sizeC c) 0⟩)) (G + 1) from ⟨⟨gs, Q', M', hW, HG.out.put h1 h2 (Nat.le_succ _) (fun _ => ⟨Nat.succ_ne_zero _, h3, h4⟩) (fun z => absurd z (by show (1 : Nat) ≠ 0; decide)) ⟨Nat.succ_le_succ hsm1, by show (1 : Nat) ≤ _; decide⟩⟩, HH.out.few, hG1⟩))
        clear hAl hfull hi hln hb hsm1
        cases hQ : Q c i with
        | some q =>
          have HQ := Lib.hid hQ
          clear hQ
          have hnl := fun (w : World) (a : Option Addr) (n c : Nat) => Lib.run_eql_slice_nil (P := Try.prog) w 36 5 a n c 0 0 Try.underlying36
          go_enter Try.func30, Try.ntmps30
          go_wp2_with fail
          rw [← HW2.out]
          refine HM.out.mono ?_
          rintro e w1 ⟨rfl, hw⟩
          subst hw
          go_wp2_with fail
          refine HC.out.mono ?_
          rintro e w3 ⟨rfl, hb3⟩
          have c0 : w3.cell? ⟨w.heap.size, 0, none⟩ = some (.int .i64 k) := by rw [Lib.cell_of_heap (Bl.old hb3 (block_lt HK2.out) HK2.out)]; rfl
          have c1 := (hb3.cell (p := ⟨p, c * 2 + 1, none⟩) hpl).trans HE.out
          go_wp2_with fail
          refine (HFB.out _ hb3).mono ?_
          rintro e w4 ⟨rfl, hb4⟩
          replace hb3 := Bl.next hb3 hb4
          clear c1 c0 hb4
          have c1 := (hb3.cell (p := ⟨p, c * 2 + 1, none⟩) hpl).trans HE.out
          have c2 := (hb3.cell (p := ⟨p, c * 2, none⟩) hpl).trans HZ.out
          have HP4 := Lib.hid (HP.out.same hb3)
          have HR3 := Lib.hid (Bl.old hb3 (block_lt HR2.out) HR2.out)
          have HB3 := Lib.hid (Bl.next HB2.out hb3)
          have d4 := (HP4.out.cell c4 HHb.out (t := 4) (by decide)).1
          replace d4 : w4.cell? ⟨gs c, i * 5 + 4, none⟩ = some (bytV c (Q c i)) := d4
          rw [HQ.out] at d4
          replace d4 : w4.cell? ⟨gs c, i * 5 + 4, none⟩ = some (.slice (some ⟨q, 0, none⟩) (sizeC c) (sizeC c)) := d4
          have e0 := HP4.out.cell c4 HHb.out (t := 0) (by decide)
          have e1 := HP4.out.cell c4 HHb.out (t := 1) (by decide)
          have e2 := HP4.out.cell c4 HHb.out (t := 2) (by decide)
          obtain ⟨e0, g0⟩ := e0
          obtain ⟨e1, g1⟩ := e1
          obtain ⟨e2, g2⟩ := e2
          replace e0 : w4.cell? ⟨gs c, i * 5, none⟩ = some (.int .i64 (ownI c b.gen)) := e0
          replace e1 : w4.cell? ⟨gs c, i * 5 + 1, none⟩ = some (.int .i64 (ownI i b.gen)) := e1
          replace e2 : w4.cell? ⟨gs c, i * 5 + 2, none⟩ = some (.int .i64 (b.gen : Int)) := e2
          replace g0 : w4.frozen? ⟨gs c, i * 5, none⟩ = false := g0
          have hP7 := HP4.out.own (b' := { b with gen := b.gen + 1 }) c4 HHb.out rfl (Nat.succ_ne_zero _)
          replace hP7 : PAt (((w4.setCell ⟨gs c, i * 5, none⟩ (.int .i64 (c : Int))).setCell ⟨gs c, i * 5 + 1, none⟩ (.int .i64 (i : Int))).setCell ⟨gs c, i * 5 + 2, none⟩ (.int .i64 ((b.gen + 1 : Nat) : Int))) base p n gs Q M _ := hP7
          obtain ⟨w7, hw7⟩ : ∃ w7, w7 = ((w4.setCell ⟨gs c, i * 5, none⟩ (.int .i64 (c : Int))).setCell ⟨gs c, i * 5 + 1, none⟩ (.int .i64 (i : Int))).setCell ⟨gs c, i * 5 + 2, none⟩ (.int .i64 ((b.gen + 1 : Nat) : Int)) := ⟨_, rfl⟩
          rw [← hw7] at hP7
          have HT7 := Lib.hid (show Tn TP base w4 w7 from by
            rw [hw7]
            obtain ⟨x1, x2⟩ := HP4.out.rowIs c4
            have y : ∀ (V : World) (j : Nat) (u : Value), IsT TP V (gs c) → IsT TP (V.setCell ⟨gs c, j, none⟩ u) (gs c) := fun V j u ⟨cs, t, fr, z1, z2⟩ => ⟨_, t, fr, heap_put z1 _ _, z2⟩
            exact (((Tn.refl TP base w4).trans (Tn.set x1 x2 _)).trans (Tn.set (y _ _ _ x1) x2 _)).trans (Tn.set (y _ _ _ (y _ _ _ x1)) x2 _))
          have hA7 : ((upd A c ((A c).set i { b with gen := b.gen + 1 })) c)[i]? = some { b with gen := b.gen + 1 } := by
            rw [upd_same, List.getElem?_set_self (List.getElem?_eq_some_iff.1 HHb.out).1]
          obtain ⟨k3, g3⟩ := hP7.cell c4 hA7 (t := 3) (by decide)
          replace k3 : w7.cell? ⟨gs c, i * 5 + 3, none⟩ = some (.int .i64 (b.held : Int)) := k3
          have hP8 := hP7.store (b' := ⟨b.gen + 1, 1, List.replicate (sizeC c) 0⟩) (u := .int .i64 1) c4 hA7 (t := 3) (by decide) rfl
          rw [upd_same, upd_twice, List.set_set] at hP8
          obtain ⟨w8, hw8⟩ : ∃ w8, w8 = w7.setCell ⟨gs c, i * 5 + 3, none⟩ (.int .i64 1) := ⟨_, rfl⟩
          rw [← hw8] at hP8
          have HT8 := Lib.hid (show Tn TP base w4 w8 from by rw [hw8]; exact HT7.out.trans (Tn.set (hP7.rowIs c4).1 (hP7.rowIs c4).2 _))
          have hA8 : ((upd A c ((A c).set i ⟨b.gen + 1, 1, List.replicate (sizeC c) 0⟩)) c)[i]? = some ⟨b.gen + 1, 1, List.replicate (sizeC c) 0⟩ := by
            rw [upd_same, List.getElem?_set_self (List.getElem?_eq_some_iff.1 HHb.out).1]
          have m0 := (hP8.cell c4 hA8 (t := 0) (by decide)).1
          have m1 := (hP8.cell c4 hA8 (t := 1) (by decide)).1
          have m2 := (hP8.cell c4 hA8 (t := 2) (by decide)).1
          replace m0 : w8.cell? ⟨gs c, i * 5, none⟩ = some (.int .i64 (ownI c (b.gen + 1))) := m0
          replace m1 : w8.cell? ⟨gs c, i * 5 + 1, none⟩ = some (.int .i64 (ownI i (b.gen + 1))) := m1
          replace m2 : w8.cell? ⟨gs c, i * 5 + 2, none⟩ = some (.int .i64 ((b.gen : Int) + 1)) := m2
          rw [show ownI c (b.gen + 1) = (c : Int) from by unfold ownI; rw [if_neg (Nat.succ_ne_zero _)]] at m0
          rw [show ownI i (b.gen + 1) = (i : Int) from by unfold ownI; rw [if_neg (Nat.succ_ne_zero _)]] at m1
          have HR8 := Lib.hid (HT8.out.other HR3.out rfl)
          obtain ⟨r0, r1, r2⟩ := three HR8.out
          have f0 := free HR8.out 0
          have f1 := free HR8.out 1
          have f2 := free HR8.out 2
          have HPF := Lib.hid (HFin.out Q M w8 (fun _ _ _ => rfl) (fun _ _ _ => rfl) ⟨q, HQ.out⟩ (HG.out.idle c i b q c4 HHb.out hh0 HQ.out) hP8)
          have HW7 := Lib.hid (show w7 = ((w4.setCell ⟨gs c, i * 5, none⟩ (.int .i64 (c : Int))).setCell ⟨gs c, i * 5 + 1, none⟩ (.int .i64 (i : Int))).setCell ⟨gs c, i * 5 + 2, none⟩ (.int .i64 ((b.gen : Int) + 1)) from hw7)
          have HW8 := Lib.hid hw8
          clear hw7 hw8 hP7 hP8 hA7 hA8 hb3
          go_upto_region 13 with fail
          rw [← HW7.out]
          clear e0 e1 e2 g0 g1 g2
          go_upto_region 14 with fail
          rw [← HW8.out]
          clear k3 g3
          go_wp2_with fail
          refine bodyPost_ret (results_pair rfl _ _ (w.heap.size + 1) 78 _ (0, 0) _ rfl (put3 HR8.out _ _ _) Try.underlying78 rfl infoH) rfl ?_
          have HN9 := Lib.hid (show Tn TP base w (((w8.setCell ⟨w.heap.size + 1, 0, none⟩ (.int .i64 (c : Int))).setCell ⟨w.heap.size + 1, 1, none⟩ (.int .i64 (i : Int))).setCell ⟨w.heap.size + 1, 2, none⟩ (.int .i64 ((b.gen : Int) + 1))) from res_tn HB3.out HT8.out)
          have HP9 := Lib.hid (show PRel (((w8.setCell ⟨w.heap.size + 1, 0, none⟩ (.int .i64 (c : Int))).setCell ⟨w.heap.size + 1, 1, none⟩ (.int .i64 (i : Int))).setCell ⟨w.heap.size + 1, 2, none⟩ (.int .i64 ((b.gen : Int) + 1))) base p n _ (G + 1) from res_rel HPF.out HR8.out)
          exact ⟨by rw [HV.out]; rfl, by rw [HV.out]; exact HP9.out, HN9.out⟩
        | none =>
          have HQ := Lib.hid hQ
          clear hQ
          have hnl := fun (w : World) (a : Option Addr) (n c : Nat) => Lib.run_eql_slice_nil (P := Try.prog) w 36 5 a n c 0 0 Try.underlying36
          go_enter Try.func30, Try.ntmps30
          go_wp2_with fail
          rw [← HW2.out]
          refine HM.out.mono ?_
          rintro e w1 ⟨rfl, hw⟩
          subst hw
          go_wp2_with fail
          refine HC.out.mono ?_
          rintro e w3 ⟨rfl, hb3⟩
          have c0 : w3.cell? ⟨w.heap.size, 0, none⟩ = some (.int .i64 k) := by rw [Lib.cell_of_heap (Bl.old hb3 (block_lt HK2.out) HK2.out)]; rfl
          have c1 := (hb3.cell (p := ⟨p, c * 2 + 1, none⟩) hpl).trans HE.out
          go_wp2_with fail
          refine (HFB.out _ hb3).mono ?_
          rintro e w4 ⟨rfl, hb4⟩
          replace hb3 := Bl.next hb3 hb4
          clear c1 c0 hb4
          have c1 := (hb3.cell (p := ⟨p, c * 2 + 1, none⟩) hpl).trans HE.out
          have c2 := (hb3.cell (p := ⟨p, c * 2, none⟩) hpl).trans HZ.out
          have HP4 := Lib.hid (HP.out.same hb3)
          have HR3 := Lib.hid (Bl.old hb3 (block_lt HR2.out) HR2.out)
          have HB3 := Lib.hid (Bl.next HB2.out hb3)
          have d4 := (HP4.out.cell c4 HHb.out (t := 4) (by decide)).1
          replace d4 : w4.cell? ⟨gs c, i * 5 + 4, none⟩ = some (bytV c (Q c i)) := d4
          rw [HQ.out] at d4
          replace d4 : w4.cell? ⟨gs c, i * 5 + 4, none⟩ = some (.slice none 0 0) := d4
          obtain ⟨w5, hmk, hm5, hb5⟩ := make_bytes w4 (sizeC c) hS
          have hP5 := HP4.out.same hb5
          obtain ⟨d45, f45⟩ := hP5.cell c4 HHb.out (t := 4) (by decide)
          replace d45 : w5.cell? ⟨gs c, i * 5 + 4, none⟩ = some (bytV c (Q c i)) := d45
          rw [HQ.out] at d45
          replace d45 : w5.cell? ⟨gs c, i * 5 + 4, none⟩ = some (.slice none 0 0) := d45
          have hP6 := hP5.give (m := List.replicate (sizeC c) 0) c4 HHb.out HQ.out hm5 (by simp) (Nat.le_trans HP4.out.apP (Nat.le_of_lt HP4.out.lt)) (fun e => by have := HP4.out.lt; omega) (fun d hd e => by have := HP4.out.ltG hd; omega) (fun d j e => by have := HP4.out.ltQ e; omega)
          obtain ⟨w6, hw6⟩ : ∃ w6, w6 = w5.setCell ⟨gs c, i * 5 + 4, none⟩ (.slice (some ⟨w4.heap.size, 0, none⟩) (sizeC c) (sizeC c)) := ⟨_, rfl⟩
          rw [← hw6] at hP6
          have HT6 := Lib.hid (show Tn TP base w4 w6 from by rw [hw6]; exact (Tn.of_below hb5).trans (Tn.set (hP5.rowIs c4).1 (hP5.rowIs c4).2 _))
          have HP6 := Lib.hid hP6
          have HW6 := Lib.hid hw6
          clear hP6 hw6 hb5 hm5 hP5
          go_upto_region 12 with fail
          rw [← HW6.out]
          clear hmk d45 f45 d4 c1 c2
          have e0 := HP6.out.cell c4 HHb.out (t := 0) (by decide)
          have e1 := HP6.out.cell c4 HHb.out (t := 1) (by decide)
          have e2 := HP6.out.cell c4 HHb.out (t := 2) (by decide)
          obtain ⟨e0, g0⟩ := e0
          obtain ⟨e1, g1⟩ := e1
          obtain ⟨e2, g2⟩ := e2
          replace e0 : w6.cell? ⟨gs c, i * 5, none⟩ = some (.int .i64 (ownI c b.gen)) := e0
          replace e1 : w6.cell? ⟨gs c, i * 5 + 1, none⟩ = some (.int .i64 (ownI i b.gen)) := e1
          replace e2 : w6.cell? ⟨gs c, i * 5 + 2, none⟩ = some (.int .i64 (b.gen : Int)) := e2
          replace g0 : w6.frozen? ⟨gs c, i * 5, none⟩ = false := g0
          have hP7 := HP6.out.own (b' := { b with gen := b.gen + 1 }) c4 HHb.out rfl (Nat.succ_ne_zero _)
          replace hP7 : PAt (((w6.setCell ⟨gs c, i * 5, none⟩ (.int .i64 (c : Int))).setCell ⟨gs c, i * 5 + 1, none⟩ (.int .i64 (i : Int))).setCell ⟨gs c, i * 5 + 2, none⟩ (.int .i64 ((b.gen + 1 : Nat) : Int))) base p n gs (updQ Q c i w4.heap.size) (updM M c i (List.replicate (sizeC c) 0)) _ := hP7
          obtain ⟨w7, hw7⟩ : ∃ w7, w7 = ((w6.setCell ⟨gs c, i * 5, none⟩ (.int .i64 (c : Int))).setCell ⟨gs c, i * 5 + 1, none⟩ (.int .i64 (i : Int))).setCell ⟨gs c, i * 5 + 2, none⟩ (.int .i64 ((b.gen + 1 : Nat) : Int)) := ⟨_, rfl⟩
          rw [← hw7] at hP7
          have HT7 := Lib.hid (show Tn TP base w4 w7 from by
            rw [hw7]
            obtain ⟨x1, x2⟩ := HP6.out.rowIs c4
            have y : ∀ (V : World) (j : Nat) (u : Value), IsT TP V (gs c) → IsT TP (V.setCell ⟨gs c, j, none⟩ u) (gs c) := fun V j u ⟨cs, t, fr, z1, z2⟩ => ⟨_, t, fr, heap_put z1 _ _, z2⟩
            exact ((HT6.out.trans (Tn.set x1 x2 _)).trans (Tn.set (y _ _ _ x1) x2 _)).trans (Tn.set (y _ _ _ (y _ _ _ x1)) x2 _))
          have hA7 : ((upd A c ((A c).set i { b with gen := b.gen + 1 })) c)[i]? = some { b with gen := b.gen + 1 } := by
            rw [upd_same, List.getElem?_set_self (List.getElem?_eq_some_iff.1 HHb.out).1]
          obtain ⟨k3, g3⟩ := hP7.cell c4 hA7 (t := 3) (by decide)
          replace k3 : w7.cell? ⟨gs c, i * 5 + 3, none⟩ = some (.int .i64 (b.held : Int)) := k3
          have hP8 := hP7.store (b' := ⟨b.gen + 1, 1, List.replicate (sizeC c) 0⟩) (u := .int .i64 1) c4 hA7 (t := 3) (by decide) rfl
          rw [upd_same, upd_twice, List.set_set] at hP8
          obtain ⟨w8, hw8⟩ : ∃ w8, w8 = w7.setCell ⟨gs c, i * 5 + 3, none⟩ (.int .i64 1) := ⟨_, rfl⟩
          rw [← hw8] at hP8
          have HT8 := Lib.hid (show Tn TP base w4 w8 from by rw [hw8]; exact HT7.out.trans (Tn.set (hP7.rowIs c4).1 (hP7.rowIs c4).2 _))
          have hA8 : ((upd A c ((A c).set i ⟨b.gen + 1, 1, List.replicate (sizeC c) 0⟩)) c)[i]? = some ⟨b.gen + 1, 1, List.replicate (sizeC c) 0⟩ := by
            rw [upd_same, List.getElem?_set_self (List.getElem?_eq_some_iff.1 HHb.out).1]
          have m0 := (hP8.cell c4 hA8 (t := 0) (by decide)).1
          have m1 := (hP8.cell c4 hA8 (t := 1) (by decide)).1
          have m2 := (hP8.cell c4 hA8 (t := 2) (by decide)).1
          replace m0 : w8.cell? ⟨gs c, i * 5, none⟩ = some (.int .i64 (ownI c (b.gen + 1))) := m0
          replace m1 : w8.cell? ⟨gs c, i * 5 + 1, none⟩ = some (.int .i64 (ownI i (b.gen + 1))) := m1
          replace m2 : w8.cell? ⟨gs c, i * 5 + 2, none⟩ = some (.int .i64 ((b.gen : Int) + 1)) := m2
          rw [show ownI c (b.gen + 1) = (c : Int) from by unfold ownI; rw [if_neg (Nat.succ_ne_zero _)]] at m0
          rw [show ownI i (b.gen + 1) = (i : Int) from by unfold ownI; rw [if_neg (Nat.succ_ne_zero _)]] at m1
          have HR8 := Lib.hid (HT8.out.other HR3.out rfl)
          obtain ⟨r0, r1, r2⟩ := three HR8.out
          have f0 := free HR8.out 0
          have f1 := free HR8.out 1
          have f2 := free HR8.out 2
          have HPF := Lib.hid (HFin.out (updQ Q c i w4.heap.size) (updM M c i (List.replicate (sizeC c) 0)) w8 (fun d j hn => updQ_other _ _ hn) (fun d j hn => updM_other _ _ hn) ⟨_, updQ_same _ _ _ _⟩ (updM_same _ _ _ _) hP8)
          have HW7 := Lib.hid (show w7 = ((w6.setCell ⟨gs c, i * 5, none⟩ (.int .i64 (c : Int))).setCell ⟨gs c, i * 5 + 1, none⟩ (.int .i64 (i : Int))).setCell ⟨gs c, i * 5 + 2, none⟩ (.int .i64 ((b.gen : Int) + 1)) from hw7)
          have HW8 := Lib.hid hw8
          clear hw7 hw8 hP7 hP8 hA7 hA8 hb3
          go_upto_region 13 with fail
          rw [← HW7.out]
          clear e0 e1 e2 g0 g1 g2
          go_upto_region 14 with fail
          rw [← HW8.out]
          clear k3 g3
          go_wp2_with fail
          refine bodyPost_ret (results_pair rfl _ _ (w.heap.size + 1) 78 _ (0, 0) _ rfl (put3 HR8.out _ _ _) Try.underlying78 rfl infoH) rfl ?_
          have HN9 := Lib.hid (show Tn TP base w (((w8.setCell ⟨w.heap.size + 1, 0, none⟩ (.int .i64 (c : Int))).setCell ⟨w.heap.size + 1, 1, none⟩ (.int .i64 (i : Int))).setCell ⟨w.heap.size + 1, 2, none⟩ (.int .i64 ((b.gen : Int) + 1))) from res_tn HB3.out HT8.out)
          have HP9 := Lib.hid (show PRel (((w8.setCell ⟨w.heap.size + 1, 0, none⟩ (.int .i64 (c : Int))).setCell ⟨w.heap.size + 1, 1, none⟩ (.int .i64 (i : Int))).setCell ⟨w.heap.size + 1, 2, none⟩ (.int .i64 ((b.gen : Int) + 1))) base p n _ (G + 1) from res_rel HPF.out HR8.out)
          exact ⟨by rw [HV.out]; rfl, by rw [HV.out]; exact HP9.out, HN9.out⟩
end Go.Proofs.Ytbpadliiekhkjaa.Sl
/-
  The program's Held, Hold and Drop beside the plain arena. Condition: they are related ahead.
-/
-- cut by strips.py
namespace Go.Proofs.Ytbpadliiekhkjaa.Sl
open Go.RowKit Go.Proofs.Ytbpadliiekhkjaa.Fd
set_option maxRecDepth 100000
set_option linter.unusedVariables false
set_option linter.unusedSimpArgs false

set_option maxHeartbeats 4000000 in
theorem phold_any {base p : Nat} {n : Nat → Nat} {A : Ar} {G : Nat} (c i g : Int) (w : World) (h : PRel w base p n A G) :
    Calls Try.prog 39 #[.pointer (some ⟨p, 0, none⟩), .agg #[.int .i64 c, .int .i64 i, .int .i64 g]] w (DoneP base p n (holdA A (c, i, g)) G w) := by
  obtain ⟨gs, Q, M, hP, hG⟩ := h.it
  have hB1 := (Below.refl w.heap.size w).alloc (Nat.le_refl _) (.cells #[.int .i64 c, .int .i64 i, .int .i64 g] 78)
  have HR := Lib.hid (pright_any c i g _ (hP.same hB1) hG.aged h.few)
  rcases right_ways (A := A) gs c i g with ⟨h1, h2⟩ | ⟨c, i, b, rfl, rfl, c4, hb, hh, rfl, h1, h2⟩
  · have HV := Lib.hid (show holdA A (c, i, g) = (15, A) from by unfold holdA; rw [h1])
    have HH := Lib.hid h
    rw [h2] at HR
    clear h1 h2 hP hG h
    go_enter Try.func39, Try.ntmps39
    go_wp2_with fail
    refine HR.out.mono ?_
    rintro e w2 ⟨rfl, hb2⟩
    have HB := Lib.hid (Bl.next hB1 hb2)
    clear hb2 hB1 HR
    go_wp2_with fail
    go_ret
    exact ⟨by rw [HV.out]; rfl, by rw [HV.out]; exact HH.out.same HB.out, Tn.of_below HB.out⟩
  · obtain ⟨hsm1, hsm2⟩ := hG.small c i b c4 hb
    have hgl := hP.ltG c4
    rw [h2] at HR
    by_cases hbig : b.held = 1048576
    · have HV := Lib.hid (show holdA A ((c : Int), (i : Int), (b.gen : Int)) = (3, A) from by unfold holdA; rw [h1]; show (if _ then _ else _) = _; rw [if_pos hbig])
      have HH := Lib.hid h
      have d3 := (hP.cell c4 hb (t := 3) (by decide)).1
      replace d3 : w.cell? ⟨gs c, i * 5 + 3, none⟩ = some (.int .i64 (b.held : Int)) := d3
      have be : ((b.held : Int) == 1048576) = true := by rw [hbig]; rfl
      clear h1 h2 hP hG h hb hh hbig hsm1 hsm2
      go_enter Try.func39, Try.ntmps39
      go_wp2_with fail
      refine HR.out.mono ?_
      rintro e w2 ⟨rfl, hb2⟩
      have hB2 := Bl.next hB1 hb2
      replace d3 := (hB2.cell (p := ⟨gs c, i * 5 + 3, none⟩) hgl).trans d3
      have HB := Lib.hid hB2
      clear hb2 hB1 HR hB2
      go_wp2_with fail
      go_ret
      exact ⟨by rw [HV.out]; rfl, by rw [HV.out]; exact HH.out.same HB.out, Tn.of_below HB.out⟩
    · have HV := Lib.hid (show holdA A ((c : Int), (i : Int), (b.gen : Int)) = (0, upd A c ((A c).set i { b with held := b.held + 1 })) from by unfold holdA; rw [h1]; show (if _ then _ else _) = _; rw [if_neg hbig]; rfl)
      have HF := Lib.hid (show ∀ W : World, PAt W base p n gs Q M (upd A c ((A c).set i { b with held := b.held + 1 })) → PRel W base p n (upd A c ((A c).set i { b with held := b.held + 1 })) G from fun W hW =>
        ⟨⟨gs, Q, M, hW, hG.put (fun _ _ _ => rfl) (fun _ _ _ => rfl) (Nat.le_refl _) (fun _ => hG.busy c i b c4 hb hh) (fun q => absurd q (Nat.succ_ne_zero _)) ⟨hsm1, by show b.held + 1 ≤ _; omega⟩⟩, h.few, h.small⟩)
      have HP := Lib.hid hP
      have HHb := Lib.hid hb
      have be : ((b.held : Int) == 1048576) = false := by rw [beq_eq_false_iff_ne]; omega
      have bi : (b.held : Int) ≤ 1048575 := by omega
      clear h1 h2 hG h hb hh hbig hsm1 hsm2 hP
      go_enter Try.func39, Try.ntmps39
      go_wp2_with fail
      refine HR.out.mono ?_
      rintro e w2 ⟨rfl, hb2⟩
      have hB2 := Bl.next hB1 hb2
      have hP2 := HP.out.same hB2
      obtain ⟨d3, f3⟩ := hP2.cell c4 HHb.out (t := 3) (by decide)
      replace d3 : w2.cell? ⟨gs c, i * 5 + 3, none⟩ = some (.int .i64 (b.held : Int)) := d3
      have HS := Lib.hid (hP2.setHeld c4 HHb.out (b.held + 1))
      have HB := Lib.hid hB2
      clear hb2 hB1 HR hB2 hP2
      go_wp2_with fail
      go_ret
      exact ⟨by rw [HV.out]; rfl, by rw [HV.out]; exact HF.out _ HS.out.1, (Tn.of_below HB.out).trans HS.out.2⟩
end Go.Proofs.Ytbpadliiekhkjaa.Sl
