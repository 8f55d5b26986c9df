/-
  Texts that the laws' proofs stand on, 3 of them in one file; each one's head says what it proves and under which condition.
-/
import Derived.Test.YtbpadliiekhkjaaCHNP8
import Derived.Test.YtbpadliiekhkjaaCHNP16
import Derived.Test.YtbpadliiekhkjaaCHNP11
import Derived.Laws.CopyOwn
import Derived.Test.YtbpadliiekhkjaaCHNP18
/-
  An arena that is nil, or that no call made: what each method returns. No condition.
-/
-- cut by strips.py
namespace Go.Proofs.Ytbpadliiekhkjaa.Sl
open Go.RowKit Go.Proofs.Ytbpadliiekhkjaa.Fd
set_option maxRecDepth 100000
set_option linter.unusedVariables false
set_option linter.unusedSimpArgs false

def NoA (pv : Value) (w : World) : Prop := pv = .pointer none ∨ ∃ b, pv = .pointer (some ⟨b, 0, none⟩) ∧ w.cell? ⟨b, 0, none⟩ = some (.int .i64 0) ∧ b < w.heap.size
theorem NoA.next {pv : Value} {w w' : World} (h : NoA pv w) (hb : Below w.heap.size w w') : NoA pv w' := by
  rcases h with h | ⟨b, h1, h2, h3⟩
  · exact .inl h
  · exact .inr ⟨b, h1, (hb.cell (p := ⟨b, 0, none⟩) h3).trans h2, Nat.lt_of_lt_of_le h3 hb.size⟩
theorem no_made (pv : Value) (w : World) (h : NoA pv w) : Calls Try.prog 43 #[pv] w fun e w' => e = .returned (.bool false) ∧ Below w.heap.size w w' := by
  rcases h with rfl | ⟨b, rfl, h2, _⟩
  · exact (made_nil w).mono (fun e w' h => ⟨h.1, by rw [← h.2]; exact Below.refl _ _⟩)
  · exact (made_zero b w h2).mono (fun e w' h => ⟨h.1, by rw [← h.2]; exact Below.refl _ _⟩)
set_option maxHeartbeats 2000000 in
theorem no_right (pv : Value) (c i g : Int) (w : World) (h : NoA pv w) :
    Calls Try.prog 54 #[pv, .agg #[.int .i64 c, .int .i64 i, .int .i64 g]] w fun e w' => e = .returned (.tuple #[.pointer none, .int .i64 1]) ∧ Below w.heap.size w w' := by
  have hB1 := (Below.refl w.heap.size w).alloc (Nat.le_refl _) (.cells #[.int .i64 c, .int .i64 i, .int .i64 g] 78)
  have HC := Lib.hid (no_made pv _ (h.next hB1))
  clear h
  go_enter Try.func54, Try.ntmps54
  go_wp2_with fail
  refine HC.out.mono ?_
  rintro e w2 ⟨rfl, hb2⟩
  have HB := Lib.hid (Bl.next hB1 hb2)
  clear hb2 hB1 HC
  go_wp2_with fail
  go_ret2
  exact ⟨rfl, HB.out⟩
set_option maxHeartbeats 2000000 in
theorem no_hold (pv : Value) (c i g : Int) (w : World) (h : NoA pv w) :
    Calls Try.prog 39 #[pv, .agg #[.int .i64 c, .int .i64 i, .int .i64 g]] w fun e w' => e = .returned (.int .i64 1) ∧ Below w.heap.size w w' := by
  have hB1 := (Below.refl w.heap.size w).alloc (Nat.le_refl _) (.cells #[.int .i64 c, .int .i64 i, .int .i64 g] 78)
  have HC := Lib.hid (no_right pv c i g _ (h.next hB1))
  clear h
  go_enter Try.func39, Try.ntmps39
  go_wp2_with fail
  refine HC.out.mono ?_
  rintro e w2 ⟨rfl, hb2⟩
  have HB := Lib.hid (Bl.next hB1 hb2)
  clear hb2 hB1 HC
  go_wp2_with fail
  go_ret
  exact ⟨rfl, HB.out⟩
set_option maxHeartbeats 2000000 in
theorem no_drop (pv : Value) (c i g : Int) (w : World) (h : NoA pv w) :
    Calls Try.prog 51 #[pv, .agg #[.int .i64 c, .int .i64 i, .int .i64 g]] w fun e w' => e = .returned (.int .i64 1) ∧ Below w.heap.size w w' := by
  have hB1 := (Below.refl w.heap.size w).alloc (Nat.le_refl _) (.cells #[.int .i64 c, .int .i64 i, .int .i64 g] 78)
  have HC := Lib.hid (no_right pv c i g _ (h.next hB1))
  clear h
  go_enter Try.func51, Try.ntmps51
  go_wp2_with fail
  refine HC.out.mono ?_
  rintro e w2 ⟨rfl, hb2⟩
  have HB := Lib.hid (Bl.next hB1 hb2)
  clear hb2 hB1 HC
  go_wp2_with fail
  go_ret
  exact ⟨rfl, HB.out⟩
set_option maxHeartbeats 2000000 in
theorem no_part (pv : Value) (c i g a n : Int) (w : World) (h : NoA pv w) :
    Calls Try.prog 55 #[pv, .agg #[.int .i64 c, .int .i64 i, .int .i64 g], .int .i64 a, .int .i64 n] w fun e w' => e = .returned (.tuple #[.slice none 0 0, .int .i64 1]) ∧ Below w.heap.size w w' := by
  have hB1 := (Below.refl w.heap.size w).alloc (Nat.le_refl _) (.cells #[.int .i64 c, .int .i64 i, .int .i64 g] 78)
  have HC := Lib.hid (no_right pv c i g _ (h.next hB1))
  clear h
  go_enter Try.func55, Try.ntmps55
  go_wp2_with fail
  refine HC.out.mono ?_
  rintro e w2 ⟨rfl, hb2⟩
  have HB := Lib.hid (Bl.next hB1 hb2)
  clear hb2 hB1 HC
  go_wp2_with fail
  go_ret2
  exact ⟨rfl, HB.out⟩
theorem no_info : (Try.prog.info? 5).map (·.size) = some 1 := by kernel_rfl
set_option maxHeartbeats 2000000 in
theorem no_write (pv : Value) (c i g a : Int) (w : World) (h : NoA pv w) :
    Calls Try.prog 50 #[pv, .agg #[.int .i64 c, .int .i64 i, .int .i64 g], .int .i64 a, .slice none 0 0] w fun e w' => e = .returned (.int .i64 1) ∧ Below w.heap.size w w' := by
  have hB1 := (Below.refl w.heap.size w).alloc (Nat.le_refl _) (.cells #[.int .i64 c, .int .i64 i, .int .i64 g] 78)
  have HC := Lib.hid (no_part pv c i g a 0 _ (h.next hB1))
  clear h
  go_enter Try.func50, Try.ntmps50
  go_wp2_with fail
  refine HC.out.mono ?_
  rintro e w2 ⟨rfl, hb2⟩
  have HB := Lib.hid (Bl.next hB1 hb2)
  clear hb2 hB1 HC
  go_wp2_with ((with_reducible show wpList _ _ _ (⟨some 22, _, _, _, _, _⟩ :: _) _ _); refine wpList_copy_nothing rfl (.tmp 20) (.tmp 21) 36 36 rfl 5 Try.underlying36 no_info none none 0 0 0 0 (by rfl) (by rfl) (by simp) ?_)
  go_ret
  exact ⟨rfl, HB.out⟩
set_option maxHeartbeats 2000000 in
theorem no_read (pv : Value) (c i g a n : Int) (w : World) (h : NoA pv w) :
    Calls Try.prog 41 #[pv, .agg #[.int .i64 c, .int .i64 i, .int .i64 g], .int .i64 a, .int .i64 n] w fun e w' => (∃ x cap, e = .returned (.tuple #[.slice x 0 cap, .int .i64 1])) ∧ Below w.heap.size w w' := by
  have hB1 := (Below.refl w.heap.size w).alloc (Nat.le_refl _) (.cells #[.int .i64 c, .int .i64 i, .int .i64 g] 78)
  have HC := Lib.hid (no_part pv c i g a n _ (h.next hB1))
  clear h
  go_enter Try.func41, Try.ntmps41
  go_wp2_with fail
  refine HC.out.mono ?_
  rintro e w2 ⟨rfl, hb2⟩
  have HB := Lib.hid (Bl.next hB1 hb2)
  clear hb2 hB1 HC
  go_wp2_with fail
  refine (cloneB_nil _).mono ?_
  rintro e w3 ⟨v, rfl, hv, hb3⟩
  obtain ⟨x, cap, rfl⟩ := hv.form
  have HB3 := Lib.hid (Bl.next HB.out hb3)
  clear hb3 hv
  go_wp2_with fail
  go_ret2
  exact ⟨⟨_, _, rfl⟩, HB3.out⟩
set_option maxHeartbeats 2000000 in
theorem no_live (pv : Value) (c : Int) (w : World) (h : NoA pv w) :
    Calls Try.prog 23 #[pv, .int .i64 c] w fun e w' => e = .returned (.int .i64 0) ∧ Below w.heap.size w w' := by
  have HC := Lib.hid (no_made pv w h)
  clear h
  go_enter Try.func23, Try.ntmps23
  go_wp2_with fail
  refine HC.out.mono ?_
  rintro e w2 ⟨rfl, hb2⟩
  go_wp2_with fail
  go_ret
  exact ⟨rfl, hb2⟩
set_option maxHeartbeats 2000000 in
theorem no_alloc (pv : Value) (k : Int) (w : World) (h : NoA pv w) :
    Calls Try.prog 30 #[pv, .int .i64 k] w fun e w' => e = .returned (.tuple #[.agg #[.int .i64 0, .int .i64 0, .int .i64 0], .int .i64 1]) ∧ Below w.heap.size w w' := by
  obtain ⟨w2, hw2⟩ : ∃ w2, w2 = (w.alloc (.cells #[.int .i64 k] 3)).alloc (.cells #[.int .i64 0, .int .i64 0, .int .i64 0] 78) := ⟨_, rfl⟩
  have hB2 : Below w.heap.size w w2 := by rw [hw2]; exact ((Below.refl _ _).alloc (Nat.le_refl _) _).alloc (by simp) _
  have hr2 : w2.heap[w.heap.size + 1]? = some (.cells #[.int .i64 0, .int .i64 0, .int .i64 0] 78 (0, 0)) := by rw [hw2]; exact new_block' _ _ (by simp)
  have HC := Lib.hid (no_made pv w2 (h.next hB2))
  have HW2 := Lib.hid hw2
  have HR2 := Lib.hid hr2
  have HB2 := Lib.hid hB2
  clear h hw2 hr2 hB2
  go_enter Try.func30, Try.ntmps30
  go_wp2_with fail
  rw [← HW2.out]
  refine HC.out.mono ?_
  rintro e w3 ⟨rfl, hb3⟩
  have HR3 := Lib.hid (Bl.old hb3 (block_lt HR2.out) HR2.out)
  obtain ⟨r0, r1, r2⟩ := three HR3.out
  have f0 := free HR3.out 0
  have f1 := free HR3.out 1
  have f2 := free HR3.out 2
  have HB3 := Lib.hid (Bl.next HB2.out hb3)
  clear hb3
  go_wp2_with fail
  refine bodyPost_ret (results_pair rfl _ _ (w.heap.size + 1) 78 _ (0, 0) _ rfl (put3 HR3.out _ _ _) Try.underlying78 rfl infoH) rfl ?_
  exact ⟨rfl, new3_below HB3.out (by omega) _ _ _⟩
end Go.Proofs.Ytbpadliiekhkjaa.Sl
/-
  The program's New of a chain; one chain of one arena as laws have it. Condition: the arena and the plain one are related ahead.
-/
namespace Go.Proofs.Ytbpadliiekhkjaa.Ch
open Go.RowKit Go.Proofs.Ytbpadliiekhkjaa.Fd Go.Proofs.Ytbpadliiekhkjaa.Sl
set_option maxRecDepth 100000
set_option linter.unusedVariables false
set_option linter.unusedSimpArgs false

set_option maxHeartbeats 4000000 in
theorem cnew_any {O : Nat → Prop} {ap : Nat} {n : Nat → Nat} {A : Ar} {G : Nat} (w : World) (h : So.PRel w O ap n A G) (hG : G + 1 ≤ 1099511627776) (hO : ∀ k, w.heap.size ≤ k → O k) :
    Calls Try.prog 9 #[.pointer (some ⟨ap, 0, none⟩)] w fun e w' => ∃ cp, e = .returned (.pointer (some ⟨cp, 0, none⟩)) ∧ w.heap.size ≤ cp ∧ PC w' cp ap (.slice none 0 0) newC ∧ So.PRel w' O ap n A G ∧ So.Tn TP O w w' := by
  have HH := Lib.hid h
  have HA := Lib.hid (show Calls Try.prog 30 #[.pointer (some ⟨ap, 0, none⟩), .int .i64 (-1)] w fun e w' => e = .returned (.tuple #[.agg #[.int .i64 0, .int .i64 0, .int .i64 0], .int .i64 2]) ∧ So.PRel w' O ap n A G ∧ So.Tn TP O w w' from
    (So.palloc_any (-1) w h hG hO).mono (fun e w' q => by
      obtain ⟨q1, q2, q3⟩ := q
      have e1 : allocA A (-1) = ((0, 0, 0), 2, A) := by unfold allocA; rw [if_pos (.inl (by omega))]
      rw [e1] at q1 q2
      exact ⟨q1, PRel.less h q2, q3⟩))
  clear h
  go_enter Try.func9, Try.ntmps9
  go_wp2_with fail
  refine HA.out.mono ?_
  rintro e w1 ⟨rfl, hr1, ht1⟩
  have hB := ((Below.refl w1.heap.size w1).alloc (Nat.le_refl _) (.cells #[.int .i64 0, .int .i64 0, .int .i64 0] 78)).alloc (by simp) (.cells #[.pointer (some ⟨ap, 0, none⟩), .slice none 0 0, .int .i64 0, .int .i64 0, .bool false, .bool false] 60)
  have hN := new_block' (w1.alloc (.cells #[.int .i64 0, .int .i64 0, .int .i64 0] 78)) (.cells #[.pointer (some ⟨ap, 0, none⟩), .slice none 0 0, .int .i64 0, .int .i64 0, .bool false, .bool false] 60) (g := w1.heap.size + 1) (by simp)
  have HF := Lib.hid (fun W (hB : Below w1.heap.size w1 W) (hN : W.heap[w1.heap.size + 1]? = some (.cells #[.pointer (some ⟨ap, 0, none⟩), .slice none 0 0, .int .i64 0, .int .i64 0, .bool false, .bool false] 60 (0, 0))) => (show PC W (w1.heap.size + 1) ap (.slice none 0 0) newC ∧ So.PRel W O ap n A G ∧ So.Tn TP O w W ∧ w.heap.size ≤ w1.heap.size + 1 from ⟨⟨hN, OwnH.nil _ _⟩, hr1.same hB, ht1.next hB, by have := ht1.size; omega⟩))
  have HF := Lib.hid (HF.out _ hB hN)
  clear hN
  clear hr1 ht1 hB
  go_wp2_with fail
  go_ret
  exact ⟨_, rfl, HF.out.2.2.2, HF.out.1, HF.out.2.1, HF.out.2.2.1⟩
/-- The set, and whatever is made later. -/
def wide (O : Nat → Prop) (s : Nat) (k : Nat) : Prop := O k ∨ s ≤ k
/-- One chain of one arena, both made by the law. -/
structure Ls (w : World) (O : Nat → Prop) (ap : Nat) (n : Nat → Nat) (A : Ar) (G cp : Nat) (hv : Value) (c : Chn) (W : World) : Prop where
  rel : So.PRel W O ap n A G
  pc : PC W cp ap hv c
  inO : ∀ k, O k → w.heap.size ≤ k ∧ k < W.heap.size
  inC : w.heap.size ≤ cp ∧ ∀ k, hv.ownBlock = some k → w.heap.size ≤ k
  bel : Below w.heap.size w W
  good : Inv A [c]
section
variable {w : World} {O : Nat → Prop} {ap : Nat} {n : Nat → Nat} {A : Ar} {G cp : Nat} {hv : Value} {c : Chn} {W V : World}
theorem Ls.next (h : Ls w O ap n A G cp hv c W) (hb : Below W.heap.size W V) : Ls w O ap n A G cp hv c V :=
  ⟨h.rel.same hb, h.pc.same hb, fun k hk => ⟨(h.inO k hk).1, Nat.lt_of_lt_of_le (h.inO k hk).2 hb.size⟩, h.inC, Bl.next h.bel hb, h.good⟩
/-- The arena is made, then the chain. -/
theorem ls_new {ap : Nat} {n : Nat → Nat} (w w1 : World) (h : Sl.PRel w1 w.heap.size ap n (newA n) 0) (hb : Below w.heap.size w w1) :
    Calls Try.prog 9 #[.pointer (some ⟨ap, 0, none⟩)] w1 fun e w' => ∃ cp O, e = .returned (.pointer (some ⟨cp, 0, none⟩)) ∧ Ls w O ap n (newA n) 0 cp (.slice none 0 0) newC w' := by
  have h1 := So.PRel.ofSl h
  refine (cnew_any w1 h1 (by omega) (fun k hk => by have := hb.size; show w.heap.size ≤ k; omega)).mono ?_
  rintro e w2 ⟨cp, rfl, hcp, hp, hr, ht⟩
  have hbel : Below w.heap.size w w2 := hb.trans (ht.below (fun k hk => by show ¬ w.heap.size ≤ k; omega) hb.size)
  refine ⟨cp, _, rfl, hr.shut, hp, fun k hk => hk, ⟨by have := hb.size; omega, fun k hk => by cases hk⟩, hbel, ?_⟩
  exact (Inv.start n).new
theorem Ls.append (h : Ls w O ap n A G cp hv c W) (bv : Value) (bs : Tk.Bs) (hb : Byo W (wide O W.heap.size) bv bs) (hG : G + 1048577 ≤ 1099511627776) (hbs : bs.length ≤ 1099511627776) :
    Calls Try.prog 10 #[.pointer (some ⟨cp, 0, none⟩), bv] W fun e w' => e = .returned (.int .i64 (appendP A c bs).1) ∧ (∃ O' hv', Ls w O' ap n (appendP A c bs).2.1 (G + 1048576) cp hv' (appendP A c bs).2.2 w') ∧
      ∀ (k : Nat) (cs : Array Value) (t : TypeId) (fr : Nat × Nat), W.heap[k]? = some (.cells cs t fr) → TP t = false → t ≠ 60 → t ≠ 78 → w'.heap[k]? = some (.cells cs t fr) := by
  have hrel : So.PRel W (wide O W.heap.size) ap n A G := h.rel.mono fun k _ hk => .inl hk
  have hc0 : [c][0]? = some c := rfl
  refine (append_any bv bs W hrel h.pc hb (fun hf => h.good.b 0 c hc0 hf) (h.good.c.nodup 0 c hc0) hG (fun k hk => .inr hk) hbs).mono ?_
  rintro e w2 ⟨rfl, hr, ⟨hv', hp, hn1, hn2⟩, hc⟩
  have hbs := h.bel.size
  refine ⟨rfl, ⟨_, hv', hr.shut, hp, fun k hk => ?_, ⟨h.inC.1, fun k hk => ?_⟩, ?_, ?_⟩, fun k cs t fr e h1 h2 h3 => ?_⟩
  · obtain ⟨hk1, hk2⟩ := hk
    rcases hk1 with hk1 | hk1
    · exact ⟨(h.inO k hk1).1, hk2⟩
    · exact ⟨by omega, hk2⟩
  · cases hf : c.freed with
    | true => rw [hn2 (.inl hf)] at hk; exact h.inC.2 k hk
    | false =>
      cases hs : c.shared with
      | true => rw [hn2 (.inr hs)] at hk; exact h.inC.2 k hk
      | false =>
        rcases hn1 hf hs k hk with q | q
        · exact h.inC.2 k q
        · omega
  · refine h.bel.trans (hc.below (fun k hk q => ?_) hbs)
    rcases q with ⟨q | q, _⟩ | ⟨_, _, q | q⟩
    · have := (h.inO k q).1; omega
    · omega
    · have := h.inC.1; omega
    · have := h.inC.2 k q; omega
  · have := h.good.append hc0 bs
    simpa using this
  · refine ck_type hc e h1 ?_
    rintro ⟨_, _, q | q⟩
    · rw [q] at e
      have h4 := h.pc.obj
      rw [e] at h4
      injection h4 with h4
      injection h4 with _ h4
      exact h2 h4
    · obtain ⟨⟨cs2, t2, fr2, h4, h5⟩, _⟩ := h.pc.own.row k q
      rw [e] at h4
      injection h4 with h4
      injection h4 with _ h4
      subst h4
      unfold TH at h5
      exact h3 (by simpa using h5)
end
theorem make_any (W : World) (S : Nat) (hS : S ≤ 1048576) : (Instr.makeSlice 36 (.int .i64 (S : Int)) (.int .i64 (S : Int))).run Try.prog W = .ok (.slice (some ⟨W.heap.size, 0, none⟩) S S) (W.alloc (.cells (u8V (List.replicate S 0)) 5)) := by
  obtain ⟨i, hi, hz, hs, hb⟩ := info_parts8 infoU8
  have hr := run_makeSlice (P := Try.prog) W 36 5 i _ Try.underlying36 hi hz .i64 .i64 (S : Int) (S : Int) (by omega) (by omega) (by rw [hs]; simp; omega) (by rw [hb]; omega) (by omega)
  simp only [Int.toNat_natCast, hs, Nat.mul_one] at hr
  rw [hr, ← zero_bytes]
  congr 3
  unfold madeCells Builtin.zeroCells
  simp [Value.cells]
/-- Bytes that the law made are in no block of the arena's. -/
theorem made_byo {O : Nat → Prop} (W : World) (S : Nat) (hS : S ≤ 1048576) (hO : ∀ k, O k → k < W.heap.size) :
    Byo (W.alloc (.cells (u8V (List.replicate S 0)) 5)) (wide O (W.alloc (.cells (u8V (List.replicate S 0)) 5)).heap.size) (.slice (some ⟨W.heap.size, 0, none⟩) S S) (List.replicate S 0) := by
  refine ⟨_, S, by rw [List.length_replicate], by rw [List.length_replicate]; exact Nat.le_refl _, by unfold maxLen; omega, .inr ⟨W.heap.size, 0, rfl, by simp, ?_, ⟨_, _, new_block _ _⟩, fun j hj => ?_⟩⟩
  · rintro (q | q)
    · exact absurd (hO _ q) (by omega)
    · simp at q; omega
  · rw [List.length_replicate] at hj
    rw [Lib.cell_of_heap (new_block W _), Nat.zero_add]
    simp [u8V, hj]
end Go.Proofs.Ytbpadliiekhkjaa.Ch
/-
  What ChainNone and ChainCharge ask of the plain arena. No program, no condition.
-/
namespace Go.Proofs.Ytbpadliiekhkjaa.Ch
open Go.Proofs.Ytbpadliiekhkjaa.Tk Go.Proofs.Ytbpadliiekhkjaa.Sl
set_option maxRecDepth 100000
set_option linter.unusedVariables false
set_option linter.unusedSimpArgs false

/-- A chain that may be put behind, and is not at its greatest. -/
structure OpenC (c : Chn) : Prop where
  freed : c.freed = false
  shared : c.shared = false
theorem open_new : OpenC newC := ⟨rfl, rfl⟩
theorem append_parts {A : Ar} {c : Chn} {b : Bs} (ho : OpenC c) (hb : b.length ≤ mostN - c.bytes.length) :
    ((takeAll (b.length + 1) A (b.length - roomC c)).2.2 = true ∧ appendP A c b = (0, layA (fillA (takeAll (b.length + 1) A (b.length - roomC c)).2.1 c (b.take (roomC c))) (takeAll (b.length + 1) A (b.length - roomC c)).1 (b.drop (roomC c)), { c with hs := c.hs ++ (takeAll (b.length + 1) A (b.length - roomC c)).1, bytes := c.bytes ++ b })) ∨
    ((takeAll (b.length + 1) A (b.length - roomC c)).2.2 = false ∧ appendP A c b = (14, dropAll (takeAll (b.length + 1) A (b.length - roomC c)).2.1 (takeAll (b.length + 1) A (b.length - roomC c)).1, c)) := by
  have e : appendP A c b = if (takeAll (b.length + 1) A (b.length - roomC c)).2.2 then (0, layA (fillA (takeAll (b.length + 1) A (b.length - roomC c)).2.1 c (b.take (roomC c))) (takeAll (b.length + 1) A (b.length - roomC c)).1 (b.drop (roomC c)), { c with hs := c.hs ++ (takeAll (b.length + 1) A (b.length - roomC c)).1, bytes := c.bytes ++ b }) else (14, dropAll (takeAll (b.length + 1) A (b.length - roomC c)).2.1 (takeAll (b.length + 1) A (b.length - roomC c)).1, c) := by
    have hbig : ¬ mostN - c.bytes.length < b.length := by omega
    unfold appendP
    rw [ho.freed, ho.shared, if_neg hbig]
    rfl
  cases h : (takeAll (b.length + 1) A (b.length - roomC c)).2.2 with
  | true => left; rw [e, h]; exact ⟨rfl, rfl⟩
  | false => right; rw [e, h]; exact ⟨rfl, rfl⟩
/-- What was put behind, or found no room. -/
theorem append_ways {A : Ar} {c : Chn} {b : Bs} (ho : OpenC c) (hb : b.length ≤ mostN - c.bytes.length) (hfit : c.bytes.length ≤ sizesOf c.hs) :
    ((appendP A c b).1 = 0 ∧ OpenC (appendP A c b).2.2 ∧ lenC (appendP A c b).2.2 = lenC c + b.length ∧ b.length + lenC c ≤ freeAll A + chargeC c) ∨
    ((appendP A c b).1 = 14 ∧ (appendP A c b).2.2 = c ∧ (∀ d : Nat, d < 4 → liveA (appendP A c b).2.1 d = liveA A d) ∧ chargeC c < b.length + lenC c) := by
  have hl : lenC c = c.bytes.length := by unfold lenC; rw [ho.freed]; rfl
  have hc : chargeC c = sizesOf c.hs := by unfold chargeC; rw [ho.freed]; rfl
  have hr : roomC c = sizesOf c.hs - c.bytes.length := rfl
  rcases append_parts (A := A) ho hb with ⟨h1, h2⟩ | ⟨h1, h2⟩
  · left
    rw [h2]
    refine ⟨rfl, ⟨ho.freed, ho.shared⟩, ?_, ?_⟩
    · unfold lenC
      simp only [ho.freed]
      simp
    · have e1 := takeAll_enough _ _ _ h1
      have e2 := takeAll_free (b.length + 1) A (b.length - roomC c)
      rw [hl, hc]
      omega
  · right
    rw [h2]
    refine ⟨rfl, rfl, fun d hd => ?_, ?_⟩
    · rw [live_n _ _ hd, live_n _ _ hd, none_live]
    · have e1 := takeAll_fuel (b.length + 1) A (b.length - roomC c) (by omega) h1
      rw [hl, hc]
      omega
/-- The first bytes find room. -/
theorem append_first {n : Nat → Nat} {b : Bs} (hn : ∀ c, c < 4 → 0 < n c) (hb : b.length ≤ 4096) : (appendP (newA n) newC b).1 = 0 := by
  have ho := open_new
  have hr : roomC newC = 0 := rfl
  have hok : (takeAll (b.length + 1) (newA n) (b.length - roomC newC)).2.2 = true := by
    rw [hr, Nat.sub_zero]
    by_cases h0 : b.length = 0
    · rw [h0, takeAll_zero]
    · obtain ⟨i, g, _, h2, _⟩ := takeAll_one (A := newA n) (n := b.length) b.length (by omega) hb ⟨⟨0, 0, []⟩, by
        unfold newA
        rw [List.mem_replicate]
        exact ⟨by have := hn _ (classN_lt b.length); omega, rfl⟩, rfl⟩
      exact h2
  rcases append_parts (A := newA n) (b := b) ho (by show b.length ≤ mostN - 0; unfold mostN; omega) with ⟨h1, h2⟩ | ⟨h1, h2⟩
  · rw [h2]
  · rw [h1] at hok; cases hok
/-- The bytes of the free blocks, one of each class. -/
def roomK (l : Nat → Int) : Nat → Nat
  | 0 => 0
  | k + 1 => roomK l k + if l k = 0 then sizeC k else 0
theorem one_live {A : Ar} {d : Nat} (hd : d < 4) (h : (A d).length = 1) : freeN A d = if liveA A (d : Int) = 0 then 1 else 0 := by
  rw [live_n _ _ hd]
  unfold freeN
  match hA : A d, h with
  | [b], _ =>
    by_cases hb : b.held = 0
    · simp [freeP, heldP, hb]
    · simp [freeP, heldP, hb]
theorem room_free {A : Ar} (h : ∀ d, d < 4 → (A d).length = 1) : freeAll A = roomK (fun d => liveA A (d : Int)) 4 := by
  unfold freeAll
  rw [one_live (by decide) (h 0 (by decide)), one_live (by decide) (h 1 (by decide)), one_live (by decide) (h 2 (by decide)), one_live (by decide) (h 3 (by decide))]
  simp only [roomK, sizeC]
  repeat' split
  all_goals omega
theorem roomK_le (l : Nat → Int) (k : Nat) (hk : k ≤ 4) : roomK l k ≤ k * 4096 := by
  induction k with
  | zero => exact Nat.zero_le _
  | succ k ih =>
    have := sizeC_le (c := k) (by omega)
    unfold roomK
    split <;> (have := ih (by omega); omega)
/-- A class that has more blocks than are held has a free one. -/
theorem some_free {l : List Blk} (h : l.countP heldP < l.length) : ∃ b ∈ l, b.held = 0 := by
  refine Classical.byContradiction fun hn => ?_
  have : l.countP heldP = l.length := List.countP_eq_length.2 fun b hb => by
    unfold heldP
    simp only [bne_iff_ne, ne_eq]
    exact fun h0 => hn ⟨b, hb, h0⟩
  omega
theorem held_sh {A B : Ar} (h : Sh A B) (d : Nat) : (A d).countP heldP = (B d).countP heldP := by
  have e : ∀ l : List Blk, l.countP heldP = (l.map keyB).countP (fun k => k.2 != 0) := fun l => by
    rw [List.countP_map]; rfl
  rw [e, e, h]
/-- A few bytes are put behind, where each class has a free block: at most one block more. -/
theorem append_one {A : Ar} {c : Chn} {b : Bs} (ho : OpenC c) (hb : b.length ≤ mostN - c.bytes.length) (h4 : b.length ≤ 4096) (hfit : c.bytes.length ≤ sizesOf c.hs) (hfree : ∀ d, d < 4 → ∃ x ∈ A d, x.held = 0) :
    (appendP A c b).1 = 0 ∧ OpenC (appendP A c b).2.2 ∧ (appendP A c b).2.2.bytes = c.bytes ++ b ∧ chargeC c ≤ chargeC (appendP A c b).2.2 ∧ lenC (appendP A c b).2.2 ≤ chargeC (appendP A c b).2.2 ∧
      (0 < b.length → chargeC (appendP A c b).2.2 < chargeC c + (b.length + 4096)) ∧ ∀ d, (((appendP A c b).2.1) d).countP heldP ≤ (A d).countP heldP + 1 := by
  have hc : chargeC c = sizesOf c.hs := by unfold chargeC; rw [ho.freed]; rfl
  have hok : (takeAll (b.length + 1) A (b.length - roomC c)).2.2 = true ∧ (takeAll (b.length + 1) A (b.length - roomC c)).1.length ≤ 1 := by
    by_cases h0 : b.length - roomC c = 0
    · rw [h0, takeAll_zero]; exact ⟨rfl, Nat.zero_le _⟩
    · obtain ⟨i, g, h1, h2, _⟩ := takeAll_one (A := A) (n := b.length - roomC c) b.length (by omega) (by omega) (hfree _ (classN_lt _))
      rw [h1]
      exact ⟨h2, Nat.le_refl _⟩
  have hen := takeAll_enough _ _ _ hok.1
  have hmost := takeAll_most (b.length + 1) A (b.length - roomC c)
  have hlive := fun d => takeAll_live (b.length + 1) A (b.length - roomC c) d
  have hr : roomC c = sizesOf c.hs - c.bytes.length := rfl
  rcases append_parts (A := A) ho hb with ⟨h1, h2⟩ | ⟨h1, h2⟩
  · rw [h2]
    have hc2 : chargeC { c with hs := c.hs ++ (takeAll (b.length + 1) A (b.length - roomC c)).1, bytes := c.bytes ++ b } = sizesOf c.hs + sizesOf (takeAll (b.length + 1) A (b.length - roomC c)).1 := by
      unfold chargeC
      simp only [ho.freed]
      rw [sizesOf_app]; rfl
    have hl2 : lenC { c with hs := c.hs ++ (takeAll (b.length + 1) A (b.length - roomC c)).1, bytes := c.bytes ++ b } = c.bytes.length + b.length := by
      unfold lenC
      simp only [ho.freed]
      simp
    refine ⟨rfl, ⟨ho.freed, ho.shared⟩, rfl, by rw [hc, hc2]; omega, by rw [hc2, hl2]; omega, fun hp => ?_, fun d => ?_⟩
    · rw [hc, hc2]
      by_cases h0 : b.length - roomC c = 0
      · rw [h0, takeAll_zero]
        show _ + 0 < _
        omega
      · have := hmost (by omega)
        omega
    · show ((layA _ _ _) d).countP heldP ≤ _
      rw [held_sh (Sh.layA _ _ _), held_sh (Sh.fillA _ _ _), hlive d]
      have := List.countP_le_length (p := inClass d) (l := (takeAll (b.length + 1) A (b.length - roomC c)).1)
      omega
  · rw [h1] at hok; cases hok.1
end Go.Proofs.Ytbpadliiekhkjaa.Ch
