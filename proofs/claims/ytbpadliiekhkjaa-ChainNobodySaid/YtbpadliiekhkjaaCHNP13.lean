/-
  Texts that the laws' proofs stand on, 3 of them in one file; each one's head says what it proves and under which condition.
-/
import Derived.Test.YtbpadliiekhkjaaCHNP12
import Derived.Test.YtbpadliiekhkjaaCHNP10
import Derived.Test.YtbpadliiekhkjaaCHNP11
import Derived.Test.YtbpadliiekhkjaaCHNP6
import Derived.Deep.DeepCutAuto
import Derived.Deep.CutBlock
import Derived.WalkSpells
/-
  Worlds in which nothing but a set of blocks has changed; blocks that choose a class. No program, no condition.
-/
namespace Go.Proofs.Ytbpadliiekhkjaa.Ch
open Go.RowKit Go.Proofs.Ytbpadliiekhkjaa.Fd Go.Proofs.Ytbpadliiekhkjaa.Sl
set_option maxRecDepth 100000
set_option linter.unusedVariables false
set_option linter.unusedSimpArgs false

/-- Nothing but the blocks of S has changed. -/
structure Ck (S : Nat → Prop) (w w' : World) : Prop where
  os : w'.os = w.os
  tape : w'.tape = w.tape
  output : w'.output = w.output
  size : w.heap.size ≤ w'.heap.size
  block : ∀ k, k < w.heap.size → ¬ S k → w'.heap[k]? = w.heap[k]?
theorem Ck.refl (S : Nat → Prop) (w : World) : Ck S w w := ⟨rfl, rfl, rfl, Nat.le_refl _, fun _ _ _ => rfl⟩
theorem Ck.of_below {S : Nat → Prop} {w w' : World} (h : Below w.heap.size w w') : Ck S w w' := ⟨h.os, h.tape, h.output, h.size, fun k hk _ => h.block k hk⟩
theorem Ck.of_tn {T : TypeId → Bool} {O : Nat → Prop} {w w' : World} (h : So.Tn T O w w') : Ck (fun k => O k ∧ IsT T w k) w w' := ⟨h.os, h.tape, h.output, h.size, fun k hk hn => h.block k hk (by
  by_cases ho : O k
  · exact .inr (fun q => hn ⟨ho, q⟩)
  · exact .inl ho)⟩
theorem Ck.mono {S S' : Nat → Prop} {w w' : World} (h : Ck S w w') (hs : ∀ k, k < w.heap.size → S k → S' k) : Ck S' w w' := ⟨h.os, h.tape, h.output, h.size, fun k hk hn => h.block k hk (fun q => hn (hs k hk q))⟩
theorem Ck.trans {S : Nat → Prop} {a b c : World} (h : Ck S a b) (k : Ck S b c) : Ck S a c :=
  ⟨k.os.trans h.os, k.tape.trans h.tape, k.output.trans h.output, Nat.le_trans h.size k.size, fun i hi hn => (k.block i (Nat.lt_of_lt_of_le hi h.size) hn).trans (h.block i hi hn)⟩
theorem Ck.next {S : Nat → Prop} {a b c : World} (h : Ck S a b) (k : Below b.heap.size b c) : Ck S a c := h.trans (.of_below k)
theorem Ck.one {S : Nat → Prop} {w w' : World} {g : Nat} (hb : S g) (h1 : w'.os = w.os) (h2 : w'.tape = w.tape) (h3 : w'.output = w.output) (h4 : w.heap.size ≤ w'.heap.size) (h5 : ∀ k, k < w.heap.size → k ≠ g → w'.heap[k]? = w.heap[k]?) : Ck S w w' :=
  ⟨h1, h2, h3, h4, fun k hk hn => h5 k hk (fun e => hn (by rw [e]; exact hb))⟩
theorem Ck.set {S : Nat → Prop} {w : World} {g j : Nat} (hb : S g) (v : Value) : Ck S w (w.setCell ⟨g, j, none⟩ v) :=
  .one hb rfl rfl rfl (by simp [World.setCell]) (fun k _ hk => Below.heap_setCell _ _ _ _ hk)
theorem Ck.grown {S : Nat → Prop} {w w' : World} {row : Option Nat} (hg : w.grownBy w' row) (h : ∀ k, row = some k → S k) : Ck S w w' :=
  ⟨hg.os, hg.tape, hg.output, hg.size, fun k hk hn => hg.block k hk (fun e => hn (h k e.symm))⟩
theorem Ck.drew {S : Nat → Prop} {a w : World} (h : Ck S a w) : Ck S a w.drew := ⟨h.os, h.tape, h.output, h.size, h.block⟩
theorem Ck.below {S : Nat → Prop} {w w' : World} {B : Nat} (h : Ck S w w') (hb : ∀ k, k < B → ¬ S k) (hs : B ≤ w.heap.size) : Below B w w' :=
  ⟨h.os, h.tape, h.output, h.size, fun k hk => h.block k (by omega) (hb k hk)⟩
theorem Ck.old {S : Nat → Prop} {w w' : World} (h : Ck S w w') {k : Nat} (hk : ¬ S k) {o : Obj} (e : w.heap[k]? = some o) : w'.heap[k]? = some o := (h.block k (block_lt e) hk).trans e
/-- A call on the arena, behind what changed since. -/
theorem Ck.call {T : TypeId → Bool} {O R : Nat → Prop} {a b c : World} (h : Ck (fun k => (O k ∧ IsT T a k) ∨ R k) a b) (k : So.Tn T O b c) : Ck (fun k => (O k ∧ IsT T a k) ∨ R k) a c :=
  ⟨k.os.trans h.os, k.tape.trans h.tape, k.output.trans h.output, Nat.le_trans h.size k.size, fun i hi hn => by
    have e := h.block i hi hn
    refine (k.block i (Nat.lt_of_lt_of_le hi h.size) ?_).trans e
    by_cases ho : O i
    · right
      rintro ⟨cs, t, fr, h1, h2⟩
      exact hn (.inl ⟨ho, cs, t, fr, by rw [← e]; exact h1, h2⟩)
    · exact .inl ho⟩
/-- What has changed since is the arena's, or newer. -/
theorem tn_ck {T : TypeId → Bool} {O S : Nat → Prop} {w wr w2 : World} (h : So.Tn T O w wr) (k : Ck S wr w2) (hs : ∀ i, i < w.heap.size → S i → O i ∧ IsT T wr i) : So.Tn T O w w2 :=
  ⟨k.os.trans h.os, k.tape.trans h.tape, k.output.trans h.output, Nat.le_trans h.size k.size, fun i hi hn => by
    have e := h.block i hi hn
    refine (k.block i (Nat.lt_of_lt_of_le hi h.size) (fun q => ?_)).trans e
    obtain ⟨q1, q2⟩ := hs i hi q
    rcases hn with hn | hn
    · exact hn q1
    · obtain ⟨cs, t, fr, h1, h2⟩ := q2
      exact hn ⟨cs, t, fr, by rw [← e]; exact h1, h2⟩⟩
theorem PRel.ck {w w' : World} {O S : Nat → Prop} {p : Nat} {n : Nat → Nat} {A : Ar} {G : Nat} (h : So.PRel w O p n A G) (hc : Ck S w w') (hs : ∀ k cs t fr, w.heap[k]? = some (.cells cs t fr) → TP t = true → ¬ S k) : So.PRel w' O p n A G := by
  obtain ⟨gs, Q, M, h1, h2⟩ := h.it
  refine ⟨⟨gs, Q, M, ⟨hc.old (hs _ _ _ _ h1.arena rfl) h1.arena, fun c hc4 => ?_, h1.len, fun c i q hq => ⟨hc.old (hs _ _ _ _ (h1.mem c i q hq).1 rfl) (h1.mem c i q hq).1, (h1.mem c i q hq).2⟩, h1.apP, h1.apG, h1.apGG, h1.apQ, h1.apQQ⟩, h2⟩, h.few, h.small⟩
  obtain ⟨cur, h3, h4⟩ := h1.row c hc4
  exact ⟨cur, hc.old (hs _ _ _ _ h3 rfl) h3, h4⟩
/-- The same blocks at another bound. -/
theorem PRel.less {w w' : World} {O : Nat → Prop} {p : Nat} {n : Nat → Nat} {A : Ar} {G G' : Nat} (h : So.PRel w O p n A G) (h' : So.PRel w' O p n A G') : So.PRel w' O p n A G := by
  obtain ⟨gs, Q, M, h1, h2⟩ := h.it
  obtain ⟨gs', Q', M', h3, h4⟩ := h'.it
  exact ⟨⟨gs', Q', M', h3, ⟨h4.busy, h4.idle, h2.small⟩⟩, h.few, h.small⟩

/-! Which class is tried first. -/
theorem sizes_class (m : Int) (n : Nat) (h1 : -1 ≤ m) (h2 : m ≤ 3) (hn : 0 < n) : ((n : Int) ≤ sizesI (m - 1)) ↔ ((classFor n : Nat) : Int) ≤ m - 1 := by
  unfold classFor classN
  rcases (by omega : m = -1 ∨ m = 0 ∨ m = 1 ∨ m = 2 ∨ m = 3) with rfl | rfl | rfl | rfl | rfl
  · rw [show sizesI (-1 - 1) = 0 from rfl]; omega
  · rw [show sizesI (0 - 1) = 0 from rfl]; omega
  · rw [show sizesI (1 - 1) = 64 from rfl]; repeat' split
    all_goals omega
  · rw [show sizesI (2 - 1) = 256 from rfl]; repeat' split
    all_goals omega
  · rw [show sizesI (3 - 1) = 1024 from rfl]; repeat' split
    all_goals omega
/-- None of these classes has a free block. -/
def fullFrom (A : Ar) (cl : Int) (m : Nat) : Prop := ∀ k : Nat, cl < (k : Int) → k ≤ m → ∀ x ∈ A k, x.held ≠ 0
theorem takeOne_full {A : Ar} {c : Nat} (hc : c < 4) (h : ∀ x ∈ A c, x.held ≠ 0) : takeOne A c = none := by
  cases ht : takeOne A c with
  | none => rfl
  | some r =>
    obtain ⟨q, A'⟩ := r
    obtain ⟨i, b, _, h2, h3, _⟩ := takeOne_some hc ht
    exact absurd h3 (h b (List.mem_of_getElem? h2))
/-- From the class that is tried. -/
def takeI (A : Ar) (m : Int) : Option (Hd × Ar) := if 0 ≤ m then takeFrom A m.toNat else none
theorem takeI_full {A : Ar} {m : Nat} (cl : Int) (hm : m < 4) (h1 : -1 ≤ cl) (h2 : cl ≤ m) (h : fullFrom A cl m) : takeFrom A m = takeI A cl := by
  induction m with
  | zero =>
    rcases (by omega : cl = -1 ∨ cl = 0) with rfl | rfl
    · unfold takeI; rw [if_neg (by omega)]
      exact takeOne_full (by omega) (h 0 (by omega) (Nat.le_refl _))
    · rfl
  | succ m ih =>
    by_cases e : cl = ((m + 1 : Nat) : Int)
    · subst e
      unfold takeI; rw [if_pos (by omega), Int.toNat_natCast]
    · unfold takeFrom
      rw [takeOne_full (by omega) (h (m + 1) (by omega) (Nat.le_refl _))]
      exact ih (by omega) (by omega) (fun k hk1 hk2 => h k hk1 (by omega))
theorem takeI_none (A : Ar) : takeI A (-1) = none := rfl
theorem takeI_step {A : Ar} {m : Nat} (hm : m < 4) (h : takeOne A m = none) : takeI A (m : Int) = takeI A ((m : Int) - 1) := by
  unfold takeI
  rw [if_pos (by omega), Int.toNat_natCast]
  cases m with
  | zero => rw [if_neg (by omega)]; exact h
  | succ m =>
    rw [if_pos (by omega), show (((m + 1 : Nat) : Int) - 1).toNat = m from by omega]
    show (match takeOne A (m + 1) with
      | some r => some r
      | none => takeFrom A m) = _
    rw [h]
theorem takeI_here {A : Ar} {m : Nat} {r : Hd × Ar} (h : takeOne A m = some r) : takeI A (m : Int) = some r := by
  unfold takeI
  rw [if_pos (by omega), Int.toNat_natCast]
  cases m with
  | zero => exact h
  | succ m => unfold takeFrom; rw [h]
/-- A block that is taken leaves the full classes full. -/
theorem full_taken {A A' : Ar} {c : Nat} {q : Hd} {cl : Int} {m : Nat} (hc : c < 4) (ht : takeFrom A c = some (q, A')) (hq : fullFrom A cl m) : fullFrom A' cl m := by
  obtain ⟨d, i, b, h1, _, _, h4, h5, _, rfl⟩ := takeFrom_some hc ht
  intro k hk1 hk2 x hx
  by_cases e : k = d
  · subst e
    rw [upd_same] at hx
    rcases List.mem_or_eq_of_mem_set hx with hx | rfl
    · exact hq k hk1 hk2 x hx
    · exact Nat.succ_ne_zero _
  · rw [upd_other _ _ e] at hx
    exact hq k hk1 hk2 x hx
theorem takeAll_len : ∀ (f : Nat) (A : Ar) (n : Nat), (takeAll f A n).1.length ≤ n
  | 0, A, n => by simp [takeAll]
  | f + 1, A, n => by
    unfold takeAll
    split
    · simp
    · rename_i hn
      cases ht : takeFrom A (classFor n) with
      | none => simp
      | some q =>
        obtain ⟨q, A'⟩ := q
        obtain ⟨d, i, b, h1, _, _, _, _, rfl, _⟩ := takeFrom_some (classFor_lt n) ht
        have hd : d < 4 := by have := classFor_lt n; omega
        have hs := sizeC_pos hd
        have ih := takeAll_len f A' (n - sizeC d)
        show (_ :: (takeAll f A' (n - sizeC ((d : Int)).toNat)).1).length ≤ n
        rw [List.length_cons, Int.toNat_natCast]
        omega
/-- More fuel than bytes changes nothing. -/
theorem takeAll_more : ∀ (f g : Nat) (A : Ar) (n : Nat), n < f → n < g → takeAll f A n = takeAll g A n
  | 0, g, A, n => by intro h; omega
  | f + 1, 0, A, n => by intro _ h; omega
  | f + 1, g + 1, A, n => by
    intro h1 h2
    unfold takeAll
    split
    · rfl
    · cases ht : takeFrom A (classFor n) with
      | none => rfl
      | some q =>
        obtain ⟨q, A'⟩ := q
        obtain ⟨d, i, b, h3, _, _, _, _, rfl, _⟩ := takeFrom_some (classFor_lt n) ht
        have hd : d < 4 := by have := classFor_lt n; omega
        have hs := sizeC_pos hd
        have ih := takeAll_more f g A' (n - sizeC d) (by omega) (by omega)
        simp only [Int.toNat_natCast]
        rw [ih]
end Go.Proofs.Ytbpadliiekhkjaa.Ch
/-
  The program's Alloc, the arena's blocks in a set. Condition: the arena and the plain one are related ahead.
-/
namespace Go.Proofs.Ytbpadliiekhkjaa.So
open Go.RowKit Go.Proofs.Ytbpadliiekhkjaa.Fd Go.Proofs.Ytbpadliiekhkjaa.Sl
set_option maxRecDepth 100000
set_option linter.unusedVariables false
set_option linter.unusedSimpArgs false

/-- What a call leaves that takes a block. -/
def AllocP (O : Nat → Prop) (p : Nat) (n : Nat → Nat) (r : Hd × Int × Ar) (G : Nat) (w : World) (e : Ending) (w' : World) : Prop :=
  e = .returned (.tuple #[.agg #[.int .i64 r.1.1, .int .i64 r.1.2.1, .int .i64 r.1.2.2], .int .i64 r.2.1]) ∧ PRel w' O p n r.2.2 (G + 1) ∧ Tn TP O w w'
/-- The answer's cells are not the arena's. -/
theorem res_tn {O : Nat → Prop} {w w4 w8 : World} {x y z : Value} (h : Below w.heap.size w w4) (h8 : Tn TP O w4 w8) : Tn TP O w (((w8.setCell ⟨w.heap.size + 1, 0, none⟩ x).setCell ⟨w.heap.size + 1, 1, none⟩ y).setCell ⟨w.heap.size + 1, 2, none⟩ z) := by
  have h1 := (Tn.of_below (T := TP) (O := O) h).trans h8
  refine ⟨h1.os, h1.tape, h1.output, by simpa [World.setCell] using h1.size, fun k hk hn => ?_⟩
  rw [set_heap (by omega), set_heap (by omega), set_heap (by omega)]
  exact h1.block k hk hn
theorem res_rel {O : Nat → Prop} {p : Nat} {n : Nat → Nat} {A : Ar} {G g : Nat} {w8 : World} {x y z : Value} {cs : Array Value} (h : PRel w8 O p n A G) (hg : w8.heap[g]? = some (.cells cs 78 (0, 0))) :
    PRel (((w8.setCell ⟨g, 0, none⟩ x).setCell ⟨g, 1, none⟩ y).setCell ⟨g, 2, none⟩ z) O p n A G := by
  have i1 : IsT (fun t => t == 78) w8 g := ⟨_, _, _, hg, rfl⟩
  have i2 : IsT (fun t => t == 78) (w8.setCell ⟨g, 0, none⟩ x) g := ⟨_, _, _, heap_put hg _ _, rfl⟩
  have i3 : IsT (fun t => t == 78) ((w8.setCell ⟨g, 0, none⟩ x).setCell ⟨g, 1, none⟩ y) g := ⟨_, _, _, heap_put (heap_put hg _ _) _ _, rfl⟩
  refine h.tn (((Tn.set (O := fun _ => True) i1 trivial x).trans (Tn.set i2 trivial y)).trans (Tn.set i3 trivial z)) (fun t ht => ?_)
  unfold TP at ht
  simp at ht
  rcases ht with (rfl | rfl) | rfl <;> rfl
set_option maxHeartbeats 8000000 in
theorem palloc_any {O : Nat → Prop} {p : Nat} {n : Nat → Nat} {A : Ar} {G : Nat} (k : Int) (w : World) (h : PRel w O p n A G) (hG1 : G + 1 ≤ 1099511627776) (hO : ∀ k, w.heap.size ≤ k → O k) :
    Calls Try.prog 30 #[.pointer (some ⟨p, 0, none⟩), .int .i64 k] w (AllocP O p n (allocA A k) G w) := by
  obtain ⟨gs, Q, M, hP, hG⟩ := h.it
  have HO := Lib.hid hO
  clear hO
  obtain ⟨w2, hw2⟩ : ∃ w2, w2 = (w.alloc (.cells #[.int .i64 k] 3)).alloc (.cells #[.int .i64 0, .int .i64 0, .int .i64 0] 78) := ⟨_, rfl⟩
  have hB2 : Below w.heap.size w w2 := by rw [hw2]; exact ((Below.refl _ _).alloc (Nat.le_refl _) _).alloc (by simp) _
  have hk2 : w2.heap[w.heap.size]? = some (.cells #[.int .i64 k] 3 (0, 0)) := by rw [hw2]; exact (old_block _ _ (by simp)).trans (new_block _ _)
  have hr2 : w2.heap[w.heap.size + 1]? = some (.cells #[.int .i64 0, .int .i64 0, .int .i64 0] 78 (0, 0)) := by rw [hw2]; exact new_block' _ _ (by simp)
  have hP2 := hP.same hB2
  have HM := Lib.hid (made_yes p w2 (hP2.size (c := 0) (by decide)))
  have HC := Lib.hid (firstC_any p w.heap.size gs n k w2 hP2.arena (by rw [Lib.cell_of_heap hk2]; rfl) (block_lt hk2))
  have HH := Lib.hid h
  have HP := Lib.hid hP2
  have HG := Lib.hid hG
  have HB2 := Lib.hid hB2
  have HW2 := Lib.hid hw2
  have HK2 := Lib.hid hk2
  have HR2 := Lib.hid hr2
  clear hP hG hP2 h hB2 hw2 hk2 hr2
  by_cases hlow : k < 0
  · have HV := Lib.hid (show allocA A k = ((0, 0, 0), 2, A) from by unfold allocA; rw [if_pos (.inl hlow)])
    rw [classI_low k hlow] at HC
    go_enter Try.func30, Try.ntmps30
    go_wp2_with fail
    rw [← HW2.out]
    refine HM.out.mono ?_
    rintro e w1 ⟨rfl, hw⟩
    subst hw
    go_wp2_with fail
    refine HC.out.mono ?_
    rintro e w3 ⟨rfl, hb3⟩
    have c0 : w3.cell? ⟨w.heap.size, 0, none⟩ = some (.int .i64 k) := by rw [Lib.cell_of_heap (Bl.old hb3 (block_lt HK2.out) HK2.out)]; rfl
    have HR3 := Lib.hid (Bl.old hb3 (block_lt HR2.out) HR2.out)
    obtain ⟨r0, r1, r2⟩ := three HR3.out
    have f0 := free HR3.out 0
    have f1 := free HR3.out 1
    have f2 := free HR3.out 2
    have HB3 := Lib.hid (Bl.next HB2.out hb3)
    clear hb3
    go_wp2_with fail
    refine bodyPost_ret (results_pair rfl _ _ (w.heap.size + 1) 78 _ (0, 0) _ rfl (put3 HR3.out _ _ _) Try.underlying78 rfl infoH) rfl ?_
    exact ⟨by rw [HV.out]; rfl, by rw [HV.out]; exact (HH.out.same (new3_below HB3.out (by omega) _ _ _)).more (Nat.le_succ _) hG1, Tn.of_below (new3_below HB3.out (by omega) _ _ _)⟩
  · by_cases hbig : 4096 < k
    · have HV := Lib.hid (show allocA A k = ((0, 0, 0), 2, A) from by unfold allocA; rw [if_pos (.inr hbig)])
      rw [classI_big k hbig] at HC
      go_enter Try.func30, Try.ntmps30
      go_wp2_with fail
      rw [← HW2.out]
      refine HM.out.mono ?_
      rintro e w1 ⟨rfl, hw⟩
      subst hw
      go_wp2_with fail
      refine HC.out.mono ?_
      rintro e w3 ⟨rfl, hb3⟩
      have c0 : w3.cell? ⟨w.heap.size, 0, none⟩ = some (.int .i64 k) := by rw [Lib.cell_of_heap (Bl.old hb3 (block_lt HK2.out) HK2.out)]; rfl
      have HR3 := Lib.hid (Bl.old hb3 (block_lt HR2.out) HR2.out)
      obtain ⟨r0, r1, r2⟩ := three HR3.out
      have f0 := free HR3.out 0
      have f1 := free HR3.out 1
      have f2 := free HR3.out 2
      have HB3 := Lib.hid (Bl.next HB2.out hb3)
      clear hb3
      go_wp2_with fail
      refine bodyPost_ret (results_pair rfl _ _ (w.heap.size + 1) 78 _ (0, 0) _ rfl (put3 HR3.out _ _ _) Try.underlying78 rfl infoH) rfl ?_
      exact ⟨by rw [HV.out]; rfl, by rw [HV.out]; exact (HH.out.same (new3_below HB3.out (by omega) _ _ _)).more (Nat.le_succ _) hG1, Tn.of_below (new3_below HB3.out (by omega) _ _ _)⟩
    · rw [classI_n k (by omega) (by omega)] at HC
      obtain ⟨c, hc⟩ : ∃ c, c = classN k.toNat := ⟨_, rfl⟩
      have c4 : c < 4 := by rw [hc]; exact classN_lt _
      have q4 : (c : Int) < 4 := by omega
      have qn : ((c : Int) == -1) = false := by rw [beq_eq_false_iff_ne]; omega
      have hAl : allocA A k = match (A c)[freeAt (A c)]? with
          | none => ((0, 0, 0), 14, A)
          | some b => (((c : Int), (freeAt (A c) : Int), (b.gen : Int) + 1), 0, upd A c ((A c).set (freeAt (A c)) ⟨b.gen + 1, 1, List.replicate (sizeC c) 0⟩)) := by
        unfold allocA; rw [if_neg (by omega), ← hc]; cases (A c)[freeAt (A c)]? <;> rfl
      rw [← hc] at HC
      clear hc
      have hln := HP.out.len c c4
      have hfew := HH.out.few c c4
      obtain ⟨cur, hcu, hrow⟩ := HP.out.row c c4
      have HFB := Lib.hid (show ∀ W : World, Below w2.heap.size w2 W → Calls Try.prog 47 #[.slice (some ⟨gs c, 0, none⟩) (n c) (n c), .func (.func 48) #[] #[]] W fun e w' => e = .returned (.int .i64 (freeI (A c))) ∧ Below W.heap.size W w' from fun W hW => by
        rw [← hln]
        exact firstB_any (gs c) c (Q c) (A c) cur W (Bl.old hW (block_lt hcu) hcu) hrow (by omega))
      have HE := Lib.hid (HP.out.blocks c4)
      replace HE : Hid (w2.cell? ⟨p, c * 2 + 1, none⟩ = some (.slice (some ⟨gs c, 0, none⟩) (n c) (n c))) := HE
      have HZ := Lib.hid (HP.out.size c4)
      have hpl := HP.out.lt
      clear hcu hrow
      by_cases hfull : freeAt (A c) = n c
      · have HV := Lib.hid (show allocA A k = ((0, 0, 0), 14, A) from by rw [hAl, List.getElem?_eq_none (by omega)])
        rw [show freeI (A c) = -1 from by unfold freeI; rw [if_neg (by omega)]] at HFB
        clear hAl hfull hln
        generalize n c = N at *
        generalize gs c = g at *
        go_enter Try.func30, Try.ntmps30
        go_wp2_with fail
        rw [← HW2.out]
        refine HM.out.mono ?_
        rintro e w1 ⟨rfl, hw⟩
        subst hw
        go_wp2_with fail
        refine HC.out.mono ?_
        rintro e w3 ⟨rfl, hb3⟩
        have c0 : w3.cell? ⟨w.heap.size, 0, none⟩ = some (.int .i64 k) := by rw [Lib.cell_of_heap (Bl.old hb3 (block_lt HK2.out) HK2.out)]; rfl
        have c1 := (hb3.cell (p := ⟨p, c * 2 + 1, none⟩) hpl).trans HE.out
        go_wp2_with fail
        refine (HFB.out _ hb3).mono ?_
        rintro e w4 ⟨rfl, hb4⟩
        replace hb3 := Bl.next hb3 hb4
        have HR3 := Lib.hid (Bl.old hb3 (block_lt HR2.out) HR2.out)
        obtain ⟨r0, r1, r2⟩ := three HR3.out
        have f0 := free HR3.out 0
        have f1 := free HR3.out 1
        have f2 := free HR3.out 2
        have HB3 := Lib.hid (Bl.next HB2.out hb3)
        clear hb3
        go_wp2_with fail
        refine bodyPost_ret (results_pair rfl _ _ (w.heap.size + 1) 78 _ (0, 0) _ rfl (put3 HR3.out _ _ _) Try.underlying78 rfl infoH) rfl ?_
        exact ⟨by rw [HV.out]; rfl, by rw [HV.out]; exact (HH.out.same (new3_below HB3.out (by omega) _ _ _)).more (Nat.le_succ _) hG1, Tn.of_below (new3_below HB3.out (by omega) _ _ _)⟩
      · have hlt : freeAt (A c) < n c := by have := freeAt_le (A c); omega
        obtain ⟨b, hb⟩ : ∃ b, (A c)[freeAt (A c)]? = some b := ⟨_, List.getElem?_eq_getElem (by omega)⟩
        have hh0 : b.held = 0 := by
          have h1 := freeAt_free (A c) (by omega)
          obtain ⟨h2, h3⟩ := List.getElem?_eq_some_iff.1 hb
          rw [h3] at h1; exact h1
        obtain ⟨hsm1, _⟩ := HG.out.small c _ b c4 hb
        rw [show freeI (A c) = freeAt (A c) from by unfold freeI; rw [if_pos (by omega)]] at HFB
        rw [hb] at hAl
        obtain ⟨i, hi⟩ : ∃ i, i = freeAt (A c) := ⟨_, rfl⟩
        rw [← hi] at hb hAl HFB hlt
        have HV := Lib.hid (show allocA A k = (((c : Int), (i : Int), (b.gen : Int) + 1), 0, upd A c ((A c).set i ⟨b.gen + 1, 1, List.replicate (sizeC c) 0⟩)) from hAl)
        have HHb := Lib.hid hb
        have hgl := HP.out.ltG c4
        have hgn : (b.gen : Int) ≤ 1099511627775 := by have := HH.out.small; omega
        have hwg : IntKind.i64.wrap ((b.gen : Int) + 1) = ((b.gen + 1 : Nat) : Int) := by rw [IntWalk.i64_in _ (by omega)]; omega
        have hin : (i : Int) < (n c : Int) := by omega
        have qi : ((i : Int) == -1) = false := by rw [beq_eq_false_iff_ne]; omega
        have hS := sizeC_le c4
        have HFin := Lib.hid (fun (Q' : Mp) (M' : Nat → Nat → Tk.Bs) (W : World) (h1 : ∀ d j, ¬ (d = c ∧ j = i) → Q' d j = Q d j) (h2 : ∀ d j, ¬ (d = c ∧ j = i) → M' d j = M d j) (h3 : ∃ q, Q' c i = some q) (h4 : M' c i = List.replicate (sizeC c) 0)
            (hW : PAt W O p n gs Q' M' (upd A c ((A c).set i ⟨b.gen + 1, 1, List.replicate (sizeC c) 0⟩))) =>
          (show PRel W O p n (upd A c ((A c).set i ⟨b.gen + 1, 1, List.replicate (sizeC c) 0⟩)) (G + 1) from ⟨⟨gs, Q', M', hW, HG.out.put h1 h2 (Nat.le_succ _) (fun _ => ⟨Nat.succ_ne_zero _, h3, h4⟩) (fun z => absurd z (by show (1 : Nat) ≠ 0; decide)) ⟨Nat.succ_le_succ hsm1, by show (1 : Nat) ≤ _; decide⟩⟩, HH.out.few, hG1⟩))
        clear hAl hfull hi hln hb hsm1
        cases hQ : Q c i with
        | some q =>
          have HQ := Lib.hid hQ
          clear hQ
          have hnl := fun (w : World) (a : Option Addr) (n c : Nat) => Lib.run_eql_slice_nil (P := Try.prog) w 36 5 a n c 0 0 Try.underlying36
          go_enter Try.func30, Try.ntmps30
          go_wp2_with fail
          rw [← HW2.out]
          refine HM.out.mono ?_
          rintro e w1 ⟨rfl, hw⟩
          subst hw
          go_wp2_with fail
          refine HC.out.mono ?_
          rintro e w3 ⟨rfl, hb3⟩
          have c0 : w3.cell? ⟨w.heap.size, 0, none⟩ = some (.int .i64 k) := by rw [Lib.cell_of_heap (Bl.old hb3 (block_lt HK2.out) HK2.out)]; rfl
          have c1 := (hb3.cell (p := ⟨p, c * 2 + 1, none⟩) hpl).trans HE.out
          go_wp2_with fail
          refine (HFB.out _ hb3).mono ?_
          rintro e w4 ⟨rfl, hb4⟩
          replace hb3 := Bl.next hb3 hb4
          clear c1 c0 hb4
          have c1 := (hb3.cell (p := ⟨p, c * 2 + 1, none⟩) hpl).trans HE.out
          have c2 := (hb3.cell (p := ⟨p, c * 2, none⟩) hpl).trans HZ.out
          have HP4 := Lib.hid (HP.out.same hb3)
          have HR3 := Lib.hid (Bl.old hb3 (block_lt HR2.out) HR2.out)
          have HB3 := Lib.hid (Bl.next HB2.out hb3)
          have d4 := (HP4.out.cell c4 HHb.out (t := 4) (by decide)).1
          replace d4 : w4.cell? ⟨gs c, i * 5 + 4, none⟩ = some (bytV c (Q c i)) := d4
          rw [HQ.out] at d4
          replace d4 : w4.cell? ⟨gs c, i * 5 + 4, none⟩ = some (.slice (some ⟨q, 0, none⟩) (sizeC c) (sizeC c)) := d4
          have e0 := HP4.out.cell c4 HHb.out (t := 0) (by decide)
          have e1 := HP4.out.cell c4 HHb.out (t := 1) (by decide)
          have e2 := HP4.out.cell c4 HHb.out (t := 2) (by decide)
          obtain ⟨e0, g0⟩ := e0
          obtain ⟨e1, g1⟩ := e1
          obtain ⟨e2, g2⟩ := e2
          replace e0 : w4.cell? ⟨gs c, i * 5, none⟩ = some (.int .i64 (ownI c b.gen)) := e0
          replace e1 : w4.cell? ⟨gs c, i * 5 + 1, none⟩ = some (.int .i64 (ownI i b.gen)) := e1
          replace e2 : w4.cell? ⟨gs c, i * 5 + 2, none⟩ = some (.int .i64 (b.gen : Int)) := e2
          replace g0 : w4.frozen? ⟨gs c, i * 5, none⟩ = false := g0
          have hP7 := HP4.out.own (b' := { b with gen := b.gen + 1 }) c4 HHb.out rfl (Nat.succ_ne_zero _)
          replace hP7 : PAt (((w4.setCell ⟨gs c, i * 5, none⟩ (.int .i64 (c : Int))).setCell ⟨gs c, i * 5 + 1, none⟩ (.int .i64 (i : Int))).setCell ⟨gs c, i * 5 + 2, none⟩ (.int .i64 ((b.gen + 1 : Nat) : Int))) O p n gs Q M _ := hP7
          obtain ⟨w7, hw7⟩ : ∃ w7, w7 = ((w4.setCell ⟨gs c, i * 5, none⟩ (.int .i64 (c : Int))).setCell ⟨gs c, i * 5 + 1, none⟩ (.int .i64 (i : Int))).setCell ⟨gs c, i * 5 + 2, none⟩ (.int .i64 ((b.gen + 1 : Nat) : Int)) := ⟨_, rfl⟩
          rw [← hw7] at hP7
          have HT7 := Lib.hid (show Tn TP O w4 w7 from by
            rw [hw7]
            obtain ⟨x1, x2⟩ := HP4.out.rowIs c4
            have y : ∀ (V : World) (j : Nat) (u : Value), IsT TP V (gs c) → IsT TP (V.setCell ⟨gs c, j, none⟩ u) (gs c) := fun V j u ⟨cs, t, fr, z1, z2⟩ => ⟨_, t, fr, heap_put z1 _ _, z2⟩
            exact (((Tn.refl TP O w4).trans (Tn.set x1 x2 _)).trans (Tn.set (y _ _ _ x1) x2 _)).trans (Tn.set (y _ _ _ (y _ _ _ x1)) x2 _))
          have hA7 : ((upd A c ((A c).set i { b with gen := b.gen + 1 })) c)[i]? = some { b with gen := b.gen + 1 } := by
            rw [upd_same, List.getElem?_set_self (List.getElem?_eq_some_iff.1 HHb.out).1]
          obtain ⟨k3, g3⟩ := hP7.cell c4 hA7 (t := 3) (by decide)
          replace k3 : w7.cell? ⟨gs c, i * 5 + 3, none⟩ = some (.int .i64 (b.held : Int)) := k3
          have hP8 := hP7.store (b' := ⟨b.gen + 1, 1, List.replicate (sizeC c) 0⟩) (u := .int .i64 1) c4 hA7 (t := 3) (by decide) rfl
          rw [upd_same, upd_twice, List.set_set] at hP8
          obtain ⟨w8, hw8⟩ : ∃ w8, w8 = w7.setCell ⟨gs c, i * 5 + 3, none⟩ (.int .i64 1) := ⟨_, rfl⟩
          rw [← hw8] at hP8
          have HT8 := Lib.hid (show Tn TP O w4 w8 from by rw [hw8]; exact HT7.out.trans (Tn.set (hP7.rowIs c4).1 (hP7.rowIs c4).2 _))
          have hA8 : ((upd A c ((A c).set i ⟨b.gen + 1, 1, List.replicate (sizeC c) 0⟩)) c)[i]? = some ⟨b.gen + 1, 1, List.replicate (sizeC c) 0⟩ := by
            rw [upd_same, List.getElem?_set_self (List.getElem?_eq_some_iff.1 HHb.out).1]
          have m0 := (hP8.cell c4 hA8 (t := 0) (by decide)).1
          have m1 := (hP8.cell c4 hA8 (t := 1) (by decide)).1
          have m2 := (hP8.cell c4 hA8 (t := 2) (by decide)).1
          replace m0 : w8.cell? ⟨gs c, i * 5, none⟩ = some (.int .i64 (ownI c (b.gen + 1))) := m0
          replace m1 : w8.cell? ⟨gs c, i * 5 + 1, none⟩ = some (.int .i64 (ownI i (b.gen + 1))) := m1
          replace m2 : w8.cell? ⟨gs c, i * 5 + 2, none⟩ = some (.int .i64 ((b.gen : Int) + 1)) := m2
          rw [show ownI c (b.gen + 1) = (c : Int) from by unfold ownI; rw [if_neg (Nat.succ_ne_zero _)]] at m0
          rw [show ownI i (b.gen + 1) = (i : Int) from by unfold ownI; rw [if_neg (Nat.succ_ne_zero _)]] at m1
          have HR8 := Lib.hid (HT8.out.other HR3.out rfl)
          obtain ⟨r0, r1, r2⟩ := three HR8.out
          have f0 := free HR8.out 0
          have f1 := free HR8.out 1
          have f2 := free HR8.out 2
          have HPF := Lib.hid (HFin.out Q M w8 (fun _ _ _ => rfl) (fun _ _ _ => rfl) ⟨q, HQ.out⟩ (HG.out.idle c i b q c4 HHb.out hh0 HQ.out) hP8)
          have HW7 := Lib.hid (show w7 = ((w4.setCell ⟨gs c, i * 5, none⟩ (.int .i64 (c : Int))).setCell ⟨gs c, i * 5 + 1, none⟩ (.int .i64 (i : Int))).setCell ⟨gs c, i * 5 + 2, none⟩ (.int .i64 ((b.gen : Int) + 1)) from hw7)
          have HW8 := Lib.hid hw8
          clear hw7 hw8 hP7 hP8 hA7 hA8 hb3
          go_upto_region 13 with fail
          rw [← HW7.out]
          clear e0 e1 e2 g0 g1 g2
          go_upto_region 14 with fail
          rw [← HW8.out]
          clear k3 g3
          go_wp2_with fail
          refine bodyPost_ret (results_pair rfl _ _ (w.heap.size + 1) 78 _ (0, 0) _ rfl (put3 HR8.out _ _ _) Try.underlying78 rfl infoH) rfl ?_
          have HN9 := Lib.hid (show Tn TP O w (((w8.setCell ⟨w.heap.size + 1, 0, none⟩ (.int .i64 (c : Int))).setCell ⟨w.heap.size + 1, 1, none⟩ (.int .i64 (i : Int))).setCell ⟨w.heap.size + 1, 2, none⟩ (.int .i64 ((b.gen : Int) + 1))) from res_tn HB3.out HT8.out)
          have HP9 := Lib.hid (show PRel (((w8.setCell ⟨w.heap.size + 1, 0, none⟩ (.int .i64 (c : Int))).setCell ⟨w.heap.size + 1, 1, none⟩ (.int .i64 (i : Int))).setCell ⟨w.heap.size + 1, 2, none⟩ (.int .i64 ((b.gen : Int) + 1))) O p n _ (G + 1) from res_rel HPF.out HR8.out)
          exact ⟨by rw [HV.out]; rfl, by rw [HV.out]; exact HP9.out, HN9.out⟩
        | none =>
          have HQ := Lib.hid hQ
          clear hQ
          have hnl := fun (w : World) (a : Option Addr) (n c : Nat) => Lib.run_eql_slice_nil (P := Try.prog) w 36 5 a n c 0 0 Try.underlying36
          go_enter Try.func30, Try.ntmps30
          go_wp2_with fail
          rw [← HW2.out]
          refine HM.out.mono ?_
          rintro e w1 ⟨rfl, hw⟩
          subst hw
          go_wp2_with fail
          refine HC.out.mono ?_
          rintro e w3 ⟨rfl, hb3⟩
          have c0 : w3.cell? ⟨w.heap.size, 0, none⟩ = some (.int .i64 k) := by rw [Lib.cell_of_heap (Bl.old hb3 (block_lt HK2.out) HK2.out)]; rfl
          have c1 := (hb3.cell (p := ⟨p, c * 2 + 1, none⟩) hpl).trans HE.out
          go_wp2_with fail
          refine (HFB.out _ hb3).mono ?_
          rintro e w4 ⟨rfl, hb4⟩
          replace hb3 := Bl.next hb3 hb4
          clear c1 c0 hb4
          have c1 := (hb3.cell (p := ⟨p, c * 2 + 1, none⟩) hpl).trans HE.out
          have c2 := (hb3.cell (p := ⟨p, c * 2, none⟩) hpl).trans HZ.out
          have HP4 := Lib.hid (HP.out.same hb3)
          have HR3 := Lib.hid (Bl.old hb3 (block_lt HR2.out) HR2.out)
          have HB3 := Lib.hid (Bl.next HB2.out hb3)
          have d4 := (HP4.out.cell c4 HHb.out (t := 4) (by decide)).1
          replace d4 : w4.cell? ⟨gs c, i * 5 + 4, none⟩ = some (bytV c (Q c i)) := d4
          rw [HQ.out] at d4
          replace d4 : w4.cell? ⟨gs c, i * 5 + 4, none⟩ = some (.slice none 0 0) := d4
          obtain ⟨w5, hmk, hm5, hb5⟩ := make_bytes w4 (sizeC c) hS
          have hP5 := HP4.out.same hb5
          obtain ⟨d45, f45⟩ := hP5.cell c4 HHb.out (t := 4) (by decide)
          replace d45 : w5.cell? ⟨gs c, i * 5 + 4, none⟩ = some (bytV c (Q c i)) := d45
          rw [HQ.out] at d45
          replace d45 : w5.cell? ⟨gs c, i * 5 + 4, none⟩ = some (.slice none 0 0) := d45
          have hP6 := hP5.give (m := List.replicate (sizeC c) 0) c4 HHb.out HQ.out hm5 (by simp) (HO.out _ HB3.out.size) (fun e => by have := HP4.out.lt; omega) (fun d hd e => by have := HP4.out.ltG hd; omega) (fun d j e => by have := HP4.out.ltQ e; omega)
          obtain ⟨w6, hw6⟩ : ∃ w6, w6 = w5.setCell ⟨gs c, i * 5 + 4, none⟩ (.slice (some ⟨w4.heap.size, 0, none⟩) (sizeC c) (sizeC c)) := ⟨_, rfl⟩
          rw [← hw6] at hP6
          have HT6 := Lib.hid (show Tn TP O w4 w6 from by rw [hw6]; exact (Tn.of_below hb5).trans (Tn.set (hP5.rowIs c4).1 (hP5.rowIs c4).2 _))
          have HP6 := Lib.hid hP6
          have HW6 := Lib.hid hw6
          clear hP6 hw6 hb5 hm5 hP5
          go_upto_region 12 with fail
          rw [← HW6.out]
          clear hmk d45 f45 d4 c1 c2
          have e0 := HP6.out.cell c4 HHb.out (t := 0) (by decide)
          have e1 := HP6.out.cell c4 HHb.out (t := 1) (by decide)
          have e2 := HP6.out.cell c4 HHb.out (t := 2) (by decide)
          obtain ⟨e0, g0⟩ := e0
          obtain ⟨e1, g1⟩ := e1
          obtain ⟨e2, g2⟩ := e2
          replace e0 : w6.cell? ⟨gs c, i * 5, none⟩ = some (.int .i64 (ownI c b.gen)) := e0
          replace e1 : w6.cell? ⟨gs c, i * 5 + 1, none⟩ = some (.int .i64 (ownI i b.gen)) := e1
          replace e2 : w6.cell? ⟨gs c, i * 5 + 2, none⟩ = some (.int .i64 (b.gen : Int)) := e2
          replace g0 : w6.frozen? ⟨gs c, i * 5, none⟩ = false := g0
          have hP7 := HP6.out.own (b' := { b with gen := b.gen + 1 }) c4 HHb.out rfl (Nat.succ_ne_zero _)
          replace hP7 : PAt (((w6.setCell ⟨gs c, i * 5, none⟩ (.int .i64 (c : Int))).setCell ⟨gs c, i * 5 + 1, none⟩ (.int .i64 (i : Int))).setCell ⟨gs c, i * 5 + 2, none⟩ (.int .i64 ((b.gen + 1 : Nat) : Int))) O p n gs (updQ Q c i w4.heap.size) (updM M c i (List.replicate (sizeC c) 0)) _ := hP7
          obtain ⟨w7, hw7⟩ : ∃ w7, w7 = ((w6.setCell ⟨gs c, i * 5, none⟩ (.int .i64 (c : Int))).setCell ⟨gs c, i * 5 + 1, none⟩ (.int .i64 (i : Int))).setCell ⟨gs c, i * 5 + 2, none⟩ (.int .i64 ((b.gen + 1 : Nat) : Int)) := ⟨_, rfl⟩
          rw [← hw7] at hP7
          have HT7 := Lib.hid (show Tn TP O w4 w7 from by
            rw [hw7]
            obtain ⟨x1, x2⟩ := HP6.out.rowIs c4
            have y : ∀ (V : World) (j : Nat) (u : Value), IsT TP V (gs c) → IsT TP (V.setCell ⟨gs c, j, none⟩ u) (gs c) := fun V j u ⟨cs, t, fr, z1, z2⟩ => ⟨_, t, fr, heap_put z1 _ _, z2⟩
            exact ((HT6.out.trans (Tn.set x1 x2 _)).trans (Tn.set (y _ _ _ x1) x2 _)).trans (Tn.set (y _ _ _ (y _ _ _ x1)) x2 _))
          have hA7 : ((upd A c ((A c).set i { b with gen := b.gen + 1 })) c)[i]? = some { b with gen := b.gen + 1 } := by
            rw [upd_same, List.getElem?_set_self (List.getElem?_eq_some_iff.1 HHb.out).1]
          obtain ⟨k3, g3⟩ := hP7.cell c4 hA7 (t := 3) (by decide)
          replace k3 : w7.cell? ⟨gs c, i * 5 + 3, none⟩ = some (.int .i64 (b.held : Int)) := k3
          have hP8 := hP7.store (b' := ⟨b.gen + 1, 1, List.replicate (sizeC c) 0⟩) (u := .int .i64 1) c4 hA7 (t := 3) (by decide) rfl
          rw [upd_same, upd_twice, List.set_set] at hP8
          obtain ⟨w8, hw8⟩ : ∃ w8, w8 = w7.setCell ⟨gs c, i * 5 + 3, none⟩ (.int .i64 1) := ⟨_, rfl⟩
          rw [← hw8] at hP8
          have HT8 := Lib.hid (show Tn TP O w4 w8 from by rw [hw8]; exact HT7.out.trans (Tn.set (hP7.rowIs c4).1 (hP7.rowIs c4).2 _))
          have hA8 : ((upd A c ((A c).set i ⟨b.gen + 1, 1, List.replicate (sizeC c) 0⟩)) c)[i]? = some ⟨b.gen + 1, 1, List.replicate (sizeC c) 0⟩ := by
            rw [upd_same, List.getElem?_set_self (List.getElem?_eq_some_iff.1 HHb.out).1]
          have m0 := (hP8.cell c4 hA8 (t := 0) (by decide)).1
          have m1 := (hP8.cell c4 hA8 (t := 1) (by decide)).1
          have m2 := (hP8.cell c4 hA8 (t := 2) (by decide)).1
          replace m0 : w8.cell? ⟨gs c, i * 5, none⟩ = some (.int .i64 (ownI c (b.gen + 1))) := m0
          replace m1 : w8.cell? ⟨gs c, i * 5 + 1, none⟩ = some (.int .i64 (ownI i (b.gen + 1))) := m1
          replace m2 : w8.cell? ⟨gs c, i * 5 + 2, none⟩ = some (.int .i64 ((b.gen : Int) + 1)) := m2
          rw [show ownI c (b.gen + 1) = (c : Int) from by unfold ownI; rw [if_neg (Nat.succ_ne_zero _)]] at m0
          rw [show ownI i (b.gen + 1) = (i : Int) from by unfold ownI; rw [if_neg (Nat.succ_ne_zero _)]] at m1
          have HR8 := Lib.hid (HT8.out.other HR3.out rfl)
          obtain ⟨r0, r1, r2⟩ := three HR8.out
          have f0 := free HR8.out 0
          have f1 := free HR8.out 1
          have f2 := free HR8.out 2
          have HPF := Lib.hid (HFin.out (updQ Q c i w4.heap.size) (updM M c i (List.replicate (sizeC c) 0)) w8 (fun d j hn => updQ_other _ _ hn) (fun d j hn => updM_other _ _ hn) ⟨_, updQ_same _ _ _ _⟩ (updM_same _ _ _ _) hP8)
          have HW7 := Lib.hid (show w7 = ((w6.setCell ⟨gs c, i * 5, none⟩ (.int .i64 (c : Int))).setCell ⟨gs c, i * 5 + 1, none⟩ (.int .i64 (i : Int))).setCell ⟨gs c, i * 5 + 2, none⟩ (.int .i64 ((b.gen : Int) + 1)) from hw7)
          have HW8 := Lib.hid hw8
          clear hw7 hw8 hP7 hP8 hA7 hA8 hb3
          go_upto_region 13 with fail
          rw [← HW7.out]
          clear e0 e1 e2 g0 g1 g2
          go_upto_region 14 with fail
          rw [← HW8.out]
          clear k3 g3
          go_wp2_with fail
          refine bodyPost_ret (results_pair rfl _ _ (w.heap.size + 1) 78 _ (0, 0) _ rfl (put3 HR8.out _ _ _) Try.underlying78 rfl infoH) rfl ?_
          have HN9 := Lib.hid (show Tn TP O w (((w8.setCell ⟨w.heap.size + 1, 0, none⟩ (.int .i64 (c : Int))).setCell ⟨w.heap.size + 1, 1, none⟩ (.int .i64 (i : Int))).setCell ⟨w.heap.size + 1, 2, none⟩ (.int .i64 ((b.gen : Int) + 1))) from res_tn HB3.out HT8.out)
          have HP9 := Lib.hid (show PRel (((w8.setCell ⟨w.heap.size + 1, 0, none⟩ (.int .i64 (c : Int))).setCell ⟨w.heap.size + 1, 1, none⟩ (.int .i64 (i : Int))).setCell ⟨w.heap.size + 1, 2, none⟩ (.int .i64 ((b.gen : Int) + 1))) O p n _ (G + 1) from res_rel HPF.out HR8.out)
          exact ⟨by rw [HV.out]; rfl, by rw [HV.out]; exact HP9.out, HN9.out⟩
end Go.Proofs.Ytbpadliiekhkjaa.So
/-
  The program's chooser: which block is taken. Condition: the arena and the plain one are related ahead.
-/
namespace Go.Proofs.Ytbpadliiekhkjaa.Ch
open Go.RowKit Go.Proofs.Ytbpadliiekhkjaa.Fd Go.Proofs.Ytbpadliiekhkjaa.Sl
set_option maxRecDepth 100000
set_option linter.unusedVariables false
set_option linter.unusedSimpArgs false

def cloV (bk bc : Nat) : Value := .func (.func 57) #[] #[.pointer (some ⟨bk, 0, none⟩), .pointer (some ⟨bc, 0, none⟩)]
def BkAt (w : World) (bk : Nat) (m : Int) : Prop := w.heap[bk]? = some (.cells #[.int .i64 m] 3 (0, 0))
def BcAt (w : World) (bc cp : Nat) : Prop := w.heap[bc]? = some (.cells #[.pointer (some ⟨cp, 0, none⟩)] 31 (0, 0))
set_option maxHeartbeats 4000000 in
theorem chooser_any (cp : Nat) (w : World) : Calls Try.prog 49 #[.pointer (some ⟨cp, 0, none⟩)] w fun e w' => ∃ bk bc, e = .returned (cloV bk bc) ∧ Below w.heap.size w w' ∧ BkAt w' bk 3 ∧ BcAt w' bc cp ∧ w.heap.size ≤ bk ∧ w.heap.size ≤ bc := by
  have HB := Lib.hid (((Below.refl w.heap.size w).alloc (Nat.le_refl _) (.cells #[.pointer (some ⟨cp, 0, none⟩)] 31)).alloc (by simp) (.cells #[.int .i64 3] 3))
  have H1 := Lib.hid (show BkAt ((w.alloc (.cells #[.pointer (some ⟨cp, 0, none⟩)] 31)).alloc (.cells #[.int .i64 3] 3)) (w.heap.size + 1) 3 from new_block' _ _ (by simp))
  have H2 := Lib.hid (show BcAt ((w.alloc (.cells #[.pointer (some ⟨cp, 0, none⟩)] 31)).alloc (.cells #[.int .i64 3] 3)) w.heap.size cp from (old_block _ _ (by simp)).trans (new_block _ _))
  go_enter Try.func49, Try.ntmps49
  go_wp2_with fail
  go_ret
  exact ⟨w.heap.size + 1, w.heap.size, rfl, HB.out, H1.out, H2.out, Nat.le_succ _, Nat.le_refl _⟩
/-- While a block is chosen: the class that is told, the world. -/
structure Kc (w : World) (O : Nat → Prop) (ap cp bk bc rb : Nat) (n : Nat → Nat) (A : Ar) (G : Nat) (m : Int) (W : World) : Prop where
  rel : So.PRel W O ap n A G
  ob : Ob W cp ap
  kAt : BkAt W bk m
  cAt : BcAt W bc cp
  rAt : W.heap[rb]? = some (.cells #[.int .i64 0, .int .i64 0, .int .i64 0] 78 (0, 0))
  ck : Ck (fun k => (O k ∧ IsT TP w k) ∨ k = bk) w W
section
variable {w : World} {O : Nat → Prop} {ap cp bk bc rb : Nat} {n : Nat → Nat} {A A' : Ar} {G G' : Nat} {m m' : Int} {W V : World}
theorem Kc.next (h : Kc w O ap cp bk bc rb n A G m W) (hb : Below W.heap.size W V) : Kc w O ap cp bk bc rb n A G m V :=
  ⟨h.rel.same hb, h.ob.next hb, Bl.old hb (block_lt h.kAt) h.kAt, Bl.old hb (block_lt h.cAt) h.cAt, Bl.old hb (block_lt h.rAt) h.rAt, h.ck.next hb⟩
theorem Kc.put (h : Kc w O ap cp bk bc rb n A G m W) (x : Int) : Kc w O ap cp bk bc rb n A G x (W.setCell ⟨bk, 0, none⟩ (.int .i64 x)) := by
  have hk : Ck (fun k => k = bk) W (W.setCell ⟨bk, 0, none⟩ (.int .i64 x)) := Ck.set (S := fun k => k = bk) rfl _
  have hne : ∀ k cs t fr, W.heap[k]? = some (.cells cs t fr) → t ≠ 3 → ¬ k = bk := fun k cs t fr h1 h2 e => by
    subst e
    rw [h.kAt] at h1
    injection h1 with h1
    injection h1 with _ h1
    exact h2 h1.symm
  obtain ⟨cs, o1, o2⟩ := h.ob
  refine ⟨PRel.ck h.rel hk (fun k cs t fr h1 h2 => hne k cs t fr h1 (fun e => by rw [e] at h2; cases h2)), ⟨cs, hk.old (hne _ _ _ _ o1 (by decide)) o1, o2⟩, ?_, hk.old (hne _ _ _ _ h.cAt (by decide)) h.cAt, hk.old (hne _ _ _ _ h.rAt (by decide)) h.rAt, h.ck.trans (hk.mono fun k _ q => .inr q)⟩
  show (W.setCell ⟨bk, 0, none⟩ (.int .i64 x)).heap[bk]? = _
  rw [heap_put h.kAt]; rfl
theorem Kc.call (h : Kc w O ap cp bk bc rb n A G m W) (hr : So.PRel V O ap n A' G') (ht : So.Tn TP O W V) : Kc w O ap cp bk bc rb n A' G' m V :=
  ⟨hr, h.ob.so ht rfl, ht.other h.kAt rfl, ht.other h.cAt rfl, ht.other h.rAt rfl, h.ck.call (R := fun k => k = bk) ht⟩
/-- A box of a handle is stored. -/
theorem Kc.box (h : Kc w O ap cp bk bc rb n A G m W) {b : Nat} {q : Hd} (hb : Bx b q W) (hw : w.heap.size ≤ b) (hr : b ≠ rb) (q' : Hd) :
    Kc w O ap cp bk bc rb n A G m (((W.setCell ⟨b, 0, none⟩ (.int .i64 q'.1)).setCell ⟨b, 1, none⟩ (.int .i64 q'.2.1)).setCell ⟨b, 2, none⟩ (.int .i64 q'.2.2)) ∧
    Bx b q' (((W.setCell ⟨b, 0, none⟩ (.int .i64 q'.1)).setCell ⟨b, 1, none⟩ (.int .i64 q'.2.1)).setCell ⟨b, 2, none⟩ (.int .i64 q'.2.2)) := by
  have hk : Ck (fun k => k = b) W (((W.setCell ⟨b, 0, none⟩ (.int .i64 q'.1)).setCell ⟨b, 1, none⟩ (.int .i64 q'.2.1)).setCell ⟨b, 2, none⟩ (.int .i64 q'.2.2)) :=
    ((Ck.set (S := fun k => k = b) rfl _).trans (Ck.set (S := fun k => k = b) rfl _)).trans (Ck.set (S := fun k => k = b) rfl _)
  have hne : ∀ k cs t fr, W.heap[k]? = some (.cells cs t fr) → t ≠ 78 → ¬ k = b := fun k cs t fr h1 h2 e => by
    subst e
    have h3 : W.heap[k]? = _ := hb
    rw [h3] at h1
    injection h1 with h1
    injection h1 with _ h1
    exact h2 h1.symm
  obtain ⟨cs, o1, o2⟩ := h.ob
  refine ⟨⟨PRel.ck h.rel hk (fun k cs t fr h1 h2 => hne k cs t fr h1 (fun e => by rw [e] at h2; cases h2)), ⟨cs, hk.old (hne _ _ _ _ o1 (by decide)) o1, o2⟩, hk.old (hne _ _ _ _ h.kAt (by decide)) h.kAt, hk.old (hne _ _ _ _ h.cAt (by decide)) h.cAt, hk.old (Ne.symm hr) h.rAt, ?_⟩, put3 hb _ _ _⟩
  have e := h.ck
  refine ⟨hk.os.trans e.os, hk.tape.trans e.tape, hk.output.trans e.output, Nat.le_trans e.size hk.size, fun k hk1 hk2 => (hk.block k (Nat.lt_of_lt_of_le hk1 e.size) (fun q => by omega)).trans (e.block k hk1 hk2)⟩
theorem bx_so {T : TypeId → Bool} {O : Nat → Prop} {b : Nat} {q : Hd} {W V : World} (hx : Bx b q W) (ht : So.Tn T O W V) (hT : T 78 = false) : Bx b q V := ht.other hx hT
theorem Kc.cells (h : Kc w O ap cp bk bc rb n A G m W) : W.cell? ⟨bk, 0, none⟩ = some (.int .i64 m) ∧ W.cell? ⟨bc, 0, none⟩ = some (.pointer (some ⟨cp, 0, none⟩)) ∧ W.cell? ⟨cp, 0, none⟩ = some (.pointer (some ⟨ap, 0, none⟩)) :=
  ⟨by rw [Lib.cell_of_heap h.kAt]; rfl, by rw [Lib.cell_of_heap h.cAt]; rfl, h.ob.cell⟩
end
theorem alloc_err {A : Ar} {k : Int} (h : (allocA A k).2.1 ≠ 0) : (allocA A k).2.2 = A := by
  unfold allocA at h ⊢
  split
  · rfl
  · rename_i hk
    rw [if_neg hk] at h
    split
    · rfl
    · rename_i b hb
      rw [hb] at h
      exact absurd rfl h
/-- The answer's cells are told. -/
theorem Kc.fin {w : World} {O : Nat → Prop} {ap cp bk bc : Nat} {n : Nat → Nat} {A : Ar} {G : Nat} {m : Int} {W : World} (h : Kc w O ap cp bk bc w.heap.size n A G m W) (x y z : Int) :
    BkAt (((W.setCell ⟨w.heap.size, 0, none⟩ (.int .i64 x)).setCell ⟨w.heap.size, 1, none⟩ (.int .i64 y)).setCell ⟨w.heap.size, 2, none⟩ (.int .i64 z)) bk m ∧
    So.PRel (((W.setCell ⟨w.heap.size, 0, none⟩ (.int .i64 x)).setCell ⟨w.heap.size, 1, none⟩ (.int .i64 y)).setCell ⟨w.heap.size, 2, none⟩ (.int .i64 z)) O ap n A G ∧
    Ck (fun k => (O k ∧ IsT TP w k) ∨ k = bk) w (((W.setCell ⟨w.heap.size, 0, none⟩ (.int .i64 x)).setCell ⟨w.heap.size, 1, none⟩ (.int .i64 y)).setCell ⟨w.heap.size, 2, none⟩ (.int .i64 z)) := by
  have hk : Ck (fun k => k = w.heap.size) W (((W.setCell ⟨w.heap.size, 0, none⟩ (.int .i64 x)).setCell ⟨w.heap.size, 1, none⟩ (.int .i64 y)).setCell ⟨w.heap.size, 2, none⟩ (.int .i64 z)) :=
    ((Ck.set (S := fun k => k = w.heap.size) rfl _).trans (Ck.set (S := fun k => k = w.heap.size) rfl _)).trans (Ck.set (S := fun k => k = w.heap.size) rfl _)
  have hne : ∀ k cs t fr, W.heap[k]? = some (.cells cs t fr) → t ≠ 78 → ¬ k = w.heap.size := fun k cs t fr h1 h2 e => by
    subst e
    rw [h.rAt] at h1
    injection h1 with h1
    injection h1 with _ h1
    exact h2 h1.symm
  have e := h.ck
  exact ⟨hk.old (hne _ _ _ _ h.kAt (by decide)) h.kAt, PRel.ck h.rel hk (fun k cs t fr h1 h2 => hne k cs t fr h1 (fun e => by rw [e] at h2; cases h2)),
    ⟨hk.os.trans e.os, hk.tape.trans e.tape, hk.output.trans e.output, Nat.le_trans e.size hk.size, fun k hk1 hk2 => (hk.block k (Nat.lt_of_lt_of_le hk1 e.size) (fun q => by omega)).trans (e.block k hk1 hk2)⟩⟩
/-- What the closure tells and leaves. -/
def ChooseP (O : Nat → Prop) (ap cp bk bc : Nat) (n : Nat → Nat) (A : Ar) (G : Nat) (cl : Int) (left : Nat) (w : World) (e : Ending) (w' : World) : Prop :=
  ∃ m, BkAt w' bk m ∧ Ck (fun k => (O k ∧ IsT TP w k) ∨ k = bk) w w' ∧ match takeI A (min cl (classFor left : Nat)) with
    | some r => e = .returned (.tuple #[.agg #[.int .i64 r.1.1, .int .i64 r.1.2.1, .int .i64 r.1.2.2], .bool true]) ∧ m = r.1.1 ∧ So.PRel w' O ap n r.2 (G + 1)
    | none => e = .returned (.tuple #[.agg #[.int .i64 0, .int .i64 0, .int .i64 0], .bool false]) ∧ m = -1 ∧ So.PRel w' O ap n A G
set_option maxHeartbeats 8000000 in
theorem choose_any {O : Nat → Prop} {ap : Nat} {n : Nat → Nat} {A : Ar} {G : Nat} (cp bk bc : Nat) (cl : Int) (left : Nat) (w : World) (h : So.PRel w O ap n A G) (ho : Ob w cp ap) (hk : BkAt w bk cl) (hc : BcAt w bc cp) (h1 : -1 ≤ cl) (h3 : cl ≤ 3) (hl : 0 < left) (hl2 : left ≤ 1099511627776)
    (hG : G + 1 ≤ 1099511627776) (hO : ∀ k, w.heap.size ≤ k → O k) :
    Calls Try.prog 57 #[.int .i64 (left : Int), .pointer (some ⟨bk, 0, none⟩), .pointer (some ⟨bc, 0, none⟩)] w (ChooseP O ap cp bk bc n A G cl left w) := by
  have hB := (Below.refl w.heap.size w).alloc (Nat.le_refl _) (.cells #[.int .i64 0, .int .i64 0, .int .i64 0] 78)
  obtain ⟨w1, hw1⟩ : ∃ w1, w1 = w.alloc (.cells #[.int .i64 0, .int .i64 0, .int .i64 0] 78) := ⟨_, rfl⟩
  have hrb := new_block w (.cells #[.int .i64 0, .int .i64 0, .int .i64 0] 78)
  rw [← hw1] at hB hrb
  have HK := Lib.hid (show Kc w O ap cp bk bc w.heap.size n A G cl w1 from ⟨h.same hB, ho.next hB, Bl.old hB (block_lt hk) hk, Bl.old hB (block_lt hc) hc, hrb, Ck.of_below hB⟩)
  have HW1 := Lib.hid hw1
  have h0 := Lib.hid h
  clear h ho hk hc hrb hB hw1
  obtain ⟨F, hF⟩ : ∃ F : Nat, F = classFor left := ⟨_, rfl⟩
  have hF4 := classFor_lt left
  rw [← hF] at hF4
  have HPI := Lib.hid (show takeI A (min cl (F : Int)) = takeI A (min cl (classFor left : Nat)) from by rw [hF])
  have HF := Lib.hid hF
  go_enter Try.func57, Try.ntmps57
  go_wp2_with fail
  rw [← HW1.out]
  clear hF
  go_loopw [] (fun wr => ∃ m : Int, min cl (F : Int) ≤ m ∧ m ≤ cl ∧ Kc w O ap cp bk bc w.heap.size n A G m wr) (fun wr => (intOf ((wr.cell? ⟨bk, 0, none⟩).getD undef) + 1).toNat)
  case atStart => exact ⟨cl, by omega, by omega, HK.out⟩
  case round =>
    obtain ⟨m, hm1, hm2, hK⟩ := hrel
    obtain ⟨k0, _, _⟩ := hK.cells
    have HS := Lib.hid (sizesP_any (m - 1) wr)
    have HKr := Lib.hid hK
    have hcl := sizes_class m left (by omega) (by omega) hl
    rw [← HF.out] at hcl
    by_cases hc : (F : Int) ≤ m - 1
    · have hge := hcl.2 hc
      clear hcl hK
      generalize sizesI (m - 1) = S at *
      go_wp2_with fail
      refine HS.out.mono ?_
      rintro e w2 ⟨rfl, hb2⟩
      have HK2 := Lib.hid (HKr.out.next hb2)
      obtain ⟨k1, _, _⟩ := HK2.out.cells
      have f1 := free HK2.out.kAt 0
      have HK3 := Lib.hid (HK2.out.put (m - 1))
      have k3 := HK3.out.cells.1
      clear hb2 HS
      go_wp2_with fail
      go_roundw
      case rel => exact ⟨m - 1, by omega, by omega, HK3.out⟩
      case measure =>
        rw [k0, k3]
        simp [intOf]
        omega
    · have hlt : ¬ ((left : Int) ≤ sizesI (m - 1)) := fun q => hc (hcl.1 q)
      have HMM := Lib.hid (show m = min cl (F : Int) from by omega)
      have hmlo : -1 ≤ m := by omega
      have hmhi : m ≤ 3 := by omega
      clear hcl hK hm1
      generalize sizesI (m - 1) = S at *
      go_wp2_with fail
      refine HS.out.mono ?_
      rintro e w2 ⟨rfl, hb2⟩
      have HK2 := Lib.hid (HKr.out.next hb2)
      have HK0 := Lib.hid (show Kc w O ap cp bk bc w.heap.size n A G m w2 ∧ m ≤ 3 ∧ -1 ≤ m ∧ takeI A m = takeI A (min cl (classFor left : Nat)) from ⟨HK2.out, by omega, by have := HMM.out; omega, by rw [HMM.out]; exact HPI.out⟩)
      clear hb2 HS HMM k0 HKr HK2 hc hm2
      go_wp2_with fail
      clear hlt
      go_loopw [] (fun wr => ∃ m : Int, Kc w O ap cp bk bc w.heap.size n A G m wr ∧ m ≤ 3 ∧ -1 ≤ m ∧ takeI A m = takeI A (min cl (classFor left : Nat))) (fun wr => (intOf ((wr.cell? ⟨bk, 0, none⟩).getD undef) + 1).toNat)
      case atStart => exact ⟨m, HK0.out⟩
      case round =>
        clear HK0
        obtain ⟨m, hK, hm3, hm1, hm⟩ := hrel
        have HM := Lib.hid hm
        have HKr := Lib.hid hK
        obtain ⟨k0, k1, k2⟩ := hK.cells
        clear hm hK
        by_cases hc : 0 ≤ m
        · obtain ⟨c, rfl⟩ : ∃ c : Nat, m = (c : Int) := ⟨m.toNat, by omega⟩
          have c4 : c < 4 := by omega
          have HS := Lib.hid (fun V => (show Calls Try.prog 25 #[.int .i64 (c : Int)] V fun e w' => e = .returned (.int .i64 (sizeC c : Int)) ∧ Below V.heap.size V w' from by
            have h1 := sizesP_any (c : Int) V
            rw [show sizesI (c : Int) = (sizeC c : Int) from by unfold sizesI; rw [if_pos ⟨by omega, by omega⟩]; rfl] at h1
            exact h1))
          obtain ⟨⟨⟨qc, qi, qg⟩, re, A1⟩, hr⟩ : ∃ r, r = allocA A (sizeC c : Nat) := ⟨_, rfl⟩
          have HA := Lib.hid (fun V (hV : So.PRel V O ap n A G) (hz : w.heap.size ≤ V.heap.size) => So.palloc_any (sizeC c : Nat) V hV hG (fun k hk => hO k (by omega)))
          rw [← hr] at HA
          have HTo := Lib.hid (show (re = 0 → takeOne A c = some ((qc, qi, qg), A1) ∧ qc = (c : Int)) ∧ (re ≠ 0 → takeOne A c = none ∧ A1 = A) from by
            refine ⟨fun h0 => ?_, fun h0 => ?_⟩
            · obtain ⟨i, b, _, _, _, h4⟩ := alloc_ok c4 (by rw [← hr]; exact h0)
              unfold takeOne
              rw [← hr] at h4 ⊢
              injection h4 with h5 h6
              injection h5 with h5 _
              exact ⟨if_pos h0, h5⟩
            · unfold takeOne
              have h5 := alloc_err (A := A) (k := (sizeC c : Nat)) (by rw [← hr]; exact h0)
              rw [← hr] at h5 ⊢
              exact ⟨if_neg h0, h5⟩)
          clear hr
          generalize hSc : sizeC c = Sc at *
          clear hSc
          go_upto_region 5 with fail
          go_cut [6, 7] from 19 to 28 (fun s6 s7 wx => ∃ b, s6 = .pointer (some ⟨b, 0, none⟩) ∧ s7 = .int .i64 re ∧ w.heap.size < b ∧ Kc w O ap cp bk bc w.heap.size n A1 (G + 1) (c : Int) wx ∧ Bx b (qc, qi, qg) wx)
          case first =>
            have HT := Lib.hid (HKr.out.next (Below.drew (Below.refl _ _)))
            have hAl := Lib.hid (fun (V0 : World) (A2 : Ar) (G2 : Nat) (hk : Kc w O ap cp bk bc w.heap.size n A2 G2 (c : Int) V0) (V V' : World) (hb : Below V.heap.size V V') (hV : V.heap = V0.heap.push (.cells #[.int .i64 0, .int .i64 0, .int .i64 0] 78 (0, 0))) =>
              (show Bx V0.heap.size (0, 0, 0) V' ∧ w.heap.size < V0.heap.size from ⟨Bl.old hb (by rw [hV]; simp) (by rw [hV]; simp), block_lt hk.rAt⟩))
            have hAm := Lib.hid (fun (V0 : World) (A2 : Ar) (G2 : Nat) (hk : Kc w O ap cp bk bc w.heap.size n A2 G2 (c : Int) V0) (V V' : World) (ht : So.Tn TP O V V') (hV : V.heap = V0.heap.push (.cells #[.int .i64 0, .int .i64 0, .int .i64 0] 78 (0, 0))) =>
              (show Bx V0.heap.size (0, 0, 0) V' ∧ w.heap.size < V0.heap.size from ⟨ht.other (by rw [hV]; simp) rfl, block_lt hk.rAt⟩))
            clear k0 k1 k2 HKr
            go_region_held3 (fun W => W.cell? ⟨bk, 0, none⟩ = some (.int .i64 (c : Int)) ∧ W.cell? ⟨bc, 0, none⟩ = some (.pointer (some ⟨cp, 0, none⟩)) ∧ W.cell? ⟨cp, 0, none⟩ = some (.pointer (some ⟨ap, 0, none⟩)))
              (first | exact HT.out.cells | exact (HT.out.next ((Below.refl _ _).alloc (Nat.le_refl _) _)).cells | exact (HT.out.box HX.out.1 (Nat.le_of_lt HX.out.2) (by have := HX.out.2; omega) (qc, qi, qg)).1.cells)
              (first
                | (go_at_call 25; refine (HS.out _).mono ?_; rintro e w9 ⟨rfl, hb9⟩; replace HT := Lib.hid (HT.out.next hb9); (try replace HX := Lib.hid (And.intro (HX.out.1.next hb9) HX.out.2)); clear hb9)
                | (go_at_call 25; go_must (refine (HS.out _).mono ?_; rintro e w9 ⟨rfl, hb9⟩; have HX := Lib.hid (hAl.out _ _ _ HT.out _ _ hb9 rfl); (try replace HX : Hid (Bx wr.heap.size (0, 0, 0) w9 ∧ w.heap.size < wr.heap.size) := HX); replace HT := Lib.hid ((HT.out.next ((Below.refl _ _).alloc (Nat.le_refl _) _)).next hb9); clear hb9))
                | (go_at_call 30; refine (HA.out _ HT.out.rel HT.out.ck.size).mono ?_; rintro e w9 ⟨rfl, hr9, ht9⟩; replace HT := Lib.hid (HT.out.call hr9 ht9); (try (replace HX := Lib.hid (And.intro (bx_so HX.out.1 ht9 rfl) HX.out.2); obtain ⟨y0, y1, y2⟩ := HX.out.1.cells; have z0 := free HX.out.1 0; have z1 := free HX.out.1 1; have z2 := free HX.out.1 2)); clear hr9 ht9)
                | (go_at_call 30; go_must (refine (HA.out _ (HT.out.next ((Below.refl _ _).alloc (Nat.le_refl _) _)).rel (HT.out.next ((Below.refl _ _).alloc (Nat.le_refl _) _)).ck.size).mono ?_; rintro e w9 ⟨rfl, hr9, ht9⟩; have HX := Lib.hid (hAm.out _ _ _ HT.out _ _ ht9 rfl); (try replace HX : Hid (Bx wr.heap.size (0, 0, 0) w9 ∧ w.heap.size < wr.heap.size) := HX); replace HT := Lib.hid ((HT.out.next ((Below.refl _ _).alloc (Nat.le_refl _) _)).call hr9 ht9); obtain ⟨y0, y1, y2⟩ := HX.out.1.cells; have z0 := free HX.out.1 0; have z1 := free HX.out.1 1; have z2 := free HX.out.1 2; clear hr9 ht9)))
            all_goals
              go_wp2_with fail
              go_meet
              first
                | exact ⟨_, rfl, rfl, block_lt HT.out.rAt, HT.out.next ((Below.refl _ _).alloc (Nat.le_refl _) _), new_block _ _⟩
                | exact ⟨_, rfl, rfl, HX.out.2, HT.out.box HX.out.1 (Nat.le_of_lt HX.out.2) (by have := HX.out.2; omega) (qc, qi, qg)⟩
          case rest =>
            obtain ⟨b, rfl, rfl, hwb, hK, hX⟩ := hcut
            have HK2 := Lib.hid hK
            have HX2 := Lib.hid hX
            clear hK hX k0 k1 k2
            by_cases he : re = 0
            · subst he
              obtain ⟨hto, hqc⟩ := HTo.out.1 rfl
              have HTo2 := Lib.hid (show takeI A (min cl (classFor left : Nat)) = some ((qc, qi, qg), A1) from by rw [← HM.out]; exact takeI_here hto)
              have HQc := Lib.hid hqc
              obtain ⟨x0, x1, x2⟩ := HX2.out.cells
              obtain ⟨r0, r1, r2⟩ := three HK2.out.rAt
              have f0 := free HK2.out.rAt 0
              have f1 := free HK2.out.rAt 1
              have f2 := free HK2.out.rAt 2
              clear hto hqc HTo
              go_wp2_with fail
              (try simp only [Exit.inBlock, Exit.then])
              refine bodyPost_ret (results_pair rfl _ _ w.heap.size 78 _ (0, 0) _ rfl (put3 HK2.out.rAt _ _ _) Try.underlying78 rfl infoH) rfl ?_
              obtain ⟨p1, p2, p3⟩ := HK2.out.fin qc qi qg
              exact ⟨_, p1, p3, by rw [HTo2.out]; exact ⟨rfl, HQc.out.symm, p2⟩⟩
            · obtain ⟨htn, hA1⟩ := HTo.out.2 he
              subst hA1
              have HTn := Lib.hid (show takeI A1 ((c : Int) - 1) = takeI A1 (min cl (classFor left : Nat)) from by rw [← HM.out]; exact (takeI_step c4 htn).symm)
              have he2 : (re == 0) = false := by rw [beq_eq_false_iff_ne]; exact he
              have HK3 := Lib.hid (show Kc w O ap cp bk bc w.heap.size n A1 G (c : Int) wc from ⟨PRel.less h0.out HK2.out.rel, HK2.out.ob, HK2.out.kAt, HK2.out.cAt, HK2.out.rAt, HK2.out.ck⟩)
              have k0 := HK2.out.cells.1
              have f0 := free HK2.out.kAt 0
              have HK4 := Lib.hid (HK3.out.put ((c : Int) - 1))
              have k4 := HK4.out.cells.1
              clear htn HTo he
              go_wp2_with fail
              go_roundw
              case rel => exact ⟨(c : Int) - 1, HK4.out, by omega, by omega, HTn.out⟩
              case measure =>
                rw [HKr.out.cells.1, k4]
                simp [intOf]
        · obtain rfl : m = -1 := by omega
          have HN := Lib.hid (show takeI A (min cl (classFor left : Nat)) = none from by rw [← HM.out]; rfl)
          obtain ⟨r0, r1, r2⟩ := three HKr.out.rAt
          have f0 := free HKr.out.rAt 0
          have f1 := free HKr.out.rAt 1
          have f2 := free HKr.out.rAt 2
          go_wp2_with fail
          (try simp only [Exit.inBlock, Exit.then])
          refine bodyPost_ret (results_pair rfl _ _ w.heap.size 78 _ (0, 0) _ rfl (put3 HKr.out.rAt _ _ _) Try.underlying78 rfl infoH) rfl ?_
          obtain ⟨p1, p2, p3⟩ := HKr.out.fin 0 0 0
          exact ⟨_, p1, p3, by rw [HN.out]; exact ⟨rfl, rfl, p2⟩⟩
end Go.Proofs.Ytbpadliiekhkjaa.Ch
