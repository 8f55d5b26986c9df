/-
  Texts that the laws' proofs stand on, 3 of them in one file; each one's head says what it proves and under which condition.
-/
import Derived.Test.YtbpadliiekhkjaaCHNP13
import Derived.Test.YtbpadliiekhkjaaCHNP6
import Derived.Test.YtbpadliiekhkjaaCHNP8
/-
  The program's take: blocks for so many bytes, all or none. Condition: the arena and the plain one are related ahead.
-/
namespace Go.Proofs.Ytbpadliiekhkjaa.Ch
open Go.RowKit Go.Proofs.Ytbpadliiekhkjaa.Fd Go.Proofs.Ytbpadliiekhkjaa.Sl
set_option maxRecDepth 100000
set_option linter.unusedVariables false
set_option linter.unusedSimpArgs false

theorem classFor_mono {a b : Nat} (h : a ≤ b) : classFor a ≤ classFor b := by
  unfold classFor classN
  repeat' split
  all_goals omega
/-- The next block that the closure takes is the plain one. -/
theorem pick_is {A : Ar} {m : Int} {n : Nat} (h1 : -1 ≤ m) (h3 : m ≤ 3) (hf : fullFrom A m (classFor n)) : takeI A (min m (classFor n : Nat)) = takeFrom A (classFor n) := by
  have h4 := classFor_lt n
  by_cases h : m ≤ (classFor n : Nat)
  · rw [show min m ((classFor n : Nat) : Int) = m from by omega]
    exact (takeI_full m h4 h1 h hf).symm
  · rw [show min m ((classFor n : Nat) : Int) = ((classFor n : Nat) : Int) from by omega]
    unfold takeI
    rw [if_pos (by omega), Int.toNat_natCast]
theorem full_next {A A' : Ar} {m : Int} {n k : Nat} {q : Hd} (hf : fullFrom A m (classFor n)) (ht : takeFrom A (classFor n) = some (q, A')) (hk : k ≤ n) : 0 ≤ q.1 ∧ q.1 ≤ 3 ∧ fullFrom A' q.1 (classFor k) := by
  have h4 := classFor_lt n
  obtain ⟨d, i, b, h1, h2, _, _, _, rfl, _⟩ := takeFrom_some h4 ht
  refine ⟨by show (0 : Int) ≤ (d : Int); omega, by show (d : Int) ≤ 3; omega, full_taken h4 ht ?_⟩
  intro j hj1 hj2 x hx
  replace hj1 : (d : Int) < (j : Int) := hj1
  have := classFor_mono hk
  exact h2 j (by omega) (by omega) x hx
/-- While blocks are taken. -/
structure Kt (w : World) (O : Nat → Prop) (ap cp bk bc : Nat) (n : Nat → Nat) (A0 : Ar) (G n0 : Nat) (z : Int) (T : List Hd) (v : Value) (W : World) : Prop where
  it : ∃ (A : Ar) (m : Int), So.PRel W O ap n A (G + T.length) ∧ BkAt W bk m ∧ -1 ≤ m ∧ m ≤ 3 ∧ fullFrom A m (classFor z.toNat) ∧ takeAll (n0 + 1) A0 n0 = (T ++ (takeAll (z.toNat + 1) A z.toNat).1, (takeAll (z.toNat + 1) A z.toNat).2)
  ob : Ob W cp ap
  cAt : BcAt W bc cp
  own : OwnH W w.heap.size v T
  tn : So.Tn TP O w W
  few : T.length + z.toNat ≤ n0
theorem bk_other {O : Nat → Prop} {bk : Nat} {m : Int} {W V : World} (hk : BkAt W bk m) (hc : Ck (fun k => (O k ∧ IsT TP W k) ∨ k = bk) W V) {k : Nat} {cs : Array Value} {t : TypeId} {fr : Nat × Nat} (e : W.heap[k]? = some (.cells cs t fr)) (h1 : TP t = false) (h2 : t ≠ 3) : V.heap[k]? = some (.cells cs t fr) := by
  refine hc.old ?_ e
  rintro (⟨_, cs2, t2, fr2, h3, h4⟩ | rfl)
  · rw [e] at h3
    injection h3 with h3
    injection h3 with _ h3
    subst h3
    rw [h1] at h4; cases h4
  · have h3 : W.heap[k]? = _ := hk
    rw [e] at h3
    injection h3 with h3
    injection h3 with _ h3
    exact h2 h3
theorem own_other {O : Nat → Prop} {bk base : Nat} {m : Int} {W V : World} {v : Value} {l : List Hd} (hk : BkAt W bk m) (hc : Ck (fun k => (O k ∧ IsT TP W k) ∨ k = bk) W V) (h : OwnH W base v l) : OwnH V base v l := by
  refine ⟨h.1, ?_⟩
  rcases h.2 with ⟨h1, h2⟩ | ⟨g, cap, cur, h1, h2, h3, h4⟩
  · exact .inl ⟨h1, h2⟩
  · exact .inr ⟨g, cap, cur, h1, h2, bk_other hk hc h3 rfl (by decide), h4⟩
theorem ob_other {O : Nat → Prop} {bk cp ap : Nat} {m : Int} {W V : World} (hk : BkAt W bk m) (hc : Ck (fun k => (O k ∧ IsT TP W k) ∨ k = bk) W V) (h : Ob W cp ap) : Ob V cp ap := by
  obtain ⟨cs, h1, h2⟩ := h
  exact ⟨cs, bk_other hk hc h1 rfl (by decide), h2⟩
/-- Behind the closure: what is left to be told. -/
structure Kr (w : World) (O : Nat → Prop) (ap cp bk bc : Nat) (n : Nat → Nat) (A : Ar) (G : Nat) (m : Int) (T : List Hd) (v : Value) (W : World) : Prop where
  rel : So.PRel W O ap n A G
  ob : Ob W cp ap
  kAt : BkAt W bk m
  cAt : BcAt W bc cp
  own : OwnH W w.heap.size v T
  tn : So.Tn TP O w W
theorem Kr.next {w : World} {O : Nat → Prop} {ap cp bk bc : Nat} {n : Nat → Nat} {A : Ar} {G : Nat} {m : Int} {T : List Hd} {v : Value} {W V : World} (h : Kr w O ap cp bk bc n A G m T v W) (hb : Below W.heap.size W V) : Kr w O ap cp bk bc n A G m T v V :=
  ⟨h.rel.same hb, h.ob.next hb, Bl.old hb (block_lt h.kAt) h.kAt, Bl.old hb (block_lt h.cAt) h.cAt, h.own.kept hb, h.tn.next hb⟩
theorem Kr.app {w : World} {O : Nat → Prop} {ap cp bk bc : Nat} {n : Nat → Nat} {A : Ar} {G : Nat} {m : Int} {T T' : List Hd} {v v' : Value} {W V : World} (h : Kr w O ap cp bk bc n A G m T v W) (ho : OwnH V w.heap.size v' T') (hg : W.grownBy V v.ownBlock) : Kr w O ap cp bk bc n A G m T' v' V := by
  have hk : Ck (fun k => v.ownBlock = some k) W V := Ck.grown hg (fun k hk => hk)
  have hrow : ∀ k, v.ownBlock = some k → IsT TH W k ∧ w.heap.size ≤ k := h.own.row
  have hne : ∀ k cs t fr, W.heap[k]? = some (.cells cs t fr) → t ≠ 78 → ¬ v.ownBlock = some k := fun k cs t fr h1 h2 e => by
    obtain ⟨⟨cs2, t2, fr2, h3, h4⟩, _⟩ := hrow k e
    rw [h1] at h3
    injection h3 with h3
    injection h3 with _ h3
    subst h3
    unfold TH at h4
    exact h2 (by simpa using h4)
  obtain ⟨cs, o1, o2⟩ := h.ob
  refine ⟨PRel.ck h.rel hk (fun k cs t fr h1 h2 => hne k cs t fr h1 (fun e => by rw [e] at h2; cases h2)), ⟨cs, hk.old (hne _ _ _ _ o1 (by decide)) o1, o2⟩, hk.old (hne _ _ _ _ h.kAt (by decide)) h.kAt, hk.old (hne _ _ _ _ h.cAt (by decide)) h.cAt, ho, ?_⟩
  exact tn_ck h.tn hk (fun i hi q => by have := (hrow i q).2; omega)
/-- What take tells and leaves. -/
def TakeP (O : Nat → Prop) (ap : Nat) (n : Nat → Nat) (A : Ar) (G n0 : Nat) (w : World) (e : Ending) (w' : World) : Prop :=
  So.Tn TP O w w' ∧ (((takeAll (n0 + 1) A n0).2.2 = true ∧ ∃ v, e = .returned (.tuple #[v, .int .i64 0]) ∧ OwnH w' w.heap.size v (takeAll (n0 + 1) A n0).1 ∧ So.PRel w' O ap n (takeAll (n0 + 1) A n0).2.1 (G + n0)) ∨
    ((takeAll (n0 + 1) A n0).2.2 = false ∧ e = .returned (.tuple #[.slice none 0 0, .int .i64 14]) ∧ So.PRel w' O ap n (dropAll (takeAll (n0 + 1) A n0).2.1 (takeAll (n0 + 1) A n0).1) (G + n0)))
set_option maxHeartbeats 8000000 in
theorem take_any {O : Nat → Prop} {ap : Nat} {n : Nat → Nat} {A : Ar} {G : Nat} (cp n0 : Nat) (w : World) (h : So.PRel w O ap n A G) (ho : Ob w cp ap) (hn : n0 ≤ 1048576) (hG : G + n0 + 1 ≤ 1099511627776) (hO : ∀ k, w.heap.size ≤ k → O k) :
    Calls Try.prog 32 #[.pointer (some ⟨cp, 0, none⟩), .int .i64 (n0 : Int)] w (TakeP O ap n A G n0 w) := by
  have HH := Lib.hid h
  have HOb := Lib.hid ho
  clear h ho
  go_enter Try.func32, Try.ntmps32
  go_wp2_with fail
  refine (chooser_any cp w).mono ?_
  rintro e w1 ⟨bk, bc, rfl, hb1, hk1, hc1, hlk, hlc⟩
  have HK1 := Lib.hid (show Kt w O ap cp bk bc n A G n0 (n0 : Int) [] (.slice none 0 0) w1 from ⟨⟨A, 3, HH.out.same hb1, hk1, by omega, by omega, fun k h1 h2 => by have := classFor_lt ((n0 : Int)).toNat; omega, by rw [Int.toNat_natCast]; rfl⟩, HOb.out.next hb1, hc1, OwnH.nil _ _, So.Tn.of_below hb1, by simp⟩)
  clear hb1 hk1 hc1
  unfold cloV
  go_wp2_with fail
  go_loopw [1, 6] (fun s1 s6 wr => ∃ (z : Int) (T : List Hd), s1 = .int .i64 z ∧ z ≤ (n0 : Int) ∧ -4096 ≤ z ∧ Kt w O ap cp bk bc n A G n0 z T s6 wr) (fun s1 _ _ => (intOf s1).toNat)
  case atStart => exact ⟨(n0 : Int), [], rfl, Int.le_refl _, by omega, HK1.out⟩
  case round =>
    obtain ⟨z, T, rfl, hz1, hz2, hK⟩ := hrel
    have hfew := hK.few
    by_cases hz : 0 < z
    · obtain ⟨N, rfl⟩ : ∃ N : Nat, z = (N : Int) := ⟨z.toNat, by omega⟩
      obtain ⟨A1, m, hr, hk, m1, m3, hf, heq⟩ := hK.it
      rw [Int.toNat_natCast] at hf heq hfew
      have hp := pick_is m1 m3 hf
      have HC := Lib.hid (choose_any cp bk bc m N wr hr hK.ob hk hK.cAt m1 m3 (by omega) (by omega) (by omega) (fun k hk => hO k (Nat.le_trans hK.tn.size hk)))
      have HP := Lib.hid hp
      have hplain : takeAll (N + 1) A1 N = match takeFrom A1 (classFor N) with
          | none => ([], A1, false)
          | some (q, A') => (q :: (takeAll N A' (N - sizeC q.1.toNat)).1, (takeAll N A' (N - sizeC q.1.toNat)).2) := by
        rw [takeAll, if_neg (by omega)]; rfl
      have HA := Lib.hid (fun (V : World) (m' : Int) (hc : Ck (fun k => (O k ∧ IsT TP wr k) ∨ k = bk) wr V) (hk' : BkAt V bk m') (A' : Ar) (G' : Nat) (hr' : So.PRel V O ap n A' G') => (show Kr w O ap cp bk bc n A' G' m' T u6 V from
        ⟨hr', ob_other hk hc hK.ob, hk', bk_other hk hc hK.cAt rfl (by decide), own_other hk hc hK.own, tn_ck hK.tn hc (fun i hi q => by
          rcases q with q | q
          · exact q
          · omega)⟩))
      cases ht : takeFrom A1 (classFor N) with
      | none =>
        rw [ht] at hplain
        replace hplain : takeAll (N + 1) A1 N = ([], A1, false) := hplain
        have HR := Lib.hid (show takeAll (n0 + 1) A n0 = (T, A1, false) from by rw [heq, hplain, List.append_nil])
        rw [ht] at hp
        replace HP := Lib.hid hp
        clear hp hplain heq ht hf hr hK
        go_wp2_with fail
        refine HC.out.mono ?_
        rintro e w2 ⟨m', hk2, hck, hm⟩
        rw [HP.out] at hm
        obtain ⟨rfl, rfl, hr2⟩ := hm
        have HK2 := Lib.hid (HA.out _ _ hck hk2 _ _ hr2)
        have HK3 := Lib.hid (HK2.out.next ((Below.refl _ _).alloc (Nat.le_refl _) (.cells #[.int .i64 0, .int .i64 0, .int .i64 0] 78)))
        have HD := Lib.hid (drops_any cp u6 T _ HK3.out.rel HK3.out.ob HK3.out.own (by omega))
        obtain ⟨la, lc, hv⟩ := HK3.out.own.form
        subst hv
        clear hk2 hck hr2 HC HA hk
        go_wp2_with fail
        refine HD.out.mono ?_
        rintro e w4 ⟨rfl, hr4, ht4⟩
        have HT := Lib.hid (HK3.out.tn.trans ht4)
        have HR4 := Lib.hid (show So.PRel w4 O ap n (dropAll A1 T) (G + n0) from hr4.more (by omega) (by omega))
        clear hr4 ht4
        go_wp2_with fail
        (try simp only [Exit.inBlock, Exit.then])
        go_ret2
        exact ⟨HT.out, .inr ⟨by rw [HR.out], rfl, by rw [HR.out]; exact HR4.out⟩⟩
      | some r =>
        obtain ⟨q, A'⟩ := r
        rw [ht] at hplain hp
        replace hplain : takeAll (N + 1) A1 N = (q :: (takeAll N A' (N - sizeC q.1.toNat)).1, (takeAll N A' (N - sizeC q.1.toNat)).2) := hplain
        replace HP := Lib.hid hp
        obtain ⟨hq0, hq3, hfn⟩ := full_next (k := N - sizeC q.1.toNat) hf ht (by omega)
        have hs := sizeC_pos (c := q.1.toNat) (by omega)
        have hs4 := sizeC_le (c := q.1.toNat) (by omega)
        have HR := Lib.hid (show takeAll (n0 + 1) A n0 = ((T ++ [q]) ++ (takeAll (N - sizeC q.1.toNat + 1) A' (N - sizeC q.1.toNat)).1, (takeAll (N - sizeC q.1.toNat + 1) A' (N - sizeC q.1.toNat)).2) from by
          rw [heq, hplain, takeAll_more N (N - sizeC q.1.toNat + 1) A' _ (by omega) (by omega), List.append_assoc, List.singleton_append])
        have HFn := Lib.hid hfn
        clear hp hplain heq ht hf hr hK hfn
        obtain ⟨qc, qi, qg⟩ := q
        have HZ := Lib.hid (fun V => (show Calls Try.prog 25 #[.int .i64 qc] V fun e w' => e = .returned (.int .i64 (sizeC qc.toNat : Int)) ∧ Below V.heap.size V w' from by
          have h1 := sizesP_any qc V
          rw [show sizesI qc = (sizeC qc.toNat : Int) from by unfold sizesI; rw [if_pos ⟨hq0, hq3⟩]] at h1
          exact h1))
        obtain ⟨S, hS⟩ : ∃ S, S = sizeC qc.toNat := ⟨_, rfl⟩
        replace hs : 64 ≤ S := by rw [hS]; exact hs
        replace hs4 : S ≤ 4096 := by rw [hS]; exact hs4
        replace HR : Hid (takeAll (n0 + 1) A n0 = ((T ++ [(qc, qi, qg)]) ++ (takeAll (N - S + 1) A' (N - S)).1, (takeAll (N - S + 1) A' (N - S)).2)) := by rw [hS]; exact HR
        replace HFn : Hid (fullFrom A' qc (classFor (N - S))) := by rw [hS]; exact HFn
        rw [← hS] at HZ
        replace hq0 : 0 ≤ qc := hq0
        replace hq3 : qc ≤ 3 := hq3
        clear hS
        go_wp2_with fail
        refine HC.out.mono ?_
        rintro e w2 ⟨m', hk2, hck, hm⟩
        rw [HP.out] at hm
        obtain ⟨rfl, hm1, hr2⟩ := hm
        replace hm1 : qc = m' := hm1.symm
        subst hm1
        have HK2 := Lib.hid (HA.out _ _ hck hk2 _ _ hr2)
        have HK3 := Lib.hid (HK2.out.next ((Below.refl _ _).alloc (Nat.le_refl _) (.cells #[.int .i64 qc, .int .i64 qi, .int .i64 qg] 78)))
        have hx3 : Bx w2.heap.size (qc, qi, qg) (w2.alloc (.cells #[.int .i64 qc, .int .i64 qi, .int .i64 qg] 78)) := new_block w2 (.cells #[.int .i64 qc, .int .i64 qi, .int .i64 qg] 78)
        have HX3 := Lib.hid hx3
        have HNa := Lib.hid (show u6.ownBlock ≠ some w2.heap.size from fun e => by have := (World.ownsRow.lt HK2.out.own _ e).2; omega)
        clear hk2 hck hr2 HC HA hk hx3
        obtain ⟨w3, hw3⟩ : ∃ w3, w3 = w2.alloc (.cells #[.int .i64 qc, .int .i64 qi, .int .i64 qg] 78) := ⟨_, rfl⟩
        rw [← hw3] at HK3 HX3
        have HW3 := Lib.hid hw3
        clear hw3
        obtain ⟨x0, x1, x2⟩ := HX3.out.cells
        have HB4 := Lib.hid ((Below.refl w3.heap.size w3).alloc (Nat.le_refl _) (.cells #[.int .i64 qc, .int .i64 qi, .int .i64 qg] 78))
        have HK4 := Lib.hid (HK3.out.next HB4.out)
        have HX4 := Lib.hid (HX3.out.next HB4.out)
        have HN4 := Lib.hid (new_block w3 (.cells #[.int .i64 qc, .int .i64 qi, .int .i64 qg] 78))
        go_upto_region 5 with fail
        rw [← HW3.out]
        go_wp2_with (at_builtin; refine wpList_append_hd _ rfl _ _ rfl w.heap.size _ T (qc, qi, qg) _ _ rfl (by rfl) HK4.out.own HN4.out (by omega) (Nat.le_trans HK4.out.tn.size (Nat.le_refl _)) ?_; intro v' w7 ho hg; have HK7 := Lib.hid (HK4.out.app ho hg); have HX7 := Lib.hid (HX4.out.app hg HNa.out); obtain ⟨y0, y1, y2⟩ := HX7.out.cells; clear ho hg x0 x1 x2)
        refine (HZ.out _).mono ?_
        rintro e w8 ⟨rfl, hb8⟩
        have HK8 := Lib.hid (HK7.out.next hb8)
        have hsub : IntKind.i64.wrap ((N : Int) - (S : Int)) = (N : Int) - (S : Int) := IntWalk.i64_in _ (by omega)
        have HF := Lib.hid (show Kt w O ap cp bk bc n A G n0 ((N : Int) - (S : Int)) (T ++ [(qc, qi, qg)]) v' w8 from ⟨⟨A', qc, by rw [List.length_append]; exact HK8.out.rel, HK8.out.kAt, by omega, hq3, by rw [show ((N : Int) - (S : Int)).toNat = N - S from by omega]; exact HFn.out, by rw [show ((N : Int) - (S : Int)).toNat = N - S from by omega]; exact HR.out⟩, HK8.out.ob, HK8.out.cAt, HK8.out.own, HK8.out.tn, by rw [List.length_append]; show T.length + 1 + _ ≤ _; omega⟩)
        clear hb8
        go_wp2_with fail
        go_roundw
        case rel => exact ⟨(N : Int) - (S : Int), T ++ [(qc, qi, qg)], rfl, by omega, by omega, HF.out⟩
        case measure => simp [intOf]; omega
    · obtain ⟨A1, m, hr, _, _, _, _, heq⟩ := hK.it
      have h0 : z.toNat = 0 := by omega
      rw [h0, takeAll_zero] at heq
      have HR := Lib.hid (show takeAll (n0 + 1) A n0 = (T, A1, true) from by rw [heq, List.append_nil])
      have HF := Lib.hid hK
      have HP := Lib.hid (show So.PRel wr O ap n A1 (G + n0) from hr.more (by omega) (by omega))
      clear heq hr hK
      go_wp2_with fail
      go_ret2
      exact ⟨HF.out.tn, .inl ⟨by rw [HR.out], _, rfl, by rw [HR.out]; exact HF.out.own, by rw [HR.out]; exact HP.out⟩⟩
end Go.Proofs.Ytbpadliiekhkjaa.Ch
/-
  The reference's Read beside the plain arena. Condition: they are related ahead.
-/
-- cut by strips.py
namespace Go.Proofs.Ytbpadliiekhkjaa.Sl
open Go.RowKit Go.Proofs.Ytbpadliiekhkjaa.Fd
set_option maxRecDepth 100000
set_option linter.unusedVariables false
set_option linter.unusedSimpArgs false

def intL (m : Tk.Bs) : List Value := m.map fun b => Value.int .i64 (b.toNat : Int)
/-- A slice of ints that a call made. -/
def IntsR (w : World) (base : Nat) (v : Value) (m : Tk.Bs) : Prop := w.ownsRow base 3 1 v m.length (intL m)
theorem IntsR.nil (w : World) (base : Nat) : IntsR w base (.slice none 0 0) [] := World.ownsRow_nil _ _ _ _
theorem IntsR.form {w : World} {base : Nat} {v : Value} {m : Tk.Bs} (h : IntsR w base v m) : ∃ a cap, v = .slice a m.length cap := by
  rcases h.2 with ⟨h1, h2⟩ | ⟨g, cap, cur, h1, _⟩
  · exact ⟨none, 0, by rw [h1, h2]⟩
  · exact ⟨_, _, h1⟩
theorem IntsR.kept {w w' : World} {base : Nat} {v : Value} {m : Tk.Bs} (h : IntsR w base v m) (hb : Below w.heap.size w w') : IntsR w' base v m := by
  refine ⟨h.1, ?_⟩
  rcases h.2 with ⟨h1, h2⟩ | ⟨g, cap, cur, h1, h2, h3, h4⟩
  · exact .inl ⟨h1, h2⟩
  · exact .inr ⟨g, cap, cur, h1, h2, Bl.old hb (block_lt h3) h3, h4⟩
def ReadR (r : Tk.Bs × Int) (w : World) (e : Ending) (w' : World) : Prop := ∃ v, e = .returned (.tuple #[v, .int .i64 r.2]) ∧ IntsR w' w.heap.size v r.1 ∧ Below w.heap.size w w'
theorem infoI : (Try.prog.info? 3).map (fun i => (i.zero, i.size, i.bytes)) = some (some (.int .i64 0), 1, 8) := by kernel_rfl
theorem info_parts {e : TypeId} {z : Value} {n b : Nat} (h : (Try.prog.info? e).map (fun i => (i.zero, i.size, i.bytes)) = some (some z, n, b)) : ∃ i, Try.prog.info? e = some i ∧ i.zero = some z ∧ i.size = n ∧ i.bytes = b := by
  cases hi : Try.prog.info? e with
  | none => rw [hi] at h; simp at h
  | some i =>
    rw [hi] at h
    simp at h
    exact ⟨i, rfl, h.1, h.2.1, h.2.2⟩
theorem fits_iff {c i n : Int} : fitsI c i n = true ↔ 0 ≤ i ∧ i ≤ sizesI c ∧ 0 ≤ n ∧ n ≤ sizesI c - i := by unfold fitsI; rw [decide_eq_true_iff]
theorem sizes_le (c : Int) : 0 ≤ sizesI c ∧ sizesI c ≤ 4096 := by
  unfold sizesI
  split
  · rename_i h
    rcases (by omega : c = 0 ∨ c = 1 ∨ c = 2 ∨ c = 3) with rfl | rfl | rfl | rfl <;> decide
  · decide
theorem take_next {m : Tk.Bs} {i k : Nat} (h : i + k < m.length) : (m.drop i).take (k + 1) = (m.drop i).take k ++ [m[i + k]] := by
  have hl : k < (m.drop i).length := by rw [List.length_drop]; omega
  rw [List.take_succ_eq_append_getElem hl, List.getElem_drop]
theorem ints_snoc {w : World} {base : Nat} {v : Value} {M : Tk.Bs} {y : UInt8} (h : w.ownsRow base 3 1 v (M.length + 1) (intL M ++ [.int .i64 (y.toNat : Int)])) : IntsR w base v (M ++ [y]) := by
  unfold IntsR
  rw [List.length_append, show intL (M ++ [y]) = intL M ++ [.int .i64 (y.toNat : Int)] from by simp [intL]]
  exact h
end Go.Proofs.Ytbpadliiekhkjaa.Sl
/-
  The program's part of a block: what it returns. Condition: the arena and the plain one are related; numbers of an int.
-/
namespace Go.Proofs.Ytbpadliiekhkjaa.Sl
open Go.RowKit Go.Proofs.Ytbpadliiekhkjaa.Fd
set_option maxRecDepth 100000
set_option linter.unusedVariables false
set_option linter.unusedSimpArgs false

/-- What a right block is. -/
def cfun (c i : Nat) (b : Blk) (Q : Mp) (A : Ar) (q : Nat) : Prop := c < 4 ∧ (A c)[i]? = some b ∧ b.held ≠ 0 ∧ Q c i = some q
/-- A part of a block's memory, or what is wrong. -/
def PartP (Q : Mp) (A : Ar) (c i g at' m : Int) (w : World) (e : Ending) (w' : World) : Prop :=
  Below w.heap.size w w' ∧
  ((rightA A (c, i, g) = none ∧ e = .returned (.tuple #[.slice none 0 0, .int .i64 15])) ∨
   (∃ b, rightA A (c, i, g) = some b ∧ fitsI c at' m = false ∧ e = .returned (.tuple #[.slice none 0 0, .int .i64 2])) ∨
   ∃ (cn im q an mn cap : Nat) (b : Blk) (ad : Addr), c = (cn : Int) ∧ i = (im : Int) ∧ at' = (an : Int) ∧ m = (mn : Int) ∧ cn < 4 ∧ (A cn)[im]? = some b ∧ b.held ≠ 0 ∧ (b.gen : Int) = g ∧ rightA A (c, i, g) = some b ∧ fitsI c at' m = true ∧ Q cn im = some q ∧ an + mn ≤ sizeC cn ∧
     mn ≤ cap ∧ (0 < mn → ad = ⟨q, an, none⟩) ∧ e = .returned (.tuple #[.slice (some ad) mn cap, .int .i64 0]))
set_option maxHeartbeats 4000000 in
theorem part_any {base p : Nat} {n gs : Nat → Nat} {Q : Mp} {M : Nat → Nat → Tk.Bs} {A : Ar} {G : Nat} (c i g at' m : Int) (w : World) (hP : PAt w base p n gs Q M A) (hG : PGood Q M A G) (hfew : ∀ c, c < 4 → n c ≤ 4096)
    (hm : m ≤ 9223372036854775807) :
    Calls Try.prog 55 #[.pointer (some ⟨p, 0, none⟩), .agg #[.int .i64 c, .int .i64 i, .int .i64 g], .int .i64 at', .int .i64 m] w (PartP Q A c i g at' m w) := by
  have hB1 := (Below.refl w.heap.size w).alloc (Nat.le_refl _) (.cells #[.int .i64 c, .int .i64 i, .int .i64 g] 78)
  have HR := Lib.hid (pright_any c i g _ (hP.same hB1) hG.aged hfew)
  rcases right_ways (A := A) gs c i g with ⟨h1, h2⟩ | ⟨c, i, b, rfl, rfl, c4, hb, hh, rfl, h1, h2⟩
  · have H1 := Lib.hid h1
    rw [h2] at HR
    clear h1 h2 hP hG
    go_enter Try.func55, Try.ntmps55
    go_wp2_with fail
    refine HR.out.mono ?_
    rintro e w2 ⟨rfl, hb2⟩
    have HB := Lib.hid (Bl.next hB1 hb2)
    clear hb2 hB1 HR
    go_wp2_with fail
    go_ret2
    exact ⟨HB.out, .inl ⟨H1.out, rfl⟩⟩
  · have hgl := hP.ltG c4
    obtain ⟨hge, ⟨q, hq⟩, hmem⟩ := hG.busy c i b c4 hb hh
    rw [h2] at HR
    have d4 := (hP.cell c4 hb (t := 4) (by decide)).1
    replace d4 : w.cell? ⟨gs c, i * 5 + 4, none⟩ = some (bytV c (Q c i)) := d4
    rw [hq] at d4
    replace d4 : w.cell? ⟨gs c, i * 5 + 4, none⟩ = some (.slice (some ⟨q, 0, none⟩) (sizeC c) (sizeC c)) := d4
    have hS : sizesI (c : Int) = (sizeC c : Int) := by unfold sizesI; rw [if_pos (by omega), Int.toNat_natCast]
    have hSl := sizes_le (c : Int)
    have hfit := fits_iff (c := (c : Int)) (i := at') (n := m)
    rw [hS] at hfit hSl
    have H1 := Lib.hid h1
    have HD := Lib.hid (show cfun c i b Q A q from ⟨c4, hb, hh, hq⟩)
    clear h1 h2 hP hG hb hh hge hmem hq hS
    go_enter Try.func55, Try.ntmps55
    go_wp2_with fail
    refine HR.out.mono ?_
    rintro e w2 ⟨rfl, hb2⟩
    have hB2 := Bl.next hB1 hb2
    replace d4 := (hB2.cell (p := ⟨gs c, i * 5 + 4, none⟩) hgl).trans d4
    have HB := Lib.hid hB2
    clear hb2 hB1 HR hB2
    obtain ⟨S, hS⟩ : ∃ S, sizeC c = S := ⟨_, rfl⟩
    rw [hS] at d4 hSl hfit
    by_cases hat : at' < 0
    · have HX := Lib.hid (show fitsI (c : Int) at' m = false from by rw [Bool.eq_false_iff, Ne, hfit]; omega)
      clear hfit
      go_wp2_with fail
      go_ret2
      exact ⟨HB.out, .inr (.inl ⟨b, H1.out, HX.out, rfl⟩)⟩
    · by_cases hm0 : m < 0
      · have HX := Lib.hid (show fitsI (c : Int) at' m = false from by rw [Bool.eq_false_iff, Ne, hfit]; omega)
        clear hfit
        go_wp2_with fail
        go_ret2
        exact ⟨HB.out, .inr (.inl ⟨b, H1.out, HX.out, rfl⟩)⟩
      · have hw : IntKind.i64.wrap ((S : Int) - m) = (S : Int) - m := IntWalk.i64_in _ (by omega)
        by_cases hbig : (S : Int) - m < at'
        · have HX := Lib.hid (show fitsI (c : Int) at' m = false from by rw [Bool.eq_false_iff, Ne, hfit]; omega)
          clear hfit
          go_wp2_with fail
          go_ret2
          exact ⟨HB.out, .inr (.inl ⟨b, H1.out, HX.out, rfl⟩)⟩
        · have HX := Lib.hid (show fitsI (c : Int) at' m = true from by rw [hfit]; omega)
          obtain ⟨an, rfl⟩ : ∃ x : Nat, at' = x := ⟨at'.toNat, by omega⟩
          obtain ⟨mn, rfl⟩ : ∃ x : Nat, m = x := ⟨m.toNat, by omega⟩
          have k1 : an + mn ≤ S := by omega
          have k2 : ((an + mn : Nat) : Int) ≤ 9223372036854775807 := by omega
          have hsum : IntKind.i64.wrap ((an : Int) + (mn : Int)) = ((an + mn : Nat) : Int) := by rw [IntWalk.i64_in _ (by omega)]; omega
          clear hfit
          go_wp2_with fail
          all_goals
            go_ret2
            obtain ⟨z1, z2, z3, z4⟩ := HD.out
            refine ⟨HB.out, .inr (.inr ⟨c, i, q, an, mn, _, b, _, rfl, rfl, rfl, rfl, z1, z2, z3, rfl, H1.out, HX.out, z4, by omega, ?_, ?_, rfl⟩)⟩
            · omega
            · intro hmp; first | rfl | (exfalso; omega) | (simp; done)
end Go.Proofs.Ytbpadliiekhkjaa.Sl
