/-
  Texts that the laws' proofs stand on, 3 of them in one file; each one's head says what it proves and under which condition.
-/
import Derived.Test.YtledjiikpajdaaaDoorVtAllP13
import Derived.Laws.EntriesVeiled
import Derived.Test.YtledjiikpajdaaaDoorRows
import Derived.Test.YtledjiikpajdaaaDoorVtAllP10
import Derived.WalkKit
import Derived.WalkLawsBesides
import Derived.Outline
import Derived.Lib.Hide
import Derived.Test.YtledjiikpajdaaaDoorVtAllP9
/-
  validator.alike, its closure (once for Weak, once for Strong), and slices.IndexFunc and ContainsFunc with it: what each returns. Conditions: texts of at most 2^47 bytes.
-/
namespace Go.Proofs.YtledjiikpajdaaaDoor.Vd
open Go.RowKit Go.Proofs.YtledjiikpajdaaaDoor.Tk Go.Proofs.YtledjiikpajdaaaDoor.Fd Go.Proofs.YtledjiikpajdaaaDoor.Hd
set_option maxRecDepth 100000
set_option linter.unusedVariables false

/-- What a text is told of a tag, or of none. -/
def likeBy (cmp : Tag → Tag → Bool) (o : Option Tag) (x : Bs) : Bool := match o, parseTag x with
  | some own, some t => cmp own t
  | _, _ => false
theorem like_none (cmp : Tag → Tag → Bool) (x : Bs) : likeBy cmp none x = false := rfl
theorem like_other (cmp : Tag → Tag → Bool) (own : Tag) {x : Bs} (h : parseTag x = none) : likeBy cmp (some own) x = false := by unfold likeBy; rw [h]
theorem like_both (cmp : Tag → Tag → Bool) (own : Tag) {x : Bs} {t : Tag} (h : parseTag x = some t) : likeBy cmp (some own) x = cmp own t := by unfold likeBy; rw [h]
/-- What the closure captures. -/
structure LikeAt (W : World) (bh bc bt : Nat) (o : Option Tag) (f : FuncId) : Prop where
  has : W.heap[bh]? = some (.cells #[.bool o.isSome] 4 (0, 0))
  cmp : W.heap[bc]? = some (.cells #[.func (.func f) #[] #[]] 46 (0, 0))
  tag : W.heap[bt]? = some (.cells #[.bool (o.getD (false, [])).1, .string ⟨(o.getD (false, [])).2.toArray⟩] 53 (0, 0))
theorem LikeAt.more {W W' : World} {bh bc bt : Nat} {o : Option Tag} {f : FuncId} (h : LikeAt W bh bc bt o f) (hb : Below W.heap.size W W') : LikeAt W' bh bc bt o f :=
  ⟨Bl.old hb (block_lt h.has) h.has, Bl.old hb (block_lt h.cmp) h.cmp, Bl.old hb (block_lt h.tag) h.tag⟩
theorem one0 {w : World} {g : Nat} {x : Value} {t : TypeId} {fr : Nat × Nat} (h : w.heap[g]? = some (.cells #[x] t fr)) : w.cell? ⟨g, 0, none⟩ = some x := by rw [Lib.cell_of_heap h]; rfl
def likeFn (bh bc bt : Nat) : Value := .func (.func 41) #[] #[.pointer (some ⟨bh, 0, none⟩), .pointer (some ⟨bc, 0, none⟩), .pointer (some ⟨bt, 0, none⟩)]
theorem tagVal_some (t : Tag) : tagVal (some t) = .tuple #[.agg #[.bool t.1, .string ⟨t.2.toArray⟩], .bool true] := rfl
theorem tagVal_none : tagVal none = .tuple #[.agg #[.bool false, .string ⟨#[]⟩], .bool false] := rfl
set_option maxHeartbeats 4000000 in
theorem likeW_any (x : ByteArray) (bh bc bt : Nat) (o : Option Tag) (W : World) (hx : x.size ≤ 140737488355328) (h : LikeAt W bh bc bt o 19) :
    Calls Tryd.prog 41 #[.string x, .pointer (some ⟨bh, 0, none⟩), .pointer (some ⟨bc, 0, none⟩), .pointer (some ⟨bt, 0, none⟩)] W fun e w' => e = .returned (.bool (likeBy weakT o x.data.toList)) ∧ Below W.heap.size W w' := by
  have H := Lib.hid h
  clear h
  have HP := Lib.hid (parse_any x W hx)
  obtain ⟨q, hq⟩ : ∃ q, parseTag x.data.toList = q := ⟨_, rfl⟩
  have HQ := Lib.hid hq
  rw [hq] at HP
  clear hq
  cases o with
  | none =>
    rw [like_none]
    cases q with
    | none =>
      go_enter Tryd.func41, Tryd.ntmps41
      go_wp2_with fail
      refine (HP.out).mono ?_
      rintro e w1 ⟨rfl, hb⟩
      rw [tagVal_none]
      have HB := Lib.hid (hb.alloc hb.size (.cells #[.bool false, .string ⟨#[]⟩] 53))
      have c1 := one0 (H.out.more HB.out).has
      clear hb
      go_wp2_with fail
      go_ret
      exact ⟨rfl, HB.out⟩
    | some t =>
      go_enter Tryd.func41, Tryd.ntmps41
      go_wp2_with fail
      refine (HP.out).mono ?_
      rintro e w1 ⟨rfl, hb⟩
      rw [tagVal_some]
      have HB := Lib.hid (hb.alloc hb.size (.cells #[.bool t.1, .string ⟨t.2.toArray⟩] 53))
      have c1 := one0 (H.out.more HB.out).has
      clear hb
      go_wp2_with fail
      go_ret
      exact ⟨rfl, HB.out⟩
  | some own =>
    cases q with
    | none =>
      rw [like_other weakT own HQ.out]
      go_enter Tryd.func41, Tryd.ntmps41
      go_wp2_with fail
      refine (HP.out).mono ?_
      rintro e w1 ⟨rfl, hb⟩
      rw [tagVal_none]
      have HB := Lib.hid (hb.alloc hb.size (.cells #[.bool false, .string ⟨#[]⟩] 53))
      have c1 := one0 (H.out.more HB.out).has
      clear hb
      go_wp2_with fail
      go_ret
      exact ⟨rfl, HB.out⟩
    | some t =>
      rw [like_both weakT own HQ.out]
      have HC := Lib.hid (weak_any own t)
      unfold TV at HC
      go_enter Tryd.func41, Tryd.ntmps41
      go_wp2_with fail
      refine (HP.out).mono ?_
      rintro e w1 ⟨rfl, hb⟩
      rw [tagVal_some]
      have HB := Lib.hid (hb.alloc hb.size (.cells #[.bool t.1, .string ⟨t.2.toArray⟩] 53))
      have c1 := one0 (H.out.more HB.out).has
      have c2 := one0 (H.out.more HB.out).cmp
      have c3 := two0 (H.out.more HB.out).tag
      have c4 := two1 (H.out.more HB.out).tag
      clear hb
      go_wp2_with fail
      refine (HC.out _).mono ?_
      rintro e w2 ⟨rfl, hb2⟩
      have HB2 := Lib.hid (Bl.next HB.out hb2)
      clear hb2
      go_wp2_with fail
      go_ret
      exact ⟨rfl, HB2.out⟩
set_option maxHeartbeats 4000000 in
theorem likeS_any (x : ByteArray) (bh bc bt : Nat) (o : Option Tag) (W : World) (hx : x.size ≤ 140737488355328) (h : LikeAt W bh bc bt o 25) :
    Calls Tryd.prog 41 #[.string x, .pointer (some ⟨bh, 0, none⟩), .pointer (some ⟨bc, 0, none⟩), .pointer (some ⟨bt, 0, none⟩)] W fun e w' => e = .returned (.bool (likeBy strongT o x.data.toList)) ∧ Below W.heap.size W w' := by
  have H := Lib.hid h
  clear h
  have HP := Lib.hid (parse_any x W hx)
  obtain ⟨q, hq⟩ : ∃ q, parseTag x.data.toList = q := ⟨_, rfl⟩
  have HQ := Lib.hid hq
  rw [hq] at HP
  clear hq
  cases o with
  | none =>
    rw [like_none]
    cases q with
    | none =>
      go_enter Tryd.func41, Tryd.ntmps41
      go_wp2_with fail
      refine (HP.out).mono ?_
      rintro e w1 ⟨rfl, hb⟩
      rw [tagVal_none]
      have HB := Lib.hid (hb.alloc hb.size (.cells #[.bool false, .string ⟨#[]⟩] 53))
      have c1 := one0 (H.out.more HB.out).has
      clear hb
      go_wp2_with fail
      go_ret
      exact ⟨rfl, HB.out⟩
    | some t =>
      go_enter Tryd.func41, Tryd.ntmps41
      go_wp2_with fail
      refine (HP.out).mono ?_
      rintro e w1 ⟨rfl, hb⟩
      rw [tagVal_some]
      have HB := Lib.hid (hb.alloc hb.size (.cells #[.bool t.1, .string ⟨t.2.toArray⟩] 53))
      have c1 := one0 (H.out.more HB.out).has
      clear hb
      go_wp2_with fail
      go_ret
      exact ⟨rfl, HB.out⟩
  | some own =>
    cases q with
    | none =>
      rw [like_other strongT own HQ.out]
      go_enter Tryd.func41, Tryd.ntmps41
      go_wp2_with fail
      refine (HP.out).mono ?_
      rintro e w1 ⟨rfl, hb⟩
      rw [tagVal_none]
      have HB := Lib.hid (hb.alloc hb.size (.cells #[.bool false, .string ⟨#[]⟩] 53))
      have c1 := one0 (H.out.more HB.out).has
      clear hb
      go_wp2_with fail
      go_ret
      exact ⟨rfl, HB.out⟩
    | some t =>
      rw [like_both strongT own HQ.out]
      have HC := Lib.hid (strong_any own t)
      unfold TV at HC
      go_enter Tryd.func41, Tryd.ntmps41
      go_wp2_with fail
      refine (HP.out).mono ?_
      rintro e w1 ⟨rfl, hb⟩
      rw [tagVal_some]
      have HB := Lib.hid (hb.alloc hb.size (.cells #[.bool t.1, .string ⟨t.2.toArray⟩] 53))
      have c1 := one0 (H.out.more HB.out).has
      have c2 := one0 (H.out.more HB.out).cmp
      have c3 := two0 (H.out.more HB.out).tag
      have c4 := two1 (H.out.more HB.out).tag
      clear hb
      go_wp2_with fail
      refine (HC.out _).mono ?_
      rintro e w2 ⟨rfl, hb2⟩
      have HB2 := Lib.hid (Bl.next HB.out hb2)
      clear hb2
      go_wp2_with fail
      go_ret
      exact ⟨rfl, HB2.out⟩
set_option maxHeartbeats 4000000 in
theorem alikeW_any (own : ByteArray) (W : World) (hx : own.size ≤ 140737488355328) :
    Calls Tryd.prog 18 #[.string own, .func (.func 19) #[] #[]] W fun e w' => (∃ bh bc bt, e = .returned (likeFn bh bc bt) ∧ LikeAt w' bh bc bt (parseTag own.data.toList) 19) ∧ Below W.heap.size W w' := by
  obtain ⟨o, ho⟩ : ∃ o, parseTag own.data.toList = o := ⟨_, rfl⟩
  have HP := Lib.hid (fun W => parse_any own W hx)
  rw [ho] at HP ⊢
  clear ho
  have HV := Lib.hid (show tagVal o = .tuple #[.agg #[.bool (o.getD (false, [])).1, .string ⟨(o.getD (false, [])).2.toArray⟩], .bool o.isSome] from by cases o <;> rfl)
  obtain ⟨b, hb⟩ : ∃ b, b = (o.getD (false, [])).1 := ⟨_, rfl⟩
  obtain ⟨t, ht⟩ : ∃ t : ByteArray, t = ⟨(o.getD (false, [])).2.toArray⟩ := ⟨_, rfl⟩
  obtain ⟨k, hk⟩ : ∃ k, k = o.isSome := ⟨_, rfl⟩
  rw [← hb, ← ht, ← hk] at HV
  have HL := Lib.hid (show ∀ (V : World) (bh bc bt : Nat), V.heap[bh]? = some (.cells #[.bool k] 4 (0, 0)) → V.heap[bc]? = some (.cells #[.func (.func 19) #[] #[]] 46 (0, 0)) → V.heap[bt]? = some (.cells #[.bool b, .string t] 53 (0, 0)) → LikeAt V bh bc bt o 19 from fun V bh bc bt h1 h2 h3 => ⟨by rw [← hk]; exact h1, h2, by rw [← hb, ← ht]; exact h3⟩)
  clear hb ht hk
  go_enter Tryd.func18, Tryd.ntmps18
  go_wp2_with fail
  refine (HP.out _).mono ?_
  rintro e w1 ⟨rfl, hb⟩
  rw [HV.out]
  have hc0 := Bl.old hb (by simp) (new_block W (.cells #[.func (.func 19) #[] #[]] 46))
  have HB := Lib.hid (Bl.next ((Below.refl W.heap.size W).alloc (Nat.le_refl _) (.cells #[.func (.func 19) #[] #[]] 46)) hb)
  have HC := Lib.hid hc0
  clear hb hc0
  go_wp2_with fail
  go_ret
  have hlt := block_lt HC.out
  refine ⟨⟨w1.heap.size + 1, W.heap.size, w1.heap.size, rfl, HL.out _ _ _ _ (new_block' _ _ (by simp)) ((old_block _ _ (by simp; omega)).trans ((old_block _ _ hlt).trans HC.out)) ((old_block _ _ (by simp)).trans (new_block _ _))⟩, (HB.out.alloc HB.out.size _).alloc (by have := HB.out.size; simp; omega) _⟩
set_option maxHeartbeats 4000000 in
theorem indexW_any (v : Value) (ls : List ByteArray) (bh bc bt : Nat) (o : Option Tag) (w : World) (hs : Strs w v ls) (hz : ∀ s ∈ ls, s.size ≤ 140737488355328) (hn : ls.length ≤ 1000000) (h : LikeAt w bh bc bt o 19) :
    Calls Tryd.prog 40 #[v, likeFn bh bc bt] w fun e w' => (∃ r : Int, e = .returned (.int .i64 r) ∧ -1 ≤ r ∧ r ≤ 1000000 ∧ decide (0 ≤ r) = ls.any (fun s => likeBy weakT o s.data.toList)) ∧ Below w.heap.size w w' := by
  unfold likeFn
  rcases hs with ⟨rfl, a, cap, rfl⟩ | ⟨b, off, cap, rfl, hlt, hc⟩
  · go_enter Tryd.func40, Tryd.ntmps40
    go_wp2_with fail
    refine wp_loop_rounds 1 ?_
    rw [rounds_succ]
    go_wp2_with fail
    go_ret
    exact ⟨⟨_, rfl, by omega, by omega, rfl⟩, Below.refl _ _⟩
  · have HC := Lib.hid hc
    have HZ := Lib.hid hz
    have H := Lib.hid h
    clear hc hz h
    go_enter Tryd.func40, Tryd.ntmps40
    go_wp2_with fail
    go_loopw [8] (fun i wr => ∃ k : Nat, k ≤ ls.length ∧ i = .int .i64 (k : Int) ∧ (ls.take k).all (fun s => !likeBy weakT o s.data.toList) = true ∧ Below w.heap.size w wr) (fun i _ => ls.length - (intOf i).toNat)
    case atStart => exact ⟨0, Nat.zero_le _, rfl, rfl, Below.refl _ _⟩
    case round =>
      obtain ⟨k, hk, rfl, hal, hB⟩ := hrel
      have HAL := Lib.hid hal
      clear hal
      by_cases hlt2 : k < ls.length
      · have c1 : wr.cell? ⟨b, off + k, none⟩ = some (.string ls[k]) := (hB.cell (p := ⟨b, off + k, none⟩) hlt).trans (HC.out k hlt2)
        have hx2 := HZ.out ls[k] (List.getElem_mem hlt2)
        obtain ⟨q, hq⟩ : ∃ q, q = likeBy weakT o ls[k].data.toList := ⟨_, rfl⟩
        have HT := Lib.hid (show q = true → ls.any (fun s => likeBy weakT o s.data.toList) = true from fun h => List.any_eq_true.2 ⟨ls[k], List.getElem_mem hlt2, by rw [← hq]; exact h⟩)
        have HN := Lib.hid (show q = false → (ls.take (k + 1)).all (fun s => !likeBy weakT o s.data.toList) = true from fun h => by
          rw [List.take_succ_eq_append_getElem hlt2, List.all_append, HAL.out]; simp [← hq, h])
        obtain ⟨x, hx⟩ : ∃ x, x = ls[k] := ⟨_, rfl⟩
        rw [← hx] at c1 hx2 hq
        have HQ := Lib.hid hq.symm
        clear hx hq
        have HW := Lib.hid (H.out.more hB)
        go_wp2_with fail
        refine (likeW_any x bh bc bt o _ hx2 HW.out).mono ?_
        rintro e w1 ⟨rfl, hb1⟩
        rw [HQ.out]
        have hB1 := Bl.next hB hb1
        clear hb1
        cases q with
        | true =>
          have hT := Lib.hid (HT.out rfl)
          clear HT HN
          go_wp2_with fail
          go_ret
          exact ⟨⟨_, rfl, by omega, by omega, by rw [hT.out]; exact decide_eq_true (by omega)⟩, hB1⟩
        | false =>
          have hN := Lib.hid (HN.out rfl)
          clear HT HN
          go_wp2_with fail
          go_roundw
          case rel => exact ⟨k + 1, by omega, by go_num, hN.out, hB1⟩
          case measure => simp [intOf]; omega
      · have HE := Lib.hid (show ls.any (fun s => likeBy weakT o s.data.toList) = false from by
          have h := HAL.out
          rw [List.take_of_length_le (by omega)] at h
          rw [Bool.eq_false_iff]; intro hh
          obtain ⟨s, hs, h2⟩ := List.any_eq_true.1 hh
          have := List.all_eq_true.1 h s hs
          rw [h2] at this; cases this)
        go_wp2_with fail
        go_ret
        exact ⟨⟨_, rfl, by omega, by omega, by rw [HE.out]; rfl⟩, hB⟩
set_option maxHeartbeats 4000000 in
theorem containsW_any (v : Value) (ls : List ByteArray) (bh bc bt : Nat) (o : Option Tag) (w : World) (hs : Strs w v ls) (hz : ∀ s ∈ ls, s.size ≤ 140737488355328) (hn : ls.length ≤ 1000000) (h : LikeAt w bh bc bt o 19) :
    Calls Tryd.prog 17 #[v, likeFn bh bc bt] w fun e w' => e = .returned (.bool (ls.any (fun s => likeBy weakT o s.data.toList))) ∧ Below w.heap.size w w' := by
  have HI := Lib.hid (indexW_any v ls bh bc bt o w hs hz hn h)
  obtain ⟨L, hL⟩ : ∃ L, L = ls.any (fun s => likeBy weakT o s.data.toList) := ⟨_, rfl⟩
  rw [← hL] at HI ⊢
  clear hL hs hz hn h
  unfold likeFn at *
  go_enter Tryd.func17, Tryd.ntmps17
  go_wp2_with fail
  refine (HI.out).mono ?_
  rintro e w1 ⟨⟨r, rfl, h1, h2, h3⟩, hb⟩
  have HB := Lib.hid hb
  have H3 := Lib.hid h3
  clear hb h3
  go_wp2_with fail
  go_ret
  exact ⟨by rw [← H3.out]; rfl, HB.out⟩
set_option maxHeartbeats 4000000 in
theorem alikeS_any (own : ByteArray) (W : World) (hx : own.size ≤ 140737488355328) :
    Calls Tryd.prog 18 #[.string own, .func (.func 25) #[] #[]] W fun e w' => (∃ bh bc bt, e = .returned (likeFn bh bc bt) ∧ LikeAt w' bh bc bt (parseTag own.data.toList) 25) ∧ Below W.heap.size W w' := by
  obtain ⟨o, ho⟩ : ∃ o, parseTag own.data.toList = o := ⟨_, rfl⟩
  have HP := Lib.hid (fun W => parse_any own W hx)
  rw [ho] at HP ⊢
  clear ho
  have HV := Lib.hid (show tagVal o = .tuple #[.agg #[.bool (o.getD (false, [])).1, .string ⟨(o.getD (false, [])).2.toArray⟩], .bool o.isSome] from by cases o <;> rfl)
  obtain ⟨b, hb⟩ : ∃ b, b = (o.getD (false, [])).1 := ⟨_, rfl⟩
  obtain ⟨t, ht⟩ : ∃ t : ByteArray, t = ⟨(o.getD (false, [])).2.toArray⟩ := ⟨_, rfl⟩
  obtain ⟨k, hk⟩ : ∃ k, k = o.isSome := ⟨_, rfl⟩
  rw [← hb, ← ht, ← hk] at HV
  have HL := Lib.hid (show ∀ (V : World) (bh bc bt : Nat), V.heap[bh]? = some (.cells #[.bool k] 4 (0, 0)) → V.heap[bc]? = some (.cells #[.func (.func 25) #[] #[]] 46 (0, 0)) → V.heap[bt]? = some (.cells #[.bool b, .string t] 53 (0, 0)) → LikeAt V bh bc bt o 25 from fun V bh bc bt h1 h2 h3 => ⟨by rw [← hk]; exact h1, h2, by rw [← hb, ← ht]; exact h3⟩)
  clear hb ht hk
  go_enter Tryd.func18, Tryd.ntmps18
  go_wp2_with fail
  refine (HP.out _).mono ?_
  rintro e w1 ⟨rfl, hb⟩
  rw [HV.out]
  have hc0 := Bl.old hb (by simp) (new_block W (.cells #[.func (.func 25) #[] #[]] 46))
  have HB := Lib.hid (Bl.next ((Below.refl W.heap.size W).alloc (Nat.le_refl _) (.cells #[.func (.func 25) #[] #[]] 46)) hb)
  have HC := Lib.hid hc0
  clear hb hc0
  go_wp2_with fail
  go_ret
  have hlt := block_lt HC.out
  refine ⟨⟨w1.heap.size + 1, W.heap.size, w1.heap.size, rfl, HL.out _ _ _ _ (new_block' _ _ (by simp)) ((old_block _ _ (by simp; omega)).trans ((old_block _ _ hlt).trans HC.out)) ((old_block _ _ (by simp)).trans (new_block _ _))⟩, (HB.out.alloc HB.out.size _).alloc (by have := HB.out.size; simp; omega) _⟩
set_option maxHeartbeats 4000000 in
theorem indexS_any (v : Value) (ls : List ByteArray) (bh bc bt : Nat) (o : Option Tag) (w : World) (hs : Strs w v ls) (hz : ∀ s ∈ ls, s.size ≤ 140737488355328) (hn : ls.length ≤ 1000000) (h : LikeAt w bh bc bt o 25) :
    Calls Tryd.prog 40 #[v, likeFn bh bc bt] w fun e w' => (∃ r : Int, e = .returned (.int .i64 r) ∧ -1 ≤ r ∧ r ≤ 1000000 ∧ decide (0 ≤ r) = ls.any (fun s => likeBy strongT o s.data.toList)) ∧ Below w.heap.size w w' := by
  unfold likeFn
  rcases hs with ⟨rfl, a, cap, rfl⟩ | ⟨b, off, cap, rfl, hlt, hc⟩
  · go_enter Tryd.func40, Tryd.ntmps40
    go_wp2_with fail
    refine wp_loop_rounds 1 ?_
    rw [rounds_succ]
    go_wp2_with fail
    go_ret
    exact ⟨⟨_, rfl, by omega, by omega, rfl⟩, Below.refl _ _⟩
  · have HC := Lib.hid hc
    have HZ := Lib.hid hz
    have H := Lib.hid h
    clear hc hz h
    go_enter Tryd.func40, Tryd.ntmps40
    go_wp2_with fail
    go_loopw [8] (fun i wr => ∃ k : Nat, k ≤ ls.length ∧ i = .int .i64 (k : Int) ∧ (ls.take k).all (fun s => !likeBy strongT o s.data.toList) = true ∧ Below w.heap.size w wr) (fun i _ => ls.length - (intOf i).toNat)
    case atStart => exact ⟨0, Nat.zero_le _, rfl, rfl, Below.refl _ _⟩
    case round =>
      obtain ⟨k, hk, rfl, hal, hB⟩ := hrel
      have HAL := Lib.hid hal
      clear hal
      by_cases hlt2 : k < ls.length
      · have c1 : wr.cell? ⟨b, off + k, none⟩ = some (.string ls[k]) := (hB.cell (p := ⟨b, off + k, none⟩) hlt).trans (HC.out k hlt2)
        have hx2 := HZ.out ls[k] (List.getElem_mem hlt2)
        obtain ⟨q, hq⟩ : ∃ q, q = likeBy strongT o ls[k].data.toList := ⟨_, rfl⟩
        have HT := Lib.hid (show q = true → ls.any (fun s => likeBy strongT o s.data.toList) = true from fun h => List.any_eq_true.2 ⟨ls[k], List.getElem_mem hlt2, by rw [← hq]; exact h⟩)
        have HN := Lib.hid (show q = false → (ls.take (k + 1)).all (fun s => !likeBy strongT o s.data.toList) = true from fun h => by
          rw [List.take_succ_eq_append_getElem hlt2, List.all_append, HAL.out]; simp [← hq, h])
        obtain ⟨x, hx⟩ : ∃ x, x = ls[k] := ⟨_, rfl⟩
        rw [← hx] at c1 hx2 hq
        have HQ := Lib.hid hq.symm
        clear hx hq
        have HW := Lib.hid (H.out.more hB)
        go_wp2_with fail
        refine (likeS_any x bh bc bt o _ hx2 HW.out).mono ?_
        rintro e w1 ⟨rfl, hb1⟩
        rw [HQ.out]
        have hB1 := Bl.next hB hb1
        clear hb1
        cases q with
        | true =>
          have hT := Lib.hid (HT.out rfl)
          clear HT HN
          go_wp2_with fail
          go_ret
          exact ⟨⟨_, rfl, by omega, by omega, by rw [hT.out]; exact decide_eq_true (by omega)⟩, hB1⟩
        | false =>
          have hN := Lib.hid (HN.out rfl)
          clear HT HN
          go_wp2_with fail
          go_roundw
          case rel => exact ⟨k + 1, by omega, by go_num, hN.out, hB1⟩
          case measure => simp [intOf]; omega
      · have HE := Lib.hid (show ls.any (fun s => likeBy strongT o s.data.toList) = false from by
          have h := HAL.out
          rw [List.take_of_length_le (by omega)] at h
          rw [Bool.eq_false_iff]; intro hh
          obtain ⟨s, hs, h2⟩ := List.any_eq_true.1 hh
          have := List.all_eq_true.1 h s hs
          rw [h2] at this; cases this)
        go_wp2_with fail
        go_ret
        exact ⟨⟨_, rfl, by omega, by omega, by rw [HE.out]; rfl⟩, hB⟩
set_option maxHeartbeats 4000000 in
theorem containsS_any (v : Value) (ls : List ByteArray) (bh bc bt : Nat) (o : Option Tag) (w : World) (hs : Strs w v ls) (hz : ∀ s ∈ ls, s.size ≤ 140737488355328) (hn : ls.length ≤ 1000000) (h : LikeAt w bh bc bt o 25) :
    Calls Tryd.prog 17 #[v, likeFn bh bc bt] w fun e w' => e = .returned (.bool (ls.any (fun s => likeBy strongT o s.data.toList))) ∧ Below w.heap.size w w' := by
  have HI := Lib.hid (indexS_any v ls bh bc bt o w hs hz hn h)
  obtain ⟨L, hL⟩ : ∃ L, L = ls.any (fun s => likeBy strongT o s.data.toList) := ⟨_, rfl⟩
  rw [← hL] at HI ⊢
  clear hL hs hz hn h
  unfold likeFn at *
  go_enter Tryd.func17, Tryd.ntmps17
  go_wp2_with fail
  refine (HI.out).mono ?_
  rintro e w1 ⟨⟨r, rfl, h1, h2, h3⟩, hb⟩
  have HB := Lib.hid hb
  have H3 := Lib.hid h3
  clear hb h3
  go_wp2_with fail
  go_ret
  exact ⟨by rw [← H3.out]; rfl, HB.out⟩
end Go.Proofs.YtledjiikpajdaaaDoor.Vd
/-
  token.blank, token.trim and token.Trim: what each returns. Conditions: none beyond the lengths that a string or a slice can have.
-/
namespace Go.Proofs.YtledjiikpajdaaaDoor.Tk
open Go.RowKit

theorem blank_any (c : UInt8) (w : World) :
    Calls Tryd.prog 64 #[.int .u8 (c.toNat : Int)] w fun e w' => e = .returned (.bool (blank c)) ∧ w = w' := by
  cases hb : blank c with
  | true =>
    have HB := Lib.hid hb
    rcases blank_yes hb with h | h
    · have h1 : ((c.toNat : Int) == 32) = true := beq_iff_eq.2 h
      clear hb h
      go_enter Tryd.func64, Tryd.ntmps64
      go_wp2
      go_ret
      exact ⟨rfl, rfl⟩
    · have h1 : ((c.toNat : Int) == 32) = false := beq_eq_false_iff_ne.2 (by omega)
      have h2 : ((c.toNat : Int) == 9) = true := beq_iff_eq.2 h
      clear hb h
      go_enter Tryd.func64, Tryd.ntmps64
      go_wp2
      go_ret
      exact ⟨rfl, rfl⟩
  | false =>
    have h := blank_no hb
    have h1 : ((c.toNat : Int) == 32) = false := beq_eq_false_iff_ne.2 h.1
    have h2 : ((c.toNat : Int) == 9) = false := beq_eq_false_iff_ne.2 h.2
    clear hb h
    go_enter Tryd.func64, Tryd.ntmps64
    go_wp2
    go_ret
    exact ⟨rfl, rfl⟩

theorem holds_none (w : World) (b off : Nat) {l : Bs} (h : l.length = 0) : Holds w b off l := fun _ hj => by omega
theorem slice_end {w : World} {b off' n : Nat} {l l' : Bs} (h : l = l') (hn : l'.length = n) (hh : Holds w b off' l') : ∃ o, Ending.returned (.slice (some ⟨b, off', none⟩) n n) = .returned (.slice (some ⟨b, o, none⟩) l.length l.length) ∧ Holds w b o l :=
  ⟨off', by rw [h, hn], by rw [h]; exact hh⟩

set_option maxHeartbeats 1000000 in
theorem trimSlice_any (b off cap : Nat) (l : Bs) (w : World) (hl : l.length ≤ maxLen) (hcap : l.length ≤ cap) (hc : Holds w b off l) :
    Calls Tryd.prog 38 #[.slice (some ⟨b, off, none⟩) l.length cap] w fun e w' => (∃ off', e = .returned (.slice (some ⟨b, off', none⟩) (trim l).length (trim l).length) ∧ Holds w b off' (trim l)) ∧ w = w' := by
  unfold maxLen at hl
  have HC := Lib.hid hc
  clear hc
  go_enter Tryd.func38, Tryd.ntmps38
  go_wp2
  go_loop [3] (fun i => ∃ k : Nat, k ≤ l.length ∧ i = .int .i64 k ∧ ltrim l = ltrim (l.drop k)) (fun i => l.length - (intOf i).toNat)
  case atStart => exact ⟨0, Nat.zero_le _, rfl, rfl⟩
  case round =>
    obtain ⟨k, hk, rfl, hrel⟩ := hrel
    have HR := Lib.hid hrel
    clear hrel
    by_cases hgo : ∃ h : k < l.length, blank l[k] = true
    · obtain ⟨hlt, hb⟩ := hgo
      have hcell := HC.out k hlt
      have HR2 := Lib.hid (HR.out.trans (ltrim_drop_step l k hlt hb))
      have HB := Lib.hid hb
      clear hb
      go_wp2_with (go_at_call 64; refine (blank_any _ _).mono ?_; rintro e w' ⟨rfl, rfl⟩; rw [HB.out])
      go_round
      case rel => exact ⟨k + 1, by omega, by go_num, HR2.out⟩
      case measure => simp [intOf]; omega
    · have HL : Hid (ltrim l = l.drop k) := by
        rw [HR.out]
        by_cases hlt : k < l.length
        · exact ltrim_drop_stop l k hlt (by cases hb : blank l[k] with | true => exact absurd ⟨hlt, hb⟩ hgo | false => rfl)
        · rw [List.drop_eq_nil_of_le (by omega)]; rfl
      have HT := Lib.hid (show trim l = rtrim (l.drop k) from by unfold trim; rw [HL.out])
      clear HR HL
      by_cases hlt : k < l.length
      all_goals
        first | (have hcell := HC.out k hlt; have HB := Lib.hid (show blank l[k] = false from by cases hb : blank l[k] with | true => exact absurd ⟨hlt, hb⟩ hgo | false => rfl)) | skip
        clear hgo
        go_wp2_with (go_at_call 64; refine (blank_any _ _).mono ?_; rintro e w' ⟨rfl, rfl⟩; rw [HB.out])
        go_loop [4] (fun i => ∃ m : Nat, k ≤ m ∧ m ≤ l.length ∧ i = .int .i64 m ∧ trim l = rtrim ((l.take m).drop k)) (fun i => (intOf i).toNat)
        case atStart => exact ⟨l.length, hk, Nat.le_refl _, rfl, by rw [part_all]; exact HT.out⟩
        case round =>
          obtain ⟨m, hkm, hm, rfl, hrel⟩ := hrel
          have HR := Lib.hid hrel
          clear hrel
          by_cases hgo : ∃ h : k < m, blank (l[m - 1]'(by omega)) = true
          · obtain ⟨hlt, hb⟩ := hgo
            have hcell := HC.out (m - 1) (by omega)
            have HR2 := Lib.hid (HR.out.trans (rtrim_part_step l k m hlt hm hb))
            have HB := Lib.hid hb
            have e1 : ((m : Int) - 1).toNat = m - 1 := by omega
            clear hb
            go_wp2_with (go_at_call 64; refine (blank_any _ _).mono ?_; rintro e w' ⟨rfl, rfl⟩; rw [HB.out])
            go_round
            case rel => exact ⟨m - 1, by omega, by omega, by go_num, HR2.out⟩
            case measure => simp [intOf]; omega
          · have HL : Hid (trim l = (l.take m).drop k) := by
              rw [HR.out]
              by_cases hlt : k < m
              · exact rtrim_part_stop l k m hlt hm (by cases hb : blank (l[m - 1]'(by omega)) with | true => exact absurd ⟨hlt, hb⟩ hgo | false => rfl)
              · obtain rfl : k = m := by omega
                exact part_none l k
            by_cases hlt : k < m
            · have hcell := HC.out (m - 1) (by omega)
              have HB := Lib.hid (show blank (l[m - 1]'(by omega)) = false from by cases hb : blank (l[m - 1]'(by omega)) with | true => exact absurd ⟨hlt, hb⟩ hgo | false => rfl)
              clear hgo
              go_wp2_with (go_at_call 64; refine (blank_any _ _).mono ?_; rintro e w' ⟨rfl, rfl⟩; rw [HB.out])
              go_ret
              first | exact ⟨slice_end HL.out (part_length l k m hm) (HC.out.part k m hm), rfl⟩ | (exfalso; omega)
            · go_wp2_with fail
              go_ret
              exact ⟨slice_end HL.out (by rw [part_length l k m hm]; first | done | omega) (holds_none w b off (by rw [part_length l k m hm]; omega)), rfl⟩

theorem trimSlice_at (b off n cap : Nat) (l : Bs) (w : World) (hn : l.length = n) (hl : n ≤ maxLen) (hcap : n ≤ cap) (hc : Holds w b off l) :
    Calls Tryd.prog 38 #[.slice (some ⟨b, off, none⟩) n cap] w fun e w' => (∃ off', e = .returned (.slice (some ⟨b, off', none⟩) (trim l).length (trim l).length) ∧ Holds w b off' (trim l)) ∧ w = w' := by
  subst hn; exact trimSlice_any b off cap l w hl hcap hc

end Go.Proofs.YtledjiikpajdaaaDoor.Tk
/-
  token.quoteEnd, the closure of token.Split that ends an element, and token.Split: what each returns. Condition: a text of at most 2^32 bytes.
-/
namespace Go.Proofs.YtledjiikpajdaaaDoor.Tk
open Go.RowKit

/-- Where the quoted text that begins at a place ends; -1: nowhere. -/
def qEnd (l : Bs) (beg : Nat) : Int := match qe (l.drop (beg + 1)) with | none => -1 | some m => (beg : Int) + (m : Int)
theorem qEnd_none {l : Bs} {beg : Nat} (h : qe (l.drop (beg + 1)) = none) : qEnd l beg = -1 := by unfold qEnd; rw [h]
theorem qEnd_some {l : Bs} {beg m : Nat} (h : qe (l.drop (beg + 1)) = some m) : qEnd l beg = (beg : Int) + (m : Int) := by unfold qEnd; rw [h]
theorem qe_at_back (l : Bs) (i : Nat) (hi : i < l.length) (hc : l[i] = 92) : qe (l.drop i) = (qe (l.drop (i + 2))).map (· + 2) := by
  rw [drop_at l i hi, hc, qe_back, List.drop_drop]
theorem qe_at_other (l : Bs) (i : Nat) (hi : i < l.length) (h1 : l[i] ≠ 34) (h2 : l[i] ≠ 92) : qe (l.drop i) = (qe (l.drop (i + 1))).map (· + 1) := by
  rw [drop_at l i hi, qe_other _ h1 h2]
theorem qe_at_end (l : Bs) (i : Nat) (hi : i < l.length) (hc : l[i] = 34) : qe (l.drop i) = some 1 := by
  rw [drop_at l i hi, hc, qe_end]
theorem map_add (o : Option Nat) (a b : Nat) : (o.map (· + a)).map (· + b) = o.map (· + (a + b)) := by
  cases o <;> simp [Nat.add_assoc]
theorem byte_eq {c : UInt8} {n : Nat} (hn : n < 256) (h : c = UInt8.ofNat n) : ((c.toNat : Int) == (n : Int)) = true := by
  rw [h]; simp [Nat.mod_eq_of_lt hn]
theorem byte_ne {c : UInt8} {n : Nat} (hn : n < 256) (h : c ≠ UInt8.ofNat n) : ((c.toNat : Int) == (n : Int)) = false := by
  rw [beq_eq_false_iff_ne]; intro e; apply h; apply UInt8.toNat.inj; simp [Nat.mod_eq_of_lt hn]; omega
theorem is44 {c : UInt8} (h : c = 44) : ((c.toNat : Int) == 44) = true := byte_eq (n := 44) (by omega) h
theorem no44 {c : UInt8} (h : c ≠ 44) : ((c.toNat : Int) == 44) = false := byte_ne (n := 44) (by omega) h
theorem is34 {c : UInt8} (h : c = 34) : ((c.toNat : Int) == 34) = true := byte_eq (n := 34) (by omega) h
theorem no34 {c : UInt8} (h : c ≠ 34) : ((c.toNat : Int) == 34) = false := byte_ne (n := 34) (by omega) h
theorem is92 {c : UInt8} (h : c = 92) : ((c.toNat : Int) == 92) = true := byte_eq (n := 92) (by omega) h
theorem no92 {c : UInt8} (h : c ≠ 92) : ((c.toNat : Int) == 92) = false := byte_ne (n := 92) (by omega) h

set_option maxHeartbeats 1000000 in
theorem quoteEnd_any (b off n cap beg : Nat) (l : Bs) (w : World) (hn : l.length = n) (hl : n ≤ 4294967296) (hb : beg < n) (hc : Holds w b off l) :
    Calls Tryd.prog 39 #[.slice (some ⟨b, off, none⟩) n cap, .int .i64 (beg : Int)] w fun e w' => e = .returned (.int .i64 (qEnd l beg)) ∧ w = w' := by
  subst hn
  have HC := Lib.hid hc
  clear hc
  go_enter Tryd.func39, Tryd.ntmps39
  go_wp2_with fail
  go_loop [5] (fun v => ∃ i : Nat, beg + 1 ≤ i ∧ i ≤ l.length + 1 ∧ v = .int .i64 (i : Int) ∧ qe (l.drop (beg + 1)) = (qe (l.drop i)).map (· + (i - (beg + 1)))) (fun v => l.length + 2 - (intOf v).toNat)
  case atStart => exact ⟨beg + 1, Nat.le_refl _, by omega, by go_num, by simp⟩
  case round =>
    obtain ⟨i, hi1, hi2, rfl, hrel⟩ := hrel
    have HR := Lib.hid hrel
    clear hrel
    by_cases hlt : i < l.length
    · have hcell := HC.out i hlt
      by_cases h92 : l[i] = 92
      · have t1 := is92 h92
        have HR2 := Lib.hid (show qe (l.drop (beg + 1)) = (qe (l.drop (i + 2))).map (· + (i + 2 - (beg + 1))) from by
          rw [HR.out, qe_at_back l i hlt h92, map_add]; congr 2; funext x; omega)
        clear h92
        go_wp2_with fail
        go_round
        case rel => exact ⟨i + 2, by omega, by omega, by go_num, HR2.out⟩
        case measure => simp [intOf]; omega
      · have t1 := no92 h92
        by_cases h34 : l[i] = 34
        · have t2 := is34 h34
          have HV := Lib.hid (show qEnd l beg = (i : Int) from by
            rw [qEnd_some (m := i - beg) (by rw [HR.out, qe_at_end l i hlt h34]; simp; omega)]; omega)
          clear h92 h34
          go_wp2_with fail
          go_ret
          exact ⟨by rw [HV.out]; rfl, rfl⟩
        · have t2 := no34 h34
          have HR2 := Lib.hid (show qe (l.drop (beg + 1)) = (qe (l.drop (i + 1))).map (· + (i + 1 - (beg + 1))) from by
            rw [HR.out, qe_at_other l i hlt h34 h92, map_add]; congr 2; funext x; omega)
          clear h92 h34
          go_wp2_with fail
          go_round
          case rel => exact ⟨i + 1, by omega, by omega, by go_num, HR2.out⟩
          case measure => simp [intOf]; omega
    · have HV := Lib.hid (show qEnd l beg = -1 from by
        apply qEnd_none
        rw [HR.out, List.drop_eq_nil_of_le (by omega)]; rfl)
      go_wp2_with fail
      go_ret
      exact ⟨by rw [HV.out]; rfl, rfl⟩

/-- A text as the model has it. -/
def S (x : Bs) : Value := .string ⟨x.toArray⟩
/-- What the variables of token.Split hold: the text, the list so far, where the element begins. B: the block of the text's bytes. -/
structure Inv (w0 : World) (B : Nat) (l : Bs) (cap fr : Nat) (ls : List Bs) (C : Array Value) (w : World) : Prop where
  base : B = w0.heap.size
  text : w.heap[B]? = some (.cells C 5 (C.size, C.size + 1))
  bytes : ∀ j (hj : j < l.length), C[j]? = some (.int .u8 (l[j].toNat : Int))
  room : l.length ≤ cap
  vText : w.heap[B + 1]? = some (.cells #[.slice (some ⟨B, 0, none⟩) l.length cap] 62 (0, 0))
  vFrom : w.heap[B + 3]? = some (.cells #[.int .i64 (fr : Int)] 3 (0, 0))
  list : ∃ v, w.heap[B + 2]? = some (.cells #[v] 40 (0, 0)) ∧ w.ownsRow (B + 4) 9 1 v ls.length (ls.map S)
  few : ls.length ≤ fr
  below : Below B w0 w
theorem Inv.holds {w0 w : World} {B cap fr : Nat} {l : Bs} {ls : List Bs} {C : Array Value} (h : Inv w0 B l cap fr ls C w) : Holds w B 0 l := by
  intro j hj
  rw [Nat.zero_add]
  have : w.cell? ⟨B, j, none⟩ = C[j]? := by simp [World.cell?, h.text]
  rw [this, h.bytes j hj]
end Go.Proofs.YtledjiikpajdaaaDoor.Tk
