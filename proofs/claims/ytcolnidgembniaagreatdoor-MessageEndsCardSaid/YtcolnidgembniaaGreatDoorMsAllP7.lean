/-
  Texts that the laws' proofs stand on, 10 of them in one file; each one's head says what it proves and under which condition.
-/
import Derived.Test.YtcolnidgembniaaGreatDoorMsAllP6
import Derived.Test.YtcolnidgembniaaGreatDoorMsAllP5
import Derived.Test.YtcolnidgembniaaGreatDoorMsAllP3
import Derived.Test.YtcolnidgembniaaGreatDoorRows
import Derived.WalkKit
import Derived.WalkLawsBesides
import Derived.Outline
import Derived.Lib.Hide
import Derived.Shelf.LaysM
import Derived.Shelf.Strconv.Itoa3
import Derived.Test.YtcolnidgembniaaGreatDoorProg
import Derived.Laws.BytesArg
import Derived.Deep.QuietTactic
import Derived.BigQuiet
import Derived.Test.YtcolnidgembniaaGreatDoorMsAllP1
import Derived.Test.YtcolnidgembniaaGreatDoorMsAllP2
import Derived.Deep.RegionWith
import Derived.BigRegion
import Derived.OneCell
import Derived.Laws.Rows
/-
  One decoder of the program that is fed anew and anew, beside bytes that stay: what each call leaves. Conditions: the tables.
-/
namespace Go.Proofs.YtcolnidgembniaaGreatDoor.Fr
open Go.RowKit Go.Proofs.YtcolnidgembniaaGreatDoor.Tk Go.Proofs.YtcolnidgembniaaGreatDoor.Fd Go.Proofs.YtcolnidgembniaaGreatDoor.Hd
set_option linter.unusedVariables false

/-- A decoder: its memory was laid since w. -/
structure Lone (w : World) (g : Nat) (st : St) (O : Nat → Prop) (wr : World) : Prop where
  good : Good st
  bel : Below w.heap.size w wr
  dec : Dec wr O g st
  far : ∀ k, O k → w.heap.size ≤ k ∧ k < wr.heap.size
theorem Lone.below {w : World} {g : Nat} {st : St} {O : Nat → Prop} {wr w' : World} (t : Lone w g st O wr) (hb : Below wr.heap.size wr w') : Lone w g st O w' :=
  ⟨t.good, t.bel.trans (hb.mono t.bel.size), t.dec.below hb, fun k hk => ⟨(t.far k hk).1, Nat.lt_of_lt_of_le (t.far k hk).2 hb.size⟩⟩
theorem Lone.chg {w : World} {g : Nat} {st : St} {O O' : Nat → Prop} {wr w' : World} (t : Lone w g st O wr) (hc : Chg O' wr w') (hd : ∀ k, O k → ¬ O' k) (ho : ∀ k, O' k → w.heap.size ≤ k) : Lone w g st O w' :=
  ⟨t.good, t.bel.trans (hc.below ho t.bel.size), t.dec.kept hc hd, fun k hk => ⟨(t.far k hk).1, Nat.lt_of_lt_of_le (t.far k hk).2 hc.size⟩⟩
theorem lone_start {w x1 x2 : World} {g : Nat} {s : St} (hG : Good s) (hD : Dec x2 (fun k => x1.heap.size ≤ k) g s) (h1 : Below w.heap.size w x1) (h2 : Below x1.heap.size x1 x2) : Lone w g s (fun k => x1.heap.size ≤ k ∧ k < x2.heap.size) x2 := by
  have := h1.size
  exact ⟨hG, h1.trans (h2.mono h1.size), hD.bound, fun k hk => ⟨by omega, hk.2⟩⟩
/-- What a Feed leaves. -/
structure LoneFed (w : World) (g : Nat) (O : Nat → Prop) (wr : World) (ST : St) (out : Bs) (ov : Value) (O' : Nat → Prop) (y : World) : Prop where
  lone : Lone w g ST O' y
  own : Own y wr.heap.size ov out
  apart : ∀ k, O' k → ov.ownBlock ≠ some k
  from_ : ∀ k, O' k → O k ∨ wr.heap.size ≤ k
  chg : Chg O wr y
theorem lone_feed {w : World} {g : Nat} {st : St} {O : Nat → Prop} {wr : World} (t : Lone w g st O wr) (v : Value) (P : Bs) (hv : Byts wr v P) (hvo : 0 < P.length → ∀ j, v.ownBlock = some j → ¬ O j) (hl : P.length ≤ 1099511627775) (hT : Tab w) (hE : ErrV w) :
    Calls Tryz.prog 49 #[.pointer (some ⟨g, 0, none⟩), v] wr fun e y => ∃ a c O', e = .returned (.tuple #[.slice a (run st P).1.length c, .int .i64 ((run st P).2.1 : Nat), .bool (doneOf (run st P).2.2), .int .i64 (errOf (run st P).2.2 : Nat)]) ∧ LoneFed w g O wr (run st P).2.2 (run st P).1 (.slice a (run st P).1.length c) O' y := by
  have htl := hT.lt
  have hel := hE.lt
  have hb0 := t.bel.size
  refine (feed_any O g st v P wr t.dec t.good hv hvo (by omega) (hT.below t.bel (by omega)) (hE.below t.bel) (fun ho => by have := (t.far _ ho).1; omega) (fun ho => by have := (t.far _ ho).1; omega)).mono ?_
  rintro e y ⟨ov, rfl, h1, h2, h3, h4⟩
  obtain ⟨a, c, rfl⟩ := h1.shape
  have hs := h4.size
  refine ⟨a, c, _, rfl, ⟨good_run P t.good, t.bel.trans (h4.below (fun k hk => (t.far k hk).1) hb0), h3.bound, fun k hk => ⟨?_, hk.2⟩⟩, Own.row (base := wr.heap.size) ?_, fun k hk => hk.1.2, fun k hk => hk.1.1, h4⟩
  · rcases hk.1.1 with hx | hx
    · exact (t.far k hx).1
    · omega
  · exact ⟨h1.1, (by
      rcases h1.2 with hx | ⟨q, cap, cur, hv, _, hr⟩
      · exact .inl hx
      · exact .inr ⟨q, cap, cur, hv, h2 q (by rw [hv]; rfl), hr⟩)⟩
/-- Where the bytes stand that are fed one by one; beside them bytes that stay. -/
structure CutAt (w : World) (g : Nat) (s : St) (b : Bs) (ov : Value) (X : Bs) (k : Nat) (G : Bs) (gv : Value) (st : St) (O : Nat → Prop) (wr : World) : Prop where
  le : k ≤ b.length
  eq : run s b = (G ++ (run st (b.drop k)).1, k + (run st (b.drop k)).2.1, (run st (b.drop k)).2.2)
  accLe : G.length ≤ k
  lone : Lone w g st O wr
  out : Own wr w.heap.size ov X
  got : Own wr w.heap.size gv G
  outO : ∀ k, O k → ov.ownBlock ≠ some k
  gotO : ∀ k, O k → gv.ownBlock ≠ some k
  apart : ∀ k, ov.ownBlock = some k → gv.ownBlock ≠ some k
theorem CutAt.below {w : World} {g : Nat} {s : St} {b : Bs} {ov : Value} {X : Bs} {k : Nat} {G : Bs} {gv : Value} {st : St} {O : Nat → Prop} {wr w' : World} (t : CutAt w g s b ov X k G gv st O wr) (hb : Below wr.heap.size wr w') : CutAt w g s b ov X k G gv st O w' :=
  ⟨t.le, t.eq, t.accLe, t.lone.below hb, t.out.below hb, t.got.below hb, t.outO, t.gotO, t.apart⟩
theorem CutAt.ends {w : World} {g : Nat} {s : St} {b : Bs} {ov : Value} {X : Bs} {k : Nat} {G : Bs} {gv : Value} {st : St} {O : Nat → Prop} {wr : World} (t : CutAt w g s b ov X k G gv st O wr) (ho : over st = true ∨ k = b.length) : run s b = (G, k, st) := by
  rw [t.eq]
  rcases ho with ho | ho
  · rw [run_over ho]; simp
  · rw [ho, List.drop_length, run_nil]; simp
/-- A piece was fed: what it told is beside what was got. -/
structure CutMid (w : World) (g : Nat) (s : St) (b : Bs) (ov : Value) (X : Bs) (k : Nat) (G : Bs) (gv : Value) (st : St) (o : Bs) (nv : Value) (O : Nat → Prop) (wr : World) : Prop where
  le : k ≤ b.length
  eq : run s b = ((G ++ o) ++ (run st (b.drop k)).1, k + (run st (b.drop k)).2.1, (run st (b.drop k)).2.2)
  accLe : (G ++ o).length ≤ k
  lone : Lone w g st O wr
  out : Own wr w.heap.size ov X
  got : Own wr w.heap.size gv G
  new : Own wr w.heap.size nv o
  outO : ∀ k, O k → ov.ownBlock ≠ some k
  gotO : ∀ k, O k → gv.ownBlock ≠ some k
  apart : ∀ k, ov.ownBlock = some k → gv.ownBlock ≠ some k
theorem CutMid.next {w : World} {g : Nat} {s : St} {b : Bs} {ov : Value} {X : Bs} {k : Nat} {G : Bs} {gv : Value} {st : St} {o : Bs} {nv : Value} {O : Nat → Prop} {wr : World} (t : CutMid w g s b ov X k G gv st o nv O wr)
    {v' : Value} {w' : World} (h : AppPost w.heap.size gv G o wr v' w') : CutAt w g s b ov X k (G ++ o) v' st O w' := by
  obtain ⟨h1, h2, h3⟩ := h
  refine ⟨t.le, t.eq, t.accLe, t.lone.chg h2 (fun k hk e => t.gotO k hk e) (fun k hk => (t.got.lt k hk).1), t.out.chg h2 (fun k hk => t.apart k hk), h1, t.outO, fun k hk e => ?_, fun k hk e => ?_⟩
  · rcases h3 with h3 | h3
    · exact t.gotO k hk (h3 ▸ e)
    · rw [h3] at e; injection e with e; have := (t.lone.far k hk).2; omega
  · rcases h3 with h3 | h3
    · exact t.apart k hk (h3 ▸ e)
    · rw [h3] at e; injection e with e; have := (t.out.lt k hk).2; omega
/-- Nothing was told. -/
theorem CutMid.skip {w : World} {g : Nat} {s : St} {b : Bs} {ov : Value} {X : Bs} {k : Nat} {G : Bs} {gv : Value} {st : St} {nv : Value} {O : Nat → Prop} {wr : World} (t : CutMid w g s b ov X k G gv st [] nv O wr) : CutAt w g s b ov X k G gv st O wr :=
  ⟨t.le, by rw [t.eq]; simp, by have := t.accLe; simpa using this, t.lone, t.out, t.got, t.outO, t.gotO, t.apart⟩
theorem cut_start {w : World} {gx gy : Nat} {s : St} {b : Bs} {O P : Nat → Prop} {wr y : World} {ov : Value} {X : Bs} {ST : St} {O' : Nat → Prop} (t : Lone w gy s P wr) (h : LoneFed w gx O wr ST X ov O' y) (hx : Lone w gx s O wr) (hd : ∀ k, P k → ¬ O k) : CutAt w gy s b ov X 0 [] (.slice none 0 0) s P y :=
  ⟨Nat.zero_le _, by simp, Nat.le_refl _, t.chg h.chg hd (fun k hk => (hx.far k hk).1), h.own.mono t.bel.size, Own.nil _ _, fun k hk e => by have := (h.own.lt k e).1; have := (t.far k hk).2; omega, fun k hk e => (by cases e), fun k hk e => (by cases e)⟩
/-- The next piece is fed. -/
theorem cut_feed {w : World} {g : Nat} {s : St} {b : Bs} {ov : Value} {X : Bs} {k : Nat} {G : Bs} {gv : Value} {st : St} {O : Nat → Prop} {wr : World} (t : CutAt w g s b ov X k G gv st O wr) (d : Nat) (hd : k + d ≤ b.length)
    (v : Value) (P : Bs) (hP : P = (b.drop k).take d) (hv : Byts wr v P) (hvo : 0 < P.length → ∀ j, v.ownBlock = some j → ¬ O j) (hl : b.length ≤ 1099511627775) (hT : Tab w) (hE : ErrV w) :
    Calls Tryz.prog 49 #[.pointer (some ⟨g, 0, none⟩), v] wr fun e y => ∃ a c O', e = .returned (.tuple #[.slice a (run st P).1.length c, .int .i64 ((run st P).2.1 : Nat), .bool (doneOf (run st P).2.2), .int .i64 (errOf (run st P).2.2 : Nat)]) ∧
      CutMid w g s b ov X (k + (run st P).2.1) G gv (run st P).2.2 (run st P).1 (.slice a (run st P).1.length c) O' y ∧ (over (run st P).2.2 = false → (run st P).2.1 = d) := by
  have hPl : P.length = d := by rw [hP, List.length_take, List.length_drop]; omega
  refine (lone_feed t.lone v P hv hvo (by omega) hT hE).mono ?_
  rintro e y ⟨a, c, O', rfl, hF⟩
  have hle := run_le P st
  have hou := run_out P st
  have hac := t.accLe
  have hs := hF.chg.size
  have hsp : run st (b.drop k) = run st (P ++ (b.drop k).drop d) := by rw [hP, List.take_append_drop]
  rw [run_append] at hsp
  refine ⟨a, c, O', rfl, ⟨by omega, ?_, by rw [List.length_append]; omega, hF.lone, t.out.chg hF.chg (fun k hk hO => t.outO k hO hk), t.got.chg hF.chg (fun k hk hO => t.gotO k hO hk), hF.own.mono t.lone.bel.size, fun k hk e => ?_, fun k hk e => ?_, t.apart⟩, fun ho => by rw [run_all _ ho, hPl]⟩
  · rw [t.eq, hsp]
    by_cases ho : over (run st P).2.2 = true
    · rw [if_pos ho, run_over ho]; simp
    · rw [if_neg ho]
      rw [Bool.not_eq_true] at ho
      have ha := run_all _ ho
      rw [ha, hPl, List.drop_drop]
      simp only [List.append_assoc, Prod.mk.injEq, true_and, and_true]
      omega
  · rcases hF.from_ k hk with h | h
    · exact t.outO k h e
    · have := (t.out.lt k e).2; omega
  · rcases hF.from_ k hk with h | h
    · exact t.gotO k h e
    · have := (t.got.lt k e).2; omega
/-- One byte, by itself: at most one is told, and it is taken. -/
theorem run_one {st : St} (h : over st = false) (c : UInt8) : run st [c] = ((step st c).1, 1, (step st c).2) := by rw [run_cons h, run_nil]; simp
theorem made_err {k n : Int} (h : made k n = none) : madeErr k n ≠ 0 := by
  unfold made at h
  unfold madeErr
  split at h
  · rename_i h1
    split
    · omega
    · rename_i h2
      rw [if_pos (by omega)]
      omega
  · split at h <;> (try split at h) <;> (try split at h) <;> cases h
end Go.Proofs.YtcolnidgembniaaGreatDoor.Fr
/-
  message.readBody: what it returns. Conditions: at most 2^40 bytes; the tables.
-/
namespace Go.Proofs.YtcolnidgembniaaGreatDoor.Ms
open Go.RowKit Go.Proofs.YtcolnidgembniaaGreatDoor.Tk Go.Proofs.YtcolnidgembniaaGreatDoor.Fd Go.Proofs.YtcolnidgembniaaGreatDoor.Hd Go.Proofs.YtcolnidgembniaaGreatDoor.Fr
set_option linter.unusedVariables false

theorem results_quad {P : Program} {fn : Func} {p u v x : Tmp} {ty : TypeId} (h : fn.results = #[.cell p ty, .tmp u, .tmp v, .tmp x]) (tmps : Array Value) (w : World) (g : Nat) (t : TypeId) (cs : Array Value) (fr : Nat × Nat) (d : TypeDesc)
    (hp : tmps.getD p undef = .pointer (some ⟨g, 0, none⟩)) (hg : w.heap[g]? = some (.cells cs t fr))
    (hu : P.underlying ty = some d) (hd : (match d with | .struct _ | .array _ _ => true | _ => false) = true) (hi : (P.info? ty).map (·.size) = some cs.size) :
    (results fn tmps).run P w = .ok (.tuple #[.agg cs, tmps.getD u undef, tmps.getD v undef, tmps.getD x undef]) w := by
  have e : (results fn tmps).run P w = ((asAddr (tmps.getD p undef)).run P w).andThen fun a w₁ => ((loadVar ty a).run P w₁).andThen fun r w₂ => .ok (.tuple #[r, tmps.getD u undef, tmps.getD v undef, tmps.getD x undef]) w₂ := by
    simp [results, h, Sem.run_bind, Result.andThen]
  rw [e, hp]
  simp [asAddr, run_loadVar_row w g t ty cs fr d hg hu hd hi, Result.andThen]
/-- What a body's reading returns. -/
def BodyPost (V : Nat × Bs × Nat) (w : World) (e : Ending) (w' : World) : Prop :=
  ∃ a c, e = .returned (.tuple #[.slice a V.2.1.length c, .int .i64 (V.2.2 : Int), .int .i64 (V.1 : Int)]) ∧ Own w' w.heap.size (.slice a V.2.1.length c) V.2.1 ∧ Below w.heap.size w w'
theorem last_stays {fin : Bool} {st : Fr.St} (h : fin = false ∨ Fr.doneOf st = true ∨ Fr.errOf st ≠ 0) : lastOf fin st = st := by
  unfold lastOf
  rcases h with h | h | h
  · rw [h]; rfl
  · rw [h]; simp
  · have : (Fr.errOf st != 0) = true := by simp [h]
    rw [this]; simp
theorem last_closed {st : Fr.St} (h1 : Fr.doneOf st = false) (h2 : Fr.errOf st = 0) : lastOf true st = Fr.closed st := by
  unfold lastOf; rw [h1, h2]; rfl
theorem end_bad {st : Fr.St} (h : Fr.errOf st ≠ 0) : endErr st = Fr.errOf st := if_pos h
theorem end_done {st : Fr.St} (h : Fr.errOf st = 0) (hd : Fr.doneOf st = true) : endErr st = 0 := by unfold endErr; rw [if_neg (by omega), hd]; rfl
theorem end_more {st : Fr.St} (h : Fr.errOf st = 0) (hd : Fr.doneOf st = false) : endErr st = 11 := by unfold endErr; rw [if_neg (by omega), hd]; rfl
set_option maxRecDepth 100000 in
set_option maxHeartbeats 8000000 in
theorem readBody_any (k n er : Int) (v : Value) (b : Bs) (fin : Bool) (w : World) (hv : Byts w v b) (hbl : b.length ≤ 1099511627775) (hT : Tab w) (hE : ErrV w) :
    Calls Tryz.prog 33 #[.agg #[.int .i64 k, .int .i64 n, .int .i64 er], v, .bool fin] w (BodyPost (bodyOf k n b fin) w) := by
  obtain ⟨va, vc, hvs⟩ := hv.shape
  subst hvs
  obtain ⟨w1, hw1⟩ : ∃ w1, w1 = w.alloc (.cells #[.int .i64 k, .int .i64 n, .int .i64 er] 44) := ⟨_, rfl⟩
  have HW1 := Lib.hid hw1
  have hb1 : Below w.heap.size w w1 := by rw [hw1]; exact (Below.refl _ _).alloc (Nat.le_refl _) _
  have hs1 := hb1.size
  have hN1 : w1.heap[w.heap.size]? = some (.cells #[.int .i64 k, .int .i64 n, .int .i64 er] 44 (0, 0)) := by rw [hw1]; exact new_block _ _
  have k0 : w1.cell? ⟨w.heap.size, 0, none⟩ = some (.int .i64 k) := by rw [Lib.cell_of_heap hN1]; rfl
  have k1 : w1.cell? ⟨w.heap.size, 1, none⟩ = some (.int .i64 n) := by rw [Lib.cell_of_heap hN1]; rfl
  have HB1 := Lib.hid hb1
  have HV := Lib.hid hv
  have HT := Lib.hid hT
  have HE := Lib.hid hE
  have HVO := Lib.hid (fun (hp : 0 < b.length) => (show ∀ k, (Value.slice va b.length vc).ownBlock = some k → k < w.heap.size from fun k hk => by
    rcases HV.out with ⟨h0, _⟩ | ⟨B, off, cap, hv, _, _, hB, _⟩
    · rw [h0] at hp; simp at hp
    · rw [hv] at hk; injection hk with hk; have hk' : B = k := hk; omega))
  have hNew := fun x => Fr.new_any k n x
  unfold Fr.NewPost at hNew
  clear hw1 hN1 hb1 hv hT hE
  go_enter Tryz.func33, Tryz.ntmps33
  cases hm : made k n with
  | none =>
    have hme := made_err hm
    have hV := bodyOf_none hm b fin
    obtain ⟨ER, hER⟩ : ∃ ER, ER = madeErr k n := ⟨_, rfl⟩
    simp only [hm] at hNew
    rw [← hER] at hNew hme hV
    have HN := Lib.hid hNew
    have HVV := Lib.hid hV
    clear hNew hm hER hV
    have eE : ((ER : Int) != 0) = true := by simp; omega
    go_wp2_with fail
    rw [← HW1.out]
    refine (HN.out w1).mono ?_
    rintro e x1 ⟨rfl, rfl⟩
    go_wp2_with fail
    go_ret3
    rw [HVV.out]
    exact ⟨none, 0, rfl, Own.nil _ _, HB1.out⟩
  | some s0 =>
    have hV := bodyOf_some hm b fin
    simp only [hm] at hNew
    have HN := Lib.hid hNew
    have hG := good_made hm
    have HG := Lib.hid hG
    clear hNew hm
    go_wp2_with fail
    rw [← HW1.out]
    refine (HN.out w1).mono ?_
    rintro e x1 ⟨g, rfl, hD, h1⟩
    have HL := Lib.hid (lone_start HG.out hD HB1.out h1)
    have hFX := lone_feed HL.out (.slice va b.length vc) b (HV.out.below HL.out.bel (Nat.le_refl _)) (fun hp j hj hO => by have := HVO.out hp j hj; have := HB1.out.size; omega) hbl HT.out HE.out
    obtain ⟨X, N, S, hR⟩ : ∃ X N S, run s0 b = (X, N, S) := ⟨_, _, _, rfl⟩
    rw [hR] at hFX hV
    obtain ⟨D, hDD⟩ : ∃ D, D = doneOf S := ⟨_, rfl⟩
    obtain ⟨E, hEE⟩ : ∃ E, E = errOf S := ⟨_, rfl⟩
    obtain ⟨XL, hXL⟩ : ∃ XL, XL = X.length := ⟨_, rfl⟩
    simp only [← hDD, ← hEE, ← hXL] at hFX
    have HFX := Lib.hid hFX
    clear hFX hR hD h1 HN
    go_wp2_with fail
    refine HFX.out.mono ?_
    rintro e x2 ⟨oa, oc, O1, rfl, hF⟩
    have hsz1 := HL.out.bel.size
    have HBx := Lib.hid hF.lone.bel
    have HOw := Lib.hid (hF.own.mono hsz1)
    have HPost := Lib.hid (fun (x : World) (U : Nat) (hb : Below w.heap.size w x) (hown : Own x w.heap.size (.slice oa XL oc) X) (hU : endErr (lastOf fin S) = U) => (show BodyPost (bodyOf k n b fin) w (.returned (.tuple #[.slice oa XL oc, .int .i64 (N : Int), .int .i64 (U : Int)])) x from by
      rw [hV, hU]; exact ⟨oa, oc, by rw [hXL], by rw [← hXL]; exact hown, hb⟩))
    have HGS := Lib.hid hF.lone.good
    have HD2 := Lib.hid hF.lone.dec
    have HFar := Lib.hid hF.lone.far
    have HAp := Lib.hid hF.apart
    clear hF HFX hV hXL HL
    by_cases he : E = 0
    · subst he
      cases D with
      | true =>
        have hU := (congrArg endErr (last_stays (fin := fin) (.inr (.inl hDD.symm)))).trans (end_done hEE.symm hDD.symm)
        have HU := Lib.hid hU
        clear hDD hEE hU
        go_wp2_with fail
        go_ret3
        exact HPost.out _ _ HBx.out HOw.out HU.out
      | false =>
        cases fin with
        | false =>
          have hU := (congrArg endErr (last_stays (fin := false) (.inl rfl))).trans (end_more hEE.symm hDD.symm)
          have HU := Lib.hid hU
          clear hDD hEE hU
          go_wp2_with fail
          go_ret3
          exact HPost.out _ _ HBx.out HOw.out HU.out
        | true =>
          have hlc := congrArg endErr (last_closed hDD.symm hEE.symm)
          have hEnd := end_any O1 g S x2 HD2.out HGS.out
          unfold EndPost at hEnd
          obtain ⟨DC, hDC⟩ : ∃ DC, DC = doneOf (closed S) := ⟨_, rfl⟩
          obtain ⟨EC, hEC⟩ : ∃ EC, EC = errOf (closed S) := ⟨_, rfl⟩
          rw [← hDC, ← hEC] at hEnd
          have HEnd := Lib.hid hEnd
          have HLC := Lib.hid hlc
          have HDC := Lib.hid hDC
          have HEC := Lib.hid hEC
          clear hDD hEE hlc hEnd hDC hEC
          go_wp2_with fail
          refine HEnd.out.mono ?_
          rintro e x3 ⟨rfl, _, hC3⟩
          have hsx := HBx.out.size
          have HB3 := Lib.hid (HBx.out.trans (hC3.below (fun k hk => (HFar.out k hk).1) hsx))
          have HO3 := Lib.hid (HOw.out.chg hC3 (fun k hk hO => HAp.out k hO hk))
          clear hC3
          by_cases he : EC = 0
          · subst he
            cases DC with
            | true =>
              have HU := Lib.hid (HLC.out.trans (end_done HEC.out.symm HDC.out.symm))
              go_wp2_with fail
              go_ret3
              exact HPost.out _ _ HB3.out HO3.out HU.out
            | false =>
              have HU := Lib.hid (HLC.out.trans (end_more HEC.out.symm HDC.out.symm))
              go_wp2_with fail
              go_ret3
              exact HPost.out _ _ HB3.out HO3.out HU.out
          · have eE : ((EC : Int) == 0) = false := by rw [beq_eq_false_iff_ne]; omega
            have HU := Lib.hid (HLC.out.trans ((end_bad (by rw [← HEC.out]; exact he)).trans HEC.out.symm))
            go_wp2_with fail
            go_ret3
            exact HPost.out _ _ HB3.out HO3.out HU.out
    · have eE : ((E : Int) == 0) = false := by rw [beq_eq_false_iff_ne]; omega
      have hU := (congrArg endErr (last_stays (fin := fin) (.inr (.inr (by rw [← hEE]; exact he))))).trans ((end_bad (by rw [← hEE]; exact he)).trans hEE.symm)
      have HU := Lib.hid hU
      clear hDD hEE hU
      go_wp2_with fail
      go_ret3
      exact HPost.out _ _ HBx.out HOw.out HU.out
end Go.Proofs.YtcolnidgembniaaGreatDoor.Ms
/-
  A reader of the program in memory: its block, its line's and its fields' rows; what keeps them. No condition.
-/
namespace Go.Proofs.YtcolnidgembniaaGreatDoor.Hd
open Go.RowKit Go.Proofs.YtcolnidgembniaaGreatDoor.Tk Go.Proofs.YtcolnidgembniaaGreatDoor.Fd
set_option linter.unusedVariables false

def qA (resp : Bool) (q : Parts) : ByteArray := if resp then ⟨#[]⟩ else q.a
def qB (resp : Bool) (q : Parts) : ByteArray := if resp then ⟨#[]⟩ else q.b
def qM (resp : Bool) (q : Parts) : Int := if resp then 0 else q.m
def sM (resp : Bool) (q : Parts) : Int := if resp then q.m else 0
def sC (resp : Bool) (q : Parts) : Int := if resp then q.c else 0
def sA (resp : Bool) (q : Parts) : ByteArray := if resp then q.a else ⟨#[]⟩
/-- A reader's cells. -/
def rc (resp : Bool) (M : Nat) (F lv : Value) (n : Nat) (wh : Bool) (e : Nat) (rq : Bool) (q : Parts) (fv : Value) : Array Value :=
  #[.bool resp, .int .i64 (M : Int), F, lv, .int .i64 (n : Int), .bool wh, .int .i64 (e : Int), .string (qA rq q), .string (qB rq q), .int .i64 (qM rq q), .slice none 0 0,
    .int .i64 (sM rq q), .int .i64 (sC rq q), .string (sA rq q), .slice none 0 0, fv]
/-- What is done with a line that ended. -/
def fnOf (gb : Nat) : Option Parts → Value
  | none => .func (.func 41) #[] #[.pointer (some ⟨gb, 0, none⟩)]
  | some _ => .func (.func 42) #[] #[]
def firstFn (resp : Bool) : Value := .func (.func (if resp then 27 else 26)) #[] #[]
def IsFn (F : Value) : Prop := ∃ fn fi ca, F = .func fn fi ca
theorem fnOf_is (gb : Nat) (p : Option Parts) : IsFn (fnOf gb p) := by cases p <;> exact ⟨_, _, _, rfl⟩

/-- A reader that goes on. -/
structure On (w : World) (O : Nat → Prop) (resp : Bool) (g gb : Nat) (lv fv : Value) (p : Option Parts) (l : Bs) (n : Nat) (fs : List Fl) : Prop where
  blk : w.heap[g]? = some (.cells (rc resp (most p) (fnOf gb p) lv n false 0 resp (p.getD .none) fv) 76 (0, 0))
  box : w.heap[gb]? = some (.cells #[firstFn resp] 70 (0, 0))
  line : OwnB w lv l
  flds : OwnF w 0 fv fs
  og : O g
  ob : O gb
  ol : ∀ k, lv.ownBlock = some k → O k
  of : ∀ k, fv.ownBlock = some k → O k
def Rdr (w : World) (O : Nat → Prop) (resp : Bool) (g : Nat) : St → Prop
  | .on p l n fs => ∃ gb lv fv, On w O resp g gb lv fv p l n fs
  | .done q fs => ∃ M F lv n fv, IsFn F ∧ w.heap[g]? = some (.cells (rc resp M F lv n true 0 resp q fv) 76 (0, 0)) ∧ OwnF w 0 fv fs ∧ O g ∧ ∀ k, fv.ownBlock = some k → O k
  | .bad e => ∃ M F, IsFn F ∧ w.heap[g]? = some (.cells (rc false M F (.slice none 0 0) 0 false e false .none (.slice none 0 0)) 76 (0, 0)) ∧ O g

theorem Rdr.mono {w : World} {O O' : Nat → Prop} {resp : Bool} {g : Nat} {s : St} (h : Rdr w O resp g s) (hO : ∀ k, O k → O' k) : Rdr w O' resp g s := by
  cases s with
  | on p l n fs => obtain ⟨gb, lv, fv, h⟩ := h; exact ⟨gb, lv, fv, h.blk, h.box, h.line, h.flds, hO _ h.og, hO _ h.ob, fun k hk => hO _ (h.ol k hk), fun k hk => hO _ (h.of k hk)⟩
  | done q fs => obtain ⟨M, F, lv, n, fv, hF, hb, hf, hg, ho⟩ := h; exact ⟨M, F, lv, n, fv, hF, hb, hf, hO _ hg, fun k hk => hO _ (ho k hk)⟩
  | bad e => obtain ⟨M, F, hF, hb, hg⟩ := h; exact ⟨M, F, hF, hb, hO _ hg⟩
/-- What turns other blocks alone keeps a reader. -/
theorem Rdr.kept {w w' : World} {O O' : Nat → Prop} {resp : Bool} {g : Nat} {s : St} (h : Rdr w O resp g s) (hc : Chg O' w w') (hd : ∀ k, O k → ¬ O' k) : Rdr w' O resp g s := by
  cases s with
  | on p l n fs =>
    obtain ⟨gb, lv, fv, h⟩ := h
    exact ⟨gb, lv, fv, hc.old (hd _ h.og) h.blk, hc.old (hd _ h.ob) h.box, row_chg h.line hc h.ol hd, row_chg h.flds hc h.of hd, h.og, h.ob, h.ol, h.of⟩
  | done q fs => obtain ⟨M, F, lv, n, fv, hF, hb, hf, hg, ho⟩ := h; exact ⟨M, F, lv, n, fv, hF, hc.old (hd _ hg) hb, row_chg hf hc ho hd, hg, ho⟩
  | bad e => obtain ⟨M, F, hF, hb, hg⟩ := h; exact ⟨M, F, hF, hc.old (hd _ hg) hb, hg⟩
theorem Rdr.below {w w' : World} {O : Nat → Prop} {resp : Bool} {g : Nat} {s : St} (h : Rdr w O resp g s) (hb : Below w.heap.size w w') : Rdr w' O resp g s :=
  h.kept (O' := fun _ => False) (Chg.of_below hb) (fun _ _ hf => hf)
/-- A reader's blocks are there. -/
theorem Rdr.bound {w : World} {O : Nat → Prop} {resp : Bool} {g : Nat} {s : St} (h : Rdr w O resp g s) : Rdr w (fun k => O k ∧ k < w.heap.size) resp g s := by
  cases s with
  | on p l n fs =>
    obtain ⟨gb, lv, fv, h⟩ := h
    exact ⟨gb, lv, fv, h.blk, h.box, h.line, h.flds, ⟨h.og, block_lt h.blk⟩, ⟨h.ob, block_lt h.box⟩, fun k hk => ⟨h.ol k hk, (World.ownsRow.lt h.line k hk).2⟩, fun k hk => ⟨h.of k hk, (World.ownsRow.lt h.flds k hk).2⟩⟩
  | done q fs => obtain ⟨M, F, lv, n, fv, hF, hb, hf, hg, ho⟩ := h; exact ⟨M, F, lv, n, fv, hF, hb, hf, ⟨hg, block_lt hb⟩, fun k hk => ⟨ho k hk, (World.ownsRow.lt hf k hk).2⟩⟩
  | bad e => obtain ⟨M, F, hF, hb, hg⟩ := h; exact ⟨M, F, hF, hb, hg, block_lt hb⟩

/-! A reader's cells. -/
section
variable {w : World} {g : Nat} {resp : Bool} {M : Nat} {F lv : Value} {n : Nat} {wh : Bool} {e : Nat} {rq : Bool} {q : Parts} {fv : Value}
theorem rc0 (h : w.heap[g]? = some (.cells (rc resp M F lv n wh e rq q fv) 76 (0, 0))) : w.cell? ⟨g, 0, none⟩ = some (.bool resp) := by rw [Lib.cell_of_heap h]; rfl
theorem rc1 (h : w.heap[g]? = some (.cells (rc resp M F lv n wh e rq q fv) 76 (0, 0))) : w.cell? ⟨g, 1, none⟩ = some (.int .i64 (M : Int)) := by rw [Lib.cell_of_heap h]; rfl
theorem rc2 (h : w.heap[g]? = some (.cells (rc resp M F lv n wh e rq q fv) 76 (0, 0))) : w.cell? ⟨g, 2, none⟩ = some F := by rw [Lib.cell_of_heap h]; rfl
theorem rc3 (h : w.heap[g]? = some (.cells (rc resp M F lv n wh e rq q fv) 76 (0, 0))) : w.cell? ⟨g, 3, none⟩ = some lv := by rw [Lib.cell_of_heap h]; rfl
theorem rc4 (h : w.heap[g]? = some (.cells (rc resp M F lv n wh e rq q fv) 76 (0, 0))) : w.cell? ⟨g, 4, none⟩ = some (.int .i64 (n : Int)) := by rw [Lib.cell_of_heap h]; rfl
theorem rc5 (h : w.heap[g]? = some (.cells (rc resp M F lv n wh e rq q fv) 76 (0, 0))) : w.cell? ⟨g, 5, none⟩ = some (.bool wh) := by rw [Lib.cell_of_heap h]; rfl
theorem rc6 (h : w.heap[g]? = some (.cells (rc resp M F lv n wh e rq q fv) 76 (0, 0))) : w.cell? ⟨g, 6, none⟩ = some (.int .i64 (e : Int)) := by rw [Lib.cell_of_heap h]; rfl
theorem rc15 (h : w.heap[g]? = some (.cells (rc resp M F lv n wh e rq q fv) 76 (0, 0))) : w.cell? ⟨g, 15, none⟩ = some fv := by rw [Lib.cell_of_heap h]; rfl
theorem rc_put3 (h : w.heap[g]? = some (.cells (rc resp M F lv n wh e rq q fv) 76 (0, 0))) (lv' : Value) : (w.setCell ⟨g, 3, none⟩ lv').heap[g]? = some (.cells (rc resp M F lv' n wh e rq q fv) 76 (0, 0)) := heap_put h 3 lv'
theorem rc_put4 (h : w.heap[g]? = some (.cells (rc resp M F lv n wh e rq q fv) 76 (0, 0))) (m : Nat) : (w.setCell ⟨g, 4, none⟩ (.int .i64 (m : Int))).heap[g]? = some (.cells (rc resp M F lv m wh e rq q fv) 76 (0, 0)) := heap_put h 4 _
theorem rc_put5 (h : w.heap[g]? = some (.cells (rc resp M F lv n wh e rq q fv) 76 (0, 0))) (b : Bool) : (w.setCell ⟨g, 5, none⟩ (.bool b)).heap[g]? = some (.cells (rc resp M F lv n b e rq q fv) 76 (0, 0)) := heap_put h 5 _
theorem rc_put15 (h : w.heap[g]? = some (.cells (rc resp M F lv n wh e rq q fv) 76 (0, 0))) (fv' : Value) : (w.setCell ⟨g, 15, none⟩ fv').heap[g]? = some (.cells (rc resp M F lv n wh e rq q fv') 76 (0, 0)) := heap_put h 15 fv'
end
end Go.Proofs.YtcolnidgembniaaGreatDoor.Hd
/-
  line.isTarget and the reference's target: what each returns. Condition: a text of at most 2^47 bytes.
-/
namespace Go.Proofs.YtcolnidgembniaaGreatDoor.Ln
open Go.RowKit Go.Proofs.YtcolnidgembniaaGreatDoor.Tk

set_option maxHeartbeats 1000000 in
theorem isTarget_any (s : ByteArray) (w : World) (hs : s.size ≤ maxLen) :
    Calls Tryz.prog 62 #[.string s] w fun e w' => e = .returned (.bool (isTgt s.data.toList)) ∧ w = w' := by
  unfold maxLen at hs
  go_enter Tryz.func62, Tryz.ntmps62
  go_wp2_with fail
  go_loop [6] (fun i => ∃ k : Nat, k ≤ s.size ∧ i = .int .i64 (k : Int) ∧ (s.data.toList.take k).all tg = true) (fun i => s.size - (intOf i).toNat)
  case atStart => exact ⟨0, Nat.zero_le _, rfl, rfl⟩
  case round =>
    obtain ⟨k, hk, rfl, hal⟩ := hrel
    have HAL := Lib.hid hal
    clear hal
    by_cases hlt : k < s.size
    · cases ht : tg s[k] with
      | true =>
        have HA := Lib.hid (show (s.data.toList.take (k + 1)).all tg = true from by rw [all_snoc tg s k hlt, HAL.out, ht]; rfl)
        obtain ⟨t1, t2⟩ := tg_yes ht
        clear ht
        go_wp2_with fail
        go_round
        case rel => exact ⟨k + 1, by omega, by go_num, HA.out⟩
        case measure => simp [intOf]; omega
      | false =>
        have HN := Lib.hid (isTgt_no s k hlt ht)
        rcases tg_no ht with t | ⟨t1, t2⟩
        all_goals
          clear ht
          go_wp2_with fail
          go_ret
          exact ⟨by rw [HN.out]; rfl, rfl⟩
    · by_cases h0 : s.size = 0
      · have he := text_empty h0
        have HN := Lib.hid (isTgt_nil h0)
        clear h0
        go_wp2_with fail
        go_ret
        exact ⟨by rw [HN.out]; rfl, rfl⟩
      · obtain rfl : k = s.size := by omega
        have he := text_full (s := s) (by omega)
        have HY := Lib.hid (isTgt_yes (by omega) HAL.out)
        clear h0
        go_wp2_with fail
        go_ret
        exact ⟨by rw [HY.out]; rfl, rfl⟩

set_option maxHeartbeats 1000000 in
theorem refTarget_any (s : ByteArray) (w : World) (hs : s.size ≤ maxLen) :
    Calls Tryz.prog 93 #[.string s] w fun e w' => e = .returned (.bool (isTgt s.data.toList)) ∧ w = w' := by
  unfold maxLen at hs
  go_enter Tryz.func93, Tryz.ntmps93
  go_wp2_with fail
  go_loop [3] (fun i => ∃ k : Nat, k ≤ s.size ∧ i = .int .i64 (k : Int) ∧ (s.data.toList.take k).all tg = true) (fun i => s.size - (intOf i).toNat)
  case atStart => exact ⟨0, Nat.zero_le _, rfl, rfl⟩
  case round =>
    obtain ⟨k, hk, rfl, hal⟩ := hrel
    have HAL := Lib.hid hal
    clear hal
    by_cases hlt : k < s.size
    · cases ht : tg s[k] with
      | true =>
        have HA := Lib.hid (show (s.data.toList.take (k + 1)).all tg = true from by rw [all_snoc tg s k hlt, HAL.out, ht]; rfl)
        obtain ⟨t1, t2⟩ := tg_yes ht
        clear ht
        go_wp2_with fail
        go_round
        case rel => exact ⟨k + 1, by omega, by go_num, HA.out⟩
        case measure => simp [intOf]; omega
      | false =>
        have HN := Lib.hid (isTgt_no s k hlt ht)
        rcases tg_no ht with t | ⟨t1, t2⟩
        all_goals
          clear ht
          go_wp2_with fail
          go_ret
          exact ⟨by rw [HN.out]; rfl, rfl⟩
    · by_cases h0 : s.size = 0
      · have HN := Lib.hid (isTgt_nil h0)
        have hd : decide (0 < s.size) = false := by rw [decide_eq_false_iff_not]; omega
        clear h0
        go_wp2_with fail
        go_ret
        exact ⟨by rw [HN.out]; rfl, rfl⟩
      · obtain rfl : k = s.size := by omega
        have HY := Lib.hid (isTgt_yes (by omega) HAL.out)
        have hd : decide (0 < s.size) = true := by rw [decide_eq_true_iff]; omega
        clear h0
        go_wp2_with fail
        go_ret
        exact ⟨by rw [HY.out]; rfl, rfl⟩
end Go.Proofs.YtcolnidgembniaaGreatDoor.Ln
/-
  line.isMinor, isCode, isReason and the reference's reason and version: what each returns. Condition: a text of at most 2^47 bytes.
-/
namespace Go.Proofs.YtcolnidgembniaaGreatDoor.Ln
open Go.RowKit Go.Proofs.YtcolnidgembniaaGreatDoor.Tk

theorem isMinor_any (n : Int) (w : World) :
    Calls Tryz.prog 63 #[.int .i64 n] w fun e w' => e = .returned (.bool (isMin n)) ∧ w = w' := by
  by_cases h0 : n = 0
  · subst h0
    go_enter Tryz.func63, Tryz.ntmps63
    go_wp2_with fail
    go_ret
    exact ⟨rfl, rfl⟩
  · by_cases h1 : n = 1
    · subst h1
      go_enter Tryz.func63, Tryz.ntmps63
      go_wp2_with fail
      go_ret
      exact ⟨rfl, rfl⟩
    · have t0 : (n == 0) = false := beq_eq_false_iff_ne.2 h0
      have t1 : (n == 1) = false := beq_eq_false_iff_ne.2 h1
      have HV := Lib.hid (show isMin n = false from by unfold isMin; rw [t0, t1]; rfl)
      clear h0 h1
      go_enter Tryz.func63, Tryz.ntmps63
      go_wp2_with fail
      go_ret
      exact ⟨by rw [HV.out]; rfl, rfl⟩

theorem isCode_any (n : Int) (w : World) :
    Calls Tryz.prog 67 #[.int .i64 n] w fun e w' => e = .returned (.bool (isCod n)) ∧ w = w' := by
  by_cases h0 : 100 ≤ n
  · by_cases h1 : n ≤ 599
    · have HV := Lib.hid (show isCod n = true from by simp [isCod, h0, h1])
      go_enter Tryz.func67, Tryz.ntmps67
      go_wp2_with fail
      go_ret
      exact ⟨by rw [HV.out]; rfl, rfl⟩
    · have HV := Lib.hid (show isCod n = false from by simp [isCod, h0, h1])
      have t1 : decide (n ≤ 599) = false := by simpa using h1
      go_enter Tryz.func67, Tryz.ntmps67
      go_wp2_with fail
      go_ret
      exact ⟨by rw [HV.out]; rfl, rfl⟩
  · have HV := Lib.hid (show isCod n = false from by simp [isCod, h0])
    go_enter Tryz.func67, Tryz.ntmps67
    go_wp2_with fail
    go_ret
    exact ⟨by rw [HV.out]; rfl, rfl⟩

theorem ne9 {c : UInt8} (h : (c.toNat : Int) ≠ 9) : ((c.toNat : Int) != 9) = true := by rw [bne_iff_ne]; exact h
theorem ne127 {c : UInt8} (h : (c.toNat : Int) ≠ 127) : ((c.toNat : Int) == 127) = false := beq_eq_false_iff_ne.2 h

set_option maxHeartbeats 1000000 in
theorem isReason_any (s : ByteArray) (w : World) (hs : s.size ≤ maxLen) :
    Calls Tryz.prog 68 #[.string s] w fun e w' => e = .returned (.bool (isRsn s.data.toList)) ∧ w = w' := by
  unfold maxLen at hs
  go_enter Tryz.func68, Tryz.ntmps68
  go_wp2_with fail
  go_loop [6] (fun i => ∃ k : Nat, k ≤ s.size ∧ i = .int .i64 (k : Int) ∧ (s.data.toList.take k).all rs = true) (fun i => s.size - (intOf i).toNat)
  case atStart => exact ⟨0, Nat.zero_le _, rfl, rfl⟩
  case round =>
    obtain ⟨k, hk, rfl, hal⟩ := hrel
    have HAL := Lib.hid hal
    clear hal
    by_cases hlt : k < s.size
    · cases ht : rs s[k] with
      | true =>
        have HA := Lib.hid (show (s.data.toList.take (k + 1)).all rs = true from by rw [all_snoc rs s k hlt, HAL.out, ht]; rfl)
        rcases rs_yes ht with h | ⟨h1, h2⟩
        · have t1 : (s[k].toNat : Int) < 32 := by omega
          have t2 : ((s[k].toNat : Int) != 9) = false := by rw [h]; rfl
          have t3 := ne127 (c := s[k]) (by omega)
          clear ht h
          go_wp2_with fail
          go_round
          case rel => exact ⟨k + 1, by omega, by go_num, HA.out⟩
          case measure => simp [intOf]; omega
        · have t3 := ne127 (c := s[k]) h2
          clear ht h2
          go_wp2_with fail
          go_round
          case rel => exact ⟨k + 1, by omega, by go_num, HA.out⟩
          case measure => simp [intOf]; omega
      | false =>
        have HN := Lib.hid (isRsn_no s k hlt ht)
        rcases rs_no ht with ⟨h1, h2⟩ | h
        · have t2 := ne9 (c := s[k]) h2
          clear ht h2
          go_wp2_with fail
          go_ret
          exact ⟨by rw [HN.out]; rfl, rfl⟩
        · have t1 : (32 : Int) ≤ (s[k].toNat : Int) := by omega
          have t2 : ((s[k].toNat : Int) == 127) = true := by rw [h]; rfl
          clear ht h
          go_wp2_with fail
          go_ret
          exact ⟨by rw [HN.out]; rfl, rfl⟩
    · obtain rfl : k = s.size := by omega
      have HY := Lib.hid (isRsn_yes HAL.out)
      go_wp2_with fail
      go_ret
      exact ⟨by rw [HY.out]; rfl, rfl⟩

set_option maxHeartbeats 1000000 in
theorem refReason_any (s : ByteArray) (w : World) (hs : s.size ≤ maxLen) :
    Calls Tryz.prog 91 #[.string s] w fun e w' => e = .returned (.bool (isRsn s.data.toList)) ∧ w = w' := by
  unfold maxLen at hs
  go_enter Tryz.func91, Tryz.ntmps91
  go_wp2_with fail
  go_loop [3] (fun i => ∃ k : Nat, k ≤ s.size ∧ i = .int .i64 (k : Int) ∧ (s.data.toList.take k).all rs = true) (fun i => s.size - (intOf i).toNat)
  case atStart => exact ⟨0, Nat.zero_le _, rfl, rfl⟩
  case round =>
    obtain ⟨k, hk, rfl, hal⟩ := hrel
    have HAL := Lib.hid hal
    clear hal
    by_cases hlt : k < s.size
    · cases ht : rs s[k] with
      | true =>
        have HA := Lib.hid (show (s.data.toList.take (k + 1)).all rs = true from by rw [all_snoc rs s k hlt, HAL.out, ht]; rfl)
        rcases rs_yes ht with h | ⟨h1, h2⟩
        · have t2 : ((s[k].toNat : Int) != 9) = false := by rw [h]; rfl
          have t3 := ne127 (c := s[k]) (by omega)
          clear ht h
          go_wp2_with fail
          go_round
          case rel => exact ⟨k + 1, by omega, by go_num, HA.out⟩
          case measure => simp [intOf]; omega
        · have t2 := ne9 (c := s[k]) (by omega)
          have t3 := ne127 (c := s[k]) h2
          clear ht h2
          go_wp2_with fail
          go_round
          case rel => exact ⟨k + 1, by omega, by go_num, HA.out⟩
          case measure => simp [intOf]; omega
      | false =>
        have HN := Lib.hid (isRsn_no s k hlt ht)
        rcases rs_no ht with ⟨h1, h2⟩ | h
        · have t2 := ne9 (c := s[k]) h2
          clear ht h2
          go_wp2_with fail
          go_ret
          exact ⟨by rw [HN.out]; rfl, rfl⟩
        · have t1 : (32 : Int) ≤ (s[k].toNat : Int) := by omega
          have t0 := ne9 (c := s[k]) (by omega)
          have t2 : ((s[k].toNat : Int) == 127) = true := by rw [h]; rfl
          clear ht h
          go_wp2_with fail
          go_ret
          exact ⟨by rw [HN.out]; rfl, rfl⟩
    · obtain rfl : k = s.size := by omega
      have HY := Lib.hid (isRsn_yes HAL.out)
      go_wp2_with fail
      go_ret
      exact ⟨by rw [HY.out]; rfl, rfl⟩

theorem text_is {s : ByteArray} {l : Bs} (h : s.data.toList = l) : (s.toList == l) = true := by rw [ByteArray.toList_eq, h]; simp
theorem text_not {s : ByteArray} {l : Bs} (h : s.data.toList ≠ l) : (s.toList == l) = false := by rw [ByteArray.toList_eq, beq_eq_false_iff_ne]; exact h

theorem refVersion_any (s : ByteArray) (w : World) :
    Calls Tryz.prog 89 #[.string s] w fun e w' => e = .returned (.int .i64 (minorOf s.data.toList)) ∧ w = w' := by
  by_cases h0 : s.data.toList = [72, 84, 84, 80, 47, 49, 46, 48]
  · have t0 := text_is h0
    have HV := Lib.hid (show minorOf s.data.toList = 0 from by unfold minorOf ver0 ver1; rw [if_pos h0])
    clear h0
    go_enter Tryz.func89, Tryz.ntmps89
    go_wp2_with fail
    go_ret
    exact ⟨by rw [HV.out]; rfl, rfl⟩
  · have t0 := text_not h0
    by_cases h1 : s.data.toList = [72, 84, 84, 80, 47, 49, 46, 49]
    · have t1 := text_is h1
      have HV := Lib.hid (show minorOf s.data.toList = 1 from by unfold minorOf ver0 ver1; rw [if_neg h0, if_pos h1])
      clear h0 h1
      go_enter Tryz.func89, Tryz.ntmps89
      go_wp2_with fail
      go_ret
      exact ⟨by rw [HV.out]; rfl, rfl⟩
    · have t1 := text_not h1
      have HV := Lib.hid (show minorOf s.data.toList = -1 from by unfold minorOf ver0 ver1; rw [if_neg h0, if_neg h1])
      clear h0 h1
      go_enter Tryz.func89, Tryz.ntmps89
      go_wp2_with fail
      go_ret
      exact ⟨by rw [HV.out]; rfl, rfl⟩
end Go.Proofs.YtcolnidgembniaaGreatDoor.Ln
/-
  The library contracts of strconv.Itoa, at this translation: each one application. No condition but what each states.
-/
namespace Go.Proofs.YtcolnidgembniaaGreatDoor.Ln
open Go.Shelf Go.RowKit
def laysM171_ren : Go.Shelf.Ren := ⟨fun | 171 => 120 | 243 => 130 | 246 => 135 | 283 => 143 | 284 => 144 | 285 => 145 | 286 => 146 | 129 => 156 | 317 => 155 | 318 => 157 | 319 => 158 | 320 => 159 | 337 => 169 | 338 => 170 | n => n, fun | 3 => 3 | 9 => 9 | 2 => 2 | 4 => 4 | 171 => 186 | 0 => 0 | 53 => 176 | 37 => 22 | 5 => 5 | 173 => 189 | 212 => 203 | 51 => 191 | 20 => 20 | 213 => 204 | 46 => 182 | 232 => 218 | 233 => 219 | n => n, fun | 17 => 2 | 18 => 5 | 19 => 6 | n => n⟩
theorem laysM171 : Go.Proofs.LaysM.n171 Tryz.prog laysM171_ren := {
  mixed := by kernel_rfl
  f129 := Tryz.func156.trans (congrArg some (by kernel_rfl))
  f171 := Tryz.func120.trans (congrArg some (by kernel_rfl))
  f243 := Tryz.func130.trans (congrArg some (by kernel_rfl))
  f246 := Tryz.func135.trans (congrArg some (by kernel_rfl))
  f283 := Tryz.func143.trans (congrArg some (by kernel_rfl))
  f284 := Tryz.func144.trans (congrArg some (by kernel_rfl))
  f285 := Tryz.func145.trans (congrArg some (by kernel_rfl))
  f286 := Tryz.func146.trans (congrArg some (by kernel_rfl))
  f317 := Tryz.func155.trans (congrArg some (by kernel_rfl))
  f318 := Tryz.func157.trans (congrArg some (by kernel_rfl))
  f319 := Tryz.func158.trans (congrArg some (by kernel_rfl))
  f320 := Tryz.func159.trans (congrArg some (by kernel_rfl))
  f337 := Tryz.func169.trans (congrArg some (by kernel_rfl))
  f338 := Tryz.func170.trans (congrArg some (by kernel_rfl))
  t0 := Tryz.underlying0
  a0 := Tryz.isAgg0
  z0 := Tryz.sizeOf0
  v0 := Tryz.zeroValue0
  t2 := Tryz.underlying2
  a2 := Tryz.isAgg2
  z2 := Tryz.sizeOf2
  v2 := Tryz.zeroValue2
  t3 := Tryz.underlying3
  a3 := Tryz.isAgg3
  z3 := Tryz.sizeOf3
  v3 := Tryz.zeroValue3
  t4 := Tryz.underlying4
  a4 := Tryz.isAgg4
  z4 := Tryz.sizeOf4
  v4 := Tryz.zeroValue4
  t5 := Tryz.underlying5
  a5 := Tryz.isAgg5
  z5 := Tryz.sizeOf5
  v5 := Tryz.zeroValue5
  t9 := Tryz.underlying9
  a9 := Tryz.isAgg9
  z9 := Tryz.sizeOf9
  v9 := Tryz.zeroValue9
  t20 := Tryz.underlying20
  a20 := Tryz.isAgg20
  z20 := Tryz.sizeOf20
  v20 := Tryz.zeroValue20
  t37 := Tryz.underlying22
  a37 := Tryz.isAgg22
  z37 := Tryz.sizeOf22
  v37 := Tryz.zeroValue22
  t46 := Tryz.underlying182
  a46 := Tryz.isAgg182
  z46 := Tryz.sizeOf182
  v46 := Tryz.zeroValue182
  t51 := Tryz.underlying191
  a51 := Tryz.isAgg191
  z51 := Tryz.sizeOf191
  v51 := Tryz.zeroValue191
  t53 := Tryz.underlying176
  a53 := Tryz.isAgg176
  z53 := Tryz.sizeOf176
  v53 := Tryz.zeroValue176
  t171 := Tryz.underlying186
  a171 := Tryz.isAgg186
  z171 := Tryz.sizeOf186
  v171 := Tryz.zeroValue186
  t173 := Tryz.underlying189
  a173 := Tryz.isAgg189
  z173 := Tryz.sizeOf189
  v173 := Tryz.zeroValue189
  t212 := Tryz.underlying203
  a212 := Tryz.isAgg203
  z212 := Tryz.sizeOf203
  v212 := Tryz.zeroValue203
  t213 := Tryz.underlying204
  a213 := Tryz.isAgg204
  z213 := Tryz.sizeOf204
  t232 := Tryz.underlying218
  a232 := Tryz.isAgg218
  z232 := Tryz.sizeOf218
  v232 := Tryz.zeroValue218
  t233 := Tryz.underlying219
  a233 := Tryz.isAgg219
  z233 := Tryz.sizeOf219
  v233 := Tryz.zeroValue219
  g17 := by kernel_rfl
  g18 := by kernel_rfl
  g19 := by kernel_rfl
  i0 := by kernel_rfl
  i2 := by kernel_rfl
  i3 := by kernel_rfl
  i4 := by kernel_rfl
  i5 := by kernel_rfl
  i9 := by kernel_rfl
  i20 := by kernel_rfl
  i37 := by kernel_rfl
  i46 := by kernel_rfl
  i51 := by kernel_rfl
  i53 := by kernel_rfl
  i171 := by kernel_rfl
  i173 := by kernel_rfl
  i212 := by kernel_rfl
  i232 := by kernel_rfl
  i233 := by kernel_rfl
  m17 := by kernel_rfl
  m18 := by kernel_rfl
  m19 := by kernel_rfl }
open Go.RowKit Go.Sort Go.Lib in
theorem strconv_Itoa (n : Int) (h0 : -9223372036854775808 ≤ n) (h1 : n ≤ 9223372036854775807) (w : World) (htab : Lib.TabIs Tryz.prog w "internal/strconv.uint64pow10" .u64 Lib.pow10Tab) :
    Calls Tryz.prog 120 #[.int .i64 n] w fun e w' => e = .returned (.string ⟨(Lib.itoa n).toArray⟩) ∧ ∃ k os, w' = grow (w.drewN k) os := Any.strconv_Itoa laysM171 n h0 h1 w htab
def lays171_ren : Go.Shelf.Ren := ⟨fun | 171 => 120 | 243 => 130 | 246 => 135 | 283 => 143 | 284 => 144 | 285 => 145 | 286 => 146 | 129 => 156 | 317 => 155 | 318 => 157 | 319 => 158 | 320 => 159 | 337 => 169 | 338 => 170 | n => n, fun | 3 => 3 | 9 => 9 | 2 => 2 | 4 => 4 | 171 => 186 | 0 => 0 | 53 => 176 | 37 => 22 | 5 => 5 | 173 => 189 | 212 => 203 | 51 => 191 | 20 => 20 | 213 => 204 | 46 => 182 | 232 => 218 | 233 => 219 | n => n, fun | 17 => 2 | 18 => 5 | 19 => 6 | n => n⟩
theorem lays171 : Go.Proofs.Lays.n171 Tryz.prog lays171_ren := {
  mixed := by kernel_rfl
  f129 := Tryz.func156.trans (congrArg some (by kernel_rfl))
  f171 := Tryz.func120.trans (congrArg some (by kernel_rfl))
  f243 := Tryz.func130.trans (congrArg some (by kernel_rfl))
  f246 := Tryz.func135.trans (congrArg some (by kernel_rfl))
  f283 := Tryz.func143.trans (congrArg some (by kernel_rfl))
  f284 := Tryz.func144.trans (congrArg some (by kernel_rfl))
  f285 := Tryz.func145.trans (congrArg some (by kernel_rfl))
  f286 := Tryz.func146.trans (congrArg some (by kernel_rfl))
  f317 := Tryz.func155.trans (congrArg some (by kernel_rfl))
  f318 := Tryz.func157.trans (congrArg some (by kernel_rfl))
  f319 := Tryz.func158.trans (congrArg some (by kernel_rfl))
  f320 := Tryz.func159.trans (congrArg some (by kernel_rfl))
  f337 := Tryz.func169.trans (congrArg some (by kernel_rfl))
  f338 := Tryz.func170.trans (congrArg some (by kernel_rfl))
  t0 := Tryz.underlying0
  a0 := Tryz.isAgg0
  z0 := Tryz.sizeOf0
  v0 := Tryz.zeroValue0
  t2 := Tryz.underlying2
  a2 := Tryz.isAgg2
  z2 := Tryz.sizeOf2
  v2 := Tryz.zeroValue2
  t3 := Tryz.underlying3
  a3 := Tryz.isAgg3
  z3 := Tryz.sizeOf3
  v3 := Tryz.zeroValue3
  t4 := Tryz.underlying4
  a4 := Tryz.isAgg4
  z4 := Tryz.sizeOf4
  v4 := Tryz.zeroValue4
  t5 := Tryz.underlying5
  a5 := Tryz.isAgg5
  z5 := Tryz.sizeOf5
  v5 := Tryz.zeroValue5
  t9 := Tryz.underlying9
  a9 := Tryz.isAgg9
  z9 := Tryz.sizeOf9
  v9 := Tryz.zeroValue9
  t20 := Tryz.underlying20
  a20 := Tryz.isAgg20
  z20 := Tryz.sizeOf20
  v20 := Tryz.zeroValue20
  t37 := Tryz.underlying22
  a37 := Tryz.isAgg22
  z37 := Tryz.sizeOf22
  v37 := Tryz.zeroValue22
  t46 := Tryz.underlying182
  a46 := Tryz.isAgg182
  z46 := Tryz.sizeOf182
  v46 := Tryz.zeroValue182
  t51 := Tryz.underlying191
  a51 := Tryz.isAgg191
  z51 := Tryz.sizeOf191
  v51 := Tryz.zeroValue191
  t53 := Tryz.underlying176
  a53 := Tryz.isAgg176
  z53 := Tryz.sizeOf176
  v53 := Tryz.zeroValue176
  t171 := Tryz.underlying186
  a171 := Tryz.isAgg186
  z171 := Tryz.sizeOf186
  v171 := Tryz.zeroValue186
  t173 := Tryz.underlying189
  a173 := Tryz.isAgg189
  z173 := Tryz.sizeOf189
  v173 := Tryz.zeroValue189
  t212 := Tryz.underlying203
  a212 := Tryz.isAgg203
  z212 := Tryz.sizeOf203
  v212 := Tryz.zeroValue203
  t213 := Tryz.underlying204
  a213 := Tryz.isAgg204
  z213 := Tryz.sizeOf204
  t232 := Tryz.underlying218
  a232 := Tryz.isAgg218
  z232 := Tryz.sizeOf218
  v232 := Tryz.zeroValue218
  t233 := Tryz.underlying219
  a233 := Tryz.isAgg219
  z233 := Tryz.sizeOf219
  v233 := Tryz.zeroValue219
  g17 := by kernel_rfl
  g18 := by kernel_rfl
  g19 := by kernel_rfl }
open Go.RowKit Go.Sort Go.Lib in
theorem strconv_Itoa_small (i : Nat) (hi : i < 100) (w : World) :
    Calls Tryz.prog 120 #[.int .i64 i] w fun e w' => e = .returned (.string ⟨(Lib.decDigits i).toArray⟩) ∧ w' = w := Any.strconv_Itoa_small lays171 i hi w
end Go.Proofs.YtcolnidgembniaaGreatDoor.Ln
/-
  line.cut, line.readMinor and line.readCode: what each returns. Conditions: at most 1024 bytes.
-/
namespace Go.Proofs.YtcolnidgembniaaGreatDoor.Ln
open Go.RowKit Go.Proofs.YtcolnidgembniaaGreatDoor.Tk

/-- The cells of block b from off on hold these bytes. -/
def Holds (w : World) (b off : Nat) (l : Bs) : Prop := ∀ j (hj : j < l.length), w.cell? ⟨b, off + j, none⟩ = some (.int .u8 (l[j].toNat : Int))
theorem Holds.part {w : World} {b off : Nat} {l : Bs} (h : Holds w b off l) (k m : Nat) (hm : m ≤ l.length) : Holds w b (off + k) ((l.take m).drop k) := by
  intro j hj
  have hj' := hj
  rw [part_length l k m hm] at hj'
  rw [part_get l k m j hm hj, Nat.add_assoc]
  exact h (k + j) (by omega)
theorem Holds.none (w : World) (b off : Nat) {l : Bs} (h : l.length = 0) : Holds w b off l := fun _ hj => by omega
theorem Holds.fst {w : World} {b off : Nat} {l : Bs} (h : Holds w b off l) : Holds w b off (fst l) := by
  have := h.part 0 (idx l) (idx_le l)
  simpa [Ln.fst] using this
theorem Holds.rst {w : World} {b off : Nat} {l : Bs} (h : Holds w b off l) : Holds w b (off + (idx l + 1)) (rst l) := by
  have := h.part (idx l + 1) l.length (Nat.le_refl _)
  simpa [Ln.rst] using this
/-- A slice that reads as these bytes, in a block from lo on. -/
def SB (lo : Nat) (w : World) (v : Value) (l : Bs) : Prop := (∃ b off cap, v = .slice (some ⟨b, off, none⟩) l.length cap ∧ l.length ≤ cap ∧ Holds w b off l ∧ lo ≤ b) ∨ (v = .slice none 0 0 ∧ l = [])
theorem SB.drawn {lo : Nat} {w : World} {v : Value} {l : Bs} (h : SB lo w v l) (n : Nat) : SB lo (w.drewN n) v l := h

theorem bytesOf_map (l : Bs) : Lib.bytesOf (l.map fun c => (c.toNat : Int)) = l := by
  induction l with
  | nil => rfl
  | cons c r ih => simp [Lib.bytesOf] at ih ⊢; exact ih
theorem index_any (b off cap : Nat) (l : Bs) (w : World) (h : Holds w b off l) :
    Calls Tryz.prog 77 #[.slice (some ⟨b, off, none⟩) l.length cap, .int .u8 32] w fun e w' => e = .returned (.int .i64 (Lib.indexByte l 32)) ∧ w = w' := by
  refine (bytes_IndexByte b off l.length cap (l.map fun c => (c.toNat : Int)) 32 w (by simp) ?_).mono ?_
  · intro i hi
    rw [h i hi]
    simp [hi]
  · rintro e w' ⟨rfl, rfl⟩
    rw [bytesOf_map]
    exact ⟨rfl, rfl⟩
theorem index_nil (w : World) :
    Calls Tryz.prog 77 #[.slice none 0 0, .int .u8 32] w fun e w' => e = .returned (.int .i64 (-1)) ∧ w = w' :=
  (bytes_IndexByte_nil 32 w).mono fun _ _ ⟨he, hw⟩ => ⟨he, hw.symm⟩

def CutPost (lo : Nat) (w : World) (l : Bs) (e : Ending) (w' : World) : Prop := ∃ a b, e = .returned (.tuple #[a, b]) ∧ SB lo w a (fst l) ∧ SB lo w b (rst l) ∧ ∃ n, w' = w.drewN n

set_option maxHeartbeats 1000000 in
theorem cut_nil (lo : Nat) (w : World) : Calls Tryz.prog 59 #[.slice none 0 0] w (CutPost lo w []) := by
  go_enter Tryz.func59, Tryz.ntmps59
  go_wp2_with (go_at_call 77; refine (index_nil _).mono ?_; rintro e w' ⟨rfl, rfl⟩)
  go_ret2
  exact ⟨_, _, rfl, .inr ⟨rfl, rfl⟩, .inr ⟨rfl, rfl⟩, 0, rfl⟩

set_option maxHeartbeats 1000000 in
theorem cut_some (lo b off cap : Nat) (l : Bs) (w : World) (hl : l.length ≤ 1024) (hcap : l.length ≤ cap) (hc : Holds w b off l) (hlo : lo ≤ b) :
    Calls Tryz.prog 59 #[.slice (some ⟨b, off, none⟩) l.length cap] w (CutPost lo w l) := by
  have HC := Lib.hid hc
  clear hc
  by_cases h : idx l < l.length
  · have HI := Lib.hid (show Lib.indexByte l 32 = (idx l : Int) from by rw [indexByte_eq, if_pos h])
    have HF := Lib.hid (fst_len l)
    have HR := Lib.hid (rst_len l)
    obtain ⟨k, hk⟩ : ∃ k, k = idx l := ⟨_, rfl⟩
    have HK := Lib.hid hk
    rw [← hk] at h HI HF HR
    clear hk
    by_cases h1 : k + 1 < l.length
    · go_enter Tryz.func59, Tryz.ntmps59
      go_wp2_with (go_at_call 77; refine (index_any _ _ _ l _ HC.out).mono ?_; rintro e w' ⟨rfl, rfl⟩; rw [HI.out])
      go_quiet (fail)
      go_wp2_with fail
      go_ret2
      exact ⟨_, _, rfl, .inl ⟨b, off, k, by rw [HF.out]; rfl, by rw [HF.out]; exact Nat.le_refl _, HC.out.fst, hlo⟩, .inl ⟨b, off + (k + 1), l.length - (k + 1), by rw [HR.out]; rfl, by rw [HR.out]; exact Nat.le_refl _, by have := HC.out.rst; rw [← HK.out] at this; exact this, hlo⟩, _, rfl⟩
    · go_enter Tryz.func59, Tryz.ntmps59
      go_wp2_with (go_at_call 77; refine (index_any _ _ _ l _ HC.out).mono ?_; rintro e w' ⟨rfl, rfl⟩; rw [HI.out])
      go_quiet (fail)
      go_wp2_with fail
      go_ret2
      exact ⟨_, _, rfl, .inl ⟨b, off, k, by rw [HF.out]; rfl, by rw [HF.out]; exact Nat.le_refl _, HC.out.fst, hlo⟩, .inl ⟨b, off, 0, by rw [HR.out, show l.length - (k + 1) = 0 from by omega]; rfl, by rw [HR.out]; omega, Holds.none _ _ _ (by rw [HR.out]; omega), hlo⟩, _, rfl⟩
  · have HI := Lib.hid (show Lib.indexByte l 32 = -1 from by rw [indexByte_eq, if_neg h])
    have HF := Lib.hid (fst_full h)
    have HR := Lib.hid (rst_full h)
    clear h
    go_enter Tryz.func59, Tryz.ntmps59
    go_wp2_with (go_at_call 77; refine (index_any _ _ _ l _ HC.out).mono ?_; rintro e w' ⟨rfl, rfl⟩; rw [HI.out])
    go_ret2
    exact ⟨_, _, rfl, by rw [HF.out]; exact .inl ⟨b, off, _, rfl, Nat.le_refl _, HC.out, hlo⟩, by rw [HR.out]; exact .inr ⟨rfl, rfl⟩, 0, rfl⟩

theorem cut_any (lo : Nat) (v : Value) (l : Bs) (w : World) (hl : l.length ≤ 1024) (h : SB lo w v l) : Calls Tryz.prog 59 #[v] w (CutPost lo w l) := by
  rcases h with ⟨b, off, cap, rfl, hcap, hc, hlo⟩ | ⟨rfl, rfl⟩
  · exact cut_some lo b off cap l w hl hcap hc hlo
  · exact cut_nil lo w

/-- 'string(b)' of bytes that lie so. -/
theorem run_back {lo : Nat} {v : Value} {l : Bs} (w : World) (h : SB lo w v l) : (convert 22 9 v).run Tryz.prog w = .ok (.string ⟨l.toArray⟩) w := by
  rcases h with ⟨b, off, cap, rfl, _, hc, _⟩ | ⟨rfl, rfl⟩
  · refine run_convert_bytes_back w 22 9 5 ⟨b, off, none⟩ cap l Tryz.underlying22 Tryz.underlying5 Tryz.underlying9 fun j hj => ?_
    have := hc j hj
    by_cases h0 : j = 0
    · subst h0; simpa [Addr.add] using this
    · simpa [Addr.add, h0] using this
  · exact run_convert_bytes_nil w 22 5 Tryz.underlying22 Tryz.underlying5 0 0 9 Tryz.underlying9

/-- The version's text of a minor 0 or 1. -/
theorem version_small (n : Nat) (hn : n < 2) (w : World) :
    Calls Tryz.prog 100 #[.int .i64 (n : Int)] w fun e w' => e = .returned (.string ⟨#[72, 84, 84, 80, 47, 49, 46, 48 + UInt8.ofNat n]⟩) ∧ w = w' := by
  have HD := Lib.hid (show Lib.decDigits n = [48 + UInt8.ofNat n] from
    match n, hn with
    | 0, _ => by kernel_rfl
    | 1, _ => by kernel_rfl)
  go_enter Tryz.func100, Tryz.ntmps100
  go_wp2_with fail
  refine (strconv_Itoa_small n (by omega) _).mono ?_
  rintro e w' ⟨rfl, rfl⟩
  rw [HD.out]
  go_wp2_with fail
  go_ret
  exact ⟨rfl, rfl⟩
end Go.Proofs.YtcolnidgembniaaGreatDoor.Ln
/-
  line.readMinor and line.readCode: what each returns. Condition: at most 1024 bytes.
-/
namespace Go.Proofs.YtcolnidgembniaaGreatDoor.Ln
open Go.RowKit Go.Proofs.YtcolnidgembniaaGreatDoor.Tk

theorem version0 (w : World) : Calls Tryz.prog 100 #[.int .i64 0] w fun e w' => e = .returned (.string ⟨#[72, 84, 84, 80, 47, 49, 46, 48]⟩) ∧ w' = w :=
  (version_small 0 (by omega) w).mono fun _ _ ⟨he, hw⟩ => ⟨he, hw.symm⟩
theorem version1 (w : World) : Calls Tryz.prog 100 #[.int .i64 1] w fun e w' => e = .returned (.string ⟨#[72, 84, 84, 80, 47, 49, 46, 49]⟩) ∧ w' = w :=
  (version_small 1 (by omega) w).mono fun _ _ ⟨he, hw⟩ => ⟨he, hw.symm⟩
theorem mk_is {l m : Bs} (h : l = m) : (l == m) = true := by rw [h]; simp
theorem mk_not {l m : Bs} (h : l ≠ m) : (l == m) = false := by rw [beq_eq_false_iff_ne]; exact h

def MinPost (l : Bs) (w : World) (e : Ending) (w' : World) : Prop := e = .returned (.int .i64 (minorOf l)) ∧ ∃ n, w' = w.drewN n
def MinRel (l : Bs) (w : World) (i : Value) (wr : World) : Prop :=
  ∃ z : Int, i = .int .i64 z ∧ (z = 0 ∨ (z = 1 ∧ l ≠ ver0) ∨ (z = 2 ∧ l ≠ ver0 ∧ l ≠ ver1)) ∧ ∃ n, wr = w.drewN n

theorem drew_add {w : World} {a b : Nat} {x y : World} (h1 : x = w.drewN a) (h2 : y = x.drewN b) : ∃ n, y = w.drewN n := ⟨a + b, by rw [h2, h1, World.drewN_drewN]⟩

set_option maxHeartbeats 1000000 in
theorem readMinor_any (lo : Nat) (v : Value) (l : Bs) (w : World) (h : SB lo w v l) :
    Calls Tryz.prog 60 #[v] w (MinPost l w) := by
  have HS := Lib.hid h
  clear h
  go_enter Tryz.func60, Tryz.ntmps60
  go_wp2_with fail
  go_loopw [4] (fun i wr => MinRel l w i wr) (fun i _ => (2 - intOf i).toNat)
  case atStart => exact ⟨0, rfl, .inl rfl, 0, rfl⟩
  case round =>
    obtain ⟨z, rfl, hz, n0, hw⟩ := hrel
    have hback := fun m => run_back (wr.drewN m) (show SB lo (wr.drewN m) v l from by rw [hw]; exact HS.out.drawn n0)
    have HW := Lib.hid hw
    clear hw
    rcases hz with rfl | ⟨rfl, h0⟩ | ⟨rfl, h0, h1⟩
    · by_cases h : l = [72, 84, 84, 80, 47, 49, 46, 48]
      · have t := mk_is h
        have HV := Lib.hid (show minorOf l = 0 from by unfold minorOf ver0; rw [if_pos h])
        clear h
        go_wp2_with fail
        go_quiet ((go_at_call 100; exact Calls.quiet_of_same (version0 _)))
        go_wp2_with fail
        go_ret
        exact ⟨by rw [HV.out]; rfl, drew_add HW.out rfl⟩
      · have t := mk_not h
        have HN := Lib.hid h
        clear h
        go_wp2_with fail
        go_quiet ((go_at_call 100; exact Calls.quiet_of_same (version0 _)))
        go_wp2_with fail
        go_roundw
        case rel => exact ⟨1, rfl, .inr (.inl ⟨rfl, HN.out⟩), drew_add HW.out rfl⟩
        case measure => simp [intOf]
    · by_cases h : l = [72, 84, 84, 80, 47, 49, 46, 49]
      · have t := mk_is h
        have HV := Lib.hid (show minorOf l = 1 from by unfold minorOf; rw [if_neg h0, if_pos (show l = ver1 from h)])
        clear h h0
        go_wp2_with fail
        go_quiet ((go_at_call 100; exact Calls.quiet_of_same (version1 _)))
        go_wp2_with fail
        go_ret
        exact ⟨by rw [HV.out]; rfl, drew_add HW.out rfl⟩
      · have t := mk_not h
        have HN := Lib.hid h
        have HN0 := Lib.hid h0
        clear h h0
        go_wp2_with fail
        go_quiet ((go_at_call 100; exact Calls.quiet_of_same (version1 _)))
        go_wp2_with fail
        go_roundw
        case rel => exact ⟨2, rfl, .inr (.inr ⟨rfl, HN0.out, HN.out⟩), drew_add HW.out rfl⟩
        case measure => simp [intOf]
    · have HV := Lib.hid (show minorOf l = -1 from by unfold minorOf; rw [if_neg h0, if_neg h1])
      clear h0 h1
      go_wp2_with fail
      go_ret
      exact ⟨by rw [HV.out]; rfl, _, HW.out⟩

theorem code_short {l : Bs} (h : l.length ≠ 3) : codeOf l = -1 := by
  match l with
  | [] => rfl
  | [_] => rfl
  | [_, _] => rfl
  | [_, _, _] => exact absurd rfl h
  | _ :: _ :: _ :: _ :: _ => rfl
theorem code_of {l : Bs} {most : Int} (h : l.length = 3) (hm : 999 ≤ most) : codeOf l = if (Num.numOf ⟨l.toArray⟩ most).2 = true then (Num.numOf ⟨l.toArray⟩ most).1 else -1 := by
  match l, h with
  | [a, b, c], _ =>
    have h1 : (⟨#[a, b, c]⟩ : ByteArray).size = 3 := rfl
    have h2 : (⟨#[a, b, c]⟩ : ByteArray).data.toList = [a, b, c] := rfl
    have hd : ∀ c : UInt8, Num.dg c = dgt c := fun _ => rfl
    show codeOf [a, b, c] = if (Num.numOf ⟨#[a, b, c]⟩ most).2 = true then (Num.numOf ⟨#[a, b, c]⟩ most).1 else -1
    unfold Num.numOf codeOf
    rw [h1, h2]
    cases ha : dgt a <;> cases hb : dgt b <;> cases hc : dgt c
    all_goals simp only [List.all_cons, List.all_nil, hd, ha, hb, hc]
    all_goals first | (simp; done) | skip
    have hno : ¬ (3 = 0 ∨ most < 0 ∨ (true && (true && (true && true))) = false) := by simp; omega
    rw [if_pos (show (true && true && true) = true from rfl)]
    simp only [if_neg hno, if_true]
    have e1 := Num.dg_bd (c := a) ha
    have e2 := Num.dg_bd (c := b) hb
    have e3 := Num.dg_bd (c := c) hc
    simp only [Num.num, Num.step, List.foldl_cons, List.foldl_nil]
    rw [if_neg (by omega)]
    rw [if_neg (by omega)]
    rw [if_neg (by omega)]
    omega

set_option maxHeartbeats 1000000 in
theorem readCode_any (lo : Nat) (v : Value) (l : Bs) (w : World) (hl : l.length ≤ 1024) (h : SB lo w v l) :
    Calls Tryz.prog 66 #[v] w fun e w' => e = .returned (.int .i64 (codeOf l)) ∧ w = w' := by
  have hback := run_back w h
  have HL : ∃ a cap, v = .slice a l.length cap := by
    rcases h with ⟨b, off, cap, rfl, _, _, _⟩ | ⟨rfl, rfl⟩
    · exact ⟨_, _, rfl⟩
    · exact ⟨_, _, rfl⟩
  obtain ⟨a, cap, rfl⟩ := HL
  clear h
  by_cases h3 : l.length = 3
  · have HV := Lib.hid (code_of (most := 999) h3 (by omega))
    have t : ((l.length : Int) != 3) = false := by rw [h3]; rfl
    have HS := Lib.hid (show (⟨l.toArray⟩ : ByteArray).size ≤ maxLen from by show l.toArray.size ≤ _; rw [List.size_toArray]; unfold maxLen; omega)
    obtain ⟨N, hN⟩ : ∃ N, N = Num.numOf ⟨l.toArray⟩ 999 := ⟨_, rfl⟩
    have HN := Lib.hid hN
    rw [← hN] at HV
    clear h3 hN
    obtain ⟨N1, N2⟩ := N
    cases N2 with
    | true =>
      go_enter Tryz.func66, Tryz.ntmps66
      go_wp2_with (go_at_call 76; refine (Num.number_any _ 999 _ HS.out (by omega)).mono ?_; rintro e w' ⟨rfl, rfl⟩; rw [← HN.out])
      go_ret
      exact ⟨by rw [HV.out]; rfl, rfl⟩
    | false =>
      go_enter Tryz.func66, Tryz.ntmps66
      go_wp2_with (go_at_call 76; refine (Num.number_any _ 999 _ HS.out (by omega)).mono ?_; rintro e w' ⟨rfl, rfl⟩; rw [← HN.out])
      go_ret
      exact ⟨by rw [HV.out]; rfl, rfl⟩
  · have HV := Lib.hid (code_short h3)
    have t : ((l.length : Int) != 3) = true := by rw [bne_iff_ne]; omega
    clear h3
    go_enter Tryz.func66, Tryz.ntmps66
    go_wp2_with fail
    go_ret
    exact ⟨by rw [HV.out]; rfl, rfl⟩
end Go.Proofs.YtcolnidgembniaaGreatDoor.Ln
/-
  In a seat that has token.Value, too: token.Is stands in TokIs. No condition.
-/

/-
  The closure of line.Request: what it returns, and what it stores. Conditions: at most 1024 bytes; the table of token bytes.
-/
namespace Go.Proofs.YtcolnidgembniaaGreatDoor.Ln
open Go.RowKit Go.Proofs.YtcolnidgembniaaGreatDoor.Tk

/-- Three cells that lie one behind the other. -/
structure C3 (g : Nat) (t0 t1 t2 : TypeId) (a b c : Value) (w : World) : Prop where
  h0 : w.heap[g]? = some (.cells #[a] t0 (0, 0))
  h1 : w.heap[g + 1]? = some (.cells #[b] t1 (0, 0))
  h2 : w.heap[g + 2]? = some (.cells #[c] t2 (0, 0))
theorem C3.put {g : Nat} {t0 t1 t2 : TypeId} {a b c : Value} {w : World} (h : C3 g t0 t1 t2 a b c w) (x y z : Value) :
    C3 g t0 t1 t2 x y z (((w.setCell ⟨g, 0, none⟩ x).setCell ⟨g + 1, 0, none⟩ y).setCell ⟨g + 2, 0, none⟩ z) := by
  have e1 : ∀ v : World, ∀ q : Value, v.heap[g]? = (v.setCell ⟨g + 1, 0, none⟩ q).heap[g]? := fun v q => (heap_setCell_other _ _ _ _ (by show g ≠ g + 1; omega)).symm
  refine ⟨?_, ?_, ?_⟩
  · rw [heap_setCell_other _ _ _ _ (by show g ≠ g + 2; omega), heap_setCell_other _ _ _ _ (by show g ≠ g + 1; omega)]; exact one_setCell h.h0
  · rw [heap_setCell_other _ _ _ _ (by show g + 1 ≠ g + 2; omega)]
    exact one_setCell (by rw [heap_setCell_other _ _ _ _ (by show g + 1 ≠ g; omega)]; exact h.h1)
  · exact one_setCell (by rw [heap_setCell_other _ _ _ _ (by show g + 2 ≠ g + 1; omega), heap_setCell_other _ _ _ _ (by show g + 2 ≠ g; omega)]; exact h.h2)

theorem C3.heap {g : Nat} {t0 t1 t2 : TypeId} {a b c : Value} {w W : World} (h : C3 g t0 t1 t2 a b c w) (e : W.heap = w.heap) : C3 g t0 t1 t2 a b c W := ⟨by rw [e]; exact h.h0, by rw [e]; exact h.h1, by rw [e]; exact h.h2⟩
def put3 (g : Nat) (w : World) (x y z : Value) : World := ((w.setCell ⟨g, 0, none⟩ x).setCell ⟨g + 1, 0, none⟩ y).setCell ⟨g + 2, 0, none⟩ z
theorem put3_below {g : Nat} {w0 w : World} (h : Below g w0 w) (x y z : Value) : Below g w0 (put3 g w x y z) :=
  ((h.setCell (p := ⟨g, 0, none⟩) (Nat.le_refl _) x).setCell (p := ⟨g + 1, 0, none⟩) (by show g ≤ g + 1; omega) y).setCell (p := ⟨g + 2, 0, none⟩) (by show g ≤ g + 2; omega) z
def ReqPost (g : Nat) (l : Bs) (w : World) (e : Ending) (w' : World) : Prop :=
  e = .returned (.bool (!reqOk l)) ∧ C3 g 9 9 3 (.string ⟨(fst l).toArray⟩) (.string ⟨(fst (rst l)).toArray⟩) (.int .i64 (minorOf (rst (rst l)))) w' ∧ Below g w w'

theorem cell_heap {w W : World} (e : W.heap = w.heap) (a : Addr) : W.cell? a = w.cell? a := by unfold World.cell?; rw [e]
theorem SB.heap {lo : Nat} {w W : World} {v : Value} {l : Bs} (h : SB lo w v l) (e : W.heap = w.heap) : SB lo W v l := by
  rcases h with ⟨b, off, cap, hv, hcap, hc, hlo⟩ | h
  · exact .inl ⟨b, off, cap, hv, hcap, fun j hj => by rw [cell_heap e]; exact hc j hj, hlo⟩
  · exact .inr h
theorem SB.set {lo : Nat} {w : World} {v : Value} {l : Bs} (h : SB lo w v l) (p : Addr) (x : Value) (hp : p.block < lo) : SB lo (w.setCell p x) v l := by
  rcases h with ⟨b, off, cap, hv, hcap, hc, hlo⟩ | h
  · refine .inl ⟨b, off, cap, hv, hcap, fun j hj => ?_, hlo⟩
    have e := hc j hj
    unfold World.cell? at e ⊢
    rw [heap_setCell_other _ _ _ _ (by show b ≠ p.block; omega)]
    exact e
  · exact .inr h
theorem tab_heap {w W : World} (h : Tab w) (e : W.heap = w.heap) : Tab W := fun n hn => by rw [cell_heap e]; exact h n hn
theorem tab_set {w : World} (h : Tab w) (p : Addr) (x : Value) (hp : 0 < p.block) : Tab (w.setCell p x) :=
  h.below (Below.setCell (Below.refl (0 + 1) w) (p := p) (by omega) x) (by omega)
theorem size_le {l : Bs} {n : Nat} (h : l.length ≤ n) : (⟨l.toArray⟩ : ByteArray).size ≤ n := by show l.toArray.size ≤ _; rw [List.size_toArray]; exact h

set_option maxHeartbeats 4000000 in
theorem reqClosure_any (g : Nat) (v : Value) (l : Bs) (w : World) (a b c : Value) (hl : l.length ≤ 1024) (hS : SB (g + 3) w v l) (hC : C3 g 9 9 3 a b c w) (hT : Tab w) (hg : 0 < g) :
    Calls Tryz.prog 58 #[v, .pointer (some ⟨g, 0, none⟩), .pointer (some ⟨g + 1, 0, none⟩), .pointer (some ⟨g + 2, 0, none⟩)] w (ReqPost g l w) := by
  have HS := Lib.hid hS
  have HT := Lib.hid hT
  have HC := Lib.hid hC
  clear hS hT hC
  go_enter Tryz.func58, Tryz.ntmps58
  go_wp2_with fail
  refine (cut_any (g + 3) v l _ hl HS.out).mono ?_
  rintro e w1 ⟨x1, y1, rfl, hx1, hy1, n1, hw1⟩
  have HX1 := Lib.hid hx1
  have HY1 := Lib.hid (show SB (g + 3) w1 y1 (rst l) from by rw [hw1]; exact hy1)
  have HW1 := Lib.hid hw1
  clear hx1 hy1 hw1
  go_wp2_with fail
  refine (cut_any (g + 3) y1 (rst l) _ (Nat.le_trans (rst_le l) hl) HY1.out).mono ?_
  rintro e w2 ⟨x2, y2, rfl, hx2, hy2, n2, hw2⟩
  have hw : w2.heap = w.heap := by rw [hw2, HW1.out]; rfl
  have HH := Lib.hid hw
  have HX := Lib.hid (HX1.out.heap hw)
  have HX2 := Lib.hid (hx2.heap (show w2.heap = w1.heap from by rw [hw2]; rfl))
  have HY2 := Lib.hid (hy2.heap (show w2.heap = w1.heap from by rw [hw2]; rfl))
  have hb1 : ∀ W : World, W.heap = w2.heap → (convert 22 9 x1).run Tryz.prog W = .ok (.string ⟨(fst l).toArray⟩) W := fun W e => run_back W (HX.out.heap e)
  have hb2 : ∀ W : World, W.heap = w2.heap → (convert 22 9 x2).run Tryz.prog W = .ok (.string ⟨(fst (rst l)).toArray⟩) W := fun W e => run_back W (HX2.out.heap e)
  have hb2s : ∀ (W : World) (x : Value), W.heap = (w2.setCell ⟨g, 0, none⟩ x).heap → (convert 22 9 x2).run Tryz.prog W = .ok (.string ⟨(fst (rst l)).toArray⟩) W := fun W x e => run_back W ((HX2.out.set ⟨g, 0, none⟩ x (by show g < g + 3; omega)).heap e)
  obtain ⟨A, hA⟩ : ∃ A : ByteArray, A = ⟨(fst l).toArray⟩ := ⟨_, rfl⟩
  obtain ⟨B, hB⟩ : ∃ B : ByteArray, B = ⟨(fst (rst l)).toArray⟩ := ⟨_, rfl⟩
  obtain ⟨M, hM⟩ : ∃ M : Int, M = minorOf (rst (rst l)) := ⟨_, rfl⟩
  have HA := Lib.hid hA
  have HB := Lib.hid hB
  have HM := Lib.hid hM
  have HSA := Lib.hid (show A.size ≤ maxLen from by rw [hA]; exact size_le (by unfold maxLen; have := fst_le l; omega))
  have HSB := Lib.hid (show B.size ≤ maxLen from by rw [hB]; exact size_le (by unfold maxLen; have := fst_le (rst l); have := rst_le l; omega))
  have HR := Lib.hid (show reqOk l = (isTok A.data.toList && isTgt B.data.toList && isMin M) from by rw [hA, hB, hM]; rfl)
  have c0 : w2.cell? ⟨g, 0, none⟩ = some a := by rw [cell_heap hw]; exact cell_of_one HC.out.h0
  have f0 : w2.frozen? ⟨g, 0, none⟩ = false := free_of_one (by rw [hw]; exact HC.out.h0)
  have c1 : w2.cell? ⟨g + 1, 0, none⟩ = some b := by rw [cell_heap hw]; exact cell_of_one HC.out.h1
  have f1 : w2.frozen? ⟨g + 1, 0, none⟩ = false := free_of_one (by rw [hw]; exact HC.out.h1)
  have c2 : w2.cell? ⟨g + 2, 0, none⟩ = some c := by rw [cell_heap hw]; exact cell_of_one HC.out.h2
  have f2 : w2.frozen? ⟨g + 2, 0, none⟩ = false := free_of_one (by rw [hw]; exact HC.out.h2)
  rw [← hA] at hb1
  rw [← hB] at hb2 hb2s
  have k1 := hb1 w2.drew rfl
  have k1m := fun m => hb1 (w2.drewN m) rfl
  have k2 := hb2 w2.drew rfl
  have k2m := fun m => hb2 (w2.drewN m) rfl
  have k2s := fun x => hb2s (w2.drew.setCell ⟨g, 0, none⟩ x) x rfl
  have k2t := fun x => hb2s (w2.setCell ⟨g, 0, none⟩ x).drew x rfl
  have k2sm := fun m x => hb2s ((w2.drewN m).setCell ⟨g, 0, none⟩ x) x rfl
  have k2tm := fun m x => hb2s ((w2.setCell ⟨g, 0, none⟩ x).drewN m) x rfl
  have s0 := Lib.hid HY2.out
  have s1 := Lib.hid fun x => HY2.out.set ⟨g, 0, none⟩ x (by show g < g + 3; omega)
  have s2 := Lib.hid fun x y => (HY2.out.set ⟨g, 0, none⟩ x (by show g < g + 3; omega)).set ⟨g + 1, 0, none⟩ y (by show g + 1 < g + 3; omega)
  have HTab := Lib.hid (show ∀ x y z, Tab (put3 g w2 x y z) from fun x y z => tab_set (tab_set (tab_set (tab_heap HT.out hw) ⟨g, 0, none⟩ x hg) ⟨g + 1, 0, none⟩ y (by show _ < g + 1; omega)) ⟨g + 2, 0, none⟩ z (by show _ < g + 2; omega))
  have HC3 := Lib.hid (show ∀ x y z, C3 g 9 9 3 x y z (put3 g w2 x y z) from fun x y z => (HC.out.heap hw).put x y z)
  have HBel := Lib.hid (show ∀ x y z, Below g w (put3 g w2 x y z) from fun x y z => put3_below (by rw [hw2, HW1.out]; exact Below.mk rfl rfl rfl (by exact Nat.le_refl _) (fun _ _ => rfl)) x y z)
  clear hb2s
  clear hb1 hb2
  clear hx2 hy2 hw2 hw hA hB hM HX1 HY1 HW1
  go_wp2_with fail
  go_region_with (first | (go_at_call 60; refine (readMinor_any (g + 3) y2 (rst (rst l)) _ (by first | exact s0.out.heap (by rfl) | exact (s1.out _).heap (by rfl) | exact (s2.out _ _).heap (by rfl))).mono ?_; rintro e w' ⟨rfl, m, rfl⟩; rw [← HM.out]))
  all_goals
    go_wp2_with fail
    refine (is_any A _ HSA.out (tab_heap (HTab.out _ _ _) (by rfl))).mono ?_
    rintro e w' ⟨rfl, rfl⟩
    cases h1 : isTok A.data.toList with
    | false =>
      have HV := Lib.hid (show reqOk l = false from by rw [HR.out, h1]; rfl)
      clear h1
      go_wp2_with fail
      go_ret
      exact ⟨by rw [HV.out]; rfl, by rw [← HA.out, ← HB.out, ← HM.out]; exact (HC3.out _ _ _).heap (by rfl), Below.mk (HBel.out (.string A) (.string B) (.int .i64 M)).os (HBel.out (.string A) (.string B) (.int .i64 M)).tape (HBel.out (.string A) (.string B) (.int .i64 M)).output (HBel.out (.string A) (.string B) (.int .i64 M)).size (HBel.out (.string A) (.string B) (.int .i64 M)).block⟩
    | true =>
      have HI1 := Lib.hid h1
      clear h1
      go_wp2_with fail
      refine (isTarget_any B _ HSB.out).mono ?_
      rintro e w' ⟨rfl, rfl⟩
      cases h2 : isTgt B.data.toList with
      | false =>
        have HV := Lib.hid (show reqOk l = false from by rw [HR.out, h2, HI1.out]; rfl)
        clear h2
        go_wp2_with fail
        go_ret
        exact ⟨by rw [HV.out]; rfl, by rw [← HA.out, ← HB.out, ← HM.out]; exact (HC3.out _ _ _).heap (by rfl), Below.mk (HBel.out (.string A) (.string B) (.int .i64 M)).os (HBel.out (.string A) (.string B) (.int .i64 M)).tape (HBel.out (.string A) (.string B) (.int .i64 M)).output (HBel.out (.string A) (.string B) (.int .i64 M)).size (HBel.out (.string A) (.string B) (.int .i64 M)).block⟩
      | true =>
        have HI2 := Lib.hid h2
        clear h2
        go_wp2_with fail
        refine (isMinor_any M _).mono ?_
        rintro e w' ⟨rfl, rfl⟩
        have HV := Lib.hid (show reqOk l = isMin M from by rw [HR.out, HI2.out, HI1.out]; rfl)
        go_wp2_with fail
        go_ret
        exact ⟨by rw [HV.out]; rfl, by rw [← HA.out, ← HB.out, ← HM.out]; exact (HC3.out _ _ _).heap (by rfl), Below.mk (HBel.out (.string A) (.string B) (.int .i64 M)).os (HBel.out (.string A) (.string B) (.int .i64 M)).tape (HBel.out (.string A) (.string B) (.int .i64 M)).output (HBel.out (.string A) (.string B) (.int .i64 M)).size (HBel.out (.string A) (.string B) (.int .i64 M)).block⟩
end Go.Proofs.YtcolnidgembniaaGreatDoor.Ln
