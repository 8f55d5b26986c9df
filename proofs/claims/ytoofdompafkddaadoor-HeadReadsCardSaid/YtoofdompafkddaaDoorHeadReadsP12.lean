/-
  Texts that the law's proof stands on, 4 of them in one file; each one's head says what it proves and under which condition.
-/
import Derived.Test.YtoofdompafkddaaDoorHeadReadsP11
import Derived.Test.YtoofdompafkddaaDoorHeadReadsP8
import Derived.Test.YtoofdompafkddaaDoorHeadReadsP5
import Derived.Deep.QuietTactic
import Derived.BigQuiet
/-
  Where a line ends; bytes.IndexByte at a byte 10; a whole step of a reader. No condition but what a slice can have.
-/
namespace Go.Proofs.YtoofdompafkddaaDoor.Hd
open Go.RowKit Go.Proofs.YtoofdompafkddaaDoor.Tk Go.Proofs.YtoofdompafkddaaDoor.Fd
set_option linter.unusedVariables false

/-- What a step took, and where the reader stands then: the rest is read from there. -/
def Took (resp : Bool) (s : St) (b : Bs) (k : Nat) (st : St) : Prop := 0 < k ∧ k ≤ b.length ∧ run resp s b = (k + (run resp st (b.drop k)).1, (run resp st (b.drop k)).2) ∧ (Good s → Good st)
theorem took_line {resp : Bool} {b : Bs} {p : Option Parts} {l : Bs} {n i : Nat} {fs : List Fl} (hi : i < b.length) (hb : b = b.take i ++ 10 :: b.drop (i + 1)) (h10 : ∀ c ∈ b.take i, c ≠ 10) (hr : i < room p l n) :
    Took resp (.on p l n fs) b (i + 1) (ended resp p (n + (i + 1)) fs (own (l ++ b.take i))) := by
  have hl : (b.take i).length = i := by rw [List.length_take]; omega
  have := run_line (resp := resp) (fs := fs) (r := b.drop (i + 1)) h10 (by rw [hl]; exact hr)
  rw [← hb, hl] at this
  refine ⟨by omega, by omega, this, fun hg => ?_⟩
  have h2 := run_line (resp := resp) (fs := fs) (r := []) h10 (by rw [hl]; exact hr)
  have h3 := good_run resp (b.take i ++ [10]) hg
  rw [h2, run_nil, hl] at h3
  exact h3
theorem took_big {resp : Bool} {b : Bs} {p : Option Parts} {l : Bs} {n : Nat} {fs : List Fl} (h10 : ∀ c ∈ b.take (room p l n), c ≠ 10) (hr : room p l n < b.length) : Took resp (.on p l n fs) b (room p l n + 1) (.bad 3) := by
  refine ⟨by omega, by omega, ?_, fun _ => .inl rfl⟩
  rw [run_big h10 hr, run_over (s := .bad 3) rfl]; rfl
theorem took_part {resp : Bool} {b : Bs} {p : Option Parts} {l : Bs} {n : Nat} {fs : List Fl} (hb : 0 < b.length) (h10 : ∀ c ∈ b, c ≠ 10) (hr : b.length ≤ room p l n) : Took resp (.on p l n fs) b b.length (.on p (l ++ b) (n + b.length) fs) := by
  refine ⟨hb, Nat.le_refl _, ?_, fun hg => ?_⟩
  · rw [run_part h10 hr, List.drop_length, run_nil]; rfl
  · have h3 := good_run resp b hg
    rw [run_part h10 hr] at h3
    exact h3
end Go.Proofs.YtoofdompafkddaaDoor.Hd
/-
  slices.Grow at bytes, and a reader's keep: what each leaves. Condition: at most 2^40 bytes.
-/
namespace Go.Proofs.YtoofdompafkddaaDoor.Hd
open Go.RowKit Go.Proofs.YtoofdompafkddaaDoor.Tk Go.Proofs.YtoofdompafkddaaDoor.Fd
set_option linter.unusedVariables false

def KeepPost (O : Nat → Prop) (resp : Bool) (g gb : Nat) (fv : Value) (p : Option Parts) (l : Bs) (n : Nat) (fs : List Fl) (w : World) (e : Ending) (w' : World) : Prop :=
  e = .returned (.tuple #[]) ∧ (∃ lv, On w' (New O w) resp g gb lv fv p l n fs) ∧ Chg O w w'

set_option maxRecDepth 100000 in
set_option maxHeartbeats 4000000 in
theorem keep_any (O : Nat → Prop) (resp : Bool) (g gb : Nat) (lv fv : Value) (p : Option Parts) (l : Bs) (n : Nat) (fs : List Fl) (v : Value) (b : Bs) (w : World)
    (h : On w O resp g gb lv fv p l n fs) (hv : Byts w v b) (ho : ∀ k, v.ownBlock = some k → ¬ O k) (hb : 0 < b.length) (hl : l.length + b.length ≤ 1099511627776) (hn : n + b.length ≤ 1099511627776) :
    Calls Tryd.prog 70 #[.pointer (some ⟨g, 0, none⟩), v] w (KeepPost O resp g gb fv p (l ++ b) (n + b.length) fs w) := by
  rcases hv with ⟨rfl, _⟩ | ⟨B, off, cap, rfl, hcap, hcm, hB, hh⟩
  · simp at hb
  have hOB : ¬ O B := ho B rfl
  have HO := Lib.hid h
  have HH := Lib.hid hh
  obtain ⟨a, c, hls⟩ := h.line.shape
  subst hls
  have c3 := rc3 h.blk
  clear h hh ho
  go_enter Tryd.func70, Tryd.ntmps70
  go_wp2_with fail
  refine (grow_any _ l b.length _ HO.out.line hb hl).mono ?_
  rintro e w1 ⟨q, C, cur, rfl, hrow, hb1, hq⟩
  have HR := Lib.hid hrow
  have hK1 := Bl.old hb1 (block_lt HO.out.blk) HO.out.blk
  have hqg : q ≠ g := apart_of hrow.blk hK1 (by decide)
  have hBg : B ≠ g := fun e => hOB (e ▸ HO.out.og)
  have hBq : B ≠ q := fun e => by
    rcases hq with hq | hq
    · exact hOB (e ▸ HO.out.ol q hq)
    · omega
  have hCr := hrow.room
  have hCm := hrow.cap
  unfold maxLen at hCm
  have hC0 : ¬ C = l.length := by omega
  have d3 := rc3 hK1
  have d4 := rc4 hK1
  have f3 := free hK1 3
  have f4 := free hK1 4
  have HN := Lib.hid (holds_below HH.out hb1 hB)
  clear c3
  have HQ := Lib.hid (show ∀ x, (w1.setCell ⟨g, 3, none⟩ x).heap[q]? = some (.cells cur 5 (0, 0)) from fun x => put_far hrow.blk (by show q ≠ g; exact hqg))
  have HSrc := Lib.hid (show ∀ x j u, (bys b)[j]? = some u → (w1.setCell ⟨g, 3, none⟩ x).cell? ((⟨B, off, none⟩ : Addr).add j) = some u from fun x j u hu => by
    have hj : j < b.length := by have := (List.getElem?_eq_some_iff.1 hu).1; rwa [bys_length] at this
    rw [bys_at b j hj] at hu
    rw [Addr.add_lit, World.cell?_of_block (w := w1) (put_far rfl (by show B ≠ g; exact hBg)), HN.out j hj]
    exact hu)
  have HB1 := Lib.hid hb1
  have HNq := Lib.hid (show New O w q from by
    rcases hq with hq | hq
    · exact .inl (HO.out.ol q hq)
    · exact .inr (by omega))
  have HR1 := Lib.hid (row_chg HO.out.flds (Chg.of_below (O := fun _ => False) hb1) HO.out.of (fun _ _ h => h))
  have HX1 := Lib.hid (Bl.old hb1 (block_lt HO.out.box) HO.out.box)
  have HK1 := Lib.hid hK1
  clear hrow hb1 hq
  have HP := Lib.hid (show ∀ x, (w1.setCell ⟨g, 3, none⟩ x).heap[g]? = _ from fun x => rc_put3 hK1 x)
  clear d4 f4 hK1
  go_wp2_with ((with_reducible show wpList _ _ _ (⟨some 32, _, _, _, _, _⟩ :: _) _ _); refine wpList_copy_own rfl (.tmp 30) (.tmp 31) 22 22 rfl 5 Tryd.underlying22 infoByte q l.length b.length (C - l.length) ⟨B, off, none⟩ b.length cap (by rfl) (by rfl) cur 5 (HQ.out _) (bys b) (by rw [bys_length]; simp) (HSrc.out _) (by rw [bys_length]; have := HR.out.size; omega) (bys_one b) ?_; obtain ⟨W2, hW2⟩ : ∃ W2, W2 = (w1.setCell ⟨g, 3, none⟩ (.slice (some ⟨q, 0, none⟩) (l.length + b.length) C)).setRow q (cur.toList.take l.length ++ (bys b ++ cur.toList.drop (l.length + (bys b).length))).toArray := ⟨_, rfl⟩; rw [← hW2]; have hK2 := row_far (g := q) (cs := (cur.toList.take l.length ++ (bys b ++ cur.toList.drop (l.length + (bys b).length))).toArray) (HP.out (.slice (some ⟨q, 0, none⟩) (l.length + b.length) C)) (Ne.symm hqg); rw [← hW2] at hK2; have d4 := rc4 hK2; have f4 := free hK2 4; have HW2 := Lib.hid hW2; clear hW2 d3 f3)
  go_end0
  have hK3 := rc_put4 hK2 (n + b.length)
  have hxg : gb ≠ g := apart_of HX1.out HK1.out (by decide)
  have hxq : gb ≠ q := apart_of HX1.out HR.out.blk (by decide)
  have hfg : ∀ k, fv.ownBlock = some k → k ≠ g := fun k hk => by obtain ⟨cu, hcu⟩ := row_type HR1.out hk; exact apart_of hcu HK1.out (by decide)
  have hfq : ∀ k, fv.ownBlock = some k → k ≠ q := fun k hk => by obtain ⟨cu, hcu⟩ := row_type HR1.out hk; exact apart_of hcu HR.out.blk (by decide)
  refine ⟨rfl, ⟨.slice (some ⟨q, 0, none⟩) (l.length + b.length) C, hK3, ?_, ?_, ?_, .inl HO.out.og, .inl HO.out.ob, fun k hk => ?_, fun k hk => .inl (HO.out.of k hk)⟩, ?_⟩
  · rw [HW2.out]
    exact put_far (row_far (put_far HX1.out (by show gb ≠ g; exact hxg)) hxq) (by show gb ≠ g; exact hxg)
  · rw [HW2.out]
    have hr := RowB.owns (b := b) (w := w1.setCell ⟨g, 3, none⟩ (.slice (some ⟨q, 0, none⟩) (l.length + b.length) C)) ⟨HQ.out _, HR.out.size, HR.out.cap, HR.out.room, HR.out.here⟩
    rw [List.length_append] at hr
    exact row_same hr fun k hk => by injection hk with hk; subst hk; exact put_far rfl (by show q ≠ g; exact hqg)
  · rw [HW2.out]
    exact row_same HR1.out fun k hk => put_far (row_far (put_far rfl (by show k ≠ g; exact hfg k hk)) (hfq k hk)) (by show k ≠ g; exact hfg k hk)
  · injection hk with hk; subst hk; exact HNq.out
  · rw [HW2.out]
    exact (((Chg.of_below HB1.out).put _ _ (.inl HO.out.og)).row q _ HNq.out).put _ _ (.inl HO.out.og)
end Go.Proofs.YtoofdompafkddaaDoor.Hd
/-
  A reader's take: what it leaves. Condition: the table of token bytes.
-/
namespace Go.Proofs.YtoofdompafkddaaDoor.Hd
open Go.RowKit Go.Proofs.YtoofdompafkddaaDoor.Tk Go.Proofs.YtoofdompafkddaaDoor.Fd
set_option linter.unusedVariables false

def TakePost (O : Nat → Prop) (resp : Bool) (g : Nat) (s : St) (b : Bs) (w : World) (e : Ending) (w' : World) : Prop :=
  ∃ k st, e = .returned (.int .i64 (k : Nat)) ∧ Took resp s b k st ∧ Rdr w' (New O w) resp g st ∧ Chg O w w'

set_option maxRecDepth 100000 in
set_option maxHeartbeats 8000000 in
theorem take_line (O : Nat → Prop) (resp : Bool) (g gb : Nat) (a : Option Addr) (c : Nat) (fv : Value) (p : Option Parts) (l : Bs) (n : Nat) (fs : List Fl) (B off cap : Nat) (b : Bs) (w : World)
    (h : On w O resp g gb (.slice a l.length c) fv p l n fs) (hG : Good (.on p l n fs)) (hcap : b.length ≤ cap) (hcm : cap ≤ maxLen) (hB : B < w.heap.size) (hh : Holds w B off b) (hOB : ¬ O B) (hb : 0 < b.length) (hT : Tab w) (ho : ¬ O 0)
    (hA : nl (b.take (min b.length (room p l n))) < min b.length (room p l n)) :
    Calls Tryd.prog 47 #[.pointer (some ⟨g, 0, none⟩), .slice (some ⟨B, off, none⟩) b.length cap] w (TakePost O resp g (.on p l n fs) b w) := by
  have HO := Lib.hid (h.below ((Below.refl w.heap.size w).drew))
  have HH := Lib.hid hh
  obtain ⟨h1, h2, h3, h4, h5, h6⟩ := hG
  have c1 := rc1 h.blk
  have c3 := rc3 h.blk
  have c4 := rc4 h.blk
  have HCw := Lib.hid ((Chg.refl O w).drew)
  have HTw := Lib.hid (show Tab w.drew from hT)
  have htl := hT.lt
  obtain ⟨M, hM⟩ : ∃ M, M = most p := ⟨_, rfl⟩
  have hM2 : M ≤ 8192 := by rw [hM]; unfold most; split <;> omega
  rw [← hM] at c1 h3
  obtain ⟨R, hR⟩ : ∃ R, R = room p l n := ⟨_, rfl⟩
  have hRm : R = min (8192 - n) (M - l.length) := by rw [hR, hM]; rfl
  have hmin : min (IntKind.i64.wrap (8192 - (n : Int))) (IntKind.i64.wrap ((M : Int) - (l.length : Int))) = (R : Int) := by
    rw [IntWalk.i64_in _ (by omega), IntWalk.i64_in _ (by omega)]; omega
  have HMN := Lib.hid hmin
  have HRR := Lib.hid hR
  have hr1 : n + R ≤ 8192 := by omega
  obtain ⟨m, hm⟩ : ∃ m, m = min b.length R := ⟨_, rfl⟩
  have hml : (b.take m).length = m := by rw [List.length_take]; omega
  have hmn : min (b.length : Int) (R : Int) = (m : Int) := by omega
  have hmb : m ≤ b.length := by omega
  have hmr : m ≤ R := by omega
  have HMm := Lib.hid hm
  have HI := Lib.hid (fun (W : World) (hW : Holds W B off b) => (show Calls Tryd.prog 69 #[.slice (some ⟨B, off, none⟩) m cap, .int .u8 10] W fun e w' => e = .returned (.int .i64 (Lib.indexByte (b.take m) 10)) ∧ W = w' from by
    have := idx10_any B off cap (b.take m) W (Holds_take hW m)
    rwa [hml] at this))
  rw [← hR, ← hm] at hA
  clear h hh hM hR hRm h6 hmin hm
  unfold maxLen at hcm
  obtain ⟨s1, s2, s3, s4⟩ := nl_split (b := b) (m := m) (by rw [hml]; exact hA)
  have HX := Lib.hid (show Lib.indexByte (b.take m) 10 = (nl (b.take m) : Int) from by rw [nl_index, hml, if_pos hA])
  obtain ⟨i, hi⟩ : ∃ i, i = nl (b.take m) := ⟨_, rfl⟩
  rw [← hi] at HX s1 s2 s3 s4
  have HS1 := Lib.hid s1
  have HS2 := Lib.hid s2
  have HT1 := Lib.hid (show b.take (i + 1) = b.take i ++ [10] from by
    have e : b[i] = 10 := by
      have := congrArg (fun x => x[i]?) s1
      simp only [List.getElem?_eq_getElem s4] at this
      rw [List.getElem?_append_right (by rw [List.length_take]; omega), List.length_take, show i - min i b.length = 0 from by omega] at this
      simpa using this
    rw [List.take_succ_eq_append_getElem s4, e])
  have hil : (b.take (i + 1)).length = i + 1 := by rw [List.length_take]; omega
  have HIL := Lib.hid hil
  clear hi hA s1 s2 hil
  go_enter Tryd.func47, Tryd.ntmps47
  go_wp2_with fail
  go_region_held3 (fun W => W.cell? ⟨g, 4, none⟩ = some (.int .i64 (n : Int)) ∧ W.cell? ⟨g, 1, none⟩ = some (.int .i64 (M : Int)) ∧ W.cell? ⟨g, 3, none⟩ = some (.slice a l.length c)) (exact ⟨c4, c1, c3⟩) (fail)
  rw [HMN.out]
  obtain ⟨W, hW⟩ : ∃ W, W = w.drew := ⟨_, rfl⟩
  have hsz : w.heap.size = W.heap.size := by rw [hW]; rfl
  rw [← hW] at HO HCw HTw
  have HHW := Lib.hid (show Holds W B off b from by rw [hW]; exact HH.out)
  rw [← hW]
  clear hW c1 c3 c4
  go_wp2_with fail
  refine (HI.out W HHW.out).mono ?_
  rintro e w0 ⟨rfl, rfl⟩
  rw [HX.out]
  clear hmn
  go_wp2_with fail
  refine (keep_any O resp g gb _ fv p l n fs _ (b.take (i + 1)) _ HO.out (.inr ⟨B, off, cap, by rw [HIL.out], by rw [HIL.out]; omega, by unfold maxLen; omega, by omega, Holds_take HHW.out _⟩) (fun k hk => by injection hk with hk; subst hk; exact hOB) (by rw [HIL.out]; omega) (by rw [HIL.out]; omega) (by rw [HIL.out]; omega)).mono ?_
  rintro e w1 ⟨rfl, ⟨lv1, hO1⟩, hc1⟩
  rw [HIL.out, HT1.out, ← List.append_assoc] at hO1
  have HO1 := Lib.hid hO1
  have HC1 := Lib.hid hc1
  have hs1 := hc1.size
  have hnt : ¬ New O W 0 := fun hn => by
    rcases hn with hn | hn
    · exact ho hn
    · omega
  have HTc := Lib.hid (Tab.chg HTw.out hc1 ho)
  clear hO1 hc1
  go_wp2_with fail
  refine (end_any (New O W) resp g gb lv1 fv p (l ++ b.take i) (n + (i + 1)) fs _ HO1.out HTc.out hnt h4 (by rw [List.length_append, List.length_take]; omega)).mono ?_
  rintro e w2 ⟨rfl, hR2, hc2⟩
  have HR2 := Lib.hid (hR2.mono (new_new hs1))
  have HC2 := Lib.hid (HC1.out.again hc2)
  clear hR2 hc2
  go_wp2_with fail
  go_ret
  exact ⟨i + 1, _, rfl, took_line s4 HS1.out HS2.out (by rw [← HRR.out]; omega), HR2.out.mono (new_size (by omega)), HCw.out.trans HC2.out (fun k hk => .inl hk)⟩
set_option maxRecDepth 100000 in
set_option maxHeartbeats 8000000 in
theorem take_big (O : Nat → Prop) (resp : Bool) (g gb : Nat) (a : Option Addr) (c : Nat) (fv : Value) (p : Option Parts) (l : Bs) (n : Nat) (fs : List Fl) (B off cap : Nat) (b : Bs) (w : World)
    (h : On w O resp g gb (.slice a l.length c) fv p l n fs) (hG : Good (.on p l n fs)) (hcap : b.length ≤ cap) (hcm : cap ≤ maxLen) (hB : B < w.heap.size) (hh : Holds w B off b) (hOB : ¬ O B) (hb : 0 < b.length) (hT : Tab w) (ho : ¬ O 0)
    (hA : ¬ nl (b.take (min b.length (room p l n))) < min b.length (room p l n)) (hbig : room p l n < b.length) :
    Calls Tryd.prog 47 #[.pointer (some ⟨g, 0, none⟩), .slice (some ⟨B, off, none⟩) b.length cap] w (TakePost O resp g (.on p l n fs) b w) := by
  have HO := Lib.hid (h.below ((Below.refl w.heap.size w).drew))
  have HH := Lib.hid hh
  obtain ⟨h1, h2, h3, h4, h5, h6⟩ := hG
  have c1 := rc1 h.blk
  have c3 := rc3 h.blk
  have c4 := rc4 h.blk
  have HCw := Lib.hid ((Chg.refl O w).drew)
  have HTw := Lib.hid (show Tab w.drew from hT)
  have htl := hT.lt
  obtain ⟨M, hM⟩ : ∃ M, M = most p := ⟨_, rfl⟩
  have hM2 : M ≤ 8192 := by rw [hM]; unfold most; split <;> omega
  rw [← hM] at c1 h3
  obtain ⟨R, hR⟩ : ∃ R, R = room p l n := ⟨_, rfl⟩
  have hRm : R = min (8192 - n) (M - l.length) := by rw [hR, hM]; rfl
  have hmin : min (IntKind.i64.wrap (8192 - (n : Int))) (IntKind.i64.wrap ((M : Int) - (l.length : Int))) = (R : Int) := by
    rw [IntWalk.i64_in _ (by omega), IntWalk.i64_in _ (by omega)]; omega
  have HMN := Lib.hid hmin
  have HRR := Lib.hid hR
  have hr1 : n + R ≤ 8192 := by omega
  obtain ⟨m, hm⟩ : ∃ m, m = min b.length R := ⟨_, rfl⟩
  have hml : (b.take m).length = m := by rw [List.length_take]; omega
  have hmn : min (b.length : Int) (R : Int) = (m : Int) := by omega
  have hmb : m ≤ b.length := by omega
  have hmr : m ≤ R := by omega
  have HMm := Lib.hid hm
  have HI := Lib.hid (fun (W : World) (hW : Holds W B off b) => (show Calls Tryd.prog 69 #[.slice (some ⟨B, off, none⟩) m cap, .int .u8 10] W fun e w' => e = .returned (.int .i64 (Lib.indexByte (b.take m) 10)) ∧ W = w' from by
    have := idx10_any B off cap (b.take m) W (Holds_take hW m)
    rwa [hml] at this))
  rw [← hR, ← hm] at hA
  rw [← hR] at hbig
  clear h hh hM hR hRm h6 hmin hm
  unfold maxLen at hcm
  have HX := Lib.hid (show Lib.indexByte (b.take m) 10 = -1 from by rw [nl_index, hml, if_neg hA])
  have HN0 := Lib.hid (nl_none (l := b.take m) (by rw [hml]; exact hA))
  clear hA
  go_enter Tryd.func47, Tryd.ntmps47
  go_wp2_with fail
  go_region_held3 (fun W => W.cell? ⟨g, 4, none⟩ = some (.int .i64 (n : Int)) ∧ W.cell? ⟨g, 1, none⟩ = some (.int .i64 (M : Int)) ∧ W.cell? ⟨g, 3, none⟩ = some (.slice a l.length c)) (exact ⟨c4, c1, c3⟩) (fail)
  rw [HMN.out]
  obtain ⟨W, hW⟩ : ∃ W, W = w.drew := ⟨_, rfl⟩
  have hsz : w.heap.size = W.heap.size := by rw [hW]; rfl
  rw [← hW] at HO HCw HTw
  have HHW := Lib.hid (show Holds W B off b from by rw [hW]; exact HH.out)
  rw [← hW]
  clear hW c1 c3 c4
  go_wp2_with fail
  refine (HI.out W HHW.out).mono ?_
  rintro e w0 ⟨rfl, rfl⟩
  rw [HX.out]
  clear hmn
  have hK := HO.out.blk
  go_wp2_with fail
  refine (fail_any resp g _ _ _ n false 0 _ fv 3 _ (fnOf_is gb p) HO.out.blk).mono ?_
  rintro e w1 ⟨rfl, hb1, hc1⟩
  have HB1 := Lib.hid hb1
  have HC1 := Lib.hid (HCw.out.trans hc1 (fun k hk => .inl (hk ▸ HO.out.og)))
  clear hb1 hc1 hK
  go_wp2_with fail
  go_ret
  refine ⟨R + 1, .bad 3, rfl, ?_, ⟨_, _, fnOf_is gb p, HB1.out, .inl HO.out.og⟩, HC1.out⟩
  have := took_big (resp := resp) (b := b) (p := p) (l := l) (n := n) (fs := fs) (by rw [← HRR.out]; have := HN0.out; rwa [show m = R from by have := HMm.out; omega] at this) (by rw [← HRR.out]; exact hbig)
  rwa [← HRR.out] at this
set_option maxRecDepth 100000 in
set_option maxHeartbeats 8000000 in
theorem take_part (O : Nat → Prop) (resp : Bool) (g gb : Nat) (a : Option Addr) (c : Nat) (fv : Value) (p : Option Parts) (l : Bs) (n : Nat) (fs : List Fl) (B off cap : Nat) (b : Bs) (w : World)
    (h : On w O resp g gb (.slice a l.length c) fv p l n fs) (hG : Good (.on p l n fs)) (hcap : b.length ≤ cap) (hcm : cap ≤ maxLen) (hB : B < w.heap.size) (hh : Holds w B off b) (hOB : ¬ O B) (hb : 0 < b.length) (hT : Tab w) (ho : ¬ O 0)
    (hA : ¬ nl (b.take (min b.length (room p l n))) < min b.length (room p l n)) (hbig : b.length ≤ room p l n) :
    Calls Tryd.prog 47 #[.pointer (some ⟨g, 0, none⟩), .slice (some ⟨B, off, none⟩) b.length cap] w (TakePost O resp g (.on p l n fs) b w) := by
  have HO := Lib.hid (h.below ((Below.refl w.heap.size w).drew))
  have HH := Lib.hid hh
  obtain ⟨h1, h2, h3, h4, h5, h6⟩ := hG
  have c1 := rc1 h.blk
  have c3 := rc3 h.blk
  have c4 := rc4 h.blk
  have HCw := Lib.hid ((Chg.refl O w).drew)
  have HTw := Lib.hid (show Tab w.drew from hT)
  have htl := hT.lt
  obtain ⟨M, hM⟩ : ∃ M, M = most p := ⟨_, rfl⟩
  have hM2 : M ≤ 8192 := by rw [hM]; unfold most; split <;> omega
  rw [← hM] at c1 h3
  obtain ⟨R, hR⟩ : ∃ R, R = room p l n := ⟨_, rfl⟩
  have hRm : R = min (8192 - n) (M - l.length) := by rw [hR, hM]; rfl
  have hmin : min (IntKind.i64.wrap (8192 - (n : Int))) (IntKind.i64.wrap ((M : Int) - (l.length : Int))) = (R : Int) := by
    rw [IntWalk.i64_in _ (by omega), IntWalk.i64_in _ (by omega)]; omega
  have HMN := Lib.hid hmin
  have HRR := Lib.hid hR
  have hr1 : n + R ≤ 8192 := by omega
  obtain ⟨m, hm⟩ : ∃ m, m = min b.length R := ⟨_, rfl⟩
  have hml : (b.take m).length = m := by rw [List.length_take]; omega
  have hmn : min (b.length : Int) (R : Int) = (m : Int) := by omega
  have hmb : m ≤ b.length := by omega
  have hmr : m ≤ R := by omega
  have HMm := Lib.hid hm
  have HI := Lib.hid (fun (W : World) (hW : Holds W B off b) => (show Calls Tryd.prog 69 #[.slice (some ⟨B, off, none⟩) m cap, .int .u8 10] W fun e w' => e = .returned (.int .i64 (Lib.indexByte (b.take m) 10)) ∧ W = w' from by
    have := idx10_any B off cap (b.take m) W (Holds_take hW m)
    rwa [hml] at this))
  rw [← hR, ← hm] at hA
  rw [← hR] at hbig
  clear h hh hM hR hRm h6 hmin hm
  unfold maxLen at hcm
  have HX := Lib.hid (show Lib.indexByte (b.take m) 10 = -1 from by rw [nl_index, hml, if_neg hA])
  have HN0 := Lib.hid (nl_none (l := b.take m) (by rw [hml]; exact hA))
  clear hA
  go_enter Tryd.func47, Tryd.ntmps47
  go_wp2_with fail
  go_region_held3 (fun W => W.cell? ⟨g, 4, none⟩ = some (.int .i64 (n : Int)) ∧ W.cell? ⟨g, 1, none⟩ = some (.int .i64 (M : Int)) ∧ W.cell? ⟨g, 3, none⟩ = some (.slice a l.length c)) (exact ⟨c4, c1, c3⟩) (fail)
  rw [HMN.out]
  obtain ⟨W, hW⟩ : ∃ W, W = w.drew := ⟨_, rfl⟩
  have hsz : w.heap.size = W.heap.size := by rw [hW]; rfl
  rw [← hW] at HO HCw HTw
  have HHW := Lib.hid (show Holds W B off b from by rw [hW]; exact HH.out)
  rw [← hW]
  clear hW c1 c3 c4
  go_wp2_with fail
  refine (HI.out W HHW.out).mono ?_
  rintro e w0 ⟨rfl, rfl⟩
  rw [HX.out]
  clear hmn
  go_wp2_with fail
  refine (keep_any O resp g gb _ fv p l n fs _ b _ HO.out (.inr ⟨B, off, cap, rfl, hcap, by unfold maxLen; omega, by omega, HHW.out⟩) (fun k hk => by injection hk with hk; subst hk; exact hOB) hb (by omega) (by omega)).mono ?_
  rintro e w1 ⟨rfl, ⟨lv1, hO1⟩, hc1⟩
  have HO1 := Lib.hid hO1
  have HC1 := Lib.hid (HCw.out.trans hc1 (fun k hk => .inl hk))
  clear hO1 hc1
  go_wp2_with fail
  go_ret
  refine ⟨b.length, .on p (l ++ b) (n + b.length) fs, rfl, ?_, Rdr.mono (s := .on p (l ++ b) (n + b.length) fs) ⟨gb, lv1, fv, HO1.out⟩ (new_size (by omega)), HC1.out⟩
  exact took_part hb (by have := HN0.out; rwa [show m = b.length from by have := HMm.out; omega, List.take_length] at this) (by rw [← HRR.out]; exact hbig)
theorem take_any (O : Nat → Prop) (resp : Bool) (g gb : Nat) (lv fv : Value) (p : Option Parts) (l : Bs) (n : Nat) (fs : List Fl) (v : Value) (b : Bs) (w : World)
    (h : On w O resp g gb lv fv p l n fs) (hG : Good (.on p l n fs)) (hv : Byts w v b) (hvo : ∀ k, v.ownBlock = some k → ¬ O k) (hb : 0 < b.length) (hT : Tab w) (ho : ¬ O 0) :
    Calls Tryd.prog 47 #[.pointer (some ⟨g, 0, none⟩), v] w (TakePost O resp g (.on p l n fs) b w) := by
  rcases hv with ⟨rfl, _⟩ | ⟨B, off, cap, rfl, hcap, hcm, hB, hh⟩
  · simp at hb
  obtain ⟨a, c, hls⟩ := h.line.shape
  subst hls
  by_cases hA : nl (b.take (min b.length (room p l n))) < min b.length (room p l n)
  · exact take_line O resp g gb a c fv p l n fs B off cap b w h hG hcap hcm hB hh (hvo B rfl) hb hT ho hA
  · by_cases hbig : room p l n < b.length
    · exact take_big O resp g gb a c fv p l n fs B off cap b w h hG hcap hcm hB hh (hvo B rfl) hb hT ho hA hbig
    · exact take_part O resp g gb a c fv p l n fs B off cap b w h hG hcap hcm hB hh (hvo B rfl) hb hT ho hA (by omega)
end Go.Proofs.YtoofdompafkddaaDoor.Hd
/-
  A reader's Feed: what it returns and leaves. Condition: the table of token bytes.
-/
namespace Go.Proofs.YtoofdompafkddaaDoor.Hd
open Go.RowKit Go.Proofs.YtoofdompafkddaaDoor.Tk Go.Proofs.YtoofdompafkddaaDoor.Fd
set_option linter.unusedVariables false

theorem neq_fun (w : World) (fn : Fn) (fi ca : Array Value) : (binOp .neq 91 (.func fn fi ca) .nilFunc).run Tryd.prog w = .ok (.bool true) w := by kernel_rfl
/-- The cells that tell how a reader stands. -/
structure Tells (w : World) (g : Nat) (s : St) : Prop where
  fn : ∃ F, IsFn F ∧ w.cell? ⟨g, 2, none⟩ = some F
  whole : w.cell? ⟨g, 5, none⟩ = some (.bool (doneOf s))
  failed : w.cell? ⟨g, 6, none⟩ = some (.int .i64 (errOf s : Nat))
theorem Rdr.tells {w : World} {O : Nat → Prop} {resp : Bool} {g : Nat} {s : St} (h : Rdr w O resp g s) : Tells w g s := by
  cases s with
  | on p l n fs => obtain ⟨gb, lv, fv, h⟩ := h; exact ⟨⟨_, fnOf_is gb p, rc2 h.blk⟩, rc5 h.blk, rc6 h.blk⟩
  | done q fs => obtain ⟨M, F, lv, n, fv, hF, hb, hf, hg, ho⟩ := h; exact ⟨⟨F, hF, rc2 hb⟩, rc5 hb, rc6 hb⟩
  | bad e => obtain ⟨M, F, hF, hb, hg⟩ := h; exact ⟨⟨F, hF, rc2 hb⟩, rc5 hb, rc6 hb⟩

set_option maxHeartbeats 1000000 in
theorem made_yes (g : Nat) (F : Value) (w : World) (hF : IsFn F) (h : w.cell? ⟨g, 2, none⟩ = some F) : Calls Tryd.prog 46 #[.pointer (some ⟨g, 0, none⟩)] w fun e w' => e = .returned (.bool true) ∧ w = w' := by
  obtain ⟨fn, fi, ca, rfl⟩ := hF
  have hq := neq_fun
  go_enter Tryd.func46, Tryd.ntmps46
  go_wp2_with fail
  go_ret
  exact ⟨rfl, rfl⟩

def FeedPost (O : Nat → Prop) (resp : Bool) (g : Nat) (s : St) (b : Bs) (w : World) (e : Ending) (w' : World) : Prop :=
  e = .returned (.tuple #[.int .i64 ((run resp s b).1 : Nat), .bool (doneOf (run resp s b).2), .int .i64 (errOf (run resp s b).2 : Nat)]) ∧ Rdr w' (New O w) resp g (run resp s b).2 ∧ Chg O w w'
/-- Where a Feed stands at its loop's head. -/
def FeedAt (O : Nat → Prop) (resp : Bool) (g : Nat) (s : St) (b : Bs) (w : World) (k : Nat) (st : St) (wr : World) : Prop :=
  k ≤ b.length ∧ run resp s b = (k + (run resp st (b.drop k)).1, (run resp st (b.drop k)).2) ∧ Good st ∧ Rdr wr (New O w) resp g st ∧ Chg O w wr
theorem FeedAt.ends {O : Nat → Prop} {resp : Bool} {g : Nat} {s : St} {b : Bs} {w : World} {k : Nat} {st : St} {wr : World} (h : FeedAt O resp g s b w k st wr) (ho : over st = true ∨ k = b.length) : run resp s b = (k, st) := by
  obtain ⟨_, hr, _⟩ := h
  rcases ho with ho | ho
  · rw [hr, run_over ho]; rfl
  · rw [hr, ho, List.drop_length, run_nil]; rfl
theorem FeedAt.post {O : Nat → Prop} {resp : Bool} {g : Nat} {s : St} {b : Bs} {w : World} {k : Nat} {st : St} {wr : World} (h : FeedAt O resp g s b w k st wr) (ho : over st = true ∨ k = b.length) {n : Nat} :
    FeedPost O resp g s b w (.returned (.tuple #[.int .i64 (k : Int), .bool (doneOf st), .int .i64 (errOf st : Nat)])) (wr.drewN n) := by
  unfold FeedPost
  rw [h.ends ho]
  obtain ⟨_, _, _, hR, hC⟩ := h
  exact ⟨rfl, hR.below ⟨rfl, rfl, rfl, Nat.le_refl _, fun _ _ => rfl⟩, hC.drewN n⟩
theorem took_at {O : Nat → Prop} {resp : Bool} {g : Nat} {s : St} {b : Bs} {w : World} {k : Nat} {st : St} {wr w' : World} (h : FeedAt O resp g s b w k st wr) {j : Nat} {st' : St} (ht : Took resp st (b.drop k) j st') (hR : Rdr w' (New (New O w) wr) resp g st') (hC : Chg (New O w) wr w') :
    k < k + j ∧ k + j ≤ b.length ∧ FeedAt O resp g s b w (k + j) st' w' := by
  obtain ⟨hk, hr, hG, hR0, hC0⟩ := h
  obtain ⟨h1, h2, h3, h4⟩ := ht
  rw [List.length_drop] at h2
  refine ⟨by omega, by omega, by omega, ?_, h4 hG, hR.mono (new_new hC0.size), hC0.again hC⟩
  rw [hr, h3, List.drop_drop]
  simp only [Prod.mk.injEq, and_true]
  omega

theorem over_of {s : St} (h : doneOf s = true ∨ errOf s ≠ 0) : over s = true := by
  cases s with
  | on p l n fs => simp [doneOf, errOf] at h
  | done => rfl
  | bad => rfl
theorem over_no {s : St} (hG : Good s) (h1 : doneOf s = false) (h2 : errOf s = 0) : ∃ p l n fs, s = .on p l n fs := by
  cases s with
  | on p l n fs => exact ⟨p, l, n, fs, rfl⟩
  | done => simp [doneOf] at h1
  | bad e => simp [errOf] at h2; subst h2; rcases hG with h | h | h <;> omega

set_option maxRecDepth 100000 in
set_option maxHeartbeats 8000000 in
theorem feed_any (O : Nat → Prop) (resp : Bool) (g : Nat) (s : St) (v : Value) (b : Bs) (w : World) (h : Rdr w O resp g s) (hG : Good s) (hv : Byts w v b) (hvo : 0 < b.length → ∀ k, v.ownBlock = some k → ¬ O k) (hbl : b.length ≤ maxLen)
    (hT : Tab w) (ho : ¬ O 0) :
    Calls Tryd.prog 17 #[.pointer (some ⟨g, 0, none⟩), v] w (FeedPost O resp g s b w) := by
  obtain ⟨va, vc, hvs⟩ := hv.shape
  have HF0 := Lib.hid (show FeedAt O resp g s b w 0 s w from ⟨Nat.zero_le _, by simp, hG, h.mono (fun k hk => .inl hk), Chg.refl _ _⟩)
  obtain ⟨⟨F, hF, c2⟩, c5, c6⟩ := h.tells
  have HV := Lib.hid hv
  have htl := hT.lt
  have HT := Lib.hid hT
  unfold maxLen at hbl
  subst hvs
  clear h hv hT hG c5 c6
  go_enter Tryd.func17, Tryd.ntmps17
  go_wp2_with fail
  refine (made_yes g F _ hF c2).mono ?_
  rintro e w0 ⟨rfl, rfl⟩
  clear c2 hF
  go_wp2_with fail
  go_loopw [4] (fun u wr => ∃ (k : Nat) (st : St), u = .int .i64 (k : Int) ∧ FeedAt O resp g s b w k st wr) (fun u _ => b.length - (intOf u).toNat)
  case atStart => exact ⟨0, s, rfl, HF0.out⟩
  case round =>
    obtain ⟨k, st, rfl, hAt⟩ := hrel
    have HA := Lib.hid hAt
    obtain ⟨hk, _, hGs, hRs, hCs⟩ := hAt
    obtain ⟨_, c5, c6⟩ := hRs.tells
    have HG := Lib.hid hGs
    have HR := Lib.hid hRs
    have HC := Lib.hid hCs
    obtain ⟨D, hD⟩ : ∃ D, D = doneOf st := ⟨_, rfl⟩
    obtain ⟨E, hE⟩ : ∃ E, E = errOf st := ⟨_, rfl⟩
    rw [← hD] at c5
    rw [← hE] at c6
    have HP := Lib.hid (fun (n : Nat) (ho : over st = true ∨ k = b.length) => (show FeedPost O resp g s b w (.returned (.tuple #[.int .i64 (k : Int), .bool D, .int .i64 (E : Int)])) (wr.drewN n) from by rw [hD, hE]; exact HA.out.post ho))
    have HD := Lib.hid hD
    have HE := Lib.hid hE
    clear hGs hRs hCs hD hE
    by_cases hlt : k < b.length
    · cases D with
      | true =>
        have HOv := Lib.hid (show over st = true from over_of (.inl HD.out.symm))
        go_wp2_with fail
        go_quiet (fail)
        go_wp2_with fail
        go_ret3
        exact HP.out _ (.inl HOv.out)
      | false =>
        by_cases he : E = 0
        · subst he
          obtain ⟨p, l, n, fs, hst⟩ := over_no HG.out HD.out.symm HE.out.symm
          have c6' : wr.cell? ⟨g, 6, none⟩ = some (.int .i64 0) := c6
          rcases HV.out with ⟨hb0, _⟩ | ⟨B, off, cap, hve, hcap, hcm, hB, hh⟩
          · rw [hb0] at hlt; simp at hlt
          injection hve with e1 e2 e3
          subst e1 e3
          have hOB : ¬ O B := hvo (by omega) B rfl
          have hNB : ¬ New O w B := fun hn => by
            rcases hn with hn | hn
            · exact hOB hn
            · omega
          have hNT : ¬ New O w 0 := fun hn => by
            rcases hn with hn | hn
            · exact ho hn
            · omega
          have hKB : wr.heap[B]? = w.heap[B]? := HC.out.block B hB hOB
          have HH := Lib.hid (show Holds wr B (off + k) (b.drop k) from by
            have h1 : Holds wr B off b := fun j hj => by rw [World.cell?_of_block (w := w) hKB]; exact hh j hj
            have h2 := h1.part k b.length (Nat.le_refl _)
            rwa [List.take_length] at h2)
          have hlt2 : B < wr.heap.size := Nat.lt_of_lt_of_le hB HC.out.size
          have HTk := Lib.hid (fun (v' : Value) (hv' : v' = .slice (some ⟨B, off + k, none⟩) (b.length - k) (vc - k)) => (show Calls Tryd.prog 47 #[.pointer (some ⟨g, 0, none⟩), v'] wr (TakePost (New O w) resp g st (b.drop k) wr) from by
            have hR2 := HR.out
            have hG2 := HG.out
            rw [hst] at hR2 hG2 ⊢
            obtain ⟨gb, lv, fv, hOn⟩ := hR2
            subst hv'
            exact take_any (New O w) resp g gb lv fv p l n fs _ (b.drop k) wr hOn hG2 (.inr ⟨B, off + k, vc - k, by rw [List.length_drop], by rw [List.length_drop]; omega, by omega, hlt2, HH.out⟩) (fun j hj => by injection hj with hj; subst hj; exact hNB) (by rw [List.length_drop]; omega) (Tab.chg HT.out HC.out ho) hNT))
          have hck : ¬ vc = k := by omega
          unfold maxLen at hcm
          clear c6 hh hst hKB e2
          go_wp2_with fail
          refine (HTk.out _ rfl).mono ?_
          rintro e w1 ⟨j, st', rfl, ht, hR1, hC1⟩
          obtain ⟨hj1, hj2, hAt1⟩ := took_at HA.out ht hR1 hC1
          have HA1 := Lib.hid hAt1
          clear ht hR1 hC1 hAt1
          go_wp2_with fail
          go_roundw
          case rel => exact ⟨k + j, st', by go_num, HA1.out⟩
          case measure => simp [intOf]; omega
        · have hne : ((E : Int) == 0) = false := by rw [beq_eq_false_iff_ne]; omega
          have HOv := Lib.hid (show over st = true from over_of (.inr (by rw [← HE.out]; exact he)))
          clear he
          go_wp2_with fail
          go_quiet (fail)
          go_wp2_with fail
          go_ret3
          exact HP.out _ (.inl HOv.out)
    · have hke : k = b.length := by omega
      have HKE := Lib.hid hke
      clear hke
      go_wp2_with fail
      go_quiet (fail)
      go_wp2_with fail
      go_ret3
      exact HP.out _ (.inr HKE.out)
end Go.Proofs.YtoofdompafkddaaDoor.Hd
