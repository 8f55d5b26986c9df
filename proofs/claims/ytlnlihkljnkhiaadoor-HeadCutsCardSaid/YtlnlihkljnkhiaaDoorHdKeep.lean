/-
  slices.Grow at bytes, and a reader's keep: what each leaves. Condition: at most 2^40 bytes.
-/
import Derived.Test.YtlnlihkljnkhiaaDoorHdRep
import Derived.Test.YtlnlihkljnkhiaaDoorLnShelf
namespace Go.Proofs.YtlnlihkljnkhiaaDoor.Hd
open Go.RowKit Go.Proofs.YtlnlihkljnkhiaaDoor.Tk Go.Proofs.YtlnlihkljnkhiaaDoor.Fd
set_option linter.unusedVariables false

/-- A row with room: its block, its cells. -/
structure RowB (w : World) (q C : Nat) (cur : Array Value) (l : Bs) (m : Nat) : Prop where
  blk : w.heap[q]? = some (.cells cur 5 (0, 0))
  size : cur.size = C
  cap : C ≤ maxLen
  room : l.length + m ≤ C
  here : cur.toList.take l.length = bys l
def GrowPost (w : World) (lv : Value) (l : Bs) (m : Nat) (e : Ending) (w' : World) : Prop :=
  ∃ q C cur, e = .returned (.slice (some ⟨q, 0, none⟩) l.length C) ∧ RowB w' q C cur l m ∧ Below w.heap.size w w' ∧ (lv.ownBlock = some q ∨ q = w.heap.size)
theorem grown_size (w : World) (cs : List Value) (l n c : Nat) (t : TypeId) (z : Array Value) (hz : z.size = 1) (hc : cs.length = c) (h : c < l + n) :
    (cs.toArray ++ Builtin.zeroCells z (l + n - c) ++ Builtin.zeroCells z (grownCap w (l + n) c t - (l + n))).size = grownCap w (l + n) c t := by
  have hg := grownCap_ge w (l + n) c t
  simp only [Array.size_append, List.size_toArray, size_zeroCells, hz, hc]
  omega
set_option maxRecDepth 100000 in
theorem grow_any (lv : Value) (l : Bs) (m : Nat) (w : World) (h : OwnB w lv l) (hm : 0 < m) (hb : l.length + m ≤ 1099511627776) :
    Calls Tryd.prog 53 #[lv, .int .i64 (m : Int)] w (GrowPost w lv l m) := by
  obtain ⟨i0, hi, hz0, hz1, hz2⟩ := info_parts infoByte3
  rcases h.2 with ⟨rfl, h0⟩ | ⟨q, C, cur, hv, _, hh, hlc, hcm, hcs, htk⟩
  · have hl : l = [] := List.length_eq_zero_iff.1 h0
    subst hl
    refine (Any8.slices_Grow_grow Ln.laysGrow i0 _ hi hz0 (by rw [hz1]; omega) none 0 0 m [] w (Nat.le_refl _) (by omega) (by rw [hz2]; simp at hb ⊢; omega) (by simp at hb ⊢; omega) (by simp) (fun _ => rfl) (fun a ha => by cases ha)).mono ?_
    rintro e w' ⟨rfl, rfl⟩
    refine ⟨_, _, _, rfl, ⟨new_block' _ _ rfl, grown_size w [] 0 m 0 _ _ rfl rfl (by omega), ?_, ?_, by simp [bys]⟩, (Below.refl _ _).drew.alloc (Nat.le_refl _) _, .inr rfl⟩
    · exact grownCap_le_maxLen w (0 + m) 0 _ (by unfold maxLen; simp at hb; omega)
    · exact grownCap_ge w (0 + m) 0 _
  · subst hv
    by_cases hr : l.length + m ≤ C
    · refine (Ln.slices_Grow_room _ l.length C m w hlc (by unfold maxLen at hcm; omega) (by omega) hr).mono ?_
      rintro e w' ⟨rfl, rfl⟩
      exact ⟨q, C, cur, rfl, ⟨hh, by omega, hcm, hr, by simpa using htk⟩, Below.refl _ _, .inl rfl⟩
    · refine (Any8.slices_Grow_grow Ln.laysGrow i0 _ hi hz0 (by rw [hz1]; omega) (some ⟨q, 0, none⟩) l.length C m cur.toList w hlc (by omega) (by rw [hz2]; omega) (by omega) (by rw [hz1]; simpa using hcs) (fun h => by cases h)
        (fun a ha j v hj => by injection ha with ha; subst ha; exact World.news_of_block hh j v hj)).mono ?_
      rintro e w' ⟨rfl, rfl⟩
      have hcl : cur.toList.length = C := by simpa using hcs
      refine ⟨_, _, _, rfl, ⟨new_block' _ _ rfl, grown_size w cur.toList l.length m C _ _ rfl hcl (by omega), ?_, ?_, ?_⟩, (Below.refl _ _).drew.alloc (Nat.le_refl _) _, .inr rfl⟩
      · exact grownCap_le_maxLen w (l.length + m) C _ (by unfold maxLen; omega)
      · exact grownCap_ge w (l.length + m) C _
      · rw [Array.toList_append, Array.toList_append, List.append_assoc, List.take_append_of_le_length (by simp; omega)]
        simpa using htk

theorem RowB.owns {w : World} {q C : Nat} {cur : Array Value} {l b : Bs} (h : RowB w q C cur l b.length) :
    OwnB (w.setRow q (cur.toList.take l.length ++ (bys b ++ cur.toList.drop (l.length + (bys b).length))).toArray) (.slice (some ⟨q, 0, none⟩) (l ++ b).length C) (l ++ b) := by
  have hr := h.room
  have hs : cur.toList.length = C := by simpa using h.size
  have hlt : l.length ≤ cur.toList.length := by omega
  refine ⟨by rw [bys_length, Nat.mul_one], .inr ⟨q, C, _, rfl, Nat.zero_le _, setRow_heap w q cur _ _ _ h.blk, by simpa using hr, h.cap, ?_, ?_⟩⟩
  · simp only [List.size_toArray, List.length_append, List.length_take, List.length_drop, bys_length]; omega
  · rw [bys_append, ← h.here, List.length_append]
    have e1 : (cur.toList.take l.length).length = l.length := by rw [List.length_take]; omega
    show (cur.toList.take l.length ++ (bys b ++ _)).take _ = _
    rw [← List.append_assoc, Nat.mul_one, List.take_append_of_le_length (by rw [List.length_append, e1, bys_length]; omega), List.take_of_length_le (by rw [List.length_append, e1, bys_length]; omega)]

def KeepPost (O : Nat → Prop) (resp : Bool) (g gb : Nat) (fv : Value) (p : Option Parts) (l : Bs) (n : Nat) (fs : List Fl) (w : World) (e : Ending) (w' : World) : Prop :=
  e = .returned (.tuple #[]) ∧ (∃ lv, On w' (New O w) resp g gb lv fv p l n fs) ∧ Chg O w w'

set_option maxRecDepth 100000 in
set_option maxHeartbeats 4000000 in
theorem keep_any (O : Nat → Prop) (resp : Bool) (g gb : Nat) (lv fv : Value) (p : Option Parts) (l : Bs) (n : Nat) (fs : List Fl) (v : Value) (b : Bs) (w : World)
    (h : On w O resp g gb lv fv p l n fs) (hv : Byts w v b) (ho : ∀ k, v.ownBlock = some k → ¬ O k) (hb : 0 < b.length) (hl : l.length + b.length ≤ 1099511627776) (hn : n + b.length ≤ 1099511627776) :
    Calls Tryd.prog 34 #[.pointer (some ⟨g, 0, none⟩), v] w (KeepPost O resp g gb fv p (l ++ b) (n + b.length) fs w) := by
  rcases hv with ⟨rfl, _⟩ | ⟨B, off, cap, rfl, hcap, hcm, hB, hh⟩
  · simp at hb
  have hOB : ¬ O B := ho B rfl
  have HO := Lib.hid h
  have HH := Lib.hid hh
  obtain ⟨a, c, hls⟩ := h.line.shape
  subst hls
  have c3 := rc3 h.blk
  clear h hh ho
  go_enter Tryd.func34, Tryd.ntmps34
  go_wp2_with fail
  refine (grow_any _ l b.length _ HO.out.line hb hl).mono ?_
  rintro e w1 ⟨q, C, cur, rfl, hrow, hb1, hq⟩
  have HR := Lib.hid hrow
  have hK1 := Bl.old hb1 (block_lt HO.out.blk) HO.out.blk
  have hqg : q ≠ g := apart_of hrow.blk hK1 (by decide)
  have hBg : B ≠ g := fun e => hOB (e ▸ HO.out.og)
  have hBq : B ≠ q := fun e => by
    rcases hq with hq | hq
    · exact hOB (e ▸ HO.out.ol q hq)
    · omega
  have hCr := hrow.room
  have hCm := hrow.cap
  unfold maxLen at hCm
  have hC0 : ¬ C = l.length := by omega
  have d3 := rc3 hK1
  have d4 := rc4 hK1
  have f3 := free hK1 3
  have f4 := free hK1 4
  have HN := Lib.hid (holds_below HH.out hb1 hB)
  clear c3
  have HQ := Lib.hid (show ∀ x, (w1.setCell ⟨g, 3, none⟩ x).heap[q]? = some (.cells cur 5 (0, 0)) from fun x => put_far hrow.blk (by show q ≠ g; exact hqg))
  have HSrc := Lib.hid (show ∀ x j u, (bys b)[j]? = some u → (w1.setCell ⟨g, 3, none⟩ x).cell? ((⟨B, off, none⟩ : Addr).add j) = some u from fun x j u hu => by
    have hj : j < b.length := by have := (List.getElem?_eq_some_iff.1 hu).1; rwa [bys_length] at this
    rw [bys_at b j hj] at hu
    rw [Addr.add_lit, World.cell?_of_block (w := w1) (put_far rfl (by show B ≠ g; exact hBg)), HN.out j hj]
    exact hu)
  have HB1 := Lib.hid hb1
  have HNq := Lib.hid (show New O w q from by
    rcases hq with hq | hq
    · exact .inl (HO.out.ol q hq)
    · exact .inr (by omega))
  have HR1 := Lib.hid (row_chg HO.out.flds (Chg.of_below (O := fun _ => False) hb1) HO.out.of (fun _ _ h => h))
  have HX1 := Lib.hid (Bl.old hb1 (block_lt HO.out.box) HO.out.box)
  have HK1 := Lib.hid hK1
  clear hrow hb1 hq
  have HP := Lib.hid (show ∀ x, (w1.setCell ⟨g, 3, none⟩ x).heap[g]? = _ from fun x => rc_put3 hK1 x)
  clear d4 f4 hK1
  go_wp2_with ((with_reducible show wpList _ _ _ (⟨some 32, _, _, _, _, _⟩ :: _) _ _); refine wpList_copy_own rfl (.tmp 30) (.tmp 31) 22 22 rfl 5 Tryd.underlying22 infoByte q l.length b.length (C - l.length) ⟨B, off, none⟩ b.length cap (by rfl) (by rfl) cur 5 (HQ.out _) (bys b) (by rw [bys_length]; simp) (HSrc.out _) (by rw [bys_length]; have := HR.out.size; omega) (bys_one b) ?_; obtain ⟨W2, hW2⟩ : ∃ W2, W2 = (w1.setCell ⟨g, 3, none⟩ (.slice (some ⟨q, 0, none⟩) (l.length + b.length) C)).setRow q (cur.toList.take l.length ++ (bys b ++ cur.toList.drop (l.length + (bys b).length))).toArray := ⟨_, rfl⟩; rw [← hW2]; have hK2 := row_far (g := q) (cs := (cur.toList.take l.length ++ (bys b ++ cur.toList.drop (l.length + (bys b).length))).toArray) (HP.out (.slice (some ⟨q, 0, none⟩) (l.length + b.length) C)) (Ne.symm hqg); rw [← hW2] at hK2; have d4 := rc4 hK2; have f4 := free hK2 4; have HW2 := Lib.hid hW2; clear hW2 d3 f3)
  go_end0
  have hK3 := rc_put4 hK2 (n + b.length)
  have hxg : gb ≠ g := apart_of HX1.out HK1.out (by decide)
  have hxq : gb ≠ q := apart_of HX1.out HR.out.blk (by decide)
  have hfg : ∀ k, fv.ownBlock = some k → k ≠ g := fun k hk => by obtain ⟨cu, hcu⟩ := row_type HR1.out hk; exact apart_of hcu HK1.out (by decide)
  have hfq : ∀ k, fv.ownBlock = some k → k ≠ q := fun k hk => by obtain ⟨cu, hcu⟩ := row_type HR1.out hk; exact apart_of hcu HR.out.blk (by decide)
  refine ⟨rfl, ⟨.slice (some ⟨q, 0, none⟩) (l.length + b.length) C, hK3, ?_, ?_, ?_, .inl HO.out.og, .inl HO.out.ob, fun k hk => ?_, fun k hk => .inl (HO.out.of k hk)⟩, ?_⟩
  · rw [HW2.out]
    exact put_far (row_far (put_far HX1.out (by show gb ≠ g; exact hxg)) hxq) (by show gb ≠ g; exact hxg)
  · rw [HW2.out]
    have hr := RowB.owns (b := b) (w := w1.setCell ⟨g, 3, none⟩ (.slice (some ⟨q, 0, none⟩) (l.length + b.length) C)) ⟨HQ.out _, HR.out.size, HR.out.cap, HR.out.room, HR.out.here⟩
    rw [List.length_append] at hr
    exact row_same hr fun k hk => by injection hk with hk; subst hk; exact put_far rfl (by show q ≠ g; exact hqg)
  · rw [HW2.out]
    exact row_same HR1.out fun k hk => put_far (row_far (put_far rfl (by show k ≠ g; exact hfg k hk)) (hfq k hk)) (by show k ≠ g; exact hfg k hk)
  · injection hk with hk; subst hk; exact HNq.out
  · rw [HW2.out]
    exact (((Chg.of_below HB1.out).put _ _ (.inl HO.out.og)).row q _ HNq.out).put _ _ (.inl HO.out.og)
end Go.Proofs.YtlnlihkljnkhiaaDoor.Hd
