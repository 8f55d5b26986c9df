/-
  Texts that the law's proof stands on, 4 of them in one file; each one's head says what it proves and under which condition.
-/
import Derived.Test.YtoofdompafkddaaDoorHeadFieldsP11
import Derived.Lib.SlBytesConst
import Derived.Test.YtoofdompafkddaaDoorHeadFieldsP8
/-
  A line that ended, by either function: where the reader stands then. Conditions: at most 8192 bytes; the table of token bytes.
-/
namespace Go.Proofs.YtoofdompafkddaaDoor.Hd
open Go.RowKit Go.Proofs.YtoofdompafkddaaDoor.Tk Go.Proofs.YtoofdompafkddaaDoor.Fd
set_option linter.unusedVariables false

theorem On.kept {w w' : World} {O O' : Nat → Prop} {resp : Bool} {g gb : Nat} {lv fv : Value} {p : Option Parts} {l : Bs} {n : Nat} {fs : List Fl} (h : On w O resp g gb lv fv p l n fs) (hc : Chg O' w w') (hd : ∀ k, O k → ¬ O' k) : On w' O resp g gb lv fv p l n fs :=
  ⟨hc.old (hd _ h.og) h.blk, hc.old (hd _ h.ob) h.box, row_chg h.line hc h.ol hd, row_chg h.flds hc h.of hd, h.og, h.ob, h.ol, h.of⟩
theorem On.below {w w' : World} {O : Nat → Prop} {resp : Bool} {g gb : Nat} {lv fv : Value} {p : Option Parts} {l : Bs} {n : Nat} {fs : List Fl} (h : On w O resp g gb lv fv p l n fs) (hb : Below w.heap.size w w') : On w' O resp g gb lv fv p l n fs :=
  h.kept (O' := fun _ => False) (Chg.of_below hb) (fun _ _ hf => hf)
/-- A row cut to nothing. -/
theorem row_cut {w : World} {q n C : Nat} {l : Bs} (h : OwnB w (.slice (some ⟨q, 0, none⟩) n C) l) : OwnB w (.slice (some ⟨q, 0, none⟩) 0 C) [] := by
  refine ⟨by simp [bys], .inr ?_⟩
  rcases h.2 with ⟨hv, _⟩ | ⟨g, cap, cur, hv, hg, hh, hlc, hcm, hcs, htk⟩
  · cases hv
  · injection hv with h1 h2 h3
    injection h1 with h1
    injection h1 with h1
    subst h1 h3
    exact ⟨q, C, cur, rfl, hg, hh, Nat.zero_le _, hcm, hcs, by simp [bys]⟩
theorem On.cut {w : World} {O : Nat → Prop} {resp : Bool} {g gb q m C : Nat} {fv : Value} {p : Option Parts} {l : Bs} {n : Nat} {fs : List Fl} (h : On w O resp g gb (.slice (some ⟨q, 0, none⟩) m C) fv p l n fs) :
    On (w.setCell ⟨g, 3, none⟩ (.slice (some ⟨q, 0, none⟩) 0 C)) O resp g gb (.slice (some ⟨q, 0, none⟩) 0 C) fv p [] n fs := by
  have hxg : gb ≠ g := apart_of h.box h.blk (by decide)
  refine ⟨rc_put3 h.blk _, put_far h.box (by show gb ≠ g; exact hxg), row_same (row_cut h.line) fun k hk => ?_, row_same h.flds fun k hk => ?_, h.og, h.ob, h.ol, h.of⟩
  · obtain ⟨cu, hcu⟩ := row_type h.line (k := k) hk
    exact put_far rfl (by show k ≠ g; exact apart_of hcu h.blk (by decide))
  · obtain ⟨cu, hcu⟩ := row_type h.flds hk
    exact put_far rfl (by show k ≠ g; exact apart_of hcu h.blk (by decide))
theorem new_size {O : Nat → Prop} {a b : World} (hs : a.heap.size ≤ b.heap.size) (k : Nat) (h : New O b k) : New O a k := by
  rcases h with h | h
  · exact .inl h
  · exact .inr (by omega)

def LinePost (O : Nat → Prop) (resp : Bool) (g : Nat) (st : St) (w : World) (e : Ending) (w' : World) : Prop :=
  ∃ e0 : Nat, e = .returned (.int .i64 (e0 : Int)) ∧ Chg O w w' ∧
    ((e0 = 0 ∧ Rdr w' (New O w) resp g st) ∨ (e0 ≠ 0 ∧ st = .bad e0 ∧ ∃ M F lv n wh e1 q fv, IsFn F ∧ w'.heap[g]? = some (.cells (rc resp M F lv n wh e1 resp q fv) 97 (0, 0))))
theorem chg_one {O : Nat → Prop} {g : Nat} {w w' : World} (h : Chg (fun k => k = g) w w') (hg : O g) : Chg O w w' :=
  ⟨h.os, h.tape, h.output, h.size, fun k hk hn => h.block k hk (fun e => hn (e ▸ hg))⟩
theorem Chg.mono {O O' : Nat → Prop} {w w' : World} (h : Chg O' w w') (hO : ∀ k, O' k → O k) : Chg O w w' := ⟨h.os, h.tape, h.output, h.size, fun k hk hn => h.block k hk (fun e => hn (hO k e))⟩
theorem txt_pos {t : Bs} (h : t ≠ []) : 0 < (txt t).size := by rw [txt_size]; exact List.length_pos_iff.2 h
/-- A row of another type than the reader's stands. -/
theorem row_apart {w w' : World} {g : Nat} {cs : Array Value} {s e : TypeId} {base sz n : Nat} {v : Value} {xs : List Value} (hg : w.heap[g]? = some (.cells cs s (0, 0))) (hne : e ≠ s) (h : w.ownsRow base e sz v n xs) (hc : Chg (fun k => k = g) w w') :
    w'.ownsRow base e sz v n xs :=
  row_same h fun k hk => by
    obtain ⟨cu, hcu⟩ := row_type h hk
    exact hc.block k (block_lt hcu) (apart_of hcu hg hne)

theorem opening_line (O : Nat → Prop) (resp : Bool) (g gb : Nat) (lv fv : Value) (n : Nat) (fs : List Fl) (t : Bs) (w : World) (h : On w O resp g gb lv fv none [] n fs) (hT : Tab w) (ho : ¬ O 0) :
    Calls Tryd.prog 67 #[.pointer (some ⟨g, 0, none⟩), .string (txt t), .pointer (some ⟨gb, 0, none⟩)] w (LinePost O resp g (ended resp none n fs t) w) := by
  have hg : g ≠ 0 := fun e => ho (e ▸ h.og)
  by_cases ht : t = []
  · subst ht
    refine (opening_empty g gb w).mono ?_
    rintro e w' ⟨rfl, rfl⟩
    exact ⟨0, rfl, Chg.refl _ _, .inl ⟨rfl, Rdr.mono (s := .on none [] n fs) ⟨gb, lv, fv, h⟩ (fun k hk => .inl hk)⟩⟩
  · refine (opening_any resp g gb (most none) (fnOf gb none) lv n _ fv (txt t) w h.blk h.box hT hg (txt_pos ht)).mono ?_
    rintro e w' ⟨rfl, hb, hc⟩
    refine ⟨_, rfl, chg_one hc h.og, ?_⟩
    have he : ended resp none n fs t = if (firstOf resp (txt t)).2 = 0 then .on (some (firstOf resp (txt t)).1) [] n fs else .bad (firstOf resp (txt t)).2 := by
      show (if t = [] then _ else _) = _; rw [if_neg ht]
    rw [he]
    by_cases h0 : (firstOf resp (txt t)).2 = 0
    · rw [if_pos h0]
      have hxg : gb ≠ g := apart_of h.box h.blk (by decide)
      exact .inl ⟨h0, gb, lv, fv, hb, hc.old hxg h.box, row_apart h.blk (by decide) h.line hc, row_apart h.blk (by decide) h.flds hc, .inl h.og, .inl h.ob, fun k hk => .inl (h.ol k hk), fun k hk => .inl (h.of k hk)⟩
    · rw [if_neg h0]
      exact .inr ⟨h0, rfl, 8192, _, lv, n, false, 0, _, fv, ⟨_, _, _, rfl⟩, hb⟩

theorem field_line (O : Nat → Prop) (resp : Bool) (g gb : Nat) (lv fv : Value) (q : Parts) (n : Nat) (fs : List Fl) (t : Bs) (w : World) (h : On w O resp g gb lv fv (some q) [] n fs) (hT : Tab w) (ho : ¬ O 0)
    (hl : fs.length ≤ 64) (ht8 : t.length ≤ 8192) :
    Calls Tryd.prog 68 #[.pointer (some ⟨g, 0, none⟩), .string (txt t)] w (LinePost O resp g (ended resp (some q) n fs t) w) := by
  by_cases ht : t = []
  · subst ht
    refine (field_empty resp g 8192 (fnOf gb (some q)) lv n q fv w h.blk).mono ?_
    rintro e w' ⟨rfl, hb, hc⟩
    exact ⟨0, rfl, chg_one hc h.og, .inl ⟨rfl, 8192, fnOf gb (some q), _, n, fv, fnOf_is _ _, hb, row_apart h.blk (by decide) h.flds hc, .inl h.og, fun k hk => .inl (h.of k hk)⟩⟩
  · have he : ended resp (some q) n fs t = if fs.length = 64 then .bad 3 else if (fldOf (txt t)).2 = 0 then .on (some q) [] n (fs ++ [(fldOf (txt t)).1]) else .bad (fldOf (txt t)).2 := by
      show (if t = [] then _ else _) = _; rw [if_neg ht]
    rw [he]
    by_cases h64 : fs.length = 64
    · rw [if_pos h64]
      obtain ⟨a, c, hfv⟩ := OwnF.form h.flds
      subst hfv
      have hB := h.blk
      rw [h64] at hB
      rw [h64] at h
      refine (field_full resp g 8192 (fnOf gb (some q)) lv n q a c (txt t) w hB (txt_pos ht)).mono ?_
      rintro e w' ⟨rfl, rfl⟩
      exact ⟨3, rfl, Chg.refl _ _, .inr ⟨by omega, rfl, 8192, _, lv, n, false, 0, q, _, fnOf_is gb (some q), hB⟩⟩
    · rw [if_neg h64]
      refine (field_any (fun k => k = g ∨ fv.ownBlock = some k) resp g 8192 (fnOf gb (some q)) lv n q fv fs (txt t) w h.blk h.flds (by omega) (.inl rfl) (fun k hk => .inr hk) hT (txt_pos ht) (by rw [txt_size]; omega)).mono ?_
      rintro e w' ⟨rfl, ⟨fv', hb, hf, hn⟩, hc⟩
      have hO : ∀ k, (k = g ∨ fv.ownBlock = some k) → O k := fun k hk => by
        rcases hk with hk | hk
        · subst hk; exact h.og
        · exact h.of k hk
      refine ⟨_, rfl, Chg.mono hc hO, ?_⟩
      by_cases h0 : (fldOf (txt t)).2 = 0
      · rw [if_pos h0]
        refine .inl ⟨h0, gb, lv, fv', hb, hc.old (fun hk => ?_) h.box, row_same h.line (fun k hk => ?_), hf, .inl h.og, .inl h.ob, fun k hk => .inl (h.ol k hk), fun k hk => ?_⟩
        · rcases hk with hk | hk
          · exact apart_of h.box h.blk (by decide) hk
          · obtain ⟨cu, hcu⟩ := row_type h.flds hk; exact apart_of hcu h.box (by decide) rfl
        · obtain ⟨cu, hcu⟩ := row_type h.line hk
          refine hc.block k (block_lt hcu) (fun hk2 => ?_)
          rcases hk2 with hk2 | hk2
          · exact apart_of hcu h.blk (by decide) hk2
          · obtain ⟨cv, hcv⟩ := row_type h.flds hk2; exact apart_of hcv hcu (by decide) rfl
        · rcases hn k hk with h1 | h1
          · exact .inl (hO k h1)
          · exact .inr h1
      · rw [if_neg h0]
        exact .inr ⟨h0, rfl, 8192, _, lv, n, false, 0, q, fv', fnOf_is gb (some q), hb⟩
end Go.Proofs.YtoofdompafkddaaDoor.Hd
/-
  A reader's end: what it leaves. Conditions: at most 8192 bytes; the table of token bytes.
-/
namespace Go.Proofs.YtoofdompafkddaaDoor.Hd
open Go.RowKit Go.Proofs.YtoofdompafkddaaDoor.Tk Go.Proofs.YtoofdompafkddaaDoor.Fd
set_option linter.unusedVariables false

def EndPost (O : Nat → Prop) (resp : Bool) (g : Nat) (st : St) (w : World) (e : Ending) (w' : World) : Prop := e = .returned (.tuple #[]) ∧ Rdr w' (New O w) resp g st ∧ Chg O w w'
theorem own_take (l : Bs) : own l = l.take (own l).length := cutEnd_take 13 l
set_option maxRecDepth 100000 in
set_option maxHeartbeats 4000000 in
theorem end_none (O : Nat → Prop) (resp : Bool) (g gb : Nat) (lv fv : Value) (l : Bs) (n : Nat) (fs : List Fl) (w : World) (h : On w O resp g gb lv fv none (l ++ [10]) n fs) (hT : Tab w) (ho : ¬ O 0) :
    Calls Tryd.prog 71 #[.pointer (some ⟨g, 0, none⟩)] w (EndPost O resp g (ended resp none n fs (own l)) w) := by
  rcases h.line.2 with ⟨_, h0⟩ | ⟨q, C, cur, hv, _, hh, hlc, hcm, hcs, htk⟩
  · simp at h0
  have hl1 : (l ++ [10]).length = l.length + 1 := by simp
  rw [hl1] at hv hlc
  subst hv
  have HO := Lib.hid h
  have hB := h.blk
  have hL := h.line
  have hqg : q ≠ g := apart_of hh hB (by decide)
  have hLh : Holds w q 0 (l ++ [10]) := OwnB.holds hL (by rw [hl1])
  have hqw := block_lt hh
  have c2 := rc2 hB
  have c3 := rc3 hB
  have f3 := free hB 3
  unfold fnOf at c2
  clear h htk hcs hh
  have HB := Lib.hid hB
  have HH := Lib.hid hLh
  clear hB hL hLh
  have kc := fun (w : World) (C : Array Value) (n c : Nat) => Lib.run_convert_bytes_const (P := Tryd.prog) w 22 5 C n c Tryd.underlying22 Tryd.underlying5
  have HC1 := Lib.hid (cutEnd_snoc 10 l)
  have HC2 := Lib.hid (show (cutEnd 13 l) = own l from rfl)
  have hol := own_length l
  have hconv := fun (W : World) (h : Holds W q 0 (own l)) => Tk.run_back (P := Tryd.prog) W 22 9 5 q 0 C (own l) Tryd.underlying22 Tryd.underlying5 Tryd.underlying9 h
  have HV := Lib.hid hconv
  obtain ⟨w1, hw1⟩ : ∃ w1, w1 = w.alloc (.cells #[.int .u8 10] 5 (1, 2)) := ⟨_, rfl⟩
  have hb1 : Below w.heap.size w w1 := by rw [hw1]; exact (Below.refl _ _).alloc (Nat.le_refl _) _
  have HN1 := Lib.hid (show w1.heap[w.heap.size]? = some (.cells #[.int .u8 10] 5 (1, 2)) from by rw [hw1]; exact new_block _ _)
  obtain ⟨w2, hw2⟩ : ∃ w2, w2 = w1.alloc (.cells #[.int .u8 13] 5 (1, 2)) := ⟨_, rfl⟩
  have hb2 : Below w1.heap.size w1 w2 := by rw [hw2]; exact (Below.refl _ _).alloc (Nat.le_refl _) _
  have HN2 := Lib.hid (show w2.heap[w1.heap.size]? = some (.cells #[.int .u8 13] 5 (1, 2)) from by rw [hw2]; exact new_block _ _)
  have HX1 := Lib.hid (holds_below HH.out hb1 hqw)
  have HX2 := Lib.hid (holds_below HX1.out hb2 (by have := hb1.size; omega))
  have HB1 := Bl.old hb1 (block_lt HB.out) HB.out
  have HB2 := Bl.old hb2 (block_lt HB1) HB1
  have HBB := Lib.hid (Bl.next hb1 hb2)
  have HO2 := Lib.hid (HO.out.below (Bl.next hb1 hb2))
  have HO3 := Lib.hid HO2.out.cut
  have hs2 : w.heap.size ≤ w2.heap.size := (Bl.next hb1 hb2).size
  have HC3 := Lib.hid ((Chg.of_below (O := O) (Bl.next hb1 hb2)).put ⟨g, 3, none⟩ (.slice (some ⟨q, 0, none⟩) 0 C) (.inl HO.out.og))
  have HT3 := Lib.hid (Tab.chg hT HC3.out ho)
  have HW1 := Lib.hid hw1
  have HW2 := Lib.hid hw2
  have HCV := Lib.hid (HV.out w2 (by rw [own_take]; exact Holds_take (l := l) (by have := Holds_take HX2.out l.length; rwa [List.take_left] at this) _))
  clear hw1 hw2 hb1 hb2 HB1 HV hconv
  go_enter Tryd.func71, Tryd.ntmps71
  go_wp2_with fail
  rw [← hl1, ← HW1.out]
  refine (trimsuf_any q 0 C (l ++ [10]) w.heap.size 10 _ (by rw [hl1]; exact hlc) hcm HX1.out (by rw [Lib.cell_of_heap HN1.out]; rfl)).mono ?_
  rintro e x1 ⟨rfl, rfl⟩
  rw [HC1.out]
  clear c2 c3 f3
  go_wp2_with fail
  rw [← HW2.out]
  refine (trimsuf_any q 0 C l w1.heap.size 13 _ (by omega) hcm (by have := Holds_take HX2.out l.length; rwa [List.take_left] at this) (by rw [Lib.cell_of_heap HN2.out]; rfl)).mono ?_
  rintro e x2 ⟨rfl, rfl⟩
  rw [HC2.out]
  have hcv := HCV.out
  have c2 := rc2 HB2
  have c3 := rc3 HB2
  have f3 := free HB2 3
  unfold fnOf at c2
  go_wp2_with fail
  refine (opening_line O resp g gb _ fv n fs (own l) _ HO3.out HT3.out ho).mono ?_
  rintro e w4 ⟨e0, rfl, hc4, hR⟩
  have hs4 : w.heap.size ≤ (w2.setCell ⟨g, 3, none⟩ (.slice (some ⟨q, 0, none⟩) 0 C)).heap.size := by simpa [World.setCell] using hs2
  have HC4 := Lib.hid (HC3.out.trans hc4 (fun k hk => .inl hk))
  rcases hR with ⟨h0, hR⟩ | ⟨h0, hst, M, F, lv', n', wh, e1, q', fv', hF, hblk⟩
  · subst h0
    have HR := Lib.hid (hR.mono (new_size hs4))
    clear hR hc4 hcv c2 c3 f3 HB2
    go_wp2_with fail
    go_end0
    exact ⟨rfl, HR.out, HC4.out⟩
  · have HS := Lib.hid hst
    have HK := Lib.hid hblk
    have hn0 : ((e0 : Int) != 0) = true := by rw [bne_iff_ne]; omega
    clear hst hc4 hcv c2 c3 f3 HB2 hblk
    go_wp2_with fail
    refine (fail_any resp g M F lv' n' wh e1 q' fv' e0 _ hF HK.out).mono ?_
    rintro e w5 ⟨rfl, hb5, hc5⟩
    have HC5 := Lib.hid (HC4.out.trans hc5 (fun k hk => .inl (hk ▸ HO.out.og)))
    have HB5 := Lib.hid hb5
    clear hc5 hb5
    go_wp2_with fail
    go_end0
    exact ⟨rfl, by rw [HS.out]; exact ⟨M, F, hF, HB5.out, .inl HO.out.og⟩, HC5.out⟩
set_option maxRecDepth 100000 in
set_option maxHeartbeats 4000000 in
theorem end_some (O : Nat → Prop) (resp : Bool) (qq : Parts) (g gb : Nat) (lv fv : Value) (l : Bs) (n : Nat) (fs : List Fl) (w : World) (h : On w O resp g gb lv fv (some qq) (l ++ [10]) n fs) (hT : Tab w) (ho : ¬ O 0) (hl64 : fs.length ≤ 64) (hl8 : l.length ≤ 8192) :
    Calls Tryd.prog 71 #[.pointer (some ⟨g, 0, none⟩)] w (EndPost O resp g (ended resp (some qq) n fs (own l)) w) := by
  rcases h.line.2 with ⟨_, h0⟩ | ⟨q, C, cur, hv, _, hh, hlc, hcm, hcs, htk⟩
  · simp at h0
  have hl1 : (l ++ [10]).length = l.length + 1 := by simp
  rw [hl1] at hv hlc
  subst hv
  have HO := Lib.hid h
  have hB := h.blk
  have hL := h.line
  have hqg : q ≠ g := apart_of hh hB (by decide)
  have hLh : Holds w q 0 (l ++ [10]) := OwnB.holds hL (by rw [hl1])
  have hqw := block_lt hh
  have c2 := rc2 hB
  have c3 := rc3 hB
  have f3 := free hB 3
  unfold fnOf at c2
  clear h htk hcs hh
  have HB := Lib.hid hB
  have HH := Lib.hid hLh
  clear hB hL hLh
  have kc := fun (w : World) (C : Array Value) (n c : Nat) => Lib.run_convert_bytes_const (P := Tryd.prog) w 22 5 C n c Tryd.underlying22 Tryd.underlying5
  have HC1 := Lib.hid (cutEnd_snoc 10 l)
  have HC2 := Lib.hid (show (cutEnd 13 l) = own l from rfl)
  have hol := own_length l
  have hconv := fun (W : World) (h : Holds W q 0 (own l)) => Tk.run_back (P := Tryd.prog) W 22 9 5 q 0 C (own l) Tryd.underlying22 Tryd.underlying5 Tryd.underlying9 h
  have HV := Lib.hid hconv
  obtain ⟨w1, hw1⟩ : ∃ w1, w1 = w.alloc (.cells #[.int .u8 10] 5 (1, 2)) := ⟨_, rfl⟩
  have hb1 : Below w.heap.size w w1 := by rw [hw1]; exact (Below.refl _ _).alloc (Nat.le_refl _) _
  have HN1 := Lib.hid (show w1.heap[w.heap.size]? = some (.cells #[.int .u8 10] 5 (1, 2)) from by rw [hw1]; exact new_block _ _)
  obtain ⟨w2, hw2⟩ : ∃ w2, w2 = w1.alloc (.cells #[.int .u8 13] 5 (1, 2)) := ⟨_, rfl⟩
  have hb2 : Below w1.heap.size w1 w2 := by rw [hw2]; exact (Below.refl _ _).alloc (Nat.le_refl _) _
  have HN2 := Lib.hid (show w2.heap[w1.heap.size]? = some (.cells #[.int .u8 13] 5 (1, 2)) from by rw [hw2]; exact new_block _ _)
  have HX1 := Lib.hid (holds_below HH.out hb1 hqw)
  have HX2 := Lib.hid (holds_below HX1.out hb2 (by have := hb1.size; omega))
  have HB1 := Bl.old hb1 (block_lt HB.out) HB.out
  have HB2 := Bl.old hb2 (block_lt HB1) HB1
  have HBB := Lib.hid (Bl.next hb1 hb2)
  have HO2 := Lib.hid (HO.out.below (Bl.next hb1 hb2))
  have HO3 := Lib.hid HO2.out.cut
  have hs2 : w.heap.size ≤ w2.heap.size := (Bl.next hb1 hb2).size
  have HC3 := Lib.hid ((Chg.of_below (O := O) (Bl.next hb1 hb2)).put ⟨g, 3, none⟩ (.slice (some ⟨q, 0, none⟩) 0 C) (.inl HO.out.og))
  have HT3 := Lib.hid (Tab.chg hT HC3.out ho)
  have HW1 := Lib.hid hw1
  have HW2 := Lib.hid hw2
  have HCV := Lib.hid (HV.out w2 (by rw [own_take]; exact Holds_take (l := l) (by have := Holds_take HX2.out l.length; rwa [List.take_left] at this) _))
  clear hw1 hw2 hb1 hb2 HB1 HV hconv
  go_enter Tryd.func71, Tryd.ntmps71
  go_wp2_with fail
  rw [← hl1, ← HW1.out]
  refine (trimsuf_any q 0 C (l ++ [10]) w.heap.size 10 _ (by rw [hl1]; exact hlc) hcm HX1.out (by rw [Lib.cell_of_heap HN1.out]; rfl)).mono ?_
  rintro e x1 ⟨rfl, rfl⟩
  rw [HC1.out]
  clear c2 c3 f3
  go_wp2_with fail
  rw [← HW2.out]
  refine (trimsuf_any q 0 C l w1.heap.size 13 _ (by omega) hcm (by have := Holds_take HX2.out l.length; rwa [List.take_left] at this) (by rw [Lib.cell_of_heap HN2.out]; rfl)).mono ?_
  rintro e x2 ⟨rfl, rfl⟩
  rw [HC2.out]
  have hcv := HCV.out
  have c2 := rc2 HB2
  have c3 := rc3 HB2
  have f3 := free HB2 3
  unfold fnOf at c2
  go_wp2_with fail
  refine (field_line O resp g gb _ fv qq n fs (own l) _ HO3.out HT3.out ho hl64 (by omega)).mono ?_
  rintro e w4 ⟨e0, rfl, hc4, hR⟩
  have hs4 : w.heap.size ≤ (w2.setCell ⟨g, 3, none⟩ (.slice (some ⟨q, 0, none⟩) 0 C)).heap.size := by simpa [World.setCell] using hs2
  have HC4 := Lib.hid (HC3.out.trans hc4 (fun k hk => .inl hk))
  rcases hR with ⟨h0, hR⟩ | ⟨h0, hst, M, F, lv', n', wh, e1, q', fv', hF, hblk⟩
  · subst h0
    have HR := Lib.hid (hR.mono (new_size hs4))
    clear hR hc4 hcv c2 c3 f3 HB2
    go_wp2_with fail
    go_end0
    exact ⟨rfl, HR.out, HC4.out⟩
  · have HS := Lib.hid hst
    have HK := Lib.hid hblk
    have hn0 : ((e0 : Int) != 0) = true := by rw [bne_iff_ne]; omega
    clear hst hc4 hcv c2 c3 f3 HB2 hblk
    go_wp2_with fail
    refine (fail_any resp g M F lv' n' wh e1 q' fv' e0 _ hF HK.out).mono ?_
    rintro e w5 ⟨rfl, hb5, hc5⟩
    have HC5 := Lib.hid (HC4.out.trans hc5 (fun k hk => .inl (hk ▸ HO.out.og)))
    have HB5 := Lib.hid hb5
    clear hc5 hb5
    go_wp2_with fail
    go_end0
    exact ⟨rfl, by rw [HS.out]; exact ⟨M, F, hF, HB5.out, .inl HO.out.og⟩, HC5.out⟩
theorem end_any (O : Nat → Prop) (resp : Bool) (g gb : Nat) (lv fv : Value) (p : Option Parts) (l : Bs) (n : Nat) (fs : List Fl) (w : World) (h : On w O resp g gb lv fv p (l ++ [10]) n fs) (hT : Tab w) (ho : ¬ O 0) (hl64 : fs.length ≤ 64) (hl8 : l.length ≤ 8192) :
    Calls Tryd.prog 71 #[.pointer (some ⟨g, 0, none⟩)] w (EndPost O resp g (ended resp p n fs (own l)) w) := by
  cases p with
  | none => exact end_none O resp g gb lv fv l n fs w h hT ho
  | some qq => exact end_some O resp qq g gb lv fv l n fs w h hT ho hl64 hl8
end Go.Proofs.YtoofdompafkddaaDoor.Hd
/-
  Where a line ends; bytes.IndexByte at a byte 10; a whole step of a reader. No condition but what a slice can have.
-/
namespace Go.Proofs.YtoofdompafkddaaDoor.Hd
open Go.RowKit Go.Proofs.YtoofdompafkddaaDoor.Tk Go.Proofs.YtoofdompafkddaaDoor.Fd
set_option linter.unusedVariables false

/-- What a step took, and where the reader stands then: the rest is read from there. -/
def Took (resp : Bool) (s : St) (b : Bs) (k : Nat) (st : St) : Prop := 0 < k ∧ k ≤ b.length ∧ run resp s b = (k + (run resp st (b.drop k)).1, (run resp st (b.drop k)).2) ∧ (Good s → Good st)
theorem took_line {resp : Bool} {b : Bs} {p : Option Parts} {l : Bs} {n i : Nat} {fs : List Fl} (hi : i < b.length) (hb : b = b.take i ++ 10 :: b.drop (i + 1)) (h10 : ∀ c ∈ b.take i, c ≠ 10) (hr : i < room p l n) :
    Took resp (.on p l n fs) b (i + 1) (ended resp p (n + (i + 1)) fs (own (l ++ b.take i))) := by
  have hl : (b.take i).length = i := by rw [List.length_take]; omega
  have := run_line (resp := resp) (fs := fs) (r := b.drop (i + 1)) h10 (by rw [hl]; exact hr)
  rw [← hb, hl] at this
  refine ⟨by omega, by omega, this, fun hg => ?_⟩
  have h2 := run_line (resp := resp) (fs := fs) (r := []) h10 (by rw [hl]; exact hr)
  have h3 := good_run resp (b.take i ++ [10]) hg
  rw [h2, run_nil, hl] at h3
  exact h3
theorem took_big {resp : Bool} {b : Bs} {p : Option Parts} {l : Bs} {n : Nat} {fs : List Fl} (h10 : ∀ c ∈ b.take (room p l n), c ≠ 10) (hr : room p l n < b.length) : Took resp (.on p l n fs) b (room p l n + 1) (.bad 3) := by
  refine ⟨by omega, by omega, ?_, fun _ => .inl rfl⟩
  rw [run_big h10 hr, run_over (s := .bad 3) rfl]; rfl
theorem took_part {resp : Bool} {b : Bs} {p : Option Parts} {l : Bs} {n : Nat} {fs : List Fl} (hb : 0 < b.length) (h10 : ∀ c ∈ b, c ≠ 10) (hr : b.length ≤ room p l n) : Took resp (.on p l n fs) b b.length (.on p (l ++ b) (n + b.length) fs) := by
  refine ⟨hb, Nat.le_refl _, ?_, fun hg => ?_⟩
  · rw [run_part h10 hr, List.drop_length, run_nil]; rfl
  · have h3 := good_run resp b hg
    rw [run_part h10 hr] at h3
    exact h3
end Go.Proofs.YtoofdompafkddaaDoor.Hd
/-
  slices.Grow at bytes, and a reader's keep: what each leaves. Condition: at most 2^40 bytes.
-/
namespace Go.Proofs.YtoofdompafkddaaDoor.Hd
open Go.RowKit Go.Proofs.YtoofdompafkddaaDoor.Tk Go.Proofs.YtoofdompafkddaaDoor.Fd
set_option linter.unusedVariables false

def KeepPost (O : Nat → Prop) (resp : Bool) (g gb : Nat) (fv : Value) (p : Option Parts) (l : Bs) (n : Nat) (fs : List Fl) (w : World) (e : Ending) (w' : World) : Prop :=
  e = .returned (.tuple #[]) ∧ (∃ lv, On w' (New O w) resp g gb lv fv p l n fs) ∧ Chg O w w'

set_option maxRecDepth 100000 in
set_option maxHeartbeats 4000000 in
theorem keep_any (O : Nat → Prop) (resp : Bool) (g gb : Nat) (lv fv : Value) (p : Option Parts) (l : Bs) (n : Nat) (fs : List Fl) (v : Value) (b : Bs) (w : World)
    (h : On w O resp g gb lv fv p l n fs) (hv : Byts w v b) (ho : ∀ k, v.ownBlock = some k → ¬ O k) (hb : 0 < b.length) (hl : l.length + b.length ≤ 1099511627776) (hn : n + b.length ≤ 1099511627776) :
    Calls Tryd.prog 70 #[.pointer (some ⟨g, 0, none⟩), v] w (KeepPost O resp g gb fv p (l ++ b) (n + b.length) fs w) := by
  rcases hv with ⟨rfl, _⟩ | ⟨B, off, cap, rfl, hcap, hcm, hB, hh⟩
  · simp at hb
  have hOB : ¬ O B := ho B rfl
  have HO := Lib.hid h
  have HH := Lib.hid hh
  obtain ⟨a, c, hls⟩ := h.line.shape
  subst hls
  have c3 := rc3 h.blk
  clear h hh ho
  go_enter Tryd.func70, Tryd.ntmps70
  go_wp2_with fail
  refine (grow_any _ l b.length _ HO.out.line hb hl).mono ?_
  rintro e w1 ⟨q, C, cur, rfl, hrow, hb1, hq⟩
  have HR := Lib.hid hrow
  have hK1 := Bl.old hb1 (block_lt HO.out.blk) HO.out.blk
  have hqg : q ≠ g := apart_of hrow.blk hK1 (by decide)
  have hBg : B ≠ g := fun e => hOB (e ▸ HO.out.og)
  have hBq : B ≠ q := fun e => by
    rcases hq with hq | hq
    · exact hOB (e ▸ HO.out.ol q hq)
    · omega
  have hCr := hrow.room
  have hCm := hrow.cap
  unfold maxLen at hCm
  have hC0 : ¬ C = l.length := by omega
  have d3 := rc3 hK1
  have d4 := rc4 hK1
  have f3 := free hK1 3
  have f4 := free hK1 4
  have HN := Lib.hid (holds_below HH.out hb1 hB)
  clear c3
  have HQ := Lib.hid (show ∀ x, (w1.setCell ⟨g, 3, none⟩ x).heap[q]? = some (.cells cur 5 (0, 0)) from fun x => put_far hrow.blk (by show q ≠ g; exact hqg))
  have HSrc := Lib.hid (show ∀ x j u, (bys b)[j]? = some u → (w1.setCell ⟨g, 3, none⟩ x).cell? ((⟨B, off, none⟩ : Addr).add j) = some u from fun x j u hu => by
    have hj : j < b.length := by have := (List.getElem?_eq_some_iff.1 hu).1; rwa [bys_length] at this
    rw [bys_at b j hj] at hu
    rw [Addr.add_lit, World.cell?_of_block (w := w1) (put_far rfl (by show B ≠ g; exact hBg)), HN.out j hj]
    exact hu)
  have HB1 := Lib.hid hb1
  have HNq := Lib.hid (show New O w q from by
    rcases hq with hq | hq
    · exact .inl (HO.out.ol q hq)
    · exact .inr (by omega))
  have HR1 := Lib.hid (row_chg HO.out.flds (Chg.of_below (O := fun _ => False) hb1) HO.out.of (fun _ _ h => h))
  have HX1 := Lib.hid (Bl.old hb1 (block_lt HO.out.box) HO.out.box)
  have HK1 := Lib.hid hK1
  clear hrow hb1 hq
  have HP := Lib.hid (show ∀ x, (w1.setCell ⟨g, 3, none⟩ x).heap[g]? = _ from fun x => rc_put3 hK1 x)
  clear d4 f4 hK1
  go_wp2_with ((with_reducible show wpList _ _ _ (⟨some 32, _, _, _, _, _⟩ :: _) _ _); refine wpList_copy_own rfl (.tmp 30) (.tmp 31) 22 22 rfl 5 Tryd.underlying22 infoByte q l.length b.length (C - l.length) ⟨B, off, none⟩ b.length cap (by rfl) (by rfl) cur 5 (HQ.out _) (bys b) (by rw [bys_length]; simp) (HSrc.out _) (by rw [bys_length]; have := HR.out.size; omega) (bys_one b) ?_; obtain ⟨W2, hW2⟩ : ∃ W2, W2 = (w1.setCell ⟨g, 3, none⟩ (.slice (some ⟨q, 0, none⟩) (l.length + b.length) C)).setRow q (cur.toList.take l.length ++ (bys b ++ cur.toList.drop (l.length + (bys b).length))).toArray := ⟨_, rfl⟩; rw [← hW2]; have hK2 := row_far (g := q) (cs := (cur.toList.take l.length ++ (bys b ++ cur.toList.drop (l.length + (bys b).length))).toArray) (HP.out (.slice (some ⟨q, 0, none⟩) (l.length + b.length) C)) (Ne.symm hqg); rw [← hW2] at hK2; have d4 := rc4 hK2; have f4 := free hK2 4; have HW2 := Lib.hid hW2; clear hW2 d3 f3)
  go_end0
  have hK3 := rc_put4 hK2 (n + b.length)
  have hxg : gb ≠ g := apart_of HX1.out HK1.out (by decide)
  have hxq : gb ≠ q := apart_of HX1.out HR.out.blk (by decide)
  have hfg : ∀ k, fv.ownBlock = some k → k ≠ g := fun k hk => by obtain ⟨cu, hcu⟩ := row_type HR1.out hk; exact apart_of hcu HK1.out (by decide)
  have hfq : ∀ k, fv.ownBlock = some k → k ≠ q := fun k hk => by obtain ⟨cu, hcu⟩ := row_type HR1.out hk; exact apart_of hcu HR.out.blk (by decide)
  refine ⟨rfl, ⟨.slice (some ⟨q, 0, none⟩) (l.length + b.length) C, hK3, ?_, ?_, ?_, .inl HO.out.og, .inl HO.out.ob, fun k hk => ?_, fun k hk => .inl (HO.out.of k hk)⟩, ?_⟩
  · rw [HW2.out]
    exact put_far (row_far (put_far HX1.out (by show gb ≠ g; exact hxg)) hxq) (by show gb ≠ g; exact hxg)
  · rw [HW2.out]
    have hr := RowB.owns (b := b) (w := w1.setCell ⟨g, 3, none⟩ (.slice (some ⟨q, 0, none⟩) (l.length + b.length) C)) ⟨HQ.out _, HR.out.size, HR.out.cap, HR.out.room, HR.out.here⟩
    rw [List.length_append] at hr
    exact row_same hr fun k hk => by injection hk with hk; subst hk; exact put_far rfl (by show q ≠ g; exact hqg)
  · rw [HW2.out]
    exact row_same HR1.out fun k hk => put_far (row_far (put_far rfl (by show k ≠ g; exact hfg k hk)) (hfq k hk)) (by show k ≠ g; exact hfg k hk)
  · injection hk with hk; subst hk; exact HNq.out
  · rw [HW2.out]
    exact (((Chg.of_below HB1.out).put _ _ (.inl HO.out.og)).row q _ HNq.out).put _ _ (.inl HO.out.og)
end Go.Proofs.YtoofdompafkddaaDoor.Hd
