/-
  A reader's end: what it leaves. Conditions: at most 8192 bytes; the table of token bytes.
-/
import Derived.Test.YtlnlihkljnkhiaaDoorHdLine
import Derived.Lib.SlBytesConst
namespace Go.Proofs.YtlnlihkljnkhiaaDoor.Hd
open Go.RowKit Go.Proofs.YtlnlihkljnkhiaaDoor.Tk Go.Proofs.YtlnlihkljnkhiaaDoor.Fd
set_option linter.unusedVariables false

def EndPost (O : Nat → Prop) (resp : Bool) (g : Nat) (st : St) (w : World) (e : Ending) (w' : World) : Prop := e = .returned (.tuple #[]) ∧ Rdr w' (New O w) resp g st ∧ Chg O w w'
theorem own_take (l : Bs) : own l = l.take (own l).length := cutEnd_take 13 l
set_option maxRecDepth 100000 in
set_option maxHeartbeats 4000000 in
theorem end_none (O : Nat → Prop) (resp : Bool) (g gb : Nat) (lv fv : Value) (l : Bs) (n : Nat) (fs : List Fl) (w : World) (h : On w O resp g gb lv fv none (l ++ [10]) n fs) (hT : Tab w) (ho : ¬ O 0) :
    Calls Tryd.prog 35 #[.pointer (some ⟨g, 0, none⟩)] w (EndPost O resp g (ended resp none n fs (own l)) w) := by
  rcases h.line.2 with ⟨_, h0⟩ | ⟨q, C, cur, hv, _, hh, hlc, hcm, hcs, htk⟩
  · simp at h0
  have hl1 : (l ++ [10]).length = l.length + 1 := by simp
  rw [hl1] at hv hlc
  subst hv
  have HO := Lib.hid h
  have hB := h.blk
  have hL := h.line
  have hqg : q ≠ g := apart_of hh hB (by decide)
  have hLh : Holds w q 0 (l ++ [10]) := OwnB.holds hL (by rw [hl1])
  have hqw := block_lt hh
  have c2 := rc2 hB
  have c3 := rc3 hB
  have f3 := free hB 3
  unfold fnOf at c2
  clear h htk hcs hh
  have HB := Lib.hid hB
  have HH := Lib.hid hLh
  clear hB hL hLh
  have kc := fun (w : World) (C : Array Value) (n c : Nat) => Lib.run_convert_bytes_const (P := Tryd.prog) w 22 5 C n c Tryd.underlying22 Tryd.underlying5
  have HC1 := Lib.hid (cutEnd_snoc 10 l)
  have HC2 := Lib.hid (show (cutEnd 13 l) = own l from rfl)
  have hol := own_length l
  have hconv := fun (W : World) (h : Holds W q 0 (own l)) => Tk.run_back (P := Tryd.prog) W 22 9 5 q 0 C (own l) Tryd.underlying22 Tryd.underlying5 Tryd.underlying9 h
  have HV := Lib.hid hconv
  obtain ⟨w1, hw1⟩ : ∃ w1, w1 = w.alloc (.cells #[.int .u8 10] 5 (1, 2)) := ⟨_, rfl⟩
  have hb1 : Below w.heap.size w w1 := by rw [hw1]; exact (Below.refl _ _).alloc (Nat.le_refl _) _
  have HN1 := Lib.hid (show w1.heap[w.heap.size]? = some (.cells #[.int .u8 10] 5 (1, 2)) from by rw [hw1]; exact new_block _ _)
  obtain ⟨w2, hw2⟩ : ∃ w2, w2 = w1.alloc (.cells #[.int .u8 13] 5 (1, 2)) := ⟨_, rfl⟩
  have hb2 : Below w1.heap.size w1 w2 := by rw [hw2]; exact (Below.refl _ _).alloc (Nat.le_refl _) _
  have HN2 := Lib.hid (show w2.heap[w1.heap.size]? = some (.cells #[.int .u8 13] 5 (1, 2)) from by rw [hw2]; exact new_block _ _)
  have HX1 := Lib.hid (holds_below HH.out hb1 hqw)
  have HX2 := Lib.hid (holds_below HX1.out hb2 (by have := hb1.size; omega))
  have HB1 := Bl.old hb1 (block_lt HB.out) HB.out
  have HB2 := Bl.old hb2 (block_lt HB1) HB1
  have HBB := Lib.hid (Bl.next hb1 hb2)
  have HO2 := Lib.hid (HO.out.below (Bl.next hb1 hb2))
  have HO3 := Lib.hid HO2.out.cut
  have hs2 : w.heap.size ≤ w2.heap.size := (Bl.next hb1 hb2).size
  have HC3 := Lib.hid ((Chg.of_below (O := O) (Bl.next hb1 hb2)).put ⟨g, 3, none⟩ (.slice (some ⟨q, 0, none⟩) 0 C) (.inl HO.out.og))
  have HT3 := Lib.hid (Tab.chg hT HC3.out ho)
  have HW1 := Lib.hid hw1
  have HW2 := Lib.hid hw2
  have HCV := Lib.hid (HV.out w2 (by rw [own_take]; exact Holds_take (l := l) (by have := Holds_take HX2.out l.length; rwa [List.take_left] at this) _))
  clear hw1 hw2 hb1 hb2 HB1 HV hconv
  go_enter Tryd.func35, Tryd.ntmps35
  go_wp2_with fail
  rw [← hl1, ← HW1.out]
  refine (trimsuf_any q 0 C (l ++ [10]) w.heap.size 10 _ (by rw [hl1]; exact hlc) hcm HX1.out (by rw [Lib.cell_of_heap HN1.out]; rfl)).mono ?_
  rintro e x1 ⟨rfl, rfl⟩
  rw [HC1.out]
  clear c2 c3 f3
  go_wp2_with fail
  rw [← HW2.out]
  refine (trimsuf_any q 0 C l w1.heap.size 13 _ (by omega) hcm (by have := Holds_take HX2.out l.length; rwa [List.take_left] at this) (by rw [Lib.cell_of_heap HN2.out]; rfl)).mono ?_
  rintro e x2 ⟨rfl, rfl⟩
  rw [HC2.out]
  have hcv := HCV.out
  have c2 := rc2 HB2
  have c3 := rc3 HB2
  have f3 := free HB2 3
  unfold fnOf at c2
  go_wp2_with fail
  refine (opening_line O resp g gb _ fv n fs (own l) _ HO3.out HT3.out ho).mono ?_
  rintro e w4 ⟨e0, rfl, hc4, hR⟩
  have hs4 : w.heap.size ≤ (w2.setCell ⟨g, 3, none⟩ (.slice (some ⟨q, 0, none⟩) 0 C)).heap.size := by simpa [World.setCell] using hs2
  have HC4 := Lib.hid (HC3.out.trans hc4 (fun k hk => .inl hk))
  rcases hR with ⟨h0, hR⟩ | ⟨h0, hst, M, F, lv', n', wh, e1, q', fv', hF, hblk⟩
  · subst h0
    have HR := Lib.hid (hR.mono (new_size hs4))
    clear hR hc4 hcv c2 c3 f3 HB2
    go_wp2_with fail
    go_end0
    exact ⟨rfl, HR.out, HC4.out⟩
  · have HS := Lib.hid hst
    have HK := Lib.hid hblk
    have hn0 : ((e0 : Int) != 0) = true := by rw [bne_iff_ne]; omega
    clear hst hc4 hcv c2 c3 f3 HB2 hblk
    go_wp2_with fail
    refine (fail_any resp g M F lv' n' wh e1 q' fv' e0 _ hF HK.out).mono ?_
    rintro e w5 ⟨rfl, hb5, hc5⟩
    have HC5 := Lib.hid (HC4.out.trans hc5 (fun k hk => .inl (hk ▸ HO.out.og)))
    have HB5 := Lib.hid hb5
    clear hc5 hb5
    go_wp2_with fail
    go_end0
    exact ⟨rfl, by rw [HS.out]; exact ⟨M, F, hF, HB5.out, .inl HO.out.og⟩, HC5.out⟩
set_option maxRecDepth 100000 in
set_option maxHeartbeats 4000000 in
theorem end_some (O : Nat → Prop) (resp : Bool) (qq : Parts) (g gb : Nat) (lv fv : Value) (l : Bs) (n : Nat) (fs : List Fl) (w : World) (h : On w O resp g gb lv fv (some qq) (l ++ [10]) n fs) (hT : Tab w) (ho : ¬ O 0) (hl64 : fs.length ≤ 64) (hl8 : l.length ≤ 8192) :
    Calls Tryd.prog 35 #[.pointer (some ⟨g, 0, none⟩)] w (EndPost O resp g (ended resp (some qq) n fs (own l)) w) := by
  rcases h.line.2 with ⟨_, h0⟩ | ⟨q, C, cur, hv, _, hh, hlc, hcm, hcs, htk⟩
  · simp at h0
  have hl1 : (l ++ [10]).length = l.length + 1 := by simp
  rw [hl1] at hv hlc
  subst hv
  have HO := Lib.hid h
  have hB := h.blk
  have hL := h.line
  have hqg : q ≠ g := apart_of hh hB (by decide)
  have hLh : Holds w q 0 (l ++ [10]) := OwnB.holds hL (by rw [hl1])
  have hqw := block_lt hh
  have c2 := rc2 hB
  have c3 := rc3 hB
  have f3 := free hB 3
  unfold fnOf at c2
  clear h htk hcs hh
  have HB := Lib.hid hB
  have HH := Lib.hid hLh
  clear hB hL hLh
  have kc := fun (w : World) (C : Array Value) (n c : Nat) => Lib.run_convert_bytes_const (P := Tryd.prog) w 22 5 C n c Tryd.underlying22 Tryd.underlying5
  have HC1 := Lib.hid (cutEnd_snoc 10 l)
  have HC2 := Lib.hid (show (cutEnd 13 l) = own l from rfl)
  have hol := own_length l
  have hconv := fun (W : World) (h : Holds W q 0 (own l)) => Tk.run_back (P := Tryd.prog) W 22 9 5 q 0 C (own l) Tryd.underlying22 Tryd.underlying5 Tryd.underlying9 h
  have HV := Lib.hid hconv
  obtain ⟨w1, hw1⟩ : ∃ w1, w1 = w.alloc (.cells #[.int .u8 10] 5 (1, 2)) := ⟨_, rfl⟩
  have hb1 : Below w.heap.size w w1 := by rw [hw1]; exact (Below.refl _ _).alloc (Nat.le_refl _) _
  have HN1 := Lib.hid (show w1.heap[w.heap.size]? = some (.cells #[.int .u8 10] 5 (1, 2)) from by rw [hw1]; exact new_block _ _)
  obtain ⟨w2, hw2⟩ : ∃ w2, w2 = w1.alloc (.cells #[.int .u8 13] 5 (1, 2)) := ⟨_, rfl⟩
  have hb2 : Below w1.heap.size w1 w2 := by rw [hw2]; exact (Below.refl _ _).alloc (Nat.le_refl _) _
  have HN2 := Lib.hid (show w2.heap[w1.heap.size]? = some (.cells #[.int .u8 13] 5 (1, 2)) from by rw [hw2]; exact new_block _ _)
  have HX1 := Lib.hid (holds_below HH.out hb1 hqw)
  have HX2 := Lib.hid (holds_below HX1.out hb2 (by have := hb1.size; omega))
  have HB1 := Bl.old hb1 (block_lt HB.out) HB.out
  have HB2 := Bl.old hb2 (block_lt HB1) HB1
  have HBB := Lib.hid (Bl.next hb1 hb2)
  have HO2 := Lib.hid (HO.out.below (Bl.next hb1 hb2))
  have HO3 := Lib.hid HO2.out.cut
  have hs2 : w.heap.size ≤ w2.heap.size := (Bl.next hb1 hb2).size
  have HC3 := Lib.hid ((Chg.of_below (O := O) (Bl.next hb1 hb2)).put ⟨g, 3, none⟩ (.slice (some ⟨q, 0, none⟩) 0 C) (.inl HO.out.og))
  have HT3 := Lib.hid (Tab.chg hT HC3.out ho)
  have HW1 := Lib.hid hw1
  have HW2 := Lib.hid hw2
  have HCV := Lib.hid (HV.out w2 (by rw [own_take]; exact Holds_take (l := l) (by have := Holds_take HX2.out l.length; rwa [List.take_left] at this) _))
  clear hw1 hw2 hb1 hb2 HB1 HV hconv
  go_enter Tryd.func35, Tryd.ntmps35
  go_wp2_with fail
  rw [← hl1, ← HW1.out]
  refine (trimsuf_any q 0 C (l ++ [10]) w.heap.size 10 _ (by rw [hl1]; exact hlc) hcm HX1.out (by rw [Lib.cell_of_heap HN1.out]; rfl)).mono ?_
  rintro e x1 ⟨rfl, rfl⟩
  rw [HC1.out]
  clear c2 c3 f3
  go_wp2_with fail
  rw [← HW2.out]
  refine (trimsuf_any q 0 C l w1.heap.size 13 _ (by omega) hcm (by have := Holds_take HX2.out l.length; rwa [List.take_left] at this) (by rw [Lib.cell_of_heap HN2.out]; rfl)).mono ?_
  rintro e x2 ⟨rfl, rfl⟩
  rw [HC2.out]
  have hcv := HCV.out
  have c2 := rc2 HB2
  have c3 := rc3 HB2
  have f3 := free HB2 3
  unfold fnOf at c2
  go_wp2_with fail
  refine (field_line O resp g gb _ fv qq n fs (own l) _ HO3.out HT3.out ho hl64 (by omega)).mono ?_
  rintro e w4 ⟨e0, rfl, hc4, hR⟩
  have hs4 : w.heap.size ≤ (w2.setCell ⟨g, 3, none⟩ (.slice (some ⟨q, 0, none⟩) 0 C)).heap.size := by simpa [World.setCell] using hs2
  have HC4 := Lib.hid (HC3.out.trans hc4 (fun k hk => .inl hk))
  rcases hR with ⟨h0, hR⟩ | ⟨h0, hst, M, F, lv', n', wh, e1, q', fv', hF, hblk⟩
  · subst h0
    have HR := Lib.hid (hR.mono (new_size hs4))
    clear hR hc4 hcv c2 c3 f3 HB2
    go_wp2_with fail
    go_end0
    exact ⟨rfl, HR.out, HC4.out⟩
  · have HS := Lib.hid hst
    have HK := Lib.hid hblk
    have hn0 : ((e0 : Int) != 0) = true := by rw [bne_iff_ne]; omega
    clear hst hc4 hcv c2 c3 f3 HB2 hblk
    go_wp2_with fail
    refine (fail_any resp g M F lv' n' wh e1 q' fv' e0 _ hF HK.out).mono ?_
    rintro e w5 ⟨rfl, hb5, hc5⟩
    have HC5 := Lib.hid (HC4.out.trans hc5 (fun k hk => .inl (hk ▸ HO.out.og)))
    have HB5 := Lib.hid hb5
    clear hc5 hb5
    go_wp2_with fail
    go_end0
    exact ⟨rfl, by rw [HS.out]; exact ⟨M, F, hF, HB5.out, .inl HO.out.og⟩, HC5.out⟩
theorem end_any (O : Nat → Prop) (resp : Bool) (g gb : Nat) (lv fv : Value) (p : Option Parts) (l : Bs) (n : Nat) (fs : List Fl) (w : World) (h : On w O resp g gb lv fv p (l ++ [10]) n fs) (hT : Tab w) (ho : ¬ O 0) (hl64 : fs.length ≤ 64) (hl8 : l.length ≤ 8192) :
    Calls Tryd.prog 35 #[.pointer (some ⟨g, 0, none⟩)] w (EndPost O resp g (ended resp p n fs (own l)) w) := by
  cases p with
  | none => exact end_none O resp g gb lv fv l n fs w h hT ho
  | some qq => exact end_some O resp qq g gb lv fv l n fs w h hT ho hl64 hl8
end Go.Proofs.YtlnlihkljnkhiaaDoor.Hd
