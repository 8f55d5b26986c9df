/-
  What SlabBack's calls return, step by step; bytes as texts. No condition.
-/
import Derived.Test.YtheljldoboiekaaSlLw
import Derived.Test.YtheljldoboiekaaSlPWrite
import Derived.Test.YtheljldoboiekaaSlPRead
import Derived.Test.YtheljldoboiekaaHdByts
namespace Go.Proofs.Ytheljldoboiekaa.Sl
open Go.RowKit Go.Proofs.Ytheljldoboiekaa.Fd
set_option maxRecDepth 100000
set_option linter.unusedVariables false
set_option linter.unusedSimpArgs false

/-- Hold of a handle that is not right: nothing is changed. -/
theorem phold_stale {base p : Nat} {n : Nat → Nat} {A : Ar} {G : Nat} (c i g : Int) (w : World) (h : PRel w base p n A G) (h1 : rightA A (c, i, g) = none) :
    Calls Try.prog 13 #[.pointer (some ⟨p, 0, none⟩), .agg #[.int .i64 c, .int .i64 i, .int .i64 g]] w fun e w' => e = .returned (.int .i64 15) ∧ Below w.heap.size w w' := by
  obtain ⟨gs, Q, M, hP, hG⟩ := h.it
  have hB1 := (Below.refl w.heap.size w).alloc (Nat.le_refl _) (.cells #[.int .i64 c, .int .i64 i, .int .i64 g] 34)
  have HR := Lib.hid (pright_any c i g _ (hP.same hB1) hG.aged h.few)
  have h2 : rightV gs A (c, i, g) = .tuple #[.pointer none, .int .i64 15] := by unfold rightV; rw [h1]
  rw [h2] at HR
  clear h1 h2 hP hG h
  go_enter Try.func13, Try.ntmps13
  go_wp2_with fail
  refine HR.out.mono ?_
  rintro e w2 ⟨rfl, hb2⟩
  have HB := Lib.hid (Bl.next hB1 hb2)
  clear hb2 hB1 HR
  go_wp2_with fail
  go_ret
  exact ⟨rfl, HB.out⟩
/-- Bytes as they read. -/
def ReadsB (w : World) (v : Value) (l : Tk.Bs) : Prop := (l = [] ∧ ∃ a cap, v = .slice a 0 cap) ∨ ∃ g off cap, v = .slice (some ⟨g, off, none⟩) l.length cap ∧ g < w.heap.size ∧ ∀ j (hj : j < l.length), w.cell? ⟨g, off + j, none⟩ = some (.int .u8 (l[j].toNat : Int))
theorem ReadsB.conv {w : World} {v : Value} {l : Tk.Bs} (h : ReadsB w v l) : (convert 35 9 v).run Try.prog w = .ok (.string ⟨l.toArray⟩) w := by
  rcases h with ⟨rfl, a, cap, rfl⟩ | ⟨g, off, cap, rfl, _, h⟩
  · cases a with
    | none => exact run_convert_bytes_nil w 35 5 Try.underlying35 Try.underlying5 0 cap 9 Try.underlying9
    | some a => exact run_convert_bytes_back w 35 9 5 a cap [] Try.underlying35 Try.underlying5 Try.underlying9 (fun j hj => by simp at hj)
  · exact Tk.run_back (P := Try.prog) w 35 9 5 g off cap l Try.underlying35 Try.underlying5 Try.underlying9 h
theorem BytesP.reads {w : World} {base : Nat} {v : Value} {m : Tk.Bs} (h : BytesP w base v m) : ReadsB w v m := by
  have hr : w.ownsRow base 5 1 v m.length (u8l m) := h
  rcases hr.2 with ⟨h1, h2⟩ | ⟨g, cap, cur, h1, h2, h3, h4⟩
  · exact .inl ⟨List.length_eq_zero_iff.1 h2, none, 0, h1⟩
  · subst h1
    refine .inr ⟨g, 0, cap, rfl, block_lt h3, fun j hj => ?_⟩
    rw [Nat.zero_add, hr.cellAt j (by omega)]
    simp [u8l, hj]
theorem ReadsB.kept {w w' : World} {v : Value} {l : Tk.Bs} (h : ReadsB w v l) (hb : Below w.heap.size w w') : ReadsB w' v l := by
  rcases h with h | ⟨g, off, cap, h1, h2, h3⟩
  · exact .inl h
  · exact .inr ⟨g, off, cap, h1, Nat.lt_of_lt_of_le h2 hb.size, fun j hj => (hb.cell (p := ⟨g, off + j, none⟩) h2).trans (h3 j hj)⟩
theorem two_start (c : Nat) : newA (fun _ => 2) = two (newA fun _ => 2) c noB noB := by
  funext d
  unfold two upd
  split <;> rfl
theorem two_reads {c m : Nat} (hm : m ≤ 4095) (hc : classN m = c) : c < 4 ∧ m ≤ sizeC c := ⟨by rw [← hc]; exact classN_lt _, by rw [← hc]; exact classN_fit (by omega)⟩
section
variable {base p : Nat} {n : Nat → Nat} {A : Ar} {c m : Nat}
theorem bk_al1 (hm : m ≤ 4095) (hc : classN m = c) (V : World) (h : PRel V base p n (two A c noB noB) 0) :
    Calls Try.prog 11 #[.pointer (some ⟨p, 0, none⟩), .int .i64 (m : Int)] V fun e w' =>
      e = .returned (.tuple #[.agg #[.int .i64 (c : Int), .int .i64 0, .int .i64 1], .int .i64 0]) ∧ PRel w' base p n (two A c ⟨1, 1, zer c⟩ noB) 1 ∧ Tn TP base V w' := by
  have h2 := palloc_any (m : Int) V h (by decide)
  have h3 := alloc_first (A := A) (n := m) (x := noB) (y := noB) (by omega) rfl
  rw [hc] at h3
  rw [h3] at h2
  exact h2
theorem bk_al2 (hm : m ≤ 4095) (hc : classN m = c) (V : World) (h : PRel V base p n (two A c ⟨1, 1, zer c⟩ noB) 1) :
    Calls Try.prog 11 #[.pointer (some ⟨p, 0, none⟩), .int .i64 (m : Int)] V fun e w' =>
      e = .returned (.tuple #[.agg #[.int .i64 (c : Int), .int .i64 1, .int .i64 1], .int .i64 0]) ∧ PRel w' base p n (two A c ⟨1, 1, zer c⟩ ⟨1, 1, zer c⟩) 2 ∧ Tn TP base V w' := by
  have h2 := palloc_any (m : Int) V h (by decide)
  have h3 := alloc_second (A := A) (n := m) (x := ⟨1, 1, zer c⟩) (y := noB) (by omega) (Nat.succ_ne_zero _) rfl
  rw [hc] at h3
  rw [h3] at h2
  exact h2
theorem bk_al3 (hm : m ≤ 4095) (hc : classN m = c) (M : Tk.Bs) (V : World) (h : PRel V base p n (two A c ⟨1, 0, M⟩ ⟨1, 1, zer c⟩) 2) :
    Calls Try.prog 11 #[.pointer (some ⟨p, 0, none⟩), .int .i64 (m : Int)] V fun e w' =>
      e = .returned (.tuple #[.agg #[.int .i64 (c : Int), .int .i64 0, .int .i64 2], .int .i64 0]) ∧ PRel w' base p n (two A c ⟨2, 1, zer c⟩ ⟨1, 1, zer c⟩) 3 ∧ Tn TP base V w' := by
  have h2 := palloc_any (m : Int) V h (by decide)
  have h3 := alloc_first (A := A) (n := m) (x := ⟨1, 0, M⟩) (y := ⟨1, 1, zer c⟩) (by omega) rfl
  rw [hc] at h3
  rw [h3] at h2
  exact h2
theorem rt1 (hc : c < 4) (M : Tk.Bs) (k : Nat) (y : Blk) : rightA (two A c ⟨1, k + 1, M⟩ y) ((c : Int), 0, 1) = some ⟨1, k + 1, M⟩ := right_first (x := ⟨1, k + 1, M⟩) hc (Nat.succ_ne_zero _)
theorem fits_at (hc : c < 4) (r l : Nat) (h : r + l ≤ sizeC c) : fitsI (c : Int) (r : Int) (l : Int) = true := by
  rw [fits_iff]
  have hS : sizesI (c : Int) = (sizeC c : Int) := by unfold sizesI; rw [if_pos (by omega), Int.toNat_natCast]
  rw [hS]; omega
theorem fits_not (hc : c < 4) (r l : Nat) (h : sizeC c < r + l) : fitsI (c : Int) (r : Int) (l : Int) = false := by
  have hS : sizesI (c : Int) = (sizeC c : Int) := by unfold sizesI; rw [if_pos (by omega), Int.toNat_natCast]
  rw [Bool.eq_false_iff, Ne, fits_iff, hS]; omega
theorem bk_big (hc : c < 4) (r : Nat) (v : Value) (bs : Tk.Bs) (V : World) (h : PRel V base p n (two A c ⟨1, 1, zer c⟩ ⟨1, 1, zer c⟩) 2) (hb : BytesL V base v bs) (hl : bs.length ≤ 1048576) (hbig : sizeC c < r + bs.length) :
    Calls Try.prog 17 #[.pointer (some ⟨p, 0, none⟩), .agg #[.int .i64 (c : Int), .int .i64 0, .int .i64 1], .int .i64 (r : Int), v] V fun e w' => e = .returned (.int .i64 2) ∧ Tn TP base V w' := by
  have h2 := pwrite_any (c : Int) 0 1 (r : Int) v bs V h hb (by omega)
  rw [write_of (rt1 hc (zer c) 0 _), fits_not hc r bs.length hbig] at h2
  exact h2.mono (fun e w' h3 => ⟨h3.1, h3.2.2⟩)
theorem bk_wr (hc : c < 4) (r : Nat) (v : Value) (bs : Tk.Bs) (V : World) (h : PRel V base p n (two A c ⟨1, 1, zer c⟩ ⟨1, 1, zer c⟩) 2) (hb : BytesL V base v bs) (hl : bs.length ≤ 1048576) (hfit : r + bs.length ≤ sizeC c) :
    Calls Try.prog 17 #[.pointer (some ⟨p, 0, none⟩), .agg #[.int .i64 (c : Int), .int .i64 0, .int .i64 1], .int .i64 (r : Int), v] V fun e w' =>
      e = .returned (.int .i64 0) ∧ PRel w' base p n (two A c ⟨1, 1, lay (zer c) r bs⟩ ⟨1, 1, zer c⟩) 2 ∧ Tn TP base V w' := by
  have h2 := pwrite_any (c : Int) 0 1 (r : Int) v bs V h hb (by omega)
  rw [write_of (rt1 hc (zer c) 0 _), fits_at hc r bs.length hfit] at h2
  simp only [if_true, put_first, Int.toNat_natCast] at h2
  exact h2
theorem bk_rd1 (hc : c < 4) (r : Nat) (bs : Tk.Bs) (V : World) (h : PRel V base p n (two A c ⟨1, 1, lay (zer c) r bs⟩ ⟨1, 1, zer c⟩) 2) (hfit : r + bs.length ≤ sizeC c) (hl : bs.length ≤ 1048576) :
    Calls Try.prog 19 #[.pointer (some ⟨p, 0, none⟩), .agg #[.int .i64 (c : Int), .int .i64 0, .int .i64 1], .int .i64 (r : Int), .int .i64 (bs.length : Int)] V (ReadP (bs, 0) V) := by
  have h2 := pread_any (c : Int) 0 1 (r : Int) (bs.length : Int) V h (by omega)
  have e : readA (two A c ⟨1, 1, lay (zer c) r bs⟩ ⟨1, 1, zer c⟩) ((c : Int), 0, 1) (r : Int) (bs.length : Int) = (bs, 0) := by
    unfold readA
    rw [rt1 hc (lay (zer c) r bs) 0 _]
    show (if fitsI (c : Int) (r : Int) (bs.length : Int) = true then _ else _) = _
    rw [fits_at hc r bs.length hfit]
    simp only [if_true, Int.toNat_natCast]
    rw [lay_read (by rw [zer_length]; exact hfit)]
  rw [e] at h2
  exact h2
theorem read_all (hc : c < 4) {B : Ar} {i g : Int} {k : Blk} (hr : rightA B ((c : Int), i, g) = some k) (hk : k.mem = zer c) : readA B ((c : Int), i, g) 0 (sizeC c : Int) = (zer c, 0) := by
  unfold readA
  rw [hr]
  show (if fitsI (c : Int) ((0 : Nat) : Int) (sizeC c : Int) = true then _ else _) = _
  rw [fits_at hc 0 (sizeC c) (by omega), hk]
  simp only [if_true, Int.toNat_natCast]
  rw [show (0 : Int).toNat = 0 from rfl, List.drop_zero, List.take_of_length_le (by rw [zer_length]; exact Nat.le_refl _)]
theorem bk_rd2 (hc : c < 4) (x : Blk) (V : World) (h : PRel V base p n (two A c x ⟨1, 1, zer c⟩) 2) :
    Calls Try.prog 19 #[.pointer (some ⟨p, 0, none⟩), .agg #[.int .i64 (c : Int), .int .i64 1, .int .i64 1], .int .i64 0, .int .i64 (sizeC c : Int)] V (ReadP (zer c, 0) V) := by
  have h2 := pread_any (c : Int) 1 1 0 (sizeC c : Int) V h (by have := sizeC_le hc; omega)
  rw [show readA (two A c x ⟨1, 1, zer c⟩) ((c : Int), 1, 1) 0 (sizeC c : Int) = (zer c, 0) from read_all (k := ⟨1, 1, zer c⟩) hc (right_second (y := ⟨1, 1, zer c⟩) hc (Nat.succ_ne_zero _)) rfl] at h2
  exact h2
theorem bk_rd3 (hc : c < 4) (y : Blk) (V : World) (h : PRel V base p n (two A c ⟨2, 1, zer c⟩ y) 3) :
    Calls Try.prog 19 #[.pointer (some ⟨p, 0, none⟩), .agg #[.int .i64 (c : Int), .int .i64 0, .int .i64 2], .int .i64 0, .int .i64 (sizeC c : Int)] V (ReadP (zer c, 0) V) := by
  have h2 := pread_any (c : Int) 0 2 0 (sizeC c : Int) V h (by have := sizeC_le hc; omega)
  rw [show readA (two A c ⟨2, 1, zer c⟩ y) ((c : Int), 0, 2) 0 (sizeC c : Int) = (zer c, 0) from read_all (k := ⟨2, 1, zer c⟩) hc (right_first (x := ⟨2, 1, zer c⟩) hc (Nat.succ_ne_zero _)) rfl] at h2
  exact h2
theorem bk_hold (hc : c < 4) (M : Tk.Bs) (y : Blk) (V : World) (h : PRel V base p n (two A c ⟨1, 1, M⟩ y) 2) :
    Calls Try.prog 13 #[.pointer (some ⟨p, 0, none⟩), .agg #[.int .i64 (c : Int), .int .i64 0, .int .i64 1]] V fun e w' => e = .returned (.int .i64 0) ∧ PRel w' base p n (two A c ⟨1, 2, M⟩ y) 2 ∧ Tn TP base V w' := by
  have h2 := phold_any (c : Int) 0 1 V h
  have e : holdA (two A c ⟨1, 1, M⟩ y) ((c : Int), 0, 1) = (0, two A c ⟨1, 2, M⟩ y) := by
    unfold holdA
    rw [rt1 hc M 0 y]
    show (if _ then _ else _) = _
    rw [if_neg (show ¬ (1 : Nat) = 1048576 by decide), put_first]
  rw [e] at h2
  exact h2
theorem bk_drop (hc : c < 4) (M : Tk.Bs) (y : Blk) (k : Nat) (V : World) (h : PRel V base p n (two A c ⟨1, k + 1, M⟩ y) 2) :
    Calls Try.prog 15 #[.pointer (some ⟨p, 0, none⟩), .agg #[.int .i64 (c : Int), .int .i64 0, .int .i64 1]] V fun e w' => e = .returned (.int .i64 0) ∧ PRel w' base p n (two A c ⟨1, k, M⟩ y) 2 ∧ Tn TP base V w' := by
  have h2 := pdrop_any (c : Int) 0 1 V h
  have e : dropA (two A c ⟨1, k + 1, M⟩ y) ((c : Int), 0, 1) = (0, two A c ⟨1, k, M⟩ y) := by
    unfold dropA
    rw [rt1 hc M k y]
    show (_, putA _ _ _) = _
    rw [put_first]; rfl
  rw [e] at h2
  exact h2
theorem rt0 (hc : c < 4) (M : Tk.Bs) (y : Blk) : rightA (two A c ⟨1, 0, M⟩ y) ((c : Int), 0, 1) = none := right_gone (x := ⟨1, 0, M⟩) hc (.inr rfl)
theorem bk_drop0 (hc : c < 4) (M : Tk.Bs) (y : Blk) (V : World) (h : PRel V base p n (two A c ⟨1, 0, M⟩ y) 2) :
    Calls Try.prog 15 #[.pointer (some ⟨p, 0, none⟩), .agg #[.int .i64 (c : Int), .int .i64 0, .int .i64 1]] V fun e w' => e = .returned (.int .i64 15) ∧ PRel w' base p n (two A c ⟨1, 0, M⟩ y) 2 ∧ Tn TP base V w' := by
  have h2 := pdrop_any (c : Int) 0 1 V h
  rw [show dropA (two A c ⟨1, 0, M⟩ y) ((c : Int), 0, 1) = (15, two A c ⟨1, 0, M⟩ y) from by unfold dropA; rw [rt0 hc M y]] at h2
  exact h2
theorem bk_held1 (hc : c < 4) (M : Tk.Bs) (y : Blk) (V : World) (h : PRel V base p n (two A c ⟨1, 1, M⟩ y) 2) :
    Calls Try.prog 22 #[.pointer (some ⟨p, 0, none⟩), .agg #[.int .i64 (c : Int), .int .i64 0, .int .i64 1]] V fun e w' => e = .returned (.int .i64 1) ∧ Below V.heap.size V w' := by
  have h2 := pheld_any (c : Int) 0 1 V h
  rw [show heldA (two A c ⟨1, 1, M⟩ y) ((c : Int), 0, 1) = 1 from by unfold heldA; rw [rt1 hc M 0 y]; rfl] at h2
  exact h2
theorem bk_held0 (hc : c < 4) (M : Tk.Bs) (y : Blk) (V : World) (h : PRel V base p n (two A c ⟨1, 0, M⟩ y) 2) :
    Calls Try.prog 22 #[.pointer (some ⟨p, 0, none⟩), .agg #[.int .i64 (c : Int), .int .i64 0, .int .i64 1]] V fun e w' => e = .returned (.int .i64 0) ∧ Below V.heap.size V w' := by
  have h2 := pheld_any (c : Int) 0 1 V h
  rw [show heldA (two A c ⟨1, 0, M⟩ y) ((c : Int), 0, 1) = 0 from by unfold heldA; rw [rt0 hc M y]] at h2
  exact h2
theorem bk_stale (hc : c < 4) (y : Blk) (V : World) (h : PRel V base p n (two A c ⟨2, 1, zer c⟩ y) 3) :
    Calls Try.prog 13 #[.pointer (some ⟨p, 0, none⟩), .agg #[.int .i64 (c : Int), .int .i64 0, .int .i64 1]] V fun e w' => e = .returned (.int .i64 15) ∧ Below V.heap.size V w' :=
  phold_stale (c : Int) 0 1 V h (right_gone (x := ⟨2, 1, zer c⟩) hc (.inl (show ((2 : Nat) : Int) ≠ 1 by decide)))
end
end Go.Proofs.Ytheljldoboiekaa.Sl
