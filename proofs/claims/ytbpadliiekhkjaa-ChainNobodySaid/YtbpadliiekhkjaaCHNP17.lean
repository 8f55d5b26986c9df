/-
  Texts that the laws' proofs stand on, 3 of them in one file; each one's head says what it proves and under which condition.
-/
import Derived.Test.YtbpadliiekhkjaaCHNP16
import Derived.Lib.SmallJoins
import Derived.SizedLaws
import Derived.ProofKit
import Derived.ChangeArms
import Derived.OpenShut
import Derived.Test.YtbpadliiekhkjaaCHNP12
import Derived.Test.YtbpadliiekhkjaaCHNP10
/-
  A slice of bytes, as it reads; one that came in. Condition: what the form says of what is read.
-/
namespace Go.Proofs.Ytbpadliiekhkjaa.Hd
open Go.RowKit Go.Proofs.Ytbpadliiekhkjaa.Tk Go.ChangeShapes Go.WideShapes
set_option linter.unusedVariables false

/-- A slice value that reads as these bytes. -/
def Byts (w : World) (v : Value) (l : Bs) : Prop :=
  (l = [] ∧ ∃ a cap, v = .slice a 0 cap) ∨ ∃ b off cap, v = .slice (some ⟨b, off, none⟩) l.length cap ∧ l.length ≤ cap ∧ cap ≤ maxLen ∧ b < w.heap.size ∧ Holds w b off l
theorem holds_below {B : Nat} {w w' : World} {b off : Nat} {l : Bs} (h : Holds w b off l) (hb : Below B w w') (hB : b < B) : Holds w' b off l := fun j hj => by
  rw [hb.cell (p := ⟨b, off + j, none⟩) hB]; exact h j hj
theorem Byts.below {B : Nat} {w w' : World} {v : Value} {l : Bs} (h : Byts w v l) (hb : Below B w w') (hB : w.heap.size ≤ B) : Byts w' v l := by
  rcases h with h | ⟨b, off, cap, hv, hc, hm, hlt, hh⟩
  · exact .inl h
  · exact .inr ⟨b, off, cap, hv, hc, hm, Nat.lt_of_lt_of_le hlt hb.size, holds_below hh hb (by omega)⟩
theorem Byts.shape {w : World} {v : Value} {l : Bs} (h : Byts w v l) : ∃ a cap, v = .slice a l.length cap := by
  rcases h with ⟨rfl, a, cap, hv⟩ | ⟨b, off, cap, hv, _⟩
  · exact ⟨a, cap, hv⟩
  · exact ⟨_, cap, hv⟩

theorem cellsByte : Try.prog.cellsOf 5 = 1 := by kernel_rfl
theorem byte_back {n : Int} (h : (Lit.int .u8 n).wf = true) : (((UInt8.ofNat n.toNat).toNat : Nat) : Int) = n := by
  have h2 : 0 ≤ n ∧ n < 256 := by
    have e1 : IntKind.u8.min = 0 := rfl
    have e2 : IntKind.u8.max = 255 := rfl
    simp [Lit.wf, e1, e2] at h
    omega
  rw [UInt8.toNat_ofNat']
  omega
set_option maxRecDepth 100000 in
theorem open_byts {H : Type} {enc : TypeId × Value → H} {W : World} {base : Nat} {v : Value} {d : DataW H} {p : List MemPlace} (hv : Value.okWide Try.prog W .any base 36 v)
    (h : DataW.Trod enc Try.prog W 0 (fun _ => true) true 36 v d p) :
    ∃ l : Bs, Byts W v l ∧ l.length ≤ maxLen := by
  obtain ⟨a0, len0, cap0, rfl⟩ := okWide_slice Try.underlying36 hv
  obtain ⟨fuel, hf⟩ := h
  rcases open_ints Try.underlying36 Try.underlying5 cellsByte hf with ⟨hcs, _⟩ | ⟨a, len, cap, zs, hcs, _, hl, hm, hz, hx, hcell, hwz⟩
  · simp [Value.cells] at hcs
    obtain ⟨rfl, rfl, rfl⟩ := hcs
    exact ⟨[], .inl ⟨rfl, _, _, rfl⟩, by simp⟩
  · simp [Value.cells] at hcs
    obtain ⟨rfl, rfl, rfl⟩ := hcs
    simp only [if_true] at hz
    by_cases h0 : len0 = 0
    · subst h0; exact ⟨[], .inl ⟨rfl, _, _, rfl⟩, by simp⟩
    · obtain ⟨b, off, spot⟩ := a
      have hc0 := hcell 0 (by omega)
      have hspot : spot = none := by simpa [Addr.add] using World.cell?_spot hc0
      subst hspot
      have hlen : ((zs.take len0).map fun n => UInt8.ofNat n.toNat).length = len0 := by simp; omega
      refine ⟨(zs.take len0).map fun n => UInt8.ofNat n.toNat, .inr ⟨b, off, cap0, by rw [hlen], by rw [hlen]; exact hl, hm, ?_, fun j hj => ?_⟩, by rw [hlen]; omega⟩
      · rw [Addr.add_lit] at hc0
        exact World.block_lt_of_cell? W _ hc0
      · rw [hlen] at hj
        have hcj := hcell j (by omega)
        rw [Addr.add_lit] at hcj
        have hjz : j < zs.length := by omega
        have hw := hwz zs[j] (List.getElem_mem hjz)
        have e : zs.getD j 0 = zs[j] := by simp [List.getD, List.getElem?_eq_getElem hjz]
        rw [hcj, e]
        simp only [List.getElem_map, List.getElem_take]
        rw [byte_back hw]
end Go.Proofs.Ytbpadliiekhkjaa.Hd
/-
  What SlabBack's calls return, step by step; bytes as texts. No condition.
-/
-- cut by strips.py
namespace Go.Proofs.Ytbpadliiekhkjaa.Sl
open Go.RowKit Go.Proofs.Ytbpadliiekhkjaa.Fd
set_option maxRecDepth 100000
set_option linter.unusedVariables false
set_option linter.unusedSimpArgs false

/-- Hold of a handle that is not right: nothing is changed. -/
theorem phold_stale {base p : Nat} {n : Nat → Nat} {A : Ar} {G : Nat} (c i g : Int) (w : World) (h : PRel w base p n A G) (h1 : rightA A (c, i, g) = none) :
    Calls Try.prog 39 #[.pointer (some ⟨p, 0, none⟩), .agg #[.int .i64 c, .int .i64 i, .int .i64 g]] w fun e w' => e = .returned (.int .i64 15) ∧ Below w.heap.size w w' := by
  obtain ⟨gs, Q, M, hP, hG⟩ := h.it
  have hB1 := (Below.refl w.heap.size w).alloc (Nat.le_refl _) (.cells #[.int .i64 c, .int .i64 i, .int .i64 g] 78)
  have HR := Lib.hid (pright_any c i g _ (hP.same hB1) hG.aged h.few)
  have h2 : rightV gs A (c, i, g) = .tuple #[.pointer none, .int .i64 15] := by unfold rightV; rw [h1]
  rw [h2] at HR
  clear h1 h2 hP hG h
  go_enter Try.func39, Try.ntmps39
  go_wp2_with fail
  refine HR.out.mono ?_
  rintro e w2 ⟨rfl, hb2⟩
  have HB := Lib.hid (Bl.next hB1 hb2)
  clear hb2 hB1 HR
  go_wp2_with fail
  go_ret
  exact ⟨rfl, HB.out⟩
/-- Bytes as they read. -/
def ReadsB (w : World) (v : Value) (l : Tk.Bs) : Prop := (l = [] ∧ ∃ a cap, v = .slice a 0 cap) ∨ ∃ g off cap, v = .slice (some ⟨g, off, none⟩) l.length cap ∧ g < w.heap.size ∧ ∀ j (hj : j < l.length), w.cell? ⟨g, off + j, none⟩ = some (.int .u8 (l[j].toNat : Int))
theorem ReadsB.conv {w : World} {v : Value} {l : Tk.Bs} (h : ReadsB w v l) : (convert 36 9 v).run Try.prog w = .ok (.string ⟨l.toArray⟩) w := by
  rcases h with ⟨rfl, a, cap, rfl⟩ | ⟨g, off, cap, rfl, _, h⟩
  · cases a with
    | none => exact run_convert_bytes_nil w 36 5 Try.underlying36 Try.underlying5 0 cap 9 Try.underlying9
    | some a => exact run_convert_bytes_back w 36 9 5 a cap [] Try.underlying36 Try.underlying5 Try.underlying9 (fun j hj => by simp at hj)
  · exact Tk.run_back (P := Try.prog) w 36 9 5 g off cap l Try.underlying36 Try.underlying5 Try.underlying9 h
theorem BytesP.reads {w : World} {base : Nat} {v : Value} {m : Tk.Bs} (h : BytesP w base v m) : ReadsB w v m := by
  have hr : w.ownsRow base 5 1 v m.length (u8l m) := h
  rcases hr.2 with ⟨h1, h2⟩ | ⟨g, cap, cur, h1, h2, h3, h4⟩
  · exact .inl ⟨List.length_eq_zero_iff.1 h2, none, 0, h1⟩
  · subst h1
    refine .inr ⟨g, 0, cap, rfl, block_lt h3, fun j hj => ?_⟩
    rw [Nat.zero_add, hr.cellAt j (by omega)]
    simp [u8l, hj]
theorem ReadsB.kept {w w' : World} {v : Value} {l : Tk.Bs} (h : ReadsB w v l) (hb : Below w.heap.size w w') : ReadsB w' v l := by
  rcases h with h | ⟨g, off, cap, h1, h2, h3⟩
  · exact .inl h
  · exact .inr ⟨g, off, cap, h1, Nat.lt_of_lt_of_le h2 hb.size, fun j hj => (hb.cell (p := ⟨g, off + j, none⟩) h2).trans (h3 j hj)⟩
theorem two_start (c : Nat) : newA (fun _ => 2) = two (newA fun _ => 2) c noB noB := by
  funext d
  unfold two upd
  split <;> rfl
theorem two_reads {c m : Nat} (hm : m ≤ 4095) (hc : classN m = c) : c < 4 ∧ m ≤ sizeC c := ⟨by rw [← hc]; exact classN_lt _, by rw [← hc]; exact classN_fit (by omega)⟩
section
variable {base p : Nat} {n : Nat → Nat} {A : Ar} {c m : Nat}
theorem bk_al1 (hm : m ≤ 4095) (hc : classN m = c) (V : World) (h : PRel V base p n (two A c noB noB) 0) :
    Calls Try.prog 30 #[.pointer (some ⟨p, 0, none⟩), .int .i64 (m : Int)] V fun e w' =>
      e = .returned (.tuple #[.agg #[.int .i64 (c : Int), .int .i64 0, .int .i64 1], .int .i64 0]) ∧ PRel w' base p n (two A c ⟨1, 1, zer c⟩ noB) 1 ∧ Tn TP base V w' := by
  have h2 := palloc_any (m : Int) V h (by decide)
  have h3 := alloc_first (A := A) (n := m) (x := noB) (y := noB) (by omega) rfl
  rw [hc] at h3
  rw [h3] at h2
  exact h2
theorem bk_al2 (hm : m ≤ 4095) (hc : classN m = c) (V : World) (h : PRel V base p n (two A c ⟨1, 1, zer c⟩ noB) 1) :
    Calls Try.prog 30 #[.pointer (some ⟨p, 0, none⟩), .int .i64 (m : Int)] V fun e w' =>
      e = .returned (.tuple #[.agg #[.int .i64 (c : Int), .int .i64 1, .int .i64 1], .int .i64 0]) ∧ PRel w' base p n (two A c ⟨1, 1, zer c⟩ ⟨1, 1, zer c⟩) 2 ∧ Tn TP base V w' := by
  have h2 := palloc_any (m : Int) V h (by decide)
  have h3 := alloc_second (A := A) (n := m) (x := ⟨1, 1, zer c⟩) (y := noB) (by omega) (Nat.succ_ne_zero _) rfl
  rw [hc] at h3
  rw [h3] at h2
  exact h2
theorem bk_al3 (hm : m ≤ 4095) (hc : classN m = c) (M : Tk.Bs) (V : World) (h : PRel V base p n (two A c ⟨1, 0, M⟩ ⟨1, 1, zer c⟩) 2) :
    Calls Try.prog 30 #[.pointer (some ⟨p, 0, none⟩), .int .i64 (m : Int)] V fun e w' =>
      e = .returned (.tuple #[.agg #[.int .i64 (c : Int), .int .i64 0, .int .i64 2], .int .i64 0]) ∧ PRel w' base p n (two A c ⟨2, 1, zer c⟩ ⟨1, 1, zer c⟩) 3 ∧ Tn TP base V w' := by
  have h2 := palloc_any (m : Int) V h (by decide)
  have h3 := alloc_first (A := A) (n := m) (x := ⟨1, 0, M⟩) (y := ⟨1, 1, zer c⟩) (by omega) rfl
  rw [hc] at h3
  rw [h3] at h2
  exact h2
theorem rt1 (hc : c < 4) (M : Tk.Bs) (k : Nat) (y : Blk) : rightA (two A c ⟨1, k + 1, M⟩ y) ((c : Int), 0, 1) = some ⟨1, k + 1, M⟩ := right_first (x := ⟨1, k + 1, M⟩) hc (Nat.succ_ne_zero _)
theorem fits_at (hc : c < 4) (r l : Nat) (h : r + l ≤ sizeC c) : fitsI (c : Int) (r : Int) (l : Int) = true := by
  rw [fits_iff]
  have hS : sizesI (c : Int) = (sizeC c : Int) := by unfold sizesI; rw [if_pos (by omega), Int.toNat_natCast]
  rw [hS]; omega
theorem fits_not (hc : c < 4) (r l : Nat) (h : sizeC c < r + l) : fitsI (c : Int) (r : Int) (l : Int) = false := by
  have hS : sizesI (c : Int) = (sizeC c : Int) := by unfold sizesI; rw [if_pos (by omega), Int.toNat_natCast]
  rw [Bool.eq_false_iff, Ne, fits_iff, hS]; omega
theorem bk_big (hc : c < 4) (r : Nat) (v : Value) (bs : Tk.Bs) (V : World) (h : PRel V base p n (two A c ⟨1, 1, zer c⟩ ⟨1, 1, zer c⟩) 2) (hb : BytesL V base v bs) (hl : bs.length ≤ 1048576) (hbig : sizeC c < r + bs.length) :
    Calls Try.prog 50 #[.pointer (some ⟨p, 0, none⟩), .agg #[.int .i64 (c : Int), .int .i64 0, .int .i64 1], .int .i64 (r : Int), v] V fun e w' => e = .returned (.int .i64 2) ∧ Tn TP base V w' := by
  have h2 := pwrite_any (c : Int) 0 1 (r : Int) v bs V h hb (by omega)
  rw [write_of (rt1 hc (zer c) 0 _), fits_not hc r bs.length hbig] at h2
  exact h2.mono (fun e w' h3 => ⟨h3.1, h3.2.2⟩)
theorem bk_wr (hc : c < 4) (r : Nat) (v : Value) (bs : Tk.Bs) (V : World) (h : PRel V base p n (two A c ⟨1, 1, zer c⟩ ⟨1, 1, zer c⟩) 2) (hb : BytesL V base v bs) (hl : bs.length ≤ 1048576) (hfit : r + bs.length ≤ sizeC c) :
    Calls Try.prog 50 #[.pointer (some ⟨p, 0, none⟩), .agg #[.int .i64 (c : Int), .int .i64 0, .int .i64 1], .int .i64 (r : Int), v] V fun e w' =>
      e = .returned (.int .i64 0) ∧ PRel w' base p n (two A c ⟨1, 1, lay (zer c) r bs⟩ ⟨1, 1, zer c⟩) 2 ∧ Tn TP base V w' := by
  have h2 := pwrite_any (c : Int) 0 1 (r : Int) v bs V h hb (by omega)
  rw [write_of (rt1 hc (zer c) 0 _), fits_at hc r bs.length hfit] at h2
  simp only [if_true, put_first, Int.toNat_natCast] at h2
  exact h2
theorem bk_rd1 (hc : c < 4) (r : Nat) (bs : Tk.Bs) (V : World) (h : PRel V base p n (two A c ⟨1, 1, lay (zer c) r bs⟩ ⟨1, 1, zer c⟩) 2) (hfit : r + bs.length ≤ sizeC c) (hl : bs.length ≤ 1048576) :
    Calls Try.prog 41 #[.pointer (some ⟨p, 0, none⟩), .agg #[.int .i64 (c : Int), .int .i64 0, .int .i64 1], .int .i64 (r : Int), .int .i64 (bs.length : Int)] V (ReadP (bs, 0) V) := by
  have h2 := pread_any (c : Int) 0 1 (r : Int) (bs.length : Int) V h (by omega)
  have e : readA (two A c ⟨1, 1, lay (zer c) r bs⟩ ⟨1, 1, zer c⟩) ((c : Int), 0, 1) (r : Int) (bs.length : Int) = (bs, 0) := by
    unfold readA
    rw [rt1 hc (lay (zer c) r bs) 0 _]
    show (if fitsI (c : Int) (r : Int) (bs.length : Int) = true then _ else _) = _
    rw [fits_at hc r bs.length hfit]
    simp only [if_true, Int.toNat_natCast]
    rw [lay_read (by rw [zer_length]; exact hfit)]
  rw [e] at h2
  exact h2
theorem read_all (hc : c < 4) {B : Ar} {i g : Int} {k : Blk} (hr : rightA B ((c : Int), i, g) = some k) (hk : k.mem = zer c) : readA B ((c : Int), i, g) 0 (sizeC c : Int) = (zer c, 0) := by
  unfold readA
  rw [hr]
  show (if fitsI (c : Int) ((0 : Nat) : Int) (sizeC c : Int) = true then _ else _) = _
  rw [fits_at hc 0 (sizeC c) (by omega), hk]
  simp only [if_true, Int.toNat_natCast]
  rw [show (0 : Int).toNat = 0 from rfl, List.drop_zero, List.take_of_length_le (by rw [zer_length]; exact Nat.le_refl _)]
theorem bk_rd2 (hc : c < 4) (x : Blk) (V : World) (h : PRel V base p n (two A c x ⟨1, 1, zer c⟩) 2) :
    Calls Try.prog 41 #[.pointer (some ⟨p, 0, none⟩), .agg #[.int .i64 (c : Int), .int .i64 1, .int .i64 1], .int .i64 0, .int .i64 (sizeC c : Int)] V (ReadP (zer c, 0) V) := by
  have h2 := pread_any (c : Int) 1 1 0 (sizeC c : Int) V h (by have := sizeC_le hc; omega)
  rw [show readA (two A c x ⟨1, 1, zer c⟩) ((c : Int), 1, 1) 0 (sizeC c : Int) = (zer c, 0) from read_all (k := ⟨1, 1, zer c⟩) hc (right_second (y := ⟨1, 1, zer c⟩) hc (Nat.succ_ne_zero _)) rfl] at h2
  exact h2
theorem bk_rd3 (hc : c < 4) (y : Blk) (V : World) (h : PRel V base p n (two A c ⟨2, 1, zer c⟩ y) 3) :
    Calls Try.prog 41 #[.pointer (some ⟨p, 0, none⟩), .agg #[.int .i64 (c : Int), .int .i64 0, .int .i64 2], .int .i64 0, .int .i64 (sizeC c : Int)] V (ReadP (zer c, 0) V) := by
  have h2 := pread_any (c : Int) 0 2 0 (sizeC c : Int) V h (by have := sizeC_le hc; omega)
  rw [show readA (two A c ⟨2, 1, zer c⟩ y) ((c : Int), 0, 2) 0 (sizeC c : Int) = (zer c, 0) from read_all (k := ⟨2, 1, zer c⟩) hc (right_first (x := ⟨2, 1, zer c⟩) hc (Nat.succ_ne_zero _)) rfl] at h2
  exact h2
theorem bk_hold (hc : c < 4) (M : Tk.Bs) (y : Blk) (V : World) (h : PRel V base p n (two A c ⟨1, 1, M⟩ y) 2) :
    Calls Try.prog 39 #[.pointer (some ⟨p, 0, none⟩), .agg #[.int .i64 (c : Int), .int .i64 0, .int .i64 1]] V fun e w' => e = .returned (.int .i64 0) ∧ PRel w' base p n (two A c ⟨1, 2, M⟩ y) 2 ∧ Tn TP base V w' := by
  have h2 := phold_any (c : Int) 0 1 V h
  have e : holdA (two A c ⟨1, 1, M⟩ y) ((c : Int), 0, 1) = (0, two A c ⟨1, 2, M⟩ y) := by
    unfold holdA
    rw [rt1 hc M 0 y]
    show (if _ then _ else _) = _
    rw [if_neg (show ¬ (1 : Nat) = 1048576 by decide), put_first]
  rw [e] at h2
  exact h2
theorem bk_drop (hc : c < 4) (M : Tk.Bs) (y : Blk) (k : Nat) (V : World) (h : PRel V base p n (two A c ⟨1, k + 1, M⟩ y) 2) :
    Calls Try.prog 51 #[.pointer (some ⟨p, 0, none⟩), .agg #[.int .i64 (c : Int), .int .i64 0, .int .i64 1]] V fun e w' => e = .returned (.int .i64 0) ∧ PRel w' base p n (two A c ⟨1, k, M⟩ y) 2 ∧ Tn TP base V w' := by
  have h2 := pdrop_any (c : Int) 0 1 V h
  have e : dropA (two A c ⟨1, k + 1, M⟩ y) ((c : Int), 0, 1) = (0, two A c ⟨1, k, M⟩ y) := by
    unfold dropA
    rw [rt1 hc M k y]
    show (_, putA _ _ _) = _
    rw [put_first]; rfl
  rw [e] at h2
  exact h2
theorem rt0 (hc : c < 4) (M : Tk.Bs) (y : Blk) : rightA (two A c ⟨1, 0, M⟩ y) ((c : Int), 0, 1) = none := right_gone (x := ⟨1, 0, M⟩) hc (.inr rfl)
theorem bk_drop0 (hc : c < 4) (M : Tk.Bs) (y : Blk) (V : World) (h : PRel V base p n (two A c ⟨1, 0, M⟩ y) 2) :
    Calls Try.prog 51 #[.pointer (some ⟨p, 0, none⟩), .agg #[.int .i64 (c : Int), .int .i64 0, .int .i64 1]] V fun e w' => e = .returned (.int .i64 15) ∧ PRel w' base p n (two A c ⟨1, 0, M⟩ y) 2 ∧ Tn TP base V w' := by
  have h2 := pdrop_any (c : Int) 0 1 V h
  rw [show dropA (two A c ⟨1, 0, M⟩ y) ((c : Int), 0, 1) = (15, two A c ⟨1, 0, M⟩ y) from by unfold dropA; rw [rt0 hc M y]] at h2
  exact h2
theorem bk_stale (hc : c < 4) (y : Blk) (V : World) (h : PRel V base p n (two A c ⟨2, 1, zer c⟩ y) 3) :
    Calls Try.prog 39 #[.pointer (some ⟨p, 0, none⟩), .agg #[.int .i64 (c : Int), .int .i64 0, .int .i64 1]] V fun e w' => e = .returned (.int .i64 15) ∧ Below V.heap.size V w' :=
  phold_stale (c : Int) 0 1 V h (right_gone (x := ⟨2, 1, zer c⟩) hc (.inl (show ((2 : Nat) : Int) ≠ 1 by decide)))
end
end Go.Proofs.Ytbpadliiekhkjaa.Sl
/-
  The program's Write (of any bytes that can be read), the arena's blocks in a set. Condition: the arena and the plain one are related ahead.
-/
namespace Go.Proofs.Ytbpadliiekhkjaa.So
open Go.RowKit Go.Proofs.Ytbpadliiekhkjaa.Fd Go.Proofs.Ytbpadliiekhkjaa.Sl
set_option maxRecDepth 100000
set_option linter.unusedVariables false
set_option linter.unusedSimpArgs false

theorem reads_form {w : World} {v : Value} {bs : Tk.Bs} (h : ReadsB w v bs) : ∃ a cap, v = .slice a bs.length cap := by
  rcases h with ⟨rfl, a, cap, hv⟩ | ⟨g, off, cap, hv, _⟩
  · exact ⟨a, cap, hv⟩
  · exact ⟨_, cap, hv⟩
set_option maxHeartbeats 4000000 in
theorem pwrite_any {O : Nat → Prop} {p : Nat} {n : Nat → Nat} {A : Ar} {G : Nat} (c i g at' : Int) (bv : Value) (bs : Tk.Bs) (w : World) (h : PRel w O p n A G) (hbs : ReadsB w bv bs) (hbl : bs.length ≤ 1099511627776) :
    Calls Try.prog 50 #[.pointer (some ⟨p, 0, none⟩), .agg #[.int .i64 c, .int .i64 i, .int .i64 g], .int .i64 at', bv] w (DoneP O p n (writeA A (c, i, g) at' bs) G w) := by
  obtain ⟨ba, bc, rfl⟩ := (reads_form hbs)
  obtain ⟨gs, Q, M, hP, hG⟩ := h.it
  have hB1 := (Below.refl w.heap.size w).alloc (Nat.le_refl _) (.cells #[.int .i64 c, .int .i64 i, .int .i64 g] 78)
  have HR := Lib.hid (part_any c i g at' (bs.length : Int) _ (hP.same hB1).toSl hG h.few (by omega))
  have HH := Lib.hid h
  have HP := Lib.hid hP
  have HG := Lib.hid hG
  have HS := Lib.hid hbs
  clear h hP hG hbs
  go_enter Try.func50, Try.ntmps50
  go_wp2_with fail
  refine HR.out.mono ?_
  rintro e w2 ⟨hb2, h2⟩
  have HB := Lib.hid (Bl.next hB1 hb2)
  clear hb2 hB1 HR
  rcases h2 with ⟨h1, rfl⟩ | ⟨b, h1, hf, rfl⟩ | ⟨c, i, q, an, mn, cap, b, ad, rfl, rfl, rfl, hmn, c4, hb, hh, rfl, h1, hf, hq, hle, hcap, had, rfl⟩
  · have HV := Lib.hid (show writeA A (c, i, g) at' bs = (15, A) from by unfold writeA; rw [h1])
    clear h1
    go_wp2_with ((with_reducible show wpList _ _ _ (⟨some 22, _, _, _, _, _⟩ :: _) _ _); refine wpList_copy_nothing rfl (.tmp 20) (.tmp 21) 36 36 rfl 5 Try.underlying36 infoByteS none ba 0 0 bs.length bc (by rfl) (by rfl) (by simp) ?_)
    go_ret
    exact ⟨by rw [HV.out]; rfl, by rw [HV.out]; exact HH.out.same HB.out, Tn.of_below HB.out⟩
  · have HV := Lib.hid (show writeA A (c, i, g) at' bs = (2, A) from by rw [write_of h1, hf]; rfl)
    clear h1 hf
    go_wp2_with ((with_reducible show wpList _ _ _ (⟨some 22, _, _, _, _, _⟩ :: _) _ _); refine wpList_copy_nothing rfl (.tmp 20) (.tmp 21) 36 36 rfl 5 Try.underlying36 infoByteS none ba 0 0 bs.length bc (by rfl) (by rfl) (by simp) ?_)
    go_ret
    exact ⟨by rw [HV.out]; rfl, by rw [HV.out]; exact HH.out.same HB.out, Tn.of_below HB.out⟩
  · obtain rfl : mn = bs.length := by omega
    have HV := Lib.hid (show writeA A ((c : Int), (i : Int), (b.gen : Int)) an bs = (0, upd A c ((A c).set i { b with mem := lay b.mem an bs })) from by rw [write_of h1, hf]; rfl)
    have hP2 := HP.out.same HB.out
    obtain ⟨hge, _, hmem⟩ := HG.out.busy c i b c4 hb hh
    obtain ⟨hsm1, hsm2⟩ := HG.out.small c i b c4 hb
    obtain ⟨m1, m2⟩ := hP2.mem c i q hq
    rw [hmem] at m1 m2
    have HF := Lib.hid (show ∀ W : World, PAt W O p n gs Q (updM M c i (lay b.mem an bs)) A → PRel W O p n (upd A c ((A c).set i { b with mem := lay b.mem an bs })) G from fun W hW => by
      refine ⟨⟨gs, Q, _, ?_, HG.out.put (fun _ _ _ => rfl) (fun d j hn => updM_other _ _ hn) (Nat.le_refl _) (fun _ => ⟨hge, ⟨q, hq⟩, updM_same _ _ _ _⟩) (fun z => absurd z hh) ⟨hsm1, hsm2⟩⟩, HH.out.few, HH.out.small⟩
      obtain ⟨cur, h3, h4⟩ := hW.row c c4
      refine hW.put c4 h3 ⟨by rw [List.length_set]; exact h4.size, fun j x hx t ht => ?_⟩ (by simp) (fun _ _ => rfl)
      by_cases e : i = j
      · subst e
        rw [List.getElem?_set_self (List.getElem?_eq_some_iff.1 hb).1] at hx
        injection hx with hx
        subst hx
        exact h4.is i b hb t ht
      · rw [List.getElem?_set_ne e] at hx
        exact h4.is j x hx t ht)
    by_cases h0 : bs.length = 0
    · obtain rfl : bs = [] := List.length_eq_zero_iff.1 h0
      have HE := Lib.hid (HF.out w2 (by rw [show lay b.mem an ([] : Tk.Bs) = b.mem from lay_none _ _]; exact hP2.bytes hq m1 m2 (fun _ _ => rfl)))
      clear h1 hf hP2 m1 m2 hmem hge hsm1 hsm2 hcap had
      go_wp2_with ((with_reducible show wpList _ _ _ (⟨some 22, _, _, _, _, _⟩ :: _) _ _); refine wpList_copy_nothing rfl (.tmp 20) (.tmp 21) 36 36 rfl 5 Try.underlying36 infoByteS (some ad) ba 0 cap 0 bc (by rfl) (by rfl) (by simp) ?_)
      go_ret
      exact ⟨by rw [HV.out]; rfl, by rw [HV.out]; exact HE.out, Tn.of_below HB.out⟩
    · obtain rfl := had (by omega)
      obtain ⟨bg, bo, rfl, hbg, hsrc⟩ : ∃ g off, ba = some ⟨g, off, none⟩ ∧ g < w.heap.size ∧ ∀ j (hj : j < bs.length), w.cell? ⟨g, off + j, none⟩ = some (.int .u8 (bs[j].toNat : Int)) := by
        rcases HS.out with ⟨h, _⟩ | ⟨g, off, cap2, hbv, hgb, hj⟩
        · rw [h] at h0; exact absurd rfl h0
        · injection hbv with e1 e2 e3
          exact ⟨g, off, e1, hgb, hj⟩
      have HSrc := Lib.hid (show ∀ j v, (u8L bs)[j]? = some v → w2.cell? ((⟨bg, bo, none⟩ : Addr).add j) = some v from fun j v hv => by
        obtain ⟨hj, hv⟩ := List.getElem?_eq_some_iff.1 hv
        rw [u8L_length] at hj
        rw [Addr.add_lit, (HB.out.cell (p := ⟨bg, bo + j, none⟩) (by show bg < _; omega)).trans (hsrc j hj), ← hv]
        simp [u8L])
      have HM1 := Lib.hid m1
      have HE := Lib.hid (HF.out _ (hP2.bytes (w' := w2.setRow q (u8V (lay b.mem an bs))) (m := lay b.mem an bs) hq (setRow_heap _ _ _ _ _ _ m1) (by rw [lay_len (by omega)]; exact m2) (fun k hk => setRow_other _ _ _ _ hk)))
      have HT := Lib.hid ((Tn.of_below (T := TP) (O := O) HB.out).trans (Tn.row (hP2.memIs hq).1 (hP2.memIs hq).2 (u8V (lay b.mem an bs))))
      have HCe := Lib.hid (lay_cells b.mem bs an)
      clear h1 hf hP2 m1 hmem hge hsm1 hsm2 hcap had hsrc
      go_wp2_with ((with_reducible show wpList _ _ _ (⟨some 22, _, _, _, _, _⟩ :: _) _ _); refine wpList_copy_own rfl (.tmp 20) (.tmp 21) 36 36 rfl 5 Try.underlying36 infoByteS q an bs.length cap ⟨bg, bo, none⟩ bs.length bc (by rfl) (by rfl) (u8V b.mem) 5 HM1.out (u8L bs) (by rw [u8L_length]; simp) HSrc.out (by rw [u8L_length, u8V_size]; omega) (u8L_one bs) ?_; rw [HCe.out])
      go_ret
      exact ⟨by rw [HV.out]; rfl, by rw [HV.out]; exact HE.out, HT.out⟩
end Go.Proofs.Ytbpadliiekhkjaa.So
