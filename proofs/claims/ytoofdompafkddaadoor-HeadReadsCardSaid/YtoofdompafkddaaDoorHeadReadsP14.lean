/-
  Texts that the law's proof stands on, 4 of them in one file; each one's head says what it proves and under which condition.
-/
import Derived.Test.YtoofdompafkddaaDoorHeadReadsP4
import Derived.WalkKit
import Derived.WalkLawsBesides
import Derived.Lib.SlBytesConst
import Derived.Test.YtoofdompafkddaaDoorHeadReadsP13
import Derived.Test.YtoofdompafkddaaDoorHeadReadsP10
import Derived.Test.YtoofdompafkddaaDoorHeadReadsP12
/-
  Masks; bytes made of a text. No condition.
-/
namespace Go.Proofs.YtoofdompafkddaaDoor.Hd
open Go.RowKit Go.Proofs.YtoofdompafkddaaDoor.Tk
set_option linter.unusedVariables false

theorem mask (a : Int) (m : Nat) (hm : m < 9223372036854775808) : 0 ≤ bits .and .i64 a (m : Int) ∧ bits .and .i64 a (m : Int) ≤ (m : Int) := by
  have h1 : (BitVec.ofInt 64 a &&& BitVec.ofInt 64 (m : Int)).toNat ≤ m := by
    rw [BitVec.toNat_and, BitVec.ofInt_natCast, BitVec.toNat_ofNat]
    exact Nat.le_trans Nat.and_le_right (Nat.mod_le _ _)
  have h2 : bits .and .i64 a (m : Int) = IntKind.i64.wrap ((BitVec.ofInt 64 a &&& BitVec.ofInt 64 (m : Int)).toNat : Int) := rfl
  rw [h2, IntKind.wrap_i64]
  omega
theorem mask_nat (a : Int) (m : Nat) (hm : m < 9223372036854775808) : ∃ r : Nat, bits .and .i64 a (m : Int) = (r : Int) ∧ r ≤ m := by
  obtain ⟨h0, h1⟩ := mask a m hm
  exact ⟨(bits .and .i64 a (m : Int)).toNat, by omega, by omega⟩
/-- What '[]byte(s)' lays. -/
theorem byts_new (w : World) (s : ByteArray) (c : Nat) (fr : Nat × Nat) (hc : s.size ≤ c) (hm : c ≤ maxLen) : Byts (w.drew.alloc (.cells (bytesRow s c) 5 fr)) (.slice (some ⟨w.heap.size, 0, none⟩) s.size c) s.data.toList := by
  have hl : s.data.toList.length = s.size := by simp
  refine .inr ⟨w.heap.size, 0, c, by rw [hl], by rw [hl]; exact hc, hm, by simp, ?_⟩
  exact Tk.holds_new w.drew s c _ fr
theorem run_bytes (W : World) (s : ByteArray) : (convert 9 22 (.string s)).run Tryd.prog W = .ok (.slice (some ⟨W.heap.size, 0, none⟩) s.size (grownCap W s.size 0 5))
      (W.drew.alloc (.cells (bytesRow s (grownCap W s.size 0 5)) 5 ((bytesRow s (grownCap W s.size 0 5)).size, (bytesRow s (grownCap W s.size 0 5)).size + 1))) :=
  run_bytes_of_string (P := Tryd.prog) W 9 22 5 s Tryd.underlying9 Tryd.underlying22 Tryd.underlying5
end Go.Proofs.YtoofdompafkddaaDoor.Hd
/-
  What the laws of head use: masks, bytes made of a text, a reader that was just made. No condition.
-/
namespace Go.Proofs.YtoofdompafkddaaDoor.Hd
open Go.RowKit Go.Proofs.YtoofdompafkddaaDoor.Tk Go.Proofs.YtoofdompafkddaaDoor.Fd
set_option linter.unusedVariables false

/-- A reader's blocks, of those from B on that were there. -/
def Own (B : Nat) (w : World) (k : Nat) : Prop := B ≤ k ∧ k < w.heap.size
/-- A fresh reader is fed the bytes of a text. -/
theorem feed_text (B : Nat) (resp : Bool) (g : Nat) (x : World) (s : ByteArray) (hR : Rdr x (fun k => B ≤ k) resp g start) (hs : s.size ≤ 1099511627776) (hT : Tab x) (hB : 0 < B) (hBx : B ≤ x.heap.size) :
    Calls Tryd.prog 17 #[.pointer (some ⟨g, 0, none⟩), .slice (some ⟨x.heap.size, 0, none⟩) s.size (grownCap x s.size 0 5)]
      (x.drew.alloc (.cells (bytesRow s (grownCap x s.size 0 5)) 5 ((bytesRow s (grownCap x s.size 0 5)).size, (bytesRow s (grownCap x s.size 0 5)).size + 1))) fun e w' =>
      e = .returned (.tuple #[.int .i64 ((run resp start s.data.toList).1 : Nat), .bool (doneOf (run resp start s.data.toList).2), .int .i64 (errOf (run resp start s.data.toList).2 : Nat)]) ∧ Rdr w' (fun k => B ≤ k) resp g (run resp start s.data.toList).2 ∧ Below B x w' := by
  have hb : Below x.heap.size x (x.drew.alloc (.cells (bytesRow s (grownCap x s.size 0 5)) 5 ((bytesRow s (grownCap x s.size 0 5)).size, (bytesRow s (grownCap x s.size 0 5)).size + 1))) := (Below.refl _ x).drew.alloc (Nat.le_refl _) _
  have hl : s.data.toList.length = s.size := by simp
  refine (feed_any (Own B x) resp g start _ s.data.toList _ (Rdr.below hR.bound hb) good_start (byts_new x s _ _ (grownCap_ge _ _ _ _) (grownCap_le_maxLen _ _ _ _ (by unfold maxLen; omega))) (fun _ k hk ho => ?_) (by rw [hl]; unfold maxLen; omega) (hT.below hb hT.lt) (fun ho => ?_)).mono ?_
  · injection hk with hk; subst hk; exact absurd ho.2 (Nat.lt_irrefl _)
  · have := ho.1; omega
  · rintro e w' ⟨rfl, hR2, hc⟩
    refine ⟨rfl, hR2.mono (fun k hk => ?_), (hb.mono hBx).trans (hc.below (fun k hk => hk.1) (by have := hb.size; omega))⟩
    rcases hk with hk | hk
    · exact hk.1
    · have := hb.size; omega
end Go.Proofs.YtoofdompafkddaaDoor.Hd
/-
  A slice of ints that came in; piece's end. Condition: what the form says of what is read.
-/
namespace Go.Proofs.YtoofdompafkddaaDoor.Hd
open Go.RowKit Go.Proofs.YtoofdompafkddaaDoor.Tk Go.ChangeShapes Go.WideShapes
set_option linter.unusedVariables false

/-- The i-th piece's end: so many bytes further; all that is left behind the last cut. -/
def PiecePost (L i k long : Nat) (w : World) (e : Ending) (w' : World) : Prop := ∃ (d n : Nat), e = .returned (.int .i64 ((k : Int) + (d : Int))) ∧ w' = w.drewN n ∧ k + d ≤ long ∧ (L ≤ i → k + d = long)
set_option maxRecDepth 100000 in
set_option maxHeartbeats 2000000 in
theorem piece_any (L i k long : Nat) (v : Value) (w : World) (h : Ints w v L) (hk : k ≤ long) (hl : long ≤ 9000) (hL : L ≤ maxLen) (hi : i ≤ L + 1) :
    Calls Tryd.prog 16 #[v, .int .i64 (i : Int), .int .i64 (k : Int), .int .i64 (long : Int)] w (PiecePost L i k long w) := by
  obtain ⟨a, cap, hv⟩ := h.shape
  unfold maxLen at hL
  have HP := Lib.hid (fun (d n : Nat) (h1 : k + d ≤ long) (h2 : L ≤ i → k + d = long) => (show PiecePost L i k long w (.returned (.int .i64 ((k : Int) + (d : Int)))) (w.drewN n) from ⟨d, n, rfl, rfl, h1, h2⟩))
  by_cases hlt : i < L
  · rcases h with ⟨h0, _⟩ | ⟨b, off, cap', hv', hb, hh⟩
    · omega
    obtain ⟨z, hz⟩ := hh i hlt
    obtain ⟨r, hr, hr7⟩ := mask_nat z 1023 (by omega)
    have hr' : bits BinOp.and IntKind.i64 z 1023 = (r : Int) := hr
    subst hv'
    injection hv with e1 e2 e3
    clear hr e1 e2 e3 hh hi
    by_cases hrn : r < long - k
    · go_enter Tryd.func16, Tryd.ntmps16
      go_wp2_with fail
      go_ret
      exact HP.out r 0 (by omega) (fun h => by omega)
    · go_enter Tryd.func16, Tryd.ntmps16
      go_wp2_with fail
      go_ret
      have h0 := HP.out (long - k) 0 (by omega) (fun h => by omega)
      rw [show (k : Int) + ((long - k : Nat) : Int) = (k : Int) + ((long : Int) - (k : Int)) from by omega] at h0
      exact h0
  · subst hv
    clear h hi
    go_enter Tryd.func16, Tryd.ntmps16
    go_wp2_with fail
    go_ret
    have h0 := HP.out (long - k) 0 (by omega) (fun h => by omega)
    rw [show (k : Int) + ((long - k : Nat) : Int) = (k : Int) + ((long : Int) - (k : Int)) from by omega] at h0
    exact h0
end Go.Proofs.YtoofdompafkddaaDoor.Hd
/-
  A piece of bytes; a reader that is fed one more piece; a whole head of one line. Plain steps.
-/
namespace Go.Proofs.YtoofdompafkddaaDoor.Hd
open Go.RowKit Go.Proofs.YtoofdompafkddaaDoor.Tk Go.Proofs.YtoofdompafkddaaDoor.Fd
set_option linter.unusedVariables false

theorem byts_cut {w : World} {B off cap k d : Nat} {b : Bs} (h : Byts w (.slice (some ⟨B, off, none⟩) b.length cap) b) (hb : B < w.heap.size) (hcap : b.length ≤ cap) (hcm : cap ≤ maxLen) (hk : k + d ≤ b.length) :
    Byts w (.slice (some ⟨B, off + k, none⟩) d (cap - k)) ((b.drop k).take d) := by
  have hl : ((b.drop k).take d).length = d := by rw [List.length_take, List.length_drop]; omega
  rcases h with ⟨h0, _⟩ | ⟨B', off', cap', hv, _, _, _, hh⟩
  · subst h0
    simp at hk
    obtain ⟨rfl, rfl⟩ := hk
    exact .inl ⟨by simp, _, _, rfl⟩
  · injection hv with e1 _ e3
    injection e1 with e1
    injection e1 with e1 e2
    subst e1 e2 e3
    refine .inr ⟨B, off + k, cap - k, by rw [hl], by rw [hl]; omega, by omega, hb, fun j hj => ?_⟩
    rw [hl] at hj
    have := hh (k + j) (by omega)
    rw [← Nat.add_assoc] at this
    rw [this]
    simp [List.getElem_take, List.getElem_drop]
theorem cut_next {O : Nat → Prop} {resp : Bool} {g : Nat} {s : St} {b : Bs} {w : World} {k d : Nat} {st : St} {wr w' : World} (h : FeedAt O resp g s b w k st wr) (hd : k + d ≤ b.length)
    (hR : Rdr w' (New (New O w) wr) resp g (run resp st ((b.drop k).take d)).2) (hC : Chg (New O w) wr w') :
    FeedAt O resp g s b w (k + (run resp st ((b.drop k).take d)).1) (run resp st ((b.drop k).take d)).2 w' ∧ (over (run resp st ((b.drop k).take d)).2 = false → (run resp st ((b.drop k).take d)).1 = d) := by
  obtain ⟨hk, hr, hG, hR0, hC0⟩ := h
  have hl : ((b.drop k).take d).length = d := by rw [List.length_take, List.length_drop]; omega
  have hle := run_le resp ((b.drop k).take d) st
  have hsp : run resp st (b.drop k) = run resp st ((b.drop k).take d ++ (b.drop k).drop d) := by rw [List.take_append_drop]
  rw [run_append] at hsp
  refine ⟨⟨by omega, ?_, good_run resp _ hG, hR.mono (new_new hC0.size), hC0.again hC⟩, fun ho => by rw [run_all _ ho, hl]⟩
  rw [hr]
  by_cases ho : over (run resp st ((b.drop k).take d)).2 = true
  · rw [if_pos ho] at hsp
    rw [hsp, run_over ho]
    rfl
  · rw [Bool.not_eq_true] at ho
    have ha := run_all _ ho
    rw [hl] at ha
    rw [if_neg (by rw [ho]; simp), hl, List.drop_drop] at hsp
    rw [hsp, ha]
    simp only [Prod.mk.injEq, and_true]
    omega
theorem FeedAt.drewN {O : Nat → Prop} {resp : Bool} {g : Nat} {s : St} {b : Bs} {w : World} {k : Nat} {st : St} {wr : World} (h : FeedAt O resp g s b w k st wr) (n : Nat) : FeedAt O resp g s b w k st (wr.drewN n) :=
  ⟨h.1, h.2.1, h.2.2.1, h.2.2.2.1.below ⟨rfl, rfl, rfl, Nat.le_refl _, fun _ _ => rfl⟩, h.2.2.2.2.drewN n⟩
theorem below_drewN {B : Nat} {w w' : World} (h : Below B w w') (n : Nat) : Below B w (w'.drewN n) := ⟨h.os, h.tape, h.output, h.size, h.block⟩
theorem headOf_len {resp same : Bool} {s : St} (h : Good s) : (headOf resp same s).2.1.length ≤ 64 := by
  cases s with
  | on => simp [headOf]
  | done q fs =>
    cases same with
    | true => exact h.1
    | false => simp [headOf]
  | bad => simp [headOf]
/-- GET / HTTP/1.1, with both line ends, and a byte behind it. -/
def oneL : Bs := getL ++ [13, 10, 13, 10, 120]
theorem one_run : (run false start oneL).1 = 18 := by
  have h := run_whole (resp := false) (p := none) (n := 0) (fs := []) (t := getL ++ [13]) (r := [13] ++ 10 :: [120]) (by decide) (by decide) (by decide)
  have e : ended false none (0 + (getL ++ [13]).length + 1) [] (own (getL ++ [13])) = .on (some getP) [] 16 [] := by
    have h2 := ended_first (resp := false) (t := getL) (n := 16) (fs := []) (by decide) (by rw [get_first])
    rw [get_first] at h2
    exact h2
  rw [e] at h
  have h3 := run_whole (resp := false) (p := some getP) (n := 16) (fs := []) (t := [13]) (r := [120]) (by decide) (by decide) (by decide)
  rw [show own [13] = [] from by decide, ended_last, run_over (s := .done getP []) rfl] at h3
  rw [show oneL = (getL ++ [13]) ++ 10 :: ([13] ++ 10 :: [120]) from rfl, show start = .on none [] 0 [] from rfl, h, h3]
  rfl
end Go.Proofs.YtoofdompafkddaaDoor.Hd
