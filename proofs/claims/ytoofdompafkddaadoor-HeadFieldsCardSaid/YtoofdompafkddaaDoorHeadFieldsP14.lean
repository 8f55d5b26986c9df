/-
  Texts that the law's proof stands on, 3 of them in one file; each one's head says what it proves and under which condition.
-/
import Derived.Test.YtoofdompafkddaaDoorHeadFieldsP12
import Derived.Test.YtoofdompafkddaaDoorHeadFieldsP4
import Derived.WalkKit
import Derived.WalkLawsBesides
import Derived.Lib.SlBytesConst
import Derived.Test.YtoofdompafkddaaDoorHeadFieldsP13
import Derived.Test.YtoofdompafkddaaDoorHeadFieldsP7
import Derived.Test.YtoofdompafkddaaDoorHeadFieldsP10
/-
  head.New: what it returns. No condition.
-/
namespace Go.Proofs.YtoofdompafkddaaDoor.Hd
open Go.RowKit Go.Proofs.YtoofdompafkddaaDoor.Tk Go.Proofs.YtoofdompafkddaaDoor.Fd
set_option linter.unusedVariables false

theorem infoPart : (Tryd.prog.info? 94).map (·.size) = some 2 := by kernel_rfl
def OpenPost (F1 : Value) (w : World) (e : Ending) (w' : World) : Prop :=
  e = .returned (.agg #[.int .i64 1026, fnOf w.heap.size none]) ∧ w'.heap[w.heap.size]? = some (.cells #[F1] 91 (0, 0)) ∧ Below w.heap.size w w'
set_option maxRecDepth 100000 in
set_option maxHeartbeats 4000000 in
theorem open_any (fn : Fn) (w : World) :
    Calls Tryd.prog 45 #[.func fn #[] #[]] w (OpenPost (.func fn #[] #[]) w) := by
  have HX := Lib.hid (fun o => (old_block (w.alloc (.cells #[.func fn #[] #[]] 91)) o (b := w.heap.size) (by simp)).trans (new_block w (.cells #[.func fn #[] #[]] 91)))
  have HB := Lib.hid ((((Below.refl w.heap.size w).alloc (Nat.le_refl _) (.cells #[.func fn #[] #[]] 91)).alloc (by simp) (.cells #[.int .i64 1026, fnOf w.heap.size none] 94)))
  have HN := Lib.hid (new_block' (w.alloc (.cells #[.func fn #[] #[]] 91)) (.cells #[.int .i64 1026, fnOf w.heap.size none] 94) (g := w.heap.size + 1) (by simp))
  go_enter Tryd.func45, Tryd.ntmps45
  go_wp2_with fail
  refine bodyPost_ret (results_one rfl _ _ (w.heap.size + 1) 94 _ (0, 0) _ rfl HN.out Tryd.underlying94 rfl infoPart) rfl ?_
  exact ⟨rfl, HX.out _, HB.out⟩
def NewPost (resp : Bool) (w : World) (e : Ending) (w' : World) : Prop :=
  ∃ g, e = .returned (.pointer (some ⟨g, 0, none⟩)) ∧ Rdr w' (fun k => w.heap.size ≤ k) resp g start ∧ Below w.heap.size w w'
theorem new_made (resp : Bool) (w w1 : World) (h1 : w1.heap[w.heap.size]? = some (.cells #[firstFn resp] 91 (0, 0))) (hb : Below w.heap.size w w1) :
    NewPost resp w (.returned (.pointer (some ⟨w1.heap.size, 0, none⟩))) (w1.alloc (.cells (rc resp 1026 (fnOf w.heap.size none) (.slice none 0 0) 0 false 0 resp .none (.slice none 0 0)) 97)) := by
  refine ⟨_, rfl, ⟨w.heap.size, .slice none 0 0, .slice none 0 0, new_block _ _, (old_block _ _ (block_lt h1)).trans h1, OwnB.nil _, OwnF.nil _ _, hb.size, Nat.le_refl _, (fun k hk => by cases hk), (fun k hk => by cases hk)⟩, hb.alloc hb.size _⟩
set_option maxRecDepth 100000 in
set_option maxHeartbeats 4000000 in
theorem new_any (resp : Bool) (w : World) : Calls Tryd.prog 14 #[.bool resp] w (NewPost resp w) := by
  cases resp with
  | false =>
    go_enter Tryd.func14, Tryd.ntmps14
    go_wp2_with fail
    refine (open_any (.func 43) w).mono ?_
    rintro e w1 ⟨rfl, h1, hb1⟩
    have HM := Lib.hid (new_made false w w1 h1 hb1)
    clear h1 hb1
    go_wp2_with fail
    go_ret
    exact HM.out
  | true =>
    go_enter Tryd.func14, Tryd.ntmps14
    go_wp2_with fail
    refine (open_any (.func 44) w).mono ?_
    rintro e w1 ⟨rfl, h1, hb1⟩
    have HM := Lib.hid (new_made true w w1 h1 hb1)
    clear h1 hb1
    go_wp2_with fail
    go_ret
    exact HM.out
end Go.Proofs.YtoofdompafkddaaDoor.Hd
/-
  Masks; bytes made of a text. No condition.
-/
namespace Go.Proofs.YtoofdompafkddaaDoor.Hd
open Go.RowKit Go.Proofs.YtoofdompafkddaaDoor.Tk
set_option linter.unusedVariables false

theorem mask (a : Int) (m : Nat) (hm : m < 9223372036854775808) : 0 ≤ bits .and .i64 a (m : Int) ∧ bits .and .i64 a (m : Int) ≤ (m : Int) := by
  have h1 : (BitVec.ofInt 64 a &&& BitVec.ofInt 64 (m : Int)).toNat ≤ m := by
    rw [BitVec.toNat_and, BitVec.ofInt_natCast, BitVec.toNat_ofNat]
    exact Nat.le_trans Nat.and_le_right (Nat.mod_le _ _)
  have h2 : bits .and .i64 a (m : Int) = IntKind.i64.wrap ((BitVec.ofInt 64 a &&& BitVec.ofInt 64 (m : Int)).toNat : Int) := rfl
  rw [h2, IntKind.wrap_i64]
  omega
theorem mask_nat (a : Int) (m : Nat) (hm : m < 9223372036854775808) : ∃ r : Nat, bits .and .i64 a (m : Int) = (r : Int) ∧ r ≤ m := by
  obtain ⟨h0, h1⟩ := mask a m hm
  exact ⟨(bits .and .i64 a (m : Int)).toNat, by omega, by omega⟩
/-- What '[]byte(s)' lays. -/
theorem byts_new (w : World) (s : ByteArray) (c : Nat) (fr : Nat × Nat) (hc : s.size ≤ c) (hm : c ≤ maxLen) : Byts (w.drew.alloc (.cells (bytesRow s c) 5 fr)) (.slice (some ⟨w.heap.size, 0, none⟩) s.size c) s.data.toList := by
  have hl : s.data.toList.length = s.size := by simp
  refine .inr ⟨w.heap.size, 0, c, by rw [hl], by rw [hl]; exact hc, hm, by simp, ?_⟩
  exact Tk.holds_new w.drew s c _ fr
theorem run_bytes (W : World) (s : ByteArray) : (convert 9 22 (.string s)).run Tryd.prog W = .ok (.slice (some ⟨W.heap.size, 0, none⟩) s.size (grownCap W s.size 0 5))
      (W.drew.alloc (.cells (bytesRow s (grownCap W s.size 0 5)) 5 ((bytesRow s (grownCap W s.size 0 5)).size, (bytesRow s (grownCap W s.size 0 5)).size + 1))) :=
  run_bytes_of_string (P := Tryd.prog) W 9 22 5 s Tryd.underlying9 Tryd.underlying22 Tryd.underlying5
end Go.Proofs.YtoofdompafkddaaDoor.Hd
/-
  What the laws of head use: masks, bytes made of a text, a reader that was just made. No condition.
-/
namespace Go.Proofs.YtoofdompafkddaaDoor.Hd
open Go.RowKit Go.Proofs.YtoofdompafkddaaDoor.Tk Go.Proofs.YtoofdompafkddaaDoor.Fd
set_option linter.unusedVariables false

/-- A reader's blocks, of those from B on that were there. -/
def Own (B : Nat) (w : World) (k : Nat) : Prop := B ≤ k ∧ k < w.heap.size
/-- A fresh reader is fed the bytes of a text. -/
theorem feed_text (B : Nat) (resp : Bool) (g : Nat) (x : World) (s : ByteArray) (hR : Rdr x (fun k => B ≤ k) resp g start) (hs : s.size ≤ 1099511627776) (hT : Tab x) (hB : 0 < B) (hBx : B ≤ x.heap.size) :
    Calls Tryd.prog 17 #[.pointer (some ⟨g, 0, none⟩), .slice (some ⟨x.heap.size, 0, none⟩) s.size (grownCap x s.size 0 5)]
      (x.drew.alloc (.cells (bytesRow s (grownCap x s.size 0 5)) 5 ((bytesRow s (grownCap x s.size 0 5)).size, (bytesRow s (grownCap x s.size 0 5)).size + 1))) fun e w' =>
      e = .returned (.tuple #[.int .i64 ((run resp start s.data.toList).1 : Nat), .bool (doneOf (run resp start s.data.toList).2), .int .i64 (errOf (run resp start s.data.toList).2 : Nat)]) ∧ Rdr w' (fun k => B ≤ k) resp g (run resp start s.data.toList).2 ∧ Below B x w' := by
  have hb : Below x.heap.size x (x.drew.alloc (.cells (bytesRow s (grownCap x s.size 0 5)) 5 ((bytesRow s (grownCap x s.size 0 5)).size, (bytesRow s (grownCap x s.size 0 5)).size + 1))) := (Below.refl _ x).drew.alloc (Nat.le_refl _) _
  have hl : s.data.toList.length = s.size := by simp
  refine (feed_any (Own B x) resp g start _ s.data.toList _ (Rdr.below hR.bound hb) good_start (byts_new x s _ _ (grownCap_ge _ _ _ _) (grownCap_le_maxLen _ _ _ _ (by unfold maxLen; omega))) (fun _ k hk ho => ?_) (by rw [hl]; unfold maxLen; omega) (hT.below hb hT.lt) (fun ho => ?_)).mono ?_
  · injection hk with hk; subst hk; exact absurd ho.2 (Nat.lt_irrefl _)
  · have := ho.1; omega
  · rintro e w' ⟨rfl, hR2, hc⟩
    refine ⟨rfl, hR2.mono (fun k hk => ?_), (hb.mono hBx).trans (hc.below (fun k hk => hk.1) (by have := hb.size; omega))⟩
    rcases hk with hk | hk
    · exact hk.1
    · have := hb.size; omega
end Go.Proofs.YtoofdompafkddaaDoor.Hd
