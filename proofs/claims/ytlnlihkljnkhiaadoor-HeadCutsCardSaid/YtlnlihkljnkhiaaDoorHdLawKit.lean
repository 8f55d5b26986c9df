/-
  What the laws of head use: masks, bytes made of a text, a reader that was just made. No condition.
-/
import Derived.Test.YtlnlihkljnkhiaaDoorHdReq
import Derived.Test.YtlnlihkljnkhiaaDoorHdNew
import Derived.Test.YtlnlihkljnkhiaaDoorHdRunMath
import Derived.Test.YtlnlihkljnkhiaaDoorLnRequest
namespace Go.Proofs.YtlnlihkljnkhiaaDoor.Hd
open Go.RowKit Go.Proofs.YtlnlihkljnkhiaaDoor.Tk Go.Proofs.YtlnlihkljnkhiaaDoor.Fd
set_option linter.unusedVariables false

theorem mask (a : Int) (m : Nat) (hm : m < 9223372036854775808) : 0 ≤ bits .and .i64 a (m : Int) ∧ bits .and .i64 a (m : Int) ≤ (m : Int) := by
  have h1 : (BitVec.ofInt 64 a &&& BitVec.ofInt 64 (m : Int)).toNat ≤ m := by
    rw [BitVec.toNat_and, BitVec.ofInt_natCast, BitVec.toNat_ofNat]
    exact Nat.le_trans Nat.and_le_right (Nat.mod_le _ _)
  have h2 : bits .and .i64 a (m : Int) = IntKind.i64.wrap ((BitVec.ofInt 64 a &&& BitVec.ofInt 64 (m : Int)).toNat : Int) := rfl
  rw [h2, IntKind.wrap_i64]
  omega
theorem mask_nat (a : Int) (m : Nat) (hm : m < 9223372036854775808) : ∃ r : Nat, bits .and .i64 a (m : Int) = (r : Int) ∧ r ≤ m := by
  obtain ⟨h0, h1⟩ := mask a m hm
  exact ⟨(bits .and .i64 a (m : Int)).toNat, by omega, by omega⟩
/-- What '[]byte(s)' lays. -/
theorem byts_new (w : World) (s : ByteArray) (c : Nat) (fr : Nat × Nat) (hc : s.size ≤ c) (hm : c ≤ maxLen) : Byts (w.drew.alloc (.cells (bytesRow s c) 5 fr)) (.slice (some ⟨w.heap.size, 0, none⟩) s.size c) s.data.toList := by
  have hl : s.data.toList.length = s.size := by simp
  refine .inr ⟨w.heap.size, 0, c, by rw [hl], by rw [hl]; exact hc, hm, by simp, ?_⟩
  exact Tk.holds_new w.drew s c _ fr
theorem run_bytes (W : World) (s : ByteArray) : (convert 9 22 (.string s)).run Tryd.prog W = .ok (.slice (some ⟨W.heap.size, 0, none⟩) s.size (grownCap W s.size 0 5))
      (W.drew.alloc (.cells (bytesRow s (grownCap W s.size 0 5)) 5 ((bytesRow s (grownCap W s.size 0 5)).size, (bytesRow s (grownCap W s.size 0 5)).size + 1))) :=
  run_bytes_of_string (P := Tryd.prog) W 9 22 5 s Tryd.underlying9 Tryd.underlying22 Tryd.underlying5
/-- A reader's blocks, of those from B on that were there. -/
def Own (B : Nat) (w : World) (k : Nat) : Prop := B ≤ k ∧ k < w.heap.size
/-- A fresh reader is fed the bytes of a text. -/
theorem feed_text (B : Nat) (resp : Bool) (g : Nat) (x : World) (s : ByteArray) (hR : Rdr x (fun k => B ≤ k) resp g start) (hs : s.size ≤ 1099511627776) (hT : Tab x) (hB : 0 < B) (hBx : B ≤ x.heap.size) :
    Calls Tryd.prog 10 #[.pointer (some ⟨g, 0, none⟩), .slice (some ⟨x.heap.size, 0, none⟩) s.size (grownCap x s.size 0 5)]
      (x.drew.alloc (.cells (bytesRow s (grownCap x s.size 0 5)) 5 ((bytesRow s (grownCap x s.size 0 5)).size, (bytesRow s (grownCap x s.size 0 5)).size + 1))) fun e w' =>
      e = .returned (.tuple #[.int .i64 ((run resp start s.data.toList).1 : Nat), .bool (doneOf (run resp start s.data.toList).2), .int .i64 (errOf (run resp start s.data.toList).2 : Nat)]) ∧ Rdr w' (fun k => B ≤ k) resp g (run resp start s.data.toList).2 ∧ Below B x w' := by
  have hb : Below x.heap.size x (x.drew.alloc (.cells (bytesRow s (grownCap x s.size 0 5)) 5 ((bytesRow s (grownCap x s.size 0 5)).size, (bytesRow s (grownCap x s.size 0 5)).size + 1))) := (Below.refl _ x).drew.alloc (Nat.le_refl _) _
  have hl : s.data.toList.length = s.size := by simp
  refine (feed_any (Own B x) resp g start _ s.data.toList _ (Rdr.below hR.bound hb) good_start (byts_new x s _ _ (grownCap_ge _ _ _ _) (grownCap_le_maxLen _ _ _ _ (by unfold maxLen; omega))) (fun _ k hk ho => ?_) (by rw [hl]; unfold maxLen; omega) (hT.below hb hT.lt) (fun ho => ?_)).mono ?_
  · injection hk with hk; subst hk; exact absurd ho.2 (Nat.lt_irrefl _)
  · have := ho.1; omega
  · rintro e w' ⟨rfl, hR2, hc⟩
    refine ⟨rfl, hR2.mono (fun k hk => ?_), (hb.mono hBx).trans (hc.below (fun k hk => hk.1) (by have := hb.size; omega))⟩
    rcases hk with hk | hk
    · exact hk.1
    · have := hb.size; omega
end Go.Proofs.YtlnlihkljnkhiaaDoor.Hd
