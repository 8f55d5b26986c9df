/-
  line.cut, line.readMinor and line.readCode: what each returns. Conditions: at most 1024 bytes.
-/
import Derived.Test.YtlnlihkljnkhiaaDoorLnParts
import Derived.Test.YtlnlihkljnkhiaaDoorLnShelf
import Derived.Test.YtlnlihkljnkhiaaDoorNum
import Derived.Laws.BytesArg
import Derived.Deep.QuietTactic
import Derived.BigQuiet
namespace Go.Proofs.YtlnlihkljnkhiaaDoor.Ln
open Go.RowKit Go.Proofs.YtlnlihkljnkhiaaDoor.Tk

/-- The cells of block b from off on hold these bytes. -/
def Holds (w : World) (b off : Nat) (l : Bs) : Prop := ∀ j (hj : j < l.length), w.cell? ⟨b, off + j, none⟩ = some (.int .u8 (l[j].toNat : Int))
theorem Holds.part {w : World} {b off : Nat} {l : Bs} (h : Holds w b off l) (k m : Nat) (hm : m ≤ l.length) : Holds w b (off + k) ((l.take m).drop k) := by
  intro j hj
  have hj' := hj
  rw [part_length l k m hm] at hj'
  rw [part_get l k m j hm hj, Nat.add_assoc]
  exact h (k + j) (by omega)
theorem Holds.none (w : World) (b off : Nat) {l : Bs} (h : l.length = 0) : Holds w b off l := fun _ hj => by omega
theorem Holds.fst {w : World} {b off : Nat} {l : Bs} (h : Holds w b off l) : Holds w b off (fst l) := by
  have := h.part 0 (idx l) (idx_le l)
  simpa [Ln.fst] using this
theorem Holds.rst {w : World} {b off : Nat} {l : Bs} (h : Holds w b off l) : Holds w b (off + (idx l + 1)) (rst l) := by
  have := h.part (idx l + 1) l.length (Nat.le_refl _)
  simpa [Ln.rst] using this
/-- A slice that reads as these bytes, in a block from lo on. -/
def SB (lo : Nat) (w : World) (v : Value) (l : Bs) : Prop := (∃ b off cap, v = .slice (some ⟨b, off, none⟩) l.length cap ∧ l.length ≤ cap ∧ Holds w b off l ∧ lo ≤ b) ∨ (v = .slice none 0 0 ∧ l = [])
theorem SB.drawn {lo : Nat} {w : World} {v : Value} {l : Bs} (h : SB lo w v l) (n : Nat) : SB lo (w.drewN n) v l := h

theorem bytesOf_map (l : Bs) : Lib.bytesOf (l.map fun c => (c.toNat : Int)) = l := by
  induction l with
  | nil => rfl
  | cons c r ih => simp [Lib.bytesOf] at ih ⊢; exact ih
theorem index_any (b off cap : Nat) (l : Bs) (w : World) (h : Holds w b off l) :
    Calls Tryd.prog 33 #[.slice (some ⟨b, off, none⟩) l.length cap, .int .u8 32] w fun e w' => e = .returned (.int .i64 (Lib.indexByte l 32)) ∧ w = w' := by
  refine (bytes_IndexByte b off l.length cap (l.map fun c => (c.toNat : Int)) 32 w (by simp) ?_).mono ?_
  · intro i hi
    rw [h i hi]
    simp [hi]
  · rintro e w' ⟨rfl, rfl⟩
    rw [bytesOf_map]
    exact ⟨rfl, rfl⟩
theorem index_nil (w : World) :
    Calls Tryd.prog 33 #[.slice none 0 0, .int .u8 32] w fun e w' => e = .returned (.int .i64 (-1)) ∧ w = w' :=
  (bytes_IndexByte_nil 32 w).mono fun _ _ ⟨he, hw⟩ => ⟨he, hw.symm⟩

def CutPost (lo : Nat) (w : World) (l : Bs) (e : Ending) (w' : World) : Prop := ∃ a b, e = .returned (.tuple #[a, b]) ∧ SB lo w a (fst l) ∧ SB lo w b (rst l) ∧ ∃ n, w' = w.drewN n

set_option maxHeartbeats 1000000 in
theorem cut_nil (lo : Nat) (w : World) : Calls Tryd.prog 41 #[.slice none 0 0] w (CutPost lo w []) := by
  go_enter Tryd.func41, Tryd.ntmps41
  go_wp2_with (go_at_call 33; refine (index_nil _).mono ?_; rintro e w' ⟨rfl, rfl⟩)
  go_ret2
  exact ⟨_, _, rfl, .inr ⟨rfl, rfl⟩, .inr ⟨rfl, rfl⟩, 0, rfl⟩

set_option maxHeartbeats 1000000 in
theorem cut_some (lo b off cap : Nat) (l : Bs) (w : World) (hl : l.length ≤ 1024) (hcap : l.length ≤ cap) (hc : Holds w b off l) (hlo : lo ≤ b) :
    Calls Tryd.prog 41 #[.slice (some ⟨b, off, none⟩) l.length cap] w (CutPost lo w l) := by
  have HC := Lib.hid hc
  clear hc
  by_cases h : idx l < l.length
  · have HI := Lib.hid (show Lib.indexByte l 32 = (idx l : Int) from by rw [indexByte_eq, if_pos h])
    have HF := Lib.hid (fst_len l)
    have HR := Lib.hid (rst_len l)
    obtain ⟨k, hk⟩ : ∃ k, k = idx l := ⟨_, rfl⟩
    have HK := Lib.hid hk
    rw [← hk] at h HI HF HR
    clear hk
    by_cases h1 : k + 1 < l.length
    · go_enter Tryd.func41, Tryd.ntmps41
      go_wp2_with (go_at_call 33; refine (index_any _ _ _ l _ HC.out).mono ?_; rintro e w' ⟨rfl, rfl⟩; rw [HI.out])
      go_quiet (fail)
      go_wp2_with fail
      go_ret2
      exact ⟨_, _, rfl, .inl ⟨b, off, k, by rw [HF.out]; rfl, by rw [HF.out]; exact Nat.le_refl _, HC.out.fst, hlo⟩, .inl ⟨b, off + (k + 1), l.length - (k + 1), by rw [HR.out]; rfl, by rw [HR.out]; exact Nat.le_refl _, by have := HC.out.rst; rw [← HK.out] at this; exact this, hlo⟩, _, rfl⟩
    · go_enter Tryd.func41, Tryd.ntmps41
      go_wp2_with (go_at_call 33; refine (index_any _ _ _ l _ HC.out).mono ?_; rintro e w' ⟨rfl, rfl⟩; rw [HI.out])
      go_quiet (fail)
      go_wp2_with fail
      go_ret2
      exact ⟨_, _, rfl, .inl ⟨b, off, k, by rw [HF.out]; rfl, by rw [HF.out]; exact Nat.le_refl _, HC.out.fst, hlo⟩, .inl ⟨b, off, 0, by rw [HR.out, show l.length - (k + 1) = 0 from by omega]; rfl, by rw [HR.out]; omega, Holds.none _ _ _ (by rw [HR.out]; omega), hlo⟩, _, rfl⟩
  · have HI := Lib.hid (show Lib.indexByte l 32 = -1 from by rw [indexByte_eq, if_neg h])
    have HF := Lib.hid (fst_full h)
    have HR := Lib.hid (rst_full h)
    clear h
    go_enter Tryd.func41, Tryd.ntmps41
    go_wp2_with (go_at_call 33; refine (index_any _ _ _ l _ HC.out).mono ?_; rintro e w' ⟨rfl, rfl⟩; rw [HI.out])
    go_ret2
    exact ⟨_, _, rfl, by rw [HF.out]; exact .inl ⟨b, off, _, rfl, Nat.le_refl _, HC.out, hlo⟩, by rw [HR.out]; exact .inr ⟨rfl, rfl⟩, 0, rfl⟩

theorem cut_any (lo : Nat) (v : Value) (l : Bs) (w : World) (hl : l.length ≤ 1024) (h : SB lo w v l) : Calls Tryd.prog 41 #[v] w (CutPost lo w l) := by
  rcases h with ⟨b, off, cap, rfl, hcap, hc, hlo⟩ | ⟨rfl, rfl⟩
  · exact cut_some lo b off cap l w hl hcap hc hlo
  · exact cut_nil lo w

/-- 'string(b)' of bytes that lie so. -/
theorem run_back {lo : Nat} {v : Value} {l : Bs} (w : World) (h : SB lo w v l) : (convert 22 9 v).run Tryd.prog w = .ok (.string ⟨l.toArray⟩) w := by
  rcases h with ⟨b, off, cap, rfl, _, hc, _⟩ | ⟨rfl, rfl⟩
  · refine run_convert_bytes_back w 22 9 5 ⟨b, off, none⟩ cap l Tryd.underlying22 Tryd.underlying5 Tryd.underlying9 fun j hj => ?_
    have := hc j hj
    by_cases h0 : j = 0
    · subst h0; simpa [Addr.add] using this
    · simpa [Addr.add, h0] using this
  · exact run_convert_bytes_nil w 22 5 Tryd.underlying22 Tryd.underlying5 0 0 9 Tryd.underlying9

/-- The version's text of a minor 0 or 1. -/
theorem version_small (n : Nat) (hn : n < 2) (w : World) :
    Calls Tryd.prog 61 #[.int .i64 (n : Int)] w fun e w' => e = .returned (.string ⟨#[72, 84, 84, 80, 47, 49, 46, 48 + UInt8.ofNat n]⟩) ∧ w = w' := by
  have HD := Lib.hid (show Lib.decDigits n = [48 + UInt8.ofNat n] from
    match n, hn with
    | 0, _ => by kernel_rfl
    | 1, _ => by kernel_rfl)
  go_enter Tryd.func61, Tryd.ntmps61
  go_wp2_with fail
  refine (strconv_Itoa_small n (by omega) _).mono ?_
  rintro e w' ⟨rfl, rfl⟩
  rw [HD.out]
  go_wp2_with fail
  go_ret
  exact ⟨rfl, rfl⟩
end Go.Proofs.YtlnlihkljnkhiaaDoor.Ln
