/-
  Bytes in memory: what holds of them. No condition.
-/
import Derived.Test.YtheljldoboiekaaRows
import Derived.Test.YtheljldoboiekaaTokMath
import Derived.WalkKit
import Derived.WalkLawsBesides
import Derived.Outline
import Derived.Lib.Hide
namespace Go.Proofs.Ytheljldoboiekaa.Tk
open Go.RowKit

/-- The cells of block b from off on hold these bytes. -/
def Holds (w : World) (b off : Nat) (l : Bs) : Prop := ∀ j (hj : j < l.length), w.cell? ⟨b, off + j, none⟩ = some (.int .u8 (l[j].toNat : Int))
theorem Holds.part {w : World} {b off : Nat} {l : Bs} (h : Holds w b off l) (k m : Nat) (hm : m ≤ l.length) : Holds w b (off + k) ((l.take m).drop k) := by
  intro j hj
  have hj' := hj
  rw [part_length l k m hm] at hj'
  rw [part_get l k m j hm hj, Nat.add_assoc]
  exact h (k + j) (by omega)
theorem Holds.nil (w : World) (b off : Nat) : Holds w b off [] := fun _ hj => by simp at hj

/-- What '[]byte(s)' lays holds the bytes of s, and below it all is as it was. -/
theorem holds_new (w : World) (s : ByteArray) (cap : Nat) (t : TypeId) (fr : Nat × Nat) : Holds (w.alloc (.cells (bytesRow s cap) t fr)) w.heap.size 0 s.data.toList := by
  intro j hj
  rw [Nat.zero_add, World.cell?_alloc_mark, bytesRow_at s cap j (by simpa using hj)]
  simp
theorem holds_drew {w : World} {b off : Nat} {l : Bs} (h : Holds w b off l) : Holds w.drew b off l := h
/-- 'string(b)' of bytes that lie so. -/
theorem run_back {P : Program} (w : World) (src dst e : TypeId) (b off cap : Nat) (l : Bs) (hs : P.underlying src = some (.slice e)) (he : P.underlying e = some (.int .u8)) (hd : P.underlying dst = some .string)
    (hc : Holds w b off l) : (convert src dst (.slice (some ⟨b, off, none⟩) l.length cap)).run P w = .ok (.string ⟨l.toArray⟩) w :=
  run_convert_bytes_back w src dst e ⟨b, off, none⟩ cap l hs he hd fun j hj => by
    have := hc j hj
    by_cases h0 : j = 0
    · subst h0; simpa [Addr.add] using this
    · simpa [Addr.add, h0] using this
end Go.Proofs.Ytheljldoboiekaa.Tk
