/-
  A slice of bytes, as it reads; one that came in. Condition: what the form says of what is read.
-/
import Derived.Test.YtheljldoboiekaaTokHolds
import Derived.Lib.SmallJoins
import Derived.SizedLaws
import Derived.ProofKit
import Derived.ChangeArms
import Derived.OpenShut
namespace Go.Proofs.Ytheljldoboiekaa.Hd
open Go.RowKit Go.Proofs.Ytheljldoboiekaa.Tk Go.ChangeShapes Go.WideShapes
set_option linter.unusedVariables false

/-- A slice value that reads as these bytes. -/
def Byts (w : World) (v : Value) (l : Bs) : Prop :=
  (l = [] ∧ ∃ a cap, v = .slice a 0 cap) ∨ ∃ b off cap, v = .slice (some ⟨b, off, none⟩) l.length cap ∧ l.length ≤ cap ∧ cap ≤ maxLen ∧ b < w.heap.size ∧ Holds w b off l
theorem holds_below {B : Nat} {w w' : World} {b off : Nat} {l : Bs} (h : Holds w b off l) (hb : Below B w w') (hB : b < B) : Holds w' b off l := fun j hj => by
  rw [hb.cell (p := ⟨b, off + j, none⟩) hB]; exact h j hj
theorem Byts.below {B : Nat} {w w' : World} {v : Value} {l : Bs} (h : Byts w v l) (hb : Below B w w') (hB : w.heap.size ≤ B) : Byts w' v l := by
  rcases h with h | ⟨b, off, cap, hv, hc, hm, hlt, hh⟩
  · exact .inl h
  · exact .inr ⟨b, off, cap, hv, hc, hm, Nat.lt_of_lt_of_le hlt hb.size, holds_below hh hb (by omega)⟩
theorem Byts.shape {w : World} {v : Value} {l : Bs} (h : Byts w v l) : ∃ a cap, v = .slice a l.length cap := by
  rcases h with ⟨rfl, a, cap, hv⟩ | ⟨b, off, cap, hv, _⟩
  · exact ⟨a, cap, hv⟩
  · exact ⟨_, cap, hv⟩

theorem cellsByte : Try.prog.cellsOf 5 = 1 := by kernel_rfl
theorem byte_back {n : Int} (h : (Lit.int .u8 n).wf = true) : (((UInt8.ofNat n.toNat).toNat : Nat) : Int) = n := by
  have h2 : 0 ≤ n ∧ n < 256 := by
    have e1 : IntKind.u8.min = 0 := rfl
    have e2 : IntKind.u8.max = 255 := rfl
    simp [Lit.wf, e1, e2] at h
    omega
  rw [UInt8.toNat_ofNat']
  omega
set_option maxRecDepth 100000 in
theorem open_byts {H : Type} {enc : TypeId × Value → H} {W : World} {base : Nat} {v : Value} {d : DataW H} {p : List MemPlace} (hv : Value.okWide Try.prog W .any base 35 v)
    (h : DataW.Trod enc Try.prog W 0 (fun _ => true) true 35 v d p) :
    ∃ l : Bs, Byts W v l ∧ l.length ≤ maxLen := by
  obtain ⟨a0, len0, cap0, rfl⟩ := okWide_slice Try.underlying35 hv
  obtain ⟨fuel, hf⟩ := h
  rcases open_ints Try.underlying35 Try.underlying5 cellsByte hf with ⟨hcs, _⟩ | ⟨a, len, cap, zs, hcs, _, hl, hm, hz, hx, hcell, hwz⟩
  · simp [Value.cells] at hcs
    obtain ⟨rfl, rfl, rfl⟩ := hcs
    exact ⟨[], .inl ⟨rfl, _, _, rfl⟩, by simp⟩
  · simp [Value.cells] at hcs
    obtain ⟨rfl, rfl, rfl⟩ := hcs
    simp only [if_true] at hz
    by_cases h0 : len0 = 0
    · subst h0; exact ⟨[], .inl ⟨rfl, _, _, rfl⟩, by simp⟩
    · obtain ⟨b, off, spot⟩ := a
      have hc0 := hcell 0 (by omega)
      have hspot : spot = none := by simpa [Addr.add] using World.cell?_spot hc0
      subst hspot
      have hlen : ((zs.take len0).map fun n => UInt8.ofNat n.toNat).length = len0 := by simp; omega
      refine ⟨(zs.take len0).map fun n => UInt8.ofNat n.toNat, .inr ⟨b, off, cap0, by rw [hlen], by rw [hlen]; exact hl, hm, ?_, fun j hj => ?_⟩, by rw [hlen]; omega⟩
      · rw [Addr.add_lit] at hc0
        exact World.block_lt_of_cell? W _ hc0
      · rw [hlen] at hj
        have hcj := hcell j (by omega)
        rw [Addr.add_lit] at hcj
        have hjz : j < zs.length := by omega
        have hw := hwz zs[j] (List.getElem_mem hjz)
        have e : zs.getD j 0 = zs[j] := by simp [List.getD, List.getElem?_eq_getElem hjz]
        rw [hcj, e]
        simp only [List.getElem_map, List.getElem_take]
        rw [byte_back hw]
end Go.Proofs.Ytheljldoboiekaa.Hd
