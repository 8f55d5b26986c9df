/-
  A piece of bytes. No condition but what a slice can have.
-/
import Derived.Test.YtoofdompafkddaaDoorHdByts
namespace Go.Proofs.YtoofdompafkddaaDoor.Fr
open Go.RowKit Go.Proofs.YtoofdompafkddaaDoor.Tk Go.Proofs.YtoofdompafkddaaDoor.Hd
set_option linter.unusedVariables false

theorem byts_cut {w : World} {B off cap k d : Nat} {b : Bs} (h : Byts w (.slice (some ⟨B, off, none⟩) b.length cap) b) (hb : B < w.heap.size) (hcap : b.length ≤ cap) (hcm : cap ≤ maxLen) (hk : k + d ≤ b.length) :
    Byts w (.slice (some ⟨B, off + k, none⟩) d (cap - k)) ((b.drop k).take d) := by
  have hl : ((b.drop k).take d).length = d := by rw [List.length_take, List.length_drop]; omega
  rcases h with ⟨h0, _⟩ | ⟨B', off', cap', hv, _, _, _, hh⟩
  · subst h0
    simp at hk
    obtain ⟨rfl, rfl⟩ := hk
    exact .inl ⟨by simp, _, _, rfl⟩
  · injection hv with e1 _ e3
    injection e1 with e1
    injection e1 with e1 e2
    subst e1 e2 e3
    refine .inr ⟨B, off + k, cap - k, by rw [hl], by rw [hl]; omega, by omega, hb, fun j hj => ?_⟩
    rw [hl] at hj
    have := hh (k + j) (by omega)
    rw [← Nat.add_assoc] at this
    rw [this]
    simp [List.getElem_take, List.getElem_drop]
end Go.Proofs.YtoofdompafkddaaDoor.Fr
