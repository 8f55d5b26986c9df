/-
  A slice of ints that came in; piece's end. Condition: what the form says of what is read.
-/
import Derived.Test.YtlnlihkljnkhiaaDoorHdByts
import Derived.Test.YtlnlihkljnkhiaaDoorHdLawKit
namespace Go.Proofs.YtlnlihkljnkhiaaDoor.Hd
open Go.RowKit Go.Proofs.YtlnlihkljnkhiaaDoor.Tk Go.ChangeShapes Go.WideShapes
set_option linter.unusedVariables false

/-- A slice of so many ints. -/
def Ints (w : World) (v : Value) (L : Nat) : Prop :=
  (L = 0 ∧ ∃ a cap, v = .slice a 0 cap) ∨ ∃ b off cap, v = .slice (some ⟨b, off, none⟩) L cap ∧ b < w.heap.size ∧ ∀ j, j < L → ∃ z : Int, w.cell? ⟨b, off + j, none⟩ = some (.int .i64 z)
theorem Ints.below {B : Nat} {w w' : World} {v : Value} {L : Nat} (h : Ints w v L) (hb : Below B w w') (hB : w.heap.size ≤ B) : Ints w' v L := by
  rcases h with h | ⟨b, off, cap, hv, hlt, hh⟩
  · exact .inl h
  · exact .inr ⟨b, off, cap, hv, Nat.lt_of_lt_of_le hlt hb.size, fun j hj => by rw [hb.cell (p := ⟨b, off + j, none⟩) (by show b < B; omega)]; exact hh j hj⟩
theorem Ints.shape {w : World} {v : Value} {L : Nat} (h : Ints w v L) : ∃ a cap, v = .slice a L cap := by
  rcases h with ⟨rfl, a, cap, hv⟩ | ⟨b, off, cap, hv, _⟩
  · exact ⟨a, cap, hv⟩
  · exact ⟨_, cap, hv⟩
theorem cellsInt : Tryd.prog.cellsOf 3 = 1 := by kernel_rfl
set_option maxRecDepth 100000 in
theorem open_nums {H : Type} {enc : TypeId × Value → H} {W : World} {base : Nat} {v : Value} {d : DataW H} {p : List MemPlace} (hv : Value.okWide Tryd.prog W .any base 23 v)
    (h : DataW.Trod enc Tryd.prog W 0 (fun _ => true) true 23 v d p) :
    ∃ L : Nat, Ints W v L ∧ L ≤ maxLen := by
  obtain ⟨a0, len0, cap0, rfl⟩ := okWide_slice Tryd.underlying23 hv
  obtain ⟨fuel, hf⟩ := h
  rcases open_ints Tryd.underlying23 Tryd.underlying3 cellsInt hf with ⟨hcs, _⟩ | ⟨a, len, cap, zs, hcs, _, hl, hm, hz, hx, hcell, hwz⟩
  · simp [Value.cells] at hcs
    obtain ⟨rfl, rfl, rfl⟩ := hcs
    exact ⟨0, .inl ⟨rfl, _, _, rfl⟩, by simp⟩
  · simp [Value.cells] at hcs
    obtain ⟨rfl, rfl, rfl⟩ := hcs
    simp only [if_true] at hz
    by_cases h0 : len0 = 0
    · subst h0; exact ⟨0, .inl ⟨rfl, _, _, rfl⟩, by simp⟩
    · obtain ⟨b, off, spot⟩ := a
      have hc0 := hcell 0 (by omega)
      have hspot : spot = none := by simpa [Addr.add] using World.cell?_spot hc0
      subst hspot
      refine ⟨len0, .inr ⟨b, off, cap0, rfl, ?_, fun j hj => ?_⟩, by omega⟩
      · rw [Addr.add_lit] at hc0
        exact World.block_lt_of_cell? W _ hc0
      · have hcj := hcell j (by omega)
        rw [Addr.add_lit] at hcj
        exact ⟨_, hcj⟩
/-- The i-th piece's end: so many bytes further; all that is left behind the last cut. -/
def PiecePost (L i k long : Nat) (w : World) (e : Ending) (w' : World) : Prop := ∃ (d n : Nat), e = .returned (.int .i64 ((k : Int) + (d : Int))) ∧ w' = w.drewN n ∧ k + d ≤ long ∧ (L ≤ i → k + d = long)
set_option maxRecDepth 100000 in
set_option maxHeartbeats 2000000 in
theorem piece_any (L i k long : Nat) (v : Value) (w : World) (h : Ints w v L) (hk : k ≤ long) (hl : long ≤ 9000) (hL : L ≤ maxLen) (hi : i ≤ L + 1) :
    Calls Tryd.prog 9 #[v, .int .i64 (i : Int), .int .i64 (k : Int), .int .i64 (long : Int)] w (PiecePost L i k long w) := by
  obtain ⟨a, cap, hv⟩ := h.shape
  unfold maxLen at hL
  have HP := Lib.hid (fun (d n : Nat) (h1 : k + d ≤ long) (h2 : L ≤ i → k + d = long) => (show PiecePost L i k long w (.returned (.int .i64 ((k : Int) + (d : Int)))) (w.drewN n) from ⟨d, n, rfl, rfl, h1, h2⟩))
  by_cases hlt : i < L
  · rcases h with ⟨h0, _⟩ | ⟨b, off, cap', hv', hb, hh⟩
    · omega
    obtain ⟨z, hz⟩ := hh i hlt
    obtain ⟨r, hr, hr7⟩ := mask_nat z 1023 (by omega)
    have hr' : bits BinOp.and IntKind.i64 z 1023 = (r : Int) := hr
    subst hv'
    injection hv with e1 e2 e3
    clear hr e1 e2 e3 hh hi
    by_cases hrn : r < long - k
    · go_enter Tryd.func9, Tryd.ntmps9
      go_wp2_with fail
      go_ret
      exact HP.out r 0 (by omega) (fun h => by omega)
    · go_enter Tryd.func9, Tryd.ntmps9
      go_wp2_with fail
      go_ret
      have h0 := HP.out (long - k) 0 (by omega) (fun h => by omega)
      rw [show (k : Int) + ((long - k : Nat) : Int) = (k : Int) + ((long : Int) - (k : Int)) from by omega] at h0
      exact h0
  · subst hv
    clear h hi
    go_enter Tryd.func9, Tryd.ntmps9
    go_wp2_with fail
    go_ret
    have h0 := HP.out (long - k) 0 (by omega) (fun h => by omega)
    rw [show (k : Int) + ((long - k : Nat) : Int) = (k : Int) + ((long : Int) - (k : Int)) from by omega] at h0
    exact h0
end Go.Proofs.YtlnlihkljnkhiaaDoor.Hd
