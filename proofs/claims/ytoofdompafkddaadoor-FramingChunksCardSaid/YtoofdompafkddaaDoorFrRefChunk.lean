/-
  The reference's Chunk: what it returns. Condition: at most 2^30 bytes.
-/
import Derived.Test.YtoofdompafkddaaDoorFrChunk
import Derived.Test.YtoofdompafkddaaDoorFdBackMath
namespace Go.Proofs.YtoofdompafkddaaDoor.Fr
open Go.RowKit Go.Proofs.YtoofdompafkddaaDoor.Tk Go.Proofs.YtoofdompafkddaaDoor.Fd Go.Proofs.YtoofdompafkddaaDoor.Hd
set_option linter.unusedVariables false

/-- Where the loop over the digits stands. -/
def HexAt (n m : Nat) (L : Bs) : Prop := (0 < m → hexL n = hexL m ++ L) ∧ (m = 0 → hexL n = L) ∧ m ≤ n ∧ (0 < m → L.length ≤ (hexL n).length)
theorem HexAt.next {n m : Nat} {L : Bs} (h : HexAt n m L) (hm : 0 < m) : HexAt n (m / 16) (hexD (m % 16) :: L) := by
  obtain ⟨h1, h2, h3, h4⟩ := h
  have e := h1 hm
  by_cases hs : m < 16
  · have e0 : m / 16 = 0 := by omega
    refine ⟨fun h => by omega, fun _ => ?_, by omega, fun h => by omega⟩
    rw [e, hexL_small hs, Nat.mod_eq_of_lt hs]; rfl
  · refine ⟨fun _ => by rw [e, hexL_big hs]; simp, fun h => by omega, by omega, fun _ => ?_⟩
    rw [e, hexL_big hs]; simp
theorem HexAt.len {n m : Nat} {L : Bs} (h : HexAt n m L) : L.length ≤ (hexL n).length := by
  by_cases hm : 0 < m
  · exact h.2.2.2 hm
  · rw [h.2.1 (by omega)]; exact Nat.le_refl _
def dig16 : ByteArray := ⟨#[48, 49, 50, 51, 52, 53, 54, 55, 56, 57, 97, 98, 99, 100, 101, 102]⟩
theorem dig16_at : ∀ r : Fin 16, dig16.extract r.val (r.val + 1) = ⟨#[hexD r.val]⟩ := by decide +kernel
theorem dig_slice (W : World) (m : Nat) : (Instr.slice 9 (.string ⟨#[48, 49, 50, 51, 52, 53, 54, 55, 56, 57, 97, 98, 99, 100, 101, 102]⟩) (some (.int .i64 ((m : Int) % 16))) (some (.int .i64 ((m : Int) % 16 + 1))) none).run Tryd.prog W = .ok (.string ⟨#[hexD (m % 16)]⟩) W := by
  have hr : m % 16 < 16 := Nat.mod_lt _ (by omega)
  have h1 := dig16_at ⟨m % 16, hr⟩
  have h2 := run_slice_string (P := Tryd.prog) W 9 dig16 .i64 .i64 ((m : Int) % 16) ((m : Int) % 16 + 1) Tryd.underlying9 (by omega) (by omega) (by have : dig16.size = 16 := rfl; omega)
  have e1 : ((m : Int) % 16).toNat = m % 16 := by omega
  have e2 : ((m : Int) % 16 + 1).toNat = m % 16 + 1 := by omega
  rw [e1, e2] at h2
  rw [← h1]
  exact h2
theorem byts_two (w : World) : Byts (w.alloc (.cells #[.int .u8 13, .int .u8 10] 5)) (.slice (some ⟨w.heap.size, 0, none⟩) 2 2) [13, 10] := by
  have HN := new_block w (.cells #[.int .u8 13, .int .u8 10] 5)
  refine .inr ⟨w.heap.size, 0, 2, rfl, by decide, by decide, by simp, fun j hj => ?_⟩
  rw [Lib.cell_of_heap HN, Nat.zero_add]
  have : j < 2 := hj
  rcases (by omega : j = 0 ∨ j = 1) with rfl | rfl <;> rfl
theorem cons_text (c : UInt8) (L : Bs) : (⟨#[c]⟩ : ByteArray) ++ ⟨L.toArray⟩ = ⟨(c :: L).toArray⟩ := bytes_eq (by simp)
set_option maxRecDepth 100000 in
set_option maxHeartbeats 4000000 in
theorem refChunk_any (v : Value) (b : Bs) (w : World) (hv : Byts w v b) (hb : b.length ≤ 1073741824) :
    Calls Tryd.prog 39 #[v] w (ChunkPost b w) := by
  obtain ⟨va, vc, hvs⟩ := hv.shape
  subst hvs
  by_cases h0 : b = []
  · subst h0
    have HP := Lib.hid (show ChunkPost [] w (.returned (.slice none 0 0)) w from ⟨_, rfl, Own.nil _ _, Below.refl _ _⟩)
    clear hv
    go_enter Tryd.func39, Tryd.ntmps39
    go_wp2_with fail
    go_ret
    exact HP.out
  · have hpos : 0 < b.length := List.length_pos_iff.2 h0
    have HV := Lib.hid hv
    have hne : ((b.length : Int) == 0) = false := by rw [beq_eq_false_iff_ne]; omega
    have hh := hexL_len 14 b.length (by omega)
    have HCK := Lib.hid (chunkL_some h0)
    have HA := Lib.hid (show HexAt b.length b.length [] from ⟨fun _ => by simp, fun h => by omega, Nat.le_refl _, fun _ => by simp⟩)
    clear hv h0
    go_enter Tryd.func39, Tryd.ntmps39
    go_wp2_with fail
    go_loopw [3, 4] (fun s n wr => ∃ (m : Nat) (L : Bs), s = .string ⟨L.toArray⟩ ∧ n = .int .i64 (m : Int) ∧ HexAt b.length m L ∧ w = wr) (fun _ n _ => (intOf n).toNat)
    case atStart => exact ⟨_, [], rfl, rfl, HA.out, rfl⟩
    case round =>
      obtain ⟨m, L, rfl, rfl, hA, hwr⟩ := hrel
      have HA2 := Lib.hid hA
      have hL := hA.len
      have hmb := hA.2.2.1
      subst hwr
      clear HA hA
      by_cases hm : 0 < m
      · have hsl := fun W => dig_slice W m
        have HN := Lib.hid (HA2.out.next hm)
        have hLs : (⟨L.toArray⟩ : ByteArray).size = L.length := by simp [ByteArray.size]
        go_wp2_with fail
        go_roundw
        case rel => exact ⟨m / 16, hexD (m % 16) :: L, by rw [cons_text], by go_num, HN.out, by first | rfl | trivial⟩
        case measure => simp [intOf]; omega
      · obtain rfl : L = hexL b.length := (HA2.out.2.1 (by omega)).symm
        obtain ⟨S, hSd, hSs, hcs⟩ := conv_hex b.length (by omega)
        have HSD := Lib.hid hSd
        have HSS := Lib.hid hSs
        clear hSd hSs HA2 hL
        have HHE := Lib.hid (show Byts w (.slice va b.length vc) b from HV.out)
        go_upto_region 8 with fail
        obtain ⟨C, hC⟩ : ∃ C, C = grownCap w S.size 0 5 := ⟨_, rfl⟩
        obtain ⟨w2, hw2⟩ : ∃ w2, w2 = (w.alloc (.cells (bytesRow S C) 5 ((bytesRow S C).size, (bytesRow S C).size + 1))).drew := ⟨_, rfl⟩
        have HO := Lib.hid (show Own w2 w.heap.size (.slice (some ⟨w.heap.size, 0, none⟩) S.size C) (hexL b.length ++ [13, 10]) from by
          rw [← HSD.out, hw2]
          exact own_bytes w S C (by rw [hC]; exact grownCap_ge _ _ _ _) (by rw [hC]; exact grownCap_le_maxLen _ _ _ _ (by have := HSS.out; unfold maxLen; omega)))
        have HB2 := Lib.hid (show Below w.heap.size w w2 from by rw [hw2]; exact ((Below.refl _ _).alloc (Nat.le_refl _) _).drew)
        have hs2 : w.heap.size ≤ w2.heap.size := by rw [hw2]; simp
        have HV2 := Lib.hid (HV.out.below HB2.out (Nat.le_refl _))
        have HL := Lib.hid (show (hexL b.length ++ [13, 10]).length + b.length ≤ 1099511627776 ∧ (hexL b.length ++ [13, 10] ++ b).length + 2 ≤ 1099511627776 from by simp only [List.length_append, List.length_cons, List.length_nil]; omega)
        have hcs2 : (convert 9 22 (.string (⟨(hexL b.length).toArray⟩ ++ ⟨#[13, 10]⟩))).run Tryd.prog w = .ok (.slice (some ⟨w.heap.size, 0, none⟩) S.size C) w2 := by rw [hC, hw2, hcs w, hC]; rfl
        clear hcs hC hw2
        have hNW := new_block
        go_wp2_with (first | (at_builtin; refine wpList_append_any _ rfl _ _ 22 rfl w.heap.size _ _ (hexL b.length ++ [13, 10]) b rfl rfl hs2 HO.out (src_byts HV2.out) HL.out.1 ?_; intro v3 w3 hp3; have HP3 := Lib.hid hp3; have hs3 : w.heap.size ≤ w3.heap.size := Nat.le_trans hs2 hp3.2.1.size; obtain ⟨a3, c3, hv3⟩ := hp3.1.form; obtain ⟨n3, hn3⟩ : ∃ n3, n3 = (hexL b.length ++ [13, 10] ++ b).length := ⟨_, rfl⟩; rw [← hn3] at hv3; clear hn3; subst hv3; have HO3 := Lib.hid (hp3.1.below ((Below.refl w3.heap.size w3).alloc (Nat.le_refl _) (.cells #[.int .u8 13, .int .u8 10] 5))); have HY3 := Lib.hid (byts_two w3); clear hp3) | (at_builtin; refine wpList_append_any _ rfl _ _ 22 rfl w.heap.size _ _ (hexL b.length ++ [13, 10] ++ b) [13, 10] rfl rfl (by simp; omega) HO3.out (src_byts HY3.out) HL.out.2 ?_; intro v4 w4 hp4; have HP4 := Lib.hid hp4; clear hp4))
        go_ret
        have hb3 := app_below HP3.out HO.out HB2.out (Nat.le_refl _) hs2
        exact ⟨_, rfl, by rw [HCK.out]; exact HP4.out.1, app_below HP4.out HO3.out (hb3.alloc hs3 _) (Nat.le_refl _) (by simp; omega)⟩
end Go.Proofs.YtoofdompafkddaaDoor.Fr
