/-
  Hexadecimal digits; strconv.FormatInt at base 16: what it returns. Conditions: a number from 0 to 2^60; one cell of a table of math/bits.
-/
import Derived.Test.YtoofdompafkddaaDoorFrD64
import Derived.Test.YtoofdompafkddaaDoorHdChg
import Derived.Deep.QuietTactic
import Derived.BigQuiet
namespace Go.Proofs.YtoofdompafkddaaDoor.Fr
open Go.RowKit Go.Proofs.YtoofdompafkddaaDoor.Tk Go.Proofs.YtoofdompafkddaaDoor.Fd Go.Proofs.YtoofdompafkddaaDoor.Hd
set_option linter.unusedVariables false

def hexD (r : Nat) : UInt8 := if r < 10 then UInt8.ofNat (48 + r) else UInt8.ofNat (87 + r)
/-- A number's digits. -/
def hexL (n : Nat) : Bs := if h : n < 16 then [hexD n] else hexL (n / 16) ++ [hexD (n % 16)]
termination_by n
decreasing_by omega
theorem hexL_small {n : Nat} (h : n < 16) : hexL n = [hexD n] := by rw [hexL, dif_pos h]
theorem hexL_big {n : Nat} (h : ¬ n < 16) : hexL n = hexL (n / 16) ++ [hexD (n % 16)] := by rw [hexL, dif_neg h]
theorem hexL_len : ∀ (k n : Nat), n < 16 ^ (k + 1) → (hexL n).length ≤ k + 1
  | 0, n, h => by rw [hexL_small (by omega)]; simp
  | k + 1, n, h => by
    by_cases hn : n < 16
    · rw [hexL_small hn]; simp
    · rw [hexL_big hn, List.length_append, List.length_singleton]
      have := hexL_len k (n / 16) (by rw [Nat.div_lt_iff_lt_mul (by omega)]; rw [Nat.pow_succ] at h; omega)
      omega
/-- The digits' table. -/
def digs : ByteArray := ⟨#[48, 49, 50, 51, 52, 53, 54, 55, 56, 57, 97, 98, 99, 100, 101, 102, 103, 104, 105, 106, 107, 108, 109, 110, 111, 112, 113, 114, 115, 116, 117, 118, 119, 120, 121, 122]⟩
theorem digs_at : ∀ r : Fin 16, digs.data.toList[r.val]? = some (hexD r.val) := by decide
theorem digs_get (r : Nat) (hr : r < 16) (h : r < digs.size) : digs[r] = hexD r := by
  have h1 := digs_at ⟨r, hr⟩
  have h2 : digs.data.toList[r]? = some digs[r] := by
    rw [List.getElem?_eq_getElem (by simpa using h)]; rfl
  rw [h2] at h1
  exact Option.some.inj h1
/-- The buffer: so many digits at its end. -/
def arrOf (L : Bs) : Array Value := (List.replicate (65 - L.length) (Value.int .u8 0) ++ bys L).toArray
theorem arr_put (L : Bs) (d : UInt8) (h : L.length < 65) : (arrOf L).setIfInBounds (65 - L.length - 1) (.int .u8 (d.toNat : Int)) = arrOf (d :: L) := by
  obtain ⟨k, hk⟩ : ∃ k, 65 - L.length = k + 1 := ⟨64 - L.length, by omega⟩
  have hk2 : 65 - L.length - 1 = k := by omega
  unfold arrOf
  rw [hk2, show 65 - (d :: L).length = k from by rw [List.length_cons]; omega, hk]
  apply Array.ext'
  rw [Array.toList_setIfInBounds]
  show List.set (List.replicate (k + 1) (Value.int .u8 0) ++ bys L) k _ = List.replicate k _ ++ bys (d :: L)
  rw [List.replicate_succ', List.append_assoc, List.set_append_right _ _ (by simp)]
  simp [bys]
theorem arr_cell {w : World} {B : Nat} {L : Bs} {t : TypeId} {fr : Nat × Nat} (h : w.heap[B]? = some (.cells (arrOf L) t fr)) (hl : L.length < 65) : w.cell? ⟨B, 65 - L.length - 1, none⟩ = some (.int .u8 0) := by
  rw [Lib.cell_of_heap h]
  unfold arrOf
  rw [List.getElem?_toArray, List.getElem?_append_left (by simp; omega), List.getElem?_replicate, if_pos (by omega)]
theorem arr_holds {w : World} {B : Nat} {L : Bs} {t : TypeId} {fr : Nat × Nat} (h : w.heap[B]? = some (.cells (arrOf L) t fr)) (hl : L.length ≤ 65) : Holds w B (65 - L.length) L := by
  intro j hj
  rw [Lib.cell_of_heap h]
  unfold arrOf
  rw [List.getElem?_toArray, List.getElem?_append_right (by simp), List.length_replicate, Nat.add_sub_cancel_left]
  simp [bys, hj]
set_option maxHeartbeats 1000000 in
theorem pow_yes (w : World) : Calls Tryd.prog 143 #[.int .i64 16] w fun e w' => e = .returned (.bool true) ∧ w = w' := by
  go_enter Tryd.func143, Tryd.ntmps143
  go_wp2_with fail
  go_ret
  exact ⟨rfl, rfl⟩
theorem tz_index : IntKind.u64.wrap (bits BinOp.and IntKind.u64 16 (IntKind.u64.wrap (-16)) * 285870213051353865) / 288230376151711744 = 15 := by kernel_rfl
set_option maxHeartbeats 1000000 in
theorem tz64_any (w : World) (hD : D64 w) : Calls Tryd.prog 156 #[.int .u64 16] w fun e w' => e = .returned (.int .i64 4) ∧ w = w' := by
  have h : w.cell? ⟨4, 15, none⟩ = some (.int .u8 4) := hD
  have hx := tz_index
  go_enter Tryd.func156, Tryd.ntmps156
  go_wp2_with fail
  go_ret
  exact ⟨rfl, rfl⟩
set_option maxHeartbeats 1000000 in
theorem tz_any (w : World) (hD : D64 w) : Calls Tryd.prog 144 #[.int .u64 16] w fun e w' => e = .returned (.int .i64 4) ∧ w = w' := by
  have HD := Lib.hid hD
  clear hD
  go_enter Tryd.func144, Tryd.ntmps144
  go_wp2_with fail
  refine (tz64_any w HD.out).mono ?_
  rintro e w' ⟨rfl, rfl⟩
  go_wp2_with fail
  go_ret
  exact ⟨rfl, rfl⟩
/-- Where the loop over the digits stands. -/
def DigAt (n : Nat) (w : World) (m : Nat) (L : Bs) (wr : World) : Prop :=
  hexL n = hexL m ++ L ∧ m * 16 ^ L.length ≤ n ∧ wr.heap[w.heap.size]? = some (.cells (arrOf L) 180 (0, 0)) ∧ Below w.heap.size w wr ∧ (m = 0 → L = [])
theorem DigAt.len {n : Nat} {w : World} {m : Nat} {L : Bs} {wr : World} (h : DigAt n w m L wr) (hn : n < 1152921504606846976) : L.length ≤ 15 := by
  have h2 := h.2.1
  by_cases hm : m = 0
  · rw [h.2.2.2.2 hm]; simp
  by_cases hl : L.length ≤ 15
  · exact hl
  · have h3 : 16 ^ 16 ≤ 16 ^ L.length := Nat.pow_le_pow_right (by omega) (by omega)
    have h4 : 16 ^ L.length ≤ m * 16 ^ L.length := Nat.le_mul_of_pos_left _ (by omega)
    have h5 : (16 : Nat) ^ 16 = 18446744073709551616 := by decide
    omega
theorem DigAt.next {n : Nat} {w : World} {m : Nat} {L : Bs} {wr : World} (h : DigAt n w m L wr) (hm : ¬ m < 16) (hl : L.length < 65) :
    DigAt n w (m / 16) (hexD (m % 16) :: L) (wr.setCell ⟨w.heap.size, 65 - L.length - 1, none⟩ (.int .u8 ((hexD (m % 16)).toNat : Int))) := by
  obtain ⟨h1, h2, h3, h4, h5⟩ := h
  refine ⟨by rw [h1, hexL_big hm]; simp, ?_, ?_, h4.setCell (p := ⟨w.heap.size, 65 - L.length - 1, none⟩) (Nat.le_refl _) _, fun h0 => by omega⟩
  · rw [List.length_cons, Nat.pow_succ, Nat.mul_comm (16 ^ L.length) 16, ← Nat.mul_assoc]
    exact Nat.le_trans (Nat.mul_le_mul_right _ (Nat.div_mul_le_self m 16)) h2
  · rw [heap_put h3, arr_put L _ hl]
theorem DigAt.last {n : Nat} {w : World} {m : Nat} {L : Bs} {wr : World} (h : DigAt n w m L wr) (hm : m < 16) (hl : L.length < 65) :
    (wr.setCell ⟨w.heap.size, 65 - L.length - 1, none⟩ (.int .u8 ((hexD m).toNat : Int))).heap[w.heap.size]? = some (.cells (arrOf (hexL n)) 180 (0, 0)) ∧ Below w.heap.size w (wr.setCell ⟨w.heap.size, 65 - L.length - 1, none⟩ (.int .u8 ((hexD m).toNat : Int))) ∧ (hexL n).length = L.length + 1 := by
  obtain ⟨h1, h2, h3, h4, _⟩ := h
  rw [hexL_small hm] at h1
  refine ⟨by rw [heap_put h3, arr_put L _ hl, h1]; rfl, h4.setCell (p := ⟨w.heap.size, 65 - L.length - 1, none⟩) (Nat.le_refl _) _, by rw [h1]; simp⟩
theorem and15 (m : Nat) (h : m < 18446744073709551616) : bits BinOp.and IntKind.u64 (m : Int) 15 = ((m % 16 : Nat) : Int) := by
  have h2 : bits BinOp.and IntKind.u64 (m : Int) 15 = IntKind.u64.wrap ((BitVec.ofInt 64 (m : Int) &&& BitVec.ofInt 64 15).toNat : Int) := rfl
  have h3 : (BitVec.ofInt 64 (m : Int) &&& BitVec.ofInt 64 15).toNat = m % 16 := by
    rw [BitVec.toNat_and, BitVec.ofInt_natCast, BitVec.toNat_ofNat, Nat.mod_eq_of_lt h]
    exact Nat.and_two_pow_sub_one_eq_mod m 4
  rw [h2, h3, IntKind.wrap_u64]
  omega

theorem arr_slice (W : World) (B l : Nat) (hl : l < 65) : (Instr.sliceAt 180 (.pointer (some ⟨B, 0, none⟩)) (some (.int .i64 (65 - (l : Int) - 1))) none none).run Tryd.prog W = .ok (.slice (some ⟨B, 65 - l - 1, none⟩) (l + 1) (l + 1)) W := by
  have e1 : Tryd.prog.arrayLen 180 = 65 := by kernel_rfl
  have e2 : Tryd.prog.elem 180 = 5 := by kernel_rfl
  have hu : Tryd.prog.underlying 180 = some (.array (Tryd.prog.arrayLen 180) (Tryd.prog.elem 180)) := by rw [e1, e2]; exact Tryd.underlying180
  rw [run_sliceAt_array_l W 180 ⟨B, 0, none⟩ hu .i64 (65 - (l : Int) - 1) (by omega) (by rw [e1]; omega), e1, e2]
  have hs : (sizeOf 5).run Tryd.prog W = .ok 1 W := Tryd.sizeOf5 W
  rw [hs]
  have e3 : ((65 : Int) - (l : Int) - 1).toNat = 65 - l - 1 := by omega
  show Result.ok (slicedAt _ _ _ _ _) W = _
  unfold slicedAt
  rw [e3, if_neg (by omega), show 65 - (65 - l - 1) = l + 1 from by omega, Nat.mul_one, Addr.add_lit, Nat.zero_add]
theorem zero_arr : Tryd.zeroCells180 = arrOf [] := by kernel_rfl
set_option maxRecDepth 100000 in
set_option maxHeartbeats 8000000 in
theorem formatBits_any (n : Nat) (w : World) (hn : n < 1152921504606846976) (hD : D64 w) :
    Calls Tryd.prog 124 #[.slice none 0 0, .int .u64 (n : Int), .int .i64 16, .bool false, .bool false] w fun e w' => e = .returned (.tuple #[.slice none 0 0, .string ⟨(hexL n).toArray⟩]) ∧ Below w.heap.size w w' := by
  have HD := Lib.hid (hD.below ((Below.refl w.heap.size w).alloc (Nat.le_refl _) (.cells Tryd.zeroCells180 180)) hD.lt)
  have HA := Lib.hid (show DigAt n w n [] (w.alloc (.cells Tryd.zeroCells180 180)) from ⟨by simp, by simp, by rw [zero_arr]; exact new_block _ _, (Below.refl _ _).alloc (Nat.le_refl _) _, fun _ => rfl⟩)
  clear hD
  go_enter Tryd.func124, Tryd.ntmps124
  go_wp2_with fail
  refine (pow_yes _).mono ?_
  rintro e x1 ⟨rfl, rfl⟩
  go_wp2_with fail
  refine (tz_any _ HD.out).mono ?_
  rintro e x1 ⟨rfl, rfl⟩
  go_wp2_with fail
  go_loopw [1, 13] (fun u i wr => ∃ (m : Nat) (L : Bs), u = .int .u64 (m : Int) ∧ i = .int .i64 (65 - (L.length : Int)) ∧ DigAt n w m L wr) (fun u _ _ => (intOf u).toNat)
  case atStart => exact ⟨n, [], rfl, by simp, HA.out⟩
  case round =>
    obtain ⟨m, L, rfl, rfl, hA⟩ := hrel
    have HA2 := Lib.hid hA
    have hmn : m ≤ n := Nat.le_trans (Nat.le_mul_of_pos_right _ (Nat.pow_pos (by omega))) hA.2.1
    have hfr := free hA.2.2.1 (65 - L.length - 1)
    have hl : L.length ≤ 15 := hA.len hn
    have hcl := arr_cell hA.2.2.1 (by omega)
    clear HA HD hA
    have h16 : m % 16 < 16 := Nat.mod_lt _ (by omega)
    by_cases hm : m < 16
    · clear h16
      have hsl := fun W => arr_slice W w.heap.size L.length (by omega)
      obtain ⟨hB, hW, hn1⟩ := HA2.out.last hm (by omega)
      rw [← digs_get m hm (Nat.lt_of_lt_of_le hm (by decide))] at hB hW
      have HW := Lib.hid hW
      have hcv := Tk.run_back (P := Tryd.prog) _ 22 9 5 w.heap.size (65 - (hexL n).length) (L.length + 1) (hexL n) Tryd.underlying22 Tryd.underlying5 Tryd.underlying9 (arr_holds hB (by omega))
      rw [hn1, ← Nat.sub_sub] at hcv
      unfold digs at hcv HW
      clear hB hW hn1 HA2
      go_wp2_with fail
      go_ret2
      exact ⟨rfl, HW.out⟩
    · have ha := and15 m (by omega)
      have HN := Lib.hid (show DigAt n w (m / 16) (hexD (m % 16) :: L) (wr.setCell ⟨w.heap.size, 65 - L.length - 1, none⟩ (.int .u8 ((digs[m % 16]'(Nat.lt_of_lt_of_le h16 (by decide))).toNat : Int))) from by
        rw [digs_get _ h16]; exact HA2.out.next hm (by omega))
      go_wp2_with fail
      go_roundw
      case rel => exact ⟨m / 16, hexD (m % 16) :: L, by go_num, by simp; omega, HN.out⟩
      case measure => simp [intOf]; omega
set_option maxHeartbeats 2000000 in
theorem formatInt_in (n : Nat) (w : World) (hn : n < 1152921504606846976) (hD : D64 w) :
    Calls Tryd.prog 86 #[.int .i64 (n : Int), .int .i64 16] w fun e w' => e = .returned (.string ⟨(hexL n).toArray⟩) ∧ Below w.heap.size w w' := by
  have HF := Lib.hid (formatBits_any n w hn hD)
  clear hD
  go_enter Tryd.func86, Tryd.ntmps86
  go_wp2_with fail
  refine HF.out.mono ?_
  rintro e w1 ⟨rfl, hb⟩
  have HB := Lib.hid hb
  clear hb
  go_wp2_with fail
  go_ret
  exact ⟨rfl, HB.out⟩
set_option maxHeartbeats 2000000 in
/-- strconv.FormatInt at base 16. -/
theorem formatInt_any (n : Nat) (w : World) (hn : n < 1152921504606846976) (hD : D64 w) :
    Calls Tryd.prog 64 #[.int .i64 (n : Int), .int .i64 16] w fun e w' => e = .returned (.string ⟨(hexL n).toArray⟩) ∧ Below w.heap.size w w' := by
  have HF := Lib.hid (formatInt_in n w hn hD)
  clear hD
  go_enter Tryd.func64, Tryd.ntmps64
  go_wp2_with fail
  refine HF.out.mono ?_
  rintro e w1 ⟨rfl, hb⟩
  have HB := Lib.hid hb
  clear hb
  go_wp2_with fail
  go_ret
  exact ⟨rfl, HB.out⟩
end Go.Proofs.YtoofdompafkddaaDoor.Fr
