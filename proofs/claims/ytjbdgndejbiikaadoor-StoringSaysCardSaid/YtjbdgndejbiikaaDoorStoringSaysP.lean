/-
  StoringSays: StoringSays: with no-store, private or Vary * a response is never stored, nor for another method than GET; with public and no such word it is, where its code may be.
  Conditions: the listed tables hold what the program's text lays (the card ties them).
-/
import Derived.Deep.DeepCutAuto
import Derived.Deep.RegionWith
import Derived.Test.YtjbdgndejbiikaaDoorSgBP7
import Derived.Test.YtjbdgndejbiikaaDoorSgBP8
import Derived.SizedLaws
import Derived.Carry
import Derived.Test.YtjbdgndejbiikaaDoorSgBP33
import Derived.Test.YtjbdgndejbiikaaDoorSgBP32
import Derived.WideKeyPair
namespace Go.Proofs.YtjbdgndejbiikaaDoor.storingSays
open Go.ChangeShapes Go.WideShapes Go.ChangeAt Go.RowKit
open Go.ChangeMaps (open_string shut_string)
set_option linter.unusedVariables false

open Go.Proofs.YtjbdgndejbiikaaDoor.Tk Go.Proofs.YtjbdgndejbiikaaDoor.Fd Go.Proofs.YtjbdgndejbiikaaDoor.Ct Go.Proofs.YtjbdgndejbiikaaDoor.Fh Go.Proofs.YtjbdgndejbiikaaDoor.Sg
theorem mask255 (a : Int) : ∃ n : Nat, bits .and .i64 a 255 = (n : Int) ∧ n ≤ 255 := by
  have h1 : (BitVec.ofInt 64 a &&& BitVec.ofInt 64 (255 : Int)).toNat ≤ 255 := by
    rw [BitVec.toNat_and]
    exact Nat.le_trans Nat.and_le_right (by decide)
  have h2 : bits .and .i64 a 255 = IntKind.i64.wrap ((BitVec.ofInt 64 a &&& BitVec.ofInt 64 (255 : Int)).toNat : Int) := rfl
  rw [IntKind.wrap_i64] at h2
  exact ⟨(bits .and .i64 a 255).toNat, by omega, by omega⟩
theorem idx3' (a : Int) : ∃ j : Nat, j < 3 ∧ -2 ≤ a.tmod 3 ∧ a.tmod 3 ≤ 2 ∧ (a.tmod 3 + 3).tmod 3 = (j : Int) := by
  have h1 : -2 ≤ a.tmod 3 ∧ a.tmod 3 ≤ 2 := by
    have h2 := Int.tmod_lt_of_pos a (b := 3) (by omega)
    have h3 := Int.lt_tmod_of_pos a (b := 3) (by omega)
    omega
  have h4 : (a.tmod 3 + 3).tmod 3 = (a.tmod 3 + 3) % 3 := Int.tmod_eq_emod_of_nonneg (by omega)
  exact ⟨((a.tmod 3 + 3) % 3).toNat, by omega, h1.1, h1.2, by omega⟩
def nonesA : Array Value := #[.string ⟨#[67, 97, 99, 104, 101, 45, 67, 111, 110, 116, 114, 111, 108]⟩, .string ⟨#[110, 111, 45, 115, 116, 111, 114, 101]⟩, .string ⟨#[99, 97, 99, 104, 101, 45, 99, 111, 110, 116, 114, 111, 108]⟩, .string ⟨#[112, 114, 105, 118, 97, 116, 101]⟩, .string ⟨#[86, 97, 114, 121]⟩, .string ⟨#[97, 44, 32, 42]⟩]
theorem nones_at {W : World} {g : Nat} (h : W.heap[g]? = some (.cells nonesA 27 (0, 0))) (j : Nat) (hj : j < 3) : W.cell? ⟨g, j * 2, none⟩ = some (.string (noneF j).1) ∧ W.cell? ⟨g, j * 2 + 1, none⟩ = some (.string (noneF j).2) := by
  rw [Lib.cell_of_heap h, Lib.cell_of_heap h]
  rcases (by omega : j = 0 ∨ j = 1 ∨ j = 2) with rfl | rfl | rfl <;> exact ⟨rfl, rfl⟩
theorem none_tot (j : Nat) (hj : j < 3) : tot [noneF j] ≤ 100 := by
  rcases (by omega : j = 0 ∨ j = 1 ∨ j = 2) with rfl | rfl | rfl <;> decide +kernel
theorem resp_cells {W : World} {g : Nat} {a b : Int} {c : ByteArray} {v : Value} (h : W.heap[g]? = some (.cells #[.int .i64 a, .int .i64 b, .string c, v] 29 (0, 0))) :
    W.cell? ⟨g, 0, none⟩ = some (.int .i64 a) ∧ W.cell? ⟨g, 1, none⟩ = some (.int .i64 b) ∧ W.cell? ⟨g, 2, none⟩ = some (.string c) ∧ W.cell? ⟨g, 3, none⟩ = some v := by
  refine ⟨?_, ?_, ?_, ?_⟩ <;> (rw [Lib.cell_of_heap h]; rfl)
theorem req_cells {W : World} {g : Nat} {a b : ByteArray} {c : Int} {v : Value} (h : W.heap[g]? = some (.cells #[.string a, .string b, .int .i64 c, v] 25 (0, 0))) :
    W.cell? ⟨g, 0, none⟩ = some (.string a) ∧ W.cell? ⟨g, 1, none⟩ = some (.string b) ∧ W.cell? ⟨g, 2, none⟩ = some (.int .i64 c) ∧ W.cell? ⟨g, 3, none⟩ = some v := by
  refine ⟨?_, ?_, ?_, ?_⟩ <;> (rw [Lib.cell_of_heap h]; rfl)
theorem flds_pub {W : World} {g : Nat} (h : W.heap[g]? = some (.cells #[.string ⟨#[67, 97, 99, 104, 101, 45, 67, 111, 110, 116, 114, 111, 108]⟩, .string ⟨#[112, 117, 98, 108, 105, 99]⟩, .string ⟨#[86, 97, 114, 121]⟩, .string ⟨#[97]⟩] 27 (0, 0))) : Flds W (.slice (some ⟨g, 0, none⟩) 2 2) pubF := by
  refine .inr ⟨_, 0, 2, rfl, Fd.block_lt h, fun j hj => ?_⟩
  have hj' : j < 2 := hj
  have hc := fun i => Lib.cell_of_heap h i
  rcases (by omega : j = 0 ∨ j = 1) with rfl | rfl
  · exact ⟨hc 0, hc 1⟩
  · exact ⟨hc 2, hc 3⟩
set_option maxHeartbeats 4000000 in
set_option maxRecDepth 100000 in
theorem walk (v0 : Value) (fs0 : List Fl) (a1 : Int) (w1 : (Lit.int .i64 a1).wf = true) (a2 : Int) (w2 : (Lit.int .i64 a2).wf = true) (w : World) (hT : Tk.Tab w) (hmd : Dp.MD w) (hwd : Dp.WD w) (hmn : Dp.MN w) (hfm : Dp.FM w) (hC : Fh.Codes w) (f0 : Flds w v0 fs0) (l0 : fs0.length ≤ 140737488355328) (z0 : ∀ f ∈ fs0, f.1.size ≤ 140737488355328 ∧ f.2.size ≤ 140737488355328) (n0 : Shape v0) :
    Calls Tryd.prog 3 #[v0, .int .i64 a1, .int .i64 a2] w fun e w' => e = .returned (.bool true) ∧ Below w.heap.size w w' := by
  obtain ⟨n, hn, hn2⟩ := mask255 a1
  obtain ⟨j, hj, ht1, ht2, hj2⟩ := idx3' a2
  have HJ := Lib.hid (show j < 3 ∧ -2 ≤ a2.tmod 3 ∧ a2.tmod 3 ≤ 2 ∧ (a2.tmod 3 + 3).tmod 3 = (j : Int) from ⟨hj, ht1, ht2, hj2⟩)
  have HT := Lib.hid hT
  have HE := Lib.hid (show Dp.Env w from ⟨hmd, hwd, hmn⟩)
  have HM := Lib.hid hfm
  have HC := Lib.hid hC
  have HZ := Lib.hid z0
  have HL := Lib.hid l0
  have HF := Lib.hid f0
  have HSH := Lib.hid n0
  have hnb : (n : Int) ≤ 255 := by omega
  have hn0 : (0 : Int) ≤ (n : Int) := by omega
  clear hT hmd hwd hmn hfm hC z0 f0 n0 w1 w2 hj ht1 ht2 hj2
  go_enter Tryd.func3, Tryd.ntmps3
  go_wp2_with fail
  refine (fewL_any v0 fs0 _ HF.out HL.out HZ.out).mono ?_
  rintro e W1 ⟨rfl, q1, hw1⟩
  have HB1 := Lib.hid (show Below w.heap.size w W1 from by rw [hw1]; exact Bl.drewN (Below.refl _ _) q1)
  clear hw1 l0
  cases hfew : fewL fs0 with
  | false =>
    go_wp2_with fail
    go_ret
    exact ⟨rfl, HB1.out⟩
  | true =>
  have htot := fewL_tot hfew
  have hlen := tot_len fs0
  clear hfew
  have hR0 := new_block W1 (.cells #[.string ⟨#[71, 69, 84]⟩, .string ⟨#[]⟩, .int .i64 0, .slice none 0 0] 25)
  have HR1 := Lib.hid (show ((W1.alloc (.cells #[.string ⟨#[71, 69, 84]⟩, .string ⟨#[]⟩, .int .i64 0, .slice none 0 0] 25)).alloc (.cells #[.string ⟨#[67, 97, 99, 104, 101, 45, 67, 111, 110, 116, 114, 111, 108]⟩, .string ⟨#[110, 111, 45, 115, 116, 111, 114, 101]⟩, .string ⟨#[99, 97, 99, 104, 101, 45, 99, 111, 110, 116, 114, 111, 108]⟩, .string ⟨#[112, 114, 105, 118, 97, 116, 101]⟩, .string ⟨#[86, 97, 114, 121]⟩, .string ⟨#[97, 44, 32, 42]⟩] 27)).heap[W1.heap.size]? = some (.cells #[.string ⟨#[71, 69, 84]⟩, .string ⟨#[]⟩, .int .i64 0, .slice none 0 0] 25 (0, 0)) from (old_block _ _ (block_lt hR0)).trans hR0)
  have HN1 := Lib.hid (show ((W1.alloc (.cells #[.string ⟨#[71, 69, 84]⟩, .string ⟨#[]⟩, .int .i64 0, .slice none 0 0] 25)).alloc (.cells #[.string ⟨#[67, 97, 99, 104, 101, 45, 67, 111, 110, 116, 114, 111, 108]⟩, .string ⟨#[110, 111, 45, 115, 116, 111, 114, 101]⟩, .string ⟨#[99, 97, 99, 104, 101, 45, 99, 111, 110, 116, 114, 111, 108]⟩, .string ⟨#[112, 114, 105, 118, 97, 116, 101]⟩, .string ⟨#[86, 97, 114, 121]⟩, .string ⟨#[97, 44, 32, 42]⟩] 27)).heap[W1.heap.size + 1]? = some (.cells nonesA 27 (0, 0)) from new_block' _ _ (by simp))
  have HW1 := Lib.hid ((HB1.out.alloc HB1.out.size (.cells #[.string ⟨#[71, 69, 84]⟩, .string ⟨#[]⟩, .int .i64 0, .slice none 0 0] 25)).alloc (by have := HB1.out.size; simp; omega) (.cells #[.string ⟨#[67, 97, 99, 104, 101, 45, 67, 111, 110, 116, 114, 111, 108]⟩, .string ⟨#[110, 111, 45, 115, 116, 111, 114, 101]⟩, .string ⟨#[99, 97, 99, 104, 101, 45, 99, 111, 110, 116, 114, 111, 108]⟩, .string ⟨#[112, 114, 105, 118, 97, 116, 101]⟩, .string ⟨#[86, 97, 114, 121]⟩, .string ⟨#[97, 44, 32, 42]⟩] 27))
  clear hR0
  go_upto_region 6 with fail
  generalize (W1.alloc (.cells #[.string ⟨#[71, 69, 84]⟩, .string ⟨#[]⟩, .int .i64 0, .slice none 0 0] 25)).alloc (.cells #[.string ⟨#[67, 97, 99, 104, 101, 45, 67, 111, 110, 116, 114, 111, 108]⟩, .string ⟨#[110, 111, 45, 115, 116, 111, 114, 101]⟩, .string ⟨#[99, 97, 99, 104, 101, 45, 99, 111, 110, 116, 114, 111, 108]⟩, .string ⟨#[112, 114, 105, 118, 97, 116, 101]⟩, .string ⟨#[86, 97, 114, 121]⟩, .string ⟨#[97, 44, 32, 42]⟩] 27) = Wn at HR1 HN1 HW1 ⊢
  obtain ⟨RQ, hRQ⟩ : ∃ RQ, RQ = W1.heap.size := ⟨_, rfl⟩
  rw [← hRQ] at HR1 HN1
  rw [← hRQ]
  obtain ⟨K, hK⟩ : ∃ K : Int, 200 + (n : Int) = K := ⟨_, rfl⟩
  rw [hK]
  have hK1 : 200 ≤ K := by omega
  have hK2 : K ≤ 455 := by omega
  clear hRQ HB1 hn hK hnb hn0 hn2
  rename_i Qf Kf hgo
  refine says_region (Wn := Wn) (fs := fs0) (f := noneF j) (K := K) (v0 := v0) (G := RQ + 1) (j := j) (way := a2) ?_ ⟨HJ.out.1, HJ.out.2.1, HJ.out.2.2.1, HJ.out.2.2.2, rfl, rfl, rfl, rfl, fun W hb => ?_, HSH.out, HF.out.below HW1.out (Nat.le_refl _), by omega⟩ rfl rfl ?_
  · constructor
    all_goals first | kernel_rfl | (unfold isG; kernel_rfl) | (unfold waits; kernel_rfl)
  · exact nones_at (Bl.old hb (block_lt HN1.out) HN1.out) j HJ.out.1
  intro a' w' v r hs hd hlow hb h9 hrb hrh hown
  obtain ⟨p5, c5, hv5⟩ := hown.form
  subst hv5
  have HW6 := Lib.hid (Bl.next HW1.out hb)
  have HR6 := Lib.hid (Bl.old hb (block_lt HR1.out) HR1.out)
  have HRH := Lib.hid hrh
  have HO6 := Lib.hid hown
  refine act63 (Q := fun a' => Exit.then Kf Qf .normal a' w') a' hs hd _ _ _ _ _ _ _ _ _ _ (show a'.tmps.getD 0 undef = v0 from hlow 0 (by omega)) (show a'.tmps.getD 1 undef = .int .i64 K from hlow 1 (by omega)) (show a'.tmps.getD 2 undef = .int .i64 a2 from hlow 2 (by omega)) (show a'.tmps.getD 3 undef = undef from hlow 3 (by omega)) (show a'.tmps.getD 4 undef = undef from hlow 4 (by omega)) (show a'.tmps.getD 5 undef = undef from hlow 5 (by omega)) (show a'.tmps.getD 6 undef = .bool false from hlow 6 (by omega)) (show a'.tmps.getD 7 undef = .pointer (some ⟨RQ, 0, none⟩) from hlow 7 (by omega)) (show a'.tmps.getD 8 undef = .slice (some ⟨RQ + 1, 0, none⟩) 3 3 from hlow 8 (by omega)) h9 ?_
  intro f
  have HNV := Lib.hid (never (⟨#[71, 69, 84]⟩ : ByteArray).data.toList [] K fs0 j)
  obtain ⟨FL, hFL⟩ : ∃ FL, FL = fs0 ++ [noneF j] := ⟨_, rfl⟩
  have htF : tot FL ≤ 200000 := by
    rw [hFL, tot_append]
    have := none_tot j HJ.out.1
    omega
  rw [← hFL] at HNV HO6 HRH
  rw [← hFL] at hrh hown
  obtain ⟨r0, r1, r2, r3⟩ := resp_cells hrh
  obtain ⟨q0, q1', q2, q3⟩ := req_cells HR6.out
  clear hs hd hlow hb h9 hrb hrh hown hFL HR1 HN1 HW1 HF HSH HZ HL
  go_upto_region 7 with fail
  go_wp2_with fail
  refine (may_lit ⟨#[71, 69, 84]⟩ ⟨#[]⟩ 0 _ _ _ [] 0 K ⟨#[]⟩ _ _ _ FL _ (.inl ⟨rfl, _, _, rfl⟩) HO6.out.flds (by decide) htF (HT.out.below HW6.out HT.out.lt) (HE.out.below HW6.out (Nat.le_refl _)) (HM.out.below HW6.out (Nat.le_refl _)) (HC.out.below HW6.out HC.out.lt)).mono ?_
  rintro e W7 ⟨rfl, hb7⟩
  rw [HNV.out]
  have HW7 := Lib.hid (Bl.next HW6.out hb7)
  have HR7 := Lib.hid (Bl.old hb7 (block_lt HR6.out) HR6.out)
  clear hb7 r0 r1 r2 r3 q0 q1' q2 q3 HR6 HW6 HO6 HRH htF
  -- public, and Vary a
  have hF0 := new_block W7 (.cells #[.string ⟨#[67, 97, 99, 104, 101, 45, 67, 111, 110, 116, 114, 111, 108]⟩, .string ⟨#[112, 117, 98, 108, 105, 99]⟩, .string ⟨#[86, 97, 114, 121]⟩, .string ⟨#[97]⟩] 27)
  have HF8 := Lib.hid (show ((W7.alloc (.cells #[.string ⟨#[67, 97, 99, 104, 101, 45, 67, 111, 110, 116, 114, 111, 108]⟩, .string ⟨#[112, 117, 98, 108, 105, 99]⟩, .string ⟨#[86, 97, 114, 121]⟩, .string ⟨#[97]⟩] 27)).alloc (.cells #[.int .i64 0, .int .i64 K, .string ⟨#[]⟩, .slice (some ⟨W7.heap.size, 0, none⟩) 2 2] 29)).heap[W7.heap.size]? = some (.cells #[.string ⟨#[67, 97, 99, 104, 101, 45, 67, 111, 110, 116, 114, 111, 108]⟩, .string ⟨#[112, 117, 98, 108, 105, 99]⟩, .string ⟨#[86, 97, 114, 121]⟩, .string ⟨#[97]⟩] 27 (0, 0)) from (old_block _ _ (block_lt hF0)).trans hF0)
  have HP8 := Lib.hid (show ((W7.alloc (.cells #[.string ⟨#[67, 97, 99, 104, 101, 45, 67, 111, 110, 116, 114, 111, 108]⟩, .string ⟨#[112, 117, 98, 108, 105, 99]⟩, .string ⟨#[86, 97, 114, 121]⟩, .string ⟨#[97]⟩] 27)).alloc (.cells #[.int .i64 0, .int .i64 K, .string ⟨#[]⟩, .slice (some ⟨W7.heap.size, 0, none⟩) 2 2] 29)).heap[W7.heap.size + 1]? = some (.cells #[.int .i64 0, .int .i64 K, .string ⟨#[]⟩, .slice (some ⟨W7.heap.size, 0, none⟩) 2 2] 29 (0, 0)) from new_block' _ _ (by simp))
  have hb8 : Below W7.heap.size W7 ((W7.alloc (.cells #[.string ⟨#[67, 97, 99, 104, 101, 45, 67, 111, 110, 116, 114, 111, 108]⟩, .string ⟨#[112, 117, 98, 108, 105, 99]⟩, .string ⟨#[86, 97, 114, 121]⟩, .string ⟨#[97]⟩] 27)).alloc (.cells #[.int .i64 0, .int .i64 K, .string ⟨#[]⟩, .slice (some ⟨W7.heap.size, 0, none⟩) 2 2] 29)) := ((Below.refl _ _).alloc (Nat.le_refl _) _).alloc (by simp) _
  have HW8 := Lib.hid (Bl.next HW7.out hb8)
  have HR8 := Lib.hid (Bl.old hb8 (block_lt HR7.out) HR7.out)
  clear hF0 hb8
  go_upto_region 10 with fail
  generalize (W7.alloc (.cells #[.string ⟨#[67, 97, 99, 104, 101, 45, 67, 111, 110, 116, 114, 111, 108]⟩, .string ⟨#[112, 117, 98, 108, 105, 99]⟩, .string ⟨#[86, 97, 114, 121]⟩, .string ⟨#[97]⟩] 27)).alloc (.cells #[.int .i64 0, .int .i64 K, .string ⟨#[]⟩, .slice (some ⟨W7.heap.size, 0, none⟩) 2 2] 29) = W8 at HF8 HP8 HW8 HR8 ⊢
  obtain ⟨PB, hPB⟩ : ∃ PB, PB = W7.heap.size := ⟨_, rfl⟩
  rw [← hPB] at HF8 HP8
  rw [← hPB]
  clear hPB HW7 HR7
  have HMP := Lib.hid (show mayOf (⟨#[71, 69, 84]⟩ : ByteArray).data.toList [] K pubF = decide (K ≠ 304) from may_pub K hK1 hK2)
  have HMS := Lib.hid (show mayOf (⟨#[103, 101, 116]⟩ : ByteArray).data.toList [] K pubF = false from may_small K [] pubF)
  have HMN := Lib.hid (show mayOf (⟨#[71, 69, 84]⟩ : ByteArray).data.toList [(⟨#[67, 97, 99, 104, 101, 45, 67, 111, 110, 116, 114, 111, 108]⟩, ⟨#[110, 111, 45, 115, 116, 111, 114, 101]⟩)] K pubF = false from may_no K pubF)
  obtain ⟨r0, r1, r2, r3⟩ := resp_cells HP8.out
  obtain ⟨q0, q1', q2, q3⟩ := req_cells HR8.out
  have hpt : tot pubF ≤ 200000 := by decide +kernel
  go_wp2_with fail
  refine (may_lit ⟨#[71, 69, 84]⟩ ⟨#[]⟩ 0 _ _ _ [] 0 K ⟨#[]⟩ _ _ _ pubF _ (.inl ⟨rfl, _, _, rfl⟩) (flds_pub HF8.out) (by decide) hpt (HT.out.below HW8.out HT.out.lt) (HE.out.below HW8.out (Nat.le_refl _)) (HM.out.below HW8.out (Nat.le_refl _)) (HC.out.below HW8.out HC.out.lt)).mono ?_
  rintro e W9 ⟨rfl, hb9⟩
  rw [HMP.out]
  have HW9 := Lib.hid (Bl.next HW8.out hb9)
  have HF9 := Lib.hid (Bl.old hb9 (block_lt HF8.out) HF8.out)
  have HP9 := Lib.hid (Bl.old hb9 (block_lt HP8.out) HP8.out)
  clear hb9 r0 r1 r2 r3 q0 q1' q2 q3 HR8 HW8 HF8 HP8
  obtain ⟨r0, r1, r2, r3⟩ := resp_cells HP9.out
  obtain ⟨bb, hbb⟩ : ∃ bb, decide (K ≠ 304) = bb := ⟨_, rfl⟩
  have hb2 : (K != 304) = bb := by rw [← hbb]; by_cases h : K = 304 <;> simp [h]
  have hb3 : (bb != bb) = false := by cases bb <;> rfl
  rw [hbb]
  clear hbb
  go_wp2_with fail
  refine (may_lit ⟨#[103, 101, 116]⟩ ⟨#[]⟩ 0 _ _ _ [] 0 K ⟨#[]⟩ _ _ _ pubF _ (.inl ⟨rfl, _, _, rfl⟩) (flds_pub HF9.out) (by decide) hpt (HT.out.below HW9.out HT.out.lt) (HE.out.below HW9.out (Nat.le_refl _)) (HM.out.below HW9.out (Nat.le_refl _)) (HC.out.below HW9.out HC.out.lt)).mono ?_
  rintro e WA ⟨rfl, hba⟩
  rw [HMS.out]
  have HWA := Lib.hid (Bl.next HW9.out hba)
  have HFA := Lib.hid (Bl.old hba (block_lt HF9.out) HF9.out)
  have HPA := Lib.hid (Bl.old hba (block_lt HP9.out) HP9.out)
  clear hba r0 r1 r2 r3 HW9 HF9 HP9
  have hG0 := new_block WA (.cells #[.string ⟨#[67, 97, 99, 104, 101, 45, 67, 111, 110, 116, 114, 111, 108]⟩, .string ⟨#[110, 111, 45, 115, 116, 111, 114, 101]⟩] 27)
  have HGB := Lib.hid (show ((WA.alloc (.cells #[.string ⟨#[67, 97, 99, 104, 101, 45, 67, 111, 110, 116, 114, 111, 108]⟩, .string ⟨#[110, 111, 45, 115, 116, 111, 114, 101]⟩] 27)).alloc (.cells #[.string ⟨#[71, 69, 84]⟩, .string ⟨#[]⟩, .int .i64 0, .slice (some ⟨WA.heap.size, 0, none⟩) 1 1] 25)).heap[WA.heap.size]? = some (.cells #[.string ⟨#[67, 97, 99, 104, 101, 45, 67, 111, 110, 116, 114, 111, 108]⟩, .string ⟨#[110, 111, 45, 115, 116, 111, 114, 101]⟩] 27 (0, 0)) from (old_block _ _ (block_lt hG0)).trans hG0)
  have HQB := Lib.hid (show ((WA.alloc (.cells #[.string ⟨#[67, 97, 99, 104, 101, 45, 67, 111, 110, 116, 114, 111, 108]⟩, .string ⟨#[110, 111, 45, 115, 116, 111, 114, 101]⟩] 27)).alloc (.cells #[.string ⟨#[71, 69, 84]⟩, .string ⟨#[]⟩, .int .i64 0, .slice (some ⟨WA.heap.size, 0, none⟩) 1 1] 25)).heap[WA.heap.size + 1]? = some (.cells #[.string ⟨#[71, 69, 84]⟩, .string ⟨#[]⟩, .int .i64 0, .slice (some ⟨WA.heap.size, 0, none⟩) 1 1] 25 (0, 0)) from new_block' _ _ (by simp))
  have hbB : Below WA.heap.size WA ((WA.alloc (.cells #[.string ⟨#[67, 97, 99, 104, 101, 45, 67, 111, 110, 116, 114, 111, 108]⟩, .string ⟨#[110, 111, 45, 115, 116, 111, 114, 101]⟩] 27)).alloc (.cells #[.string ⟨#[71, 69, 84]⟩, .string ⟨#[]⟩, .int .i64 0, .slice (some ⟨WA.heap.size, 0, none⟩) 1 1] 25)) := ((Below.refl _ _).alloc (Nat.le_refl _) _).alloc (by simp) _
  have HWB := Lib.hid (Bl.next HWA.out hbB)
  have HFB := Lib.hid (Bl.old hbB (block_lt HFA.out) HFA.out)
  have HPB := Lib.hid (Bl.old hbB (block_lt HPA.out) HPA.out)
  clear hG0 hbB
  go_upto_region 13 with fail
  generalize (WA.alloc (.cells #[.string ⟨#[67, 97, 99, 104, 101, 45, 67, 111, 110, 116, 114, 111, 108]⟩, .string ⟨#[110, 111, 45, 115, 116, 111, 114, 101]⟩] 27)).alloc (.cells #[.string ⟨#[71, 69, 84]⟩, .string ⟨#[]⟩, .int .i64 0, .slice (some ⟨WA.heap.size, 0, none⟩) 1 1] 25) = WB at HGB HQB HWB HFB HPB ⊢
  obtain ⟨GB, hGB⟩ : ∃ GB, GB = WA.heap.size := ⟨_, rfl⟩
  rw [← hGB] at HGB HQB
  rw [← hGB]
  clear hGB HWA HFA HPA hb2 hb3
  obtain ⟨r0, r1, r2, r3⟩ := resp_cells HPB.out
  obtain ⟨q0, q1', q2, q3⟩ := req_cells HQB.out
  go_wp2_with fail
  refine (may_lit ⟨#[71, 69, 84]⟩ ⟨#[]⟩ 0 _ _ _ [(⟨#[67, 97, 99, 104, 101, 45, 67, 111, 110, 116, 114, 111, 108]⟩, ⟨#[110, 111, 45, 115, 116, 111, 114, 101]⟩)] 0 K ⟨#[]⟩ _ _ _ pubF _ (flds_one HGB.out) (flds_pub HFB.out) (by decide +kernel) hpt (HT.out.below HWB.out HT.out.lt) (HE.out.below HWB.out (Nat.le_refl _)) (HM.out.below HWB.out (Nat.le_refl _)) (HC.out.below HWB.out HC.out.lt)).mono ?_
  rintro e WC ⟨rfl, hbc⟩
  rw [HMN.out]
  have HWC := Lib.hid (Bl.next HWB.out hbc)
  clear hbc r0 r1 r2 r3 q0 q1' q2 q3
  go_wp2_with fail
  go_ret
  exact ⟨rfl, HWC.out⟩

set_option maxHeartbeats 2000000 in
set_option maxRecDepth 100000 in
theorem contract (H : Type) (enc : TypeId × Value → H) (W : World) (base : Nat) (args : Array Value) (ds gs : List (DataW H)) (before : List MemPlace)
    (hval : ∀ (j : Nat) t v, Tryd.f3.params[j]? = some t → args[j]? = some v → Value.okWide Tryd.prog W .any base t v)
    (hW : DataW.Whole enc Tryd.prog Tryd.f3.params.toList Rows.storingSaysSpec.vars false W args.toList ds gs before) (ts : List TypeId) (hsz : (DataW.weightsEach Tryd.prog (Tryd.f3.params.toList ++ ts) (ds ++ gs)).all (· ≤ reachBytes) = true) (hL : laidMetH Tryd.prog Rows.storingSaysRow.laid W) :
    Calls Tryd.prog 3 args W fun e W' => ∃ v, e = .returned v ∧ Rows.storingSaysSpec.post enc Tryd.prog Tryd.f3 false true false false W args v W' := by
  have hW' := hW
  obtain ⟨p, q, hA0, hV, rfl, hfz, hnd⟩ := hW
  have hA : DataW.TrodAll enc Tryd.prog W 0 (fun _ => true) true Tryd.f3.params.toList args.toList ds p := hA0
  rw [Tryd.params3] at hA hval hsz
  obtain ⟨v0, vs0, d0, ds0, p0, q0, hargs, rfl, rfl, h0, r0⟩ := trodAll_cons hA
  obtain ⟨v1, vs1, d1, ds1, p1, q1, rfl, rfl, rfl, h1, r1⟩ := trodAll_cons r0
  obtain ⟨v2, vs2, d2, ds2, p2, q2, rfl, rfl, rfl, h2, r2⟩ := trodAll_cons r1
  obtain ⟨rfl, rfl, rfl⟩ := trodAll_nil r2
  have hw0 : ∀ n ∈ d0.weights Tryd.prog 22, n ≤ reachBytes := fun n hn => by simpa using List.all_eq_true.1 hsz n (DataW.weights_mem_each (j := 0) (t := 22) (d := d0) rfl rfl _ hn)
  obtain rfl : args = #[v0, v1, v2] := by cases args; simp_all
  obtain ⟨rfl, rfl⟩ := trodVars_none hV
  have k0 := h0
  have lt0 : ∀ x ∈ p0, x.block < W.heap.size := by obtain ⟨m, hm⟩ := k0; exact DataW.trod_lt m _ _ _ hm
  obtain ⟨fs0, f0, l0, z0⟩ := Fd.open_flds (hval 0 22 v0 rfl rfl) h0 hw0
  have n0 := Fd.open_shape (hval 0 22 v0 rfl rfl) k0
  obtain ⟨a1, rfl, rfl, rfl, w1⟩ := open_int Tryd.underlying3 (hval 1 3 v1 rfl rfl) h1
  obtain ⟨a2, rfl, rfl, rfl, w2⟩ := open_int Tryd.underlying3 (hval 2 3 v2 rfl rfl) h2
  clear hA0
  simp only [List.append_nil] at hW'
  refine (walk v0 fs0 a1 w1 a2 w2 W (Tb.tok_of_head (Tb.tail (Tb.tail (Tb.tail (Tb.tail (Tb.tail hL)))))) (Tb.md_of_head (Tb.tail (Tb.tail (Tb.tail hL)))) (Tb.wd_of_head (Tb.tail hL)) (Tb.mn_of_head (Tb.tail (Tb.tail hL))) (Tb.fm_of_head (Tb.tail (Tb.tail (Tb.tail (Tb.tail hL))))) (Tb.kept_of_head hL) f0 l0 z0 n0).mono fun e W' ⟨he, bel⟩ => ?_
  subst he
  exact ⟨_, rfl, _, _, _, [], _, [], hW', trodAll_mk1 (shut_bool Tryd.underlying4 _), (trodAll_cons_mk (Below.trod Tb.laidOut (by kernel_rfl) (of_decide_eq_true (by kernel_rfl)) k0 bel lt0) (trodAll_cons_mk (shut_int Tryd.underlying3 w1) (trodAll_cons_mk (shut_int Tryd.underlying3 w2) trodAll_mk0))), rfl, bel.frame _, fun h => by cases h⟩

theorem laid_met (os : Os) : laidMet Tryd.prog Rows.storingSaysRow.laid ((Tb.laidWorld os).forCall (fun _ _ => 0) ⟨#[], #[.slice none 0 0, .int .i64 0, .int .i64 0], []⟩).memory :=
  laidMet_of_run' 8 (by kernel_rfl) (by kernel_rfl)
theorem reads (os : Os) {H : Type} (enc : TypeId × Value → H) : ∃ places, DataW.whole enc Tryd.prog ((Tb.laidWorld os).forCall (fun _ _ => 0) ⟨#[], #[.slice none 0 0, .int .i64 0, .int .i64 0], []⟩).memory Tryd.f3.params.toList Rows.storingSaysSpec.vars false (#[.slice none 0 0, .int .i64 0, .int .i64 0] : Array Value).toList 8 = some ([.nil, .lit (.int .i64 0), .lit (.int .i64 0)], [], places) :=
  ⟨[], by kernel_rfl⟩

set_option maxRecDepth 100000 in
theorem lifted (os : Os) (started : os.Started) (H : Type) (enc : TypeId × Value → H) (F : Stop.Interp) :
    ReturnsInHanded {} Tryd.checked os 3 .any ((OpenSpec.ofChange Rows.storingSaysSpec).preRow enc Tryd.prog Tryd.f3 Rows.storingSaysRow.domain false Rows.storingSaysRow.laid) (((OpenSpec.ofChange Rows.storingSaysSpec).at F).post enc Tryd.prog Tryd.f3 false true false false) := by
  obtain ⟨places, hx⟩ := reads os enc
  refine returnsInHanded_of_row (C := Tryd.checked) (s := OpenSpec.ofChange Rows.storingSaysSpec) Tb.own started (by kernel_rfl) Tryd.func3
    (witness_row_at (enc := enc) (C := Tryd.checked) false (Tb.laidWorld os) #[.slice none 0 0, .int .i64 0, .int .i64 0] rfl (by kernel_rfl) (by kernel_rfl) (by kernel_rfl)
      (OpenSpec.preRow_of_cond 8 hx (by kernel_rfl) (fun k hk => by cases hk) (by kernel_rfl) (laid_met os))) ?_
  intro W base args ds gs before hval hW _ _ hsz hL _ _
  exact contract H enc W base args ds gs before hval hW _ hsz hL

theorem said : Rows.StoringSaysSaid :=
  OpenClaim.holds_of_cond 3 Tryd.f3 rfl rfl rfl rfl rfl rfl rfl ⟨rfl, rfl, rfl, rfl, rfl⟩ rfl rfl rfl rfl rfl (by kernel_rfl) Tryd.func3 (by kernel_rfl)
    (of_decide_eq_true (by kernel_rfl)) (by unfold Func.isWrapper; first | (rw [if_pos (by decide +kernel)]; kernel_rfl) | (rw [if_neg (by decide +kernel)]; exact ⟨rfl, rfl⟩))
    (fun os started H enc _ F => by rw [OpenClaim.pre_eq_preRow]; exact lifted os started H enc F)

set_option maxRecDepth 100000 in
theorem plain (f : FuncId) (fn : Func) (hf : Tryd.pinned.checked.prog.funcNamed "gatepost/gatepostlaw10.StoringSays" = some f) (hfn : Tryd.pinned.checked.prog.funcs[f]? = some fn) :
    false = Tryd.pinned.checked.prog.looks [] ∧ ∀ (j : Nat) t, fn.params[j]? = some t → Tryd.pinned.checked.prog.wantsStandIn t = false := by
  obtain rfl : f = 3 := Option.some.inj ((show Tryd.prog.funcNamed "gatepost/gatepostlaw10.StoringSays" = some 3 by kernel_rfl).symm.trans hf) |>.symm
  obtain rfl : fn = Tryd.f3 := (Option.some.inj (Tryd.func3.symm.trans hfn)).symm
  refine ⟨by kernel_rfl, fun j t ht => ?_⟩
  rw [Tryd.params3] at ht
  have hm := Array.mem_of_getElem? ht
  simp at hm
  rcases hm with rfl | rfl
  · exact (show Tryd.prog.wantsStandIn 22 = false by kernel_rfl)
  · exact (show Tryd.prog.wantsStandIn 3 = false by kernel_rfl)

theorem card : Rows.StoringSaysCardSaid :=
  Claim7.holds_tied_plain_at .later [] _ _ _ _ said (fun _ h => by cases h) (by kernel_rfl) (fun _ h => by cases h) storingSays_row_tie rfl ⟨rfl, rfl⟩ (by kernel_rfl) rfl plain (by kernel_rfl)
end Go.Proofs.YtjbdgndejbiikaaDoor.storingSays
