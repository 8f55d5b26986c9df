/-
  ControlNumbers: a number is told as it stands, at most the most; the least of two; in quotes likewise.
  Conditions: the listed tables hold what the program's text lays (the card ties them).
-/
import Derived.Deep.DeepCutAuto
import Derived.Deep.RegionWith
import Derived.Test.YtmnnbefigepgfaaDoorTabs
import Derived.Test.YtmnnbefigepgfaaDoorFdOpen
import Derived.SizedLaws
import Derived.Carry
import Derived.Test.YtmnnbefigepgfaaDoorCtNumR
import Derived.Test.YtmnnbefigepgfaaDoorCtOf
import Derived.Test.YtmnnbefigepgfaaDoorFdOpen
import Derived.WideKeyPair
namespace Go.Proofs.YtmnnbefigepgfaaDoor.controlNumbers
open Go.ChangeShapes Go.WideShapes Go.ChangeAt Go.RowKit
open Go.ChangeMaps (open_string shut_string)
set_option linter.unusedVariables false

open Go.Proofs.YtmnnbefigepgfaaDoor.Tk Go.Proofs.YtmnnbefigepgfaaDoor.Fd Go.Proofs.YtmnnbefigepgfaaDoor.Ct
theorem mask (a : Int) (m : Nat) (hm : m < 9223372036854775808) : 0 ≤ bits .and .i64 a (m : Int) ∧ bits .and .i64 a (m : Int) ≤ (m : Int) := by
  have h1 : (BitVec.ofInt 64 a &&& BitVec.ofInt 64 (m : Int)).toNat ≤ m := by
    rw [BitVec.toNat_and, BitVec.ofInt_natCast, BitVec.toNat_ofNat]
    exact Nat.le_trans Nat.and_le_right (Nat.mod_le _ _)
  have h2 : bits .and .i64 a (m : Int) = IntKind.i64.wrap ((BitVec.ofInt 64 a &&& BitVec.ofInt 64 (m : Int)).toNat : Int) := rfl
  rw [h2, IntKind.wrap_i64]
  omega
theorem mask_nat (a : Int) (m : Nat) (hm : m < 9223372036854775808) : ∃ r : Nat, bits .and .i64 a (m : Int) = (r : Int) ∧ r ≤ m := by
  obtain ⟨h0, h1⟩ := mask a m hm
  exact ⟨(bits .and .i64 a (m : Int)).toNat, by omega, by omega⟩
theorem idx6 (a : Int) : ∃ j : Nat, j < 6 ∧ -5 ≤ a.tmod 6 ∧ a.tmod 6 ≤ 5 ∧ (a.tmod 6 + 6) % 6 = (j : Int) := by
  have h1 : -5 ≤ a.tmod 6 ∧ a.tmod 6 ≤ 5 := by
    have h2 := Int.tmod_lt_of_pos a (b := 6) (by omega)
    have h3 := Int.lt_tmod_of_pos a (b := 6) (by omega)
    omega
  exact ⟨((a.tmod 6 + 6) % 6).toNat, by omega, h1.1, h1.2, by omega⟩
def namesArr : Array Value := #[.string ⟨#[109, 97, 120, 45, 97, 103, 101]⟩, .string ⟨#[83, 45, 77, 65, 88, 65, 71, 69]⟩, .string ⟨#[115, 116, 97, 108, 101, 45, 119, 104, 105, 108, 101, 45, 114, 101, 118, 97, 108, 105, 100, 97, 116, 101]⟩, .string ⟨#[115, 116, 97, 108, 101, 45, 105, 102, 45, 101, 114, 114, 111, 114]⟩, .string ⟨#[109, 105, 110, 45, 102, 114, 101, 115, 104]⟩, .string ⟨#[109, 97, 120, 45, 115, 116, 97, 108, 101]⟩]
theorem names_at (w : World) (j : Nat) (hj : j < 6) : (w.alloc (.cells #[.string ⟨#[109, 97, 120, 45, 97, 103, 101]⟩, .string ⟨#[83, 45, 77, 65, 88, 65, 71, 69]⟩, .string ⟨#[115, 116, 97, 108, 101, 45, 119, 104, 105, 108, 101, 45, 114, 101, 118, 97, 108, 105, 100, 97, 116, 101]⟩, .string ⟨#[115, 116, 97, 108, 101, 45, 105, 102, 45, 101, 114, 114, 111, 114]⟩, .string ⟨#[109, 105, 110, 45, 102, 114, 101, 115, 104]⟩, .string ⟨#[109, 97, 120, 45, 115, 116, 97, 108, 101]⟩] 9)).cell? ⟨w.heap.size, j, none⟩ = some (.string ⟨(nameK j).toArray⟩) := by
  rw [Lib.cell_of_heap (new_block _ _)]
  rcases (by omega : j = 0 ∨ j = 1 ∨ j = 2 ∨ j = 3 ∨ j = 4 ∨ j = 5) with rfl | rfl | rfl | rfl | rfl | rfl <;> rfl
theorem nameK_len (j : Nat) (hj : j < 6) : (nameK j).length ≤ 22 := by
  rcases (by omega : j = 0 ∨ j = 1 ∨ j = 2 ∨ j = 3 ∨ j = 4 ∨ j = 5) with rfl | rfl | rfl | rfl | rfl | rfl <;> decide
/-- The text that the law makes. -/
theorem text_of (NK A B : ByteArray) (nk a b : Bs) (h1 : NK.data.toList = nk) (h2 : A.data.toList = a) (h3 : B.data.toList = b) :
    (NK ++ ⟨#[61]⟩ ++ A ++ ⟨#[44, 32, 80, 117, 98, 108, 105, 99, 32, 44]⟩ ++ NK ++ ⟨#[61, 34]⟩ ++ B ++ ⟨#[34]⟩ : ByteArray).data.toList = (nk ++ 61 :: a) ++ 44 :: (pubL ++ 44 :: (nk ++ 61 :: 34 :: (b ++ [34]))) := by
  simp [h1, h2, h3, pubL]
structure Facts (c : Con) (j : Nat) (n : Int) : Prop where
  pu : c.pu = true
  pr : c.pr = false
  num : ∀ i, i < 6 → (#[Value.int .i64 c.ag, .int .i64 c.sh, .int .i64 c.wh, .int .i64 c.ie, .int .i64 c.mf, .int .i64 c.ms] : Array Value)[i]? = some (.int .i64 (if i = j then n else -1))
theorem facts_k (j : Nat) (hj : j < 6) (n : Int) : Facts (conK j n) j n := by
  rcases (by omega : j = 0 ∨ j = 1 ∨ j = 2 ∨ j = 3 ∨ j = 4 ∨ j = 5) with rfl | rfl | rfl | rfl | rfl | rfl <;>
  · refine ⟨rfl, rfl, fun i hi => ?_⟩
    rcases (by omega : i = 0 ∨ i = 1 ∨ i = 2 ∨ i = 3 ∨ i = 4 ∨ i = 5) with rfl | rfl | rfl | rfl | rfl | rfl <;> rfl
set_option maxHeartbeats 16000000 in
set_option maxRecDepth 100000 in
theorem walk (a0 : Int) (w0 : (Lit.int .i64 a0).wf = true) (a1 : Int) (w1 : (Lit.int .i64 a1).wf = true) (a2 : Int) (w2 : (Lit.int .i64 a2).wf = true) (w : World) (hT : Tk.Tab w) :
    Calls Tryd.prog 5 #[.int .i64 a0, .int .i64 a1, .int .i64 a2] w fun e w' => e = .returned (.bool true) ∧ Below w.heap.size w w' := by
  obtain ⟨n, hn, hn2⟩ := mask_nat a0 8589934591 (by omega)
  obtain ⟨m, hm, hm2⟩ := mask_nat a1 8589934591 (by omega)
  obtain ⟨j, hj, ht1, ht2, hj2⟩ := idx6 a2
  have hn' : bits BinOp.and IntKind.i64 a0 8589934591 = (n : Int) := hn
  have hm' : bits BinOp.and IntKind.i64 a1 8589934591 = (m : Int) := hm
  have HT := Lib.hid hT
  have htl := hT.lt
  obtain ⟨t, ht⟩ : ∃ t, t = a2.tmod 6 := ⟨_, rfl⟩
  rw [← ht] at ht1 ht2 hj2
  have HNn := Lib.hid (fun W => numDec_any 9 n W (by omega) (by omega))
  have HNm := Lib.hid (fun W => numDec_any 9 m W (by omega) (by omega))
  obtain ⟨A, hA⟩ : ∃ A : ByteArray, A = ⟨(decL n).toArray⟩ := ⟨_, rfl⟩
  obtain ⟨B, hB⟩ : ∃ B : ByteArray, B = ⟨(decL m).toArray⟩ := ⟨_, rfl⟩
  obtain ⟨NK, hNK⟩ : ∃ NK : ByteArray, NK = ⟨(nameK j).toArray⟩ := ⟨_, rfl⟩
  have hAs : A.size ≤ 10 := by rw [hA]; show (decL n).toArray.size ≤ _; rw [List.size_toArray]; exact (decL_all 9 n (by omega)).len
  have hBs : B.size ≤ 10 := by rw [hB]; show (decL m).toArray.size ≤ _; rw [List.size_toArray]; exact (decL_all 9 m (by omega)).len
  have hNs : NK.size ≤ 22 := by rw [hNK]; show (nameK j).toArray.size ≤ _; rw [List.size_toArray]; exact nameK_len j hj
  obtain ⟨Z, hZ⟩ : ∃ Z : ByteArray, Z = NK ++ ⟨#[61]⟩ ++ A ++ ⟨#[44, 32, 80, 117, 98, 108, 105, 99, 32, 44]⟩ ++ NK ++ ⟨#[61, 34]⟩ ++ B ++ ⟨#[34]⟩ := ⟨_, rfl⟩
  have hZs : Z.size ≤ 1000 := by
    rw [hZ]
    simp only [ByteArray.size_append]
    show NK.size + 1 + A.size + 10 + NK.size + 2 + B.size + 1 ≤ 1000
    omega
  have hpz : parseOf Z.data.toList = (conK j (min3 n m), true) := by
    rw [hZ, text_of NK A B (nameK j) (decL n) (decL m) (by rw [hNK]) (by rw [hA]) (by rw [hB])]
    exact parse_k j hj n m (by omega) (by omega)
  obtain ⟨cc, hcc⟩ : ∃ cc, cc = conK j (min3 n m) := ⟨_, rfl⟩
  rw [← hcc] at hpz
  have HPZ := Lib.hid (show parseVal Z.data.toList = .tuple #[.agg #[.bool cc.ns, .bool cc.nc, .bool cc.pr, .bool cc.pu, .bool cc.mu, .bool cc.px, .bool cc.oc, .int .i64 cc.ag, .int .i64 cc.sh, .int .i64 cc.wh, .int .i64 cc.ie, .int .i64 cc.mf, .int .i64 cc.ms], .bool true] from by unfold parseVal; rw [hpz]; rfl)
  have HFC := Lib.hid (show Facts cc j (min3 n m) from by rw [hcc]; exact facts_k j hj _)
  obtain ⟨z1, hz1⟩ : ∃ z : ByteArray, z = NK ++ ⟨#[61]⟩ := ⟨_, rfl⟩
  obtain ⟨z2, hz2⟩ : ∃ z : ByteArray, z = z1 ++ A := ⟨_, rfl⟩
  obtain ⟨z3, hz3⟩ : ∃ z : ByteArray, z = z2 ++ ⟨#[44, 32, 80, 117, 98, 108, 105, 99, 32, 44]⟩ := ⟨_, rfl⟩
  obtain ⟨z4, hz4⟩ : ∃ z : ByteArray, z = z3 ++ NK := ⟨_, rfl⟩
  obtain ⟨z5, hz5⟩ : ∃ z : ByteArray, z = z4 ++ ⟨#[61, 34]⟩ := ⟨_, rfl⟩
  obtain ⟨z6, hz6⟩ : ∃ z : ByteArray, z = z5 ++ B := ⟨_, rfl⟩
  have hZ7 : Z = z6 ++ ⟨#[34]⟩ := by rw [hZ, hz6, hz5, hz4, hz3, hz2, hz1]
  have bz1 : z1.size ≤ 23 := by rw [hz1, ByteArray.size_append]; have : (⟨#[61]⟩ : ByteArray).size = 1 := rfl; omega
  have bz2 : z2.size ≤ 33 := by rw [hz2, ByteArray.size_append]; omega
  have bz3 : z3.size ≤ 43 := by rw [hz3, ByteArray.size_append]; have : (⟨#[44, 32, 80, 117, 98, 108, 105, 99, 32, 44]⟩ : ByteArray).size = 10 := rfl; omega
  have bz4 : z4.size ≤ 65 := by rw [hz4, ByteArray.size_append]; omega
  have bz5 : z5.size ≤ 67 := by rw [hz5, ByteArray.size_append]; have : (⟨#[61, 34]⟩ : ByteArray).size = 2 := rfl; omega
  have bz6 : z6.size ≤ 77 := by rw [hz6, ByteArray.size_append]; omega
  have E1 : ∀ W : World, (Op.stringOp .add NK ⟨#[61]⟩).run Tryd.prog W = .ok (.string z1) W := fun W => by rw [hz1]; exact run_string_add_sum W _ _ (by have : (⟨#[61]⟩ : ByteArray).size = 1 := rfl; omega)
  have E2 : ∀ W : World, (Op.stringOp .add z1 A).run Tryd.prog W = .ok (.string z2) W := fun W => by rw [hz2]; exact run_string_add_sum W _ _ (by omega)
  have E3 : ∀ W : World, (Op.stringOp .add z2 ⟨#[44, 32, 80, 117, 98, 108, 105, 99, 32, 44]⟩).run Tryd.prog W = .ok (.string z3) W := fun W => by rw [hz3]; exact run_string_add_sum W _ _ (by have : (⟨#[44, 32, 80, 117, 98, 108, 105, 99, 32, 44]⟩ : ByteArray).size = 10 := rfl; omega)
  have E4 : ∀ W : World, (Op.stringOp .add z3 NK).run Tryd.prog W = .ok (.string z4) W := fun W => by rw [hz4]; exact run_string_add_sum W _ _ (by omega)
  have E5 : ∀ W : World, (Op.stringOp .add z4 ⟨#[61, 34]⟩).run Tryd.prog W = .ok (.string z5) W := fun W => by rw [hz5]; exact run_string_add_sum W _ _ (by have : (⟨#[61, 34]⟩ : ByteArray).size = 2 := rfl; omega)
  have E6 : ∀ W : World, (Op.stringOp .add z5 B).run Tryd.prog W = .ok (.string z6) W := fun W => by rw [hz6]; exact run_string_add_sum W _ _ (by omega)
  have E7 : ∀ W : World, (Op.stringOp .add z6 ⟨#[34]⟩).run Tryd.prog W = .ok (.string Z) W := fun W => by rw [hZ7]; exact run_string_add_sum W _ _ (by have : (⟨#[34]⟩ : ByteArray).size = 1 := rfl; omega)
  have j0 : (0 : Int) ≤ (j : Int) := by omega
  have j1 : (j : Int) < 6 := by omega
  clear hz1 hz2 hz3 hz4 hz5 hz6 hZ7
  have HNA := Lib.hid (fun W : World => show (W.alloc (.cells #[.string ⟨#[109, 97, 120, 45, 97, 103, 101]⟩, .string ⟨#[83, 45, 77, 65, 88, 65, 71, 69]⟩, .string ⟨#[115, 116, 97, 108, 101, 45, 119, 104, 105, 108, 101, 45, 114, 101, 118, 97, 108, 105, 100, 97, 116, 101]⟩, .string ⟨#[115, 116, 97, 108, 101, 45, 105, 102, 45, 101, 114, 114, 111, 114]⟩, .string ⟨#[109, 105, 110, 45, 102, 114, 101, 115, 104]⟩, .string ⟨#[109, 97, 120, 45, 115, 116, 97, 108, 101]⟩] 9)).cell? ⟨W.heap.size, j, none⟩ = some (.string NK) from by rw [hNK]; exact names_at W j hj)
  rw [← hA] at HNn
  rw [← hB] at HNm
  clear hA hB hNK hZ hpz hcc hn hm hT w0 w1 w2
  go_enter Tryd.func5, Tryd.ntmps5
  have HWN := Lib.hid (show Below w.heap.size w (w.alloc (.cells #[.string ⟨#[109, 97, 120, 45, 97, 103, 101]⟩, .string ⟨#[83, 45, 77, 65, 88, 65, 71, 69]⟩, .string ⟨#[115, 116, 97, 108, 101, 45, 119, 104, 105, 108, 101, 45, 114, 101, 118, 97, 108, 105, 100, 97, 116, 101]⟩, .string ⟨#[115, 116, 97, 108, 101, 45, 105, 102, 45, 101, 114, 114, 111, 114]⟩, .string ⟨#[109, 105, 110, 45, 102, 114, 101, 115, 104]⟩, .string ⟨#[109, 97, 120, 45, 115, 116, 97, 108, 101]⟩] 9)) from (Below.refl _ _).alloc (Nat.le_refl _) _)
  have hcN := HNA.out w
  obtain ⟨Wn, hWn⟩ : ∃ Wn, Wn = w.alloc (.cells #[.string ⟨#[109, 97, 120, 45, 97, 103, 101]⟩, .string ⟨#[83, 45, 77, 65, 88, 65, 71, 69]⟩, .string ⟨#[115, 116, 97, 108, 101, 45, 119, 104, 105, 108, 101, 45, 114, 101, 118, 97, 108, 105, 100, 97, 116, 101]⟩, .string ⟨#[115, 116, 97, 108, 101, 45, 105, 102, 45, 101, 114, 114, 111, 114]⟩, .string ⟨#[109, 105, 110, 45, 102, 114, 101, 115, 104]⟩, .string ⟨#[109, 97, 120, 45, 115, 116, 97, 108, 101]⟩] 9) := ⟨_, rfl⟩
  have hWs : Wn.heap.size = w.heap.size + 1 := by rw [hWn]; simp
  rw [← hWn] at HWN hcN
  have HWn := Lib.hid hWn
  clear hWn HNA
  go_upto_region 3 with fail
  rw [← HWn.out]
  go_cut [8] (fun s8 wx => s8 = .int .i64 (j : Int) ∧ Wn = wx)
  case first =>
    have ht2 := ht.symm
    clear ht
    rcases (by omega : j = 0 ∨ j = 1 ∨ j = 2 ∨ j = 3 ∨ j = 4 ∨ j = 5) with rfl | rfl | rfl | rfl | rfl | rfl
    all_goals
      go_wp2_with fail
      go_meet
      exact ⟨by first | (simp; done) | (simp; omega), rfl⟩
  case rest =>
  obtain ⟨rfl, rfl⟩ := hcut
  clear ht hj2 ht1 ht2 HWn
  have HH := Lib.hid (show ∀ W : World, Below Wn.heap.size Wn W → W.cell? ⟨w.heap.size, j, none⟩ = some (.string NK) from fun W hb => (hb.cell (p := ⟨w.heap.size, j, none⟩) (by show w.heap.size < Wn.heap.size; omega)).trans hcN)
  have HPR := Lib.hid (show ∀ W : World, Below Wn.heap.size Wn W → Calls Tryd.prog 6 #[.string Z] W fun e w' => e = .returned (.tuple #[.agg (cells cc), .bool true]) ∧ Below W.heap.size W w' from fun W hb => by
    have h := parse_any Z W (by omega) ((HT.out.below HWN.out htl).below hb (by omega))
    rw [HPZ.out] at h
    exact h)
  have HWY := Lib.hid (show Go.Proofs.YtmnnbefigepgfaaDoor.Ct.Way NK A B z1 z2 z3 z4 z5 z6 Z from ⟨E1, E2, E3, E4, E5, E6, E7⟩)
  clear hcN E1 E2 E3 E4 E5 E6 E7
  go_upto_region 4 with fail
  rename_i Qf Kf hgo
  refine num_region (gn := w.heap.size) (j := j) (n := n) (m := m) (NK := NK) (A := A) (B := B) (z1 := z1) (z2 := z2) (z3 := z3) (z4 := z4) (z5 := z5) (z6 := z6) (Z := Z) (cc := cc) ?_ ⟨hj, HH.out, rfl, rfl, rfl, rfl, HWY.out, HNn.out, HNm.out, HPR.out⟩ rfl rfl ?_
  · constructor
    · kernel_rfl
    · kernel_rfl
    · unfold isOpG; kernel_rfl
    · unfold isOpG; kernel_rfl
    · unfold isOpG; kernel_rfl
    · unfold waits; kernel_rfl
    · unfold waits; kernel_rfl
    · unfold isOpG; kernel_rfl
    · unfold waits; kernel_rfl
    · unfold isOpG; kernel_rfl
    · unfold waits; kernel_rfl
    · unfold isOpG; kernel_rfl
    · unfold isOpG; kernel_rfl
    · unfold waits; kernel_rfl
    · unfold isOpG; kernel_rfl
    · unfold waits; kernel_rfl
    · unfold waits; kernel_rfl
    · unfold isOpG; kernel_rfl
    · unfold waits; kernel_rfl
    · unfold isOpG; kernel_rfl
    · unfold isOpG; kernel_rfl
    · unfold isOpG; kernel_rfl
    · unfold waits; kernel_rfl
    · unfold waits; kernel_rfl
    · unfold isOpG; kernel_rfl
    · unfold waits; kernel_rfl
    · unfold isOpG; kernel_rfl
    · unfold waits; kernel_rfl
    · unfold waits; kernel_rfl
    · unfold isOpG; kernel_rfl
    · unfold waits; kernel_rfl
    · unfold isOpG; kernel_rfl
    · unfold isOpG; kernel_rfl
    · unfold waits; kernel_rfl
    · unfold isOpG; kernel_rfl
    · unfold waits; kernel_rfl
    · unfold waits; kernel_rfl
    · unfold isOpG; kernel_rfl
    · unfold waits; kernel_rfl
    · unfold isOpG; kernel_rfl
    · unfold waits; kernel_rfl
    · unfold isOpG; kernel_rfl
    · unfold waits; kernel_rfl
    · unfold isOpG; kernel_rfl
    · unfold waits; kernel_rfl
    · unfold isOpG; kernel_rfl
    · unfold waits; kernel_rfl
    · unfold isOpG; kernel_rfl
    · unfold isOpG; kernel_rfl
    · unfold waits; kernel_rfl
    · unfold waits; kernel_rfl
    · unfold isOpG; kernel_rfl
    · unfold waits; kernel_rfl
  · intro a' w' hs hd hlow hb ⟨g, h9, hC⟩ h10
    have HBW := Lib.hid (Bl.next HWN.out hb)
    have HC := Lib.hid hC
    refine act_lit99 (Q := fun a' => Exit.then Kf Qf .normal a' w') a' hs hd _ _ _ _ _ _ _ _ _ _ _ (show a'.tmps.getD 0 undef = .int .i64 (n : Int) from hlow 0 (by omega)) (show a'.tmps.getD 1 undef = .int .i64 (m : Int) from hlow 1 (by omega)) (show a'.tmps.getD 2 undef = .int .i64 a2 from hlow 2 (by omega)) (show a'.tmps.getD 3 undef = undef from hlow 3 (by omega)) (show a'.tmps.getD 4 undef = undef from hlow 4 (by omega)) (show a'.tmps.getD 5 undef = undef from hlow 5 (by omega)) (show a'.tmps.getD 6 undef = .bool false from hlow 6 (by omega)) (show a'.tmps.getD 7 undef = .slice (some ⟨w.heap.size, 0, none⟩) 6 6 from hlow 7 (by omega)) (show a'.tmps.getD 8 undef = .int .i64 (j : Int) from hlow 8 (by omega)) (show a'.tmps.getD 9 undef = .pointer (some ⟨g, 0, none⟩) from h9) h10 ?_
    intro f
    obtain ⟨a0', a1', a2', a3, a4, a5, a6, a7, a8, a9, a10, a11, a12⟩ := thirteen hC
    clear hs hd hlow h9 h10 hC hb HH HPR HWY
    go_upto_region 6 with fail
    clear a0' a1' a2' a3 a4 a5 a6 a7 a8 a9 a10 a11 a12
    obtain ⟨W7, hW7⟩ : ∃ W7, W7 = w'.alloc (.cells #[.int .i64 cc.ag, .int .i64 cc.sh, .int .i64 cc.wh, .int .i64 cc.ie, .int .i64 cc.mf, .int .i64 cc.ms] 3) := ⟨_, rfl⟩
    have HNC := Lib.hid (show ∀ i, i < 6 → W7.cell? ⟨w'.heap.size, i, none⟩ = some (.int .i64 (if i = j then min3 n m else -1)) from fun i hi => by
      rw [hW7, Lib.cell_of_heap (new_block _ _)]
      exact HFC.out.num i hi)
    have HB7 := Lib.hid (show Below w.heap.size w W7 from by rw [hW7]; exact HBW.out.alloc HBW.out.size _)
    have hC7 : ConAt W7 g cc := by rw [hW7]; exact (old_block _ _ (block_lt HC.out)).trans HC.out
    have hpu := HFC.out.pu
    have hpr := HFC.out.pr
    have p3 : W7.cell? ⟨g, 3, none⟩ = some (.bool true) := by rw [(thirteen hC7).2.2.2.1, hpu]
    have p2 : W7.cell? ⟨g, 2, none⟩ = some (.bool false) := by rw [(thirteen hC7).2.2.1, hpr]
    rw [← hW7]
    have HW7 := Lib.hid hW7
    clear hW7 hC7 hpu hpr HC HBW
    obtain ⟨N, hN⟩ : ∃ N, N = min3 n m := ⟨_, rfl⟩
    rw [← hN] at HNC
    have HN := Lib.hid hN
    clear hN
    go_cut [12] (fun s12 wx => s12 = .int .i64 N ∧ W7 = wx)
    case first =>
      go_wp2_with fail
      all_goals
        go_meet
        exact ⟨congrArg (Value.int .i64) (by rw [HN.out]; unfold min3 least capped most; (repeat' split) <;> omega), rfl⟩
    case rest =>
      obtain ⟨rfl, rfl⟩ := hcut
      go_wp2_with fail
      go_loopw [13] (fun i wr => ∃ k : Nat, k ≤ 6 ∧ i = .int .i64 (k : Int) ∧ W7 = wr) (fun i _ => 6 - (intOf i).toNat)
      case atStart => exact ⟨0, Nat.zero_le _, rfl, rfl⟩
      case round =>
        obtain ⟨k, hk, rfl, rfl⟩ := hrel
        by_cases hlt2 : k < 6
        · have c1 := HNC.out k hlt2
          have k0 : (0 : Int) ≤ (k : Int) := by omega
          have k1 : (k : Int) < 6 := by omega
          by_cases hkj : k = j
          · subst hkj
            rw [if_pos rfl] at c1
            have e1 : ((k : Int) == (k : Int)) = true := by simp
            go_wp2_with fail
            go_roundw
            case rel => exact ⟨k + 1, by omega, by go_num, trivial⟩
            case measure => simp [intOf]; omega
          · rw [if_neg hkj] at c1
            have e1 : ((k : Int) == (j : Int)) = false := by simp; omega
            have e2 : ((k : Int) != (j : Int)) = true := by simp; omega
            go_wp2_with fail
            go_roundw
            case rel => exact ⟨k + 1, by omega, by go_num, trivial⟩
            case measure => simp [intOf]; omega
        · go_wp2_with fail
          go_ret
          exact ⟨rfl, HB7.out⟩

set_option maxHeartbeats 2000000 in
set_option maxRecDepth 100000 in
theorem contract (H : Type) (enc : TypeId × Value → H) (W : World) (base : Nat) (args : Array Value) (ds gs : List (DataW H)) (before : List MemPlace)
    (hval : ∀ (j : Nat) t v, Tryd.f5.params[j]? = some t → args[j]? = some v → Value.okWide Tryd.prog W .any base t v)
    (hW : DataW.Whole enc Tryd.prog Tryd.f5.params.toList Rows.controlNumbersSpec.vars false W args.toList ds gs before) (ts : List TypeId) (hsz : (DataW.weightsEach Tryd.prog (Tryd.f5.params.toList ++ ts) (ds ++ gs)).all (· ≤ reachBytes) = true) (hL : laidMetH Tryd.prog Rows.controlNumbersRow.laid W) :
    Calls Tryd.prog 5 args W fun e W' => ∃ v, e = .returned v ∧ Rows.controlNumbersSpec.post enc Tryd.prog Tryd.f5 false true false false W args v W' := by
  have hW' := hW
  obtain ⟨p, q, hA0, hV, rfl, hfz, hnd⟩ := hW
  have hA : DataW.TrodAll enc Tryd.prog W 0 (fun _ => true) true Tryd.f5.params.toList args.toList ds p := hA0
  rw [Tryd.params5] at hA hval hsz
  obtain ⟨v0, vs0, d0, ds0, p0, q0, hargs, rfl, rfl, h0, r0⟩ := trodAll_cons hA
  obtain ⟨v1, vs1, d1, ds1, p1, q1, rfl, rfl, rfl, h1, r1⟩ := trodAll_cons r0
  obtain ⟨v2, vs2, d2, ds2, p2, q2, rfl, rfl, rfl, h2, r2⟩ := trodAll_cons r1
  obtain ⟨rfl, rfl, rfl⟩ := trodAll_nil r2
  obtain rfl : args = #[v0, v1, v2] := by cases args; simp_all
  obtain ⟨rfl, rfl⟩ := trodVars_none hV
  obtain ⟨a0, rfl, rfl, rfl, w0⟩ := open_int Tryd.underlying3 (hval 0 3 v0 rfl rfl) h0
  obtain ⟨a1, rfl, rfl, rfl, w1⟩ := open_int Tryd.underlying3 (hval 1 3 v1 rfl rfl) h1
  obtain ⟨a2, rfl, rfl, rfl, w2⟩ := open_int Tryd.underlying3 (hval 2 3 v2 rfl rfl) h2
  clear hA0
  simp only [List.append_nil] at hW'
  refine (walk a0 w0 a1 w1 a2 w2 W (Tb.tok_of_head hL)).mono fun e W' ⟨he, bel⟩ => ?_
  subst he
  exact ⟨_, rfl, _, _, _, [], _, [], hW', trodAll_mk1 (shut_bool Tryd.underlying4 _), (trodAll_cons_mk (shut_int Tryd.underlying3 w0) (trodAll_cons_mk (shut_int Tryd.underlying3 w1) (trodAll_cons_mk (shut_int Tryd.underlying3 w2) trodAll_mk0))), rfl, bel.frame _, fun h => by cases h⟩

theorem laid_met (os : Os) : laidMet Tryd.prog Rows.controlNumbersRow.laid ((Tb.laidWorld os).forCall (fun _ _ => 0) ⟨#[], #[.int .i64 0, .int .i64 0, .int .i64 0], []⟩).memory :=
  laidMet_of_run' 8 (by kernel_rfl) (by kernel_rfl)
theorem reads (os : Os) {H : Type} (enc : TypeId × Value → H) : ∃ places, DataW.whole enc Tryd.prog ((Tb.laidWorld os).forCall (fun _ _ => 0) ⟨#[], #[.int .i64 0, .int .i64 0, .int .i64 0], []⟩).memory Tryd.f5.params.toList Rows.controlNumbersSpec.vars false (#[.int .i64 0, .int .i64 0, .int .i64 0] : Array Value).toList 8 = some ([.lit (.int .i64 0), .lit (.int .i64 0), .lit (.int .i64 0)], [], places) :=
  ⟨[], by kernel_rfl⟩

set_option maxRecDepth 100000 in
theorem lifted (os : Os) (started : os.Started) (H : Type) (enc : TypeId × Value → H) (F : Stop.Interp) :
    ReturnsInHanded {} Tryd.checked os 5 .any ((OpenSpec.ofChange Rows.controlNumbersSpec).preRow enc Tryd.prog Tryd.f5 Rows.controlNumbersRow.domain false Rows.controlNumbersRow.laid) (((OpenSpec.ofChange Rows.controlNumbersSpec).at F).post enc Tryd.prog Tryd.f5 false true false false) := by
  obtain ⟨places, hx⟩ := reads os enc
  refine returnsInHanded_of_row (C := Tryd.checked) (s := OpenSpec.ofChange Rows.controlNumbersSpec) Tb.own started (by kernel_rfl) Tryd.func5
    (witness_row_at (enc := enc) (C := Tryd.checked) false (Tb.laidWorld os) #[.int .i64 0, .int .i64 0, .int .i64 0] rfl (by kernel_rfl) (by kernel_rfl) (by kernel_rfl)
      (OpenSpec.preRow_of_cond 8 hx (by kernel_rfl) (fun k hk => by cases hk) (by kernel_rfl) (laid_met os))) ?_
  intro W base args ds gs before hval hW _ _ hsz hL _ _
  exact contract H enc W base args ds gs before hval hW _ hsz hL

theorem said : Rows.ControlNumbersSaid :=
  OpenClaim.holds_of_cond 5 Tryd.f5 rfl rfl rfl rfl rfl rfl rfl ⟨rfl, rfl, rfl, rfl, rfl⟩ rfl rfl rfl rfl rfl (by kernel_rfl) Tryd.func5 (by kernel_rfl)
    (of_decide_eq_true (by kernel_rfl)) (by unfold Func.isWrapper; first | (rw [if_pos (by decide +kernel)]; kernel_rfl) | (rw [if_neg (by decide +kernel)]; exact ⟨rfl, rfl⟩))
    (fun os started H enc _ F => by rw [OpenClaim.pre_eq_preRow]; exact lifted os started H enc F)

set_option maxRecDepth 100000 in
theorem plain (f : FuncId) (fn : Func) (hf : Tryd.pinned.checked.prog.funcNamed "gatepost/gatepostlaw08.ControlNumbers" = some f) (hfn : Tryd.pinned.checked.prog.funcs[f]? = some fn) :
    false = Tryd.pinned.checked.prog.looks [] ∧ ∀ (j : Nat) t, fn.params[j]? = some t → Tryd.pinned.checked.prog.wantsStandIn t = false := by
  obtain rfl : f = 5 := Option.some.inj ((show Tryd.prog.funcNamed "gatepost/gatepostlaw08.ControlNumbers" = some 5 by kernel_rfl).symm.trans hf) |>.symm
  obtain rfl : fn = Tryd.f5 := (Option.some.inj (Tryd.func5.symm.trans hfn)).symm
  refine ⟨by kernel_rfl, fun j t ht => ?_⟩
  rw [Tryd.params5] at ht
  have hm := Array.mem_of_getElem? ht
  simp at hm
  subst hm
  exact (show Tryd.prog.wantsStandIn 3 = false by kernel_rfl)

theorem card : Rows.ControlNumbersCardSaid :=
  Claim7.holds_tied_plain_at .later [] _ _ _ _ said (fun _ h => by cases h) (by kernel_rfl) (fun _ h => by cases h) controlNumbers_row_tie rfl ⟨rfl, rfl⟩ (by kernel_rfl) rfl plain (by kernel_rfl)
end Go.Proofs.YtmnnbefigepgfaaDoor.controlNumbers
