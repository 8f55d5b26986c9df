/-
  StoringAuth: StoringAuth: of each way and each code that the law draws, what was asked for with Authorization is stored just where a word allows it, and the same without it always.
  Conditions: the listed tables hold what the program's text lays (the card ties them).
-/
import Derived.Deep.DeepCutAuto
import Derived.Deep.RegionWith
import Derived.Test.YtjbdgndejbiikaaDoorSgAP7
import Derived.SizedLaws
import Derived.Carry
import Derived.Test.YtjbdgndejbiikaaDoorSgAP27
import Derived.WideKeyPair
namespace Go.Proofs.YtjbdgndejbiikaaDoor.storingAuth
open Go.ChangeShapes Go.WideShapes Go.ChangeAt Go.RowKit
open Go.ChangeMaps (open_string shut_string)
set_option linter.unusedVariables false

open Go.Proofs.YtjbdgndejbiikaaDoor.Fd Go.Proofs.YtjbdgndejbiikaaDoor.Ct Go.Proofs.YtjbdgndejbiikaaDoor.Fh Go.Proofs.YtjbdgndejbiikaaDoor.Sg
theorem mask3 (a : Int) : ∃ n : Nat, bits .and .i64 a 3 = (n : Int) ∧ n < 4 := by
  have h1 : (BitVec.ofInt 64 a &&& BitVec.ofInt 64 (3 : Int)).toNat ≤ 3 := by
    rw [BitVec.toNat_and]
    exact Nat.le_trans Nat.and_le_right (by decide)
  have h2 : bits .and .i64 a 3 = IntKind.i64.wrap ((BitVec.ofInt 64 a &&& BitVec.ofInt 64 (3 : Int)).toNat : Int) := rfl
  rw [IntKind.wrap_i64] at h2
  exact ⟨(bits .and .i64 a 3).toNat, by omega, by omega⟩
theorem idx5 (a : Int) : ∃ j : Nat, j < 5 ∧ -4 ≤ a.tmod 5 ∧ a.tmod 5 ≤ 4 ∧ (a.tmod 5 + 5) % 5 = (j : Int) := by
  have h1 : -4 ≤ a.tmod 5 ∧ a.tmod 5 ≤ 4 := by
    have h2 := Int.tmod_lt_of_pos a (b := 5) (by omega)
    have h3 := Int.lt_tmod_of_pos a (b := 5) (by omega)
    omega
  exact ⟨((a.tmod 5 + 5) % 5).toNat, by omega, h1.1, h1.2, by omega⟩
def saysA : Array Value := #[.string ⟨#[109, 97, 120, 45, 97, 103, 101, 61, 53]⟩, .string ⟨#[112, 117, 98, 108, 105, 99]⟩, .string ⟨#[109, 97, 120, 45, 97, 103, 101, 61, 53, 44, 32, 109, 117, 115, 116, 45, 114, 101, 118, 97, 108, 105, 100, 97, 116, 101]⟩, .string ⟨#[115, 45, 109, 97, 120, 97, 103, 101, 61, 48]⟩, .string ⟨#[112, 114, 111, 120, 121, 45, 114, 101, 118, 97, 108, 105, 100, 97, 116, 101, 44, 32, 109, 97, 120, 45, 97, 103, 101, 61, 53]⟩]
theorem says_at {W : World} {g : Nat} (h : W.heap[g]? = some (.cells saysA 9 (0, 0))) (j : Nat) (hj : j < 5) : W.cell? ⟨g, j, none⟩ = some (.string (sayV j)) := by
  rw [Lib.cell_of_heap h]
  rcases (by omega : j = 0 ∨ j = 1 ∨ j = 2 ∨ j = 3 ∨ j = 4) with rfl | rfl | rfl | rfl | rfl <;> rfl
theorem codes_at {W : World} {g : Nat} (h : W.heap[g]? = some (.cells #[.int .i64 200, .int .i64 404, .int .i64 500, .int .i64 201] 3 (0, 0))) (n : Nat) (hn : n < 4) : W.cell? ⟨g, n, none⟩ = some (.int .i64 (codeK n)) := by
  rw [Lib.cell_of_heap h]
  rcases (by omega : n = 0 ∨ n = 1 ∨ n = 2 ∨ n = 3) with rfl | rfl | rfl | rfl <;> rfl
theorem say_size (j : Nat) (hj : j < 5) : (sayV j).size ≤ 30 := by
  rcases (by omega : j = 0 ∨ j = 1 ∨ j = 2 ∨ j = 3 ∨ j = 4) with rfl | rfl | rfl | rfl | rfl <;> decide
theorem tot_one (a b : ByteArray) : tot [(a, b)] = a.size + b.size + 1 := by simp [tot]
theorem resp_cells {W : World} {g : Nat} {a b : Int} {c : ByteArray} {v : Value} (h : W.heap[g]? = some (.cells #[.int .i64 a, .int .i64 b, .string c, v] 29 (0, 0))) :
    W.cell? ⟨g, 0, none⟩ = some (.int .i64 a) ∧ W.cell? ⟨g, 1, none⟩ = some (.int .i64 b) ∧ W.cell? ⟨g, 2, none⟩ = some (.string c) ∧ W.cell? ⟨g, 3, none⟩ = some v := by
  refine ⟨?_, ?_, ?_, ?_⟩ <;> (rw [Lib.cell_of_heap h]; rfl)
set_option maxHeartbeats 4000000 in
set_option maxRecDepth 100000 in
theorem walk (a0 : Int) (w0 : (Lit.int .i64 a0).wf = true) (a1 : Int) (w1 : (Lit.int .i64 a1).wf = true) (w : World) (hT : Tk.Tab w) (hmd : Dp.MD w) (hwd : Dp.WD w) (hmn : Dp.MN w) (hfm : Dp.FM w) (hC : Fh.Codes w) :
    Calls Tryd.prog 5 #[.int .i64 a0, .int .i64 a1] w fun e w' => e = .returned (.bool true) ∧ Below w.heap.size w w' := by
  obtain ⟨n, hn, hn2⟩ := mask3 a1
  obtain ⟨j, hj, ht1, ht2, hj2⟩ := idx5 a0
  obtain ⟨t, ht⟩ : ∃ t, t = a0.tmod 5 := ⟨_, rfl⟩
  rw [← ht] at ht1 ht2 hj2
  have HT := Lib.hid hT
  have HE := Lib.hid (show Dp.Env w from ⟨hmd, hwd, hmn⟩)
  have HM := Lib.hid hfm
  have HC := Lib.hid hC
  obtain ⟨S, hS⟩ : ∃ S, S = sayV j := ⟨_, rfl⟩
  have hSs : S.size ≤ 30 := by rw [hS]; exact say_size j hj
  obtain ⟨K, hK⟩ : ∃ K, K = codeK n := ⟨_, rfl⟩
  have HA := Lib.hid (show mayOf (⟨#[71, 69, 84]⟩ : ByteArray).data.toList [(⟨#[97, 117, 116, 104, 111, 114, 105, 122, 97, 116, 105, 111, 110]⟩, ⟨#[120]⟩)] K [(⟨#[67, 97, 99, 104, 101, 45, 67, 111, 110, 116, 114, 111, 108]⟩, S)] = decide (1 ≤ j ∧ j ≤ 3) from by rw [hS, hK]; exact (auth_all ⟨j, hj⟩ ⟨n, hn2⟩).2)
  have HB := Lib.hid (show mayOf (⟨#[71, 69, 84]⟩ : ByteArray).data.toList [] K [(⟨#[67, 97, 99, 104, 101, 45, 67, 111, 110, 116, 114, 111, 108]⟩, S)] = true from by rw [hS, hK]; exact (auth_all ⟨j, hj⟩ ⟨n, hn2⟩).1)
  have HW1 := Lib.hid (show Below w.heap.size w (w.alloc (.cells #[.string ⟨#[109, 97, 120, 45, 97, 103, 101, 61, 53]⟩, .string ⟨#[112, 117, 98, 108, 105, 99]⟩, .string ⟨#[109, 97, 120, 45, 97, 103, 101, 61, 53, 44, 32, 109, 117, 115, 116, 45, 114, 101, 118, 97, 108, 105, 100, 97, 116, 101]⟩, .string ⟨#[115, 45, 109, 97, 120, 97, 103, 101, 61, 48]⟩, .string ⟨#[112, 114, 111, 120, 121, 45, 114, 101, 118, 97, 108, 105, 100, 97, 116, 101, 44, 32, 109, 97, 120, 45, 97, 103, 101, 61, 53]⟩] 9)) from (Below.refl _ _).alloc (Nat.le_refl _) _)
  have HN1 := Lib.hid (show (w.alloc (.cells #[.string ⟨#[109, 97, 120, 45, 97, 103, 101, 61, 53]⟩, .string ⟨#[112, 117, 98, 108, 105, 99]⟩, .string ⟨#[109, 97, 120, 45, 97, 103, 101, 61, 53, 44, 32, 109, 117, 115, 116, 45, 114, 101, 118, 97, 108, 105, 100, 97, 116, 101]⟩, .string ⟨#[115, 45, 109, 97, 120, 97, 103, 101, 61, 48]⟩, .string ⟨#[112, 114, 111, 120, 121, 45, 114, 101, 118, 97, 108, 105, 100, 97, 116, 101, 44, 32, 109, 97, 120, 45, 97, 103, 101, 61, 53]⟩] 9)).heap[w.heap.size]? = some (.cells #[.string ⟨#[109, 97, 120, 45, 97, 103, 101, 61, 53]⟩, .string ⟨#[112, 117, 98, 108, 105, 99]⟩, .string ⟨#[109, 97, 120, 45, 97, 103, 101, 61, 53, 44, 32, 109, 117, 115, 116, 45, 114, 101, 118, 97, 108, 105, 100, 97, 116, 101]⟩, .string ⟨#[115, 45, 109, 97, 120, 97, 103, 101, 61, 48]⟩, .string ⟨#[112, 114, 111, 120, 121, 45, 114, 101, 118, 97, 108, 105, 100, 97, 116, 101, 44, 32, 109, 97, 120, 45, 97, 103, 101, 61, 53]⟩] 9 (0, 0)) from new_block _ _)
  have n0 : (0 : Int) ≤ (n : Int) := by omega
  have n1 : (n : Int) < 4 := by omega
  have j0 : (0 : Int) ≤ (j : Int) := by omega
  have j1 : (j : Int) < 5 := by omega
  have HSd := Lib.hid hS
  have HKd := Lib.hid hK
  clear hT hmd hwd hmn hfm hC hS hK w0 w1
  go_enter Tryd.func5, Tryd.ntmps5
  go_upto_region 2 with fail
  generalize w.alloc (.cells #[.string ⟨#[109, 97, 120, 45, 97, 103, 101, 61, 53]⟩, .string ⟨#[112, 117, 98, 108, 105, 99]⟩, .string ⟨#[109, 97, 120, 45, 97, 103, 101, 61, 53, 44, 32, 109, 117, 115, 116, 45, 114, 101, 118, 97, 108, 105, 100, 97, 116, 101]⟩, .string ⟨#[115, 45, 109, 97, 120, 97, 103, 101, 61, 48]⟩, .string ⟨#[112, 114, 111, 120, 121, 45, 114, 101, 118, 97, 108, 105, 100, 97, 116, 101, 44, 32, 109, 97, 120, 45, 97, 103, 101, 61, 53]⟩] 9) = Wn at HW1 HN1 ⊢
  go_upto_region 2 with fail
  go_cut [6] (fun s6 wx => s6 = .int .i64 (j : Int) ∧ Wn = wx)
  case first =>
    have ht2' := ht.symm
    clear ht
    rcases (by omega : j = 0 ∨ j = 1 ∨ j = 2 ∨ j = 3 ∨ j = 4) with rfl | rfl | rfl | rfl | rfl
    all_goals
      go_wp2_with fail
      go_meet
      exact ⟨by first | (simp; done) | (simp; omega), rfl⟩
  case rest =>
  obtain ⟨rfl, rfl⟩ := hcut
  clear ht hj2 ht1 ht2
  have c1 : (Wn.alloc (.cells #[.int .i64 200, .int .i64 404, .int .i64 500, .int .i64 201] 3)).cell? ⟨Wn.heap.size, n, none⟩ = some (.int .i64 K) := by rw [HKd.out]; exact codes_at (new_block _ _) n hn2
  go_upto_region 4 with fail
  have hsz := HW1.out.size
  have HN2 := Lib.hid (show (Wn.alloc (.cells #[.int .i64 200, .int .i64 404, .int .i64 500, .int .i64 201] 3)).heap[w.heap.size]? = some (.cells saysA 9 (0, 0)) from (old_block _ _ (block_lt HN1.out)).trans HN1.out)
  have HW2 := Lib.hid (HW1.out.alloc HW1.out.size (.cells #[.int .i64 200, .int .i64 404, .int .i64 500, .int .i64 201] 3))
  generalize Wn.alloc (.cells #[.int .i64 200, .int .i64 404, .int .i64 500, .int .i64 201] 3) = W2 at HN2 HW2 c1 ⊢
  clear c1 HN1 HW1 hsz
  have c2 : W2.cell? ⟨w.heap.size, j, none⟩ = some (.string S) := by rw [HSd.out]; exact says_at HN2.out j hj
  go_upto_region 5 with fail
  have hF0 := new_block W2 (.cells #[.string ⟨#[67, 97, 99, 104, 101, 45, 67, 111, 110, 116, 114, 111, 108]⟩, .string S] 27)
  have HF3 := Lib.hid (show ((W2.alloc (.cells #[.string ⟨#[67, 97, 99, 104, 101, 45, 67, 111, 110, 116, 114, 111, 108]⟩, .string S] 27)).alloc (.cells #[.int .i64 0, .int .i64 K, .string ⟨#[]⟩, .slice (some ⟨W2.heap.size, 0, none⟩) 1 1] 29)).heap[W2.heap.size]? = some (.cells #[.string ⟨#[67, 97, 99, 104, 101, 45, 67, 111, 110, 116, 114, 111, 108]⟩, .string S] 27 (0, 0)) from (old_block _ _ (block_lt hF0)).trans hF0)
  have HR3 := Lib.hid (show ((W2.alloc (.cells #[.string ⟨#[67, 97, 99, 104, 101, 45, 67, 111, 110, 116, 114, 111, 108]⟩, .string S] 27)).alloc (.cells #[.int .i64 0, .int .i64 K, .string ⟨#[]⟩, .slice (some ⟨W2.heap.size, 0, none⟩) 1 1] 29)).heap[W2.heap.size + 1]? = some (.cells #[.int .i64 0, .int .i64 K, .string ⟨#[]⟩, .slice (some ⟨W2.heap.size, 0, none⟩) 1 1] 29 (0, 0)) from new_block' _ _ (by simp))
  have HW3 := Lib.hid ((HW2.out.alloc HW2.out.size (.cells #[.string ⟨#[67, 97, 99, 104, 101, 45, 67, 111, 110, 116, 114, 111, 108]⟩, .string S] 27)).alloc (by have := HW2.out.size; simp; omega) (.cells #[.int .i64 0, .int .i64 K, .string ⟨#[]⟩, .slice (some ⟨W2.heap.size, 0, none⟩) 1 1] 29))
  generalize (W2.alloc (.cells #[.string ⟨#[67, 97, 99, 104, 101, 45, 67, 111, 110, 116, 114, 111, 108]⟩, .string S] 27)).alloc (.cells #[.int .i64 0, .int .i64 K, .string ⟨#[]⟩, .slice (some ⟨W2.heap.size, 0, none⟩) 1 1] 29) = W3 at HF3 HR3 HW3 ⊢
  obtain ⟨F, hFd⟩ : ∃ F, F = W2.heap.size := ⟨_, rfl⟩
  rw [← hFd] at HF3 HR3
  rw [← hFd]
  clear hF0 hFd HN2 HW2 c2
  have hG := new_block W3 (.cells #[.string ⟨#[97, 117, 116, 104, 111, 114, 105, 122, 97, 116, 105, 111, 110]⟩, .string ⟨#[120]⟩] 27)
  have HG := Lib.hid hG
  have HF4 := Lib.hid ((old_block W3 (.cells #[.string ⟨#[97, 117, 116, 104, 111, 114, 105, 122, 97, 116, 105, 111, 110]⟩, .string ⟨#[120]⟩] 27) (block_lt HF3.out)).trans HF3.out)
  have HR4 := Lib.hid ((old_block W3 (.cells #[.string ⟨#[97, 117, 116, 104, 111, 114, 105, 122, 97, 116, 105, 111, 110]⟩, .string ⟨#[120]⟩] 27) (block_lt HR3.out)).trans HR3.out)
  have HW4 := Lib.hid (HW3.out.alloc HW3.out.size (.cells #[.string ⟨#[97, 117, 116, 104, 111, 114, 105, 122, 97, 116, 105, 111, 110]⟩, .string ⟨#[120]⟩] 27))
  obtain ⟨r0, r1, r2, r3⟩ := resp_cells HR4.out
  clear hG
  go_wp2_with fail
  refine (may_lit ⟨#[71, 69, 84]⟩ ⟨#[]⟩ 0 _ _ _ [(⟨#[97, 117, 116, 104, 111, 114, 105, 122, 97, 116, 105, 111, 110]⟩, ⟨#[120]⟩)] 0 K ⟨#[]⟩ _ _ _ [(⟨#[67, 97, 99, 104, 101, 45, 67, 111, 110, 116, 114, 111, 108]⟩, S)] _ (flds_one HG.out) (flds_one HF4.out) (by rw [tot_one]; decide) (by rw [tot_one]; show 13 + S.size + 1 ≤ _; omega)
    (HT.out.below HW4.out HT.out.lt) (HE.out.below HW4.out (Nat.le_refl _)) (HM.out.below HW4.out (Nat.le_refl _)) (HC.out.below HW4.out HC.out.lt)).mono ?_
  rintro e W5 ⟨rfl, hb5⟩
  rw [HA.out]
  have HF5 := Lib.hid (Bl.old hb5 (block_lt HF4.out) HF4.out)
  have HW5 := Lib.hid (Bl.next HW4.out hb5)
  obtain ⟨s0, s1, s2, s3⟩ := resp_cells (Bl.old hb5 (block_lt HR4.out) HR4.out)
  clear r0 r1 r2 r3 hb5 HG HF3 HR3 HW3
  go_wp2_with fail
  refine (may_lit ⟨#[71, 69, 84]⟩ ⟨#[]⟩ 0 _ _ _ [] 0 K ⟨#[]⟩ _ _ _ [(⟨#[67, 97, 99, 104, 101, 45, 67, 111, 110, 116, 114, 111, 108]⟩, S)] _ (.inl ⟨rfl, _, _, rfl⟩) (flds_one HF5.out) (by decide) (by rw [tot_one]; show 13 + S.size + 1 ≤ _; omega)
    (HT.out.below HW5.out HT.out.lt) (HE.out.below HW5.out (Nat.le_refl _)) (HM.out.below HW5.out (Nat.le_refl _)) (HC.out.below HW5.out HC.out.lt)).mono ?_
  rintro e W6 ⟨rfl, hb6⟩
  rw [HB.out]
  have HW6 := Lib.hid (Bl.next HW5.out hb6)
  clear s0 s1 s2 s3 hb6
  rcases (by omega : j = 0 ∨ j = 1 ∨ j = 2 ∨ j = 3 ∨ j = 4) with rfl | rfl | rfl | rfl | rfl
  all_goals
    go_wp2_with fail
    go_ret
    exact ⟨rfl, HW6.out⟩

set_option maxHeartbeats 2000000 in
set_option maxRecDepth 100000 in
theorem contract (H : Type) (enc : TypeId × Value → H) (W : World) (base : Nat) (args : Array Value) (ds gs : List (DataW H)) (before : List MemPlace)
    (hval : ∀ (j : Nat) t v, Tryd.f5.params[j]? = some t → args[j]? = some v → Value.okWide Tryd.prog W .any base t v)
    (hW : DataW.Whole enc Tryd.prog Tryd.f5.params.toList Rows.storingAuthSpec.vars false W args.toList ds gs before) (ts : List TypeId) (hsz : (DataW.weightsEach Tryd.prog (Tryd.f5.params.toList ++ ts) (ds ++ gs)).all (· ≤ reachBytes) = true) (hL : laidMetH Tryd.prog Rows.storingAuthRow.laid W) :
    Calls Tryd.prog 5 args W fun e W' => ∃ v, e = .returned v ∧ Rows.storingAuthSpec.post enc Tryd.prog Tryd.f5 false true false false W args v W' := by
  have hW' := hW
  obtain ⟨p, q, hA0, hV, rfl, hfz, hnd⟩ := hW
  have hA : DataW.TrodAll enc Tryd.prog W 0 (fun _ => true) true Tryd.f5.params.toList args.toList ds p := hA0
  rw [Tryd.params5] at hA hval hsz
  obtain ⟨v0, vs0, d0, ds0, p0, q0, hargs, rfl, rfl, h0, r0⟩ := trodAll_cons hA
  obtain ⟨v1, vs1, d1, ds1, p1, q1, rfl, rfl, rfl, h1, r1⟩ := trodAll_cons r0
  obtain ⟨rfl, rfl, rfl⟩ := trodAll_nil r1
  obtain rfl : args = #[v0, v1] := by cases args; simp_all
  obtain ⟨rfl, rfl⟩ := trodVars_none hV
  obtain ⟨a0, rfl, rfl, rfl, w0⟩ := open_int Tryd.underlying3 (hval 0 3 v0 rfl rfl) h0
  obtain ⟨a1, rfl, rfl, rfl, w1⟩ := open_int Tryd.underlying3 (hval 1 3 v1 rfl rfl) h1
  clear hA0
  simp only [List.append_nil] at hW'
  refine (walk a0 w0 a1 w1 W (Tb.tok_of_head (Tb.tail (Tb.tail (Tb.tail (Tb.tail (Tb.tail hL)))))) (Tb.md_of_head (Tb.tail (Tb.tail (Tb.tail hL)))) (Tb.wd_of_head (Tb.tail hL)) (Tb.mn_of_head (Tb.tail (Tb.tail hL))) (Tb.fm_of_head (Tb.tail (Tb.tail (Tb.tail (Tb.tail hL))))) (Tb.kept_of_head hL)).mono fun e W' ⟨he, bel⟩ => ?_
  subst he
  exact ⟨_, rfl, _, _, _, [], _, [], hW', trodAll_mk1 (shut_bool Tryd.underlying4 _), (trodAll_cons_mk (shut_int Tryd.underlying3 w0) (trodAll_cons_mk (shut_int Tryd.underlying3 w1) trodAll_mk0)), rfl, bel.frame _, fun h => by cases h⟩

theorem laid_met (os : Os) : laidMet Tryd.prog Rows.storingAuthRow.laid ((Tb.laidWorld os).forCall (fun _ _ => 0) ⟨#[], #[.int .i64 0, .int .i64 0], []⟩).memory :=
  laidMet_of_run' 8 (by kernel_rfl) (by kernel_rfl)
theorem reads (os : Os) {H : Type} (enc : TypeId × Value → H) : ∃ places, DataW.whole enc Tryd.prog ((Tb.laidWorld os).forCall (fun _ _ => 0) ⟨#[], #[.int .i64 0, .int .i64 0], []⟩).memory Tryd.f5.params.toList Rows.storingAuthSpec.vars false (#[.int .i64 0, .int .i64 0] : Array Value).toList 8 = some ([.lit (.int .i64 0), .lit (.int .i64 0)], [], places) :=
  ⟨[], by kernel_rfl⟩

set_option maxRecDepth 100000 in
theorem lifted (os : Os) (started : os.Started) (H : Type) (enc : TypeId × Value → H) (F : Stop.Interp) :
    ReturnsInHanded {} Tryd.checked os 5 .any ((OpenSpec.ofChange Rows.storingAuthSpec).preRow enc Tryd.prog Tryd.f5 Rows.storingAuthRow.domain false Rows.storingAuthRow.laid) (((OpenSpec.ofChange Rows.storingAuthSpec).at F).post enc Tryd.prog Tryd.f5 false true false false) := by
  obtain ⟨places, hx⟩ := reads os enc
  refine returnsInHanded_of_row (C := Tryd.checked) (s := OpenSpec.ofChange Rows.storingAuthSpec) Tb.own started (by kernel_rfl) Tryd.func5
    (witness_row_at (enc := enc) (C := Tryd.checked) false (Tb.laidWorld os) #[.int .i64 0, .int .i64 0] rfl (by kernel_rfl) (by kernel_rfl) (by kernel_rfl)
      (OpenSpec.preRow_of_cond 8 hx (by kernel_rfl) (fun k hk => by cases hk) (by kernel_rfl) (laid_met os))) ?_
  intro W base args ds gs before hval hW _ _ hsz hL _ _
  exact contract H enc W base args ds gs before hval hW _ hsz hL

theorem said : Rows.StoringAuthSaid :=
  OpenClaim.holds_of_cond 5 Tryd.f5 rfl rfl rfl rfl rfl rfl rfl ⟨rfl, rfl, rfl, rfl, rfl⟩ rfl rfl rfl rfl rfl (by kernel_rfl) Tryd.func5 (by kernel_rfl)
    (of_decide_eq_true (by kernel_rfl)) (by unfold Func.isWrapper; first | (rw [if_pos (by decide +kernel)]; kernel_rfl) | (rw [if_neg (by decide +kernel)]; exact ⟨rfl, rfl⟩))
    (fun os started H enc _ F => by rw [OpenClaim.pre_eq_preRow]; exact lifted os started H enc F)

set_option maxRecDepth 100000 in
theorem plain (f : FuncId) (fn : Func) (hf : Tryd.pinned.checked.prog.funcNamed "gatepost/gatepostlaw10.StoringAuth" = some f) (hfn : Tryd.pinned.checked.prog.funcs[f]? = some fn) :
    false = Tryd.pinned.checked.prog.looks [] ∧ ∀ (j : Nat) t, fn.params[j]? = some t → Tryd.pinned.checked.prog.wantsStandIn t = false := by
  obtain rfl : f = 5 := Option.some.inj ((show Tryd.prog.funcNamed "gatepost/gatepostlaw10.StoringAuth" = some 5 by kernel_rfl).symm.trans hf) |>.symm
  obtain rfl : fn = Tryd.f5 := (Option.some.inj (Tryd.func5.symm.trans hfn)).symm
  refine ⟨by kernel_rfl, fun j t ht => ?_⟩
  rw [Tryd.params5] at ht
  have hm := Array.mem_of_getElem? ht
  simp at hm
  subst hm
  exact (show Tryd.prog.wantsStandIn 3 = false by kernel_rfl)

theorem card : Rows.StoringAuthCardSaid :=
  Claim7.holds_tied_plain_at .later [] _ _ _ _ said (fun _ h => by cases h) (by kernel_rfl) (fun _ h => by cases h) storingAuth_row_tie rfl ⟨rfl, rfl⟩ (by kernel_rfl) rfl plain (by kernel_rfl)
end Go.Proofs.YtjbdgndejbiikaaDoor.storingAuth
