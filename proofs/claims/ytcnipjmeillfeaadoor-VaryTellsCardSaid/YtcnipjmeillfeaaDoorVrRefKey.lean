/-
  gatepostref11.Key: what it returns. Conditions: as vary.Key's.
-/
import Derived.Test.YtcnipjmeillfeaaDoorVrKey
import Derived.Test.YtcnipjmeillfeaaDoorVrDec
import Derived.Test.YtcnipjmeillfeaaDoorFdRefGet
namespace Go.Proofs.YtcnipjmeillfeaaDoor.Vr
open Go.RowKit Go.Proofs.YtcnipjmeillfeaaDoor.Tk Go.Proofs.YtcnipjmeillfeaaDoor.Fd Go.Proofs.YtcnipjmeillfeaaDoor.Ct Go.Proofs.YtcnipjmeillfeaaDoor.Hd
set_option linter.unusedVariables false

theorem app_list (a b : ByteArray) : (a ++ b).data.toList = a.data.toList ++ b.data.toList := by simp
theorem digits_same (n : Nat) (W : World) (hn : n ≤ 9999999) (D : ByteArray) (hD : D = ⟨(decL n).toArray⟩) :
    Calls Tryd.prog 24 #[.int .i64 (n : Int)] W fun e w' => e = .returned (.string D) ∧ w' = W :=
  (digits_any 6 n W (by omega) (by omega)).mono fun e w' ⟨h1, h2⟩ => ⟨by rw [h1, hD], h2.symm⟩

set_option maxHeartbeats 4000000 in
theorem refKey_any (v vf : Value) (ns : List ByteArray) (fs : List Fl) (w : World) (hs : Strs w v ns) (hf : Flds w vf fs) (ht : tot fs ≤ 1048576) (hz : ∀ s ∈ ns, s.size ≤ 1048576) (hn : ns.length ≤ 1048576) :
    Calls Tryd.prog 11 #[v, vf] w fun e w' => e = .returned (.string ⟨(keyOf fs (nmsL ns)).toArray⟩) ∧ Below w.heap.size w w' := by
  rcases strs_form hs with ⟨rfl, a, cap, rfl⟩ | ⟨b, off, cap, rfl, h0, hlt, hc⟩
  · clear hs hf hz hn ht
    go_enter Tryd.func11, Tryd.ntmps11
    go_wp2_with fail
    refine wp_loop_rounds 1 ?_
    rw [rounds_succ]
    go_wp2_with fail
    go_ret
    exact ⟨rfl, Below.refl _ _⟩
  · have HC := Lib.hid hc
    have HF := Lib.hid hf
    have HZ := Lib.hid hz
    have HKL := Lib.hid (key_length fs ht)
    clear hs hc hf hz
    go_enter Tryd.func11, Tryd.ntmps11
    go_wp2_with fail
    go_loopw [5, 6] (fun s i wr => ∃ (k : Nat) (S : ByteArray), k ≤ ns.length ∧ i = .int .i64 (k : Int) ∧ s = .string S ∧ S.data.toList = keyOf fs (nmsL (ns.take k)) ∧ Below w.heap.size w wr) (fun _ i _ => ns.length - (intOf i).toNat)
    case atStart => exact ⟨0, ⟨#[]⟩, Nat.zero_le _, rfl, rfl, rfl, Below.refl _ _⟩
    case round =>
      obtain ⟨k, S, hk, rfl, rfl, hS, hB⟩ := hrel
      have hsz := hB.size
      by_cases hlt2 : k < ns.length
      · have c1 : wr.cell? ⟨b, off + k, none⟩ = some (.string ns[k]) := (hB.cell (p := ⟨b, off + k, none⟩) hlt).trans (HC.out k hlt2)
        have hxs : ns[k].size ≤ 1048576 := HZ.out _ (List.getElem_mem hlt2)
        have hgl := getT_length fs ns[k].data.toList
        have hkl := HKL.out (ns.take k) (fun s hs => HZ.out s (List.mem_of_mem_take hs))
        have htk : (ns.take k).length ≤ k := List.length_take_le _ _
        have hSs : S.size ≤ 4194304 * 1048576 := by rw [← size_list, hS]; omega
        have HN := Lib.hid (key_next fs ns k hlt2)
        rw [← hS] at HN
        have HFr := Lib.hid (HF.out.below hB (Nat.le_refl _))
        obtain ⟨x, hx⟩ : ∃ x, x = ns[k] := ⟨_, rfl⟩
        rw [← hx] at c1 hxs hgl HN
        obtain ⟨T, hT⟩ : ∃ T, T = getT fs x.data.toList := ⟨_, rfl⟩
        obtain ⟨n, hn'⟩ : ∃ n, n = getN fs x.data.toList := ⟨_, rfl⟩
        rw [← hT, ← hn'] at HN
        rw [← hT] at hgl
        have HGV := Lib.hid (show getVal fs x.data.toList = .tuple #[.string ⟨T.toArray⟩, .int .i64 (n : Int)] from by unfold getVal; rw [← hT, ← hn'])
        obtain ⟨X, hX⟩ : ∃ X : ByteArray, X = ⟨T.toArray⟩ := ⟨_, rfl⟩
        have hXs : X.size = T.length := by rw [hX]; show T.toArray.size = _; rw [List.size_toArray]
        have HXD := Lib.hid (show X.data.toList = T from by rw [hX])
        rw [← hX] at HGV
        have hXb : X.size ≤ 2097152 := by omega
        clear hx hT hn' hX hkl htk HKL HZ hS hXs hgl
        go_wp2_with fail
        refine (refGet_any vf fs x _ HFr.out ht (by unfold maxLen; omega)).mono ?_
        rintro e w1 ⟨rfl, hb1⟩
        rw [HGV.out]
        have hB1 := hB.trans (hb1.mono hsz)
        have d1 : w1.cell? ⟨b, off + k, none⟩ = some (.string x) := (hb1.cell (p := ⟨b, off + k, none⟩) (by show b < _; omega)).trans c1
        clear hb1 HFr HGV c1
        by_cases h0 : n = 0
        · rw [h0] at HN
          have d0 : (n : Int) = 0 := by omega
          rw [d0]
          clear d0 h0
          go_wp2_with fail
          go_roundw
          case rel => exact ⟨k + 1, _, by omega, by go_num, rfl, by rw [HN.out]; simp [partOf], hB1⟩
          case measure => simp [intOf]; omega
        · have d0 : ((n : Int) == 0) = false := by rw [beq_eq_false_iff_ne]; omega
          obtain ⟨D, hD⟩ : ∃ D : ByteArray, D = ⟨(decL X.size).toArray⟩ := ⟨_, rfl⟩
          have HD := Lib.hid (fun W => digits_same X.size W (by omega) D hD)
          have hDs : D.size ≤ 7 := by rw [hD]; show (decL X.size).toArray.size ≤ _; rw [List.size_toArray]; exact dec_length (by omega)
          have HDL := Lib.hid (show D.data.toList = decL X.size from by rw [hD])
          have HXS := Lib.hid (size_list X)
          have HN0 := Lib.hid h0
          clear hD h0
          go_wp2_with fail
          go_quiet ((go_at_call 24; exact Calls.quiet_of_same (HD.out _)))
          go_wp2_with fail
          go_roundw
          case rel => exact ⟨k + 1, _, by omega, by go_num, rfl, by
            rw [HN.out]; unfold partOf; rw [if_neg HN0.out]
            simp only [app_list, HDL.out, ← HXD.out, HXS.out]; simp, Bl.drewN hB1 _⟩
          case measure => simp [intOf]; omega
      · have HE := Lib.hid (show ns.take k = ns from List.take_of_length_le (by omega))
        rw [HE.out] at hS
        have HS := Lib.hid hS
        clear HE hS
        go_wp2_with fail
        go_ret
        exact ⟨by rw [← HS.out]; rfl, hB⟩
end Go.Proofs.YtcnipjmeillfeaaDoor.Vr
