/-
  gatepostref04.Get: what it returns. Condition: fields of at most 2^20 bytes in all.
-/
import Derived.Test.YtcnipjmeillfeaaDoorFdGet
import Derived.Test.YtcnipjmeillfeaaDoorTokRefLower
namespace Go.Proofs.YtcnipjmeillfeaaDoor.Fd
open Go.RowKit Tk
set_option linter.unusedVariables false

theorem bytes_of {X : ByteArray} {l : Bs} (h : X.data.toList = l) : X = ⟨l.toArray⟩ := by subst h; cases X; rfl
theorem size_of {X : ByteArray} {l : Bs} (h : X.data.toList = l) : X.size = l.length := by subst h; simp

set_option maxHeartbeats 4000000 in
theorem refGet_any (v : Value) (fs : List Fl) (nm : ByteArray) (w : World) (hf : Flds w v fs) (ht : tot fs ≤ 1048576) (hn : nm.size ≤ maxLen) :
    Calls Tryd.prog 14 #[v, .string nm] w fun e w' => e = .returned (getVal fs nm.data.toList) ∧ Below w.heap.size w w' := by
  rcases hf with ⟨rfl, a, cap, rfl⟩ | ⟨b, off, cap, rfl, hlt, hc⟩
  · go_enter Tryd.func14, Tryd.ntmps14
    go_wp2_with fail
    refine wp_loop_rounds 1 ?_
    rw [rounds_succ]
    go_wp2_with fail
    go_ret2
    exact ⟨rfl, Below.refl _ _⟩
  · have HC := Lib.hid hc
    have hlen := tot_len fs
    clear hc
    go_enter Tryd.func14, Tryd.ntmps14
    go_wp2_with fail
    go_loopw [6, 7, 8] (fun s m i wr => ∃ (k : Nat) (X : ByteArray), k ≤ fs.length ∧ i = .int .i64 (k : Int) ∧ m = .int .i64 (getN (fs.take k) nm.data.toList : Int) ∧ s = .string X ∧
      X.data.toList = getT (fs.take k) nm.data.toList ∧ Below w.heap.size w wr) (fun _ _ i _ => fs.length - (intOf i).toNat)
    case atStart => exact ⟨0, ⟨#[]⟩, Nat.zero_le _, rfl, rfl, rfl, rfl, Below.refl _ _⟩
    case round =>
      obtain ⟨k, X, hk, rfl, rfl, rfl, hX, hB⟩ := hrel
      have hXs := size_of hX
      have HX := Lib.hid hX
      clear hX
      have hsz := hB.size
      by_cases hlt2 : k < fs.length
      · have hx2 := tot_at fs k hlt2
        have hgl := getT_length (fs.take k) nm.data.toList
        have htk := tot_take fs k
        have hXz : X.size ≤ 2097152 := by omega
        have hS := Lib.hid (has_same nm fs[k])
        have HC1 := Lib.hid (show ∀ W : World, Below w.heap.size w W → W.cell? ⟨b, off + k * 2, none⟩ = some (.string fs[k].1) ∧ W.cell? ⟨b, off + k * 2 + 1, none⟩ = some (.string fs[k].2) from
          fun W hW => ⟨(hW.cell (p := ⟨b, off + k * 2, none⟩) hlt).trans (HC.out k hlt2).1, (hW.cell (p := ⟨b, off + k * 2 + 1, none⟩) hlt).trans (HC.out k hlt2).2⟩)
        clear hXs
        cases hh : has nm.data.toList fs[k] with
        | false =>
          have HN := Lib.hid (get_next_no fs nm.data.toList k hlt2 hh)
          have HH := Lib.hid (hS.out.trans hh)
          obtain ⟨x, hx⟩ : ∃ x, x = fs[k].1 := ⟨_, rfl⟩
          rw [← hx] at HH hx2 HC1
          have c1 := (HC1.out wr hB).1
          clear hx hh hS
          go_wp2_with fail
          refine (refSame_any x nm _ (by unfold maxLen; omega) hn).mono ?_
          rintro e w1 ⟨rfl, hb1⟩
          rw [HH.out]
          have hB1 := hB.trans (hb1.mono hsz)
          clear hb1 c1
          go_wp2_with fail
          go_roundw
          case rel => exact ⟨k + 1, X, by omega, by go_num, by rw [HN.out.2], rfl, by rw [HN.out.1]; exact HX.out, hB1⟩
          case measure => simp [intOf]; omega
        | true =>
          have HN := Lib.hid (getN_next_yes fs nm.data.toList k hlt2 hh)
          have HH := Lib.hid (hS.out.trans hh)
          have hle := getN_le (fs.take k) nm.data.toList
          have hlk : (fs.take k).length ≤ k := List.length_take_le _ _
          obtain ⟨n, hn'⟩ : ∃ n, n = getN (fs.take k) nm.data.toList := ⟨_, rfl⟩
          have hnk : n ≤ fs.length := by omega
          by_cases h0 : n = 0
          · have HT := Lib.hid (getT_next_first fs nm.data.toList k hlt2 hh (by rw [← hn', h0]))
            have HT0 := Lib.hid (show getT (fs.take k) nm.data.toList = [] from by
              have h : (sel (fs.take k) nm.data.toList).length = 0 := by show getN _ _ = 0; omega
              unfold getT; rw [List.length_eq_zero_iff.1 h]; rfl)
            have d0 : decide (0 < n) = false := by rw [decide_eq_false_iff_not]; omega
            rw [← hn'] at HN
            rw [← hn']
            obtain ⟨x, hx⟩ : ∃ x, x = fs[k].1 := ⟨_, rfl⟩
            obtain ⟨y, hy⟩ : ∃ y, y = fs[k].2 := ⟨_, rfl⟩
            rw [← hx] at HH hx2 HC1
            rw [← hy] at hx2 HT HC1
            have c1 := (HC1.out wr hB).1
            clear hx hy hh hS hn' h0 hle
            go_wp2_with fail
            refine (refSame_any x nm _ (by unfold maxLen; omega) hn).mono ?_
            rintro e w1 ⟨rfl, hb1⟩
            rw [HH.out]
            have hB1 := hB.trans (hb1.mono hsz)
            have c2 := (HC1.out w1 hB1).2
            clear hb1 c1
            go_wp2_with fail
            go_roundw
            case rel => exact ⟨k + 1, X ++ y, by omega, by go_num, by rw [HN.out]; go_num, rfl, by rw [HT.out, ByteArray.data_append, Array.toList_append, HX.out, HT0.out]; rfl, hB1⟩
            case measure => simp [intOf]; omega
          · have HT := Lib.hid (getT_next_more fs nm.data.toList k hlt2 hh (by rw [← hn']; exact h0))
            have d0 : decide (0 < n) = true := by rw [decide_eq_true_eq]; omega
            rw [← hn'] at HN
            rw [← hn']
            obtain ⟨x, hx⟩ : ∃ x, x = fs[k].1 := ⟨_, rfl⟩
            obtain ⟨y, hy⟩ : ∃ y, y = fs[k].2 := ⟨_, rfl⟩
            rw [← hx] at HH hx2 HC1
            rw [← hy] at hx2 HT HC1
            have c1 := (HC1.out wr hB).1
            clear hx hy hh hS hn' h0 hle
            go_wp2_with fail
            refine (refSame_any x nm _ (by unfold maxLen; omega) hn).mono ?_
            rintro e w1 ⟨rfl, hb1⟩
            rw [HH.out]
            have hB1 := hB.trans (hb1.mono hsz)
            have c2 := (HC1.out w1 hB1).2
            clear hb1 c1
            go_wp2_with fail
            go_roundw
            case rel => exact ⟨k + 1, X ++ ⟨#[44, 32]⟩ ++ y, by omega, by go_num, by rw [HN.out]; go_num, rfl, by rw [HT.out, ByteArray.data_append, Array.toList_append, ByteArray.data_append, Array.toList_append, HX.out], hB1⟩
            case measure => simp [intOf]; omega
      · have HE := Lib.hid (show fs.take k = fs from List.take_of_length_le (by omega))
        rw [HE.out]
        rw [HE.out] at HX
        have HV := Lib.hid (bytes_of HX.out)
        clear hXs
        go_wp2_with fail
        go_ret2
        exact ⟨by unfold getVal; rw [← HV.out]; rfl, hB⟩
end Go.Proofs.YtcnipjmeillfeaaDoor.Fd
