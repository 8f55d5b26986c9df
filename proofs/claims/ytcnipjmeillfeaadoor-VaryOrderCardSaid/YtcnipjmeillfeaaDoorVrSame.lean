/-
  vary.Same: what it returns. Conditions: as vary.Key's, for both lists of fields.
-/
import Derived.Test.YtcnipjmeillfeaaDoorVrKey
namespace Go.Proofs.YtcnipjmeillfeaaDoor.Vr
open Go.RowKit Go.Proofs.YtcnipjmeillfeaaDoor.Tk Go.Proofs.YtcnipjmeillfeaaDoor.Fd Go.Proofs.YtcnipjmeillfeaaDoor.Ct Go.Proofs.YtcnipjmeillfeaaDoor.Hd
set_option linter.unusedVariables false

theorem strs_one {w : World} {g : Nat} {x : ByteArray} (h : w.heap[g]? = some (.cells #[.string x] 9 (0, 0))) : Strs w (.slice (some ⟨g, 0, none⟩) 1 1) [x] := by
  refine .inr ⟨_, 0, 1, rfl, block_lt h, fun j hj => ?_⟩
  have : j = 0 := by simpa using hj
  subst this
  rw [Nat.zero_add, Lib.cell_of_heap h]; rfl
def alikeV (a b : List Fl) (x : ByteArray) : Bool := decide (keyOf a (nmsL [x]) = keyOf b (nmsL [x]))
def sameV (a b : List Fl) (ns : List ByteArray) : Bool := ns.all (alikeV a b)
theorem alike_iff (a b : List Fl) (x : ByteArray) : alikeV a b x = true ↔ getT a x.data.toList = getT b x.data.toList ∧ (getN a x.data.toList = 0 ↔ getN b x.data.toList = 0) := by
  unfold alikeV
  rw [decide_eq_true_iff, key_one]
  simp [nmsL]
theorem same_keys (a b : List Fl) (ns : List ByteArray) : sameV a b ns = decide (keyOf a (nmsL ns) = keyOf b (nmsL ns)) := by
  rw [Bool.eq_iff_iff, decide_eq_true_iff, key_one]
  unfold sameV
  rw [List.all_eq_true]
  constructor
  · intro h nm hnm
    obtain ⟨x, hx, rfl⟩ := List.mem_map.1 hnm
    exact (alike_iff a b x).1 (h x hx)
  · intro h x hx
    exact (alike_iff a b x).2 (h _ (List.mem_map.2 ⟨x, hx, rfl⟩))
theorem same_next (a b : List Fl) (ns : List ByteArray) (k : Nat) (h : k < ns.length) (h1 : sameV a b (ns.take k) = true) (h2 : alikeV a b ns[k] = true) : sameV a b (ns.take (k + 1)) = true := by
  unfold sameV at h1 ⊢
  rw [take_next ns k h, List.all_append, h1]; simp [h2]
theorem same_no (a b : List Fl) (ns : List ByteArray) (k : Nat) (h : k < ns.length) (h2 : alikeV a b ns[k] = false) : sameV a b ns = false := by
  unfold sameV; rw [List.all_eq_false]; exact ⟨ns[k], List.getElem_mem h, by simp [h2]⟩

set_option maxHeartbeats 4000000 in
theorem vsame_any (v va vb : Value) (ns : List ByteArray) (fa fb : List Fl) (w : World) (hs : Strs w v ns) (ha : Flds w va fa) (hb : Flds w vb fb) (hta : tot fa ≤ 1048576) (htb : tot fb ≤ 1048576) (hz : ∀ s ∈ ns, s.size ≤ 1048576) (hn : ns.length ≤ 1048576) (hP : Tb.P10 w) :
    Calls Tryd.prog 12 #[v, va, vb] w fun e w' => e = .returned (.bool (sameV fa fb ns)) ∧ Below w.heap.size w w' := by
  rcases strs_form hs with ⟨rfl, a, cap, rfl⟩ | ⟨b, off, cap, rfl, h0, hlt, hc⟩
  · clear hs ha hb hz hn hta htb hP
    go_enter Tryd.func12, Tryd.ntmps12
    go_wp2_with fail
    refine wp_loop_rounds 1 ?_
    rw [rounds_succ]
    go_wp2_with fail
    go_ret
    exact ⟨rfl, Below.refl _ _⟩
  · have HC := Lib.hid hc
    have HA := Lib.hid ha
    have HB := Lib.hid hb
    have HP := Lib.hid hP
    have HZ := Lib.hid hz
    clear hs hc ha hb hz hP
    go_enter Tryd.func12, Tryd.ntmps12
    go_wp2_with fail
    go_loopw [12] (fun i wr => ∃ k : Nat, k ≤ ns.length ∧ i = .int .i64 (k : Int) ∧ sameV fa fb (ns.take k) = true ∧ Below w.heap.size w wr) (fun i _ => ns.length - (intOf i).toNat)
    case atStart => exact ⟨0, Nat.zero_le _, rfl, rfl, Below.refl _ _⟩
    case round =>
      obtain ⟨k, hk, rfl, hsm, hBl⟩ := hrel
      have HSM := Lib.hid hsm
      clear hsm
      have hsz := hBl.size
      by_cases hlt2 : k < ns.length
      · have c1 : wr.cell? ⟨b, off + k, none⟩ = some (.string ns[k]) := (hBl.cell (p := ⟨b, off + k, none⟩) hlt).trans (HC.out k hlt2)
        have hxs : ns[k].size ≤ 1048576 := HZ.out _ (List.getElem_mem hlt2)
        have HN := Lib.hid (fun h => same_next fa fb ns k hlt2 HSM.out h)
        have HO := Lib.hid (fun h => same_no fa fb ns k hlt2 h)
        obtain ⟨x, hx⟩ : ∃ x, x = ns[k] := ⟨_, rfl⟩
        rw [← hx] at c1 hxs HN HO
        obtain ⟨A, hA⟩ : ∃ A : ByteArray, A = ⟨(keyOf fa (nmsL [x])).toArray⟩ := ⟨_, rfl⟩
        obtain ⟨C, hC⟩ : ∃ C : ByteArray, C = ⟨(keyOf fb (nmsL [x])).toArray⟩ := ⟨_, rfl⟩
        have HV := Lib.hid (show (A = C) ↔ alikeV fa fb x = true from by
          rw [hA, hC]; unfold alikeV; rw [decide_eq_true_iff]
          constructor
          · intro h; injection h with h; injection h
          · intro h; rw [h])
        have HX := Lib.hid (show ∀ s ∈ [x], s.size ≤ 1048576 from fun s hs => by simp at hs; rw [hs]; exact hxs)
        have hB1 := hBl.alloc hsz (.cells #[.string x] 9)
        have HS1 := Lib.hid (strs_one (new_block wr (.cells #[.string x] 9)))
        have HA1 := Lib.hid (HA.out.below hB1 (Nat.le_refl _))
        have HB1 := Lib.hid (HB.out.below hB1 (Nat.le_refl _))
        have HP1 := Lib.hid (p10_below HP.out hB1 (Nat.le_refl _))
        have HAk := Lib.hid (key_any _ va [x] fa _ HS1.out HA1.out hta HX.out (by simp) HP1.out)
        rw [← hA] at HAk
        clear hx hA HC HA HZ HSM HA1
        go_wp2_with fail
        refine HAk.out.mono ?_
        rintro e w1 ⟨rfl, hb1⟩
        have hB2 := hB1.trans (hb1.mono hB1.size)
        have HCk := Lib.hid (key_any _ vb [x] fb _ (HS1.out.below hb1 (Nat.le_refl _)) (HB1.out.below hb1 (Nat.le_refl _)) htb HX.out (by simp) (p10_below HP1.out hb1 (Nat.le_refl _)))
        rw [← hC] at HCk
        clear hC hb1 HAk HS1 HB1 HP1 hB1
        go_wp2_with fail
        refine HCk.out.mono ?_
        rintro e w2 ⟨rfl, hb2⟩
        have hB3 := hB2.trans (hb2.mono hB2.size)
        clear hb2 HCk hB2
        cases hal : alikeV fa fb x with
        | true =>
          have hAC : A = C := HV.out.2 hal
          subst hAC
          have HN2 := Lib.hid (HN.out hal)
          clear HN HO HV hal
          go_wp2_with fail
          go_roundw
          case rel => exact ⟨k + 1, by omega, by go_num, HN2.out, hB3⟩
          case measure => simp [intOf]; omega
        | false =>
          have hAC : (A.toList == C.toList) = false := by
            rw [beq_eq_false_iff_ne, ByteArray.toList_eq, ByteArray.toList_eq]
            intro h
            rw [HV.out.1 (ByteArray.ext (Array.toList_inj.1 h))] at hal; cases hal
          have HO2 := Lib.hid (HO.out hal)
          clear HN HO HV hal
          go_wp2_with fail
          go_ret
          exact ⟨by rw [HO2.out]; rfl, hB3⟩
      · have HE := Lib.hid (show ns.take k = ns from List.take_of_length_le (by omega))
        rw [HE.out] at HSM
        clear HE
        go_wp2_with fail
        go_ret
        exact ⟨by rw [HSM.out]; rfl, hBl⟩
end Go.Proofs.YtcnipjmeillfeaaDoor.Vr
