/-
  field.Get: what it returns. Condition: fields of at most 2^20 bytes in all.
-/
import Derived.Test.YtcnipjmeillfeaaDoorFdBuilder
import Derived.Test.YtcnipjmeillfeaaDoorFdFlds
import Derived.Test.YtcnipjmeillfeaaDoorTokLower
namespace Go.Proofs.YtcnipjmeillfeaaDoor.Fd
open Go.RowKit Tk
set_option linter.unusedVariables false

abbrev TB : TypeId := 50
abbrev TU : TypeId := 5
/-- What Get answers. -/
def getVal (fs : List Fl) (nm : Bs) : Value := .tuple #[.string ⟨(getT fs nm).toArray⟩, .int .i64 (getN fs nm : Int)]
theorem has_same (nm : ByteArray) (f : Fl) : same f.1.data.toList nm.data.toList = has nm.data.toList f := rfl
theorem isB_drewN {T e : TypeId} {B b : Nat} {bs : List Value} {w : World} (h : Lib.IsBuilderF T e B b bs w) (n : Nat) : Lib.IsBuilderF T e B b bs (w.drewN n) := h
theorem other_field {b : Nat} {w w' : World} (h : Lib.OthersKept 5 (some b) w w') {g : Nat} {cs : Array Value} (hg : w.heap[g]? = some (.cells cs 37 (0, 0))) (hb : g ≠ b) : w'.heap[g]? = some (.cells cs 37 (0, 0)) :=
  h g _ hg (by intro e; injection e with e; exact hb e) (fun c fz e => by injection e with _ e _; exact absurd e (by decide))
theorem builder_new (w : World) : Lib.IsBuilderF 50 5 w.heap.size w.heap.size (Lib.byteCells []) (w.alloc (.cells #[.pointer none, .slice none 0 0] 50)) := Lib.IsBuilderF.of (Lib.fresh_isBuilder _ _ w)
theorem cells_add (l : Bs) (s : ByteArray) : Lib.byteCells l ++ Lib.strCells s = Lib.byteCells (l ++ s.data.toList) := by rw [Lib.strCells_eq, Lib.byteCells_append]
theorem cells_len (l : Bs) : (Lib.byteCells l).length = l.length := Lib.byteCells_length l

set_option maxHeartbeats 4000000 in
theorem get_any (v : Value) (fs : List Fl) (nm : ByteArray) (w : World) (hf : Flds w v fs) (ht : tot fs ≤ 1048576) (hn : nm.size ≤ maxLen) :
    Calls Tryd.prog 21 #[v, .string nm] w fun e w' => e = .returned (getVal fs nm.data.toList) ∧ Below w.heap.size w w' := by
  rcases hf with ⟨rfl, a, cap, rfl⟩ | ⟨b, off, cap, rfl, hlt, hc⟩
  · go_enter Tryd.func21, Tryd.ntmps21
    go_wp2_with fail
    refine wp_loop_rounds 1 ?_
    rw [rounds_succ]
    go_wp2_with fail
    refine (builder_string w.heap.size w.heap.size [] _ (builder_new w) (by simp)).mono ?_
    rintro e w1 ⟨rfl, hb1⟩
    go_wp2_with fail
    go_ret2
    exact ⟨rfl, ((Below.refl _ _).alloc (Nat.le_refl _) _).trans hb1⟩
  · have HC := Lib.hid hc
    have hlen := tot_len fs
    have HB0 := Lib.hid (builder_new w)
    clear hc
    go_enter Tryd.func21, Tryd.ntmps21
    go_wp2_with fail
    go_loopw [7, 12] (fun m i wr => ∃ k : Nat, k ≤ fs.length ∧ i = .int .i64 (k : Int) ∧ m = .int .i64 (getN (fs.take k) nm.data.toList : Int) ∧
      Lib.IsBuilderF 50 5 w.heap.size w.heap.size (Lib.byteCells (getT (fs.take k) nm.data.toList)) wr ∧ Below w.heap.size w wr) (fun _ i _ => fs.length - (intOf i).toNat)
    case atStart => exact ⟨0, Nat.zero_le _, rfl, rfl, HB0.out, (Below.refl _ _).alloc (Nat.le_refl _) _⟩
    case round =>
      obtain ⟨k, hk, rfl, rfl, hI, hB⟩ := hrel
      have HI := Lib.hid hI
      clear hI HB0
      have hsz := hB.size
      have hltb : w.heap.size < wr.heap.size := by rcases HI.out with h | h <;> exact h.lt
      by_cases hlt2 : k < fs.length
      · have c1 : wr.cell? ⟨b, off + k * 2, none⟩ = some (.string fs[k].1) := (hB.cell (p := ⟨b, off + k * 2, none⟩) hlt).trans (HC.out k hlt2).1
        have c2 : wr.cell? ⟨b, off + k * 2 + 1, none⟩ = some (.string fs[k].2) := (hB.cell (p := ⟨b, off + k * 2 + 1, none⟩) hlt).trans (HC.out k hlt2).2
        have hx2 := tot_at fs k hlt2
        have hgl := getT_length (fs.take k) nm.data.toList
        have htk := tot_take fs k
        have hS := Lib.hid (has_same nm fs[k])
        cases hh : has nm.data.toList fs[k] with
        | false =>
          have HN := Lib.hid (get_next_no fs nm.data.toList k hlt2 hh)
          have HH := Lib.hid (hS.out.trans hh)
          obtain ⟨x, hx⟩ : ∃ x, x = fs[k].1 := ⟨_, rfl⟩
          obtain ⟨y, hy⟩ : ∃ y, y = fs[k].2 := ⟨_, rfl⟩
          rw [← hx] at c1 HH hx2
          rw [← hy] at c2 hx2
          clear hx hy hh hS
          go_wp2_with fail
          refine (same_any x nm _ (by unfold maxLen; omega)).mono ?_
          rintro e w1 ⟨rfl, n1, hw1⟩
          rw [HH.out]
          have hB1 := Bl.drewN' (hB.alloc hsz _) hw1
          have HI1 := Lib.hid (show Lib.IsBuilderF 50 5 w.heap.size w.heap.size (Lib.byteCells (getT (fs.take k) nm.data.toList)) w1 from by rw [hw1]; exact isB_drewN (HI.out.alloc _) n1)
          clear hw1
          go_wp2_with fail
          go_roundw
          case rel => exact ⟨k + 1, by omega, by go_num, by rw [HN.out.2], by rw [HN.out.1]; exact HI1.out, hB1⟩
          case measure => simp [intOf]; omega
        | true =>
          have HN := Lib.hid (getN_next_yes fs nm.data.toList k hlt2 hh)
          have HH := Lib.hid (hS.out.trans hh)
          have hle := getN_le (fs.take k) nm.data.toList
          have hlk : (fs.take k).length ≤ k := List.length_take_le _ _
          obtain ⟨n, hn'⟩ : ∃ n, n = getN (fs.take k) nm.data.toList := ⟨_, rfl⟩
          have hnk : n ≤ fs.length := by omega
          by_cases h0 : n = 0
          · have HT := Lib.hid (getT_next_first fs nm.data.toList k hlt2 hh (by rw [← hn', h0]))
            have HT0 := Lib.hid (show getT (fs.take k) nm.data.toList = [] from by
              have h : (sel (fs.take k) nm.data.toList).length = 0 := by show getN _ _ = 0; omega
              unfold getT; rw [List.length_eq_zero_iff.1 h]; rfl)
            have d0 : decide (0 < n) = false := by rw [decide_eq_false_iff_not]; omega
            rw [← hn'] at HN
            rw [← hn']
            obtain ⟨x, hx⟩ : ∃ x, x = fs[k].1 := ⟨_, rfl⟩
            obtain ⟨y, hy⟩ : ∃ y, y = fs[k].2 := ⟨_, rfl⟩
            rw [← hx] at c1 HH hx2
            rw [← hy] at c2 hx2 HT
            clear hx hy hh hS hn' h0 hle
            go_wp2_with fail
            refine (same_any x nm _ (by unfold maxLen; omega)).mono ?_
            rintro e w1 ⟨rfl, n1, hw1⟩
            rw [HH.out]
            have hB1 := Bl.drewN' (hB.alloc hsz (.cells #[.string x, .string y] 37)) hw1
            have HI1 := Lib.hid (show Lib.IsBuilderF 50 5 w.heap.size w.heap.size (Lib.byteCells []) w1 from by have h := HI.out; rw [HT0.out] at h; rw [hw1]; exact isB_drewN (h.alloc _) n1)
            have hr1 : w1.heap[wr.heap.size]? = some (.cells #[.string x, .string y] 37 (0, 0)) := by rw [hw1]; exact new_block _ _
            have e0 := two0 hr1
            have e1 := two1 hr1
            clear hw1
            go_wp2_with fail
            refine (writeString_any w.heap.size w.heap.size _ y _ HI1.out (by simp [Lib.byteCells]; omega) hB1.size).mono ?_
            rintro e w2 ⟨rfl, hI2, hb2, _⟩
            have hB2 := hB1.trans hb2
            rw [cells_add] at hI2
            have HI2 := Lib.hid hI2
            clear hI2 hb2 e0 e1 hr1
            go_wp2_with fail
            go_roundw
            case rel => exact ⟨k + 1, by omega, by go_num, by rw [HN.out]; go_num, by rw [HT.out]; exact .inr HI2.out, hB2⟩
            case measure => simp [intOf]; omega
          · have HT := Lib.hid (getT_next_more fs nm.data.toList k hlt2 hh (by rw [← hn']; exact h0))
            have d0 : decide (0 < n) = true := by rw [decide_eq_true_eq]; omega
            rw [← hn'] at HN
            rw [← hn']
            obtain ⟨x, hx⟩ : ∃ x, x = fs[k].1 := ⟨_, rfl⟩
            obtain ⟨y, hy⟩ : ∃ y, y = fs[k].2 := ⟨_, rfl⟩
            rw [← hx] at c1 HH hx2
            rw [← hy] at c2 hx2 HT
            clear hx hy hh hS hn' h0 hle
            go_wp2_with fail
            refine (same_any x nm _ (by unfold maxLen; omega)).mono ?_
            rintro e w1 ⟨rfl, n1, hw1⟩
            rw [HH.out]
            have hB1 := Bl.drewN' (hB.alloc hsz (.cells #[.string x, .string y] 37)) hw1
            have HI1 := Lib.hid (show Lib.IsBuilderF 50 5 w.heap.size w.heap.size (Lib.byteCells (getT (fs.take k) nm.data.toList)) w1 from by rw [hw1]; exact isB_drewN (HI.out.alloc _) n1)
            have hr1 : w1.heap[wr.heap.size]? = some (.cells #[.string x, .string y] 37 (0, 0)) := by rw [hw1]; exact new_block _ _
            clear hw1
            go_wp2_with fail
            refine (writeString_any w.heap.size w.heap.size _ ⟨#[44, 32]⟩ _ HI1.out (by rw [cells_len]; show _ + 2 ≤ _; omega) hB1.size).mono ?_
            rintro e w2 ⟨rfl, hI2, hb2, hk2⟩
            have hB2 := hB1.trans hb2
            rw [cells_add] at hI2
            have HI2 := Lib.hid hI2
            have hr2 := other_field hk2 hr1 (by omega)
            have e0 := two0 hr2
            have e1 := two1 hr2
            clear hI2 hb2 hr1 hk2
            go_wp2_with fail
            refine (writeString_any w.heap.size w.heap.size _ y _ (.inr HI2.out) (by rw [cells_len, List.length_append]; show _ + 2 + _ ≤ _; omega) hB2.size).mono ?_
            rintro e w3 ⟨rfl, hI3, hb3, _⟩
            have hB3 := hB2.trans hb3
            rw [cells_add] at hI3
            have HI3 := Lib.hid hI3
            clear hI3 hb3 e0 e1 hr2
            go_wp2_with fail
            go_roundw
            case rel => exact ⟨k + 1, by omega, by go_num, by rw [HN.out]; go_num, by rw [HT.out]; exact .inr HI3.out, hB3⟩
            case measure => simp [intOf]; omega
      · have HE := Lib.hid (show fs.take k = fs from List.take_of_length_le (by omega))
        rw [HE.out]
        rw [HE.out] at HI
        go_wp2_with fail
        refine (builder_string w.heap.size w.heap.size _ _ HI.out hsz).mono ?_
        rintro e w1 ⟨rfl, hb1⟩
        have hB1 := hB.trans hb1
        go_wp2_with fail
        go_ret2
        exact ⟨rfl, hB1⟩
end Go.Proofs.YtcnipjmeillfeaaDoor.Fd
