/-
  Texts that the laws' proofs stand on, 3 of them in one file; each one's head says what it proves and under which condition.
-/
import Derived.Test.YtjbdgndejbiikaaDoorSgBP7
import Derived.Shelf.Strings.BuilderK
import Derived.Test.YtjbdgndejbiikaaDoorSgBP8
import Derived.Test.YtjbdgndejbiikaaDoorSgBP23
/-
  strings.Builder: copyCheck and WriteString walked, String by the library's contract at this translation. Condition: a text of at most 2^47 bytes.
-/
namespace Go.Proofs.YtjbdgndejbiikaaDoor.Fd
open Go.Shelf Go.RowKit
def lays169_ren : Go.Shelf.Ren := ⟨fun | 169 => 41 | n => n, fun | 70 => 76 | 9 => 9 | 0 => 0 | 72 => 79 | 37 => 77 | 127 => 107 | 3 => 3 | 5 => 5 | n => n, fun | n => n⟩
theorem lays169 : Go.Proofs.Lays.n169 Tryd.prog lays169_ren := {
  mixed := by kernel_rfl
  f169 := Tryd.func41.trans (congrArg some (by kernel_rfl))
  t0 := Tryd.underlying0
  a0 := Tryd.isAgg0
  z0 := Tryd.sizeOf0
  v0 := Tryd.zeroValue0
  t3 := Tryd.underlying3
  a3 := Tryd.isAgg3
  z3 := Tryd.sizeOf3
  v3 := Tryd.zeroValue3
  t9 := Tryd.underlying9
  a9 := Tryd.isAgg9
  z9 := Tryd.sizeOf9
  v9 := Tryd.zeroValue9
  t37 := Tryd.underlying77
  a37 := Tryd.isAgg77
  z37 := Tryd.sizeOf77
  v37 := Tryd.zeroValue77
  t70 := Tryd.underlying76
  a70 := Tryd.isAgg76
  z70 := Tryd.sizeOf76
  v70 := Tryd.zeroValue76
  t72 := Tryd.underlying79
  a72 := Tryd.isAgg79
  z72 := Tryd.sizeOf79
  v72 := Tryd.zeroValue79
  t127 := Tryd.underlying107
  a127 := Tryd.isAgg107
  z127 := Tryd.sizeOf107
  v127 := Tryd.zeroValue107 }
theorem Builder_Extra_169 : Builder.Extra Tryd.prog lays169_ren := {
  sizeBuilder := by kernel_rfl
  liesBuilder := by kernel_rfl
  t5 := Tryd.underlying5
  a5 := Tryd.isAgg5
  z5 := Tryd.sizeOf5
  v5 := Tryd.zeroValue5
  infoByte := by kernel_rfl
  cellsByte := by kernel_rfl
  sizeByte := by kernel_rfl
  neB5 := by decide }

theorem builder_string (B b : Nat) (l : List UInt8) (w : World) (h : Lib.IsBuilderF 79 5 B b (Lib.byteCells l) w) (hBw : B ≤ w.heap.size) :
    Calls Tryd.prog 41 #[.pointer (some ⟨b, 0, none⟩)] w fun e w' => e = .returned (.string ⟨l.toArray⟩) ∧ Below B w w' :=
  (Any.Builder_String_any_k lays169 Builder_Extra_169 B b l w h hBw).mono fun _ _ ⟨he, _, hb, _⟩ => ⟨he, hb⟩

theorem sizeBuilder : (Tryd.prog.info? 79).map (·.size) = some 2 := by kernel_rfl
theorem liesBuilder : liesAt Tryd.prog Tryd.prog.depth 79 (2 / Tryd.prog.cellsOf 79) 0 79 1 = true := by kernel_rfl
theorem infoU8 : (Tryd.prog.info? 5).map (fun i => (i.zero, i.size, i.bytes)) = some (some (.int .u8 0), 1, 1) := by kernel_rfl
/-- The address handed through NoEscape. -/
theorem run_same (x : Value) (W : World) : (callFunc 66 #[x]).run Tryd.prog W = .ok (.value x) W := by
  rw [run_callFunc_extern Tryd.func66 (by kernel_rfl) (by kernel_rfl) (by kernel_rfl) (e := Extern.AbiNoEscape.same) (by kernel_rfl), Lib.run_noEscape]
  rfl
/-- What a writing call leaves: the builder marked with its own address and these bytes in it; below it, and beside it, all as it was. -/
def Wrote (B b : Nat) (bs : List Value) (w w' : World) : Prop :=
  Lib.BuilderAtF 79 5 B b (.pointer (some ⟨b, 0, none⟩)) bs w' ∧ Below B w w' ∧ Lib.OthersKept 5 (some b) w w'

set_option maxHeartbeats 1000000 in
set_option maxRecDepth 100000 in
theorem copyCheck_any (B b : Nat) (bs : List Value) (w : World) (h : Lib.IsBuilderF 79 5 B b bs w) :
    Calls Tryd.prog 55 #[.pointer (some ⟨b, 0, none⟩)] w fun e w' => e = .returned (.tuple #[]) ∧ Wrote B b bs w w' := by
  obtain ⟨j, hj, hjs⟩ := Option.map_eq_some_iff.1 sizeBuilder
  rcases h with h | h
  · have c0 := h.cell0
    have f0 := h.frozen0
    have r1 := Lib.run_to_unsafe w ⟨b, 0, none⟩ Tryd.underlying76 Tryd.underlying124 hj (by rw [hjs]; decide) h.shape (Nat.zero_lt_succ 1)
    have r2 := run_same (.pointer (some ⟨b, 0, none⟩)) w
    have r3 := Lib.run_from_unsafe w ⟨b, 0, none⟩ Tryd.underlying124 Tryd.underlying76 hj h.shape liesBuilder
    have HB := Lib.hid h
    clear h hj hjs
    go_enter Tryd.func55, Tryd.ntmps55
    go_wp2_with fail
    go_end0
    exact ⟨rfl, HB.out.used _, (Below.refl B w).setCell (p := ⟨b, 0, none⟩) HB.out.1 _, (Lib.OthersKept.refl _ _ w).setCell ⟨b, 0, none⟩ rfl _⟩
  · have c0 := h.cell0
    have r1 := Lib.run_neq_ptr_same w ⟨b, 0, none⟩ Tryd.underlying76 hj
    have HB := Lib.hid h
    clear h hj hjs
    go_enter Tryd.func55, Tryd.ntmps55
    go_wp2_with fail
    go_end0
    exact ⟨rfl, HB.out, Below.refl B _, Lib.OthersKept.refl _ _ _⟩
theorem slice_of {w : World} {B : Nat} {e : TypeId} {k : Nat} {v : Value} {n : Nat} {xs : List Value} (h : w.ownsRowF B e k v n xs) : ∃ a m c, v = .slice a m c := by
  rcases h.2 with ⟨h0, _⟩ | ⟨_, _, _, _, h0, _⟩ <;> exact ⟨_, _, _, h0⟩

set_option maxHeartbeats 2000000 in
set_option maxRecDepth 100000 in
theorem writeString_any (B b : Nat) (bs : List Value) (s : ByteArray) (w : World) (h : Lib.IsBuilderF 79 5 B b bs w) (hlen : bs.length + s.size ≤ 140737488355328) (hBw : B ≤ w.heap.size) :
    Calls Tryd.prog 40 #[.pointer (some ⟨b, 0, none⟩), .string s] w fun e w' => e = .returned (.tuple #[.int .i64 s.size, .nilIface]) ∧ Wrote B b (bs ++ Lib.strCells s) w w' := by
  obtain ⟨i0, hi, hz0, hz1, hz2⟩ := info_parts infoU8
  have HB := Lib.hid h
  clear h
  go_enter Tryd.func40, Tryd.ntmps40
  go_wp2_with fail
  refine (copyCheck_any B b bs _ HB.out).mono ?_
  rintro e x ⟨rfl, ⟨hb, v, hx, ho, hv⟩, hB, hK⟩
  have HO := Lib.hid ho
  have HX := Lib.hid hx
  have a0 := two0 hx
  have a1 := two1 hx
  have hsz := hB.size
  clear ho hx HB
  go_wp2_with (at_builtin; refine Lib.wpList_append_own_stringF _ rfl _ _ 77 9 rfl B 5 i0 Tryd.underlying77 Tryd.underlying9 hi hz0 hz1 hz2 _ _ _ rfl HO.out s rfl (by unfold maxLen; omega) (by omega) (by omega) ?_; intro u y hu hg hn; obtain ⟨ua, un, uc, hs⟩ := slice_of hu; have HY := Lib.hid ((hg.block b (block_lt HX.out) (fun e => hv e.symm)).trans HX.out); have b0 := two0 HY.out; have b1 := two1 HY.out; have f1 := free HY.out 1; rw [hs] at hu; rw [hs]; clear a0 a1 hn hs)
  go_ret2
  exact ⟨rfl, Lib.BuilderAtF.put hb HY.out (by rw [List.length_append, Lib.strCells_length]; exact hu) (by decide), (hB.grown hg (by omega) fun k hk => (HO.out.lt k hk).1).setCell (p := ⟨b, 1, none⟩) hb _, (hK.grown hg (Lib.ownsRowF_kind HO.out)).setCell ⟨b, 1, none⟩ rfl _⟩
end Go.Proofs.YtjbdgndejbiikaaDoor.Fd
/-
  field.Get: what it returns. Condition: fields of at most 2^20 bytes in all.
-/
namespace Go.Proofs.YtjbdgndejbiikaaDoor.Fd
open Go.RowKit Tk
set_option linter.unusedVariables false

abbrev TB : TypeId := 79
abbrev TU : TypeId := 5
/-- What Get answers. -/
def getVal (fs : List Fl) (nm : Bs) : Value := .tuple #[.string ⟨(getT fs nm).toArray⟩, .int .i64 (getN fs nm : Int)]
theorem has_same (nm : ByteArray) (f : Fl) : same f.1.data.toList nm.data.toList = has nm.data.toList f := rfl
theorem isB_drewN {T e : TypeId} {B b : Nat} {bs : List Value} {w : World} (h : Lib.IsBuilderF T e B b bs w) (n : Nat) : Lib.IsBuilderF T e B b bs (w.drewN n) := h
theorem other_field {b : Nat} {w w' : World} (h : Lib.OthersKept 5 (some b) w w') {g : Nat} {cs : Array Value} (hg : w.heap[g]? = some (.cells cs 27 (0, 0))) (hb : g ≠ b) : w'.heap[g]? = some (.cells cs 27 (0, 0)) :=
  h g _ hg (by intro e; injection e with e; exact hb e) (fun c fz e => by injection e with _ e _; exact absurd e (by decide))
theorem builder_new (w : World) : Lib.IsBuilderF 79 5 w.heap.size w.heap.size (Lib.byteCells []) (w.alloc (.cells #[.pointer none, .slice none 0 0] 79)) := Lib.IsBuilderF.of (Lib.fresh_isBuilder _ _ w)
theorem cells_add (l : Bs) (s : ByteArray) : Lib.byteCells l ++ Lib.strCells s = Lib.byteCells (l ++ s.data.toList) := by rw [Lib.strCells_eq, Lib.byteCells_append]
theorem cells_len (l : Bs) : (Lib.byteCells l).length = l.length := Lib.byteCells_length l

set_option maxHeartbeats 4000000 in
theorem get_any (v : Value) (fs : List Fl) (nm : ByteArray) (w : World) (hf : Flds w v fs) (ht : tot fs ≤ 1048576) (hn : nm.size ≤ maxLen) :
    Calls Tryd.prog 23 #[v, .string nm] w fun e w' => e = .returned (getVal fs nm.data.toList) ∧ Below w.heap.size w w' := by
  rcases hf with ⟨rfl, a, cap, rfl⟩ | ⟨b, off, cap, rfl, hlt, hc⟩
  · go_enter Tryd.func23, Tryd.ntmps23
    go_wp2_with fail
    refine wp_loop_rounds 1 ?_
    rw [rounds_succ]
    go_wp2_with fail
    refine (builder_string w.heap.size w.heap.size [] _ (builder_new w) (by simp)).mono ?_
    rintro e w1 ⟨rfl, hb1⟩
    go_wp2_with fail
    go_ret2
    exact ⟨rfl, ((Below.refl _ _).alloc (Nat.le_refl _) _).trans hb1⟩
  · have HC := Lib.hid hc
    have hlen := tot_len fs
    have HB0 := Lib.hid (builder_new w)
    clear hc
    go_enter Tryd.func23, Tryd.ntmps23
    go_wp2_with fail
    go_loopw [7, 12] (fun m i wr => ∃ k : Nat, k ≤ fs.length ∧ i = .int .i64 (k : Int) ∧ m = .int .i64 (getN (fs.take k) nm.data.toList : Int) ∧
      Lib.IsBuilderF 79 5 w.heap.size w.heap.size (Lib.byteCells (getT (fs.take k) nm.data.toList)) wr ∧ Below w.heap.size w wr) (fun _ i _ => fs.length - (intOf i).toNat)
    case atStart => exact ⟨0, Nat.zero_le _, rfl, rfl, HB0.out, (Below.refl _ _).alloc (Nat.le_refl _) _⟩
    case round =>
      obtain ⟨k, hk, rfl, rfl, hI, hB⟩ := hrel
      have HI := Lib.hid hI
      clear hI HB0
      have hsz := hB.size
      have hltb : w.heap.size < wr.heap.size := by rcases HI.out with h | h <;> exact h.lt
      by_cases hlt2 : k < fs.length
      · have c1 : wr.cell? ⟨b, off + k * 2, none⟩ = some (.string fs[k].1) := (hB.cell (p := ⟨b, off + k * 2, none⟩) hlt).trans (HC.out k hlt2).1
        have c2 : wr.cell? ⟨b, off + k * 2 + 1, none⟩ = some (.string fs[k].2) := (hB.cell (p := ⟨b, off + k * 2 + 1, none⟩) hlt).trans (HC.out k hlt2).2
        have hx2 := tot_at fs k hlt2
        have hgl := getT_length (fs.take k) nm.data.toList
        have htk := tot_take fs k
        have hS := Lib.hid (has_same nm fs[k])
        cases hh : has nm.data.toList fs[k] with
        | false =>
          have HN := Lib.hid (get_next_no fs nm.data.toList k hlt2 hh)
          have HH := Lib.hid (hS.out.trans hh)
          obtain ⟨x, hx⟩ : ∃ x, x = fs[k].1 := ⟨_, rfl⟩
          obtain ⟨y, hy⟩ : ∃ y, y = fs[k].2 := ⟨_, rfl⟩
          rw [← hx] at c1 HH hx2
          rw [← hy] at c2 hx2
          clear hx hy hh hS
          go_wp2_with fail
          refine (same_any x nm _ (by unfold maxLen; omega)).mono ?_
          rintro e w1 ⟨rfl, n1, hw1⟩
          rw [HH.out]
          have hB1 := Bl.drewN' (hB.alloc hsz _) hw1
          have HI1 := Lib.hid (show Lib.IsBuilderF 79 5 w.heap.size w.heap.size (Lib.byteCells (getT (fs.take k) nm.data.toList)) w1 from by rw [hw1]; exact isB_drewN (HI.out.alloc _) n1)
          clear hw1
          go_wp2_with fail
          go_roundw
          case rel => exact ⟨k + 1, by omega, by go_num, by rw [HN.out.2], by rw [HN.out.1]; exact HI1.out, hB1⟩
          case measure => simp [intOf]; omega
        | true =>
          have HN := Lib.hid (getN_next_yes fs nm.data.toList k hlt2 hh)
          have HH := Lib.hid (hS.out.trans hh)
          have hle := getN_le (fs.take k) nm.data.toList
          have hlk : (fs.take k).length ≤ k := List.length_take_le _ _
          obtain ⟨n, hn'⟩ : ∃ n, n = getN (fs.take k) nm.data.toList := ⟨_, rfl⟩
          have hnk : n ≤ fs.length := by omega
          by_cases h0 : n = 0
          · have HT := Lib.hid (getT_next_first fs nm.data.toList k hlt2 hh (by rw [← hn', h0]))
            have HT0 := Lib.hid (show getT (fs.take k) nm.data.toList = [] from by
              have h : (sel (fs.take k) nm.data.toList).length = 0 := by show getN _ _ = 0; omega
              unfold getT; rw [List.length_eq_zero_iff.1 h]; rfl)
            have d0 : decide (0 < n) = false := by rw [decide_eq_false_iff_not]; omega
            rw [← hn'] at HN
            rw [← hn']
            obtain ⟨x, hx⟩ : ∃ x, x = fs[k].1 := ⟨_, rfl⟩
            obtain ⟨y, hy⟩ : ∃ y, y = fs[k].2 := ⟨_, rfl⟩
            rw [← hx] at c1 HH hx2
            rw [← hy] at c2 hx2 HT
            clear hx hy hh hS hn' h0 hle
            go_wp2_with fail
            refine (same_any x nm _ (by unfold maxLen; omega)).mono ?_
            rintro e w1 ⟨rfl, n1, hw1⟩
            rw [HH.out]
            have hB1 := Bl.drewN' (hB.alloc hsz (.cells #[.string x, .string y] 27)) hw1
            have HI1 := Lib.hid (show Lib.IsBuilderF 79 5 w.heap.size w.heap.size (Lib.byteCells []) w1 from by have h := HI.out; rw [HT0.out] at h; rw [hw1]; exact isB_drewN (h.alloc _) n1)
            have hr1 : w1.heap[wr.heap.size]? = some (.cells #[.string x, .string y] 27 (0, 0)) := by rw [hw1]; exact new_block _ _
            have e0 := two0 hr1
            have e1 := two1 hr1
            clear hw1
            go_wp2_with fail
            refine (writeString_any w.heap.size w.heap.size _ y _ HI1.out (by simp [Lib.byteCells]; omega) hB1.size).mono ?_
            rintro e w2 ⟨rfl, hI2, hb2, _⟩
            have hB2 := hB1.trans hb2
            rw [cells_add] at hI2
            have HI2 := Lib.hid hI2
            clear hI2 hb2 e0 e1 hr1
            go_wp2_with fail
            go_roundw
            case rel => exact ⟨k + 1, by omega, by go_num, by rw [HN.out]; go_num, by rw [HT.out]; exact .inr HI2.out, hB2⟩
            case measure => simp [intOf]; omega
          · have HT := Lib.hid (getT_next_more fs nm.data.toList k hlt2 hh (by rw [← hn']; exact h0))
            have d0 : decide (0 < n) = true := by rw [decide_eq_true_eq]; omega
            rw [← hn'] at HN
            rw [← hn']
            obtain ⟨x, hx⟩ : ∃ x, x = fs[k].1 := ⟨_, rfl⟩
            obtain ⟨y, hy⟩ : ∃ y, y = fs[k].2 := ⟨_, rfl⟩
            rw [← hx] at c1 HH hx2
            rw [← hy] at c2 hx2 HT
            clear hx hy hh hS hn' h0 hle
            go_wp2_with fail
            refine (same_any x nm _ (by unfold maxLen; omega)).mono ?_
            rintro e w1 ⟨rfl, n1, hw1⟩
            rw [HH.out]
            have hB1 := Bl.drewN' (hB.alloc hsz (.cells #[.string x, .string y] 27)) hw1
            have HI1 := Lib.hid (show Lib.IsBuilderF 79 5 w.heap.size w.heap.size (Lib.byteCells (getT (fs.take k) nm.data.toList)) w1 from by rw [hw1]; exact isB_drewN (HI.out.alloc _) n1)
            have hr1 : w1.heap[wr.heap.size]? = some (.cells #[.string x, .string y] 27 (0, 0)) := by rw [hw1]; exact new_block _ _
            clear hw1
            go_wp2_with fail
            refine (writeString_any w.heap.size w.heap.size _ ⟨#[44, 32]⟩ _ HI1.out (by rw [cells_len]; show _ + 2 ≤ _; omega) hB1.size).mono ?_
            rintro e w2 ⟨rfl, hI2, hb2, hk2⟩
            have hB2 := hB1.trans hb2
            rw [cells_add] at hI2
            have HI2 := Lib.hid hI2
            have hr2 := other_field hk2 hr1 (by omega)
            have e0 := two0 hr2
            have e1 := two1 hr2
            clear hI2 hb2 hr1 hk2
            go_wp2_with fail
            refine (writeString_any w.heap.size w.heap.size _ y _ (.inr HI2.out) (by rw [cells_len, List.length_append]; show _ + 2 + _ ≤ _; omega) hB2.size).mono ?_
            rintro e w3 ⟨rfl, hI3, hb3, _⟩
            have hB3 := hB2.trans hb3
            rw [cells_add] at hI3
            have HI3 := Lib.hid hI3
            clear hI3 hb3 e0 e1 hr2
            go_wp2_with fail
            go_roundw
            case rel => exact ⟨k + 1, by omega, by go_num, by rw [HN.out]; go_num, by rw [HT.out]; exact .inr HI3.out, hB3⟩
            case measure => simp [intOf]; omega
      · have HE := Lib.hid (show fs.take k = fs from List.take_of_length_le (by omega))
        rw [HE.out]
        rw [HE.out] at HI
        go_wp2_with fail
        refine (builder_string w.heap.size w.heap.size _ _ HI.out hsz).mono ?_
        rintro e w1 ⟨rfl, hb1⟩
        have hB1 := hB.trans hb1
        go_wp2_with fail
        go_ret2
        exact ⟨rfl, hB1⟩
end Go.Proofs.YtjbdgndejbiikaaDoor.Fd
/-
  control.pragma, control.Of: what each returns. Conditions: fields of at most 2^20 bytes in all; the table of token bytes.
-/
namespace Go.Proofs.YtjbdgndejbiikaaDoor.Ct
open Go.RowKit Go.Proofs.YtjbdgndejbiikaaDoor.Tk Go.Proofs.YtjbdgndejbiikaaDoor.Fd Go.Proofs.YtjbdgndejbiikaaDoor.Hd
set_option maxRecDepth 100000
set_option linter.unusedVariables false

/-- Does the old field ask for no cached answer? -/
def pragB (fs : List Fl) : Bool := match splitOf (lower (getT fs prL)) with
  | none => false
  | some ls => ls.any (· == nca)
theorem sel_case (fs : List Fl) {a b : Bs} (h : lower a = lower b) : sel fs a = sel fs b := by
  unfold sel
  congr 2
  funext f
  unfold has
  unfold alike
  rw [h]
theorem ofOf_cc {fs : List Fl} (h : 0 < getN fs ccL) : ofOf fs = (parseOf (getT fs ccL)).1 := by unfold ofOf; rw [if_pos h]
theorem ofOf_prag {fs : List Fl} (h : ¬ 0 < getN fs ccL) (hp : pragB fs = true) : ofOf fs = { Con.zero with nc := true } := by
  unfold ofOf; rw [if_neg h]
  unfold pragB at hp
  cases hs : splitOf (lower (getT fs prL)) with
  | none => rw [hs] at hp; cases hp
  | some ls => rw [hs] at hp; simp only; rw [if_pos hp]
theorem ofOf_none {fs : List Fl} (h : ¬ 0 < getN fs ccL) (hp : pragB fs = false) : ofOf fs = Con.zero := by
  unfold ofOf; rw [if_neg h]
  unfold pragB at hp
  cases hs : splitOf (lower (getT fs prL)) with
  | none => rfl
  | some ls => rw [hs] at hp; simp only; rw [if_neg (by rw [show ls.any (· == nca) = false from hp]; decide)]
theorem parseOf_nil : parseOf [] = (.zero, true) := by kernel_rfl

set_option maxHeartbeats 4000000 in
theorem pragma_any (v : Value) (fs : List Fl) (w : World) (hf : Flds w v fs) (ht : tot fs ≤ 1048576) :
    Calls Tryd.prog 25 #[v] w fun e w' => e = .returned (.bool (pragB fs)) ∧ Below w.heap.size w w' := by
  have hgl := getT_length fs prL
  have hcs : getT fs [80, 114, 97, 103, 109, 97] = getT fs prL := by unfold getT; rw [sel_case fs (show lower [80, 114, 97, 103, 109, 97] = lower prL by decide)]
  obtain ⟨X, hX⟩ : ∃ X : ByteArray, X = ⟨(getT fs prL).toArray⟩ := ⟨_, rfl⟩
  have hXl : X.data.toList = getT fs prL := by rw [hX]
  have hXs : X.size ≤ 2097152 := by rw [hX]; show (getT fs prL).toArray.size ≤ _; rw [List.size_toArray]; omega
  obtain ⟨N, hN⟩ : ∃ N : Nat, N = getN fs [80, 114, 97, 103, 109, 97] := ⟨_, rfl⟩
  have HG := Lib.hid (show getVal fs [80, 114, 97, 103, 109, 97] = .tuple #[.string X, .int .i64 (N : Int)] from by unfold getVal; rw [hcs, hX, hN])
  obtain ⟨L, hL⟩ : ∃ L : ByteArray, L = ⟨(lower X.data.toList).toArray⟩ := ⟨_, rfl⟩
  have HL := Lib.hid hL
  have hLs : L.size ≤ 2097152 := by rw [hL]; show (lower X.data.toList).toArray.size ≤ _; rw [List.size_toArray, lower_length]; simpa using hXs
  have HLL := Lib.hid (show L.data.toList = lower (getT fs prL) from by rw [hL, hXl])
  have HF := Lib.hid hf
  clear hX hXl hN hL hcs hf
  go_enter Tryd.func25, Tryd.ntmps25
  go_wp2_with fail
  refine (get_any v fs ⟨#[80, 114, 97, 103, 109, 97]⟩ _ HF.out ht (by decide)).mono ?_
  rintro e w1 ⟨rfl, hb1⟩
  rw [HG.out]
  go_wp2_with fail
  refine (lower_any X _ (by unfold maxLen; omega)).mono ?_
  rintro e w2 ⟨rfl, hb2⟩
  rw [← HL.out]
  have HB2 := Lib.hid (Bl.next hb1 hb2)
  clear hb1 hb2
  go_wp2_with fail
  refine (split_any L _ (by omega)).mono ?_
  rintro e w3 ⟨hb3, h3⟩
  have HB3 := Lib.hid (Bl.next HB2.out hb3)
  rw [HLL.out] at h3
  rcases h3 with ⟨h3, rfl⟩ | ⟨ls, u, h3, rfl, ho⟩
  · have HP := Lib.hid (show pragB fs = false from by unfold pragB; rw [h3])
    clear h3 hb3
    go_wp2_with fail
    go_ret
    exact ⟨by rw [HP.out]; rfl, HB3.out⟩
  · have hll := split_length h3
    rw [lower_length] at hll
    have HP := Lib.hid (show pragB fs = ls.any (· == nca) from by unfold pragB; rw [h3])
    have HO := Lib.hid ho
    clear h3 hb3 ho
    go_wp2_with fail
    refine (contains_any u ls ⟨#[110, 111, 45, 99, 97, 99, 104, 101]⟩ _ _ HO.out (by omega)).mono ?_
    rintro e w4 ⟨rfl, rfl⟩
    go_wp2_with fail
    go_ret
    exact ⟨by rw [HP.out]; rfl, HB3.out⟩

/-- Nothing said but that no cached answer is wanted. -/
def Con.nc0 : Con := ⟨false, true, false, false, false, false, false, -1, -1, -1, -1, -1, -1⟩
theorem set13_nc0 (W : World) (r : Nat) : (World.setCell (World.setCell (World.setCell (World.setCell (World.setCell (World.setCell (World.setCell (World.setCell (World.setCell (World.setCell (World.setCell (World.setCell (World.setCell W ⟨r, 0, none⟩ (.bool false)) ⟨r, 1, none⟩ (.bool true)) ⟨r, 2, none⟩ (.bool false)) ⟨r, 3, none⟩ (.bool false)) ⟨r, 4, none⟩ (.bool false)) ⟨r, 5, none⟩ (.bool false)) ⟨r, 6, none⟩ (.bool false)) ⟨r, 7, none⟩ (.int .i64 (-1))) ⟨r, 8, none⟩ (.int .i64 (-1))) ⟨r, 9, none⟩ (.int .i64 (-1))) ⟨r, 10, none⟩ (.int .i64 (-1))) ⟨r, 11, none⟩ (.int .i64 (-1))) ⟨r, 12, none⟩ (.int .i64 (-1))) = set13 W r Con.nc0 := rfl
set_option maxRecDepth 100000 in
set_option maxHeartbeats 8000000 in
theorem of_any (v : Value) (fs : List Fl) (w : World) (hf : Flds w v fs) (ht : tot fs ≤ 1048576) (hT : Tab w) :
    Calls Tryd.prog 11 #[v] w fun e w' => e = .returned (.agg (cells (ofOf fs))) ∧ Below w.heap.size w w' := by
  have hgl := getT_length fs ccL
  have hcs : sel fs [67, 97, 99, 104, 101, 45, 67, 111, 110, 116, 114, 111, 108] = sel fs ccL := sel_case fs (show lower _ = lower ccL by decide)
  obtain ⟨X, hX⟩ : ∃ X : ByteArray, X = ⟨(getT fs ccL).toArray⟩ := ⟨_, rfl⟩
  have HXl := Lib.hid (show X.data.toList = getT fs ccL from by rw [hX])
  have hXs : X.size ≤ 2097152 := by rw [hX]; show (getT fs ccL).toArray.size ≤ _; rw [List.size_toArray]; omega
  obtain ⟨N, hN⟩ : ∃ N : Nat, N = getN fs ccL := ⟨_, rfl⟩
  have HG := Lib.hid (show getVal fs [67, 97, 99, 104, 101, 45, 67, 111, 110, 116, 114, 111, 108] = .tuple #[.string X, .int .i64 (N : Int)] from by unfold getVal getT getN; rw [hcs, hX, hN]; rfl)
  have HX0 := Lib.hid (show N = 0 → X.data.toList = [] from fun e => by
    rw [HXl.out]
    have h1 : (sel fs ccL).length = 0 := by rw [hN] at e; exact e
    unfold getT
    rw [List.length_eq_zero_iff.1 h1]; rfl)
  have HN := Lib.hid hN
  have HF := Lib.hid hf
  have HT := Lib.hid hT
  have hg := hT.lt
  have hbw : Below w.heap.size w (w.alloc (.cells blank13 33)) := (Below.refl _ _).alloc (Nat.le_refl _) _
  have HW := Lib.hid hbw
  clear hX hN hcs hf hT hbw
  go_enter Tryd.func11, Tryd.ntmps11
  go_wp2_with fail
  refine (get_any v fs ⟨#[67, 97, 99, 104, 101, 45, 67, 111, 110, 116, 114, 111, 108]⟩ _ (HF.out.below HW.out (Nat.le_refl _)) ht (by decide)).mono ?_
  rintro e w1 ⟨rfl, hb1⟩
  rw [HG.out]
  have hR1 := Bl.old hb1 (b := w.heap.size) (by simp) (new_block w (.cells blank13 33))
  have HB1 := Lib.hid (Bl.next HW.out hb1)
  have HR1 := Lib.hid hR1
  clear hb1 hR1
  by_cases h0 : N = 0
  · have t0 : ((N : Int) == 0) = true := by simp [h0]
    have hn0 : ¬ 0 < getN fs ccL := by rw [← HN.out]; omega
    cases hp : pragB fs with
    | true =>
      have HV := Lib.hid (ofOf_prag hn0 hp)
      have HP := Lib.hid hp
      clear hp hn0
      go_wp2_with fail
      refine (pragma_any v fs _ (HF.out.below HB1.out (Nat.le_refl _)) ht).mono ?_
      rintro e w2 ⟨rfl, hb2⟩
      rw [HP.out]
      have HR2 := Lib.hid (Bl.old hb2 (block_lt HR1.out) HR1.out)
      have HB2 := Lib.hid (Bl.next HB1.out hb2)
      clear hb2
      go_wp2_with fail
      refine (silent_any _).mono ?_
      rintro e W3 ⟨rfl, hb3⟩
      have hR3 := Bl.old hb3 (block_lt HR2.out) HR2.out
      have HB3 := Lib.hid (Bl.next HB2.out hb3)
      clear hb3
      have hal : ∀ Y, (W3.alloc (.cells Y 33)).heap[w.heap.size]? = some (.cells blank13 33 (0, 0)) := fun Y => (old_block _ _ (block_lt hR3)).trans hR3
      have HAL := Lib.hid hal
      have r0 : ∀ Y, (W3.alloc (.cells Y 33)).cell? ⟨w.heap.size, 0, none⟩ = some (.bool false) := fun Y => cellAt_of (hal Y) 0 rfl
      have r1 : ∀ Y, (W3.alloc (.cells Y 33)).cell? ⟨w.heap.size, 1, none⟩ = some (.bool false) := fun Y => cellAt_of (hal Y) 1 rfl
      have r2 : ∀ Y, (W3.alloc (.cells Y 33)).cell? ⟨w.heap.size, 2, none⟩ = some (.bool false) := fun Y => cellAt_of (hal Y) 2 rfl
      have r3 : ∀ Y, (W3.alloc (.cells Y 33)).cell? ⟨w.heap.size, 3, none⟩ = some (.bool false) := fun Y => cellAt_of (hal Y) 3 rfl
      have r4 : ∀ Y, (W3.alloc (.cells Y 33)).cell? ⟨w.heap.size, 4, none⟩ = some (.bool false) := fun Y => cellAt_of (hal Y) 4 rfl
      have r5 : ∀ Y, (W3.alloc (.cells Y 33)).cell? ⟨w.heap.size, 5, none⟩ = some (.bool false) := fun Y => cellAt_of (hal Y) 5 rfl
      have r6 : ∀ Y, (W3.alloc (.cells Y 33)).cell? ⟨w.heap.size, 6, none⟩ = some (.bool false) := fun Y => cellAt_of (hal Y) 6 rfl
      have r7 : ∀ Y, (W3.alloc (.cells Y 33)).cell? ⟨w.heap.size, 7, none⟩ = some (.int .i64 0) := fun Y => cellAt_of (hal Y) 7 rfl
      have r8 : ∀ Y, (W3.alloc (.cells Y 33)).cell? ⟨w.heap.size, 8, none⟩ = some (.int .i64 0) := fun Y => cellAt_of (hal Y) 8 rfl
      have r9 : ∀ Y, (W3.alloc (.cells Y 33)).cell? ⟨w.heap.size, 9, none⟩ = some (.int .i64 0) := fun Y => cellAt_of (hal Y) 9 rfl
      have r10 : ∀ Y, (W3.alloc (.cells Y 33)).cell? ⟨w.heap.size, 10, none⟩ = some (.int .i64 0) := fun Y => cellAt_of (hal Y) 10 rfl
      have r11 : ∀ Y, (W3.alloc (.cells Y 33)).cell? ⟨w.heap.size, 11, none⟩ = some (.int .i64 0) := fun Y => cellAt_of (hal Y) 11 rfl
      have r12 : ∀ Y, (W3.alloc (.cells Y 33)).cell? ⟨w.heap.size, 12, none⟩ = some (.int .i64 0) := fun Y => cellAt_of (hal Y) 12 rfl
      have g0 := fun Y => free (hal Y) 0
      have g1 := fun Y => free (hal Y) 1
      have g2 := fun Y => free (hal Y) 2
      have g3 := fun Y => free (hal Y) 3
      have g4 := fun Y => free (hal Y) 4
      have g5 := fun Y => free (hal Y) 5
      have g6 := fun Y => free (hal Y) 6
      have g7 := fun Y => free (hal Y) 7
      have g8 := fun Y => free (hal Y) 8
      have g9 := fun Y => free (hal Y) 9
      have g10 := fun Y => free (hal Y) 10
      have g11 := fun Y => free (hal Y) 11
      have g12 := fun Y => free (hal Y) 12
      clear hal hR3
      go_wp2_with fail
      rw [set13_nc0]
      refine bodyPost_ret (results_one rfl _ _ w.heap.size 33 _ (0, 0) _ rfl (set13_at (HAL.out _) Con.nc0) Tryd.underlying33 rfl infoCon) rfl ?_
      exact ⟨by rw [HV.out]; rfl, set13_below (HB3.out.alloc HB3.out.size _) (Nat.le_refl _) _⟩
    | false =>
      have HV := Lib.hid (show ofOf fs = (parseOf X.data.toList).1 from by rw [ofOf_none hn0 hp, HX0.out h0, parseOf_nil])
      have HP := Lib.hid hp
      clear hp hn0
      go_wp2_with fail
      refine (pragma_any v fs _ (HF.out.below HB1.out (Nat.le_refl _)) ht).mono ?_
      rintro e w2 ⟨rfl, hb2⟩
      rw [HP.out]
      have HR2 := Lib.hid (Bl.old hb2 (block_lt HR1.out) HR1.out)
      have HB2 := Lib.hid (Bl.next HB1.out hb2)
      clear hb2
      go_wp2_with fail
      refine (parse_any X _ (by omega) (HT.out.below HB2.out hg)).mono ?_
      rintro e W3 ⟨rfl, hb3⟩
      obtain ⟨cc, hcc⟩ : ∃ cc, cc = (parseOf X.data.toList).1 := ⟨_, rfl⟩
      obtain ⟨bb, hbb⟩ : ∃ bb, bb = (parseOf X.data.toList).2 := ⟨_, rfl⟩
      have hPV : parseVal X.data.toList = .tuple #[.agg #[.bool cc.ns, .bool cc.nc, .bool cc.pr, .bool cc.pu, .bool cc.mu, .bool cc.px, .bool cc.oc, .int .i64 cc.ag, .int .i64 cc.sh, .int .i64 cc.wh, .int .i64 cc.ie, .int .i64 cc.mf, .int .i64 cc.ms], .bool bb] := by unfold parseVal; rw [← hcc, ← hbb]; rfl
      rw [hPV]
      rw [← hcc] at HV
      have hR3 := Bl.old hb3 (block_lt HR2.out) HR2.out
      have HB3 := Lib.hid (Bl.next HB2.out hb3)
      clear hb3 hcc hbb hPV
      have hal : ∀ Y, (W3.alloc (.cells Y 33)).heap[w.heap.size]? = some (.cells blank13 33 (0, 0)) := fun Y => (old_block _ _ (block_lt hR3)).trans hR3
      have HAL := Lib.hid hal
      have r0 : ∀ Y, (W3.alloc (.cells Y 33)).cell? ⟨w.heap.size, 0, none⟩ = some (.bool false) := fun Y => cellAt_of (hal Y) 0 rfl
      have r1 : ∀ Y, (W3.alloc (.cells Y 33)).cell? ⟨w.heap.size, 1, none⟩ = some (.bool false) := fun Y => cellAt_of (hal Y) 1 rfl
      have r2 : ∀ Y, (W3.alloc (.cells Y 33)).cell? ⟨w.heap.size, 2, none⟩ = some (.bool false) := fun Y => cellAt_of (hal Y) 2 rfl
      have r3 : ∀ Y, (W3.alloc (.cells Y 33)).cell? ⟨w.heap.size, 3, none⟩ = some (.bool false) := fun Y => cellAt_of (hal Y) 3 rfl
      have r4 : ∀ Y, (W3.alloc (.cells Y 33)).cell? ⟨w.heap.size, 4, none⟩ = some (.bool false) := fun Y => cellAt_of (hal Y) 4 rfl
      have r5 : ∀ Y, (W3.alloc (.cells Y 33)).cell? ⟨w.heap.size, 5, none⟩ = some (.bool false) := fun Y => cellAt_of (hal Y) 5 rfl
      have r6 : ∀ Y, (W3.alloc (.cells Y 33)).cell? ⟨w.heap.size, 6, none⟩ = some (.bool false) := fun Y => cellAt_of (hal Y) 6 rfl
      have r7 : ∀ Y, (W3.alloc (.cells Y 33)).cell? ⟨w.heap.size, 7, none⟩ = some (.int .i64 0) := fun Y => cellAt_of (hal Y) 7 rfl
      have r8 : ∀ Y, (W3.alloc (.cells Y 33)).cell? ⟨w.heap.size, 8, none⟩ = some (.int .i64 0) := fun Y => cellAt_of (hal Y) 8 rfl
      have r9 : ∀ Y, (W3.alloc (.cells Y 33)).cell? ⟨w.heap.size, 9, none⟩ = some (.int .i64 0) := fun Y => cellAt_of (hal Y) 9 rfl
      have r10 : ∀ Y, (W3.alloc (.cells Y 33)).cell? ⟨w.heap.size, 10, none⟩ = some (.int .i64 0) := fun Y => cellAt_of (hal Y) 10 rfl
      have r11 : ∀ Y, (W3.alloc (.cells Y 33)).cell? ⟨w.heap.size, 11, none⟩ = some (.int .i64 0) := fun Y => cellAt_of (hal Y) 11 rfl
      have r12 : ∀ Y, (W3.alloc (.cells Y 33)).cell? ⟨w.heap.size, 12, none⟩ = some (.int .i64 0) := fun Y => cellAt_of (hal Y) 12 rfl
      have g0 := fun Y => free (hal Y) 0
      have g1 := fun Y => free (hal Y) 1
      have g2 := fun Y => free (hal Y) 2
      have g3 := fun Y => free (hal Y) 3
      have g4 := fun Y => free (hal Y) 4
      have g5 := fun Y => free (hal Y) 5
      have g6 := fun Y => free (hal Y) 6
      have g7 := fun Y => free (hal Y) 7
      have g8 := fun Y => free (hal Y) 8
      have g9 := fun Y => free (hal Y) 9
      have g10 := fun Y => free (hal Y) 10
      have g11 := fun Y => free (hal Y) 11
      have g12 := fun Y => free (hal Y) 12
      clear hal hR3
      go_wp2_with fail
      refine bodyPost_ret (results_one rfl _ _ w.heap.size 33 _ (0, 0) _ rfl (set13_at (HAL.out _) cc) Tryd.underlying33 rfl infoCon) rfl ?_
      exact ⟨by rw [HV.out], set13_below (HB3.out.alloc HB3.out.size _) (Nat.le_refl _) _⟩
  · have t0 : ((N : Int) == 0) = false := by simp [h0]
    have HV := Lib.hid (show ofOf fs = (parseOf X.data.toList).1 from by rw [ofOf_cc (by rw [← HN.out]; omega), HXl.out])
    have HR2 := HR1
    have HB2 := HB1
    go_wp2_with fail
    refine (parse_any X _ (by omega) (HT.out.below HB2.out hg)).mono ?_
    rintro e W3 ⟨rfl, hb3⟩
    obtain ⟨cc, hcc⟩ : ∃ cc, cc = (parseOf X.data.toList).1 := ⟨_, rfl⟩
    obtain ⟨bb, hbb⟩ : ∃ bb, bb = (parseOf X.data.toList).2 := ⟨_, rfl⟩
    have hPV : parseVal X.data.toList = .tuple #[.agg #[.bool cc.ns, .bool cc.nc, .bool cc.pr, .bool cc.pu, .bool cc.mu, .bool cc.px, .bool cc.oc, .int .i64 cc.ag, .int .i64 cc.sh, .int .i64 cc.wh, .int .i64 cc.ie, .int .i64 cc.mf, .int .i64 cc.ms], .bool bb] := by unfold parseVal; rw [← hcc, ← hbb]; rfl
    rw [hPV]
    rw [← hcc] at HV
    have hR3 := Bl.old hb3 (block_lt HR2.out) HR2.out
    have HB3 := Lib.hid (Bl.next HB2.out hb3)
    clear hb3 hcc hbb hPV
    have hal : ∀ Y, (W3.alloc (.cells Y 33)).heap[w.heap.size]? = some (.cells blank13 33 (0, 0)) := fun Y => (old_block _ _ (block_lt hR3)).trans hR3
    have HAL := Lib.hid hal
    have r0 : ∀ Y, (W3.alloc (.cells Y 33)).cell? ⟨w.heap.size, 0, none⟩ = some (.bool false) := fun Y => cellAt_of (hal Y) 0 rfl
    have r1 : ∀ Y, (W3.alloc (.cells Y 33)).cell? ⟨w.heap.size, 1, none⟩ = some (.bool false) := fun Y => cellAt_of (hal Y) 1 rfl
    have r2 : ∀ Y, (W3.alloc (.cells Y 33)).cell? ⟨w.heap.size, 2, none⟩ = some (.bool false) := fun Y => cellAt_of (hal Y) 2 rfl
    have r3 : ∀ Y, (W3.alloc (.cells Y 33)).cell? ⟨w.heap.size, 3, none⟩ = some (.bool false) := fun Y => cellAt_of (hal Y) 3 rfl
    have r4 : ∀ Y, (W3.alloc (.cells Y 33)).cell? ⟨w.heap.size, 4, none⟩ = some (.bool false) := fun Y => cellAt_of (hal Y) 4 rfl
    have r5 : ∀ Y, (W3.alloc (.cells Y 33)).cell? ⟨w.heap.size, 5, none⟩ = some (.bool false) := fun Y => cellAt_of (hal Y) 5 rfl
    have r6 : ∀ Y, (W3.alloc (.cells Y 33)).cell? ⟨w.heap.size, 6, none⟩ = some (.bool false) := fun Y => cellAt_of (hal Y) 6 rfl
    have r7 : ∀ Y, (W3.alloc (.cells Y 33)).cell? ⟨w.heap.size, 7, none⟩ = some (.int .i64 0) := fun Y => cellAt_of (hal Y) 7 rfl
    have r8 : ∀ Y, (W3.alloc (.cells Y 33)).cell? ⟨w.heap.size, 8, none⟩ = some (.int .i64 0) := fun Y => cellAt_of (hal Y) 8 rfl
    have r9 : ∀ Y, (W3.alloc (.cells Y 33)).cell? ⟨w.heap.size, 9, none⟩ = some (.int .i64 0) := fun Y => cellAt_of (hal Y) 9 rfl
    have r10 : ∀ Y, (W3.alloc (.cells Y 33)).cell? ⟨w.heap.size, 10, none⟩ = some (.int .i64 0) := fun Y => cellAt_of (hal Y) 10 rfl
    have r11 : ∀ Y, (W3.alloc (.cells Y 33)).cell? ⟨w.heap.size, 11, none⟩ = some (.int .i64 0) := fun Y => cellAt_of (hal Y) 11 rfl
    have r12 : ∀ Y, (W3.alloc (.cells Y 33)).cell? ⟨w.heap.size, 12, none⟩ = some (.int .i64 0) := fun Y => cellAt_of (hal Y) 12 rfl
    have g0 := fun Y => free (hal Y) 0
    have g1 := fun Y => free (hal Y) 1
    have g2 := fun Y => free (hal Y) 2
    have g3 := fun Y => free (hal Y) 3
    have g4 := fun Y => free (hal Y) 4
    have g5 := fun Y => free (hal Y) 5
    have g6 := fun Y => free (hal Y) 6
    have g7 := fun Y => free (hal Y) 7
    have g8 := fun Y => free (hal Y) 8
    have g9 := fun Y => free (hal Y) 9
    have g10 := fun Y => free (hal Y) 10
    have g11 := fun Y => free (hal Y) 11
    have g12 := fun Y => free (hal Y) 12
    clear hal hR3
    go_wp2_with fail
    refine bodyPost_ret (results_one rfl _ _ w.heap.size 33 _ (0, 0) _ rfl (set13_at (HAL.out _) cc) Tryd.underlying33 rfl infoCon) rfl ?_
    exact ⟨by rw [HV.out], set13_below (HB3.out.alloc HB3.out.size _) (Nat.le_refl _) _⟩
end Go.Proofs.YtjbdgndejbiikaaDoor.Ct
