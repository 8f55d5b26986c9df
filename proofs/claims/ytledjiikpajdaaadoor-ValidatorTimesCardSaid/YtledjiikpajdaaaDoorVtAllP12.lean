/-
  Texts that the laws' proofs stand on, 3 of them in one file; each one's head says what it proves and under which condition.
-/
import Derived.Shelf.LaysM
import Derived.Shelf.Small.Wraps
import Derived.Test.YtledjiikpajdaaaDoorProg
import Derived.Test.YtledjiikpajdaaaDoorRows
import Derived.Test.YtledjiikpajdaaaDoorVtAllP8
import Derived.WalkKit
import Derived.WalkLawsBesides
import Derived.WalkSpells
import Derived.Outline
import Derived.Lib.Hide
import Derived.Lib.Bytealg
import Derived.Lib.BufferWrite
import Derived.Lib.UnsafeStr
import Derived.Laws.CopyOwn
import Derived.Test.YtledjiikpajdaaaDoorVtAllP11
import Derived.Test.YtledjiikpajdaaaDoorVtAllP1
import Derived.Test.YtledjiikpajdaaaDoorVtAllP7
/-
  The library contract of strings.CutSuffix, at this translation: one application. No condition but what it states.
-/
namespace Go.Proofs.YtledjiikpajdaaaDoor.Vd
open Go.Shelf Go.RowKit
def lays104_ren : Go.Shelf.Ren := ⟨fun | 104 => 51 | 211 => 71 | 207 => 87 | n => n, fun | 9 => 9 | 4 => 4 | 24 => 84 | 3 => 3 | n => n, fun | n => n⟩
theorem lays104 : Go.Proofs.Lays.n104 Tryd.prog lays104_ren := {
  mixed := by kernel_rfl
  f104 := Tryd.func51.trans (congrArg some (by kernel_rfl))
  f207 := Tryd.func87.trans (congrArg some (by kernel_rfl))
  f211 := Tryd.func71.trans (congrArg some (by kernel_rfl))
  t3 := Tryd.underlying3
  a3 := Tryd.isAgg3
  z3 := Tryd.sizeOf3
  v3 := Tryd.zeroValue3
  t4 := Tryd.underlying4
  a4 := Tryd.isAgg4
  z4 := Tryd.sizeOf4
  v4 := Tryd.zeroValue4
  t9 := Tryd.underlying9
  a9 := Tryd.isAgg9
  z9 := Tryd.sizeOf9
  v9 := Tryd.zeroValue9
  t24 := Tryd.underlying84
  a24 := Tryd.isAgg84
  z24 := Tryd.sizeOf84
  v24 := Tryd.zeroValue84 }
open Go.RowKit in
theorem strings_CutSuffix (s p : ByteArray) (w : World) (hs : s.size ≤ 9223372036854775807) :
    Calls Tryd.prog 51 #[.string s, .string p] w fun e w' => e = .returned (.tuple #[.string ⟨(Lib.trimSuffix s.data.toList p.data.toList).toArray⟩, .bool (Lib.hasSuffix s.data.toList p.data.toList)]) ∧ w' = w := Any.strings_CutSuffix lays104 s p w hs
end Go.Proofs.YtledjiikpajdaaaDoor.Vd
/-
  strings.Clone: what it returns. Condition: a text of at most 2^47 bytes.
-/
namespace Go.Proofs.YtledjiikpajdaaaDoor.Tk
open Go.RowKit

theorem infoByte : (Tryd.prog.info? 5).map (fun i => (i.zero, i.size, i.bytes)) = some (some (.int .u8 0), 1, 1) := by kernel_rfl
theorem infoByteSize : (Tryd.prog.info? 5).map (·.size) = some 1 := by kernel_rfl
theorem cellsByte : Tryd.prog.cellsOf 5 = 1 := by kernel_rfl

/-- What Clone does to memory: a new row, the bytes copied over, the row frozen. -/
theorem clone_runs (s : ByteArray) (w : World) (h0 : 0 < s.size) (hs : s.size ≤ 140737488355328) : ∃ (M : Array Value) (W2 W3 : World),
    (Instr.makeSlice 62 (.int .i64 (s.size : Int)) (.int .i64 (s.size : Int))).run Tryd.prog w = .ok (.slice (some ⟨w.heap.size, 0, none⟩) s.size s.size) (w.alloc (.cells M 5)) ∧
    (∀ ty, (Builtin.copy_ #[62, 9] ty #[.slice (some ⟨w.heap.size, 0, none⟩) s.size s.size, .string s]).run Tryd.prog (w.alloc (.cells M 5)) = .ok (goInt s.size) W2) ∧
    (∀ ty, (Builtin.unsafeString_ #[90, 3] ty #[.pointer (some ⟨w.heap.size, 0, none⟩), .int .i64 (s.size : Int)]).run Tryd.prog W2 = .ok (.string s) W3) ∧
    Below w.heap.size w W3 := by
  obtain ⟨i0, hi, hz0, hz1, hz2⟩ := info_parts infoByte
  have hlen : s.data.toList.length = s.size := by simp
  have hmk := run_make (P := Tryd.prog) w 62 5 i0 (.int .u8 0) Tryd.underlying62 hi hz0 .i64 .i64 (s.size : Int) (s.size : Int) (by omega) (by omega) (by rw [hz2]; omega) (by omega)
  rw [hz1, Int.toNat_natCast, Nat.mul_one] at hmk
  obtain ⟨M, hM⟩ : ∃ M, M = madeCells (Value.int .u8 0).cells s.size := ⟨_, rfl⟩
  have hMs : M.size = s.size := by rw [hM, size_madeCells]
  rw [← hM] at hmk
  have hg : (w.alloc (.cells M 5)).heap[w.heap.size]? = some (.cells M 5 (0, 0)) := by show (w.heap.push _)[w.heap.size]? = _; simp
  have hcp := fun ty => Lib.run_copy_row_string (P := Tryd.prog) (w.alloc (.cells M 5)) 62 9 ty 5 w.heap.size 0 s.size s.size s M 5 Tryd.underlying62 infoByteSize hg (Nat.le_refl _) (by omega)
  have hR : (M.toList.take 0 ++ Lib.byteCells s.data.toList ++ M.toList.drop (0 + s.size)).toArray = (Lib.byteCells s.data.toList).toArray := by
    rw [List.take_zero, List.nil_append, List.drop_eq_nil_of_le (by simp; omega), List.append_nil]
  rw [hR] at hcp
  have hb2 : Below w.heap.size w ((w.alloc (.cells M 5)).setRow w.heap.size (Lib.byteCells s.data.toList).toArray) :=
    below_setRow ((Below.refl _ _).alloc (Nat.le_refl _) _) (Nat.le_refl _) _
  have hg2 := setRow_heap (w.alloc (.cells M 5)) w.heap.size M (Lib.byteCells s.data.toList).toArray 5 (0, 0) hg
  have hus := fun ty => Lib.run_unsafeString_row (P := Tryd.prog) (w := (w.alloc (.cells M 5)).setRow w.heap.size (Lib.byteCells s.data.toList).toArray) 90 3 ty 5 Tryd.underlying90 cellsByte w.heap.size s.size
    (by unfold World.shape?; rw [hg2]; simp [Lib.byteCells]) s.data.toList (by intro e; rw [e] at hlen; simp at hlen; omega) (by omega) (by omega) (by
      intro j x hx
      rw [Addr.add_lit, Nat.zero_add]
      have hj : j < s.data.toList.length := (List.getElem?_eq_some_iff.1 hx).1
      simp only [World.cell?, hg2]
      simp [Lib.byteCells, hx])
  rw [hlen] at hus
  exact ⟨M, _, _, hmk, hcp, fun ty => hus ty, Lib.below_freeze hb2 (Nat.le_refl _) _⟩

set_option maxHeartbeats 1000000 in
theorem cloneLite_any (s : ByteArray) (w : World) (hs : s.size ≤ 140737488355328) :
    Calls Tryd.prog 53 #[.string s] w fun e w' => e = .returned (.string s) ∧ Below w.heap.size w w' := by
  by_cases h0 : s.size = 0
  · have h1 : ((s.size : Int) == 0) = true := by rw [h0]; rfl
    have HE := Lib.hid (show s = ⟨#[]⟩ from by
      have := nil_of_size h0
      cases s with
      | mk d => cases d with
        | mk l => simp at this; subst this; rfl)
    clear h0
    go_enter Tryd.func53, Tryd.ntmps53
    go_wp2_with fail
    go_ret
    exact ⟨by rw [HE.out]; rfl, Below.refl _ _⟩
  · have h1 : ((s.size : Int) == 0) = false := beq_eq_false_iff_ne.2 (by omega)
    have hp : 0 < s.size := by omega
    obtain ⟨M, W2, W3, hmk, hcp, hus, hb⟩ := clone_runs s w hp hs
    clear h0
    go_enter Tryd.func53, Tryd.ntmps53
    go_wp2_with fail
    go_ret
    exact ⟨rfl, hb⟩

theorem clone_any (s : ByteArray) (w : World) (hs : s.size ≤ 140737488355328) :
    Calls Tryd.prog 27 #[.string s] w fun e w' => e = .returned (.string s) ∧ Below w.heap.size w w' := by
  go_enter Tryd.func27, Tryd.ntmps27
  go_wp2_with fail
  refine (cloneLite_any s _ hs).mono ?_
  rintro e w' ⟨rfl, hb⟩
  go_wp2_with fail
  go_ret
  exact ⟨rfl, hb⟩
end Go.Proofs.YtledjiikpajdaaaDoor.Tk
/-
  validator.tagByte, Parse, Strong and Weak: what each returns. Condition: a text of at most 2^47 bytes.
-/
namespace Go.Proofs.YtledjiikpajdaaaDoor.Vd
open Go.RowKit Go.Proofs.YtledjiikpajdaaaDoor.Tk Go.Proofs.YtledjiikpajdaaaDoor.Fd
set_option maxRecDepth 100000
set_option linter.unusedVariables false

/-- A tag as a struct's value. -/
def TV (x : Tag) : Value := .agg #[.bool x.1, .string ⟨x.2.toArray⟩]
def tagVal (o : Option Tag) : Value := match o with
  | some t => .tuple #[TV t, .bool true]
  | none => .tuple #[TV (false, []), .bool false]
theorem tagByte_any (c : UInt8) (w : World) :
    Calls Tryd.prog 52 #[.int .u8 (c.toNat : Int)] w fun e w' => e = .returned (.bool (tagByte c)) ∧ w' = w := by
  obtain ⟨n, hn⟩ : ∃ n, c.toNat = n := ⟨_, rfl⟩
  have hlt : n < 256 := by rw [← hn]; exact UInt8.toNat_lt c
  have h1 : (c != 34) = decide (n ≠ 34) := by rw [← hn, Bool.eq_iff_iff, bne_iff_ne, decide_eq_true_iff, ne_eq, ne_eq, ← UInt8.toNat_inj]; rfl
  have h2 : (c != 92) = decide (n ≠ 92) := by rw [← hn, Bool.eq_iff_iff, bne_iff_ne, decide_eq_true_iff, ne_eq, ne_eq, ← UInt8.toNat_inj]; rfl
  have h3 : (c != 127) = decide (n ≠ 127) := by rw [← hn, Bool.eq_iff_iff, bne_iff_ne, decide_eq_true_iff, ne_eq, ne_eq, ← UInt8.toNat_inj]; rfl
  have HR := Lib.hid (show tagByte c = (decide (33 ≤ n) && decide (n ≠ 34) && decide (n ≠ 92) && decide (n ≠ 127)) from by unfold tagByte; rw [h1, h2, h3, hn])
  clear h1 h2 h3
  rw [hn]
  clear hn
  by_cases a1 : 33 ≤ n
  · have e1 : (32 : Int) < n := by omega
    replace HR := Lib.hid (show tagByte c = ((n : Int) != 34 && (n : Int) != 92 && (n : Int) != 127) from by
      rw [HR.out, decide_eq_true a1, Bool.true_and]
      have q : ∀ k : Nat, ((n : Int) != (k : Int)) = decide (n ≠ k) := fun k => by rw [Bool.eq_iff_iff, bne_iff_ne, decide_eq_true_iff]; omega
      rw [show ((n : Int) != 34) = decide (n ≠ 34) from q 34, show ((n : Int) != 92) = decide (n ≠ 92) from q 92, show ((n : Int) != 127) = decide (n ≠ 127) from q 127])
    clear a1
    go_enter Tryd.func52, Tryd.ntmps52
    go_wp2_with fail
    all_goals
      go_ret
      exact ⟨by rw [HR.out]; first | rfl | (rename_i h; rw [h]; rfl), rfl⟩
  · have e1 : ¬ (32 : Int) < n := by omega
    replace HR := Lib.hid (show tagByte c = false from by rw [HR.out, decide_eq_false a1]; rfl)
    clear a1
    go_enter Tryd.func52, Tryd.ntmps52
    go_wp2_with fail
    go_ret
    exact ⟨by rw [HR.out]; rfl, rfl⟩
theorem infoTag : (Tryd.prog.info? 53).map (·.size) = some 2 := by kernel_rfl
theorem infoTagSize : (Tryd.prog.info? 53).map (·.size) = some #[Value.bool false, Value.string ⟨#[]⟩].size := by kernel_rfl
theorem all_take {l : Bs} {k : Nat} (hk : k < l.length) : (l.take (k + 1)).all tagByte = ((l.take k).all tagByte && tagByte l[k]) := by
  rw [List.take_succ_eq_append_getElem hk, List.all_append]; simp
theorem snoc_all (s : ByteArray) (k : Nat) (h : k < s.size) : (s.data.toList.take (k + 1)).all tagByte = ((s.data.toList.take k).all tagByte && tagByte s[k]) := by
  rw [List.take_succ_eq_append_getElem (by rw [Array.length_toList]; exact h), List.all_append]
  simp; rfl
theorem trim_le (l p : Bs) : (Lib.trimPrefix l p).length ≤ l.length := by unfold Lib.trimPrefix; split <;> simp
theorem trimS_le (l p : Bs) : (Lib.trimSuffix l p).length ≤ l.length := by unfold Lib.trimSuffix; split <;> simp
set_option maxHeartbeats 4000000 in
theorem parse_any (s : ByteArray) (w : World) (hs : s.size ≤ 140737488355328) :
    Calls Tryd.prog 26 #[.string s] w fun e w' => e = .returned (tagVal (parseTag s.data.toList)) ∧ Below w.heap.size w w' := by
  have hr0 := new_block w (.cells #[.bool false, .string ⟨#[]⟩] 53 (0, 0))
  have hB0 : Below w.heap.size w (w.alloc (.cells #[.bool false, .string ⟨#[]⟩] 53 (0, 0))) := (Below.refl _ _).alloc (Nat.le_refl _) _
  have HP := Lib.hid (parse_cut s.data.toList)
  obtain ⟨q, hq⟩ : ∃ q : ByteArray, q = ⟨(quotedL s.data.toList).toArray⟩ := ⟨_, rfl⟩
  obtain ⟨o, ho⟩ : ∃ o : ByteArray, o = ⟨(openL s.data.toList).toArray⟩ := ⟨_, rfl⟩
  obtain ⟨t, ht⟩ : ∃ t : ByteArray, t = ⟨(textL s.data.toList).toArray⟩ := ⟨_, rfl⟩
  have hz : t.size ≤ 140737488355328 := by
    have h1 := trim_le s.data.toList [87, 47]
    have h2 := trim_le (quotedL s.data.toList) [34]
    have h3 := trimS_le (openL s.data.toList) [34]
    have e : t.size = (textL s.data.toList).length := by rw [ht]; simp [ByteArray.size]
    have e2 : s.data.toList.length = s.size := by rw [Array.length_toList]; rfl
    unfold textL at e; unfold openL at h3 e; unfold quotedL at h2 h3 e
    omega
  have hzo : o.size ≤ 140737488355328 := by
    have h1 := trim_le s.data.toList [87, 47]
    have h2 := trim_le (quotedL s.data.toList) [34]
    have e : o.size = (openL s.data.toList).length := by rw [ho]; simp [ByteArray.size]
    have e2 : s.data.toList.length = s.size := by rw [Array.length_toList]; rfl
    unfold openL at e; unfold quotedL at h2 e
    omega
  obtain ⟨b0, hb0⟩ : ∃ b, b = weakL s.data.toList := ⟨_, rfl⟩
  obtain ⟨b1, hb1⟩ : ∃ b, b = beginsL s.data.toList := ⟨_, rfl⟩
  obtain ⟨b2, hb2⟩ : ∃ b, b = endsL s.data.toList := ⟨_, rfl⟩
  have C0 := Lib.hid (show ∀ W : World, Calls Tryd.prog 50 #[.string s, .string ⟨#[87, 47]⟩] W fun e w' => e = .returned (.tuple #[.string q, .bool b0]) ∧ w' = W from fun W => by rw [hq, hb0]; exact Dp.cutPrefix_any s ⟨#[87, 47]⟩ W)
  have C1 := Lib.hid (show ∀ W : World, Calls Tryd.prog 50 #[.string q, .string ⟨#[34]⟩] W fun e w' => e = .returned (.tuple #[.string o, .bool b1]) ∧ w' = W from fun W => by
    have h := Dp.cutPrefix_any q ⟨#[34]⟩ W
    rw [show q.data.toList = quotedL s.data.toList from by rw [hq]] at h
    rw [ho, hb1]; exact h)
  have C2 := Lib.hid (show ∀ W : World, Calls Tryd.prog 51 #[.string o, .string ⟨#[34]⟩] W fun e w' => e = .returned (.tuple #[.string t, .bool b2]) ∧ w' = W from fun W => by
    have h := strings_CutSuffix o ⟨#[34]⟩ W (by omega)
    rw [show o.data.toList = openL s.data.toList from by rw [ho]] at h
    rw [ht, hb2]; exact h)
  have hl : t.data.toList = textL s.data.toList := by rw [ht]
  replace HP := Lib.hid (show parseTag s.data.toList = if b1 && b2 && t.data.toList.all tagByte then some (b0, t.data.toList) else none from by rw [HP.out, hl, hb0, hb1, hb2])
  clear hq ho ht hb0 hb1 hb2 hl hzo
  have hn : ∀ k, k < t.size → ∃ c, t.data.toList[k]? = some c := fun k hk => ⟨t.data.toList[k]'(by rw [Array.length_toList]; exact hk), by rw [List.getElem?_eq_getElem]⟩
  generalize hW : w.alloc (.cells #[.bool false, .string ⟨#[]⟩] 53 (0, 0)) = W at hr0 hB0
  go_enter Tryd.func26, Tryd.ntmps26
  go_wp2_with fail
  refine (C0.out W).mono ?_
  rintro e w' ⟨rfl, rfl⟩
  go_wp2_with fail
  refine (C1.out _).mono ?_
  rintro e w' ⟨rfl, rfl⟩
  go_wp2_with fail
  refine (C2.out _).mono ?_
  rintro e w' ⟨rfl, rfl⟩
  have f0 := free hr0 0
  have f1 := free hr0 1
  have d0 := two0 hr0
  have d1 := two1 hr0
  cases b1 with
  | false =>
    replace HP := Lib.hid (show parseTag s.data.toList = none from HP.out)
    go_wp2_with fail
    refine bodyPost_ret (results_pair rfl _ _ w.heap.size 53 _ (0, 0) _ rfl (put2 hr0 _ _) Tryd.underlying53 rfl infoTagSize) rfl ?_
    exact ⟨by rw [HP.out]; rfl, put2_below hB0 (Nat.le_refl _) _ _⟩
  | true =>
  cases b2 with
  | false =>
    replace HP := Lib.hid (show parseTag s.data.toList = none from HP.out)
    go_wp2_with fail
    refine bodyPost_ret (results_pair rfl _ _ w.heap.size 53 _ (0, 0) _ rfl (put2 hr0 _ _) Tryd.underlying53 rfl infoTagSize) rfl ?_
    exact ⟨by rw [HP.out]; rfl, put2_below hB0 (Nat.le_refl _) _ _⟩
  | true =>
  replace HP := Lib.hid (show parseTag s.data.toList = if t.data.toList.all tagByte then some (b0, t.data.toList) else none from HP.out)
  go_wp2_with fail
  go_loop [34] (fun v => ∃ k : Nat, k ≤ t.size ∧ v = .int .i64 (k : Int) ∧ (t.data.toList.take k).all tagByte = true) (fun v => t.size - (intOf v).toNat)
  case atStart => exact ⟨0, Nat.zero_le _, rfl, rfl⟩
  case round =>
    obtain ⟨k, hk, rfl, hal⟩ := hrel
    have HAL := Lib.hid hal
    clear hal
    by_cases hlt : k < t.size
    · cases ht : tagByte t[k] with
      | true =>
        have HA := Lib.hid (show (t.data.toList.take (k + 1)).all tagByte = true from by rw [snoc_all t k hlt, HAL.out, ht]; rfl)
        have HT := Lib.hid ht
        clear ht
        go_wp2_with (go_at_call 52; refine (tagByte_any _ _).mono ?_; rintro e w' ⟨rfl, rfl⟩; rw [HT.out])
        go_round
        case rel => exact ⟨k + 1, by omega, by go_num, HA.out⟩
        case measure => simp [intOf]; omega
      | false =>
        have HN := Lib.hid (show parseTag s.data.toList = none from by
          have h : t.data.toList.all tagByte = false := by
            rw [Bool.eq_false_iff]; intro hh
            have := List.all_eq_true.1 hh t[k] (by rw [Array.mem_toList_iff]; exact Array.getElem_mem hlt)
            rw [ht] at this; cases this
          rw [HP.out, h]; rfl)
        have HT := Lib.hid ht
        clear ht
        go_wp2_with (go_at_call 52; refine (tagByte_any _ _).mono ?_; rintro e w' ⟨rfl, rfl⟩; rw [HT.out])
        refine bodyPost_ret (results_pair rfl _ _ w.heap.size 53 _ (0, 0) _ rfl (put2 hr0 _ _) Tryd.underlying53 rfl infoTagSize) rfl ?_
        exact ⟨by rw [HN.out]; rfl, put2_below hB0 (Nat.le_refl _) _ _⟩
    · obtain rfl : k = t.size := by omega
      have HV := Lib.hid (show parseTag s.data.toList = some (b0, t.data.toList) from by
        have h := HAL.out
        rw [List.take_of_length_le (by rw [Array.length_toList]; exact Nat.le_refl _)] at h
        rw [HP.out, if_pos h])
      clear HAL HP f0 f1 d0 d1
      go_wp2_with fail
      refine (clone_any t _ (by omega)).mono ?_
      rintro e w2 ⟨rfl, hb2⟩
      have hB2 := Bl.next hB0 hb2
      have hr2 := Bl.old hb2 (block_lt hr0) hr0
      have f0 := free hr2 0
      have f1 := free hr2 1
      have d0 := two0 hr2
      have d1 := two1 hr2
      clear hb2 hr0 hB0
      go_wp2_with fail
      refine bodyPost_ret (results_pair rfl _ _ w.heap.size 53 _ (0, 0) _ rfl (put2 hr2 _ _) Tryd.underlying53 rfl infoTagSize) rfl ?_
      exact ⟨by rw [HV.out]; rfl, put2_below hB2 (Nat.le_refl _) _ _⟩
end Go.Proofs.YtledjiikpajdaaaDoor.Vd
