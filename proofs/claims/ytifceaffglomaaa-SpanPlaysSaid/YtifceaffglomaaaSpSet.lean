/-
  span.set: what it returns of pieces. Condition: at most 2^20 spans in all.
-/
import Derived.Test.YtifceaffglomaaaSpApp
import Derived.Test.YtifceaffglomaaaSpFn
import Derived.Laws.CopyOwn
import Derived.Laws.OwnMore
namespace Go.Proofs.Ytifceaffglomaaa.Sn
open Go.RowKit Go.Proofs.Ytifceaffglomaaa.Fd
set_option maxRecDepth 100000
set_option linter.unusedVariables false
set_option linter.unusedSimpArgs false

/-- A block of so many spans, whose first are told. -/
def Part (w : World) (g N : Nat) (L : List Sp) : Prop := ∃ cur : Array Value, w.heap[g]? = some (.cells cur 24 (0, 0)) ∧ cur.size = N * 2 ∧ cur.toList.take (L.length * 2) = flat L
def tailS (g N k : Nat) : Value := .slice (some (if N = k then ⟨g, 0, none⟩ else ⟨g, k * 2, none⟩)) (N - k) (N - k)
theorem run_slice_tailS (W : World) (g N k : Nat) (hb : k ≤ N) : (Instr.slice 22 (.slice (some ⟨g, 0, none⟩) N N) (some (.int .i64 (k : Int))) none none).run Try.prog W = .ok (tailS g N k) W := by
  have ht : Try.prog.underlying 22 = some (.slice 24) := Try.underlying22
  have ht' : Try.prog.underlying 22 = some (.slice (Try.prog.elem 22)) := by simp [Program.elem, ht]
  have he : Try.prog.elem 22 = 24 := by simp [Program.elem, ht]
  obtain ⟨i, hi, _, hs, _⟩ := info_parts infoSpan
  have hz : (Go.sizeOf 24).run Try.prog W = .ok 2 W := by simp [Go.sizeOf, typeInfo, hi, hs]
  rw [run_slice_l W 22 _ _ _ ht' .i64 _ (by omega) (by omega), he, hz]
  unfold tailS
  by_cases h0 : N = k
  · simp [Result.andThen, sliced, h0]
  · simp [Result.andThen, sliced, Addr.add, h0]
    intro h; omega
theorem run_copy_two (w : World) (ty : TypeId) (g o dLen dCap : Nat) (a : Addr) (sLen sCap n : Nat) (cur : Array Value) (t : TypeId) (cs : List Value)
    (hg : w.heap[g]? = some (.cells cur t (0, 0))) (hn : Nat.min sLen dLen = n) (hl2 : cs.length = n * 2)
    (hsrc : ∀ j v, cs[j]? = some v → w.cell? (a.add j) = some v) (hfit : o + cs.length ≤ cur.size) (h1 : ∀ v ∈ cs, v.oneCell' = true) :
    (Builtin.copy_ #[22, 22] ty #[.slice (some ⟨g, o, none⟩) dLen dCap, .slice (some a) sLen sCap]).run Try.prog w =
      .ok (goInt n) (w.setRow g (cur.toList.take o ++ cs ++ cur.toList.drop (o + cs.length)).toArray) := by
  have hl := run_loadCells_list (P := Try.prog) w a cs hsrc
  have hst := run_storeCells_at Try.prog g o t cs 0 cur w hg (by simpa using hfit) h1
  obtain ⟨i, hi, _, hs, _⟩ := info_parts infoSpan
  simp [Builtin.copy_, run_underlying Try.underlying22, Builtin.lenOf, Builtin.firstCells, Go.sizeOf, typeInfo, hi, hs, hn, ← hl2, hl, hst]
theorem run_copy_no (w : World) (ty : TypeId) (d a : Option Addr) (dLen dCap sLen sCap : Nat) (hn : Nat.min sLen dLen = 0) :
    (Builtin.copy_ #[22, 22] ty #[.slice d dLen dCap, .slice a sLen sCap]).run Try.prog w = .ok (goInt 0) w := by
  obtain ⟨i, hi, _, hs, _⟩ := info_parts infoSpan
  have hl : ∀ (x : Addr), (loadCells x 0).run Try.prog w = .ok #[] w := fun x => by simpa using run_loadCells_list (P := Try.prog) w x [] (by simp)
  cases d <;> cases a <;> simp [Builtin.copy_, run_underlying Try.underlying22, Builtin.lenOf, Builtin.firstCells, Go.sizeOf, typeInfo, hi, hs, hn, storeCells, hl]
theorem run_copy_part (w : World) (ty : TypeId) (g N : Nat) (L m : List Sp) (x : Value) (hp : Part w g N L) (hx : Spans w x m) (hf : L.length + m.length ≤ N) :
    ∃ w', (Builtin.copy_ #[22, 22] ty #[tailS g N L.length, x]).run Try.prog w = .ok (goInt m.length) w' ∧ Part w' g N (L ++ m) ∧ Below g w w' := by
  by_cases hm : m = []
  · subst hm
    obtain ⟨a, c, rfl⟩ := hx.shape
    exact ⟨w, run_copy_no w ty _ _ _ _ _ _ (by simp), by rw [List.append_nil]; exact hp, Below.refl _ _⟩
  · rcases hx with ⟨rfl, _⟩ | ⟨b, off, cap, rfl, _, _, _, hs⟩
    · exact absurd rfl hm
    · have hpos : 0 < m.length := List.length_pos_iff.2 hm
      obtain ⟨cur, hg, hsz, htk⟩ := hp
      have hmin : Nat.min m.length (N - L.length) = m.length := by simp only [Nat.min_def]; split <;> omega
      have hfl := flat_length m
      have hr := run_copy_two w ty g (L.length * 2) (N - L.length) (N - L.length) ⟨b, off, none⟩ m.length cap m.length cur _ (flat m) hg hmin hfl hs.news (by omega) (flat_cells m)
      refine ⟨_, by unfold tailS; rw [if_neg (by omega)]; exact hr, ⟨_, setRow_heap w g cur _ _ (0, 0) hg, ?_, ?_⟩, below_setRow (Below.refl g w) (Nat.le_refl _) _⟩
      · have : cur.toList.length = N * 2 := by simpa using hsz
        simp
        omega
      · have hc : (cur.toList.take (L.length * 2)).length = L.length * 2 := by rw [htk, flat_length]
        rw [flat_append, List.length_append, Nat.add_mul]
        show List.take _ (cur.toList.take (L.length * 2) ++ flat m ++ cur.toList.drop (L.length * 2 + (flat m).length)) = _
        rw [List.take_left' (by rw [List.length_append, hc, hfl]), htk]
/-- All that pieces hold. -/
def joined (ps : List (Value × List Sp)) : List Sp := ps.flatMap fun p => p.2
theorem joined_step (ps : List (Value × List Sp)) (k : Nat) (h : k < ps.length) : joined (ps.take (k + 1)) = joined (ps.take k) ++ ps[k].2 := by
  have e : ps.take (k + 1) = ps.take k ++ [ps[k]] := by rw [List.take_succ_eq_append_getElem h]
  unfold joined
  rw [e, List.flatMap_append]
  simp
theorem joined_le (ps : List (Value × List Sp)) (k : Nat) : (joined (ps.take k)).length ≤ (joined ps).length := by
  conv => rhs; rw [← List.take_append_drop k ps]
  unfold joined
  rw [List.flatMap_append, List.length_append]
  omega
theorem hmake (W : World) (N : Nat) (hN : N ≤ 1048576) : ∃ w', (Instr.makeSlice 22 (.int .i64 (N : Int)) (.int .i64 (N : Int))).run Try.prog W = .ok (.slice (some ⟨W.heap.size, 0, none⟩) N N) w' ∧ Part w' W.heap.size N [] ∧ Below W.heap.size W w' := by
  obtain ⟨i, hi, hz, hs, hb⟩ := info_parts infoSpan
  have hr := run_makeSlice (P := Try.prog) W 22 24 i _ Try.underlying22 hi hz .i64 .i64 (N : Int) (N : Int) (by omega) (by omega) (by rw [hs]; simp; omega) (by rw [hb]; omega) (by omega)
  simp only [Int.toNat_natCast] at hr
  exact ⟨_, hr, ⟨_, new_block W _, by rw [size_madeCells, hs], by simp [flat]⟩, (Below.refl _ _).alloc (Nat.le_refl _) _⟩
def SetPost (l : List Sp) (w : World) (e : Ending) (w' : World) : Prop :=
  ∃ v n, e = .returned (.tuple #[v, .int .i64 n]) ∧ (if l.length ≤ 32 then n = 0 ∧ OwnS w' w.heap.size v l else n = 14 ∧ v = .slice none 0 0) ∧ Below w.heap.size w w'
theorem Part.owns {w : World} {base g N : Nat} {L : List Sp} (h : Part w g N L) (hL : L.length = N) (hb : base ≤ g) (hN : N ≤ 1048576) : OwnS w base (.slice (some ⟨g, 0, none⟩) N N) L := by
  obtain ⟨cur, hg, hsz, htk⟩ := h
  subst hL
  exact ⟨flat_length L, .inr ⟨g, L.length, cur, rfl, hb, hg, Nat.le_refl _, by unfold maxLen; omega, hsz, htk⟩⟩
theorem wpList_copy_part (w : World) {ops : Array Oper} {rest : List Oper} {o : Oper} {a : Act} {Q : Exit → Act → World → Prop} (hg : o.guard = none) (d s : Operand)
    (hop : o.op = Op.call { callee := Callee.builtin Builtin.copy, args := #[d, s], argTypes := #[22, 22] }) (g N : Nat) (L m : List Sp) (x : Value) (hd : a.eval d = tailS g N L.length) (hs : a.eval s = x)
    (hp : Part w g N L) (hx : Spans w x m) (hf : L.length + m.length ≤ N)
    (hK : ∀ w', Part w' g N (L ++ m) → Below g w w' → wpList Try.prog ops Q rest (a.put o.dst (.int .i64 (m.length : Int))) w') : wpList Try.prog ops Q (o :: rest) a w := by
  refine wpList_plain hg fun K hK' => ?_
  obtain ⟨w', hrun, h1, h2⟩ := run_copy_part w o.type g N L m x hp hx hf
  unfold Oper.wp
  simp [execOp, hop, resolve, invoke, builtin, hd, hs, hrun, Result.andThen]
  exact hK' _ _ (hK w' h1 h2)
set_option maxHeartbeats 4000000 in
theorem set_any (ps : List (Value × List Sp)) (pb : Nat) (w : World) (hp : ∀ p ∈ ps, Spans w p.1 p.2) (hh : w.heap[pb]? = some (.cells (ps.map fun p => p.1).toArray 22 (0, 0))) (hn : ps.length ≤ 1048576) (hl : (joined ps).length ≤ 1048576) :
    Calls Try.prog 27 #[.slice (some ⟨pb, 0, none⟩) ps.length ps.length] w (SetPost (joined ps) w) := by
  have HP := Lib.hid hp
  have hlt : pb < w.heap.size := block_lt hh
  have HC := Lib.hid (show ∀ k (hk : k < ps.length), w.cell? ⟨pb, k, none⟩ = some ps[k].1 from fun k hk => by rw [Lib.cell_of_heap hh]; simp [hk])
  clear hp hh
  go_enter Try.func27, Try.ntmps27
  go_wp2_with fail
  go_loopw [4, 13] (fun s i wr => ∃ k : Nat, k ≤ ps.length ∧ i = .int .i64 (k : Int) ∧ s = .int .i64 ((joined (ps.take k)).length : Int) ∧ wr = w) (fun _ i _ => ps.length - (intOf i).toNat)
  case atStart => exact ⟨0, Nat.zero_le _, rfl, rfl, rfl⟩
  case round =>
    obtain ⟨k, hk, rfl, rfl, hwr⟩ := hrel
    have hwr := hwr.symm
    subst hwr
    by_cases hlt2 : k < ps.length
    · have c0 := HC.out k hlt2
      obtain ⟨a, c, hv⟩ := (HP.out ps[k] (List.getElem_mem _)).shape
      rw [hv] at c0
      have hle := joined_le ps (k + 1)
      have hst : (joined (ps.take (k + 1))).length = (joined (ps.take k)).length + ps[k].2.length := by rw [joined_step ps k hlt2, List.length_append]
      generalize (joined (ps.take k)).length = t0 at *
      generalize ps[k].2.length = t1 at *
      clear hv
      go_wp2_with fail
      go_roundw
      case rel => exact ⟨k + 1, by omega, by go_num, by rw [hst]; go_num, trivial⟩
      case measure => simp [intOf]; omega
    · have hall : ps.take k = ps := List.take_of_length_le (by omega)
      rw [hall]
      clear hall
      by_cases h32 : (joined ps).length ≤ 32
      · obtain ⟨w1, hmk, hpart, hB1⟩ := hmake w (joined ps).length hl
        have HQ := Lib.hid hpart
        clear hpart
        go_wp2_with fail
        go_loopw [8, 28] (fun s i w2 => ∃ k : Nat, k ≤ ps.length ∧ i = .int .i64 (k : Int) ∧ s = .int .i64 ((joined (ps.take k)).length : Int) ∧ Part w2 w.heap.size (joined ps).length (joined (ps.take k)) ∧ Below w.heap.size w w2) (fun _ i _ => ps.length - (intOf i).toNat)
        case atStart => exact ⟨0, Nat.zero_le _, rfl, rfl, HQ.out, hB1⟩
        case round =>
          obtain ⟨k, hk, rfl, rfl, hpt, hB⟩ := hrel
          have HQ2 := Lib.hid hpt
          clear hpt hmk HQ hB1
          by_cases hlt2 : k < ps.length
          · have c0 := (hB.cell (p := ⟨pb, k, none⟩) hlt).trans (HC.out k hlt2)
            have HX := Lib.hid ((HP.out ps[k] (List.getElem_mem _)).below hB (Nat.le_refl _))
            obtain ⟨x, hx⟩ : ∃ x, x = ps[k].1 := ⟨_, rfl⟩
            obtain ⟨m, hm⟩ : ∃ m, m = ps[k].2 := ⟨_, rfl⟩
            have hle := joined_le ps (k + 1)
            have hst : (joined (ps.take (k + 1))) = (joined (ps.take k)) ++ m := by rw [joined_step ps k hlt2, hm]
            rw [hst, List.length_append] at hle
            rw [← hx] at c0 HX
            rw [← hm] at HX
            have HS := Lib.hid hst
            have hsl := run_slice_tailS wr w.heap.size (joined ps).length (joined (ps.take k)).length (by omega)
            clear hx hm hst
            go_wp2_with ((with_reducible show wpList _ _ _ (⟨some 37, _, _, _, _, _⟩ :: _) _ _); refine wpList_copy_part _ rfl _ _ rfl w.heap.size (joined ps).length (joined (ps.take k)) m x rfl rfl HQ2.out HX.out hle ?_; intro w3 hp3 hb3; have HP3 := Lib.hid hp3; have HB3 := Lib.hid hb3; clear hp3 hb3)
            go_roundw
            case rel => exact ⟨k + 1, by omega, by go_num, by rw [HS.out, List.length_append]; go_num, by rw [HS.out]; exact HP3.out, hB.trans HB3.out⟩
            case measure => simp [intOf]; omega
          · have hall : ps.take k = ps := List.take_of_length_le (by omega)
            rw [hall] at HQ2
            rw [hall]
            go_wp2_with fail
            go_ret2
            exact ⟨_, 0, rfl, by rw [if_pos h32]; exact ⟨rfl, HQ2.out.owns rfl (Nat.le_refl _) (by omega)⟩, hB⟩
      · have hn32 : 32 < (joined ps).length := by omega
        go_wp2_with fail
        go_ret2
        exact ⟨_, 14, rfl, by rw [if_neg h32]; exact ⟨rfl, rfl⟩, Below.refl _ _⟩
end Go.Proofs.Ytifceaffglomaaa.Sn
