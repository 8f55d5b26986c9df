/-
  ranges.readPart and readLength: what they return. Condition: a text of at most 2^47 bytes.
-/
import Derived.Test.YthhnpdihgoiccaaDoorRnOne
import Derived.Test.YthhnpdihgoiccaaDoorRnRes
import Derived.Test.YthhnpdihgoiccaaDoorRgBack
import Derived.Test.YthhnpdihgoiccaaDoorRnIx
import Derived.Deep.DeepCutAuto
namespace Go.Proofs.YthhnpdihgoiccaaDoor.Rn
open Go.RowKit Go.Proofs.YthhnpdihgoiccaaDoor.Fd Go.Proofs.YthhnpdihgoiccaaDoor.Sn Go.Proofs.YthhnpdihgoiccaaDoor.Rm
set_option maxRecDepth 100000
set_option linter.unusedVariables false
set_option linter.unusedSimpArgs false

theorem star_iff {s : ByteArray} : s = ⟨#[42]⟩ ↔ s.data.toList = [42] := by
  constructor
  · rintro rfl; rfl
  · intro h; exact of_list h
theorem star_ne {s : ByteArray} (h : ¬ s = ⟨#[42]⟩) : (s.toList == [42]) = false := by
  rw [beq_eq_false_iff_ne, ByteArray.toList_eq]
  intro e; exact h (star_iff.2 e)
theorem span_rd (t : Tk.Bs) : readSpan t = if t = [42] then some (0, 0) else match rdO mostR t with
    | some (a, b) => if a = -1 ∨ b = -1 then none else some (a, b + 1)
    | none => none := by
  have hm : mostR = 1048577 := rfl
  unfold readSpan
  by_cases h : t = [42]
  · rw [if_pos h, if_pos h]
  · rw [if_neg h, if_neg h]
    unfold rdO
    by_cases h1 : ix 45 t = t.length
    · rw [if_pos h1, if_pos h1]
    · rw [if_neg h1, if_neg h1]
      have hk : ix 45 t < t.length := by have := ix_le 45 t; omega
      generalize ix 45 t = k at hk
      have e1 : ∀ u : Tk.Bs, (u = [] ∧ numT mostR u = none ∧ endO mostR u = some (-1)) ∨ (numT mostR u = none ∧ endO mostR u = none) ∨ ∃ a, numT mostR u = some a ∧ endO mostR u = some a ∧ 0 ≤ a ∧ a ≤ 1048577 := by
        intro u
        by_cases hu : u = []
        · exact .inl ⟨hu, by rw [hu]; exact numT_nil _, by unfold endO; rw [if_pos hu]⟩
        · have he : endO mostR u = numT mostR u := by unfold endO; rw [if_neg hu]
          cases hn : numT mostR u with
          | none => exact .inr (.inl ⟨rfl, by rw [he, hn]⟩)
          | some a => exact .inr (.inr ⟨a, rfl, by rw [he, hn], numT_bd hn⟩)
      rcases e1 (t.take k) with ⟨_, ha, ha2⟩ | ⟨ha, ha2⟩ | ⟨a, ha, ha2, a0, a1⟩ <;> rcases e1 (t.drop (k + 1)) with ⟨_, hb, hb2⟩ | ⟨hb, hb2⟩ | ⟨b, hb, hb2, b0, b1⟩ <;> rw [ha, ha2, hb, hb2]
      · rfl
      · show none = match (if fine (-1, b) then some (-1, b) else none) with | some (a, b) => if a = -1 ∨ b = -1 then none else some (a, b + 1) | none => none
        split
        · rename_i h2; split at h2
          · injection h2 with h2; injection h2 with h2 h3; rw [if_pos (.inl h2.symm)]
          · cases h2
        · rfl
      · show none = match (if fine (a, -1) then some (a, -1) else none) with | some (a, b) => if a = -1 ∨ b = -1 then none else some (a, b + 1) | none => none
        split
        · rename_i h2; split at h2
          · injection h2 with h2; injection h2 with h2 h3; rw [if_pos (.inr h3.symm)]
          · cases h2
        · rfl
      · show (if a ≤ b then some (a, b + 1) else none) = match (if fine (a, b) then some (a, b) else none) with | some (a, b) => if a = -1 ∨ b = -1 then none else some (a, b + 1) | none => none
        by_cases hab : a ≤ b
        · rw [if_pos hab, if_pos (fine_iff.2 (by omega))]
          show _ = if a = -1 ∨ b = -1 then none else some (a, b + 1)
          rw [if_neg (by omega)]
        · rw [if_neg hab, if_neg (fun h => by have := fine_iff.1 h; omega)]
def spanV (o : Option Rm.W) : Value := resV o
set_option maxHeartbeats 4000000 in
theorem part_any (s : ByteArray) (w : World) (hs : s.size ≤ maxLen) :
    Calls Tryd.prog 16 #[.string s] w fun e w' => e = .returned (resV (readSpan s.data.toList)) ∧ Below w.heap.size w w' := by
  obtain ⟨W, hW⟩ : ∃ W, W = w.alloc (.cells #[.int .i64 0, .int .i64 0] 23) := ⟨_, rfl⟩
  have hr : W.heap[w.heap.size]? = some (.cells #[.int .i64 0, .int .i64 0] 23 (0, 0)) := by rw [hW]; exact new_block _ _
  have hB : Below w.heap.size w W := by rw [hW]; exact (Below.refl _ _).alloc (Nat.le_refl _) _
  by_cases hst : s = ⟨#[42]⟩
  · have HV := Lib.hid (show readSpan s.data.toList = some (0, 0) from by rw [span_rd, if_pos (star_iff.1 hst)])
    have hbe : (s.toList == [42]) = true := by rw [beq_iff_eq, ByteArray.toList_eq]; exact star_iff.1 hst
    have r0 := two0 hr
    have r1 := two1 hr
    have f0 := free hr 0
    have f1 := free hr 1
    have HR := Lib.hid hr
    have HB := Lib.hid hB
    clear hst hr hB
    go_enter Tryd.func16, Tryd.ntmps16
    go_upto_region 1 with fail
    rw [← hW]
    clear hW
    go_wp2_with fail
    refine bodyPost_ret (ret_span rfl _ _ w.heap.size _ _ rfl (put2 HR.out _ _)) rfl ?_
    exact ⟨by rw [HV.out]; rfl, put2_below HB.out (Nat.le_refl _) _ _⟩
  · have hbe := star_ne hst
    have HV := Lib.hid (show readSpan s.data.toList = match rdO mostR s.data.toList with | some (a, b) => if a = -1 ∨ b = -1 then none else some (a, b + 1) | none => none from by rw [span_rd, if_neg (fun h => hst (star_iff.2 h))])
    rw [read_rd] at HV
    have HSZ := Lib.hid hs
    have hRd : Reads ((W.alloc (.cells #[.int .i64 1048577] 3)).alloc (.cells #[cloE W.heap.size] 44)) (W.heap.size + 1) W.heap.size 1048577 :=
      ⟨new_block' _ _ (by simp), by show (World.alloc _ _).heap[_]? = _; rw [old_block _ _ (by simp)]; exact new_block _ _⟩
    have hb1 : Below W.heap.size W ((W.alloc (.cells #[.int .i64 1048577] 3)).alloc (.cells #[cloE W.heap.size] 44)) := ((Below.refl _ _).alloc (Nat.le_refl _) _).alloc (by simp) _
    have hr1 := Bl.old hb1 (block_lt hr) hr
    have hB1 := Bl.next hB hb1
    have HRA := Lib.hid (read_any s _ _ _ _ hRd HSZ.out (by decide))
    clear hst hs hr hB hb1 hRd
    go_enter Tryd.func16, Tryd.ntmps16
    go_upto_region 1 with fail
    rw [← hW]
    clear hW
    go_wp2_with fail
    refine (reader_any _ _).mono ?_
    rintro e w3 ⟨rfl, hw3⟩
    rw [hw3] at HRA hr1 hB1
    clear hw3
    unfold cloR
    replace HV := Lib.hid (show readSpan s.data.toList = match if readB 1048577 s = true then some ((endV 1048577 (cutL s)).1, (endV 1048577 (cutR s)).1) else none with
      | some (a, b) => if a = -1 ∨ b = -1 then none else some (a, b + 1)
      | none => none from HV.out)
    have HF := Lib.hid (show readB 1048577 s = true → fine ((endV 1048577 (cutL s)).1, (endV 1048577 (cutR s)).1) = true from fun h => by
      unfold readB at h; simp only [Bool.and_eq_true] at h; exact h.2)
    generalize readB 1048577 s = b at HRA HV HF
    generalize (endV 1048577 (cutL s)).1 = x at HRA HV HF
    generalize (endV 1048577 (cutR s)).1 = y at HRA HV HF
    go_wp2_with fail
    refine HRA.out.mono ?_
    rintro e w4 ⟨rfl, hb4⟩
    have hr4 := Bl.old hb4 (block_lt hr1) hr1
    have hB4 := Bl.next hB1 hb4
    have HR := Lib.hid (show (w4.alloc (.cells #[.int .i64 x, .int .i64 y] 32)).heap[w.heap.size]? = some (.cells #[.int .i64 0, .int .i64 0] 23 (0, 0)) from by rw [old_block _ _ (block_lt hr4)]; exact hr4)
    have HB := Lib.hid (show Below w.heap.size w (w4.alloc (.cells #[.int .i64 x, .int .i64 y] 32)) from hB4.alloc hB4.size _)
    have r0 := two0 HR.out
    have r1 := two1 HR.out
    have f0 := free HR.out 0
    have f1 := free HR.out 1
    clear hb4 hr1 hB1 hr4 hB4 HRA
    unfold SV
    cases b with
    | false =>
      replace HV := Lib.hid (show readSpan s.data.toList = none from HV.out)
      go_wp2_with fail
      refine bodyPost_ret (ret_span rfl _ _ w.heap.size _ _ rfl (put2 HR.out _ _)) rfl ?_
      exact ⟨by rw [HV.out]; rfl, put2_below HB.out (Nat.le_refl _) _ _⟩
    | true =>
      have hfb := fine_bd (HF.out rfl)
      replace HV := Lib.hid (show readSpan s.data.toList = if x = -1 ∨ y = -1 then none else some (x, y + 1) from HV.out)
      by_cases hxy : x = -1 ∨ y = -1
      · replace HV := Lib.hid (show readSpan s.data.toList = none from by rw [HV.out, if_pos hxy])
        have bxy : ((x == -1) || (y == -1)) = true := by simpa using hxy
        by_cases hx : x = -1
        · have bx : (x == -1) = true := by rw [hx]; rfl
          clear hx hxy bxy hfb HF
          go_wp2_with fail
          refine bodyPost_ret (ret_span rfl _ _ w.heap.size _ _ rfl (put2 HR.out _ _)) rfl ?_
          exact ⟨by rw [HV.out]; rfl, put2_below HB.out (Nat.le_refl _) _ _⟩
        · have bx : (x == -1) = false := by rw [beq_eq_false_iff_ne]; exact hx
          have be : (y == -1) = true := by rw [beq_iff_eq]; exact hxy.resolve_left hx
          clear hx hxy bxy hfb HF
          go_wp2_with fail
          refine bodyPost_ret (ret_span rfl _ _ w.heap.size _ _ rfl (put2 HR.out _ _)) rfl ?_
          exact ⟨by rw [HV.out]; rfl, put2_below HB.out (Nat.le_refl _) _ _⟩
      · replace HV := Lib.hid (show readSpan s.data.toList = some (x, y + 1) from by rw [HV.out, if_neg hxy])
        have bx : (x == -1) = false := by rw [beq_eq_false_iff_ne]; omega
        have be : (y == -1) = false := by rw [beq_eq_false_iff_ne]; omega
        have hy1 : -1 ≤ y := hfb.2.1
        have hy2 : y ≤ 1099511627776 := hfb.2.2.2.1
        clear hxy hfb HF
        go_wp2_with fail
        refine bodyPost_ret (ret_span rfl _ _ w.heap.size _ _ rfl (put2 HR.out _ _)) rfl ?_
        exact ⟨by rw [HV.out]; rfl, put2_below HB.out (Nat.le_refl _) _ _⟩
/-- A length, and whether there is one. -/
def longV (o : Option Int) : Value := match o with
  | some n => .tuple #[.int .i64 n, .bool true]
  | none => .tuple #[.int .i64 0, .bool false]
theorem numOf_zero {s : ByteArray} {m : Int} (h : (Num.numOf s m).2 = false) : (Num.numOf s m).1 = 0 := by
  unfold Num.numOf at h ⊢
  split
  · rfl
  · rename_i h2; rw [if_neg h2] at h; cases h
set_option maxHeartbeats 4000000 in
theorem length_any (s : ByteArray) (w : World) (hs : s.size ≤ maxLen) :
    Calls Tryd.prog 17 #[.string s] w fun e w' => e = .returned (longV (readLong s.data.toList)) ∧ w = w' := by
  by_cases hst : s = ⟨#[42]⟩
  · have HV := Lib.hid (show readLong s.data.toList = some (-1) from by unfold readLong; rw [if_pos (star_iff.1 hst)])
    have hbe : (s.toList == [42]) = true := by rw [beq_iff_eq, ByteArray.toList_eq]; exact star_iff.1 hst
    clear hst
    go_enter Tryd.func17, Tryd.ntmps17
    go_wp2_with fail
    go_ret2
    exact ⟨by rw [HV.out]; rfl, rfl⟩
  · have hbe := star_ne hst
    have HV := Lib.hid (show readLong s.data.toList = if (Num.numOf s 1048577).2 then some (Num.numOf s 1048577).1 else none from by
      unfold readLong; rw [if_neg (fun h => hst (star_iff.2 h)), numT_of]; rfl)
    have HN := Lib.hid (fun V => Num.number_any s 1048577 V hs (by decide))
    have HZ := Lib.hid (numOf_zero (s := s) (m := 1048577))
    generalize Num.numOf s 1048577 = p at HV HN HZ
    obtain ⟨n, b⟩ := p
    clear hst hs
    go_enter Tryd.func17, Tryd.ntmps17
    go_wp2_with fail
    refine (HN.out _).mono ?_
    rintro e w1 ⟨rfl, rfl⟩
    go_wp2_with fail
    go_ret2
    refine ⟨?_, rfl⟩
    rw [HV.out]
    cases b with
    | true => rfl
    | false => have h : n = 0 := HZ.out rfl; subst h; rfl
end Go.Proofs.YthhnpdihgoiccaaDoor.Rn
