/-
  field.keep with the closure of without: what it returns. Conditions: fields of at most 2^20 bytes in all.
-/
import Derived.Test.YtacnlohfipcbdaaDoorFdMap
import Derived.Test.YtacnlohfipcbdaaDoorFdFew
import Derived.Test.YtacnlohfipcbdaaDoorFdClone
namespace Go.Proofs.YtacnlohfipcbdaaDoor.Fd
open Go.RowKit Tk Go.Maps
set_option linter.unusedVariables false

/-- Fields as cells. -/
def flat (fs : List Fl) : List Value := fs.flatMap fun f => [.string f.1, .string f.2]
theorem flat_snoc (fs : List Fl) (f : Fl) : flat (fs ++ [f]) = flat fs ++ [.string f.1, .string f.2] := by simp [flat]
theorem flat_length (fs : List Fl) : (flat fs).length = fs.length * 2 := by
  induction fs with
  | nil => rfl
  | cons f r ih => simp only [flat, List.flatMap_cons, List.length_append, List.length_cons, List.length_nil] at ih ⊢; omega
theorem flat_at (fs : List Fl) (j : Nat) (h : j < fs.length) : (flat fs)[j * 2]? = some (.string fs[j].1) ∧ (flat fs)[j * 2 + 1]? = some (.string fs[j].2) := by
  induction fs generalizing j with
  | nil => simp at h
  | cons f r ih =>
    cases j with
    | zero => exact ⟨rfl, rfl⟩
    | succ j =>
      have h2 := ih j (by simpa using h)
      have e1 : (j + 1) * 2 = j * 2 + 2 := by omega
      have e2 : (j + 1) * 2 + 1 = j * 2 + 1 + 2 := by omega
      rw [e2, e1]
      exact ⟨h2.1, h2.2⟩
theorem owns_kept {w w' : World} {base : Nat} {e : TypeId} {sz : Nat} {v : Value} {n : Nat} {xs : List Value} (h : w.ownsRow base e sz v n xs) (hb : Below w.heap.size w w') : w'.ownsRow base e sz v n xs := by
  refine ⟨h.1, ?_⟩
  rcases h.2 with h2 | ⟨g, cap, cur, hv, hg, hh, r⟩
  · exact .inl h2
  · exact .inr ⟨g, cap, cur, hv, hg, (hb.block g (block_lt hh)).trans hh, r⟩
theorem owns_mono {w : World} {base base' : Nat} {e : TypeId} {size : Nat} {v : Value} {n : Nat} {xs : List Value} (h : w.ownsRow base e size v n xs) (hb : base' ≤ base) : w.ownsRow base' e size v n xs := by
  refine ⟨h.1, ?_⟩
  rcases h.2 with h2 | ⟨g, cap, cur, hv, hg, r⟩
  · exact .inl h2
  · exact .inr ⟨g, cap, cur, hv, by omega, r⟩
/-- A slice of fields that a call made, in memory from base on. -/
def OwnF (w : World) (base : Nat) (v : Value) (fs : List Fl) : Prop := w.ownsRow base 23 2 v fs.length (flat fs)
theorem OwnF.nil (w : World) (base : Nat) : OwnF w base (.slice none 0 0) [] := World.ownsRow_nil _ _ _ _
theorem OwnF.flds {w : World} {base : Nat} {v : Value} {fs : List Fl} (h : OwnF w base v fs) : Flds w v fs := by
  rcases h.2 with ⟨hv, h0⟩ | ⟨g, cap, cur, hv, _, hg, _⟩
  · exact .inl ⟨List.length_eq_zero_iff.1 h0, none, 0, hv⟩
  · refine .inr ⟨g, 0, cap, hv, block_lt hg, fun j hj => ?_⟩
    have h' : w.ownsRow base 23 2 (.slice (some ⟨g, 0, none⟩) fs.length cap) fs.length (flat fs) := by rw [← hv]; exact h
    obtain ⟨a, b⟩ := flat_at fs j hj
    rw [Nat.zero_add, h'.cellAt (j * 2) (by omega), h'.cellAt (j * 2 + 1) (by omega), a, b]
    exact ⟨rfl, rfl⟩
theorem OwnF.kept {w w' : World} {base : Nat} {v : Value} {fs : List Fl} (h : OwnF w base v fs) (hb : Below w.heap.size w w') : OwnF w' base v fs := owns_kept h hb
theorem OwnF.form {w : World} {base : Nat} {v : Value} {fs : List Fl} (h : OwnF w base v fs) : ∃ a cap, v = .slice a fs.length cap := h.flds.shape
theorem OwnF.row {w : World} {base : Nat} {v : Value} {fs : List Fl} (h : OwnF w base v fs) : ∀ k, v.ownBlock = some k → base ≤ k := fun k hk => (World.ownsRow.lt h k hk).1
theorem one_cells (x y : ByteArray) : ∀ u ∈ [Value.string x, Value.string y], u.oneCell' = true := by intro u hu; simp at hu; rcases hu with rfl | rfl <;> rfl
theorem news_at {w : World} {g : Nat} {x y : Value} {t : TypeId} (h : w.heap[g]? = some (.cells #[x, y] t (0, 0))) : ∀ j u, [x, y][j]? = some u → w.cell? ((⟨g, 0, none⟩ : Addr).add j) = some u := by
  intro j u hu
  match j, hu with
  | 0, hu => simp at hu; subst hu; exact two0 h
  | 1, hu => simp at hu; subst hu; exact two1 h

/-- The fields whose name is none of these small-lettered names. -/
def keepF (fs : List Fl) (ls : List Bs) : List Fl := fs.filter fun f => !ls.contains (lower f.1.data.toList)
theorem keep_yes (fs : List Fl) (ls : List Bs) (k : Nat) (h : k < fs.length) (hp : ls.contains (lower fs[k].1.data.toList) = false) : keepF (fs.take (k + 1)) ls = keepF (fs.take k) ls ++ [fs[k]] := by
  unfold keepF; rw [filter_next _ _ _ h, hp]; rfl
theorem keep_no (fs : List Fl) (ls : List Bs) (k : Nat) (h : k < fs.length) (hp : ls.contains (lower fs[k].1.data.toList) = true) : keepF (fs.take (k + 1)) ls = keepF (fs.take k) ls := by
  unfold keepF; rw [filter_next _ _ _ h, hp]; simp
theorem keep_len (fs : List Fl) (ls : List Bs) (k : Nat) : (keepF (fs.take k) ls).length ≤ k := by
  unfold keepF; exact Nat.le_trans (List.length_filter_le _ _) (List.length_take_le _ _)

def KeepPost (fs : List Fl) (w : World) (e : Ending) (w' : World) : Prop := ∃ u, e = .returned u ∧ OwnF w' w.heap.size u fs ∧ Below w.heap.size w w'

set_option maxHeartbeats 4000000 in
theorem keep_any (v : Value) (fs : List Fl) (M C : Nat) (ls : List Bs) (w : World) (hf : Flds w v fs) (ht : tot fs ≤ 1048576) (hM : SetOf w M ls) (hC : w.heap[C]? = some (.cells #[.map (some M)] 73 (0, 0))) :
    Calls Tryd.prog 53 #[v, .func (Fn.func 54) #[] #[.pointer (some ⟨C, 0, none⟩)]] w (KeepPost (keepF fs ls) w) := by
  rcases hf with ⟨rfl, a, cap, rfl⟩ | ⟨b, off, cap, rfl, hlt, hc⟩
  · have HO := Lib.hid (OwnF.nil w w.heap.size)
    clear hM hC
    go_enter Tryd.func53, Tryd.ntmps53
    go_wp2_with fail
    refine wp_loop_rounds 1 ?_
    rw [rounds_succ]
    go_wp2_with fail
    go_ret
    exact ⟨_, rfl, HO.out, Below.refl _ _⟩
  · have HC := Lib.hid hc
    have HM := Lib.hid hM
    have HV := Lib.hid hC
    have hMl := hM.lt
    have hCl := block_lt hC
    have hlen := tot_len fs
    have HO := Lib.hid (OwnF.nil w w.heap.size)
    clear hc hM hC
    obtain ⟨i0, hi, hz0, hz1, hz2⟩ := info_parts infoField
    go_enter Tryd.func53, Tryd.ntmps53
    go_wp2_with fail
    go_loopw [5, 10] (fun o i wr => ∃ k : Nat, k ≤ fs.length ∧ i = .int .i64 (k : Int) ∧ OwnF wr w.heap.size o (keepF (fs.take k) ls) ∧ Below w.heap.size w wr) (fun _ i _ => fs.length - (intOf i).toNat)
    case atStart => exact ⟨0, Nat.zero_le _, rfl, HO.out, Below.refl _ _⟩
    case round =>
      obtain ⟨k, hk, rfl, hO, hB⟩ := hrel
      have HOk := Lib.hid hO
      clear hO HO
      have hsz := hB.size
      by_cases hlt2 : k < fs.length
      · have c1 : wr.cell? ⟨b, off + k * 2, none⟩ = some (.string fs[k].1) := (hB.cell (p := ⟨b, off + k * 2, none⟩) hlt).trans (HC.out k hlt2).1
        have c2 : wr.cell? ⟨b, off + k * 2 + 1, none⟩ = some (.string fs[k].2) := (hB.cell (p := ⟨b, off + k * 2 + 1, none⟩) hlt).trans (HC.out k hlt2).2
        have hx2 := tot_at fs k hlt2
        have hkl := keep_len fs ls k
        cases hh : ls.contains (lower fs[k].1.data.toList) with
        | true =>
          have HN := Lib.hid (keep_no fs ls k hlt2 hh)
          have HH := Lib.hid hh
          obtain ⟨x, hx⟩ : ∃ x, x = fs[k].1 := ⟨_, rfl⟩
          obtain ⟨y, hy⟩ : ∃ y, y = fs[k].2 := ⟨_, rfl⟩
          rw [← hx] at c1 HH hx2
          rw [← hy] at c2 hx2
          have hB0 := hB.alloc hsz (.cells #[.string x, .string y] 23)
          have HO0 := Lib.hid (HOk.out.kept ((Below.refl _ _).alloc (Nat.le_refl _) (.cells #[.string x, .string y] 23)))
          clear hx hy hh HOk
          go_wp2_with fail
          refine (wanted_any M C ls x y _ (HM.out.old hB0 hMl) (Bl.old hB0 hCl HV.out) (by unfold maxLen; omega)).mono ?_
          rintro e w1 ⟨rfl, hb1⟩
          rw [HH.out]
          have hB1 := Bl.next hB0 hb1
          have HO1 := Lib.hid (HO0.out.kept hb1)
          clear hb1 HO0 hB0
          go_wp2_with fail
          go_roundw
          case rel => exact ⟨k + 1, by omega, by go_num, by rw [HN.out]; exact HO1.out, hB1⟩
          case measure => simp [intOf]; omega
        | false =>
          have HN := Lib.hid (keep_yes fs ls k hlt2 hh)
          have HH := Lib.hid hh
          have HXY := Lib.hid (show fs[k] = (fs[k].1, fs[k].2) from rfl)
          obtain ⟨x, hx⟩ : ∃ x, x = fs[k].1 := ⟨_, rfl⟩
          obtain ⟨y, hy⟩ : ∃ y, y = fs[k].2 := ⟨_, rfl⟩
          rw [← hx] at c1 HH hx2 HXY
          rw [← hy] at c2 hx2 HXY
          have hB0 := hB.alloc hsz (.cells #[.string x, .string y] 23)
          have HO0 := Lib.hid (HOk.out.kept ((Below.refl _ _).alloc (Nat.le_refl _) (.cells #[.string x, .string y] 23)))
          have hr0 := new_block wr (.cells #[.string x, .string y] 23)
          clear hx hy hh HOk
          go_wp2_with fail
          refine (wanted_any M C ls x y _ (HM.out.old hB0 hMl) (Bl.old hB0 hCl HV.out) (by unfold maxLen; omega)).mono ?_
          rintro e w1 ⟨rfl, hb1⟩
          rw [HH.out]
          have hB1 := Bl.next hB0 hb1
          have HO1 := Lib.hid (HO0.out.kept hb1)
          have hr1 := Bl.old hb1 (block_lt hr0) hr0
          have d0 := two0 hr1
          have d1 := two1 hr1
          clear hb1 HO0 hB0 hr0
          go_wp2_with fail
          refine (cloneF_any x y _ (by omega) (by omega)).mono ?_
          rintro e w2 ⟨rfl, hb2⟩
          have hB2 := Bl.next hB1 hb2
          have HO2 := Lib.hid (HO1.out.kept hb2)
          have hsz2 := hB2.size
          clear hb2 HO1 hB1 hr1 d0 d1
          have HN2 := Lib.hid (news_at (new_block w2 (.cells #[.string x, .string y] 23)))
          have HO3 := Lib.hid (HO2.out.kept ((Below.refl _ _).alloc (Nat.le_refl _) (.cells #[.string x, .string y] 23)))
          have hB3 := hB2.alloc hsz2 (.cells #[.string x, .string y] 23)
          clear HO2 hB2
          go_wp2_with (at_builtin; refine wpList_append_own _ rfl _ _ 25 rfl w.heap.size 23 i0 (.agg #[.string ⟨#[]⟩, .string ⟨#[]⟩]) 2 32 Tryd.underlying25 hi hz0 hz1 hz2 rfl (by decide) _ _ _ rfl HO3.out ⟨w2.heap.size, 0, none⟩ 1 1 [.string x, .string y] rfl rfl HN2.out (one_cells x y) (by unfold maxLen; omega) (by omega) (by simp; omega) ?_; intro v' w3 hown' hgrow hnil)
          have hB4 := hB3.grown hgrow hB3.size HO3.out.row
          go_roundw
          case rel => exact ⟨k + 1, by omega, by go_num, by rw [HN.out, HXY.out]; unfold OwnF; rw [flat_snoc, List.length_append]; exact hown', hB4⟩
          case measure => simp [intOf]; omega
      · have HE := Lib.hid (show fs.take k = fs from List.take_of_length_le (by omega))
        rw [HE.out] at HOk
        go_wp2_with fail
        go_ret
        exact ⟨_, rfl, HOk.out, hB⟩
end Go.Proofs.YtacnlohfipcbdaaDoor.Fd
