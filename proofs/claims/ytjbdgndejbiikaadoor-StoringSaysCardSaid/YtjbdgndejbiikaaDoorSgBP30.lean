/-
  Texts that the laws' proofs stand on, 3 of them in one file; each one's head says what it proves and under which condition.
-/
import Derived.Test.YtjbdgndejbiikaaDoorSgBP12
import Derived.Test.YtjbdgndejbiikaaDoorSgBP26
import Derived.Test.YtjbdgndejbiikaaDoorSgBP28
import Derived.Test.YtjbdgndejbiikaaDoorSgBP29
import Derived.Laws.AppendOwnNone
import Derived.Laws.CopyRow
/-
  field.Strip: what it returns. Conditions: fields of at most 2^20 bytes in all (2^18); the table of token bytes.
-/
namespace Go.Proofs.YtjbdgndejbiikaaDoor.Fd
open Go.RowKit Tk
set_option linter.unusedVariables false

/-- Seven texts that lie in a block, as the cells of a row. -/
theorem cells_seven {w : World} {g : Nat} {xs : Array Value} {t : TypeId} (h : w.heap[g]? = some (.cells xs t (0, 0))) : ∀ j u, xs.toList[j]? = some u → w.cell? ((⟨g, 0, none⟩ : Addr).add j) = some u := by
  intro j u hu
  rw [Addr.add_lit, Nat.zero_add, Lib.cell_of_heap h]
  simpa using hu
def rowU : Array Value := #[.string ⟨#[67, 111, 110, 110, 101, 99, 116, 105, 111, 110]⟩, .string ⟨#[75, 101, 101, 112, 45, 65, 108, 105, 118, 101]⟩, .string ⟨#[80, 114, 111, 120, 121, 45, 67, 111, 110, 110, 101, 99, 116, 105, 111, 110]⟩, .string ⟨#[84, 69]⟩, .string ⟨#[84, 114, 97, 105, 108, 101, 114]⟩, .string ⟨#[84, 114, 97, 110, 115, 102, 101, 114, 45, 69, 110, 99, 111, 100, 105, 110, 103]⟩, .string ⟨#[85, 112, 103, 114, 97, 100, 101]⟩]
theorem rowU_eq : rowU.toList = sevenU.map TS := by kernel_rfl
theorem rowU_one : ∀ u ∈ rowU.toList, u.oneCell' = true := by rw [rowU_eq]; intro u hu; obtain ⟨x, _, rfl⟩ := List.mem_map.1 hu; rfl
theorem texts_of_row {w : World} {base : Nat} {v : Value} {ls : List Bs} (h : w.ownsRow base 9 1 v ls.length (ls.map TS)) : Texts w v ls := Texts.of_owns h rfl

set_option maxHeartbeats 4000000 in
theorem strip_any (v : Value) (fs : List Fl) (w : World) (hf : Flds w v fs) (ht : tot fs ≤ 262144) (hT : Tab w) :
    Calls Tryd.prog 19 #[v] w (KeepPost (stripF fs) w) := by
  have HF := Lib.hid hf
  have hll := listed_length fs
  have HLP := Lib.hid (listed_piece fs)
  have HSP := Lib.hid (strip_prog fs)
  obtain ⟨i0, hi, hz0, hz1, hz2⟩ := info_parts infoText
  clear hf
  go_enter Tryd.func19, Tryd.ntmps19
  go_wp2_with fail
  refine (names_any v fs ⟨#[67, 111, 110, 110, 101, 99, 116, 105, 111, 110]⟩ _ HF.out (by omega) (by decide) hT).mono ?_
  rintro e x1 ⟨hB1, h1⟩
  have hN : ∃ u b, e = .returned (.tuple #[u, .bool b]) ∧ x1.ownsRow w.heap.size 9 1 u (listed fs).length ((listed fs).map TS) := by
    rcases h1 with ⟨h, he⟩ | ⟨ls, u, h, he, ho⟩
    · rw [listed_none h]; exact ⟨_, _, he, World.ownsRow_nil _ _ _ _⟩
    · rw [listed_some h]; exact ⟨_, _, he, ho⟩
  obtain ⟨u, b, rfl, hO⟩ := hN
  have HR := Lib.hid (cells_seven (new_block x1 (.cells rowU 9)))
  have HO := Lib.hid (owns_kept hO ((Below.refl _ _).alloc (Nat.le_refl _) (.cells rowU 9)))
  have hB2 := hB1.alloc hB1.size (.cells rowU 9)
  have hsz := hB1.size
  clear h1 hO
  go_wp2_with (at_builtin; refine wpList_append_own _ rfl _ _ 40 rfl w.heap.size 9 i0 (.string ⟨#[]⟩) 1 16 Tryd.underlying40 hi hz0 hz1 hz2 rfl (by decide) _ _ _ rfl HO.out ⟨x1.heap.size, 0, none⟩ 7 7 rowU.toList rfl rfl HR.out rowU_one (by unfold maxLen; omega) (by omega) (by simp; omega) ?_; intro v' x2 hown' hgrow hnil)
  have hB3 := hB2.grown hgrow hB2.size (fun q hq => (World.ownsRow.lt HO.out q hq).1)
  have HT2 := Lib.hid (show Texts x2 v' (listed fs ++ sevenU) from texts_of_row (base := w.heap.size) (by
    rw [List.length_append, List.map_append, ← rowU_eq]; exact hown'))
  clear hown' hgrow hnil
  refine (without_any v v' fs (listed fs ++ sevenU) _ (HF.out.below hB3 (Nat.le_refl _)) (by omega) HT2.out (by rw [List.length_append]; show _ + 7 ≤ _; omega) (fun x hx => ?_)).mono ?_
  · rw [List.mem_append] at hx
    rcases hx with hx | hx
    · have := HLP.out x hx; omega
    · have h7 : ∀ y ∈ sevenU, y.length ≤ 17 := by decide
      have := h7 x hx; omega
  rintro e x3 ⟨r, rfl, hO3, hb3⟩
  rw [HSP.out] at hO3
  have HO3 := Lib.hid hO3
  obtain ⟨ra, rc, hr⟩ := hO3.form
  clear hO3
  rw [hr] at HO3
  rw [hr]
  clear hr
  have hB4 := Bl.next hB3 hb3
  go_wp2_with fail
  go_ret
  exact ⟨_, rfl, owns_mono HO3.out hB3.size, hB4⟩
end Go.Proofs.YtjbdgndejbiikaaDoor.Fd
/-
  storing.ofBody, and slices.IndexFunc and slices.DeleteFunc with it: what each returns. Conditions: fields that a call made, of at most 2^20 bytes in all.
-/
namespace Go.Proofs.YtjbdgndejbiikaaDoor.Sg
open Go.RowKit Go.Proofs.YtjbdgndejbiikaaDoor.Tk Go.Proofs.YtjbdgndejbiikaaDoor.Fd
set_option maxRecDepth 100000
set_option linter.unusedVariables false

/-- Does a field speak of the body? -/
def bodyF (f : Fl) : Bool := stay.contains (lower f.1.data.toList)
theorem keep_body (fs : List Fl) : keepF fs stay = fs.filter fun f => !bodyF f := rfl
theorem text_ne {s : ByteArray} {l : Bs} (h : s ≠ ⟨l.toArray⟩) : (s.toList == l) = false := by
  rw [beq_eq_false_iff_ne, ByteArray.toList_eq]; intro e; apply h
  cases s with
  | mk d => cases d with
    | mk r => simp at e; subst e; rfl
theorem stay_no {L : ByteArray} (h0 : (L.toList == [99, 111, 110, 116, 101, 110, 116, 45, 108, 101, 110, 103, 116, 104]) = false) (h1 : (L.toList == [99, 111, 110, 116, 101, 110, 116, 45, 101, 110, 99, 111, 100, 105, 110, 103]) = false) (h2 : (L.toList == [99, 111, 110, 116, 101, 110, 116, 45, 114, 97, 110, 103, 101]) = false) (h3 : (L.toList == [99, 111, 110, 116, 101, 110, 116, 45, 116, 121, 112, 101]) = false) (h4 : (L.toList == [116, 114, 97, 110, 115, 102, 101, 114, 45, 101, 110, 99, 111, 100, 105, 110, 103]) = false) : stay.contains L.data.toList = false := by
  rw [ByteArray.toList_eq] at h0 h1 h2 h3 h4
  unfold stay
  simp only [List.contains_cons, h0, h1, h2, h3, h4]
  rfl

set_option maxHeartbeats 4000000 in
theorem ofBody_any (n v : ByteArray) (w : World) (hn : n.size ≤ maxLen) :
    Calls Tryd.prog 20 #[.agg #[.string n, .string v]] w fun e w' => e = .returned (.bool (bodyF (n, v))) ∧ Below w.heap.size w w' := by
  obtain ⟨L, hL⟩ : ∃ L : ByteArray, L = ⟨(lower n.data.toList).toArray⟩ := ⟨_, rfl⟩
  have HL := Lib.hid hL
  obtain ⟨b, hb⟩ : ∃ b, bodyF (n, v) = b := ⟨_, rfl⟩
  have HR := Lib.hid (show stay.contains L.data.toList = b from by rw [hL, ← hb]; rfl)
  rw [hb]
  clear hL hb
  go_enter Tryd.func20, Tryd.ntmps20
  go_wp2_with fail
  refine (lower_any n _ hn).mono ?_
  rintro e w1 ⟨rfl, hb1⟩
  rw [← HL.out]
  have HB := Lib.hid (((Below.refl w.heap.size w).alloc (Nat.le_refl _) (.cells #[.string n, .string v] 27)).trans (hb1.mono (by simp)))
  clear hb1 HL
  cases e0 : (L.toList == [99, 111, 110, 116, 101, 110, 116, 45, 108, 101, 110, 103, 116, 104]) with
  | true =>
    have hb : true = b := by
      rw [← HR.out]; rw [ByteArray.toList_eq, beq_iff_eq] at e0; rw [e0]; rfl
    subst hb
    clear HR
    go_wp2_with fail
    go_ret
    exact ⟨rfl, HB.out⟩
  | false =>
  cases e1 : (L.toList == [99, 111, 110, 116, 101, 110, 116, 45, 101, 110, 99, 111, 100, 105, 110, 103]) with
  | true =>
    have hb : true = b := by
      rw [← HR.out]; rw [ByteArray.toList_eq, beq_iff_eq] at e1; rw [e1]; rfl
    subst hb
    clear HR
    go_wp2_with fail
    go_ret
    exact ⟨rfl, HB.out⟩
  | false =>
  cases e2 : (L.toList == [99, 111, 110, 116, 101, 110, 116, 45, 114, 97, 110, 103, 101]) with
  | true =>
    have hb : true = b := by
      rw [← HR.out]; rw [ByteArray.toList_eq, beq_iff_eq] at e2; rw [e2]; rfl
    subst hb
    clear HR
    go_wp2_with fail
    go_ret
    exact ⟨rfl, HB.out⟩
  | false =>
  cases e3 : (L.toList == [99, 111, 110, 116, 101, 110, 116, 45, 116, 121, 112, 101]) with
  | true =>
    have hb : true = b := by
      rw [← HR.out]; rw [ByteArray.toList_eq, beq_iff_eq] at e3; rw [e3]; rfl
    subst hb
    clear HR
    go_wp2_with fail
    go_ret
    exact ⟨rfl, HB.out⟩
  | false =>
  cases e4 : (L.toList == [116, 114, 97, 110, 115, 102, 101, 114, 45, 101, 110, 99, 111, 100, 105, 110, 103]) with
  | true =>
    have hb : true = b := by
      rw [← HR.out]; rw [ByteArray.toList_eq, beq_iff_eq] at e4; rw [e4]; rfl
    subst hb
    clear HR
    go_wp2_with fail
    go_ret
    exact ⟨rfl, HB.out⟩
  | false =>
    have hb : false = b := by rw [← HR.out]; exact (stay_no e0 e1 e2 e3 e4).symm
    subst hb
    clear HR
    go_wp2_with fail
    go_ret
    exact ⟨rfl, HB.out⟩

/-- The function, as a value. -/
abbrev ofB : Value := .func (.func 20) #[] #[]
theorem all_not_next {fs : List Fl} {k : Nat} (hk : k < fs.length) (h : (fs.take k).all (fun f => !bodyF f) = true) (hx : bodyF fs[k] = false) : (fs.take (k + 1)).all (fun f => !bodyF f) = true := by
  rw [List.take_succ_eq_append_getElem hk, List.all_append, h]; simp [hx]
set_option maxHeartbeats 4000000 in
theorem indexFunc_any (v : Value) (fs : List Fl) (w : World) (hf : Flds w v fs) (ht : tot fs ≤ 1048576) :
    Calls Tryd.prog 33 #[v, ofB] w fun e w' => (∃ r : Int, e = .returned (.int .i64 r) ∧ ((r = -1 ∧ fs.all (fun f => !bodyF f) = true) ∨ ∃ (k : Nat) (hk : k < fs.length), r = (k : Int) ∧ bodyF fs[k] = true ∧ (fs.take k).all (fun f => !bodyF f) = true)) ∧ Below w.heap.size w w' := by
  rcases hf with ⟨rfl, a, cap, rfl⟩ | ⟨b, off, cap, rfl, hlt, hc⟩
  · go_enter Tryd.func33, Tryd.ntmps33
    go_wp2_with fail
    refine wp_loop_rounds 1 ?_
    rw [rounds_succ]
    go_wp2_with fail
    go_ret
    exact ⟨⟨_, rfl, .inl ⟨rfl, rfl⟩⟩, Below.refl _ _⟩
  · have HC := Lib.hid hc
    have hlen := tot_len fs
    clear hc
    go_enter Tryd.func33, Tryd.ntmps33
    go_wp2_with fail
    go_loopw [8] (fun i wr => ∃ k : Nat, k ≤ fs.length ∧ i = .int .i64 (k : Int) ∧ (fs.take k).all (fun f => !bodyF f) = true ∧ Below w.heap.size w wr) (fun i _ => fs.length - (intOf i).toNat)
    case atStart => exact ⟨0, Nat.zero_le _, rfl, rfl, Below.refl _ _⟩
    case round =>
      obtain ⟨k, hk, rfl, hal, hB⟩ := hrel
      have HAL := Lib.hid hal
      clear hal
      by_cases hlt2 : k < fs.length
      · have c1 : wr.cell? ⟨b, off + k * 2, none⟩ = some (.string fs[k].1) := (hB.cell (p := ⟨b, off + k * 2, none⟩) hlt).trans (HC.out k hlt2).1
        have c2 : wr.cell? ⟨b, off + k * 2 + 1, none⟩ = some (.string fs[k].2) := (hB.cell (p := ⟨b, off + k * 2 + 1, none⟩) hlt).trans (HC.out k hlt2).2
        have hx2 := tot_at fs k hlt2
        obtain ⟨q, hq⟩ : ∃ q, q = bodyF fs[k] := ⟨_, rfl⟩
        have HT := Lib.hid (show q = true → bodyF fs[k] = true ∧ (fs.take k).all (fun f => !bodyF f) = true from fun h => ⟨by rw [← hq]; exact h, HAL.out⟩)
        have HN := Lib.hid (show q = false → (fs.take (k + 1)).all (fun f => !bodyF f) = true from fun h => all_not_next hlt2 HAL.out (by rw [← hq]; exact h))
        have HQ := Lib.hid (show bodyF (fs[k].1, fs[k].2) = q from hq.symm)
        obtain ⟨x, hx⟩ : ∃ x, x = fs[k].1 := ⟨_, rfl⟩
        obtain ⟨y, hy⟩ : ∃ y, y = fs[k].2 := ⟨_, rfl⟩
        rw [← hx] at c1 hx2 HQ
        rw [← hy] at c2 hx2 HQ
        clear hx hy hq
        go_wp2_with fail
        refine (ofBody_any x y _ (by unfold maxLen; omega)).mono ?_
        rintro e w1 ⟨rfl, hb1⟩
        rw [HQ.out]
        have hB1 := Bl.next hB hb1
        clear hb1
        cases q with
        | true =>
          have hT := HT.out rfl
          clear HT HN
          go_wp2_with fail
          go_ret
          exact ⟨⟨_, rfl, .inr ⟨k, hlt2, rfl, hT⟩⟩, hB1⟩
        | false =>
          have hN := Lib.hid (HN.out rfl)
          clear HT HN
          go_wp2_with fail
          go_roundw
          case rel => exact ⟨k + 1, by omega, by go_num, hN.out, hB1⟩
          case measure => simp [intOf]; omega
      · have HE := Lib.hid (show fs.all (fun f => !bodyF f) = true from by have h := HAL.out; rwa [List.take_of_length_le (by omega)] at h)
        go_wp2_with fail
        go_ret
        exact ⟨⟨_, rfl, .inl ⟨rfl, HE.out⟩⟩, hB⟩
end Go.Proofs.YtjbdgndejbiikaaDoor.Sg
/-
  slices.DeleteFunc with storing.ofBody: what it returns. Condition: fields that a call made, of at most 2^20 bytes in all.
-/
namespace Go.Proofs.YtjbdgndejbiikaaDoor.Sg
open Go.RowKit Go.Proofs.YtjbdgndejbiikaaDoor.Tk Go.Proofs.YtjbdgndejbiikaaDoor.Fd
set_option maxRecDepth 100000
set_option linter.unusedVariables false

theorem flat_set (fs : List Fl) (k : Nat) (hk : k < fs.length) (x y : ByteArray) : flat (fs.set k (x, y)) = ((flat fs).set (k * 2) (.string x)).set (k * 2 + 1) (.string y) := by
  induction fs generalizing k with
  | nil => simp at hk
  | cons f r ih =>
    cases k with
    | zero => rfl
    | succ k =>
      have h := ih k (by simpa using hk)
      have e1 : (k + 1) * 2 = k * 2 + 1 + 1 := by omega
      show [Value.string f.1, .string f.2] ++ flat (r.set k (x, y)) = _
      rw [h, e1]
      rfl
theorem flat_take (fs : List Fl) (k : Nat) : (flat fs).take (k * 2) = flat (fs.take k) := by
  induction fs generalizing k with
  | nil => simp [flat]
  | cons f r ih =>
    cases k with
    | zero => simp [flat]
    | succ k =>
      have e1 : (k + 1) * 2 = k * 2 + 1 + 1 := by omega
      show ([Value.string f.1, .string f.2] ++ flat r).take _ = [Value.string f.1, .string f.2] ++ flat (r.take k)
      rw [e1, ← ih k]
      rfl
/-- A field stored over another one of a list that a call made. -/
theorem own_put {w : World} {base g n cap : Nat} {fs : List Fl} (h : OwnF w base (.slice (some ⟨g, 0, none⟩) n cap) fs) (k : Nat) (hk : k < fs.length) (x y : ByteArray) :
    OwnF ((w.setCell ⟨g, k * 2, none⟩ (.string x)).setCell ⟨g, k * 2 + 1, none⟩ (.string y)) base (.slice (some ⟨g, 0, none⟩) n cap) (fs.set k (x, y)) := by
  obtain ⟨a, c, hv⟩ := h.form
  have hn : n = fs.length := by injection hv
  unfold OwnF at h ⊢
  rw [flat_set fs k hk, List.length_set]
  subst hn
  exact (((h.stored (k * 2) (.string x)).1).stored (k * 2 + 1) (.string y)).1
/-- The first ones of a list that a call made. -/
theorem own_take {w : World} {base g n cap : Nat} {fs : List Fl} (h : OwnF w base (.slice (some ⟨g, 0, none⟩) n cap) fs) (k : Nat) (hk : k ≤ fs.length) : OwnF w base (.slice (some ⟨g, 0, none⟩) k cap) (fs.take k) := by
  have hl : (fs.take k).length = k := by rw [List.length_take]; omega
  rcases h.2 with ⟨h', _⟩ | ⟨g', cap', cur, h', hb, hg, hnc, hcm, hcs, htake⟩
  · simp at h'
  · simp only [Value.slice.injEq, Option.some.injEq, Addr.mk.injEq, and_true] at h'
    obtain ⟨rfl, rfl, rfl⟩ := h'
    refine ⟨by rw [flat_length], .inr ⟨g, cap, cur, by rw [hl], hb, hg, by omega, hcm, hcs, ?_⟩⟩
    rw [← flat_take, ← htake, List.take_take, hl]
    congr 1
    omega
theorem zeroField (w : World) : (zeroValue 27).run Tryd.prog w = .ok (.agg #[.string ⟨#[]⟩, .string ⟨#[]⟩]) w := by kernel_rfl
theorem zero_cells (n : Nat) : (Builtin.zeroCells #[.string ⟨#[]⟩, .string ⟨#[]⟩] n).toList.length = n * 2 ∧ ∀ v ∈ (Builtin.zeroCells #[.string ⟨#[]⟩, .string ⟨#[]⟩] n).toList, v.oneCell' = true := by
  refine ⟨by simp [Builtin.zeroCells], fun v hv => ?_⟩
  unfold Builtin.zeroCells at hv
  rw [Array.mem_toList_iff, Array.mem_map] at hv
  obtain ⟨i, _, rfl⟩ := hv
  have h2 : i % (#[Value.string ⟨#[]⟩, .string ⟨#[]⟩] : Array Value).size = 0 ∨ i % (#[Value.string ⟨#[]⟩, .string ⟨#[]⟩] : Array Value).size = 1 := by
    show i % 2 = 0 ∨ i % 2 = 1
    omega
  rcases h2 with h2 | h2 <;> rw [h2] <;> rfl
/-- The last ones of a list that a call made, cleared. -/
theorem own_clear {w : World} {base g n cap : Nat} {fs : List Fl} (h : OwnF w base (.slice (some ⟨g, 0, none⟩) n cap) fs) (k : Nat) (hk : k < n) (m : Nat) (hm : m = n - k) (c : Nat) :
    ∃ W', (∀ ty, (Builtin.clear_ #[22] ty #[.slice (some ⟨g, k * 2, none⟩) m c]).run Tryd.prog w = .ok (.tuple #[]) W') ∧ OwnF W' base (.slice (some ⟨g, 0, none⟩) k cap) (fs.take k) ∧ w.grownBy W' (some g) := by
  obtain ⟨a, c', hv⟩ := h.form
  have hn : n = fs.length := by injection hv
  subst hn
  have h0 := h
  rcases h.2 with ⟨h', _⟩ | ⟨g', cap', cur, h', hb, hg, hnc, hcm, hcs, htake⟩
  · simp at h'
  · simp only [Value.slice.injEq, Option.some.injEq, Addr.mk.injEq, and_true, true_and] at h'
    obtain ⟨rfl, rfl⟩ := h'
    have hz := zero_cells m
    have hst := run_storeCells_at (P := Tryd.prog) g (k * 2) 27 _ 0 cur w hg (by rw [hz.1]; omega) hz.2
    rw [Nat.add_zero, hz.1] at hst
    obtain ⟨R, hR⟩ : ∃ R, R = (cur.toList.take (k * 2) ++ (Builtin.zeroCells #[.string ⟨#[]⟩, .string ⟨#[]⟩] m).toList ++ cur.toList.drop (k * 2 + m * 2)).toArray := ⟨_, rfl⟩
    rw [← hR] at hst
    have hRs : R.size = cap * 2 := by rw [hR]; simp [hz.1]; omega
    have hRt : R.toList.take (k * 2) = cur.toList.take (k * 2) := by
      have hcl : cur.toList.length = cap * 2 := by simpa using hcs
      rw [hR]
      simp only [List.append_assoc]
      rw [List.take_append_of_le_length (by rw [List.length_take]; omega), List.take_take]
      congr 1
      omega
    clear hR
    obtain ⟨l, rfl⟩ : ∃ l, m = l + 1 := ⟨m - 1, by omega⟩
    refine ⟨w.setRow g R, fun ty => by simp [Builtin.clear_, run_underlying Tryd.underlying22, Value.cells, hst], ?_, ?_⟩
    · have hl : (fs.take k).length = k := by rw [List.length_take]; omega
      refine ⟨by rw [flat_length], .inr ⟨g, cap, R, by rw [hl], hb, setRow_heap w g cur _ _ _ hg, by omega, hcm, hRs, ?_⟩⟩
      rw [hl, hRt, ← flat_take, ← htake, List.take_take]
      congr 1
      omega
    · exact ⟨rfl, rfl, rfl, by simp [World.setRow], fun j _ hj => setRow_other w g j _ (fun e => hj (by rw [e]))⟩
end Go.Proofs.YtjbdgndejbiikaaDoor.Sg
