/-
  Texts that the laws' proofs stand on, 3 of them in one file; each one's head says what it proves and under which condition.
-/
import Derived.Test.YtjbdgndejbiikaaDoorSgBP30
import Derived.Deep.DeepCutAuto
import Derived.Test.YtjbdgndejbiikaaDoorSgBP16
import Derived.Deep.AppendLies
import Derived.Test.YtjbdgndejbiikaaDoorSgBP26
import Derived.Laws.AppendOwnNone
/-
  slices.DeleteFunc with storing.ofBody: what it returns. Condition: fields that a call made, of at most 2^20 bytes in all.
-/
namespace Go.Proofs.YtjbdgndejbiikaaDoor.Sg
open Go.RowKit Go.Proofs.YtjbdgndejbiikaaDoor.Tk Go.Proofs.YtjbdgndejbiikaaDoor.Fd
set_option maxRecDepth 100000
set_option linter.unusedVariables false

def keptF (fs : List Fl) : List Fl := fs.filter fun f => !bodyF f
/-- Where the loop stands: the first i are what is kept of the first j, the others are as they were. -/
structure Dl (fs : List Fl) (i j : Nat) (cur : List Fl) : Prop where
  lt : i < j
  le : j ≤ fs.length
  len : cur.length = fs.length
  first : cur.take i = keptF (fs.take j)
  last : cur.drop j = fs.drop j
theorem kept_next (fs : List Fl) (j : Nat) (hj : j < fs.length) : keptF (fs.take (j + 1)) = keptF (fs.take j) ++ if bodyF fs[j] then [] else [fs[j]] := by
  unfold keptF
  rw [List.take_succ_eq_append_getElem hj, List.filter_append]
  congr 1
  cases h : bodyF fs[j] <;> simp [h]
theorem Dl.at {fs : List Fl} {i j : Nat} {cur : List Fl} (h : Dl fs i j cur) (hj : j < fs.length) : cur[j]'(by rw [h.len]; exact hj) = fs[j] := by
  have h1 : (cur.drop j)[0]? = (fs.drop j)[0]? := by rw [h.last]
  rw [List.getElem?_drop, List.getElem?_drop, Nat.add_zero, List.getElem?_eq_getElem hj, List.getElem?_eq_getElem (by rw [h.len]; exact hj)] at h1
  injection h1
theorem drop_more {cur fs : List Fl} {j : Nat} (h : cur.drop j = fs.drop j) : cur.drop (j + 1) = fs.drop (j + 1) := by
  rw [← List.drop_drop, ← List.drop_drop, h]
theorem Dl.skip {fs : List Fl} {i j : Nat} {cur : List Fl} (h : Dl fs i j cur) (hj : j < fs.length) (hb : bodyF fs[j] = true) : Dl fs i (j + 1) cur := by
  have := h.lt
  refine ⟨by omega, hj, h.len, ?_, drop_more h.last⟩
  rw [kept_next fs j hj, hb, if_pos rfl, List.append_nil]; exact h.first
theorem Dl.put {fs : List Fl} {i j : Nat} {cur : List Fl} (h : Dl fs i j cur) (hj : j < fs.length) (hb : bodyF fs[j] = false) : Dl fs (i + 1) (j + 1) (cur.set i fs[j]) := by
  have h1 := h.lt
  have h2 := h.len
  refine ⟨by omega, hj, by rw [List.length_set]; exact h2, ?_, ?_⟩
  · rw [kept_next fs j hj, hb, if_neg (by decide), ← h.first]
    rw [List.take_succ_eq_append_getElem (by rw [List.length_set]; omega), List.take_set_of_le (by omega)]
    simp
  · rw [List.drop_set_of_lt (by omega)]; exact drop_more h.last
theorem Dl.done {fs : List Fl} {i : Nat} {cur : List Fl} (h : Dl fs i fs.length cur) : cur.take i = keepF fs stay := by
  rw [h.first, List.take_length]; rfl
theorem Dl.start {fs : List Fl} {k : Nat} (hk : k < fs.length) (hb : bodyF fs[k] = true) (ha : (fs.take k).all (fun f => !bodyF f) = true) : Dl fs k (k + 1) fs := by
  refine ⟨by omega, hk, rfl, ?_, rfl⟩
  rw [kept_next fs k hk, hb, if_pos rfl, List.append_nil]
  unfold keptF
  rw [List.filter_eq_self.2 (fun f hf => List.all_eq_true.1 ha f hf)]
theorem kept_all {fs : List Fl} (h : fs.all (fun f => !bodyF f) = true) : keepF fs stay = fs := List.filter_eq_self.2 (fun f hf => List.all_eq_true.1 h f hf)
theorem own_cell {w : World} {base g n cap : Nat} {fs : List Fl} (h : OwnF w base (.slice (some ⟨g, 0, none⟩) n cap) fs) (j : Nat) (hj : j < fs.length) : w.cell? ⟨g, j * 2, none⟩ = some (.string fs[j].1) ∧ w.cell? ⟨g, j * 2 + 1, none⟩ = some (.string fs[j].2) := by
  obtain ⟨a, c, hv⟩ := h.form
  have hn : n = fs.length := by injection hv
  subst hn
  obtain ⟨h1, h2⟩ := flat_at fs j hj
  unfold OwnF at h
  rw [h.cellAt (j * 2) (by omega), h.cellAt (j * 2 + 1) (by omega), h1, h2]
  exact ⟨rfl, rfl⟩
theorem own_frozen {w : World} {base g n cap : Nat} {fs : List Fl} (h : OwnF w base (.slice (some ⟨g, 0, none⟩) n cap) fs) (j : Nat) : w.frozen? ⟨g, j, none⟩ = false := by
  obtain ⟨a, c, hv⟩ := h.form
  have hn : n = fs.length := by injection hv
  subst hn
  exact World.ownsRow.frozenAt h j
theorem put_own {w0 w : World} {base g : Nat} (h : Below base w0 w) (hg : base ≤ g) (i j : Nat) (x y : Value) : Below base w0 ((w.setCell ⟨g, i, none⟩ x).setCell ⟨g, j, none⟩ y) :=
  (h.setCell (p := ⟨g, i, none⟩) hg x).setCell (p := ⟨g, j, none⟩) hg y

set_option maxHeartbeats 4000000 in
theorem deleteFunc_any (v : Value) (fs : List Fl) (w : World) (base : Nat) (ho : OwnF w base v fs) (hbs : base ≤ w.heap.size) (ht : tot fs ≤ 1048576) :
    Calls Tryd.prog 18 #[v, ofB] w fun e w' => ∃ u, e = .returned u ∧ OwnF w' base u (keepF fs stay) ∧ Below base w w' := by
  obtain ⟨a, cap, rfl⟩ := ho.form
  have hlen := tot_len fs
  have HO := Lib.hid ho
  clear ho
  go_enter Tryd.func18, Tryd.ntmps18
  go_wp2_with fail
  refine (indexFunc_any _ fs _ HO.out.flds ht).mono ?_
  rintro e w1 ⟨⟨r, rfl, hr⟩, hb1⟩
  have HO1 := Lib.hid (HO.out.kept hb1)
  have HB1 := Lib.hid (hb1.mono hbs)
  clear hb1 HO
  rcases hr with ⟨rfl, hal⟩ | ⟨k, hk, rfl, hb, hal⟩
  · have HE := Lib.hid (kept_all hal)
    clear hal
    go_wp2_with fail
    go_ret
    exact ⟨_, rfl, by rw [HE.out]; exact HO1.out, HB1.out⟩
  · obtain ⟨g, rfl⟩ : ∃ g, a = some ⟨g, 0, none⟩ := by
      rcases HO1.out.2 with ⟨_, h0⟩ | ⟨g, cap', cur, hv, _⟩
      · omega
      · injection hv with h1; exact ⟨g, h1⟩
    have hgb : base ≤ g := HO1.out.row g rfl
    have HD := Lib.hid (Dl.start hk hb hal)
    clear hb hal
    have hne : ((k : Int) == -1) = false := beq_eq_false_iff_ne.2 (by omega)
    go_wp2_with fail
    go_loopw [5, 6] (fun iv jv wr => ∃ (i j : Nat) (cur : List Fl), iv = .int .i64 (i : Int) ∧ jv = .int .i64 (j : Int) ∧ Dl fs i j cur ∧ OwnF wr base (.slice (some ⟨g, 0, none⟩) fs.length cap) cur ∧ Below base w wr) (fun _ j _ => fs.length - (intOf j).toNat)
    case atStart => exact ⟨k, k + 1, fs, rfl, by go_num, HD.out, HO1.out, HB1.out⟩
    case round =>
      obtain ⟨i, j, cur, rfl, rfl, hD, hO, hB⟩ := hrel
      have HDk := Lib.hid hD
      have HOk := Lib.hid hO
      have hij := hD.lt
      have hjl := hD.le
      have hcl := hD.len
      have hsz := hB.size
      clear hD hO hne HD HO1
      by_cases hlt2 : j < fs.length
      · have hjc : j < cur.length := by omega
        have hic : i < cur.length := by omega
        have hat := HDk.out.at hlt2
        obtain ⟨c1, c2⟩ := own_cell HOk.out j hjc
        rw [hat] at c1 c2
        have hx2 := tot_at fs j hlt2
        obtain ⟨q, hq⟩ : ∃ q, q = bodyF fs[j] := ⟨_, rfl⟩
        have HS := Lib.hid (show q = true → Dl fs i (j + 1) cur from fun h => HDk.out.skip hlt2 (by rw [← hq]; exact h))
        have HP := Lib.hid (show q = false → Dl fs (i + 1) (j + 1) (cur.set i (fs[j].1, fs[j].2)) from fun h => HDk.out.put hlt2 (by rw [← hq]; exact h))
        have HQ := Lib.hid (show bodyF (fs[j].1, fs[j].2) = q from hq.symm)
        obtain ⟨x, hx⟩ : ∃ x, x = fs[j].1 := ⟨_, rfl⟩
        obtain ⟨y, hy⟩ : ∃ y, y = fs[j].2 := ⟨_, rfl⟩
        rw [← hx] at c1 hx2 HQ HP
        rw [← hy] at c2 hx2 HQ HP
        have hal : Below wr.heap.size wr (wr.alloc (.cells #[.string x, .string y] 27)) := (Below.refl _ _).alloc (Nat.le_refl _) _
        have HO0 := Lib.hid (HOk.out.kept hal)
        have HB0 := Lib.hid (hB.alloc (Nat.le_trans hbs hsz) (.cells #[.string x, .string y] 27))
        have hr0 := new_block wr (.cells #[.string x, .string y] 27)
        clear hx hy hq hat HOk HDk hal hB
        go_wp2_with fail
        refine (ofBody_any x y _ (by unfold maxLen; omega)).mono ?_
        rintro e w2 ⟨rfl, hb2⟩
        rw [HQ.out]
        have HO2 := Lib.hid (HO0.out.kept hb2)
        have HB2 := Lib.hid (show Below base w w2 from HB0.out.trans (hb2.mono (Nat.le_trans hbs HB0.out.size)))
        have hr2 := Bl.old hb2 (block_lt hr0) hr0
        have d0 := Fd.two0 hr2
        have d1 := Fd.two1 hr2
        clear hb2 hr0 hr2 HO0 HB0
        cases q with
        | true =>
          have hS := Lib.hid (HS.out rfl)
          clear HS HP
          go_wp2_with fail
          go_roundw
          case rel => exact ⟨i, j + 1, cur, rfl, by go_num, hS.out, HO2.out, HB2.out⟩
          case measure => simp [intOf]; omega
        | false =>
          have hP := Lib.hid (HP.out rfl)
          obtain ⟨k1, k2⟩ := own_cell HO2.out i hic
          have f1 : w2.frozen? ⟨g, i * 2, none⟩ = false := own_frozen HO2.out _
          have f2 : w2.frozen? ⟨g, i * 2 + 1, none⟩ = false := own_frozen HO2.out _
          have i0 : (0 : Int) ≤ (i : Int) := by omega
          have i1 : (i : Int) < (fs.length : Int) := by omega
          have HO3 := Lib.hid (own_put HO2.out i hic x y)
          have HB3 := Lib.hid (put_own HB2.out hgb (i * 2) (i * 2 + 1) (.string x) (.string y))
          clear HS HP
          go_wp2_with fail
          go_roundw
          case rel => exact ⟨i + 1, j + 1, _, by go_num, by go_num, hP.out, HO3.out, HB3.out⟩
          case measure => simp [intOf]; omega
      · obtain rfl : j = fs.length := by omega
        have HE := Lib.hid HDk.out.done
        have i0 : (0 : Int) ≤ (i : Int) := by omega
        have i1 : (i : Int) < (fs.length : Int) := by omega
        have hcap : fs.length ≤ cap := by
          rcases HOk.out.2 with ⟨h', _⟩ | ⟨g', cap', cur', h', _, _, hnc, _⟩
          · simp at h'
          · injection h' with _ _ h3; omega
        have i2 : (i : Int) ≤ (cap : Int) := by omega
        have i3 : (i : Int) ≤ (fs.length : Int) := by omega
        have i4 : (fs.length : Int) ≤ (cap : Int) := by omega
        have i5 : ¬ cap = i := by omega
        clear HDk
        obtain ⟨W', hrun, hO', hg'⟩ := own_clear HOk.out i hij (fs.length - i) rfl (cap - i)
        have HO' := Lib.hid hO'
        have HB' := Lib.hid (show Below base w W' from hB.grown hg' (Nat.le_trans hbs hsz) (fun q hq => by injection hq with hq; omega))
        clear hO' hg' HOk
        go_upto_region 11 with fail
        go_wp2_with fail
        go_ret
        exact ⟨_, rfl, by rw [← HE.out]; exact HO'.out, HB'.out⟩
end Go.Proofs.YtjbdgndejbiikaaDoor.Sg
/-
  storing.others: what it returns. Conditions: fields of at most 200000 bytes in each list.
-/
namespace Go.Proofs.YtjbdgndejbiikaaDoor.Sg
open Go.RowKit Go.Proofs.YtjbdgndejbiikaaDoor.Tk Go.Proofs.YtjbdgndejbiikaaDoor.Fd Go.Maps
set_option maxRecDepth 100000
set_option linter.unusedVariables false

theorem low_next (ns : List Fl) (k : Nat) (h : k < ns.length) : (ns.take (k + 1)).map lowN = (ns.take k).map lowN ++ [lower ns[k].1.data.toList] := by rw [Fd.take_next ns k h, List.map_append]; rfl
theorem flds_at {w : World} {v : Value} {fs : List Fl} (h : Flds w v fs) : ∃ a cap, v = .slice a fs.length cap ∧ (0 < fs.length → ∃ b off, a = some ⟨b, off, none⟩ ∧ b < w.heap.size ∧ FAt w b off fs) := by
  rcases h with ⟨rfl, a, cap, hv⟩ | ⟨b, off, cap, hv, hlt, hc⟩
  · exact ⟨a, cap, hv, fun h => by simp at h⟩
  · exact ⟨_, cap, hv, fun _ => ⟨b, off, rfl, hlt, hc⟩⟩
/-- A field in its variable, the fields that are left so far, the names, and nothing elder changed. -/
structure Ot (w : World) (r : Nat) (x y : ByteArray) (l : Value) (ks : List Fl) (nm : List Bs) (W : World) : Prop where
  var : W.heap[r]? = some (.cells #[.string x, .string y] 27 (0, 0))
  own : OwnF W (w.heap.size + 1) l ks
  set : SetOf W w.heap.size nm
  bel : Below w.heap.size w W
theorem Ot.more {w : World} {r : Nat} {x y : ByteArray} {l : Value} {ks : List Fl} {nm : List Bs} {W W' : World} (h : Ot w r x y l ks nm W) (hb : Below W.heap.size W W') : Ot w r x y l ks nm W' :=
  ⟨Bl.old hb (block_lt h.var) h.var, h.own.kept hb, h.set.old hb h.set.lt, Bl.next h.bel hb⟩
theorem Ot.drew {w : World} {r : Nat} {x y : ByteArray} {l : Value} {ks : List Fl} {nm : List Bs} {W : World} (h : Ot w r x y l ks nm W) : Ot w r x y l ks nm W.drew := ⟨h.var, h.own, h.set, Bl.drewN h.bel 1⟩

set_option maxHeartbeats 4000000 in
theorem others_any (v u : Value) (fs ns : List Fl) (w : World) (hf : Flds w v fs) (hn : Flds w u ns) (ht : tot fs ≤ 200000) (hu : tot ns ≤ 200000) :
    Calls Tryd.prog 21 #[v, u] w (KeepPost (keepF fs (ns.map lowN)) w) := by
  have hmk := fun (n : Int) (W : World) => run_makeMap_hint (P := Tryd.prog) Tryd.underlying71 n W
  obtain ⟨a1, c1, rfl, h1⟩ := flds_at hf
  obtain ⟨a2, c2, rfl, h2⟩ := flds_at hn
  have H1 := Lib.hid h1
  have H2 := Lib.hid h2
  have HS0 := Lib.hid (SetOf.new w)
  have HB0 := Lib.hid (show Below w.heap.size w (w.alloc (.map #[] 0)) from (Below.refl _ _).alloc (Nat.le_refl _) _)
  have hl1 := tot_len fs
  have hl2 := tot_len ns
  obtain ⟨i0, hi, hz0, hz1, hz2⟩ := info_parts infoField
  have HI := Lib.hid (show Tryd.prog.info? 27 = some i0 ∧ i0.zero = some (.agg #[.string ⟨#[]⟩, .string ⟨#[]⟩]) ∧ i0.size = 2 ∧ i0.bytes = 32 from ⟨hi, hz0, hz1, hz2⟩)
  clear hf hn h1 h2 hi hz0 hz1 hz2
  go_enter Tryd.func21, Tryd.ntmps21
  go_wp2_with fail
  clear hmk
  go_loopw [18] (fun i wr => ∃ k : Nat, k ≤ ns.length ∧ i = .int .i64 (k : Int) ∧ SetOf wr w.heap.size ((ns.take k).map lowN) ∧ Below w.heap.size w wr) (fun i _ => ns.length - (intOf i).toNat)
  case atStart => exact ⟨0, Nat.zero_le _, rfl, HS0.out, HB0.out⟩
  case round =>
    obtain ⟨k, hk, rfl, hS, hB⟩ := hrel
    have HS := Lib.hid hS
    have HB := Lib.hid hB
    clear hS hB HS0 HB0
    by_cases hlt2 : k < ns.length
    · obtain ⟨b, off, rfl, hbl, hc⟩ := H2.out (by omega)
      have c1' : wr.cell? ⟨b, off + k * 2, none⟩ = some (.string ns[k].1) := (HB.out.cell (p := ⟨b, off + k * 2, none⟩) hbl).trans (hc k hlt2).1
      have c2' : wr.cell? ⟨b, off + k * 2 + 1, none⟩ = some (.string ns[k].2) := (HB.out.cell (p := ⟨b, off + k * 2 + 1, none⟩) hbl).trans (hc k hlt2).2
      have hx2 := tot_at ns k hlt2
      have HT := Lib.hid (low_next ns k hlt2)
      have hll : ((ns.take k).map lowN).length < maxLen := by rw [List.length_map, List.length_take]; unfold maxLen; omega
      obtain ⟨x, hx⟩ : ∃ x, x = ns[k].1 := ⟨_, rfl⟩
      obtain ⟨y, hy⟩ : ∃ y, y = ns[k].2 := ⟨_, rfl⟩
      rw [← hx] at c1' hx2 HT
      rw [← hy] at c2' hx2
      obtain ⟨L, hL⟩ : ∃ L : ByteArray, L = ⟨(lower x.data.toList).toArray⟩ := ⟨_, rfl⟩
      have hLs : L.size ≤ maxLen := by rw [hL, text_size, lower_length]; simp; unfold maxLen; omega
      have HL := Lib.hid hL
      have HLD := Lib.hid (show L.data.toList = lower x.data.toList from by rw [hL])
      have hal : Below wr.heap.size wr (wr.alloc (.cells #[.string x, .string y] 27)) := (Below.refl _ _).alloc (Nat.le_refl _) _
      have HS1 := Lib.hid (HS.out.old hal HS.out.lt)
      have HB1 := Lib.hid (Bl.next HB.out hal)
      clear hx hy hL hc hal
      go_wp2_with fail
      refine (lower_any x _ (by unfold maxLen; omega)).mono ?_
      rintro e w1 ⟨rfl, hb1⟩
      rw [← HL.out]
      have HB2 := Lib.hid (Bl.next HB1.out hb1)
      obtain ⟨W', hrun, hs, ht'⟩ := (HS1.out.old hb1 HS1.out.lt).store L hLs hll
      have hg := ht'.grown
      have HS3 := Lib.hid hs
      have HB3 := Lib.hid (show Below w.heap.size w W' from HB2.out.grown hg HB2.out.size (fun q hq => by cases hq; exact Nat.le_refl _))
      clear hb1 hs ht' hg HS1 HS HB HB1
      go_wp2_with fail
      go_roundw
      case rel => exact ⟨k + 1, by omega, by go_num, by rw [HT.out, ← HLD.out]; exact HS3.out, HB3.out⟩
      case measure => simp [intOf]; omega
    · have HE := Lib.hid (show ns.take k = ns from List.take_of_length_le (by omega))
      rw [HE.out] at HS
      obtain ⟨nm, hnm⟩ : ∃ nm, nm = ns.map lowN := ⟨_, rfl⟩
      rw [← hnm] at HS
      have HNM := Lib.hid hnm
      have HO0 := Lib.hid (OwnF.nil wr (w.heap.size + 1))
      clear hnm HE H2
      go_wp2_with fail
      clear hlt2 hk hl2
      go_loopw [8, 30] (fun l i wx => ∃ j : Nat, j ≤ fs.length ∧ i = .int .i64 (j : Int) ∧ OwnF wx (w.heap.size + 1) l (keepF (fs.take j) nm) ∧ SetOf wx w.heap.size nm ∧ Below w.heap.size w wx) (fun _ i _ => fs.length - (intOf i).toNat)
      case atStart => exact ⟨0, Nat.zero_le _, rfl, HO0.out, HS.out, HB.out⟩
      case round =>
        obtain ⟨j, hj, rfl, hO, hS, hB⟩ := hrel
        have HOk := Lib.hid hO
        have HSk := Lib.hid hS
        have HBk := Lib.hid hB
        clear hO hS hB HO0 HS HB
        have hkl := keep_len fs nm j
        by_cases hlt3 : j < fs.length
        · obtain ⟨b, off, rfl, hbl, hc⟩ := H1.out (by omega)
          have c1' : wr.cell? ⟨b, off + j * 2, none⟩ = some (.string fs[j].1) := (HBk.out.cell (p := ⟨b, off + j * 2, none⟩) hbl).trans (hc j hlt3).1
          have c2' : wr.cell? ⟨b, off + j * 2 + 1, none⟩ = some (.string fs[j].2) := (HBk.out.cell (p := ⟨b, off + j * 2 + 1, none⟩) hbl).trans (hc j hlt3).2
          have hx2 := tot_at fs j hlt3
          obtain ⟨q, hq⟩ : ∃ q, q = nm.contains (lower fs[j].1.data.toList) := ⟨_, rfl⟩
          have HNo := Lib.hid (show q = true → keepF (fs.take (j + 1)) nm = keepF (fs.take j) nm from fun h => keep_no fs nm j hlt3 (by rw [← hq]; exact h))
          have HYes := Lib.hid (show q = false → keepF (fs.take (j + 1)) nm = keepF (fs.take j) nm ++ [(fs[j].1, fs[j].2)] from fun h => keep_yes fs nm j hlt3 (by rw [← hq]; exact h))
          have HQ := Lib.hid (show nm.contains (lower fs[j].1.data.toList) = q from hq.symm)
          obtain ⟨x, hx⟩ : ∃ x, x = fs[j].1 := ⟨_, rfl⟩
          obtain ⟨y, hy⟩ : ∃ y, y = fs[j].2 := ⟨_, rfl⟩
          rw [← hx] at c1' hx2 HQ HYes
          rw [← hy] at c2' hx2 HYes
          obtain ⟨L, hL⟩ : ∃ L : ByteArray, L = ⟨(lower x.data.toList).toArray⟩ := ⟨_, rfl⟩
          have hLs : L.size ≤ maxLen := by rw [hL, text_size, lower_length]; simp; unfold maxLen; omega
          have HL := Lib.hid hL
          have HLQ := Lib.hid (show nm.contains L.data.toList = q from by rw [hL]; exact HQ.out)
          have hal : Below wr.heap.size wr (wr.alloc (.cells #[.string x, .string y] 27)) := (Below.refl _ _).alloc (Nat.le_refl _) _
          have HT0 := Lib.hid (show Ot w wr.heap.size x y _ (keepF (fs.take j) nm) nm (wr.alloc (.cells #[.string x, .string y] 27)) from
            ⟨new_block _ _, HOk.out.kept hal, HSk.out.old hal HSk.out.lt, Bl.next HBk.out hal⟩)
          obtain ⟨ks, hks⟩ : ∃ ks, ks = keepF (fs.take j) nm := ⟨_, rfl⟩
          rw [← hks] at HT0 HNo HYes hkl
          clear hx hy hq hL hc hal HOk HSk HBk hks
          go_wp2_with fail
          refine (lower_any x _ (by unfold maxLen; omega)).mono ?_
          rintro e w1 ⟨rfl, hb1⟩
          rw [← HL.out]
          have HT1 := Lib.hid (HT0.out.more hb1)
          have lk := HT1.out.set.look L hLs
          rw [HLQ.out] at lk
          have HT2 := Lib.hid (HT1.out.more ((Below.refl w1.heap.size w1).alloc (Nat.le_refl _) (.cells #[] 72)))
          clear hb1 HT0
          cases q with
          | true =>
            have hN := Lib.hid (HNo.out rfl)
            clear HNo HYes
            go_wp2_with fail
            go_roundw
            case rel => exact ⟨j + 1, by omega, by go_num, by rw [hN.out]; exact HT2.out.own, HT2.out.set, HT2.out.bel⟩
            case measure => simp [intOf]; omega
          | false =>
            have hY := Lib.hid (HYes.out rfl)
            clear HNo HYes
            go_upto_region 13 with fail
            generalize w1.alloc (.cells #[] 72) = W2 at HT2 ⊢
            have H3 := Lib.hid HT2.out.drew
            have d0 := Fd.two0 H3.out.var
            have d1 := Fd.two1 H3.out.var
            obtain ⟨hi, hz0, hz1, hz2⟩ := HI.out
            have hkb : ks.length ≤ 200000 := by omega
            clear HT1 HT2 lk
            go_region_law (first
              | (go_simp; go_at_call_of 37 (Value.string x); refine (clone_any x _ (by omega)).mono ?_; rintro e wa ⟨rfl, hba⟩; have HA := Lib.hid (H3.out.more hba); have ea := Fd.two1 HA.out.var; clear hba)
              | (go_simp; go_at_call_of 37 (Value.string y); refine (clone_any y _ (by omega)).mono ?_; rintro e wb ⟨rfl, hbb⟩; have HB := Lib.hid (HA.out.more hbb); clear hbb)
              | (refine step_append_lies _ (by rfl) _ _ 22 (by rfl) (w.heap.size + 1) 27 i0 (.agg #[.string ⟨#[]⟩, .string ⟨#[]⟩]) 2 32 Tryd.underlying22 hi hz0 hz1 hz2 rfl (by decide) _ _ _ (by rfl) (HB.out.own.kept ((Below.refl _ _).alloc (Nat.le_refl _) (.cells #[.string x, .string y] 27))) ⟨wb.heap.size, 0, none⟩ 1 1 [.string x, .string y] (by rfl) rfl (news_at (new_block wb _)) (one_cells x y) (by omega) (by unfold maxLen; omega) (by omega) (by have := HB.out.set.lt; simp; omega) _ rfl ?_; intro g3 cap3 w3 hown3 hgrow hat3 hlt3))
            all_goals
              have hset : SetOf w3 w.heap.size nm := by
                have h0 := HB.out.set.old ((Below.refl wb.heap.size wb).alloc (Nat.le_refl _) (.cells #[.string x, .string y] 27)) HB.out.set.lt
                obtain ⟨es, c, hg, r⟩ := h0
                exact ⟨es, c, (hgrow.block w.heap.size (block_lt hg) (fun e => by have := HB.out.own.row w.heap.size e.symm; omega)).trans hg, r⟩
              have hs2 := HB.out.bel.size
              have hbel : Below w.heap.size w w3 := (HB.out.bel.alloc hs2 (.cells #[.string x, .string y] 27)).grown hgrow (by simp; omega) (fun q hq => by have := HB.out.own.row q hq; omega)
              have hO : OwnF w3 (w.heap.size + 1) (.slice (some ⟨g3, 0, none⟩) (ks.length + 1) cap3) (ks ++ [(x, y)]) := by
                unfold OwnF; rw [flat_snoc, List.length_append]; exact hown3
              have HSET := Lib.hid hset
              have HBEL := Lib.hid hbel
              have HOO := Lib.hid hO
              clear hset hbel hO hgrow hown3 hat3 hlt3
              go_wp2_with fail
              go_roundw
              case rel => exact ⟨j + 1, by omega, by go_num, by rw [hY.out]; exact HOO.out, HSET.out, HBEL.out⟩
              case measure => simp [intOf]; omega
        · have HE := Lib.hid (show fs.take j = fs from List.take_of_length_le (by omega))
          rw [HE.out] at HOk
          have hs1 := HBk.out.size
          go_wp2_with fail
          go_ret
          exact ⟨_, rfl, by rw [← HNM.out]; exact Fd.owns_mono HOk.out (by omega), HBk.out⟩
end Go.Proofs.YtjbdgndejbiikaaDoor.Sg
/-
  storing.Refresh: what it returns. Conditions: fields of at most 100000 bytes in each list; the tables hold what the program's text lays.
-/
namespace Go.Proofs.YtjbdgndejbiikaaDoor.Sg
open Go.RowKit Go.Proofs.YtjbdgndejbiikaaDoor.Tk Go.Proofs.YtjbdgndejbiikaaDoor.Fd Go.Proofs.YtjbdgndejbiikaaDoor.Ct Go.Proofs.YtjbdgndejbiikaaDoor.Fh
set_option maxRecDepth 100000
set_option linter.unusedVariables false

theorem flat_one (fs : List Fl) : ∀ u ∈ flat fs, u.oneCell' = true := by
  intro u hu
  unfold flat at hu
  rw [List.mem_flatMap] at hu
  obtain ⟨f, _, hf⟩ := hu
  exact one_cells f.1 f.2 u hf
theorem own_news {w : World} {base g n cap : Nat} {fs : List Fl} (h : OwnF w base (.slice (some ⟨g, 0, none⟩) n cap) fs) : ∀ j u, (flat fs)[j]? = some u → w.cell? ((⟨g, 0, none⟩ : Addr).add j) = some u := by
  obtain ⟨a, c, hv⟩ := h.form
  have hn : n = fs.length := by injection hv
  subst hn
  intro j u hu
  have hj : j < (flat fs).length := (List.getElem?_eq_some_iff.1 hu).1
  rw [flat_length] at hj
  unfold OwnF at h
  rw [Addr.add_lit, Nat.zero_add, h.cellAt j hj, hu]
/-- The stored Meta, the response, the result's block; nothing elder changed. -/
structure Rf (w : World) (m : Mta) (mi rc : Int) (rsn : ByteArray) (vr : Value) (W : World) : Prop where
  met : MetAt W w.heap.size m
  res : W.heap[w.heap.size + 1]? = some (.cells #[.int .i64 mi, .int .i64 rc, .string rsn, vr] 29 (0, 0))
  out : ∃ m0, MetAt W (w.heap.size + 2) m0
  bel : Below w.heap.size w W
section
variable {w : World} {m : Mta} {mi rc : Int} {rsn : ByteArray} {vr : Value} {W W' : World}
theorem Rf.size (h : Rf w m mi rc rsn vr W) : w.heap.size + 3 ≤ W.heap.size := by
  obtain ⟨m0, hm⟩ := h.out
  have := hm.lt
  omega
theorem Rf.more (h : Rf w m mi rc rsn vr W) {B : Nat} (hb : Below B W W') (hB : w.heap.size + 3 ≤ B) : Rf w m mi rc rsn vr W' := by
  obtain ⟨m0, hm⟩ := h.out
  exact ⟨h.met.more hb (by omega), Bl.old hb (by omega) h.res, ⟨m0, hm.more hb (by omega)⟩, h.bel.trans (hb.mono (by omega))⟩
theorem Rf.drew (h : Rf w m mi rc rsn vr W) : Rf w m mi rc rsn vr W.drew := ⟨h.met, h.res, h.out, Bl.drewN h.bel 1⟩
theorem Rf.grown (h : Rf w m mi rc rsn vr W) {row : Option Nat} (hg : W.grownBy W' row) (hr : ∀ k, row = some k → w.heap.size + 3 ≤ k) : Rf w m mi rc rsn vr W' := by
  have hs := h.size
  obtain ⟨m0, hm⟩ := h.out
  have hne : ∀ k, k < w.heap.size + 3 → some k ≠ row := fun k hk e => by have := hr k e.symm; omega
  exact ⟨(hg.block _ (by omega) (hne _ (by omega))).trans h.met, (hg.block _ (by omega) (hne _ (by omega))).trans h.res, ⟨m0, (hg.block _ (by omega) (hne _ (by omega))).trans hm⟩, h.bel.grown hg (by omega) (fun k hk => by have := hr k hk; omega)⟩
theorem rf_new (w : World) (m : Mta) (mi rc : Int) (rsn : ByteArray) (vr : Value) : Rf w m mi rc rsn vr (((w.alloc (.cells (mcells m) 35)).alloc (.cells #[.int .i64 mi, .int .i64 rc, .string rsn, vr] 29)).alloc (.cells (mcells zmet) 35)) := by
  have b1 : Below w.heap.size w (w.alloc (.cells (mcells m) 35)) := (Below.refl _ _).alloc (Nat.le_refl _) _
  refine ⟨?_, ?_, ⟨zmet, ?_⟩, (b1.alloc (by simp) _).alloc (by simp; omega) _⟩
  · exact (old_block _ _ (by simp; omega)).trans ((old_block _ _ (by simp)).trans (new_block _ _))
  · exact (old_block _ _ (by simp)).trans (new_block' _ _ (by simp))
  · exact new_block' _ _ (by simp)
end

set_option maxHeartbeats 4000000 in
theorem refresh_lit (m : Mta) (p1 : Option Addr) (n1 k1 : Nat) (fs : List Fl) (mi rc : Int) (rsn : ByteArray) (p2 : Option Addr) (n2 k2 : Nat) (rs : List Fl) (asked got : Int) (w : World) (hf : Flds w (.slice p1 n1 k1) fs) (hr : Flds w (.slice p2 n2 k2) rs) (htf : tot fs ≤ 100000) (htr : tot rs ≤ 100000) (hT : Tab w) (hE : Dp.Env w) (hF : Dp.FM w) :
    Calls Tryd.prog 9 #[.agg (mcells m), .slice p1 n1 k1, .agg #[.int .i64 mi, .int .i64 rc, .string rsn, .slice p2 n2 k2], .int .i64 asked, .int .i64 got] w fun e w' => ∃ u, e = .returned (.tuple #[.agg (mcells (metOf m.code (outOf fs rs) asked got)), u]) ∧ OwnF w' w.heap.size u (outOf fs rs) ∧ Below w.heap.size w w' := by
  have H0 := Lib.hid (rf_new w m mi rc rsn (.slice p2 n2 k2))
  have HF := Lib.hid hf
  have HR := Lib.hid hr
  have HT := Lib.hid hT
  have HE := Lib.hid hE
  have HM := Lib.hid hF
  have hta := tot_add rs
  have htk := tot_strip rs
  have hto := tot_out fs rs
  have HAD := Lib.hid (add_keep rs)
  have HOU := Lib.hid (out_keep fs rs)
  clear hf hr hT hE hF
  go_enter Tryd.func9, Tryd.ntmps9
  go_wp2_with fail
  refine (strip_any (.slice p2 n2 k2) rs _ (HR.out.below H0.out.bel (Nat.le_refl _)) (by omega) (HT.out.below H0.out.bel HT.out.lt)).mono ?_
  rintro e w1 ⟨v1, rfl, hO1, hb1⟩
  have hz0 := H0.out.size
  have HO1 := Lib.hid (Fd.owns_mono hO1 hz0)
  have H1 := Lib.hid (H0.out.more hb1 hz0)
  clear hO1 hb1 hz0 H0
  go_wp2_with fail
  refine (deleteFunc_any v1 (stripF rs) _ (w.heap.size + 3) HO1.out H1.out.size (by omega)).mono ?_
  rintro e w2 ⟨v2, rfl, hO2, hb2⟩
  rw [← HAD.out] at hO2
  have HO2 := Lib.hid hO2
  have H2 := Lib.hid (H1.out.more hb2 (Nat.le_refl _))
  obtain ⟨add, hadd⟩ : ∃ add, add = addOf rs := ⟨_, rfl⟩
  obtain ⟨out, hout⟩ : ∃ out, out = outOf fs rs := ⟨_, rfl⟩
  have HOT := Lib.hid (show out = keepF fs (add.map lowN) ++ add from by rw [hout, hadd]; exact HOU.out)
  rw [← hadd] at HO2 hta
  rw [← hout] at hto
  have HOD := Lib.hid hout
  clear hO2 hb2 hadd hout HO1 H1 HAD HOU
  obtain ⟨i0, hi, hz0, hz1, hz2⟩ := info_parts infoField
  have hlf := tot_len fs
  have hla := tot_len add
  have hkl : (keepF fs (add.map lowN)).length ≤ fs.length := List.length_filter_le _ _
  go_upto_region 2 with fail
  go_cut [13] (fun s wx => OwnF wx (w.heap.size + 3) s out ∧ Rf w m mi rc rsn (.slice p2 n2 k2) wx)
  case first =>
    go_wp2_with fail
    refine (others_any (.slice p1 n1 k1) v2 fs add _ (HF.out.below H2.out.bel (Nat.le_refl _)) HO2.out.flds (by omega) (by omega)).mono ?_
    rintro e w3 ⟨v3, rfl, hO3, hb3⟩
    have hz := H2.out.size
    have HO3 := Lib.hid (show OwnF w3 (w.heap.size + 3) v3 (keepF fs (add.map lowN)) from Fd.owns_mono hO3 hz)
    have HN3 := Lib.hid (HO2.out.kept hb3)
    have H3 := Lib.hid (H2.out.more hb3 hz)
    have hz3 := H3.out.size
    clear hO3 hb3 hz HO2 H2
    have hcase := HN3.out.2
    rcases hcase with ⟨hv, h0⟩ | ⟨g, cap, cur, hv, _⟩
    · have ha : add = [] := List.length_eq_zero_iff.1 h0
      subst hv
      go_wp2_with (at_builtin; refine wpList_append_own_none rfl _ _ 22 rfl (w.heap.size + 3) 27 i0 2 Tryd.underlying22 hi v3 (keepF fs (add.map lowN)).length (flat (keepF fs (add.map lowN))) rfl HO3.out rfl ?_)
      go_meet
      refine ⟨?_, H3.out⟩
      rw [HOT.out, ha, List.append_nil]
      have h := HO3.out
      rw [ha] at h
      exact h
    · subst hv
      go_wp2_with (at_builtin; refine wpList_append_own _ rfl _ _ 22 rfl (w.heap.size + 3) 27 i0 (.agg #[.string ⟨#[]⟩, .string ⟨#[]⟩]) 2 32 Tryd.underlying22 hi hz0 hz1 hz2 rfl (by decide) _ _ _ rfl HO3.out ⟨g, 0, none⟩ add.length cap (flat add) rfl (flat_length add) (own_news HN3.out) (flat_one add) (by unfold maxLen; omega) (by omega) hz3 ?_; intro v' w4 hown' hgrow hnil)
      go_meet
      refine ⟨?_, H3.out.grown hgrow HO3.out.row⟩
      rw [HOT.out]
      unfold OwnF
      rw [List.length_append]
      have e : flat (keepF fs (add.map lowN) ++ add) = flat (keepF fs (add.map lowN)) ++ flat add := by simp [flat]
      rw [e]
      exact hown'
  case rest =>
  obtain ⟨hO, hR⟩ := hcut
  obtain ⟨a3, c3, rfl⟩ := hO.form
  have HO := Lib.hid hO
  have H3 := Lib.hid hR
  have k0 := H3.out.met.code
  clear hO hR HO2 H2 hi hz0 hz1 hz2 HOT
  go_upto_region 3 with fail
  go_wp2_with fail
  refine (known_lit 0 m.code ⟨#[]⟩ a3 out.length c3 out asked got _ HO.out.flds (by omega) (HT.out.below H3.out.bel HT.out.lt) (HE.out.below H3.out.bel (Nat.le_refl _)) (HM.out.below H3.out.bel (Nat.le_refl _))).mono ?_
  rintro e w4 ⟨rfl, hb4⟩
  have HO4 := Lib.hid (HO.out.kept hb4)
  have H4 := Lib.hid (H3.out.more hb4 H3.out.size)
  obtain ⟨M, hM⟩ : ∃ M, M = metOf m.code out asked got := ⟨_, rfl⟩
  have HMd := Lib.hid hM
  rw [← hM]
  clear hM hb4 k0 HO H3
  obtain ⟨m0, hm0⟩ := H4.out.out
  have P1 := put_any hm0 M
  have HM4 := Lib.hid (show MetAt (w4.setRow (w.heap.size + 2) (mcells M)) (w.heap.size + 2) M from setRow_heap w4 _ _ _ _ _ hm0)
  have HB4 := Lib.hid (show Below w.heap.size w (w4.setRow (w.heap.size + 2) (mcells M)) from H4.out.bel.trans ⟨rfl, rfl, rfl, by simp [World.setRow], fun k hk => setRow_other w4 _ _ _ (by omega)⟩)
  have HO5 := Lib.hid (show OwnF (w4.setRow (w.heap.size + 2) (mcells M)) w.heap.size (.slice a3 out.length c3) out from by
    have h := HO4.out
    refine ⟨h.1, ?_⟩
    rcases h.2 with h2 | ⟨g, cap, cur, hv, hg, hh, r⟩
    · exact .inl h2
    · exact .inr ⟨g, cap, cur, hv, by omega, (setRow_other w4 _ _ _ (by omega)).trans hh, r⟩)
  obtain ⟨Z, N, hZ⟩ := size_met
  have z1 := hZ.is
  have z2 := hZ.run
  have q2 : (mcells M).size = N := hZ.num ▸ rfl
  clear hZ hm0 HO4 H4
  go_wp2_with fail
  refine bodyPost_ret (results_pair rfl _ _ (w.heap.size + 2) 35 _ (0, 0) _ rfl HM4.out Tryd.underlying35 rfl infoMet') rfl ?_
  exact ⟨_, by rw [← HOD.out, ← HMd.out], by rw [← HOD.out]; exact HO5.out, HB4.out⟩
end Go.Proofs.YtjbdgndejbiikaaDoor.Sg
