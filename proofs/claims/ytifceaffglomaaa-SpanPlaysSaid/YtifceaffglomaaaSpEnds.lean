/-
  The reference's ends: what it returns: all ends, in order. Condition: at most 2^20 spans.
-/
import Derived.Test.YtifceaffglomaaaSpRefSz
import Derived.Test.YtifceaffglomaaaSpApp
import Derived.Laws.OwnMore
import Derived.Deep.RegionLaw
import Derived.Deep.DeepCutAuto
namespace Go.Proofs.Ytifceaffglomaaa.Sn
open Go.RowKit Go.Maps Go.Proofs.Ytifceaffglomaaa.Fd
set_option maxRecDepth 100000
set_option linter.unusedVariables false

theorem step_append_int {P : Program} {ops : Array Oper} {o : Oper} {a : Act} {w : World} {K : Act → World → Prop} {Q : Exit → Act → World → Prop} {E : Prop} (hgd : o.guard = none) (s x : Operand) (t : TypeId)
    (ho : o.op = .call { callee := .builtin .append, args := #[s, x], argTypes := #[t, t] })
    (base : Nat) (e : TypeId) (i : TypeInfo) (z : Value) (size bytes : Nat) (ht : P.underlying t = some (.slice e)) (hi : P.info? e = some i) (hz : i.zero = some z)
    (hsize : i.size = size) (hby : i.bytes = bytes) (hzs : z.cells.size = size) (hsz : 0 < size)
    (v : Value) (n : Nat) (xs : List Value) (hs : a.eval s = v) (hown : w.ownsRow base e size v n xs)
    (ad : Addr) (m c : Nat) (news : List Value) (hx : a.eval x = .slice (some ad) m c) (hl : news.length = m * size) (hnews : ∀ j u, news[j]? = some u → w.cell? (ad.add j) = some u) (h1 : ∀ u ∈ news, u.oneCell' = true)
    (h63 : n + m ≤ maxLen) (hbytes : (n + m) * bytes ≤ 140737488355328) (hbase : base ≤ w.heap.size)
    (h : ∀ v' w', w'.ownsRow base e size v' (n + m) (xs ++ news) → w.grownBy w' v.ownBlock → K (a.put o.dst v') w') :
    if Region.wanted o (yielded ops a.tmps) = true then Oper.wp P o a w K Q else E := by
  have hw : Region.wanted o (yielded ops a.tmps) = true := by simp [Region.wanted, hgd]
  rw [if_pos hw]
  exact wp_append_own w s x t ho base e i z size bytes ht hi hz hsize hby hzs hsz v n xs hs hown ad m c news hx hl hnews h1 h63 hbytes hbase fun v' w' h2 h3 _ => h v' w' h2 h3
theorem infoInt : (Try.prog.info? 3).map (fun i => (i.zero, i.size, i.bytes)) = some (some (.int .i64 0), 1, 8) := by kernel_rfl
def IV (l : List Int) : List Value := l.map fun z => .int .i64 z
/-- A slice of ints that a call made. -/
def OwnI (w : World) (base : Nat) (v : Value) (e : List Int) : Prop := w.ownsRow base 3 1 v e.length (IV e)
theorem OwnI.nil (w : World) (base : Nat) : OwnI w base (.slice none 0 0) [] := World.ownsRow_nil _ _ _ _
theorem OwnI.kept {w w' : World} {base : Nat} {v : Value} {e : List Int} (h : OwnI w base v e) (hb : Below w.heap.size w w') : OwnI w' base v e := owns_kept h hb
theorem OwnI.mono {w : World} {base base' : Nat} {v : Value} {e : List Int} (h : OwnI w base v e) (hb : base' ≤ base) : OwnI w base' v e := owns_mono h hb
theorem OwnI.form {w : World} {base : Nat} {v : Value} {e : List Int} (h : OwnI w base v e) (h0 : 0 < e.length) : ∃ g cap, v = .slice (some ⟨g, 0, none⟩) e.length cap ∧ base ≤ g ∧ g < w.heap.size ∧ e.length ≤ cap := by
  rcases h.2 with ⟨_, h2⟩ | ⟨g, cap, cur, rfl, hg, hh, hc, _⟩
  · omega
  · exact ⟨g, cap, rfl, hg, block_lt hh, hc⟩
theorem OwnI.shape {w : World} {base : Nat} {v : Value} {e : List Int} (h : OwnI w base v e) : ∃ a cap, v = .slice a e.length cap := by
  rcases h.2 with ⟨rfl, h2⟩ | ⟨g, cap, cur, rfl, _⟩
  · exact ⟨none, 0, by rw [h2]⟩
  · exact ⟨_, cap, rfl⟩
theorem OwnI.cell {w : World} {base g n cap : Nat} {e : List Int} (h : OwnI w base (.slice (some ⟨g, 0, none⟩) n cap) e) (j : Nat) (hj : j < e.length) : w.cell? ⟨g, j, none⟩ = some (.int .i64 (e.getD j 0)) := by
  have hn : n = e.length := by
    rcases h.2 with ⟨hv, _⟩ | ⟨g', cap', cur, hv, _⟩ <;> cases hv
    rfl
  subst hn
  rw [World.ownsRow.cellAt h j (by omega)]
  simp [IV, hj]
theorem OwnI.free {w : World} {base g n cap : Nat} {e : List Int} (h : OwnI w base (.slice (some ⟨g, 0, none⟩) n cap) e) (j : Nat) : w.frozen? ⟨g, j, none⟩ = false := by
  rcases h.2 with ⟨hv, _⟩ | ⟨g', cap', cur, hv, _, hh, _⟩
  · cases hv
  · injection hv with e1
    injection e1 with e1
    injection e1 with e1
    subst e1
    exact Fd.free hh j
theorem OwnI.put {w : World} {base g n cap : Nat} {e : List Int} (h : OwnI w base (.slice (some ⟨g, 0, none⟩) n cap) e) (j : Nat) (z : Int) : OwnI (w.setCell ⟨g, j, none⟩ (.int .i64 z)) base (.slice (some ⟨g, 0, none⟩) n cap) (e.set j z) := by
  have hn : n = e.length := by
    rcases h.2 with ⟨hv, _⟩ | ⟨g', cap', cur, hv, _⟩ <;> cases hv
    rfl
  subst hn
  have := (World.ownsRow.stored h j (.int .i64 z)).1
  unfold OwnI
  rw [List.length_set]
  have e2 : IV (e.set j z) = (IV e).set j (.int .i64 z) := by simp [IV, List.map_set]
  rw [e2]
  exact this
/-- All ends, as they come. -/
def endsOf (l : List Sp) : List Int := l.flatMap fun u => [u.1, u.2]
theorem ends_len (l : List Sp) : (endsOf l).length = l.length * 2 := by
  induction l with
  | nil => rfl
  | cons s r ih => simp only [endsOf, List.flatMap_cons, List.length_append, List.length_cons, List.length_nil] at ih ⊢; omega
theorem ends_step (l : List Sp) (k : Nat) (h : k < l.length) : endsOf (l.take (k + 1)) = endsOf (l.take k) ++ [l[k].1, l[k].2] := by
  have e : l.take (k + 1) = l.take k ++ [l[k]] := by rw [List.take_succ_eq_append_getElem h]
  unfold endsOf
  rw [e, List.flatMap_append]
  simp
theorem IV_append (a b : List Int) : IV (a ++ b) = IV a ++ IV b := by simp [IV]
theorem news_two {w : World} {g : Nat} {x y : Int} {t : TypeId} (h : w.heap[g]? = some (.cells #[.int .i64 x, .int .i64 y] t (0, 0))) : ∀ j u, (IV [x, y])[j]? = some u → w.cell? ((⟨g, 0, none⟩ : Addr).add j) = some u := news_at h
/-- All ends of spans and one more, in order. -/
structure Sorted (l : List Sp) (x y : Int) (e : List Int) : Prop where
  len : e.length = l.length * 2 + 2
  mem : ∀ z, z ∈ e ↔ z ∈ endsOf l ++ [x, y]
  ord : ∀ a b (ha : a < e.length) (hb : b < e.length), a ≤ b → e[a] ≤ e[b]
def EndsPost (l : List Sp) (x y : Int) (w : World) (e : Ending) (w' : World) : Prop := ∃ v es, e = .returned v ∧ OwnI w' w.heap.size v es ∧ Sorted l x y es ∧ Below w.heap.size w w'

set_option maxHeartbeats 8000000 in
theorem ends_any (v : Value) (l : List Sp) (x y : Int) (w : World) (h : Spans w v l) (hl : l.length ≤ 1048576) :
    Calls Try.prog 37 #[v, .agg #[.int .i64 x, .int .i64 y]] w (EndsPost l x y w) := by
  obtain ⟨va, vc, rfl⟩ := h.shape
  have hb0 := (Below.refl w.heap.size w).alloc (Nat.le_refl _) (.cells #[.int .i64 x, .int .i64 y] 24)
  have hk0 := new_block w (.cells #[.int .i64 x, .int .i64 y] 24)
  have HRD := Lib.hid (show ∀ k (hk : k < l.length), ∃ b off, va = some ⟨b, off, none⟩ ∧ b < w.heap.size ∧ w.cell? ⟨b, off + k * 2, none⟩ = some (.int .i64 l[k].1) ∧ w.cell? ⟨b, off + k * 2 + 1, none⟩ = some (.int .i64 l[k].2) from by
    intro k hk
    rcases h with ⟨rfl, _⟩ | ⟨b, off, cap, hv, _, _, hlt, hs⟩
    · simp at hk
    · injection hv with e1 e2 e3
      exact ⟨b, off, e1, hlt, hs k hk⟩)
  clear h
  obtain ⟨i0, hi, hz0, hz1, hz2⟩ := info_parts infoInt
  go_enter Try.func37, Try.ntmps37
  go_wp2_with fail
  go_loopw [5, 6] (fun o i wr => ∃ k : Nat, k ≤ l.length ∧ i = .int .i64 (k : Int) ∧ OwnI wr (w.heap.size + 1) o (endsOf (l.take k)) ∧ wr.heap[w.heap.size]? = some (.cells #[.int .i64 x, .int .i64 y] 24 (0, 0)) ∧ Below w.heap.size w wr) (fun _ i _ => l.length - (intOf i).toNat)
  case atStart => exact ⟨0, Nat.zero_le _, rfl, OwnI.nil _ _, hk0, hb0⟩
  case round =>
    obtain ⟨k, hk, rfl, ho, hbox, hB⟩ := hrel
    have HO := Lib.hid ho
    have hwb := block_lt hbox
    obtain ⟨oa, oc, rfl⟩ := ho.shape
    have hel := ends_len (l.take k)
    have htk : (l.take k).length = k := by rw [List.length_take]; omega
    rw [htk] at hel
    rw [hel]
    rw [hel] at HO
    clear ho
    by_cases hlt2 : k < l.length
    · obtain ⟨b, off, rfl, hlt, c0, c1⟩ := HRD.out k hlt2
      have c0 := (hB.cell (p := ⟨b, off + k * 2, none⟩) hlt).trans c0
      have c1 := (hB.cell (p := ⟨b, off + k * 2 + 1, none⟩) hlt).trans c1
      have HST := Lib.hid (ends_step l k hlt2)
      generalize l[k].1 = p at c0 HST
      generalize l[k].2 = q at c1 HST
      have HA := Lib.hid ((((Below.refl wr.heap.size wr).drew).alloc (Nat.le_refl _) (.cells #[.int .i64 p, .int .i64 q] 3)))
      have HB2 := Lib.hid ((hB.drew).alloc (by show w.heap.size ≤ wr.heap.size; omega) (.cells #[.int .i64 p, .int .i64 q] 3))
      have HN := Lib.hid (news_two (new_block wr.drew (.cells #[.int .i64 p, .int .i64 q] 3)))
      have HO2 := Lib.hid (HO.out.kept HA.out)
      have HBX := Lib.hid (Bl.old HA.out hwb hbox)
      clear hbox
      go_upto_region 5 with fail
      go_region_law (refine step_append_int (by rfl) _ _ 50 (by rfl) (w.heap.size + 1) 3 i0 (.int .i64 0) 1 8 Try.underlying50 hi hz0 hz1 hz2 rfl (by decide) (.slice oa (k * 2) oc) (k * 2) (IV (endsOf (l.take k))) (by rfl) (by have := HO2.out; unfold OwnI at this; rw [hel] at this; exact this) ⟨wr.heap.size, 0, none⟩ 2 2 (IV [p, q]) (by rfl) rfl HN.out (one_cells p q) (by unfold maxLen; omega) (by omega) (by show w.heap.size + 1 ≤ _; simp; omega) ?_; intro v' w3 hown hgrow)
      all_goals
        have HO3 := Lib.hid (show OwnI w3 (w.heap.size + 1) v' (endsOf (l.take (k + 1))) from by unfold OwnI; rw [HST.out, IV_append, List.length_append, hel]; exact hown)
        have hlt3 : ∀ q, (Value.slice oa (k * 2) oc).ownBlock = some q → w.heap.size + 1 ≤ q := fun q hq => (World.ownsRow.lt HO2.out q hq).1
        have hB3 := HB2.out.grown hgrow HB2.out.size (fun q hq => by have := hlt3 q hq; omega)
        have hbox3 := (hgrow.block w.heap.size (block_lt HBX.out) (fun e => by have := hlt3 _ e.symm; omega)).trans HBX.out
        clear hown hgrow
        go_wp2_with fail
        go_roundw
        case rel => exact ⟨k + 1, by omega, by go_num, HO3.out, hbox3, hB3⟩
        case measure => simp [intOf]; omega
    · have hall : l.take k = l := List.take_of_length_le (by omega)
      rw [hall] at HO
      obtain rfl : k = l.length := by omega
      have c0 := two0 hbox
      have c1 := two1 hbox
      have HA := Lib.hid (((Below.refl wr.heap.size wr)).alloc (Nat.le_refl _) (.cells #[.int .i64 x, .int .i64 y] 3))
      have HB2 := Lib.hid (hB.alloc (by omega) (.cells #[.int .i64 x, .int .i64 y] 3))
      have HN := Lib.hid (news_two (new_block wr (.cells #[.int .i64 x, .int .i64 y] 3)))
      have HO2 := Lib.hid (HO.out.kept HA.out)
      have HEL := Lib.hid (show (endsOf l).length = l.length * 2 from ends_len l)
      clear hbox hel htk hall
      go_wp2_with (at_builtin; refine wpList_append_own _ rfl _ _ 50 rfl (w.heap.size + 1) 3 i0 (.int .i64 0) 1 8 Try.underlying50 hi hz0 hz1 hz2 rfl (by decide) (.slice oa (l.length * 2) oc) (l.length * 2) (IV (endsOf l)) rfl (by have := HO2.out; unfold OwnI at this; rw [HEL.out] at this; exact this) ⟨wr.heap.size, 0, none⟩ 2 2 (IV [x, y]) rfl rfl HN.out (one_cells x y) (by unfold maxLen; omega) (by omega) (by simp; omega) ?_; intro v' w3 hown hgrow hnil)
      have ho3 : OwnI w3 (w.heap.size + 1) v' (endsOf l ++ [x, y]) := by unfold OwnI; rw [IV_append, List.length_append, HEL.out]; exact hown
      have hlt3 : ∀ q, (Value.slice oa (l.length * 2) oc).ownBlock = some q → w.heap.size + 1 ≤ q := fun q hq => (World.ownsRow.lt HO2.out q hq).1
      have hB3 := HB2.out.grown hgrow HB2.out.size (fun q hq => by have := hlt3 q hq; omega)
      have hel0 : (endsOf l ++ [x, y]).length = l.length * 2 + 2 := by rw [List.length_append, HEL.out]; rfl
      obtain ⟨e0, he0⟩ : ∃ e0, e0 = endsOf l ++ [x, y] := ⟨_, rfl⟩
      obtain ⟨n, hn⟩ : ∃ n, n = l.length * 2 + 2 := ⟨_, rfl⟩
      rw [← he0] at ho3 hel0
      rw [← hn] at hel0
      obtain ⟨g, cap, rfl, hg, _, hnc⟩ := ho3.form (by omega)
      rw [hel0] at ho3 hnc
      rw [hel0]
      have HO3 := Lib.hid ho3
      have HE0 := Lib.hid he0
      have HN0 := Lib.hid hn
      have HEL0 := Lib.hid hel0
      have hn2 : n ≤ 2097154 := by omega
      clear hown hgrow hnil hlt3 ho3 he0 hel0 hn HO2 HN HB2 HA HO
      go_loopw [7] (fun i W => ∃ (k : Nat) (e : List Int), k ≤ n ∧ i = .int .i64 (k : Int) ∧ OwnI W (w.heap.size + 1) (.slice (some ⟨g, 0, none⟩) n cap) e ∧ SortAt e0 e k (k + 1) ∧ Below w.heap.size w W) (fun i _ => n - (intOf i).toNat)
      case atStart => exact ⟨0, e0, Nat.zero_le _, rfl, HO3.out, SortAt.start e0, hB3⟩
      case round =>
        obtain ⟨k, e, hk, rfl, ho, hS, hB4⟩ := hrel
        have HO4 := Lib.hid ho
        have HS4 := Lib.hid hS
        clear ho hS HO3 hB3
        by_cases hlt2 : k < n
        · go_wp2_with fail
          go_loopw [8] (fun i W => ∃ (j : Nat) (e : List Int), k < j ∧ j ≤ n ∧ i = .int .i64 (j : Int) ∧ OwnI W (w.heap.size + 1) (.slice (some ⟨g, 0, none⟩) n cap) e ∧ SortAt e0 e k j ∧ Below w.heap.size w W) (fun i _ => n - (intOf i).toNat)
          case atStart => exact ⟨k + 1, e, by omega, by omega, by go_num, HO4.out, HS4.out, hB4⟩
          case round =>
            obtain ⟨j, e5, hkj, hj, rfl, ho, hS, hB5⟩ := hrel
            have HO5 := Lib.hid ho
            have HS5 := Lib.hid hS
            have hl5 : e5.length = n := by rw [hS.len]; exact HEL0.out
            by_cases hlt3 : j < n
            · have ck := ho.cell k (by omega)
              have cj := ho.cell j (by omega)
              have fk := ho.free k
              have fj := ho.free j
              have HSW := Lib.hid (show e5.getD j 0 < e5.getD k 0 → SortAt e0 (swp e5 k j) k (j + 1) from fun h => hS.swap hkj (by omega) h)
              have HKP := Lib.hid (show e5.getD k 0 ≤ e5.getD j 0 → SortAt e0 e5 k (j + 1) from fun h => hS.keep h)
              have HPUT := Lib.hid (show OwnI ((wr.drew.setCell ⟨g, k, none⟩ (.int .i64 (e5.getD j 0))).setCell ⟨g, j, none⟩ (.int .i64 (e5.getD k 0))) (w.heap.size + 1) (.slice (some ⟨g, 0, none⟩) n cap) (swp e5 k j) from
                (OwnI.put (show OwnI wr.drew _ _ _ from ho) k (e5.getD j 0)).put j (e5.getD k 0))
              have HOD := Lib.hid (show OwnI wr.drew (w.heap.size + 1) (.slice (some ⟨g, 0, none⟩) n cap) e5 from ho)
              clear ho hS hl5
              generalize e5.getD k 0 = a at ck HSW HKP HPUT
              generalize e5.getD j 0 = b at cj HSW HKP HPUT
              by_cases hab : b < a
              · have HN := Lib.hid (HSW.out hab)
                go_upto_region 13 with fail
                go_region
                all_goals go_wp2_with fail
                all_goals go_roundw
                case rel => exact ⟨j + 1, swp e5 k j, by omega, by omega, by go_num, HPUT.out, HN.out, ((hB5.drew).setCell (p := ⟨g, k, none⟩) (by show w.heap.size ≤ g; omega) _).setCell (p := ⟨g, j, none⟩) (by show w.heap.size ≤ g; omega) _⟩
                case measure => simp [intOf]; omega
              · have HN := Lib.hid (HKP.out (by omega))
                go_upto_region 13 with fail
                go_region
                all_goals go_wp2_with fail
                all_goals go_roundw
                case rel => exact ⟨j + 1, e5, by omega, by omega, by go_num, HOD.out, HN.out, hB5.drew⟩
                case measure => simp [intOf]; omega
            · have HN := Lib.hid (show SortAt e0 e5 (k + 1) (k + 2) from hS.next (by omega))
              clear ho hS
              go_wp2_with fail
              go_roundw
              case rel => exact ⟨k + 1, e5, by omega, by go_num, HO5.out, HN.out, hB5⟩
              case measure => simp [intOf]; omega
        · have HR := Lib.hid (show Sorted l x y e from by
            have hl4 : e.length = n := by rw [HS4.out.len]; exact HEL0.out
            refine ⟨by rw [hl4]; exact HN0.out, fun z => ?_, HS4.out.done (by omega)⟩
            rw [HS4.out.mem, HE0.out])
          go_wp2_with fail
          go_ret
          exact ⟨_, e, rfl, HO4.out.mono (by omega), HR.out, hB4⟩
end Go.Proofs.Ytifceaffglomaaa.Sn
