/-
  ranges.Parse: what it returns. Condition: a text of at most 2^30 bytes.
-/
import Derived.Test.YthhnpdihgoiccaaRnList
import Derived.Test.YthhnpdihgoiccaaTokLower
namespace Go.Proofs.Ythhnpdihgoiccaa.Rn
open Go.RowKit Go.Proofs.Ythhnpdihgoiccaa.Fd Go.Proofs.Ythhnpdihgoiccaa.Sn Go.Proofs.Ythhnpdihgoiccaa.Rm
set_option maxRecDepth 100000
set_option linter.unusedVariables false
set_option linter.unusedSimpArgs false

/-- A block of so many ranges, whose first are told. -/
def PartW (w : World) (g N : Nat) (L : List Sp) : Prop := ∃ cur : Array Value, w.heap[g]? = some (.cells cur 23 (0, 0)) ∧ cur.size = N * 2 ∧ cur.toList.take (L.length * 2) = flat L
theorem infoWant : (Try.prog.info? 23).map (fun i => (i.zero, i.size, i.bytes)) = some (some (.agg #[.int .i64 0, .int .i64 0]), 2, 16) := by kernel_rfl
theorem make_want (W : World) (N : Nat) (hN : N ≤ 1048576) : ∃ w', (Instr.makeSlice 24 (.int .i64 (N : Int)) (.int .i64 (N : Int))).run Try.prog W = .ok (.slice (some ⟨W.heap.size, 0, none⟩) N N) w' ∧ PartW w' W.heap.size N [] ∧ Below W.heap.size W w' := by
  obtain ⟨i, hi, hz, hs, hb⟩ := info_parts infoWant
  have hr := run_makeSlice (P := Try.prog) W 24 23 i _ Try.underlying24 hi hz .i64 .i64 (N : Int) (N : Int) (by omega) (by omega) (by rw [hs]; simp; omega) (by rw [hb]; omega) (by omega)
  simp only [Int.toNat_natCast] at hr
  exact ⟨_, hr, ⟨_, new_block W _, by rw [size_madeCells, hs], by simp [flat]⟩, (Below.refl _ _).alloc (Nat.le_refl _) _⟩
theorem PartW.lt {w : World} {g N : Nat} {L : List Sp} (h : PartW w g N L) : g < w.heap.size := by obtain ⟨cur, hg, _⟩ := h; exact block_lt hg
theorem PartW.next {w w' : World} {g N : Nat} {L : List Sp} (h : PartW w g N L) (hb : Below w.heap.size w w') : PartW w' g N L := by
  obtain ⟨cur, hg, h2⟩ := h
  exact ⟨cur, Bl.old hb (block_lt hg) hg, h2⟩
theorem PartW.cells {w : World} {g N : Nat} {L : List Sp} (h : PartW w g N L) (hL : L.length < N) : ∃ x y, w.cell? ⟨g, L.length * 2, none⟩ = some x ∧ w.cell? ⟨g, L.length * 2 + 1, none⟩ = some y ∧ ∀ j, w.frozen? ⟨g, j, none⟩ = false := by
  obtain ⟨cur, hg, hsz, _⟩ := h
  have e : ∀ i (hi : i < cur.size), w.cell? ⟨g, i, none⟩ = some cur[i] := fun i hi => by rw [Lib.cell_of_heap hg, Array.getElem?_eq_getElem hi]
  exact ⟨_, _, e _ (by omega), e _ (by omega), free hg⟩
theorem PartW.put {w : World} {g N : Nat} {L : List Sp} (h : PartW w g N L) (hL : L.length < N) (x y : Int) : PartW ((w.setCell ⟨g, L.length * 2, none⟩ (.int .i64 x)).setCell ⟨g, L.length * 2 + 1, none⟩ (.int .i64 y)) g N (L ++ [(x, y)]) := by
  obtain ⟨cur, hg, hsz, htk⟩ := h
  refine ⟨_, heap_put (heap_put hg _ _) _ _, by simp [hsz], ?_⟩
  have hl : L.length * 2 + 1 < cur.toList.length := by simp; omega
  have e : ((cur.setIfInBounds (L.length * 2) (.int .i64 x)).setIfInBounds (L.length * 2 + 1) (.int .i64 y)).toList = (cur.toList.set (L.length * 2) (.int .i64 x)).set (L.length * 2 + 1) (.int .i64 y) := by simp
  rw [e, flat_snoc, List.length_append, Nat.add_mul]
  show List.take (L.length * 2 + 1 + 1) _ = _
  rw [List.take_succ_eq_append_getElem (by simpa using hl), List.take_set, List.take_succ_eq_append_getElem (by simp; omega)]
  rw [List.take_set, htk]
  simp
  rw [List.set_eq_of_length_le (by simp [flat_length]), List.set_eq_of_length_le (by rw [flat_length]; omega)]
  simp
theorem PartW.spans {w : World} {g N : Nat} {L : List Sp} (h : PartW w g N L) (hL : L.length = N) (hN : N ≤ 1048576) : Spans w (.slice (some ⟨g, 0, none⟩) N N) L := by
  obtain ⟨cur, hg, hsz, htk⟩ := h
  subst hL
  refine .inr ⟨g, 0, L.length, rfl, Nat.le_refl _, by omega, block_lt hg, fun j hj => ?_⟩
  have h2 := flat_at L j hj
  rw [← htk] at h2
  have e : ∀ i, i < L.length * 2 → w.cell? ⟨g, 0 + i, none⟩ = (cur.toList.take (L.length * 2))[i]? := fun i hi => by
    rw [Nat.zero_add, Lib.cell_of_heap hg, List.getElem?_take_of_lt hi]; simp
  constructor
  · rw [e _ (by omega)]; exact h2.1
  · show w.cell? ⟨g, 0 + (j * 2 + 1), none⟩ = _
    rw [e _ (by omega)]; exact h2.2
/-- What holds behind so many rounds. -/
structure Rd (w : World) (G C B g : Nat) (ls : List Tk.Bs) (L : List Sp) (wr : World) : Prop where
  part : PartW wr G ls.length L
  reads : Reads wr C B 1099511627776
  cells : Cells wr g ls
  bel : Below w.heap.size w wr
theorem Rd.next {w : World} {G C B g : Nat} {ls : List Tk.Bs} {L : List Sp} {wr wr' : World} (h : Rd w G C B g ls L wr) (hb : Below wr.heap.size wr wr') : Rd w G C B g ls L wr' :=
  ⟨h.part.next hb, h.reads.more hb h.reads.lt.1 h.reads.lt.2, h.cells.next hb h.cells.lt, Bl.next h.bel hb⟩
theorem Rd.put {w : World} {G C B g : Nat} {ls : List Tk.Bs} {L : List Sp} {wr : World} (h : Rd w G C B g ls L wr) (hL : L.length < ls.length) (x y : Int) (h1 : C ≠ G) (h2 : B ≠ G) (h3 : g ≠ G) (h4 : w.heap.size ≤ G) :
    Rd w G C B g ls (L ++ [(x, y)]) ((wr.setCell ⟨G, L.length * 2, none⟩ (.int .i64 x)).setCell ⟨G, L.length * 2 + 1, none⟩ (.int .i64 y)) := by
  have e : ∀ a, a ≠ G → ((wr.setCell ⟨G, L.length * 2, none⟩ (.int .i64 x)).setCell ⟨G, L.length * 2 + 1, none⟩ (.int .i64 y)).heap[a]? = wr.heap[a]? := fun a ha => by
    simp [World.setCell, Array.getElem?_modify, Ne.symm ha]
  refine ⟨h.part.put hL x y, ⟨(e C h1).trans h.reads.1, (e B h2).trans h.reads.2⟩, ⟨by simpa [World.setCell] using h.cells.lt, fun j hj => ?_⟩, (h.bel.setCell (p := ⟨G, L.length * 2, none⟩) h4 _).setCell (p := ⟨G, L.length * 2 + 1, none⟩) h4 _⟩
  rw [← h.cells.cell j hj]
  unfold World.cell?
  rw [e g h3]
theorem lower_hd : Tk.lower (⟨#[98, 121, 116, 101, 115, 61]⟩ : ByteArray).data.toList = hdL := by decide +kernel
set_option maxHeartbeats 8000000 in
theorem parse_any (s : ByteArray) (w : World) (hs : s.size ≤ 1073741824) :
    Calls Try.prog 6 #[.string s] w (ParsePost s.data.toList w) := by
  by_cases h6 : s.size < 6
  · have HN := Lib.hid (parse_short h6)
    go_enter Try.func6, Try.ntmps6
    go_wp2_with fail
    go_ret2
    exact post_none HN.out (Below.refl _ _)
  · obtain ⟨b, hb⟩ : ∃ b, Tk.same (s.extract 0 6).data.toList (⟨#[98, 121, 116, 101, 115, 61]⟩ : ByteArray).data.toList = b := ⟨_, rfl⟩
    have HB := Lib.hid hb
    have h6 : (6 : Int) ≤ s.size := by omega
    clear hb
    go_enter Try.func6, Try.ntmps6
    go_wp2_with fail
    refine (Tk.same_any (s.extract 0 6) _ _ (by unfold maxLen; simp; omega)).mono ?_
    rintro e w1 ⟨rfl, n, hw1⟩
    have hB1 := Bl.drewN' (Below.refl w.heap.size w) hw1
    rw [HB.out]
    clear hw1
    cases b with
    | false =>
      have HN := Lib.hid (parse_head (s := s) (by
        have h := HB.out
        intro e
        rw [Tk.same, e, lower_hd] at h
        simp at h))
      go_wp2_with fail
      go_ret2
      exact post_none HN.out hB1
    | true =>
      have HS := Lib.hid (parse_split (s := s) (by
        have h := HB.out
        rw [Tk.same, lower_hd, beq_iff_eq] at h
        exact h))
      have hz : (s.extract 6 s.size).size ≤ 1073741824 := by simp; omega
      obtain ⟨R, hR⟩ : ∃ R, s.extract 6 s.size = R := ⟨_, rfl⟩
      rw [hR] at HS hz
      have HSP := Lib.hid (show ∀ V : World, Calls Try.prog 14 #[.string (s.extract 6 s.size)] V (Tk.SplitPost R.data.toList V) from fun V => by rw [hR]; exact Tk.split_any R V (by omega))
      clear hR HB
      go_wp2_with fail
      refine (HSP.out _).mono ?_
      rintro e w2 ⟨hb2, h2⟩
      have hB2 := Bl.next hB1 hb2
      clear HSP
      rcases h2 with ⟨h2, rfl⟩ | ⟨ls, lv, h2, rfl, ho⟩
      · have HN := Lib.hid (show parseR s.data.toList = none from by rw [HS.out, h2])
        clear h2 hb2 hB1
        go_wp2_with fail
        go_ret2
        exact post_none HN.out hB2
      · replace HS := Lib.hid (show parseR s.data.toList = if 1 ≤ ls.length ∧ ls.length ≤ 32 then allW ls else none from by rw [HS.out, h2])
        have HP := Lib.hid (split_piece h2)
        have hRs : R.data.toList.length = R.size := size_len R
        clear hb2 hB1 h2
        by_cases h0 : ls.length = 0
        · have HN := Lib.hid (show parseR s.data.toList = none from by rw [HS.out, if_neg (by omega)])
          obtain ⟨a, cap, hv⟩ : ∃ a cap, lv = .slice a 0 cap := by
            rcases ho.2 with ⟨hv, _⟩ | ⟨g, cap, cur, hv, _⟩
            · exact ⟨none, 0, hv⟩
            · exact ⟨_, cap, by rw [hv, h0]⟩
          rw [hv]
          clear hv ho
          go_wp2_with fail
          go_ret2
          exact post_none HN.out hB2
        · obtain ⟨g, cap, hv, hC⟩ := cells_of ho (by omega)
          rw [hv]
          clear hv ho
          by_cases h32 : 32 < ls.length
          · have HN := Lib.hid (show parseR s.data.toList = none from by rw [HS.out, if_neg (by omega)])
            go_wp2_with fail
            go_ret2
            exact post_none HN.out hB2
          · replace HS := Lib.hid (show parseR s.data.toList = allW ls from by rw [HS.out, if_pos (by omega)])
            have HC := Lib.hid hC
            have hgl := hC.lt
            clear hC
            have i1 : (1 : Int) ≤ ls.length := by omega
            have i32 : (ls.length : Int) ≤ 32 := by omega
            have n0 : ((ls.length : Int) == 0) = false := by rw [beq_eq_false_iff_ne]; omega
            go_wp2_with fail
            refine (reader_any _ _).mono ?_
            rintro e w3 ⟨rfl, hw3⟩
            have hr3 : Reads w3 (w2.heap.size + 1) w2.heap.size 1099511627776 := by
              rw [← hw3]; exact ⟨new_block' _ _ (by simp), by show (World.alloc _ _).heap[_]? = _; rw [old_block _ _ (by simp)]; exact new_block _ _⟩
            have hb3 : Below w2.heap.size w2 w3 := by rw [← hw3]; exact ((Below.refl _ _).alloc (Nat.le_refl _) _).alloc (by simp) _
            have hC3 := HC.out.next hb3 hgl
            have hB3 := Bl.next hB2 hb3
            generalize w2.heap.size + 1 = C at hr3 ⊢
            generalize w2.heap.size = B at hr3 hb3 hgl ⊢
            clear hw3 hb3 HC hB2
            obtain ⟨w4, hmk, hpart, hb4⟩ := make_want w3 ls.length (by omega)
            have hr4 := hr3.more hb4 hr3.lt.1 hr3.lt.2
            have hC4 := hC3.next hb4 hC3.lt
            have hB4 := Bl.next hB3 hb4
            have HQ := Lib.hid (show Rd w w3.heap.size C B g ls [] w4 from ⟨hpart, hr4, hC4, hB4⟩)
            have q1 : C ≠ w3.heap.size := by have := hr3.lt.1; omega
            have q2 : B ≠ w3.heap.size := by have := hr3.lt.2; omega
            have q3 : g ≠ w3.heap.size := by have := hC3.lt; omega
            have q4 : w.heap.size ≤ w3.heap.size := hB3.size
            clear hr3 hC3 hB3 hpart hr4 hC4 hB4 hb4
            generalize w3.heap.size = G at HQ hmk q1 q2 q3 q4 ⊢
            unfold cloR
            go_wp2_with fail
            go_loopw [45] (fun i wr => ∃ (k : Nat) (L : List Sp), k ≤ ls.length ∧ i = .int .i64 (k : Int) ∧ allW (ls.take k) = some L ∧ Rd w G C B g ls L wr) (fun i _ => ls.length - (intOf i).toNat)
            case atStart => exact ⟨0, [], Nat.zero_le _, rfl, rfl, HQ.out⟩
            case round =>
              obtain ⟨k, L, hk, rfl, hL, hR⟩ := hrel
              clear HQ hmk
              have hLk : L.length = k := by rw [allW_length _ hL, List.length_take]; omega
              subst hLk
              have HR := Lib.hid hR
              clear hR
              by_cases hlt : L.length < ls.length
              · have c1 := HR.out.cells.cell L.length hlt
                have hxl := HP.out ls[L.length] (List.getElem_mem hlt)
                obtain ⟨x, hx⟩ : ∃ x : ByteArray, x = ⟨ls[L.length].toArray⟩ := ⟨_, rfl⟩
                have hxs : x.size ≤ maxLen := by rw [hx]; show ls[L.length].toArray.size ≤ _; rw [List.size_toArray]; unfold maxLen; omega
                unfold TS at c1
                rw [← hx] at c1
                have hxe : x.data.toList = ls[L.length] := by rw [hx]
                have HV := Lib.hid (show oneW ls[L.length] = if readB 1099511627776 x then some ((endV 1099511627776 (cutL x)).1, (endV 1099511627776 (cutR x)).1) else none from by
                  rw [← hxe, one_rd]; exact read_rd mostT x)
                have HRA := Lib.hid (read_any x C B 1099511627776 wr HR.out.reads hxs (by decide))
                generalize readB 1099511627776 x = b at HV HRA
                generalize (endV 1099511627776 (cutL x)).1 = px at HV HRA
                generalize (endV 1099511627776 (cutR x)).1 = py at HV HRA
                clear hx hxe hxl hxs
                go_wp2_with fail
                refine (HRA.out).mono ?_
                rintro e w5 ⟨rfl, hb5⟩
                have hR5 := HR.out.next hb5
                have hR6 := hR5.next ((Below.refl w5.heap.size w5).alloc (Nat.le_refl _) (.cells #[.int .i64 px, .int .i64 py] 23))
                clear hb5 HRA c1
                cases b with
                | false =>
                  have HN := Lib.hid (show parseR s.data.toList = none from by rw [HS.out]; exact allW_bad ls _ hlt HV.out)
                  have HB6 := Lib.hid hR6.bel
                  clear hR5 hR6
                  unfold SV
                  go_wp2_with fail
                  go_ret2
                  exact post_none HN.out HB6.out
                | true =>
                  have HN := Lib.hid (show allW (ls.take (L.length + 1)) = some (L ++ [(px, py)]) from by rw [take_snoc ls _ hlt]; exact allW_snoc _ hL HV.out)
                  have HP6 := Lib.hid (hR6.put hlt px py q1 q2 q3 q4)
                  obtain ⟨vx, vy, e0, e1, ff⟩ := hR6.part.cells hlt
                  have f0 := ff (L.length * 2)
                  have f1 := ff (L.length * 2 + 1)
                  clear hR5 hR6 ff
                  unfold SV
                  go_wp2_with fail
                  go_roundw
                  case rel => exact ⟨L.length + 1, L ++ [(px, py)], by omega, by go_num, HN.out, HP6.out⟩
                  case measure => simp [intOf]; omega
              · have hall : ls.take L.length = ls := List.take_of_length_le (by omega)
                rw [hall] at hL
                have HN := Lib.hid (show parseR s.data.toList = some L from by rw [HS.out]; exact hL)
                clear hL hall
                go_wp2_with fail
                go_ret2
                have hlen : L.length = ls.length := by omega
                exact post_some HN.out (HR.out.part.spans hlen (by omega)) HR.out.bel
end Go.Proofs.Ythhnpdihgoiccaa.Rn
