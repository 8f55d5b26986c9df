/-
  gatepostref04.Del and Set: what each returns. Conditions: fields of at most 2^20 bytes in all; a name of at most 2^20 bytes.
-/
import Derived.Test.YtacnlohfipcbdaaDoorFdKeep
import Derived.Test.YtacnlohfipcbdaaDoorTokRefLower
namespace Go.Proofs.YtacnlohfipcbdaaDoor.Fd
open Go.RowKit Tk
set_option linter.unusedVariables false

theorem del_yes (fs : List Fl) (nm : Bs) (k : Nat) (h : k < fs.length) (hp : has nm fs[k] = false) : del (fs.take (k + 1)) nm = del (fs.take k) nm ++ [fs[k]] := by
  unfold del; rw [filter_next _ _ _ h, hp]; rfl
theorem del_no (fs : List Fl) (nm : Bs) (k : Nat) (h : k < fs.length) (hp : has nm fs[k] = true) : del (fs.take (k + 1)) nm = del (fs.take k) nm := by
  unfold del; rw [filter_next _ _ _ h, hp]; simp
theorem del_len (fs : List Fl) (nm : Bs) (k : Nat) : (del (fs.take k) nm).length ≤ k := by
  unfold del; exact Nat.le_trans (List.length_filter_le _ _) (List.length_take_le _ _)
theorem same_has (nm : ByteArray) (f : Fl) : same f.1.data.toList nm.data.toList = has nm.data.toList f := rfl

set_option maxHeartbeats 4000000 in
theorem refDel_any (v : Value) (fs : List Fl) (nm : ByteArray) (w : World) (hf : Flds w v fs) (ht : tot fs ≤ 1048576) (hn : nm.size ≤ maxLen) :
    Calls Tryd.prog 20 #[v, .string nm] w (KeepPost (del fs nm.data.toList) w) := by
  rcases hf with ⟨rfl, a, cap, rfl⟩ | ⟨b, off, cap, rfl, hlt, hc⟩
  · have HO := Lib.hid (OwnF.nil w w.heap.size)
    go_enter Tryd.func20, Tryd.ntmps20
    go_wp2_with fail
    refine wp_loop_rounds 1 ?_
    rw [rounds_succ]
    go_wp2_with fail
    go_ret
    exact ⟨_, rfl, HO.out, Below.refl _ _⟩
  · have HC := Lib.hid hc
    have hlen := tot_len fs
    have HO := Lib.hid (OwnF.nil w w.heap.size)
    clear hc
    obtain ⟨i0, hi, hz0, hz1, hz2⟩ := info_parts infoField
    go_enter Tryd.func20, Tryd.ntmps20
    go_wp2_with fail
    go_loopw [5, 6] (fun o i wr => ∃ k : Nat, k ≤ fs.length ∧ i = .int .i64 (k : Int) ∧ OwnF wr w.heap.size o (del (fs.take k) nm.data.toList) ∧ Below w.heap.size w wr) (fun _ i _ => fs.length - (intOf i).toNat)
    case atStart => exact ⟨0, Nat.zero_le _, rfl, HO.out, Below.refl _ _⟩
    case round =>
      obtain ⟨k, hk, rfl, hO, hB⟩ := hrel
      have HOk := Lib.hid hO
      clear hO HO
      have hsz := hB.size
      by_cases hlt2 : k < fs.length
      · have HC1 := Lib.hid (show ∀ W : World, Below w.heap.size w W → W.cell? ⟨b, off + k * 2, none⟩ = some (.string fs[k].1) ∧ W.cell? ⟨b, off + k * 2 + 1, none⟩ = some (.string fs[k].2) from
          fun W hW => ⟨(hW.cell (p := ⟨b, off + k * 2, none⟩) hlt).trans (HC.out k hlt2).1, (hW.cell (p := ⟨b, off + k * 2 + 1, none⟩) hlt).trans (HC.out k hlt2).2⟩)
        have hx2 := tot_at fs k hlt2
        have hkl := del_len fs nm.data.toList k
        have HS := Lib.hid (same_has nm fs[k])
        cases hh : has nm.data.toList fs[k] with
        | true =>
          have HN := Lib.hid (del_no fs nm.data.toList k hlt2 hh)
          have HH := Lib.hid (HS.out.trans hh)
          obtain ⟨x, hx⟩ : ∃ x, x = fs[k].1 := ⟨_, rfl⟩
          rw [← hx] at HC1 HH hx2
          have c1 := (HC1.out wr hB).1
          clear hx hh HS
          go_wp2_with fail
          refine (refSame_any x nm _ (by unfold maxLen; omega) hn).mono ?_
          rintro e w1 ⟨rfl, hb1⟩
          rw [HH.out]
          have hB1 := Bl.next hB hb1
          have HO1 := Lib.hid (HOk.out.kept hb1)
          clear hb1 HOk c1
          go_wp2_with fail
          go_roundw
          case rel => exact ⟨k + 1, by omega, by go_num, by rw [HN.out]; exact HO1.out, hB1⟩
          case measure => simp [intOf]; omega
        | false =>
          have HN := Lib.hid (del_yes fs nm.data.toList k hlt2 hh)
          have HH := Lib.hid (HS.out.trans hh)
          have HXY := Lib.hid (show fs[k] = (fs[k].1, fs[k].2) from rfl)
          obtain ⟨x, hx⟩ : ∃ x, x = fs[k].1 := ⟨_, rfl⟩
          obtain ⟨y, hy⟩ : ∃ y, y = fs[k].2 := ⟨_, rfl⟩
          rw [← hx] at HC1 HH hx2 HXY
          rw [← hy] at HC1 hx2 HXY
          have c1 := (HC1.out wr hB).1
          clear hx hy hh HS
          go_wp2_with fail
          refine (refSame_any x nm _ (by unfold maxLen; omega) hn).mono ?_
          rintro e w2 ⟨rfl, hb1⟩
          rw [HH.out]
          have hB2 := Bl.next hB hb1
          have hsz2 := hB2.size
          have c2 := (HC1.out w2 hB2).1
          have c3 := (HC1.out w2 hB2).2
          have HN2 := Lib.hid (news_at (new_block w2 (.cells #[.string x, .string y] 23)))
          have HO3 := Lib.hid ((HOk.out.kept hb1).kept ((Below.refl _ _).alloc (Nat.le_refl _) (.cells #[.string x, .string y] 23)))
          have hB3 := hB2.alloc hsz2 (.cells #[.string x, .string y] 23)
          clear HOk hb1 c1 hB2
          go_wp2_with (at_builtin; refine wpList_append_own _ rfl _ _ 25 rfl w.heap.size 23 i0 (.agg #[.string ⟨#[]⟩, .string ⟨#[]⟩]) 2 32 Tryd.underlying25 hi hz0 hz1 hz2 rfl (by decide) _ _ _ rfl HO3.out ⟨w2.heap.size, 0, none⟩ 1 1 [.string x, .string y] rfl rfl HN2.out (one_cells x y) (by unfold maxLen; omega) (by omega) (by simp; omega) ?_; intro v' w3 hown' hgrow hnil)
          have hB4 := hB3.grown hgrow hB3.size HO3.out.row
          clear c2 c3
          go_roundw
          case rel => exact ⟨k + 1, by omega, by go_num, by rw [HN.out, HXY.out]; unfold OwnF; rw [flat_snoc, List.length_append]; exact hown', hB4⟩
          case measure => simp [intOf]; omega
      · have HE := Lib.hid (show fs.take k = fs from List.take_of_length_le (by omega))
        rw [HE.out] at HOk
        go_wp2_with fail
        go_ret
        exact ⟨_, rfl, HOk.out, hB⟩

set_option maxHeartbeats 2000000 in
theorem refSet_any (v : Value) (fs : List Fl) (nm val : ByteArray) (w : World) (hf : Flds w v fs) (ht : tot fs ≤ 1048576) (hn : nm.size ≤ maxLen) :
    Calls Tryd.prog 22 #[v, .string nm, .string val] w (KeepPost (del fs nm.data.toList ++ [(nm, val)]) w) := by
  have hlen : (del fs nm.data.toList).length ≤ 1048576 := by
    have h1 : (del fs nm.data.toList).length ≤ fs.length := List.length_filter_le _ _
    have := tot_len fs; omega
  obtain ⟨i0, hi, hz0, hz1, hz2⟩ := info_parts infoField
  go_enter Tryd.func22, Tryd.ntmps22
  go_wp2_with fail
  refine (refDel_any v fs nm _ hf ht hn).mono ?_
  rintro e w2 ⟨r, rfl, hO, hb1⟩
  have hsz2 := hb1.size
  have HN2 := Lib.hid (news_at (new_block w2 (.cells #[.string nm, .string val] 23)))
  have HO3 := Lib.hid (hO.kept ((Below.refl _ _).alloc (Nat.le_refl _) (.cells #[.string nm, .string val] 23)))
  have hB3 := hb1.alloc hsz2 (.cells #[.string nm, .string val] 23)
  clear hO hb1
  go_wp2_with (at_builtin; refine wpList_append_own _ rfl _ _ 25 rfl w.heap.size 23 i0 (.agg #[.string ⟨#[]⟩, .string ⟨#[]⟩]) 2 32 Tryd.underlying25 hi hz0 hz1 hz2 rfl (by decide) _ _ _ rfl HO3.out ⟨w2.heap.size, 0, none⟩ 1 1 [.string nm, .string val] rfl rfl HN2.out (one_cells nm val) (by unfold maxLen; omega) (by omega) (by simp; omega) ?_; intro v' w3 hown' hgrow hnil)
  have hB4 := hB3.grown hgrow hB3.size HO3.out.row
  have HO4 := Lib.hid (show OwnF w3 w.heap.size v' (del fs nm.data.toList ++ [(nm, val)]) from by unfold OwnF; rw [flat_snoc, List.length_append]; exact hown')
  obtain ⟨ra, rc, hr⟩ := HO4.out.form
  rw [hr] at HO4
  rw [hr]
  clear hr hown' hgrow hnil
  go_wp2_with fail
  go_ret
  exact ⟨_, rfl, HO4.out, hB4⟩
end Go.Proofs.YtacnlohfipcbdaaDoor.Fd
