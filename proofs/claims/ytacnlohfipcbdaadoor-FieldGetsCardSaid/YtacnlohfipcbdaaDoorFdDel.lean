/-
  field.Del and Set: what each returns. Conditions: fields of at most 2^20 bytes in all; a name and a value of at most 2^20 bytes.
-/
import Derived.Test.YtacnlohfipcbdaaDoorFdWithout
namespace Go.Proofs.YtacnlohfipcbdaaDoor.Fd
open Go.RowKit Tk Go.Maps
set_option linter.unusedVariables false

theorem del_keep (fs : List Fl) (nm : Bs) : keepF fs [lower nm] = del fs nm := by
  unfold keepF del
  congr 1
  funext f
  simp only [has, alike, List.contains_cons, List.contains_nil, Bool.or_false]
theorem texts_one {w : World} {g : Nat} {s : ByteArray} (h : w.heap[g]? = some (.cells #[.string s] 9 (0, 0))) : Texts w (.slice (some ⟨g, 0, none⟩) 1 1) [s.data.toList] := by
  refine .inr ⟨g, 0, 1, rfl, fun j hj => ?_⟩
  have : j = 0 := by simpa using hj
  subst this
  rw [Nat.zero_add, Lib.cell_of_heap h]
  rfl

set_option maxHeartbeats 1000000 in
theorem del_any (v : Value) (fs : List Fl) (nm : ByteArray) (w : World) (hf : Flds w v fs) (ht : tot fs ≤ 1048576) (hn : nm.size ≤ 1048576) :
    Calls Tryd.prog 19 #[v, .string nm] w (KeepPost (del fs nm.data.toList) w) := by
  have hb := (Below.refl w.heap.size w).alloc (Nat.le_refl _) (.cells #[.string nm] 9)
  have HF := Lib.hid (hf.below hb (Nat.le_refl _))
  have HT := Lib.hid (texts_one (new_block w (.cells #[.string nm] 9)))
  have HE := Lib.hid (del_keep fs nm.data.toList)
  go_enter Tryd.func19, Tryd.ntmps19
  go_wp2_with fail
  refine (without_any v _ fs [nm.data.toList] _ HF.out ht HT.out (by simp) (by simpa using hn)).mono ?_
  rintro e w1 ⟨r, rfl, hO, hb1⟩
  rw [show [nm.data.toList].map lower = [lower nm.data.toList] from rfl, HE.out] at hO
  have HO := Lib.hid hO
  obtain ⟨ra, rc, hr⟩ := hO.form
  clear hO
  rw [hr] at HO
  rw [hr]
  clear hr
  have hB := Bl.next hb hb1
  clear hb1
  go_wp2_with fail
  go_ret
  exact ⟨_, rfl, owns_mono HO.out hb.size, hB⟩

set_option maxHeartbeats 2000000 in
theorem set_any (v : Value) (fs : List Fl) (nm val : ByteArray) (w : World) (hf : Flds w v fs) (ht : tot fs ≤ 1048576) (hn : nm.size ≤ 1048576) (hv : val.size ≤ 1048576) :
    Calls Tryd.prog 21 #[v, .string nm, .string val] w (KeepPost (del fs nm.data.toList ++ [(nm, val)]) w) := by
  have hb := (Below.refl w.heap.size w).alloc (Nat.le_refl _) (.cells #[.string nm] 9)
  have HF := Lib.hid (hf.below hb (Nat.le_refl _))
  have HT := Lib.hid (texts_one (new_block w (.cells #[.string nm] 9)))
  have HE := Lib.hid (del_keep fs nm.data.toList)
  have hlen : (del fs nm.data.toList).length ≤ 1048576 := by
    have h1 : (del fs nm.data.toList).length ≤ fs.length := List.length_filter_le _ _
    have := tot_len fs; omega
  obtain ⟨i0, hi, hz0, hz1, hz2⟩ := info_parts infoField
  go_enter Tryd.func21, Tryd.ntmps21
  go_wp2_with fail
  refine (without_any v _ fs [nm.data.toList] _ HF.out ht HT.out (by simp) (by simpa using hn)).mono ?_
  rintro e w1 ⟨r, rfl, hO, hb1⟩
  rw [show [nm.data.toList].map lower = [lower nm.data.toList] from rfl, HE.out] at hO
  have hB1 := Bl.next hb hb1
  have HO1 := Lib.hid (show OwnF w1 w.heap.size r (del fs nm.data.toList) from owns_mono hO hb.size)
  clear hb1 hO
  go_wp2_with fail
  refine (cloneF_any nm val _ (by omega) (by omega)).mono ?_
  rintro e w2 ⟨rfl, hb2⟩
  have hB2 := Bl.next hB1 hb2
  have hsz2 := hB2.size
  have HN2 := Lib.hid (news_at (new_block w2 (.cells #[.string nm, .string val] 23)))
  have HO3 := Lib.hid ((HO1.out.kept hb2).kept ((Below.refl _ _).alloc (Nat.le_refl _) (.cells #[.string nm, .string val] 23)))
  have hB3 := hB2.alloc hsz2 (.cells #[.string nm, .string val] 23)
  clear HO1 hB2 hB1 hb2 HF HT HE
  go_wp2_with (at_builtin; refine wpList_append_own _ rfl _ _ 25 rfl w.heap.size 23 i0 (.agg #[.string ⟨#[]⟩, .string ⟨#[]⟩]) 2 32 Tryd.underlying25 hi hz0 hz1 hz2 rfl (by decide) _ _ _ rfl HO3.out ⟨w2.heap.size, 0, none⟩ 1 1 [.string nm, .string val] rfl rfl HN2.out (one_cells nm val) (by unfold maxLen; omega) (by omega) (by simp; omega) ?_; intro v' w3 hown' hgrow hnil)
  have hB4 := hB3.grown hgrow hB3.size HO3.out.row
  have HO4 := Lib.hid (show OwnF w3 w.heap.size v' (del fs nm.data.toList ++ [(nm, val)]) from by unfold OwnF; rw [flat_snoc, List.length_append]; exact hown')
  obtain ⟨ra, rc, hr⟩ := HO4.out.form
  rw [hr] at HO4
  rw [hr]
  clear hr hown' hgrow hnil
  go_wp2_with fail
  go_ret
  exact ⟨_, rfl, HO4.out, hB4⟩
end Go.Proofs.YtacnlohfipcbdaaDoor.Fd
