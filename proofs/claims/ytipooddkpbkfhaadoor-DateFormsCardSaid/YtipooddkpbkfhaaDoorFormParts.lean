/-
  The first form's other parts, and how the two other forms are put together of them. No program, no condition.
-/
import Derived.Test.YtipooddkpbkfhaaDoorParseForms
namespace Go.Proofs.YtipooddkpbkfhaaDoor.Dt
open Go.RowKit

theorem form1_dd (wd y k d c : Nat) (hw : wd < 7) : ((form1 wd y k d c).drop 5).take 2 = two d := by
  have := part_mid (short wd ++ [44, 32]) (two d) ([32] ++ monNames.getD k [] ++ [32] ++ four y ++ [32] ++ clk c ++ [32, 71, 77, 84]) 5 2 (by simp [short_length wd hw]) rfl
  simpa [form1] using this
theorem form1_mon (wd y k d c : Nat) (hw : wd < 7) (hk : k < 12) : ((form1 wd y k d c).drop 8).take 3 = monNames.getD k [] := by
  have := part_mid (short wd ++ [44, 32] ++ two d ++ [32]) (monNames.getD k []) ([32] ++ four y ++ [32] ++ clk c ++ [32, 71, 77, 84]) 8 3 (by simp [short_length wd hw, two_length]) (mon_length k hk)
  simpa [form1] using this
theorem form1_yyyy (wd y k d c : Nat) (hw : wd < 7) (hk : k < 12) : ((form1 wd y k d c).drop 12).take 4 = four y := by
  have := part_mid (short wd ++ [44, 32] ++ two d ++ [32] ++ monNames.getD k [] ++ [32]) (four y) ([32] ++ clk c ++ [32, 71, 77, 84]) 12 4 (by simp only [List.length_append, short_length wd hw, mon_length k hk, two_length, List.length_cons, List.length_nil]) rfl
  simpa [form1] using this
theorem form1_yy (wd y k d c : Nat) (hw : wd < 7) (hk : k < 12) : ((form1 wd y k d c).drop 14).take 2 = two (y % 100) := by
  have := part_mid (short wd ++ [44, 32] ++ two d ++ [32] ++ monNames.getD k [] ++ [32] ++ two (y / 100)) (two (y % 100)) ([32] ++ clk c ++ [32, 71, 77, 84]) 14 2 (by simp only [List.length_append, short_length wd hw, mon_length k hk, two_length, List.length_cons, List.length_nil]) rfl
  simpa [form1, four] using this
theorem form1_end (wd y k d c : Nat) (hw : wd < 7) (hk : k < 12) : ((form1 wd y k d c).drop 16).take 13 = 32 :: (clk c ++ [32, 71, 77, 84]) := by
  have := part_mid (short wd ++ [44, 32] ++ two d ++ [32] ++ monNames.getD k [] ++ [32] ++ four y) ([32] ++ clk c ++ [32, 71, 77, 84]) [] 16 13 (by simp only [List.length_append, short_length wd hw, mon_length k hk, two_length, four_length, List.length_cons, List.length_nil]) rfl
  simpa [form1] using this
theorem old_eq (wd y k d c : Nat) : B (longNames.getD wd []) ++ B [44, 32] ++ B (two d) ++ B [45] ++ B (monNames.getD k []) ++ B [45] ++ B (two (y % 100)) ++ B (32 :: (clk c ++ [32, 71, 77, 84])) = B (form2 wd y k d c) := by
  simp only [B_append]
  congr 1
  simp [form2]
theorem plain_eq (wd y k d c : Nat) : B (short wd) ++ B [32] ++ B (monNames.getD k []) ++ B [32] ++ B (dayText d) ++ B [32] ++ B (clk c) ++ B [32] ++ B (four y) = B (form3 wd y k d c) := by
  simp only [B_append]
  congr 1
  simp [form3]
theorem texts_at {w : World} {g : Nat} {ls : List Bs} {t : TypeId} (h : w.heap[g]? = some (.cells (tabCells ls) t (0, 0))) (j : Nat) (hj : j < ls.length) : w.cell? ⟨g, j, none⟩ = some (.string (B (ls.getD j []))) := by
  simp [World.cell?, h, tabCells, hj, B]
theorem short_inj (i j : Nat) (hi : i < 7) (hj : j < 7) (h : short i = short j) : i = j := by
  have e1 := pick_short i [] hi
  have e2 := pick_short j [] hj
  rw [h, e2] at e1
  injection e1 with e1
  injection e1 with e1
  exact e1.symm
theorem long_cut (j : Nat) : (B (longNames.getD j [])).extract 0 3 = B (short j) := by
  rw [B_extract]; rfl
theorem long_size (j : Nat) (hj : j < 7) : 3 ≤ (B (longNames.getD j [])).size ∧ (B (longNames.getD j [])).size ≤ 9 := by
  match j, hj with
  | 0, _ | 1, _ | 2, _ | 3, _ | 4, _ | 5, _ | 6, _ => decide
/-- By then there are no years of other hundreds. -/
theorem early {y : Int} {k : Nat} {d n : Int} (hv : Valid y k d) (hd : dayOf y k d = n / 86400) (hn : n < 3155760000) : y ≤ 2069 := by
  by_cases h : y ≤ 2069
  · exact h
  · have h1 := yst_mono (show 2070 ≤ y by omega)
    have h2 := hv.within
    have h3 : yst 2070 = 36525 := by decide
    omega
end Go.Proofs.YtipooddkpbkfhaaDoor.Dt
