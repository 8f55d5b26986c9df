/-
  The first form's text: its length and its parts. No program, no condition.
-/
import Derived.Test.YtipooddkpbkfhaaDoorFmt
namespace Go.Proofs.YtipooddkpbkfhaaDoor.Dt
open Go.RowKit

theorem two_length (n : Nat) : (two n).length = 2 := rfl
theorem clk_length (c : Nat) : (clk c).length = 8 := rfl
theorem four_length (y : Nat) : (four y).length = 4 := rfl
theorem form1_length (wd y k d c : Nat) (hw : wd < 7) (hk : k < 12) : (form1 wd y k d c).length = 29 := by
  simp only [form1, List.length_append, short_length wd hw, mon_length k hk, two_length, four_length, clk_length, List.length_cons, List.length_nil]
theorem B_extract (l : Bs) (a b : Nat) : (B l).extract a b = B ((l.drop a).take (b - a)) := by
  unfold B; apply ByteArray.ext; simp [ByteArray.data_extract, List.take_drop]
/-- A part of a text that lies between others. -/
theorem part_mid (x m z : Bs) (i n : Nat) (h1 : x.length = i) (h2 : m.length = n) : ((x ++ m ++ z).drop i).take n = m := by
  subst h1 h2
  rw [List.append_assoc, List.drop_left, List.take_left]
theorem form1_day (wd y k d c : Nat) (hw : wd < 7) : ((form1 wd y k d c).drop 0).take 3 = short wd := by
  have := part_mid [] (short wd) ([44, 32] ++ two d ++ [32] ++ monNames.getD k [] ++ [32] ++ four y ++ [32] ++ clk c ++ [32, 71, 77, 84]) 0 3 rfl (short_length wd hw)
  simpa [form1] using this
theorem form1_clk (wd y k d c : Nat) (hw : wd < 7) (hk : k < 12) : ((form1 wd y k d c).drop 17).take 8 = clk c := by
  unfold form1
  exact part_mid _ (clk c) _ 17 8 (by simp only [List.length_append, short_length wd hw, mon_length k hk, two_length, four_length, List.length_cons, List.length_nil]) (clk_length c)
theorem clk_zero : clk 0 = [48, 48, 58, 48, 48, 58, 48, 48] := by decide
theorem short_next (j : Nat) (hj : j < 7) : short j ≠ short ((j + 1) % 7) := by
  match j, hj with
  | 0, _ | 1, _ | 2, _ | 3, _ | 4, _ | 5, _ | 6, _ => decide
theorem B_inj {a b : Bs} (h : B a = B b) : a = b := by
  have := congrArg (fun s : ByteArray => s.data.toList) h
  simpa [B_list] using this
end Go.Proofs.YtipooddkpbkfhaaDoor.Dt
