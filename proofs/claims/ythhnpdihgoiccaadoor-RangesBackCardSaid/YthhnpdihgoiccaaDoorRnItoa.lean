/-
  strconv.Itoa at this translation: what it returns of a number that is not below 0; the table is kept. Condition: the table holds what its initialiser lays.
-/
import Derived.Test.YthhnpdihgoiccaaDoorDecMath
import Derived.Test.YthhnpdihgoiccaaDoorLnItoa
import Derived.Test.YthhnpdihgoiccaaDoorTabs
import Derived.Test.YthhnpdihgoiccaaDoorKit
namespace Go.Proofs.YthhnpdihgoiccaaDoor.Rn
open Go.RowKit Go.Proofs.YthhnpdihgoiccaaDoor.Tk Go.Proofs.YthhnpdihgoiccaaDoor.Ct Go.Proofs.YthhnpdihgoiccaaDoor.Fd
set_option linter.unusedVariables false

theorem itoa_dec : ∀ n : Nat, Lib.decDigits n = decL n
  | n => by
    rw [Lib.decDigits, decL]
    split
    · rfl
    · rw [itoa_dec (n / 10)]; rfl
termination_by n => n
decreasing_by omega
theorem itoa_nat (n : Nat) : Lib.itoa (n : Int) = decL n := by
  unfold Lib.itoa; rw [if_neg (by omega), Int.toNat_natCast, itoa_dec]
theorem below_grow {w : World} (k : Nat) (os : Array Obj) : Below w.heap.size w (Sort.grow (w.drewN k) os) :=
  ⟨rfl, rfl, rfl, by show w.heap.size ≤ (w.heap ++ os).size; rw [Array.size_append]; omega, fun j hj => by show (w.heap ++ os)[j]? = w.heap[j]?; rw [Array.getElem?_append_left hj]⟩
theorem itoa_any (n : Nat) (w : World) (h : n ≤ 9999999) (hP : Tb.P10 w) :
    Calls Tryd.prog 11 #[.int .i64 (n : Int)] w fun e w' => e = .returned (.string ⟨(decL n).toArray⟩) ∧ Below w.heap.size w w' :=
  (Ln.strconv_Itoa (n : Int) (by omega) (by omega) w hP).mono fun e w' ⟨he, k, os, hw⟩ => ⟨by rw [he, itoa_nat], by rw [hw]; exact below_grow k os⟩
theorem var_below {P : Program} {w w' : World} {n : String} {g C : Nat} {cs : Array Value} (h : w.var? P n = some cs) (hg : P.globalNamed n = some g) (hb : Below C w w') (hlt : g < C) : w'.var? P n = some cs := by
  unfold World.var? at h ⊢
  rw [hg] at h ⊢
  simp only [Option.bind_some] at h ⊢
  rw [hb.block g hlt]; exact h
theorem p10_lt {w : World} (h : Tb.P10 w) : 1 < w.heap.size := World.block_lt_of_cell? w _ (Lib.TabIs.cell h Tb.gPT 0 (by rw [Lib.pow10Tab_length]; omega))
theorem p10_below {C : Nat} {w w' : World} (h : Tb.P10 w) (hb : Below C w w') (hC : w.heap.size ≤ C) : Tb.P10 w' := var_below h Tb.gPT hb (Nat.lt_of_lt_of_le (p10_lt h) hC)
end Go.Proofs.YthhnpdihgoiccaaDoor.Rn
