/-
  The lines of LineWords. No condition.
-/
import Derived.Test.YtldlhnppinodbaaDoorLnBackMath
namespace Go.Proofs.YtldlhnppinodbaaDoor.Ln
open Go.RowKit Go.Proofs.YtldlhnppinodbaaDoor.Tk

/-- GET and m further words. -/
def words (m : Nat) : Bs := [71, 69, 84] ++ (List.replicate m [32, 47]).flatten
def WT (m : Nat) : ByteArray := ⟨(words m).toArray⟩
theorem WT_size (m : Nat) : (WT m).size = 3 + 2 * m := by
  show (words m).toArray.size = _
  rw [List.size_toArray]
  unfold words
  induction m with
  | zero => rfl
  | succ m ih => rw [List.replicate_succ, List.flatten_cons]; simp at ih ⊢; omega
theorem WT_next (m : Nat) : WT m ++ ⟨#[32, 47]⟩ = WT (m + 1) := by
  apply bytes_ext
  show (WT m ++ (⟨#[32, 47]⟩ : ByteArray)).data.toList = words (m + 1)
  unfold words
  rw [List.replicate_succ', List.flatten_append]
  simp [WT, words]
theorem WT_zero : WT 0 = ⟨#[71, 69, 84]⟩ := rfl
def lastWord : ByteArray := ⟨#[32, 72, 84, 84, 80, 47, 49, 46, 49]⟩
theorem words_good : reqVal (WT 1 ++ lastWord) = .tuple #[.string ⟨#[71, 69, 84]⟩, .string ⟨#[47]⟩, .int .i64 1, .int .i64 0] := by kernel_rfl
theorem words_0 : reqVal (WT 0 ++ lastWord) = .tuple #[.string ⟨#[]⟩, .string ⟨#[]⟩, .int .i64 0, .int .i64 30] := by kernel_rfl
theorem words_2 : reqVal (WT 2 ++ lastWord) = .tuple #[.string ⟨#[]⟩, .string ⟨#[]⟩, .int .i64 0, .int .i64 30] := by kernel_rfl
theorem words_3 : reqVal (WT 3 ++ lastWord) = .tuple #[.string ⟨#[]⟩, .string ⟨#[]⟩, .int .i64 0, .int .i64 30] := by kernel_rfl
theorem words_4 : reqVal (WT 4 ++ lastWord) = .tuple #[.string ⟨#[]⟩, .string ⟨#[]⟩, .int .i64 0, .int .i64 30] := by kernel_rfl
theorem words_5 : reqVal (WT 5 ++ lastWord) = .tuple #[.string ⟨#[]⟩, .string ⟨#[]⟩, .int .i64 0, .int .i64 30] := by kernel_rfl
theorem words_bad (m : Nat) (hm : m ≤ 5) (h1 : m ≠ 1) : reqVal (WT m ++ lastWord) = .tuple #[.string ⟨#[]⟩, .string ⟨#[]⟩, .int .i64 0, .int .i64 30] := by
  have h : m = 0 ∨ m = 2 ∨ m = 3 ∨ m = 4 ∨ m = 5 := by omega
  rcases h with rfl | rfl | rfl | rfl | rfl
  · exact words_0
  · exact words_2
  · exact words_3
  · exact words_4
  · exact words_5

def headText : ByteArray := ⟨#[72, 84, 84, 80, 47, 49, 46, 48, 32]⟩
theorem IT_text {m : Nat} (h0 : 100 ≤ m) (h1 : m ≤ 599) : IT (m : Int) = ⟨#[UInt8.ofNat (48 + m / 100), UInt8.ofNat (48 + m / 10 % 10), UInt8.ofNat (48 + m % 10)]⟩ := by
  unfold IT; rw [itoa3 m h0 (by omega)]
theorem IT_size3 {m : Nat} (h0 : 100 ≤ m) (h1 : m ≤ 599) : (IT (m : Int)).size = 3 := by rw [IT_text h0 h1]; rfl
theorem st_short {m : Nat} (h0 : 100 ≤ m) (h1 : m ≤ 599) : stVal (headText ++ IT (m : Int)) = .tuple #[.int .i64 0, .int .i64 (m : Int), .string ⟨#[]⟩, .int .i64 0] := by
  have hcod : isCod (m : Int) = true := by simp [isCod]; omega
  have hc := code_IT hcod
  have nc : ∀ d ∈ (IT (m : Int)).data.toList, d ≠ 32 := code_no (by rw [hc]; exact hcod)
  have nv : ∀ d ∈ ver0, d ≠ 32 := by decide
  have e : (headText ++ IT (m : Int)).data.toList = ver0 ++ 32 :: (IT (m : Int)).data.toList := by simp [headText, ver0]
  have f1 : fst (headText ++ IT (m : Int)).data.toList = ver0 := by rw [e]; exact fst_mk nv
  have r1 : rst (headText ++ IT (m : Int)).data.toList = (IT (m : Int)).data.toList := by rw [e]; exact rst_mk nv
  have f2 : fst (rst (headText ++ IT (m : Int)).data.toList) = (IT (m : Int)).data.toList := by rw [r1]; exact fst_none nc
  have r2 : rst (rst (headText ++ IT (m : Int)).data.toList) = [] := by rw [r1]; exact rst_none nc
  have hok : stOk (headText ++ IT (m : Int)).data.toList = true := by
    unfold stOk
    rw [f2, r2, f1, hc, hcod]; rfl
  have hs : ¬ 1024 < (headText ++ IT (m : Int)).size := by
    rw [ByteArray.size_append, IT_size3 h0 h1]; show ¬ 1024 < 9 + 3; omega
  unfold stVal
  rw [if_neg hs, if_pos hok, f2, r2, f1, hc]; rfl
theorem st_long {m : Nat} (h0 : 100 ≤ m) (h1 : m ≤ 599) : stVal (headText ++ IT (m : Int) ++ ⟨#[32, 97, 32, 98, 32, 99]⟩) = .tuple #[.int .i64 0, .int .i64 (m : Int), .string ⟨#[97, 32, 98, 32, 99]⟩, .int .i64 0] := by
  have e : headText ++ IT (m : Int) ++ ⟨#[32, 97, 32, 98, 32, 99]⟩ = three (VT 0) (IT (m : Int)) ⟨#[97, 32, 98, 32, 99]⟩ := by
    rw [VT0]; exact bytes_ext (by simp [three, headText])
  rw [e]
  refine back_st ?_ ?_
  · unfold stBad
    rw [show isCod (m : Int) = true from by simp [isCod]; omega]; rfl
  · rw [three_size, IT_size3 h0 h1, VT0]; show ¬ 1024 < 8 + 3 + 5 + 2; omega
theorem run_three_back (w : World) (x y z : Int) (a b c : UInt8) (hx : x = (a.toNat : Int)) (hy : y = (b.toNat : Int)) (hz : z = (c.toNat : Int)) :
    (convert 41 9 (.slice (some ⟨w.heap.size, 0, none⟩) 3 3)).run Tryd.prog (w.alloc (.cells #[.int .u8 x, .int .u8 y, .int .u8 z] 5)) = .ok (.string ⟨#[a, b, c]⟩) (w.alloc (.cells #[.int .u8 x, .int .u8 y, .int .u8 z] 5)) := by
  subst hx hy hz
  exact run_convert_bytes_back _ 41 9 5 ⟨w.heap.size, 0, none⟩ 3 [a, b, c] Tryd.underlying41 Tryd.underlying5 Tryd.underlying9 (by
    intro j hj
    match j, hj with
    | 0, _ => simp [Addr.add]
    | 1, _ => simp [Addr.add]
    | 2, _ => simp [Addr.add])
end Go.Proofs.YtldlhnppinodbaaDoor.Ln
