/-
  What lines are read as that were told of parts, and the other way round. No condition.
-/
import Derived.Test.YtldlhnppinodbaaDoorLnRefLines
namespace Go.Proofs.YtldlhnppinodbaaDoor.Ln
open Go.Proofs.YtldlhnppinodbaaDoor.Tk

theorem three_data (x y z : ByteArray) : (three x y z).data.toList = x.data.toList ++ 32 :: (y.data.toList ++ 32 :: z.data.toList) := by
  unfold three; simp
theorem min_cases {n : Int} (h : isMin n = true) : n = 0 ∨ n = 1 := by simp [isMin] at h; exact h
theorem minor_VT {n : Int} (h : isMin n = true) : minorOf (VT n).data.toList = n := by
  rcases min_cases h with rfl | rfl
  · rw [VT0]; rfl
  · rw [VT1]; rfl
theorem bytes_mk (a : ByteArray) : (⟨a.data.toList.toArray⟩ : ByteArray) = a := bytes_ext (by simp)
theorem good_req {a b : ByteArray} {n : Int} (h : reqBad a b n = false) : isTok a.data.toList = true ∧ isTgt b.data.toList = true ∧ isMin n = true := by
  unfold reqBad at h
  simp only [Bool.not_eq_false', Bool.and_eq_true] at h
  exact ⟨h.1.1, h.1.2, h.2⟩
theorem good_st {r : ByteArray} {n c : Int} (h : stBad n c r = false) : isMin n = true ∧ isCod c = true ∧ isRsn r.data.toList = true := by
  unfold stBad at h
  simp only [Bool.not_eq_false', Bool.and_eq_true] at h
  exact ⟨h.1.1, h.1.2, h.2⟩
theorem back_req {a b : ByteArray} {n : Int} (hbad : reqBad a b n = false) (hs : ¬ 1024 < (three a b (VT n)).size) :
    reqVal (three a b (VT n)) = .tuple #[.string a, .string b, .int .i64 n, .int .i64 0] := by
  obtain ⟨h1, h2, h3⟩ := good_req hbad
  have hm := minor_VT h3
  have f1 : fst (three a b (VT n)).data.toList = a.data.toList := by rw [three_data]; exact fst_mk (tok_no h1)
  have r1 : rst (three a b (VT n)).data.toList = b.data.toList ++ 32 :: (VT n).data.toList := by rw [three_data]; exact rst_mk (tok_no h1)
  have f2 : fst (rst (three a b (VT n)).data.toList) = b.data.toList := by rw [r1]; exact fst_mk (tgt_no h2)
  have r2 : rst (rst (three a b (VT n)).data.toList) = (VT n).data.toList := by rw [r1]; exact rst_mk (tgt_no h2)
  have hok : reqOk (three a b (VT n)).data.toList = true := by
    unfold reqOk
    rw [f2, r2, f1, h1, h2, hm, h3]; rfl
  unfold reqVal
  rw [if_neg hs, if_pos hok, f2, r2, f1, hm, bytes_mk, bytes_mk]
theorem digit_val (k : Nat) (hk : k ≤ 9) : (UInt8.ofNat (48 + k)).toNat = 48 + k := by rw [UInt8.toNat_ofNat']; omega
theorem code_IT {c : Int} (h : isCod c = true) : codeOf (IT c).data.toList = c := by
  have h5 : 100 ≤ c ∧ c ≤ 599 := by simp [isCod] at h; exact h
  obtain ⟨m, rfl⟩ := Int.eq_ofNat_of_zero_le (show 0 ≤ c by omega)
  have e : (IT (m : Int)).data.toList = [UInt8.ofNat (48 + m / 100), UInt8.ofNat (48 + m / 10 % 10), UInt8.ofNat (48 + m % 10)] := by
    unfold IT; rw [itoa3 m (by omega) (by omega)]
  rw [e]
  have v1 := digit_val (m / 100) (by omega)
  have v2 := digit_val (m / 10 % 10) (by omega)
  have v3 := digit_val (m % 10) (by omega)
  have g1 : dgt (UInt8.ofNat (48 + m / 100)) = true := by unfold dgt; rw [v1]; simp; omega
  have g2 : dgt (UInt8.ofNat (48 + m / 10 % 10)) = true := by unfold dgt; rw [v2]; simp; omega
  have g3 : dgt (UInt8.ofNat (48 + m % 10)) = true := by unfold dgt; rw [v3]; simp; omega
  unfold codeOf
  simp only [g1, g2, g3, v1, v2, v3]
  rw [if_pos (by rfl)]
  omega
theorem back_st {r : ByteArray} {n c : Int} (hbad : stBad n c r = false) (hs : ¬ 1024 < (three (VT n) (IT c) r).size) :
    stVal (three (VT n) (IT c) r) = .tuple #[.int .i64 n, .int .i64 c, .string r, .int .i64 0] := by
  obtain ⟨h1, h2, h3⟩ := good_st hbad
  have hm := minor_VT h1
  have hc := code_IT h2
  have nv : ∀ d ∈ (VT n).data.toList, d ≠ 32 := ver_no (by rw [hm]; exact h1)
  have nc : ∀ d ∈ (IT c).data.toList, d ≠ 32 := code_no (by rw [hc]; exact h2)
  have f1 : fst (three (VT n) (IT c) r).data.toList = (VT n).data.toList := by rw [three_data]; exact fst_mk nv
  have r1 : rst (three (VT n) (IT c) r).data.toList = (IT c).data.toList ++ 32 :: r.data.toList := by rw [three_data]; exact rst_mk nv
  have f2 : fst (rst (three (VT n) (IT c) r).data.toList) = (IT c).data.toList := by rw [r1]; exact fst_mk nc
  have r2 : rst (rst (three (VT n) (IT c) r).data.toList) = r.data.toList := by rw [r1]; exact rst_mk nc
  have hok : stOk (three (VT n) (IT c) r).data.toList = true := by
    unfold stOk
    rw [f2, r2, f1, hm, hc, h1, h2, h3]; rfl
  unfold stVal
  rw [if_neg hs, if_pos hok, f2, r2, f1, hm, hc, bytes_mk]
theorem ver_is {l : Bs} (h : isMin (minorOf l) = true) : l = (VT (minorOf l)).data.toList := by
  by_cases h0 : l = ver0
  · subst h0; rw [show minorOf ver0 = 0 from rfl, VT0]; rfl
  · by_cases h1 : l = ver1
    · subst h1; rw [show minorOf ver1 = 1 from rfl, VT1]; rfl
    · unfold minorOf at h
      rw [if_neg h0, if_neg h1] at h
      exact absurd h (by decide)
/-- A request's parts: their texts, and that they tell the line. -/
theorem back_line {s : ByteArray} (hs : ¬ 1024 < s.size) (h : reqOk s.data.toList = true) :
    reqLineVal ⟨(fst s.data.toList).toArray⟩ ⟨(fst (rst s.data.toList)).toArray⟩ (minorOf (rst (rst s.data.toList))) = .tuple #[.string s, .int .i64 0] := by
  have h' := h
  unfold reqOk at h'
  simp only [Bool.and_eq_true] at h'
  obtain ⟨⟨h1, h2⟩, h3⟩ := h'
  have a2 : idx (rst s.data.toList) < (rst s.data.toList).length := by
    refine Decidable.byContradiction fun hn => ?_
    rw [rst_full hn] at h3; exact absurd h3 (by decide)
  have a1 : idx s.data.toList < s.data.toList.length := by
    refine Decidable.byContradiction fun hn => ?_
    rw [rst_full hn] at a2; simp [idx] at a2
  have e1 := split_at a1
  have e2 := split_at a2
  have e3 := ver_is h3
  have hJ : three ⟨(fst s.data.toList).toArray⟩ ⟨(fst (rst s.data.toList)).toArray⟩ (VT (minorOf (rst (rst s.data.toList)))) = s := by
    apply bytes_ext
    rw [three_data, ← e3]
    show fst s.data.toList ++ 32 :: (fst (rst s.data.toList) ++ 32 :: rst (rst s.data.toList)) = _
    rw [← e2, ← e1]
  have hbad : reqBad ⟨(fst s.data.toList).toArray⟩ ⟨(fst (rst s.data.toList)).toArray⟩ (minorOf (rst (rst s.data.toList))) = false := by
    unfold reqBad
    show (!(isTok (fst s.data.toList) && isTgt (fst (rst s.data.toList)) && isMin (minorOf (rst (rst s.data.toList))))) = false
    rw [h1, h2, h3]; rfl
  unfold reqLineVal tellVal
  rw [hbad, hJ, if_neg (by decide), if_neg hs]
theorem get_line : reqVal ⟨#[71, 69, 84, 32, 47, 32, 72, 84, 84, 80, 47, 49, 46, 48]⟩ = .tuple #[.string ⟨#[71, 69, 84]⟩, .string ⟨#[47]⟩, .int .i64 0, .int .i64 0] := by kernel_rfl
/-- What RequestLine tells: the line, or nothing. -/
theorem line_cases (a b : ByteArray) (n : Int) : (reqBad a b n = false ∧ ¬ 1024 < (three a b (VT n)).size ∧ reqLineVal a b n = .tuple #[.string (three a b (VT n)), .int .i64 0]) ∨ ∃ (c : Int), reqLineVal a b n = .tuple #[.string ⟨#[]⟩, .int .i64 c] ∧ 2 ≤ c ∧ c ≤ 3 := by
  unfold reqLineVal tellVal
  cases hb : reqBad a b n with
  | true => exact .inr ⟨2, rfl, by omega, by omega⟩
  | false =>
    by_cases hs : 1024 < (three a b (VT n)).size
    · exact .inr ⟨3, by rw [if_neg (by decide), if_pos hs], by omega, by omega⟩
    · exact .inl ⟨rfl, hs, by rw [if_neg (by decide), if_neg hs]⟩
theorem st_cases (n c : Int) (r : ByteArray) : (stBad n c r = false ∧ ¬ 1024 < (three (VT n) (IT c) r).size ∧ stLineVal n c r = .tuple #[.string (three (VT n) (IT c) r), .int .i64 0]) ∨ ∃ (d : Int), stLineVal n c r = .tuple #[.string ⟨#[]⟩, .int .i64 d] ∧ 2 ≤ d ∧ d ≤ 3 := by
  unfold stLineVal tellVal
  cases hb : stBad n c r with
  | true => exact .inr ⟨2, rfl, by omega, by omega⟩
  | false =>
    by_cases hs : 1024 < (three (VT n) (IT c) r).size
    · exact .inr ⟨3, by rw [if_neg (by decide), if_pos hs], by omega, by omega⟩
    · exact .inl ⟨rfl, hs, by rw [if_neg (by decide), if_neg hs]⟩
theorem req_cases (s : ByteArray) : (∃ (X Y : ByteArray) (m : Int), reqVal s = .tuple #[.string X, .string Y, .int .i64 m, .int .i64 0] ∧ X.size ≤ 1048576 ∧ Y.size ≤ 1048576 ∧ -9223372036854775808 ≤ m ∧ m ≤ 9223372036854775807 ∧ reqLineVal X Y m = .tuple #[.string s, .int .i64 0]) ∨ ∃ (d : Int), reqVal s = .tuple #[.string ⟨#[]⟩, .string ⟨#[]⟩, .int .i64 0, .int .i64 d] ∧ 2 ≤ d ∧ d ≤ 30 := by
  by_cases hs : 1024 < s.size
  · exact .inr ⟨3, by unfold reqVal; rw [if_pos hs], by omega, by omega⟩
  · cases hok : reqOk s.data.toList with
    | false => exact .inr ⟨30, by unfold reqVal; rw [if_neg hs, if_neg (by rw [hok]; decide)], by omega, by omega⟩
    | true =>
      have hl : s.data.toList.length = s.size := by simp
      refine .inl ⟨_, _, _, by unfold reqVal; rw [if_neg hs, if_pos hok], ?_, ?_, ?_, ?_, back_line hs hok⟩
      · show (fst s.data.toList).toArray.size ≤ _
        rw [List.size_toArray]; have := fst_le s.data.toList; omega
      · show (fst (rst s.data.toList)).toArray.size ≤ _
        rw [List.size_toArray]; have := fst_le (rst s.data.toList); have := rst_le s.data.toList; omega
      · have := minor_bd (rst (rst s.data.toList)); omega
      · have := minor_bd (rst (rst s.data.toList)); omega
end Go.Proofs.YtldlhnppinodbaaDoor.Ln
