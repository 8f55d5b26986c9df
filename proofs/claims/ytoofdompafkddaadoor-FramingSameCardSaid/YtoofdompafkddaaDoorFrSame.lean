/-
  The law FramingSame's own: decimal digits, its number, and what its fields' framing is. Condition: numbers below 2^21.
-/
import Derived.Test.YtoofdompafkddaaDoorFrOf
import Derived.Test.YtoofdompafkddaaDoorFdTokMath
import Derived.Test.YtoofdompafkddaaDoorFdOwn
import Derived.Test.YtoofdompafkddaaDoorFdBackMath
namespace Go.Proofs.YtoofdompafkddaaDoor.Fr
open Go.RowKit Go.Proofs.YtoofdompafkddaaDoor.Tk Go.Proofs.YtoofdompafkddaaDoor.Fd
set_option linter.unusedVariables false

def decD (d : Nat) : UInt8 := UInt8.ofNat (48 + d)
def decL (n : Nat) : Bs := if h : n < 10 then [decD n] else decL (n / 10) ++ [decD (n % 10)]
termination_by n
decreasing_by omega
theorem decL_small {n : Nat} (h : n < 10) : decL n = [decD n] := by rw [decL, dif_pos h]
theorem decL_big {n : Nat} (h : ¬ n < 10) : decL n = decL (n / 10) ++ [decD (n % 10)] := by rw [decL, dif_neg h]
theorem decD_facts : ∀ d, d < 10 → (decD d).toNat = 48 + d ∧ tchar (decD d) = true ∧ Num.dg (decD d) = true := by decide
theorem decL_all : ∀ (k n : Nat), n < 10 ^ (k + 1) → (decL n).all tchar = true ∧ (decL n).all Num.dg = true ∧ 0 < (decL n).length ∧ (decL n).length ≤ k + 1 ∧ ∀ most : Int, (n : Int) ≤ most → Num.num most 0 (decL n) = n
  | k, n, h => by
    by_cases hn : n < 10
    · obtain ⟨h1, h2, h3⟩ := decD_facts n hn
      rw [decL_small hn]
      refine ⟨by simp [h2], by simp [h3], by simp, by simp, fun most hm => ?_⟩
      show Num.step most 0 (((decD n).toNat : Int) - 48) = n
      rw [h1]; unfold Num.step; rw [if_neg (by omega)]; omega
    · cases k with
      | zero => omega
      | succ k =>
        have hd : n / 10 < 10 ^ (k + 1) := by rw [Nat.div_lt_iff_lt_mul (by omega)]; rw [Nat.pow_succ] at h; omega
        obtain ⟨i1, i2, i3, i4, i5⟩ := decL_all k (n / 10) hd
        obtain ⟨h1, h2, h3⟩ := decD_facts (n % 10) (Nat.mod_lt _ (by omega))
        rw [decL_big hn]
        refine ⟨by rw [List.all_append, i1]; simp [h2], by rw [List.all_append, i2]; simp [h3], by simp, by simp; omega, fun most hm => ?_⟩
        rw [Num.num_snoc, i5 most (by omega), h1]
        unfold Num.step
        rw [if_neg (by omega)]; omega
theorem decL_tok {n : Nat} (h : n < 10000000) : isTok (decL n) = true := by
  obtain ⟨h1, _, h3, _⟩ := decL_all 6 n h
  unfold isTok
  rw [h1]
  have : (decL n).isEmpty = false := by
    cases hd : decL n with
    | nil => rw [hd] at h3; simp at h3
    | cons c r => rfl
  rw [this]; rfl
theorem numT_of {l : Bs} {n : Nat} (h1 : l.all Num.dg = true) (h2 : 0 < l.length) (h3 : Num.num 1099511627776 0 l = n) : numT l = ((n : Int), true) := by
  unfold numT Num.numOf
  rw [if_neg, h3]
  intro h
  rcases h with h | h | h
  · have : l.length = 0 := by simpa [ByteArray.size] using h
    omega
  · omega
  · rw [h1] at h; cases h
theorem numT_dec {n : Nat} (h : n < 10000000) : numT (decL n) = ((n : Int), true) := by
  obtain ⟨_, h2, h3, _, h5⟩ := decL_all 6 n h
  exact numT_of h2 h3 (h5 _ (by omega))
theorem numT_zero {n : Nat} (h : n < 10000000) : numT (48 :: decL n) = ((n : Int), true) := by
  obtain ⟨_, h2, h3, _, h5⟩ := decL_all 6 n h
  refine numT_of (by rw [List.all_cons, h2]; rfl) (by simp) ?_
  show Num.num 1099511627776 (Num.step 1099511627776 0 (((48 : UInt8).toNat : Int) - 48)) (decL n) = n
  have : Num.step 1099511627776 0 (((48 : UInt8).toNat : Int) - 48) = 0 := by decide
  rw [this]
  exact h5 _ (by omega)
theorem tok_zero {n : Nat} (h : n < 10000000) : isTok (48 :: decL n) = true := by
  obtain ⟨h1, _⟩ := decL_all 6 n h
  unfold isTok
  rw [List.all_cons, h1]; rfl
/-- What two lengths come to. -/
def lenS (n m : Nat) : Int × Int × Int := if n ≠ m then (0, 0, 32) else if 1048576 < n then (0, 0, 3) else (1, (n : Int), 0)
theorem lenVal_two {a b : Bs} {n m : Nat} (ha : isTok a = true) (hb : isTok b = true) (h1 : numT a = ((n : Int), true)) (h2 : numT b = ((m : Int), true)) :
    (if (lenVal (a ++ [44, 32] ++ b)).2 = 0 then ((1 : Int), (lenVal (a ++ [44, 32] ++ b)).1, (0 : Int)) else (0, 0, (lenVal (a ++ [44, 32] ++ b)).2)) = lenS n m := by
  have hs := split_two ha hb
  have e1 : oneNum 0 0 [a, b] = oneNum 1 n [b] := by rw [oneNum_next (by rw [h1]; simp), h1]
  by_cases hnm : n = m
  · subst hnm
    have e2 : oneNum 0 0 [a, b] = some (n : Int) := by rw [e1, oneNum_next (by rw [h2]; simp), h2]; rfl
    have eS : lenS n n = if 1048576 < n then (0, 0, 3) else (1, (n : Int), 0) := by unfold lenS; rw [if_neg (fun h => h rfl)]
    rw [eS]
    by_cases hbg : 1048576 < n
    · rw [lenVal_big hs (by simp) e2 (by omega), if_pos hbg]; rfl
    · rw [lenVal_ok hs (by simp) e2 (by omega), if_neg hbg]; rfl
  · have e2 : oneNum 0 0 [a, b] = none := by rw [e1, oneNum_bad (.inr ⟨by omega, by rw [h2]; simp; omega⟩)]
    unfold lenS
    rw [if_pos hnm, lenVal_bad hs e2]; rfl
def CLn : ByteArray := ⟨#[67, 111, 110, 116, 101, 110, 116, 45, 76, 101, 110, 103, 116, 104]⟩
def cln : ByteArray := ⟨#[99, 111, 110, 116, 101, 110, 116, 45, 108, 101, 110, 103, 116, 104]⟩
def TEn : ByteArray := ⟨#[84, 114, 97, 110, 115, 102, 101, 114, 45, 69, 110, 99, 111, 100, 105, 110, 103]⟩
def teF : Fl := (TEn, ⟨#[99, 104, 117, 110, 107, 101, 100]⟩)
def twoF (n m : Nat) : List Fl := [(CLn, ⟨(decL n).toArray⟩), (cln, ⟨(decL m).toArray⟩)]
def oneF (n m : Nat) : List Fl := [(CLn, ⟨(decL n ++ [44, 32, 48] ++ decL m).toArray⟩)]
theorem al1 : alike CLn.data.toList coL = true := by decide +kernel
theorem al2 : alike cln.data.toList coL = true := by decide +kernel
theorem al3 : alike TEn.data.toList coL = false := by decide +kernel
theorem al4 : alike CLn.data.toList trE = false := by decide +kernel
theorem al5 : alike cln.data.toList trE = false := by decide +kernel
theorem al6 : alike TEn.data.toList trE = true := by decide +kernel
theorem has_names : (∀ x, has coL (CLn, x) = true) ∧ (∀ x, has coL (cln, x) = true) ∧ (∀ x, has coL (TEn, x) = false) ∧ (∀ x, has trE (CLn, x) = false) ∧ (∀ x, has trE (cln, x) = false) ∧ (∀ x, has trE (TEn, x) = true) :=
  ⟨fun _ => al1, fun _ => al2, fun _ => al3, fun _ => al4, fun _ => al5, fun _ => al6⟩
theorem sel_cons (f : Fl) (r : List Fl) (nm : Bs) : sel (f :: r) nm = if has nm f then f.2.data.toList :: sel r nm else sel r nm := by
  unfold sel
  rw [List.filter_cons]
  cases has nm f <;> rfl
theorem told_two {n m : Nat} (hn : n < 10000000) (hm : m < 10000000) : toldVal 1 (twoF n m) 0 = lenS n m := by
  obtain ⟨h1, h2, h3, h4, h5, h6⟩ := has_names
  have ec : sel (twoF n m) coL = [decL n, decL m] := by unfold twoF; rw [sel_cons, sel_cons, h1, h2]; rfl
  have et : sel (twoF n m) trE = [] := by unfold twoF; rw [sel_cons, sel_cons, h4, h5]; rfl
  rw [toldVal_len (by unfold getN; rw [et]; simp) (by unfold getN; rw [ec]; simp)]
  have eg : getT (twoF n m) coL = decL n ++ [44, 32] ++ decL m := by unfold getT; rw [ec]; rfl
  rw [eg]
  exact lenVal_two (decL_tok hn) (decL_tok hm) (numT_dec hn) (numT_dec hm)
theorem told_one {n m : Nat} (hn : n < 10000000) (hm : m < 10000000) : toldVal 1 (oneF n m) 0 = lenS n m := by
  obtain ⟨h1, h2, h3, h4, h5, h6⟩ := has_names
  have ec : sel (oneF n m) coL = [decL n ++ [44, 32, 48] ++ decL m] := by unfold oneF; rw [sel_cons, h1]; rfl
  have et : sel (oneF n m) trE = [] := by unfold oneF; rw [sel_cons, h4]; rfl
  rw [toldVal_len (by unfold getN; rw [et]; simp) (by unfold getN; rw [ec]; simp)]
  have eg : getT (oneF n m) coL = decL n ++ [44, 32] ++ (48 :: decL m) := by unfold getT; rw [ec]; simp [joinC]
  rw [eg]
  exact lenVal_two (decL_tok hn) (tok_zero hm) (numT_dec hn) (numT_zero hm)
theorem sel_append (a b : List Fl) (nm : Bs) : sel (a ++ b) nm = sel a nm ++ sel b nm := by unfold sel; simp
theorem told_both {fs : List Fl} (h : 0 < getN fs coL) : toldVal 1 (fs ++ [teF]) 0 = (0, 0, 32) := by
  obtain ⟨h1, h2, h3, h4, h5, h6⟩ := has_names
  refine toldVal_bad ?_ (.inr (.inl ?_))
  · unfold getN; rw [sel_append, List.length_append]; unfold teF; rw [sel_cons, h6]; simp; omega
  · unfold getN at h ⊢; rw [sel_append, List.length_append]; omega
theorem mk_size (l : Bs) : (⟨l.toArray⟩ : ByteArray).size = l.length := by simp [ByteArray.size]
/-- The fields of the law: two of them, or one. -/
def SameF (n m : Nat) (fs : List Fl) : Prop := toldVal 1 fs 0 = lenS n m ∧ toldVal 1 (fs ++ [teF]) 0 = (0, 0, 32) ∧ tot fs ≤ 200 ∧ fs.length ≤ 2 ∧ fs ≠ []
theorem same_two {n m : Nat} (hn : n < 10000000) (hm : m < 10000000) : SameF n m (twoF n m) := by
  obtain ⟨h1, h2, h3, h4, h5, h6⟩ := has_names
  obtain ⟨_, _, _, a4, _⟩ := decL_all 6 n hn
  obtain ⟨_, _, _, b4, _⟩ := decL_all 6 m hm
  refine ⟨told_two hn hm, told_both ?_, ?_, by simp [twoF], by simp [twoF]⟩
  · unfold getN twoF; rw [sel_cons, sel_cons, h1, h2]; simp
  · have e1 : CLn.size = 14 := rfl
    have e2 : cln.size = 14 := rfl
    have e3 := mk_size (decL n)
    have e4 := mk_size (decL m)
    unfold twoF
    rw [tot_cons, tot_cons, show tot [] = 0 from rfl]
    show CLn.size + (⟨(decL n).toArray⟩ : ByteArray).size + 1 + (cln.size + (⟨(decL m).toArray⟩ : ByteArray).size + 1 + 0) ≤ 200
    rw [e1, e2, e3, e4]
    omega
theorem same_one {n m : Nat} (hn : n < 10000000) (hm : m < 10000000) : SameF n m (oneF n m) := by
  obtain ⟨h1, h2, h3, h4, h5, h6⟩ := has_names
  obtain ⟨_, _, _, a4, _⟩ := decL_all 6 n hn
  obtain ⟨_, _, _, b4, _⟩ := decL_all 6 m hm
  refine ⟨told_one hn hm, told_both ?_, ?_, by simp [oneF], by simp [oneF]⟩
  · unfold getN oneF; rw [sel_cons, h1]; simp
  · have e1 : CLn.size = 14 := rfl
    have e3 := mk_size (decL n ++ [44, 32, 48] ++ decL m)
    rw [List.length_append, List.length_append] at e3
    unfold oneF
    rw [tot_cons, show tot [] = 0 from rfl]
    show CLn.size + (⟨(decL n ++ [44, 32, 48] ++ decL m).toArray⟩ : ByteArray).size + 1 + 0 ≤ 200
    rw [e1, e3]
    simp only [List.length_cons, List.length_nil]
    omega
def dig10 : ByteArray := ⟨#[48, 49, 50, 51, 52, 53, 54, 55, 56, 57]⟩
theorem dig10_at : ∀ r : Fin 10, dig10.extract r.val (r.val + 1) = ⟨#[decD r.val]⟩ := by decide +kernel
theorem dec_slice (W : World) (m : Nat) (hm : m < 10) : (Instr.slice 9 (.string ⟨#[48, 49, 50, 51, 52, 53, 54, 55, 56, 57]⟩) (some (.int .i64 (m : Int))) (some (.int .i64 ((m : Int) + 1))) none).run Tryd.prog W = .ok (.string ⟨#[decD m]⟩) W := by
  have h1 := dig10_at ⟨m, hm⟩
  have h2 := run_slice_string (P := Tryd.prog) W 9 dig10 .i64 .i64 (m : Int) ((m : Int) + 1) Tryd.underlying9 (by omega) (by omega) (by have : dig10.size = 10 := rfl; omega)
  have e1 : ((m : Int)).toNat = m := by omega
  have e2 : ((m : Int) + 1).toNat = m + 1 := by omega
  rw [e1, e2] at h2
  rw [← h1]
  exact h2
theorem dec_text (a b : Bs) : (⟨a.toArray⟩ : ByteArray) ++ ⟨b.toArray⟩ = ⟨(a ++ b).toArray⟩ := bytes_eq (by simp)
set_option maxRecDepth 100000 in
set_option maxHeartbeats 4000000 in
theorem number_one (n : Nat) (w : World) (hn : n < 10) : Calls Tryd.prog 42 #[.int .i64 (n : Int)] w fun e w' => e = .returned (.string ⟨(decL n).toArray⟩) ∧ w = w' := by
  have hsl := fun W => dec_slice W n hn
  have HD := Lib.hid (decL_small hn)
  go_enter Tryd.func42, Tryd.ntmps42
  go_wp2_with fail
  go_ret
  exact ⟨by rw [HD.out]; rfl, rfl⟩
end Go.Proofs.YtoofdompafkddaaDoor.Fr
