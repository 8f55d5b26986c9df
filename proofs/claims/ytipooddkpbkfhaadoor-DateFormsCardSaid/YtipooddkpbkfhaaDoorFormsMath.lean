/-
  The three forms' texts, and that each is read as it was told: plain functions on bytes. No program, no condition.
-/
import Derived.Test.YtipooddkpbkfhaaDoorParse
namespace Go.Proofs.YtipooddkpbkfhaaDoor.Dt
open Go.RowKit

theorem dig (n : Nat) (h : n < 10) : (UInt8.ofNat (48 + n)).toNat = 48 + n := by rw [UInt8.toNat_ofNat']; omega
theorem dig_ok (n : Nat) (h : n < 10) : dgt (UInt8.ofNat (48 + n)) = true := by
  unfold dgt; rw [dig n h]; simp; omega
theorem numv_one (a : Nat) (ha : a < 10) : numv [UInt8.ofNat (48 + a)] = (a : Int) := by
  simp only [numv, List.foldl_cons, List.foldl_nil, dig a ha]; omega
theorem numv_two (n : Nat) (h : n < 100) : numv (two n) = (n : Int) := by
  simp only [numv, two, List.foldl_cons, List.foldl_nil, dig (n / 10) (by omega), dig (n % 10) (by omega)]; omega
theorem numv_four (y : Nat) (h : y < 10000) : numv (four y) = (y : Int) := by
  simp only [numv, four, two, List.cons_append, List.nil_append, List.foldl_cons, List.foldl_nil, dig (y / 100 / 10) (by omega), dig (y / 100 % 10) (by omega), dig (y % 100 / 10) (by omega), dig (y % 100 % 10) (by omega)]; omega
theorem cutN_of (x r : Bs) (k : Nat) (hk : x.length = k) (hx : x.all dgt = true) : cutN (x ++ r) k = some (numv x, r) := by
  subst hk
  unfold cutN
  rw [if_neg (by simp), List.take_left, if_pos hx, List.drop_left]
theorem numF_of (i k : Nat) (R : List Int) (x r : Bs) (n : Int) (hk : x.length = k) (hx : x.all dgt = true) (hn : numv x = n) : numF i k R (x ++ r) = (true, R.set i n, r) := by
  unfold numF; rw [cutN_of x r k hk hx, hn]; rfl
theorem two_all (n : Nat) (h : n < 100) : (two n).all dgt = true := by
  show (dgt (UInt8.ofNat (48 + n / 10)) && (dgt (UInt8.ofNat (48 + n % 10)) && true)) = true
  rw [dig_ok (n / 10) (by omega), dig_ok (n % 10) (by omega)]; rfl
theorem four_all (y : Nat) (h : y < 10000) : (four y).all dgt = true := by
  unfold four; rw [List.all_append, two_all _ (by omega), two_all _ (by omega)]; rfl
theorem numF_two (i : Nat) (R : List Int) (n : Nat) (r : Bs) (h : n < 100) : numF i 2 R (two n ++ r) = (true, R.set i (n : Int), r) :=
  numF_of i 2 R (two n) r n rfl (two_all n h) (numv_two n h)
theorem numF_four (i : Nat) (R : List Int) (y : Nat) (r : Bs) (h : y < 10000) : numF i 4 R (four y ++ r) = (true, R.set i (y : Int), r) :=
  numF_of i 4 R (four y) r y rfl (four_all y h) (numv_four y h)
theorem numF_one (i : Nat) (R : List Int) (a : Nat) (r : Bs) (h : a < 10) : numF i 1 R (UInt8.ofNat (48 + a) :: r) = (true, R.set i (a : Int), r) :=
  numF_of i 1 R [UInt8.ofNat (48 + a)] r a rfl (by show (dgt (UInt8.ofNat (48 + a)) && true) = true; rw [dig_ok a h]; rfl) (numv_one a h)
theorem nameF_of (i : Nat) (names : List Bs) (R : List Int) (s r : Bs) (j : Nat) (h : pick s names = some (j, r)) : nameF i names R s = (true, R.set i (j : Int), r) := by
  unfold nameF; rw [h]; rfl
theorem pick_short (wd : Nat) (r : Bs) (h : wd < 7) : pick (short wd ++ r) shortNames = some (wd, r) := by
  match wd, h with
  | 0, _ | 1, _ | 2, _ | 3, _ | 4, _ | 5, _ | 6, _ => rfl
theorem pick_long (wd : Nat) (r : Bs) (h : wd < 7) : pick (longNames.getD wd [] ++ r) longNames = some (wd, r) := by
  match wd, h with
  | 0, _ | 1, _ | 2, _ | 3, _ | 4, _ | 5, _ | 6, _ => rfl
theorem pick_mon (k : Nat) (r : Bs) (h : k < 12) : pick (monNames.getD k [] ++ r) monNames = some (k, r) := by
  match k, h with
  | 0, _ | 1, _ | 2, _ | 3, _ | 4, _ | 5, _ | 6, _ | 7, _ | 8, _ | 9, _ | 10, _ | 11, _ => rfl
theorem pick_bad (wd : Nat) (r : Bs) (h : wd < 7) : pick (short wd ++ 32 :: r) longNames = none := by
  match wd, h with
  | 0, _ | 1, _ | 2, _ | 3, _ | 4, _ | 5, _ | 6, _ => rfl

/-! One step of the reading each. -/
theorem step {l : UInt8} {f : Bs} {R R' : List Int} {s r : Bs} (h : fieldF l R s = (true, R', r)) : readF (37 :: l :: f) R s = readF f R' r := by
  rw [readF_field, h]; rfl
theorem step_a (f : Bs) (R : List Int) (wd : Nat) (r : Bs) (h : wd < 7) : readF (37 :: 97 :: f) R (short wd ++ r) = readF f (R.set 0 (wd : Int)) r :=
  step (nameF_of 0 shortNames R _ r wd (pick_short wd r h))
theorem step_A (f : Bs) (R : List Int) (wd : Nat) (r : Bs) (h : wd < 7) : readF (37 :: 65 :: f) R (longNames.getD wd [] ++ r) = readF f (R.set 0 (wd : Int)) r :=
  step (nameF_of 0 longNames R _ r wd (pick_long wd r h))
theorem step_b (f : Bs) (R : List Int) (k : Nat) (r : Bs) (h : k < 12) (hR : R.length = 7) : readF (37 :: 98 :: f) R (monNames.getD k [] ++ r) = readF f (R.set 2 ((k : Int) + 1)) r := by
  refine step ?_
  show ((nameF 2 monNames R _).1, (nameF 2 monNames R _).2.1.set 2 ((nameF 2 monNames R _).2.1.getD 2 0 + 1), (nameF 2 monNames R _).2.2) = _
  rw [nameF_of 2 monNames R _ r k (pick_mon k r h)]
  show (true, (R.set 2 (k : Int)).set 2 ((R.set 2 (k : Int)).getD 2 0 + 1), r) = _
  rw [set_get R 2 _ (by omega), List.set_set]
theorem step_d (f : Bs) (R : List Int) (n : Nat) (r : Bs) (h : n < 100) : readF (37 :: 100 :: f) R (two n ++ r) = readF f (R.set 3 (n : Int)) r := step (numF_two 3 R n r h)
theorem step_Y (f : Bs) (R : List Int) (y : Nat) (r : Bs) (h : y < 10000) : readF (37 :: 89 :: f) R (four y ++ r) = readF f (R.set 1 (y : Int)) r := step (numF_four 1 R y r h)
theorem step_h (f : Bs) (R : List Int) (n : Nat) (r : Bs) (h : n < 100) : readF (37 :: 104 :: f) R (two n ++ r) = readF f (R.set 4 (n : Int)) r := step (numF_two 4 R n r h)
theorem step_m (f : Bs) (R : List Int) (n : Nat) (r : Bs) (h : n < 100) : readF (37 :: 109 :: f) R (two n ++ r) = readF f (R.set 5 (n : Int)) r := step (numF_two 5 R n r h)
theorem step_s (f : Bs) (R : List Int) (n : Nat) (r : Bs) (h : n < 100) : readF (37 :: 115 :: f) R (two n ++ r) = readF f (R.set 6 (n : Int)) r := step (numF_two 6 R n r h)
theorem step_y (f : Bs) (R : List Int) (n : Nat) (r : Bs) (h : n < 100) (hR : R.length = 7) : readF (37 :: 121 :: f) R (two n ++ r) = readF f (R.set 1 (fullY n)) r := by
  refine step ?_
  show ((numF 1 2 R _).1, (numF 1 2 R _).2.1.set 1 (fullY ((numF 1 2 R _).2.1.getD 1 0)), (numF 1 2 R _).2.2) = _
  rw [numF_two 1 R n r h]
  show (true, (R.set 1 (n : Int)).set 1 (fullY ((R.set 1 (n : Int)).getD 1 0)), r) = _
  rw [set_get R 1 _ (by omega), List.set_set]
/-- A day of one digit behind a blank. -/
def dayText (d : Nat) : Bs := if d < 10 then [32, UInt8.ofNat (48 + d)] else two d
theorem step_e (f : Bs) (R : List Int) (d : Nat) (r : Bs) (h : d < 100) : readF (37 :: 101 :: f) R (dayText d ++ r) = readF f (R.set 3 (d : Int)) r := by
  refine step ?_
  show (if isBlank (dayText d ++ r) = true then numF 3 1 R ((dayText d ++ r).drop 1) else numF 3 2 R (dayText d ++ r)) = _
  unfold dayText
  by_cases hd : d < 10
  · rw [if_pos hd]
    show (if true = true then numF 3 1 R (UInt8.ofNat (48 + d) :: r) else _) = _
    rw [if_pos rfl, numF_one 3 R d r hd]
  · rw [if_neg hd]
    have hb : isBlank (two d ++ r) = false := by
      show (UInt8.ofNat (48 + d / 10) == 32 || UInt8.ofNat (48 + d / 10) == 9) = false
      have e := dig (d / 10) (by omega)
      rw [Bool.or_eq_false_iff]
      constructor
      · rw [beq_eq_false_iff_ne]; intro x; rw [x] at e; simp at e; omega
      · rw [beq_eq_false_iff_ne]; intro x; rw [x] at e; simp at e; omega
    rw [hb, if_neg (by simp), numF_two 3 R d r h]

def form2 (wd y k d c : Nat) : Bs := longNames.getD wd [] ++ 44 :: 32 :: (two d ++ 45 :: (monNames.getD k [] ++ 45 :: (two (y % 100) ++ 32 :: (clk c ++ [32, 71, 77, 84]))))
def form3 (wd y k d c : Nat) : Bs := short wd ++ 32 :: (monNames.getD k [] ++ 32 :: (dayText d ++ 32 :: (clk c ++ 32 :: four y)))
theorem form1_right (wd y k d c : Nat) : form1 wd y k d c = short wd ++ 44 :: 32 :: (two d ++ 32 :: (monNames.getD k [] ++ 32 :: (four y ++ 32 :: (clk c ++ [32, 71, 77, 84])))) := by
  simp [form1]
theorem clk_right (c : Nat) (r : Bs) : clk c ++ r = two (c / 3600) ++ 58 :: (two (c / 60 % 60) ++ 58 :: (two (c % 60) ++ r)) := by simp [clk]
theorem lit (c : UInt8) (f : Bs) (R : List Int) (t : Bs) (h : c ≠ 37) : readF (c :: f) R (c :: t) = readF f R t := readF_hit R t h

def told (wd y k d c : Nat) : List Int := [(wd : Int), (y : Int), (k : Int) + 1, (d : Int), ((c / 3600 : Nat) : Int), ((c / 60 % 60 : Nat) : Int), ((c % 60 : Nat) : Int)]
theorem read1 (wd y k d c : Nat) (hw : wd < 7) (hy : y < 10000) (hk : k < 12) (hd : d < 100) (hc : c < 86400) : readF (formTexts.getD 0 []) zeros (form1 wd y k d c) = (true, told wd y k d c) := by
  rw [form1_right, clk_right]
  show readF (37 :: 97 :: 44 :: 32 :: 37 :: 100 :: 32 :: 37 :: 98 :: 32 :: 37 :: 89 :: 32 :: 37 :: 104 :: 58 :: 37 :: 109 :: 58 :: 37 :: 115 :: 32 :: 71 :: 77 :: 84 :: []) _ _ = _
  rw [step_a _ _ _ _ hw, lit 44 _ _ _ (by decide), lit 32 _ _ _ (by decide), step_d _ _ _ _ hd, lit 32 _ _ _ (by decide), step_b _ _ _ _ hk rfl, lit 32 _ _ _ (by decide), step_Y _ _ _ _ hy, lit 32 _ _ _ (by decide), step_h _ _ _ _ (by omega), lit 58 _ _ _ (by decide), step_m _ _ _ _ (by omega), lit 58 _ _ _ (by decide), step_s _ _ _ _ (by omega), lit 32 _ _ _ (by decide), lit 71 _ _ _ (by decide), lit 77 _ _ _ (by decide), lit 84 _ _ _ (by decide)]
  rfl
theorem full_of (y : Nat) (h0 : 1970 ≤ y) (h1 : y ≤ 2069) : fullY ((y % 100 : Nat) : Int) = (y : Int) := by
  unfold fullY; split <;> omega
theorem read2 (wd y k d c : Nat) (hw : wd < 7) (h0 : 1970 ≤ y) (h1 : y ≤ 2069) (hk : k < 12) (hd : d < 100) (hc : c < 86400) : readF (formTexts.getD 1 []) zeros (form2 wd y k d c) = (true, told wd y k d c) := by
  unfold form2
  rw [clk_right]
  show readF (37 :: 65 :: 44 :: 32 :: 37 :: 100 :: 45 :: 37 :: 98 :: 45 :: 37 :: 121 :: 32 :: 37 :: 104 :: 58 :: 37 :: 109 :: 58 :: 37 :: 115 :: 32 :: 71 :: 77 :: 84 :: []) _ _ = _
  rw [step_A _ _ _ _ hw, lit 44 _ _ _ (by decide), lit 32 _ _ _ (by decide), step_d _ _ _ _ hd, lit 45 _ _ _ (by decide), step_b _ _ _ _ hk rfl, lit 45 _ _ _ (by decide), step_y _ _ _ _ (by omega) rfl, full_of y h0 h1, lit 32 _ _ _ (by decide), step_h _ _ _ _ (by omega), lit 58 _ _ _ (by decide), step_m _ _ _ _ (by omega), lit 58 _ _ _ (by decide), step_s _ _ _ _ (by omega), lit 32 _ _ _ (by decide), lit 71 _ _ _ (by decide), lit 77 _ _ _ (by decide), lit 84 _ _ _ (by decide)]
  rfl
theorem read3 (wd y k d c : Nat) (hw : wd < 7) (hy : y < 10000) (hk : k < 12) (hd : d < 100) (hc : c < 86400) : readF (formTexts.getD 2 []) zeros (form3 wd y k d c) = (true, told wd y k d c) := by
  unfold form3
  rw [clk_right, show four y = four y ++ [] from (List.append_nil _).symm]
  show readF (37 :: 97 :: 32 :: 37 :: 98 :: 32 :: 37 :: 101 :: 32 :: 37 :: 104 :: 58 :: 37 :: 109 :: 58 :: 37 :: 115 :: 32 :: 37 :: 89 :: []) _ _ = _
  rw [step_a _ _ _ _ hw, lit 32 _ _ _ (by decide), step_b _ _ _ _ hk rfl, lit 32 _ _ _ (by decide), step_e _ _ _ _ hd, lit 32 _ _ _ (by decide), step_h _ _ _ _ (by omega), lit 58 _ _ _ (by decide), step_m _ _ _ _ (by omega), lit 58 _ _ _ (by decide), step_s _ _ _ _ (by omega), lit 32 _ _ _ (by decide), step_Y _ _ _ _ hy]
  rfl
/-! And by the forms ahead it is not read. -/
theorem long_parts (wd : Nat) (h : wd < 7) : ∃ x r, longNames.getD wd [] = short wd ++ x :: r ∧ x ≠ 44 := by
  match wd, h with
  | 0, _ | 1, _ | 2, _ | 3, _ | 4, _ | 5, _ | 6, _ => exact ⟨_, _, rfl, by decide⟩
theorem bad12 (wd y k d c : Nat) (hw : wd < 7) : (readF (formTexts.getD 0 []) zeros (form2 wd y k d c)).1 = false := by
  unfold form2
  obtain ⟨x, r, e, hx⟩ := long_parts wd hw
  rw [e, List.append_assoc, List.cons_append]
  show (readF (37 :: 97 :: 44 :: _) _ _).1 = false
  rw [step_a _ _ _ _ hw, readF_miss _ _ (by decide) hx]
theorem bad13 (wd y k d c : Nat) (hw : wd < 7) : (readF (formTexts.getD 0 []) zeros (form3 wd y k d c)).1 = false := by
  unfold form3
  show (readF (37 :: 97 :: 44 :: _) _ _).1 = false
  rw [step_a _ _ _ _ hw, readF_miss _ _ (by decide) (by decide)]
theorem bad23 (wd y k d c : Nat) (hw : wd < 7) : (readF (formTexts.getD 1 []) zeros (form3 wd y k d c)).1 = false := by
  unfold form3
  show (readF (37 :: 65 :: _) _ _).1 = false
  rw [readF_field]
  have h : (fieldF 65 zeros (short wd ++ 32 :: (monNames.getD k [] ++ 32 :: (dayText d ++ 32 :: (clk c ++ 32 :: four y))))).1 = false := by
    show (nameF 0 longNames zeros _).1 = false
    unfold nameF; rw [pick_bad wd _ hw]; rfl
  rw [h, if_neg (by simp)]
end Go.Proofs.YtipooddkpbkfhaaDoor.Dt
