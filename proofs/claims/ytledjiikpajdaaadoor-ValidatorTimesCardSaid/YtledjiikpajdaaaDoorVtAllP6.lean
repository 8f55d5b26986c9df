/-
  Texts that the laws' proofs stand on, 3 of them in one file; each one's head says what it proves and under which condition.
-/
import Derived.Test.YtledjiikpajdaaaDoorVtAllP2
import Derived.Test.YtledjiikpajdaaaDoorVtAllP5
import Derived.Sort.Grow
import Derived.Lib.ItoaNum
/-
  date.twoDigits and date.Format: what they return of a second from 0 to the last one of 9999. Condition: the tables hold what the program's text lays.
-/
namespace Go.Proofs.YtledjiikpajdaaaDoor.Dp
open Go.RowKit Go.Proofs.YtledjiikpajdaaaDoor.Dt
set_option linter.unusedVariables false

def two (n : Nat) : Bs := [UInt8.ofNat (48 + n / 10), UInt8.ofNat (48 + n % 10)]
theorem run_two_back (wr : World) (x y : Int) (a b : UInt8) (hx : x = (a.toNat : Int)) (hy : y = (b.toNat : Int)) :
    (convert 62 9 (.slice (some ⟨wr.heap.size, 0, none⟩) 2 2)).run Tryd.prog (wr.alloc (.cells #[.int .u8 x, .int .u8 y] 5)) = .ok (.string ⟨#[a, b]⟩) (wr.alloc (.cells #[.int .u8 x, .int .u8 y] 5)) := by
  subst hx hy
  exact run_convert_bytes_back (P := Tryd.prog) (wr.alloc (.cells #[.int .u8 (a.toNat : Int), .int .u8 (b.toNat : Int)] 5)) 62 9 5 ⟨wr.heap.size, 0, none⟩ 2 [a, b] Tryd.underlying62 Tryd.underlying5 Tryd.underlying9 fun j hj => by
    match j, hj with
    | 0, _ => simp [Addr.add]
    | 1, _ => simp [Addr.add]
theorem twoDigits_any (x : Int) (w : World) (h0 : 0 ≤ x) (h1 : x < 100) :
    Calls Tryd.prog 55 #[.int .i64 x] w fun e w' => e = .returned (.string (B (two x.toNat))) ∧ Below w.heap.size w w' := by
  have HB := Lib.hid (show (⟨#[UInt8.ofNat (48 + x.toNat / 10), UInt8.ofNat (48 + x.toNat % 10)]⟩ : ByteArray) = B (two x.toNat) from rfl)
  obtain ⟨a, ha⟩ : ∃ a, a = UInt8.ofNat (48 + x.toNat / 10) := ⟨_, rfl⟩
  obtain ⟨b, hb⟩ : ∃ b, b = UInt8.ofNat (48 + x.toNat % 10) := ⟨_, rfl⟩
  have hback := run_two_back w (48 + x / 10) (48 + x % 10) a b (by rw [ha, UInt8.toNat_ofNat']; omega) (by rw [hb, UInt8.toNat_ofNat']; omega)
  rw [← ha, ← hb] at HB
  clear ha hb
  go_enter Tryd.func55, Tryd.ntmps55
  go_wp2_with fail
  go_ret
  exact ⟨by rw [← HB.out]; rfl, (Below.refl _ _).alloc (Nat.le_refl _) _⟩
def four (y : Nat) : Bs := two (y / 100) ++ two (y % 100)
theorem itoa_four (y : Int) (h0 : 1000 ≤ y) (h1 : y ≤ 9999) : Lib.itoa y = four y.toNat := by
  obtain ⟨n, rfl⟩ := Int.eq_ofNat_of_zero_le (show 0 ≤ y by omega)
  have e : Lib.itoa (n : Int) = Lib.decDigits n := by unfold Lib.itoa; rw [if_neg (by omega)]; rfl
  rw [e, Lib.decDigits_eq, Lib.nDigits_unique 3 n (by show 1000 ≤ n; omega) (by show n < 10000; omega)]
  simp only [List.range, List.range.loop, four, two, Lib.dg, List.map_cons, List.map_nil, List.cons_append, List.nil_append, Int.toNat_natCast, List.cons.injEq, and_true, Nat.reduceAdd, Nat.reduceSub, Nat.reducePow]
  refine ⟨?_, ?_, ?_, ?_⟩
  · rw [show n / 1000 % 10 = n / 100 / 10 by omega]
  · trivial
  · rw [show n / 10 % 10 = n % 100 / 10 by omega]
  · rw [show n / 1 % 10 = n % 100 % 10 by omega]
theorem below_grow {w : World} (k : Nat) (os : Array Obj) : Below w.heap.size w (Sort.grow (w.drewN k) os) :=
  ⟨rfl, rfl, rfl, by show w.heap.size ≤ (w.heap ++ os).size; rw [Array.size_append]; omega, fun j hj => by show (w.heap ++ os)[j]? = w.heap[j]?; rw [Array.getElem?_append_left hj]⟩
theorem var_below {P : Program} {w w' : World} {n : String} {g C : Nat} {cs : Array Value} (h : w.var? P n = some cs) (hg : P.globalNamed n = some g) (hb : Below C w w') (hlt : g < C) : w'.var? P n = some cs := by
  unfold World.var? at h ⊢
  rw [hg] at h ⊢
  simp only [Option.bind_some] at h ⊢
  rw [hb.block g hlt]; exact h
theorem p10_lt {w : World} (h : Tb.P10 w) : 4 < w.heap.size := World.block_lt_of_cell? w _ (Lib.TabIs.cell h Tb.gPT 0 (by rw [Lib.pow10Tab_length]; omega))
theorem p10_below {C : Nat} {w w' : World} (h : Tb.P10 w) (hb : Below C w w') (hC : w.heap.size ≤ C) : Tb.P10 w' := var_below h Tb.gPT hb (Nat.lt_of_lt_of_le (p10_lt h) hC)
theorem itoa_any (n : Int) (h0 : -9223372036854775808 ≤ n) (h1 : n ≤ 9223372036854775807) (w : World) (hP : Tb.P10 w) :
    Calls Tryd.prog 59 #[.int .i64 n] w fun e w' => e = .returned (.string ⟨(Lib.itoa n).toArray⟩) ∧ ∃ k os, w' = Sort.grow (w.drewN k) os := Ln.strconv_Itoa n h0 h1 w hP
/-- The clock's text. -/
def clk (c : Nat) : Bs := two (c / 3600) ++ [58] ++ two (c / 60 % 60) ++ [58] ++ two (c % 60)
/-- The first form. -/
def form1 (wd : Nat) (y : Nat) (k d c : Nat) : Bs := short wd ++ [44, 32] ++ two d ++ [32] ++ monNames.getD k [] ++ [32] ++ four y ++ [32] ++ clk c ++ [32, 71, 77, 84]
set_option maxHeartbeats 4000000 in
theorem format_in (sec : Int) (w : World) (h0 : 0 ≤ sec) (h1 : sec ≤ 253402300799) (hE : Env w) (hP : Tb.P10 w) :
    Calls Tryd.prog 29 #[.int .i64 sec] w fun e w' => (∃ (y : Int) (k : Nat) (d : Int), e = .returned (.string (B (form1 ((sec / 86400 + 3) % 7).toNat y.toNat k d.toNat (sec % 86400).toNat))) ∧ Valid y k d ∧ dayOf y k d = sec / 86400) ∧ Below w.heap.size w w' := by
  have HE := Lib.hid hE
  have HP := Lib.hid hP
  clear hE hP
  have b1 : sec / 86400 ≤ 2932896 := by omega
  go_enter Tryd.func29, Tryd.ntmps29
  go_wp2_with fail
  refine (civil_in (sec / 86400) w (by omega) (by omega) HE.out.md).mono ?_
  rintro e w' ⟨⟨y, k, d, rfl, hv, hd⟩, rfl⟩
  have hd31 : d ≤ 31 := by have := mlen_pos y k hv.k1; have := hv.d1; omega
  have hy0 := hv.y0
  have hy1 := hv.y1
  have hk := hv.k1
  have hd1 := hv.d0
  have HV := Lib.hid hv
  have HD := Lib.hid hd
  clear hv hd
  go_wp2_with fail
  refine (twoDigits_any (sec % 86400 / 3600) w (by omega) (by omega)).mono ?_
  rintro e w1 ⟨rfl, hb1⟩
  have HB1 := Lib.hid hb1
  have HE1 := Lib.hid (HE.out.below hb1 (Nat.le_refl _))
  clear hb1
  obtain ⟨t1, ht1⟩ : ∃ t, t = B (two (sec % 86400 / 3600).toNat) := ⟨_, rfl⟩
  have s1 : t1.size = 2 := by rw [ht1, B_size]; rfl
  rw [← ht1]
  have HT1 := Lib.hid ht1
  clear ht1
  go_wp2_with fail
  refine (twoDigits_any (sec % 86400 / 60 % 60) w1 (by omega) (by omega)).mono ?_
  rintro e w2 ⟨rfl, hb2⟩
  have HB2 := Lib.hid (below_then HB1.out hb2)
  have HE2 := Lib.hid (HE1.out.below hb2 (Nat.le_refl _))
  clear hb2 HB1 HE1
  obtain ⟨t2, ht2⟩ : ∃ t, t = B (two (sec % 86400 / 60 % 60).toNat) := ⟨_, rfl⟩
  have s2 : t2.size = 2 := by rw [ht2, B_size]; rfl
  rw [← ht2]
  have HT2 := Lib.hid ht2
  clear ht2
  go_wp2_with fail
  refine (twoDigits_any (sec % 60) w2 (by omega) (by omega)).mono ?_
  rintro e w3 ⟨rfl, hb3⟩
  have HB3 := Lib.hid (below_then HB2.out hb3)
  have HE3 := Lib.hid (HE2.out.below hb3 (Nat.le_refl _))
  clear hb3 HB2 HE2
  obtain ⟨t3, ht3⟩ : ∃ t, t = B (two (sec % 60).toNat) := ⟨_, rfl⟩
  have s3 : t3.size = 2 := by rw [ht3, B_size]; rfl
  rw [← ht3]
  have HT3 := Lib.hid ht3
  clear ht3
  go_wp2_with fail
  refine (weekday_any (sec / 86400) w3 (by omega) (by omega)).mono ?_
  rintro e w' ⟨rfl, rfl⟩
  obtain ⟨wd, hwd⟩ : ∃ wd : Nat, (sec / 86400 + 3) % 7 = (wd : Int) := ⟨((sec / 86400 + 3) % 7).toNat, by omega⟩
  have hwd7 : wd < 7 := by omega
  rw [hwd]
  have HWD := Lib.hid (show ((sec / 86400 + 3) % 7).toNat = wd by omega)
  clear hwd
  go_wp2_with fail
  refine (shortWeekday_any wd w3 hwd7 HE3.out.wd).mono ?_
  rintro e w' ⟨rfl, rfl⟩
  obtain ⟨t4, ht4⟩ : ∃ t, t = B (short wd) := ⟨_, rfl⟩
  have s4 : t4.size = 3 := by rw [ht4, B_size, short_length wd hwd7]
  rw [show (⟨(short wd).toArray⟩ : ByteArray) = t4 from ht4.symm]
  have HT4 := Lib.hid ht4
  clear ht4
  go_wp2_with fail
  refine (twoDigits_any d w3 (by omega) (by omega)).mono ?_
  rintro e w4 ⟨rfl, hb4⟩
  have HB4 := Lib.hid (below_then HB3.out hb4)
  have HE4 := Lib.hid (HE3.out.below hb4 (Nat.le_refl _))
  clear hb4 HB3 HE3
  obtain ⟨t5, ht5⟩ : ∃ t, t = B (two d.toNat) := ⟨_, rfl⟩
  have s5 : t5.size = 2 := by rw [ht5, B_size]; rfl
  rw [← ht5]
  have HT5 := Lib.hid ht5
  clear ht5
  go_wp2_with fail
  refine (monthName_any k w4 hk HE4.out.mn).mono ?_
  rintro e w' ⟨rfl, rfl⟩
  obtain ⟨t6, ht6⟩ : ∃ t, t = B (monNames.getD k []) := ⟨_, rfl⟩
  have s6 : t6.size = 3 := by rw [ht6, B_size, mon_length k hk]
  rw [show (⟨(monNames.getD k []).toArray⟩ : ByteArray) = t6 from ht6.symm]
  have HT6 := Lib.hid ht6
  clear ht6
  go_wp2_with fail
  refine (itoa_any y (by omega) (by omega) w4 (p10_below HP.out HB4.out (Nat.le_refl _))).mono ?_
  rintro e w5 ⟨rfl, kd, os, hw5⟩
  have HB5 := Lib.hid (show Below w.heap.size w w5 from by subst hw5; exact below_then HB4.out (below_grow kd os))
  clear hw5
  obtain ⟨t7, ht7⟩ : ∃ t, t = B (four y.toNat) := ⟨_, rfl⟩
  have s7 : t7.size = 4 := by rw [ht7, B_size]; rfl
  rw [show (⟨(Lib.itoa y).toArray⟩ : ByteArray) = t7 from by rw [itoa_four y (by omega) hy1]; exact ht7.symm]
  have HT7 := Lib.hid ht7
  clear ht7
  go_wp2_with fail
  go_ret
  refine ⟨⟨y, k, d, ?_, HV.out, HD.out⟩, HB5.out⟩
  have e1 : (sec % 86400).toNat / 3600 = (sec % 86400 / 3600).toNat := by omega
  have e2 : (sec % 86400).toNat / 60 % 60 = (sec % 86400 / 60 % 60).toNat := by omega
  have e3 : (sec % 86400).toNat % 60 = (sec % 60).toNat := by omega
  show Ending.returned (.string _) = _
  congr 2
  rw [HWD.out, HT1.out, HT2.out, HT3.out, HT4.out, HT5.out, HT6.out, HT7.out]
  simp only [form1, clk, e1, e2, e3]
  rw [show (⟨#[44, 32]⟩ : ByteArray) = B [44, 32] from rfl, show (⟨#[32]⟩ : ByteArray) = B [32] from rfl, show (⟨#[58]⟩ : ByteArray) = B [58] from rfl, show (⟨#[32, 71, 77, 84]⟩ : ByteArray) = B [32, 71, 77, 84] from rfl]
  simp only [B_append]
theorem two_length (n : Nat) : (two n).length = 2 := rfl
theorem clk_length (c : Nat) : (clk c).length = 8 := rfl
theorem four_length (y : Nat) : (four y).length = 4 := rfl
theorem form1_length (wd y k d c : Nat) (hw : wd < 7) (hk : k < 12) : (form1 wd y k d c).length = 29 := by
  simp only [form1, List.length_append, short_length wd hw, mon_length k hk, two_length, four_length, clk_length, List.length_cons, List.length_nil]
end Go.Proofs.YtledjiikpajdaaaDoor.Dp
/-
  date.Parse of what Format tells of a second: that second. Conditions: the tables hold what the program's text lays.
-/
namespace Go.Proofs.YtledjiikpajdaaaDoor.Dp
open Go.RowKit Go.Proofs.YtledjiikpajdaaaDoor.Dt
set_option linter.unusedVariables false

theorem dig (n : Nat) (h : n < 10) : (UInt8.ofNat (48 + n)).toNat = 48 + n := by rw [UInt8.toNat_ofNat']; omega
theorem dig_ok (n : Nat) (h : n < 10) : dgt (UInt8.ofNat (48 + n)) = true := by
  unfold dgt; rw [dig n h]; simp; omega
theorem numv_one (a : Nat) (ha : a < 10) : numv [UInt8.ofNat (48 + a)] = (a : Int) := by
  simp only [numv, List.foldl_cons, List.foldl_nil, dig a ha]; omega
theorem numv_two (n : Nat) (h : n < 100) : numv (two n) = (n : Int) := by
  simp only [numv, two, List.foldl_cons, List.foldl_nil, dig (n / 10) (by omega), dig (n % 10) (by omega)]; omega
theorem numv_four (y : Nat) (h : y < 10000) : numv (four y) = (y : Int) := by
  simp only [numv, four, two, List.cons_append, List.nil_append, List.foldl_cons, List.foldl_nil, dig (y / 100 / 10) (by omega), dig (y / 100 % 10) (by omega), dig (y % 100 / 10) (by omega), dig (y % 100 % 10) (by omega)]; omega
theorem cutN_of (x r : Bs) (k : Nat) (hk : x.length = k) (hx : x.all dgt = true) : cutN (x ++ r) k = some (numv x, r) := by
  subst hk
  unfold cutN
  rw [if_neg (by simp), List.take_left, if_pos hx, List.drop_left]
theorem numF_of (i k : Nat) (R : List Int) (x r : Bs) (n : Int) (hk : x.length = k) (hx : x.all dgt = true) (hn : numv x = n) : numF i k R (x ++ r) = (true, R.set i n, r) := by
  unfold numF; rw [cutN_of x r k hk hx, hn]; rfl
theorem two_all (n : Nat) (h : n < 100) : (two n).all dgt = true := by
  show (dgt (UInt8.ofNat (48 + n / 10)) && (dgt (UInt8.ofNat (48 + n % 10)) && true)) = true
  rw [dig_ok (n / 10) (by omega), dig_ok (n % 10) (by omega)]; rfl
theorem four_all (y : Nat) (h : y < 10000) : (four y).all dgt = true := by
  unfold four; rw [List.all_append, two_all _ (by omega), two_all _ (by omega)]; rfl
theorem numF_two (i : Nat) (R : List Int) (n : Nat) (r : Bs) (h : n < 100) : numF i 2 R (two n ++ r) = (true, R.set i (n : Int), r) :=
  numF_of i 2 R (two n) r n rfl (two_all n h) (numv_two n h)
theorem numF_four (i : Nat) (R : List Int) (y : Nat) (r : Bs) (h : y < 10000) : numF i 4 R (four y ++ r) = (true, R.set i (y : Int), r) :=
  numF_of i 4 R (four y) r y rfl (four_all y h) (numv_four y h)
theorem numF_one (i : Nat) (R : List Int) (a : Nat) (r : Bs) (h : a < 10) : numF i 1 R (UInt8.ofNat (48 + a) :: r) = (true, R.set i (a : Int), r) :=
  numF_of i 1 R [UInt8.ofNat (48 + a)] r a rfl (by show (dgt (UInt8.ofNat (48 + a)) && true) = true; rw [dig_ok a h]; rfl) (numv_one a h)
theorem nameF_of (i : Nat) (names : List Bs) (R : List Int) (s r : Bs) (j : Nat) (h : pick s names = some (j, r)) : nameF i names R s = (true, R.set i (j : Int), r) := by
  unfold nameF; rw [h]; rfl
theorem pick_short (wd : Nat) (r : Bs) (h : wd < 7) : pick (short wd ++ r) shortNames = some (wd, r) := by
  match wd, h with
  | 0, _ | 1, _ | 2, _ | 3, _ | 4, _ | 5, _ | 6, _ => rfl
theorem pick_mon (k : Nat) (r : Bs) (h : k < 12) : pick (monNames.getD k [] ++ r) monNames = some (k, r) := by
  match k, h with
  | 0, _ | 1, _ | 2, _ | 3, _ | 4, _ | 5, _ | 6, _ | 7, _ | 8, _ | 9, _ | 10, _ | 11, _ => rfl
theorem step {l : UInt8} {f : Bs} {R R' : List Int} {s r : Bs} (h : fieldF l R s = (true, R', r)) : readF (37 :: l :: f) R s = readF f R' r := by
  rw [readF_field, h]; rfl
theorem step_a (f : Bs) (R : List Int) (wd : Nat) (r : Bs) (h : wd < 7) : readF (37 :: 97 :: f) R (short wd ++ r) = readF f (R.set 0 (wd : Int)) r :=
  step (nameF_of 0 shortNames R _ r wd (pick_short wd r h))
theorem step_b (f : Bs) (R : List Int) (k : Nat) (r : Bs) (h : k < 12) (hR : R.length = 7) : readF (37 :: 98 :: f) R (monNames.getD k [] ++ r) = readF f (R.set 2 ((k : Int) + 1)) r := by
  refine step ?_
  show ((nameF 2 monNames R _).1, (nameF 2 monNames R _).2.1.set 2 ((nameF 2 monNames R _).2.1.getD 2 0 + 1), (nameF 2 monNames R _).2.2) = _
  rw [nameF_of 2 monNames R _ r k (pick_mon k r h)]
  show (true, (R.set 2 (k : Int)).set 2 ((R.set 2 (k : Int)).getD 2 0 + 1), r) = _
  rw [set_get R 2 _ (by omega), List.set_set]
theorem step_d (f : Bs) (R : List Int) (n : Nat) (r : Bs) (h : n < 100) : readF (37 :: 100 :: f) R (two n ++ r) = readF f (R.set 3 (n : Int)) r := step (numF_two 3 R n r h)
theorem step_Y (f : Bs) (R : List Int) (y : Nat) (r : Bs) (h : y < 10000) : readF (37 :: 89 :: f) R (four y ++ r) = readF f (R.set 1 (y : Int)) r := step (numF_four 1 R y r h)
theorem step_h (f : Bs) (R : List Int) (n : Nat) (r : Bs) (h : n < 100) : readF (37 :: 104 :: f) R (two n ++ r) = readF f (R.set 4 (n : Int)) r := step (numF_two 4 R n r h)
theorem step_m (f : Bs) (R : List Int) (n : Nat) (r : Bs) (h : n < 100) : readF (37 :: 109 :: f) R (two n ++ r) = readF f (R.set 5 (n : Int)) r := step (numF_two 5 R n r h)
theorem step_s (f : Bs) (R : List Int) (n : Nat) (r : Bs) (h : n < 100) : readF (37 :: 115 :: f) R (two n ++ r) = readF f (R.set 6 (n : Int)) r := step (numF_two 6 R n r h)
theorem form1_right (wd y k d c : Nat) : form1 wd y k d c = short wd ++ 44 :: 32 :: (two d ++ 32 :: (monNames.getD k [] ++ 32 :: (four y ++ 32 :: (clk c ++ [32, 71, 77, 84])))) := by
  simp [form1]
theorem clk_right (c : Nat) (r : Bs) : clk c ++ r = two (c / 3600) ++ 58 :: (two (c / 60 % 60) ++ 58 :: (two (c % 60) ++ r)) := by simp [clk]
theorem lit (c : UInt8) (f : Bs) (R : List Int) (t : Bs) (h : c ≠ 37) : readF (c :: f) R (c :: t) = readF f R t := readF_hit R t h
def told (wd y k d c : Nat) : List Int := [(wd : Int), (y : Int), (k : Int) + 1, (d : Int), ((c / 3600 : Nat) : Int), ((c / 60 % 60 : Nat) : Int), ((c % 60 : Nat) : Int)]
theorem read1 (wd y k d c : Nat) (hw : wd < 7) (hy : y < 10000) (hk : k < 12) (hd : d < 100) (hc : c < 86400) : readF (formTexts.getD 0 []) zeros (form1 wd y k d c) = (true, told wd y k d c) := by
  rw [form1_right, clk_right]
  show readF (37 :: 97 :: 44 :: 32 :: 37 :: 100 :: 32 :: 37 :: 98 :: 32 :: 37 :: 89 :: 32 :: 37 :: 104 :: 58 :: 37 :: 109 :: 58 :: 37 :: 115 :: 32 :: 71 :: 77 :: 84 :: []) _ _ = _
  rw [step_a _ _ _ _ hw, lit 44 _ _ _ (by decide), lit 32 _ _ _ (by decide), step_d _ _ _ _ hd, lit 32 _ _ _ (by decide), step_b _ _ _ _ hk rfl, lit 32 _ _ _ (by decide), step_Y _ _ _ _ hy, lit 32 _ _ _ (by decide), step_h _ _ _ _ (by omega), lit 58 _ _ _ (by decide), step_m _ _ _ _ (by omega), lit 58 _ _ _ (by decide), step_s _ _ _ _ (by omega), lit 32 _ _ _ (by decide), lit 71 _ _ _ (by decide), lit 77 _ _ _ (by decide), lit 84 _ _ _ (by decide)]
  rfl
theorem told_there {y : Int} {k : Nat} {d sec : Int} (hv : Valid y k d) (hd : dayOf y k d = sec / 86400) :
    There (told ((sec / 86400 + 3) % 7).toNat y.toNat k d.toNat (sec % 86400).toNat) y k d (sec % 86400) := by
  have h0 := hv.y0
  have h1 := hv.d0
  refine ⟨?_, hv, by omega, by omega⟩
  unfold told
  rw [hd]
  have e1 : ((((sec / 86400 + 3) % 7).toNat : Nat) : Int) = (sec / 86400 + 3) % 7 := by omega
  have e2 : ((y.toNat : Nat) : Int) = y := by omega
  have e3 : ((d.toNat : Nat) : Int) = d := by omega
  have e4 : (((sec % 86400).toNat / 3600 : Nat) : Int) = sec % 86400 / 3600 := by omega
  have e5 : (((sec % 86400).toNat / 60 % 60 : Nat) : Int) = sec % 86400 / 60 % 60 := by omega
  have e6 : (((sec % 86400).toNat % 60 : Nat) : Int) = sec % 86400 % 60 := by omega
  rw [e1, e2, e3, e4, e5, e6]
theorem small_parts {y : Int} {k : Nat} {d sec : Int} (hv : Valid y k d) : ((sec / 86400 + 3) % 7).toNat < 7 ∧ y.toNat < 10000 ∧ d.toNat < 100 ∧ (sec % 86400).toNat < 86400 := by
  have h1 := hv.y1
  have h2 := hv.d1
  have h3 := mlen_pos y k hv.k1
  omega
theorem sum_back {y : Int} {k : Nat} {d sec : Int} (hd : dayOf y k d = sec / 86400) : dayOf y k d * 86400 + sec % 86400 = sec := by rw [hd]; omega
theorem parse_form1 (sec y d : Int) (k : Nat) (w : World) (hE : Env w) (hF : FM w) (hv : Valid y k d) (hd : dayOf y k d = sec / 86400) :
    Calls Tryd.prog 24 #[.string (B (form1 ((sec / 86400 + 3) % 7).toNat y.toNat k d.toNat (sec % 86400).toNat))] w
      fun e w' => e = .returned (.tuple #[.int .i64 sec, .bool true]) ∧ Below w.heap.size w w' := by
  obtain ⟨p1, p2, p3, p4⟩ := small_parts (sec := sec) hv
  have := parse_ok _ 0 _ y k d (sec % 86400) w (by rw [form1_length _ _ _ _ _ p1 hv.k1]; omega) hE hF (by omega) (fun j hj => by omega) (read1 _ _ k _ _ p1 p2 hv.k1 p3 p4) (told_there hv hd)
  rwa [sum_back hd] at this
end Go.Proofs.YtledjiikpajdaaaDoor.Dp
/-
  date.Days and date.reading.seconds of whatever was read: what each returns. Conditions: the tables hold what the program's text lays; numbers from 0 to 20000.
-/
namespace Go.Proofs.YtledjiikpajdaaaDoor.Dp
open Go.RowKit Go.Proofs.YtledjiikpajdaaaDoor.Dt
set_option linter.unusedVariables false

/-- The day of a date; -1: there is none. -/
def dayV (y m d : Int) : Int := if 1970 ≤ y ∧ y ≤ 9999 ∧ 1 ≤ m ∧ m ≤ 12 ∧ 1 ≤ d ∧ d ≤ mlen y (m - 1).toNat then dayOf y (m - 1).toNat d else -1
theorem dayV_bd (y m d : Int) : -1 ≤ dayV y m d ∧ dayV y m d ≤ 2932896 := by
  unfold dayV
  split
  · rename_i h
    have := Valid.range (y := y) (k := (m - 1).toNat) (d := d) ⟨h.1, h.2.1, by omega, h.2.2.2.2.1, h.2.2.2.2.2⟩
    omega
  · omega
set_option maxHeartbeats 2000000 in
theorem days_early (y m d : Int) (w : World) (h1 : y < 1970) :
    Calls Tryd.prog 69 #[.int .i64 y, .int .i64 m, .int .i64 d] w fun e w' => e = .returned (.int .i64 (-1)) ∧ w = w' := by
  go_enter Tryd.func69, Tryd.ntmps69
  go_wp2_with fail
  go_ret
  exact ⟨rfl, rfl⟩
set_option maxHeartbeats 2000000 in
theorem days_no_month (y m d : Int) (w : World) (h0 : 1970 ≤ y) (h1 : y ≤ 9999) (hm : m < 1) :
    Calls Tryd.prog 69 #[.int .i64 y, .int .i64 m, .int .i64 d] w fun e w' => e = .returned (.int .i64 (-1)) ∧ w = w' := by
  go_enter Tryd.func69, Tryd.ntmps69
  go_wp2_with fail
  go_ret
  exact ⟨rfl, rfl⟩
set_option maxHeartbeats 2000000 in
theorem days_no_day (y m d : Int) (w : World) (h0 : 1970 ≤ y) (h1 : y ≤ 9999) (hm : 1 ≤ m) (hm2 : m ≤ 12) (hd : d < 1) :
    Calls Tryd.prog 69 #[.int .i64 y, .int .i64 m, .int .i64 d] w fun e w' => e = .returned (.int .i64 (-1)) ∧ w = w' := by
  go_enter Tryd.func69, Tryd.ntmps69
  go_wp2_with fail
  go_ret
  exact ⟨rfl, rfl⟩
theorem days_any (y m d : Int) (w : World) (hT : MD w) :
    Calls Tryd.prog 69 #[.int .i64 y, .int .i64 m, .int .i64 d] w fun e w' => e = .returned (.int .i64 (dayV y m d)) ∧ w = w' := by
  have hno : ∀ {x : Int}, x = -1 → (Calls Tryd.prog 69 #[.int .i64 y, .int .i64 m, .int .i64 d] w fun e w' => e = .returned (.int .i64 (-1)) ∧ w = w') → Calls Tryd.prog 69 #[.int .i64 y, .int .i64 m, .int .i64 d] w fun e w' => e = .returned (.int .i64 x) ∧ w = w' := fun e h => by rw [e]; exact h
  by_cases h1 : y < 1970
  · exact hno (by unfold dayV; rw [if_neg (by omega)]) (days_early y m d w h1)
  · by_cases h2 : 9999 < y
    · exact hno (by unfold dayV; rw [if_neg (by omega)]) (days_late y m d w h2)
    · by_cases h3 : m < 1
      · exact hno (by unfold dayV; rw [if_neg (by omega)]) (days_no_month y m d w (by omega) (by omega) h3)
      · by_cases h4 : 12 < m
        · exact hno (by unfold dayV; rw [if_neg (by omega)]) (days_month y m d w (by omega) (by omega) h4)
        · by_cases h5 : d < 1
          · exact hno (by unfold dayV; rw [if_neg (by omega)]) (days_no_day y m d w (by omega) (by omega) (by omega) (by omega) h5)
          · have hm : m = (((m - 1).toNat : Nat) : Int) + 1 := by omega
            by_cases h6 : d ≤ mlen y (m - 1).toNat
            · have := days_valid y m d (m - 1).toNat w hm ⟨by omega, by omega, by omega, by omega, h6⟩ hT
              unfold dayV
              rw [if_pos ⟨by omega, by omega, by omega, by omega, by omega, h6⟩]
              exact this
            · have := days_long y d (m - 1).toNat w (by omega) (by omega) (by omega) (by omega) hT
              rw [← hm] at this
              exact hno (by unfold dayV; rw [if_neg (fun k => h6 k.2.2.2.2.2)]) this

/-- The second of a reading; false: there is none. -/
def secV (wd y m d h mi s : Int) : Int × Bool :=
  if dayV y m d < 0 ∨ (dayV y m d + 3) % 7 ≠ wd ∨ 23 < h ∨ 59 < mi ∨ 60 < s then (0, false) else (dayV y m d * 86400 + h * 3600 + mi * 60 + min s 59, true)
set_option maxHeartbeats 4000000 in
theorem seconds_any (wd y m d h mi s : Int) (w : World) (hE : Env w) (h0 : 0 ≤ h) (h1 : h ≤ 20000) (m0 : 0 ≤ mi) (m1 : mi ≤ 20000) (s0 : 0 ≤ s) (s1 : s ≤ 20000) :
    Calls Tryd.prog 49 #[.agg #[.int .i64 wd, .int .i64 y, .int .i64 m, .int .i64 d, .int .i64 h, .int .i64 mi, .int .i64 s]] w
      fun e w' => e = .returned (.tuple #[.int .i64 (secV wd y m d h mi s).1, .bool (secV wd y m d h mi s).2]) ∧ Below w.heap.size w w' := by
  have hr := dayV_bd y m d
  obtain ⟨D, hD⟩ : ∃ D, dayV y m d = D := ⟨_, rfl⟩
  rw [hD] at hr
  have HD := Lib.hid hD
  have HM := Lib.hid ((hE.below ((Below.refl w.heap.size w).alloc (Nat.le_refl _) (.cells #[.int .i64 wd, .int .i64 y, .int .i64 m, .int .i64 d, .int .i64 h, .int .i64 mi, .int .i64 s] 79)) (Nat.le_refl _)).md)
  obtain ⟨X, hX⟩ : ∃ X, (secV wd y m d h mi s).1 = X := ⟨_, rfl⟩
  obtain ⟨Y, hY⟩ : ∃ Y, (secV wd y m d h mi s).2 = Y := ⟨_, rfl⟩
  have HNO := Lib.hid (show (D < 0 ∨ (D + 3) % 7 ≠ wd ∨ 23 < h ∨ 59 < mi ∨ 60 < s) → X = 0 ∧ Y = false from fun k => by rw [← hX, ← hY]; unfold secV; rw [hD, if_pos k]; exact ⟨rfl, rfl⟩)
  have HYES := Lib.hid (show ¬ (D < 0 ∨ (D + 3) % 7 ≠ wd ∨ 23 < h ∨ 59 < mi ∨ 60 < s) → X = D * 86400 + h * 3600 + mi * 60 + min s 59 ∧ Y = true from fun k => by rw [← hX, ← hY]; unfold secV; rw [hD, if_neg k]; exact ⟨rfl, rfl⟩)
  rw [hX, hY]
  clear hE hD hX hY
  go_enter Tryd.func49, Tryd.ntmps49
  go_wp2_with fail
  refine (days_any _ _ _ _ HM.out).mono ?_
  rintro e w' ⟨rfl, rfl⟩
  rw [HD.out]
  generalize hwa : w.alloc (.cells #[.int .i64 wd, .int .i64 y, .int .i64 m, .int .i64 d, .int .i64 h, .int .i64 mi, .int .i64 s] 79) = wa
  have hva : wa.heap[w.heap.size]? = some (.cells (ints [wd, y, m, d, h, mi, s]) 79 (0, 0)) := by rw [← hwa]; exact heap_alloc_new _ _
  have HBA := Lib.hid (show Below w.heap.size w wa from by rw [← hwa]; exact (Below.refl _ _).alloc (Nat.le_refl _) _)
  have a0 := ints_at hva 0 (by simp)
  have a4 := ints_at hva 4 (by simp)
  have a5 := ints_at hva 5 (by simp)
  have a6 := ints_at hva 6 (by simp)
  simp only [List.getD_cons_zero, List.getD_cons_succ] at a0 a4 a5 a6
  clear hwa hva HM
  by_cases d0 : D < 0
  · have hneg : decide (D < 0) = true := decide_eq_true d0
    obtain ⟨rfl, rfl⟩ := HNO.out (.inl d0)
    clear HYES HNO
    go_wp2_with fail
    go_quiet (fail)
    go_wp2_with fail
    go_ret2
    exact ⟨rfl, below_drawn HBA.out rfl⟩
  · have hneg : decide (D < 0) = false := decide_eq_false d0
    have HQ := Lib.hid (fun w' : World => (weekday_any D w' (by omega) (by omega)).mono (R' := fun e w'' => e = .returned (.int .i64 ((D + 3) % 7)) ∧ w'' = w') fun _ _ h => ⟨h.1, h.2.symm⟩)
    by_cases dw : (D + 3) % 7 = wd
    · have hbq : ((D + 3) % 7 != wd) = false := by rw [dw]; simp
      by_cases dh : 23 < h
      · obtain ⟨rfl, rfl⟩ := HNO.out (.inr (.inr (.inl dh)))
        clear HYES HNO dw
        go_wp2_with fail
        go_quiet ((go_at_call 57; exact Calls.quiet_of_same (HQ.out _)))
        go_wp2_with fail
        go_ret2
        exact ⟨rfl, below_drawn HBA.out rfl⟩
      · by_cases dm : 59 < mi
        · obtain ⟨rfl, rfl⟩ := HNO.out (.inr (.inr (.inr (.inl dm))))
          clear HYES HNO dw
          go_wp2_with fail
          go_quiet ((go_at_call 57; exact Calls.quiet_of_same (HQ.out _)))
          go_wp2_with fail
          go_ret2
          exact ⟨rfl, below_drawn HBA.out rfl⟩
        · by_cases ds : 60 < s
          · obtain ⟨rfl, rfl⟩ := HNO.out (.inr (.inr (.inr (.inr ds))))
            clear HYES HNO dw
            go_wp2_with fail
            go_quiet ((go_at_call 57; exact Calls.quiet_of_same (HQ.out _)))
            go_wp2_with fail
            go_ret2
            exact ⟨rfl, below_drawn HBA.out rfl⟩
          · obtain ⟨hXe, rfl⟩ := HYES.out (by omega)
            have HXE := Lib.hid hXe
            clear HYES HNO dw hXe
            go_wp2_with fail
            go_quiet ((go_at_call 57; exact Calls.quiet_of_same (HQ.out _)))
            go_wp2_with fail
            go_ret2
            exact ⟨by rw [HXE.out]; rfl, below_drawn HBA.out rfl⟩
    · have hbq : ((D + 3) % 7 != wd) = true := by simp [dw]
      obtain ⟨rfl, rfl⟩ := HNO.out (.inr (.inl dw))
      clear HYES HNO dw
      go_wp2_with fail
      go_quiet ((go_at_call 57; exact Calls.quiet_of_same (HQ.out _)))
      go_wp2_with fail
      go_ret2
      exact ⟨rfl, below_drawn HBA.out rfl⟩
end Go.Proofs.YtledjiikpajdaaaDoor.Dp
