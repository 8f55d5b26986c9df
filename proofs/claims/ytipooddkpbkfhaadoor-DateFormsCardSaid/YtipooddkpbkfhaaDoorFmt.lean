/-
  date.Format: what it returns of a second from 0 to the last one of 9999. Condition: the tables hold what the program's text lays.
-/
import Derived.Test.YtipooddkpbkfhaaDoorFmtPre
namespace Go.Proofs.YtipooddkpbkfhaaDoor.Dt
open Go.RowKit

/-- The clock's text. -/
def clk (c : Nat) : Bs := two (c / 3600) ++ [58] ++ two (c / 60 % 60) ++ [58] ++ two (c % 60)
/-- The first form. -/
def form1 (wd : Nat) (y : Nat) (k d c : Nat) : Bs := short wd ++ [44, 32] ++ two d ++ [32] ++ monNames.getD k [] ++ [32] ++ four y ++ [32] ++ clk c ++ [32, 71, 77, 84]

set_option maxHeartbeats 4000000 in
theorem format_in (sec : Int) (w : World) (h0 : 0 ≤ sec) (h1 : sec ≤ 253402300799) (hE : Env w) :
    Calls Tryd.prog 14 #[.int .i64 sec] w fun e w' => (∃ (y : Int) (k : Nat) (d : Int), e = .returned (.string (B (form1 ((sec / 86400 + 3) % 7).toNat y.toNat k d.toNat (sec % 86400).toNat))) ∧ Valid y k d ∧ dayOf y k d = sec / 86400) ∧ Below w.heap.size w w' := by
  have HE := Lib.hid hE
  clear hE
  have b1 : sec / 86400 ≤ 2932896 := by omega
  go_enter Tryd.func14, Tryd.ntmps14
  go_wp2_with fail
  refine (civil_in (sec / 86400) w (by omega) (by omega) HE.out.md).mono ?_
  rintro e w' ⟨⟨y, k, d, rfl, hv, hd⟩, rfl⟩
  have hd31 : d ≤ 31 := by have := mlen_pos y k hv.k1; have := hv.d1; omega
  have hy0 := hv.y0
  have hy1 := hv.y1
  have hk := hv.k1
  have hd1 := hv.d0
  have HV := Lib.hid hv
  have HD := Lib.hid hd
  clear hv hd
  go_wp2_with fail
  refine (twoDigits_any (sec % 86400 / 3600) w (by omega) (by omega)).mono ?_
  rintro e w1 ⟨rfl, hb1⟩
  have HB1 := Lib.hid hb1
  have HE1 := Lib.hid (HE.out.below hb1 (Nat.le_refl _))
  clear hb1
  obtain ⟨t1, ht1⟩ : ∃ t, t = B (two (sec % 86400 / 3600).toNat) := ⟨_, rfl⟩
  have s1 : t1.size = 2 := by rw [ht1, B_size]; rfl
  rw [← ht1]
  have HT1 := Lib.hid ht1
  clear ht1
  go_wp2_with fail
  refine (twoDigits_any (sec % 86400 / 60 % 60) w1 (by omega) (by omega)).mono ?_
  rintro e w2 ⟨rfl, hb2⟩
  have HB2 := Lib.hid (below_then HB1.out hb2)
  have HE2 := Lib.hid (HE1.out.below hb2 (Nat.le_refl _))
  clear hb2 HB1 HE1
  obtain ⟨t2, ht2⟩ : ∃ t, t = B (two (sec % 86400 / 60 % 60).toNat) := ⟨_, rfl⟩
  have s2 : t2.size = 2 := by rw [ht2, B_size]; rfl
  rw [← ht2]
  have HT2 := Lib.hid ht2
  clear ht2
  go_wp2_with fail
  refine (twoDigits_any (sec % 60) w2 (by omega) (by omega)).mono ?_
  rintro e w3 ⟨rfl, hb3⟩
  have HB3 := Lib.hid (below_then HB2.out hb3)
  have HE3 := Lib.hid (HE2.out.below hb3 (Nat.le_refl _))
  clear hb3 HB2 HE2
  obtain ⟨t3, ht3⟩ : ∃ t, t = B (two (sec % 60).toNat) := ⟨_, rfl⟩
  have s3 : t3.size = 2 := by rw [ht3, B_size]; rfl
  rw [← ht3]
  have HT3 := Lib.hid ht3
  clear ht3
  go_wp2_with fail
  refine (weekday_any (sec / 86400) w3 (by omega) (by omega)).mono ?_
  rintro e w' ⟨rfl, rfl⟩
  obtain ⟨wd, hwd⟩ : ∃ wd : Nat, (sec / 86400 + 3) % 7 = (wd : Int) := ⟨((sec / 86400 + 3) % 7).toNat, by omega⟩
  have hwd7 : wd < 7 := by omega
  rw [hwd]
  have HWD := Lib.hid (show ((sec / 86400 + 3) % 7).toNat = wd by omega)
  clear hwd
  go_wp2_with fail
  refine (shortWeekday_any wd w3 hwd7 HE3.out.wd).mono ?_
  rintro e w' ⟨rfl, rfl⟩
  obtain ⟨t4, ht4⟩ : ∃ t, t = B (short wd) := ⟨_, rfl⟩
  have s4 : t4.size = 3 := by rw [ht4, B_size, short_length wd hwd7]
  rw [show (⟨(short wd).toArray⟩ : ByteArray) = t4 from ht4.symm]
  have HT4 := Lib.hid ht4
  clear ht4
  go_wp2_with fail
  refine (twoDigits_any d w3 (by omega) (by omega)).mono ?_
  rintro e w4 ⟨rfl, hb4⟩
  have HB4 := Lib.hid (below_then HB3.out hb4)
  have HE4 := Lib.hid (HE3.out.below hb4 (Nat.le_refl _))
  clear hb4 HB3 HE3
  obtain ⟨t5, ht5⟩ : ∃ t, t = B (two d.toNat) := ⟨_, rfl⟩
  have s5 : t5.size = 2 := by rw [ht5, B_size]; rfl
  rw [← ht5]
  have HT5 := Lib.hid ht5
  clear ht5
  go_wp2_with fail
  refine (monthName_any k w4 hk HE4.out.mn).mono ?_
  rintro e w' ⟨rfl, rfl⟩
  obtain ⟨t6, ht6⟩ : ∃ t, t = B (monNames.getD k []) := ⟨_, rfl⟩
  have s6 : t6.size = 3 := by rw [ht6, B_size, mon_length k hk]
  rw [show (⟨(monNames.getD k []).toArray⟩ : ByteArray) = t6 from ht6.symm]
  have HT6 := Lib.hid ht6
  clear ht6
  go_wp2_with fail
  refine (itoa_any y (by omega) (by omega) w4 HE4.out.p10).mono ?_
  rintro e w5 ⟨rfl, kd, os, hw5⟩
  have HB5 := Lib.hid (show Below w.heap.size w w5 from by subst hw5; exact below_then HB4.out (below_grow kd os))
  clear hw5
  obtain ⟨t7, ht7⟩ : ∃ t, t = B (four y.toNat) := ⟨_, rfl⟩
  have s7 : t7.size = 4 := by rw [ht7, B_size]; rfl
  rw [show (⟨(Lib.itoa y).toArray⟩ : ByteArray) = t7 from by rw [itoa_four y (by omega) hy1]; exact ht7.symm]
  have HT7 := Lib.hid ht7
  clear ht7
  go_wp2_with fail
  go_ret
  refine ⟨⟨y, k, d, ?_, HV.out, HD.out⟩, HB5.out⟩
  have e1 : (sec % 86400).toNat / 3600 = (sec % 86400 / 3600).toNat := by omega
  have e2 : (sec % 86400).toNat / 60 % 60 = (sec % 86400 / 60 % 60).toNat := by omega
  have e3 : (sec % 86400).toNat % 60 = (sec % 60).toNat := by omega
  show Ending.returned (.string _) = _
  congr 2
  rw [HWD.out, HT1.out, HT2.out, HT3.out, HT4.out, HT5.out, HT6.out, HT7.out]
  simp only [form1, clk, e1, e2, e3]
  rw [show (⟨#[44, 32]⟩ : ByteArray) = B [44, 32] from rfl, show (⟨#[32]⟩ : ByteArray) = B [32] from rfl, show (⟨#[58]⟩ : ByteArray) = B [58] from rfl, show (⟨#[32, 71, 77, 84]⟩ : ByteArray) = B [32, 71, 77, 84] from rfl]
  simp only [B_append]
end Go.Proofs.YtipooddkpbkfhaaDoor.Dt
