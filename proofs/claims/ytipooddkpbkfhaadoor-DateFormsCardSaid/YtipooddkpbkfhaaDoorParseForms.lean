/-
  date.Parse of the three forms of a second: it is that second. Conditions: the tables hold what the program's text lays.
-/
import Derived.Test.YtipooddkpbkfhaaDoorFormsMath
namespace Go.Proofs.YtipooddkpbkfhaaDoor.Dt
open Go.RowKit

theorem told_there {y : Int} {k : Nat} {d sec : Int} (hv : Valid y k d) (hd : dayOf y k d = sec / 86400) :
    There (told ((sec / 86400 + 3) % 7).toNat y.toNat k d.toNat (sec % 86400).toNat) y k d (sec % 86400) := by
  have h0 := hv.y0
  have h1 := hv.d0
  refine ⟨?_, hv, by omega, by omega⟩
  unfold told
  rw [hd]
  have e1 : ((((sec / 86400 + 3) % 7).toNat : Nat) : Int) = (sec / 86400 + 3) % 7 := by omega
  have e2 : ((y.toNat : Nat) : Int) = y := by omega
  have e3 : ((d.toNat : Nat) : Int) = d := by omega
  have e4 : (((sec % 86400).toNat / 3600 : Nat) : Int) = sec % 86400 / 3600 := by omega
  have e5 : (((sec % 86400).toNat / 60 % 60 : Nat) : Int) = sec % 86400 / 60 % 60 := by omega
  have e6 : (((sec % 86400).toNat % 60 : Nat) : Int) = sec % 86400 % 60 := by omega
  rw [e1, e2, e3, e4, e5, e6]
theorem small_parts {y : Int} {k : Nat} {d sec : Int} (hv : Valid y k d) : ((sec / 86400 + 3) % 7).toNat < 7 ∧ y.toNat < 10000 ∧ d.toNat < 100 ∧ (sec % 86400).toNat < 86400 := by
  have h1 := hv.y1
  have h2 := hv.d1
  have h3 := mlen_pos y k hv.k1
  omega
theorem sum_back {y : Int} {k : Nat} {d sec : Int} (hd : dayOf y k d = sec / 86400) : dayOf y k d * 86400 + sec % 86400 = sec := by rw [hd]; omega

theorem parse_form1 (sec y d : Int) (k : Nat) (w : World) (hE : Env w) (hF : FM w) (hv : Valid y k d) (hd : dayOf y k d = sec / 86400) :
    Calls Tryd.prog 8 #[.string (B (form1 ((sec / 86400 + 3) % 7).toNat y.toNat k d.toNat (sec % 86400).toNat))] w
      fun e w' => e = .returned (.tuple #[.int .i64 sec, .bool true]) ∧ Below w.heap.size w w' := by
  obtain ⟨p1, p2, p3, p4⟩ := small_parts (sec := sec) hv
  have := parse_ok _ 0 _ y k d (sec % 86400) w (by rw [form1_length _ _ _ _ _ p1 hv.k1]; omega) hE hF (by omega) (fun j hj => by omega) (read1 _ _ k _ _ p1 p2 hv.k1 p3 p4) (told_there hv hd)
  rwa [sum_back hd] at this
theorem long_short (wd : Nat) (h : wd < 7) : (longNames.getD wd []).length ≤ 9 := by
  match wd, h with
  | 0, _ | 1, _ | 2, _ | 3, _ | 4, _ | 5, _ | 6, _ => decide
theorem dayText_length (d : Nat) : (dayText d).length = 2 := by unfold dayText; split <;> rfl
theorem parse_form2 (sec y d : Int) (k : Nat) (w : World) (hE : Env w) (hF : FM w) (hv : Valid y k d) (hd : dayOf y k d = sec / 86400) (hy : y ≤ 2069) :
    Calls Tryd.prog 8 #[.string (B (form2 ((sec / 86400 + 3) % 7).toNat y.toNat k d.toNat (sec % 86400).toNat))] w
      fun e w' => e = .returned (.tuple #[.int .i64 sec, .bool true]) ∧ Below w.heap.size w w' := by
  obtain ⟨p1, p2, p3, p4⟩ := small_parts (sec := sec) hv
  have h0 := hv.y0
  have := parse_ok _ 1 _ y k d (sec % 86400) w (by
      have := long_short _ p1
      simp only [form2, List.length_append, List.length_cons, mon_length k hv.k1, two_length, clk_length, List.length_nil]; omega) hE hF (by omega)
    (fun j hj => by obtain rfl : j = 0 := by omega
                    exact bad12 _ _ k _ _ p1) (read2 _ _ k _ _ p1 (by omega) (by omega) hv.k1 p3 p4) (told_there hv hd)
  rwa [sum_back hd] at this
theorem parse_form3 (sec y d : Int) (k : Nat) (w : World) (hE : Env w) (hF : FM w) (hv : Valid y k d) (hd : dayOf y k d = sec / 86400) :
    Calls Tryd.prog 8 #[.string (B (form3 ((sec / 86400 + 3) % 7).toNat y.toNat k d.toNat (sec % 86400).toNat))] w
      fun e w' => e = .returned (.tuple #[.int .i64 sec, .bool true]) ∧ Below w.heap.size w w' := by
  obtain ⟨p1, p2, p3, p4⟩ := small_parts (sec := sec) hv
  have := parse_ok _ 2 _ y k d (sec % 86400) w (by
      simp only [form3, List.length_append, List.length_cons, short_length _ p1, mon_length k hv.k1, dayText_length, clk_length, four_length]; omega) hE hF (by omega)
    (fun j hj => by
      rcases (by omega : j = 0 ∨ j = 1) with rfl | rfl
      · exact bad13 _ _ k _ _ p1
      · exact bad23 _ _ k _ _ p1) (read3 _ _ k _ _ p1 p2 hv.k1 p3 p4) (told_there hv hd)
  rwa [sum_back hd] at this
end Go.Proofs.YtipooddkpbkfhaaDoor.Dt
