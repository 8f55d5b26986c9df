/-
  The closure of date.fieldReader that reads the field of a letter: what it returns, and what it stores. Conditions: as for cutNumber and cutName.
-/
import Derived.Test.YtipooddkpbkfhaaDoorField
namespace Go.Proofs.YtipooddkpbkfhaaDoor.Dt
open Go.RowKit

theorem pick_lt {s : Bs} : ∀ {names : List Bs} {j : Nat} {t : Bs}, pick s names = some (j, t) → j < names.length
  | [], _, _, h => by cases h
  | n :: r, j, t, h => by
    unfold pick at h
    split at h
    · injection h with h; injection h with h _; subst h; simp
    · cases hr : pick s r with
      | none => rw [hr] at h; cases h
      | some p =>
        rw [hr] at h
        injection h with h
        have h2 : p.1 + 1 = j := by injection h
        have := pick_lt (s := s) (names := r) (j := p.1) (t := p.2) hr
        simp; omega
theorem set_get (R : List Int) (i : Nat) (n : Int) (h : i < R.length) : (R.set i n).getD i 0 = n := by
  simp [List.getD, h]
theorem nameF_bd (i : Nat) (names : List Bs) (R : List Int) (s : Bs) (h : i < R.length) (hn : names.length ≤ 100) : 0 ≤ (nameF i names R s).2.1.getD i 0 ∧ (nameF i names R s).2.1.getD i 0 ≤ 100 := by
  unfold nameF
  cases hp : pick s names with
  | none => show 0 ≤ (R.set i 0).getD i 0 ∧ _; rw [set_get R i 0 h]; show 0 ≤ (0 : Int) ∧ (R.set i 0).getD i 0 ≤ 100; rw [set_get R i 0 h]; omega
  | some p =>
    have := pick_lt (j := p.1) (t := p.2) hp
    show 0 ≤ (R.set i (p.1 : Int)).getD i 0 ∧ (R.set i (p.1 : Int)).getD i 0 ≤ 100
    rw [set_get R i _ h]; omega
theorem numF_bd (i k : Nat) (R : List Int) (s : Bs) (h : i < R.length) (hk : k ≤ 4) : 0 ≤ (numF i k R s).2.1.getD i 0 ∧ (numF i k R s).2.1.getD i 0 ≤ 9999 := by
  unfold numF
  cases hp : cutN s k with
  | none => show 0 ≤ (R.set i 0).getD i 0 ∧ (R.set i 0).getD i 0 ≤ 9999; rw [set_get R i 0 h]; omega
  | some p =>
    show 0 ≤ (R.set i p.1).getD i 0 ∧ (R.set i p.1).getD i 0 ≤ 9999
    rw [set_get R i _ h]
    unfold cutN at hp
    split at hp
    · cases hp
    · split at hp
      · rename_i h1 h2
        injection hp with hp
        rw [← hp]
        exact numv_bd _ h2 (by simp; omega)
      · cases hp

def fullY (y : Int) : Int := if 70 ≤ y then 1900 + y else 2000 + y
def isBlank (s : Bs) : Bool := match s with
  | c :: _ => c == 32 || c == 9
  | [] => false
/-- The field of a letter. -/
def fieldF (c : UInt8) (R : List Int) (s : Bs) : Bool × List Int × Bs :=
  if c = 97 then nameF 0 shortNames R s
  else if c = 65 then nameF 0 longNames R s
  else if c = 98 then ((nameF 2 monNames R s).1, (nameF 2 monNames R s).2.1.set 2 ((nameF 2 monNames R s).2.1.getD 2 0 + 1), (nameF 2 monNames R s).2.2)
  else if c = 100 then numF 3 2 R s
  else if c = 101 then (if isBlank s = true then numF 3 1 R (s.drop 1) else numF 3 2 R s)
  else if c = 89 then numF 1 4 R s
  else if c = 121 then ((numF 1 2 R s).1, (numF 1 2 R s).2.1.set 1 (fullY ((numF 1 2 R s).2.1.getD 1 0)), (numF 1 2 R s).2.2)
  else if c = 104 then numF 4 2 R s
  else if c = 109 then numF 5 2 R s
  else numF 6 2 R s
theorem cell_heap {w w' : World} (e : w'.heap = w.heap) (a : Addr) : w'.cell? a = w.cell? a := by
  simp only [World.cell?, e]
theorem WD.heap {w w' : World} (h : WD w) (e : w'.heap = w.heap) : WD w' := fun k hk => (cell_heap e _).trans (h k hk)
theorem MN.heap {w w' : World} (h : MN w) (e : w'.heap = w.heap) : MN w' := fun k hk => (cell_heap e _).trans (h k hk)
theorem fullYear_any (y : Int) (w : World) (h0 : 0 ≤ y) (h1 : y ≤ 9999) :
    Calls Tryd.prog 46 #[.int .i64 y] w fun e w' => e = .returned (.int .i64 (fullY y)) ∧ w = w' := by
  by_cases h : 70 ≤ y
  · have HY := Lib.hid (show fullY y = 1900 + y from by unfold fullY; rw [if_pos h])
    go_enter Tryd.func46, Tryd.ntmps46
    go_wp2_with fail
    go_ret
    exact ⟨by rw [HY.out]; rfl, rfl⟩
  · have HY := Lib.hid (show fullY y = 2000 + y from by unfold fullY; rw [if_neg h])
    go_enter Tryd.func46, Tryd.ntmps46
    go_wp2_with fail
    go_ret
    exact ⟨by rw [HY.out]; rfl, rfl⟩
/-- What the closure answers. -/
abbrev Reads (w0 : World) (b : Nat) (c : UInt8) (R : List Int) (s : Bs) (w : World) : Prop :=
  Calls Tryd.prog 43 #[.int .u8 (c.toNat : Int), .pointer (some ⟨b + 6, 0, none⟩), .pointer (some ⟨b + 3, 0, none⟩), .pointer (some ⟨b + 5, 0, none⟩), .pointer (some ⟨b + 4, 0, none⟩)] w
    fun e w' => e = .returned (.bool (fieldF c R s).1) ∧ FInv w0 b (fieldF c R s).2.1 (fieldF c R s).2.2 w'

set_option maxHeartbeats 2000000 in
theorem reads_d (w0 w : World) (b : Nat) (R : List Int) (s : Bs) (h : FInv w0 b R s w) : Reads w0 b 100 R s w := by
  have c5 := cell_of_one h.fn
  have c3 := cell_of_one h.pr
  have HI := Lib.hid h
  clear h
  show Calls Tryd.prog 43 #[.int .u8 100, .pointer (some ⟨b + 6, 0, none⟩), .pointer (some ⟨b + 3, 0, none⟩), .pointer (some ⟨b + 5, 0, none⟩), .pointer (some ⟨b + 4, 0, none⟩)] w
    fun e w' => e = .returned (.bool (numF 3 2 R s).1) ∧ FInv w0 b (numF 3 2 R s).2.1 (numF 3 2 R s).2.2 w'
  go_enter Tryd.func43, Tryd.ntmps43
  go_wp2_with fail
  go_region_with (first | (go_at_call 39; refine (number_any w0 _ b 3 2 R s (by omega) (by omega) (HI.out.drawn (n := 1) rfl)).mono ?_; rintro e w' ⟨rfl, hI⟩))
  all_goals
    go_wp2_with fail
    go_ret
    exact ⟨rfl, hI⟩

set_option maxHeartbeats 2000000 in
theorem reads_Y (w0 w : World) (b : Nat) (R : List Int) (s : Bs) (h : FInv w0 b R s w) : Reads w0 b 89 R s w := by
  have c5 := cell_of_one h.fn
  have c3 := cell_of_one h.pr
  have HI := Lib.hid h
  clear h
  show Calls Tryd.prog 43 #[.int .u8 89, .pointer (some ⟨b + 6, 0, none⟩), .pointer (some ⟨b + 3, 0, none⟩), .pointer (some ⟨b + 5, 0, none⟩), .pointer (some ⟨b + 4, 0, none⟩)] w
    fun e w' => e = .returned (.bool (numF 1 4 R s).1) ∧ FInv w0 b (numF 1 4 R s).2.1 (numF 1 4 R s).2.2 w'
  go_enter Tryd.func43, Tryd.ntmps43
  go_wp2_with fail
  go_region_with (first | (go_at_call 39; refine (number_any w0 _ b 1 4 R s (by omega) (by omega) (HI.out.drawn (n := 1) rfl)).mono ?_; rintro e w' ⟨rfl, hI⟩))
  all_goals
    go_wp2_with fail
    go_ret
    exact ⟨rfl, hI⟩

set_option maxHeartbeats 2000000 in
theorem reads_h (w0 w : World) (b : Nat) (R : List Int) (s : Bs) (h : FInv w0 b R s w) : Reads w0 b 104 R s w := by
  have c5 := cell_of_one h.fn
  have c3 := cell_of_one h.pr
  have HI := Lib.hid h
  clear h
  show Calls Tryd.prog 43 #[.int .u8 104, .pointer (some ⟨b + 6, 0, none⟩), .pointer (some ⟨b + 3, 0, none⟩), .pointer (some ⟨b + 5, 0, none⟩), .pointer (some ⟨b + 4, 0, none⟩)] w
    fun e w' => e = .returned (.bool (numF 4 2 R s).1) ∧ FInv w0 b (numF 4 2 R s).2.1 (numF 4 2 R s).2.2 w'
  go_enter Tryd.func43, Tryd.ntmps43
  go_wp2_with fail
  go_region_with (first | (go_at_call 39; refine (number_any w0 _ b 4 2 R s (by omega) (by omega) (HI.out.drawn (n := 1) rfl)).mono ?_; rintro e w' ⟨rfl, hI⟩))
  all_goals
    go_wp2_with fail
    go_ret
    exact ⟨rfl, hI⟩

set_option maxHeartbeats 2000000 in
theorem reads_m (w0 w : World) (b : Nat) (R : List Int) (s : Bs) (h : FInv w0 b R s w) : Reads w0 b 109 R s w := by
  have c5 := cell_of_one h.fn
  have c3 := cell_of_one h.pr
  have HI := Lib.hid h
  clear h
  show Calls Tryd.prog 43 #[.int .u8 109, .pointer (some ⟨b + 6, 0, none⟩), .pointer (some ⟨b + 3, 0, none⟩), .pointer (some ⟨b + 5, 0, none⟩), .pointer (some ⟨b + 4, 0, none⟩)] w
    fun e w' => e = .returned (.bool (numF 5 2 R s).1) ∧ FInv w0 b (numF 5 2 R s).2.1 (numF 5 2 R s).2.2 w'
  go_enter Tryd.func43, Tryd.ntmps43
  go_wp2_with fail
  go_region_with (first | (go_at_call 39; refine (number_any w0 _ b 5 2 R s (by omega) (by omega) (HI.out.drawn (n := 1) rfl)).mono ?_; rintro e w' ⟨rfl, hI⟩))
  all_goals
    go_wp2_with fail
    go_ret
    exact ⟨rfl, hI⟩

set_option maxHeartbeats 2000000 in
theorem reads_s (w0 w : World) (b : Nat) (R : List Int) (s : Bs) (h : FInv w0 b R s w) : Reads w0 b 115 R s w := by
  have c5 := cell_of_one h.fn
  have c3 := cell_of_one h.pr
  have HI := Lib.hid h
  clear h
  show Calls Tryd.prog 43 #[.int .u8 115, .pointer (some ⟨b + 6, 0, none⟩), .pointer (some ⟨b + 3, 0, none⟩), .pointer (some ⟨b + 5, 0, none⟩), .pointer (some ⟨b + 4, 0, none⟩)] w
    fun e w' => e = .returned (.bool (numF 6 2 R s).1) ∧ FInv w0 b (numF 6 2 R s).2.1 (numF 6 2 R s).2.2 w'
  go_enter Tryd.func43, Tryd.ntmps43
  go_wp2_with fail
  go_region_with (first | (go_at_call 39; refine (number_any w0 _ b 6 2 R s (by omega) (by omega) (HI.out.drawn (n := 1) rfl)).mono ?_; rintro e w' ⟨rfl, hI⟩))
  all_goals
    go_wp2_with fail
    go_ret
    exact ⟨rfl, hI⟩

set_option maxHeartbeats 2000000 in
theorem reads_a (w0 w : World) (b : Nat) (R : List Int) (s : Bs) (hE : Env w0) (h : FInv w0 b R s w) : Reads w0 b 97 R s w := by
  have c6 := cell_of_one h.fm
  have c3 := cell_of_one h.pr
  have HI := Lib.hid h
  have hT := (hE.below h.below (by rw [h.base]; exact Nat.le_refl _)).wd
  have HC := Lib.hid (show ∀ w' : World, w'.heap = w.heap → Calls Tryd.prog 42 #[.string (B s), .int .i64 7, .func (.func 30) #[] #[]] w' (fun e w'' => e = .returned (nameRes s (pick s shortNames)) ∧ w' = w'') from fun w' e => by
    have := cutName_short (B s) w' (hT.heap e)
    rwa [B_list] at this)
  clear h hT hE
  show Calls Tryd.prog 43 #[.int .u8 97, .pointer (some ⟨b + 6, 0, none⟩), .pointer (some ⟨b + 3, 0, none⟩), .pointer (some ⟨b + 5, 0, none⟩), .pointer (some ⟨b + 4, 0, none⟩)] w
    fun e w' => e = .returned (.bool (nameF 0 shortNames R s).1) ∧ FInv w0 b (nameF 0 shortNames R s).2.1 (nameF 0 shortNames R s).2.2 w'
  go_enter Tryd.func43, Tryd.ntmps43
  go_wp2_with fail
  go_region_with (first | (go_at_call 41; refine (name_any w0 _ b 0 R s shortNames 7 _ (by omega) (HI.out.drawn (n := 1) rfl) (fun w' e => HC.out w' e)).mono ?_; rintro e w' ⟨rfl, hI⟩))
  all_goals
    go_wp2_with fail
    go_ret
    exact ⟨rfl, hI⟩

set_option maxHeartbeats 2000000 in
theorem reads_A (w0 w : World) (b : Nat) (R : List Int) (s : Bs) (hE : Env w0) (h : FInv w0 b R s w) : Reads w0 b 65 R s w := by
  have c6 := cell_of_one h.fm
  have c3 := cell_of_one h.pr
  have HI := Lib.hid h
  have hT := (hE.below h.below (by rw [h.base]; exact Nat.le_refl _)).wd
  have HC := Lib.hid (show ∀ w' : World, w'.heap = w.heap → Calls Tryd.prog 42 #[.string (B s), .int .i64 7, .func (.func 44) #[] #[]] w' (fun e w'' => e = .returned (nameRes s (pick s longNames)) ∧ w' = w'') from fun w' e => by
    have := cutName_long (B s) w' (hT.heap e)
    rwa [B_list] at this)
  clear h hT hE
  show Calls Tryd.prog 43 #[.int .u8 65, .pointer (some ⟨b + 6, 0, none⟩), .pointer (some ⟨b + 3, 0, none⟩), .pointer (some ⟨b + 5, 0, none⟩), .pointer (some ⟨b + 4, 0, none⟩)] w
    fun e w' => e = .returned (.bool (nameF 0 longNames R s).1) ∧ FInv w0 b (nameF 0 longNames R s).2.1 (nameF 0 longNames R s).2.2 w'
  go_enter Tryd.func43, Tryd.ntmps43
  go_wp2_with fail
  go_region_with (first | (go_at_call 41; refine (name_any w0 _ b 0 R s longNames 7 _ (by omega) (HI.out.drawn (n := 1) rfl) (fun w' e => HC.out w' e)).mono ?_; rintro e w' ⟨rfl, hI⟩))
  all_goals
    go_wp2_with fail
    go_ret
    exact ⟨rfl, hI⟩

set_option maxHeartbeats 2000000 in
theorem reads_b (w0 w : World) (b : Nat) (R : List Int) (s : Bs) (hE : Env w0) (h : FInv w0 b R s w) : Reads w0 b 98 R s w := by
  have c6 := cell_of_one h.fm
  have c3 := cell_of_one h.pr
  have HI := Lib.hid h
  have hT := (hE.below h.below (by rw [h.base]; exact Nat.le_refl _)).mn
  have HC := Lib.hid (show ∀ w' : World, w'.heap = w.heap → Calls Tryd.prog 42 #[.string (B s), .int .i64 12, .func (.func 32) #[] #[]] w' (fun e w'' => e = .returned (nameRes s (pick s monNames)) ∧ w' = w'') from fun w' e => by
    have := cutName_month (B s) w' (hT.heap e)
    rwa [B_list] at this)
  have hbd := nameF_bd 2 monNames R s (by rw [h.len]; omega) (by decide)
  obtain ⟨x, hx⟩ : ∃ x, x = (nameF 2 monNames R s).2.1.getD 2 0 := ⟨_, rfl⟩
  rw [← hx] at hbd
  have HX := Lib.hid hx
  clear h hT hE hx
  show Calls Tryd.prog 43 #[.int .u8 98, .pointer (some ⟨b + 6, 0, none⟩), .pointer (some ⟨b + 3, 0, none⟩), .pointer (some ⟨b + 5, 0, none⟩), .pointer (some ⟨b + 4, 0, none⟩)] w
    fun e w' => e = .returned (.bool (nameF 2 monNames R s).1) ∧ FInv w0 b ((nameF 2 monNames R s).2.1.set 2 ((nameF 2 monNames R s).2.1.getD 2 0 + 1)) (nameF 2 monNames R s).2.2 w'
  rw [← HX.out]
  go_enter Tryd.func43, Tryd.ntmps43
  go_wp2_with fail
  go_region_with (first | (go_at_call 41; refine (name_any w0 _ b 2 R s monNames 12 _ (by omega) (HI.out.drawn (n := 1) rfl) (fun w' e => HC.out w' e)).mono ?_; rintro e w' ⟨rfl, hI⟩))
  all_goals
    have d3 := cell_of_one hI.pr
    have dR := ints_at hI.vr 2 (by rw [hI.len]; omega)
    have gR := ints_free hI.vr 2
    rw [← HX.out] at dR
    have HJ := Lib.hid (hI.setR 2 (x + 1))
    clear hI
    go_wp2_with fail
    go_ret
    exact ⟨rfl, HJ.out⟩

set_option maxHeartbeats 2000000 in
theorem reads_y (w0 w : World) (b : Nat) (R : List Int) (s : Bs) (h : FInv w0 b R s w) : Reads w0 b 121 R s w := by
  have c5 := cell_of_one h.fn
  have c3 := cell_of_one h.pr
  have HI := Lib.hid h
  have hbd := numF_bd 1 2 R s (by rw [h.len]; omega) (by omega)
  obtain ⟨x, hx⟩ : ∃ x, x = (numF 1 2 R s).2.1.getD 1 0 := ⟨_, rfl⟩
  rw [← hx] at hbd
  have HX := Lib.hid hx
  clear h hx
  show Calls Tryd.prog 43 #[.int .u8 121, .pointer (some ⟨b + 6, 0, none⟩), .pointer (some ⟨b + 3, 0, none⟩), .pointer (some ⟨b + 5, 0, none⟩), .pointer (some ⟨b + 4, 0, none⟩)] w
    fun e w' => e = .returned (.bool (numF 1 2 R s).1) ∧ FInv w0 b ((numF 1 2 R s).2.1.set 1 (fullY ((numF 1 2 R s).2.1.getD 1 0))) (numF 1 2 R s).2.2 w'
  rw [← HX.out]
  go_enter Tryd.func43, Tryd.ntmps43
  go_wp2_with fail
  go_region_with (first | (go_at_call 39; refine (number_any w0 _ b 1 2 R s (by omega) (by omega) (HI.out.drawn (n := 1) rfl)).mono ?_; rintro e w' ⟨rfl, hI⟩))
  all_goals
    have d3 := cell_of_one hI.pr
    have dR := ints_at hI.vr 1 (by rw [hI.len]; omega)
    have gR := ints_free hI.vr 1
    rw [← HX.out] at dR
    have HJ := Lib.hid (hI.setR 1 (fullY x))
    clear hI
    go_wp2_with fail
    go_region_with (first | (go_at_call 46; refine (fullYear_any x _ (by omega) (by omega)).mono ?_; rintro e w'' ⟨rfl, rfl⟩))
    all_goals
      go_wp2_with fail
      go_ret
      exact ⟨rfl, HJ.out.drawn (n := 1) rfl⟩

end Go.Proofs.YtipooddkpbkfhaaDoor.Dt
