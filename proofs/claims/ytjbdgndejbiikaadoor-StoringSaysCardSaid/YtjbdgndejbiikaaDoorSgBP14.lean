/-
  Texts that the laws' proofs stand on, 3 of them in one file; each one's head says what it proves and under which condition.
-/
import Derived.Test.YtjbdgndejbiikaaDoorSgBP13
import Derived.BigRegion
import Derived.Laws.EntriesVeiled
/-
  The closure of date.fieldReader that reads the field of a letter: what it returns, and what it stores. Conditions: as for cutNumber and cutName.
-/
namespace Go.Proofs.YtjbdgndejbiikaaDoor.Dp
open Go.RowKit Go.Proofs.YtjbdgndejbiikaaDoor.Dt
set_option linter.unusedVariables false

theorem pick_lt {s : Bs} : ∀ {names : List Bs} {j : Nat} {t : Bs}, pick s names = some (j, t) → j < names.length
  | [], _, _, h => by cases h
  | n :: r, j, t, h => by
    unfold pick at h
    split at h
    · injection h with h; injection h with h _; subst h; simp
    · cases hr : pick s r with
      | none => rw [hr] at h; cases h
      | some p =>
        rw [hr] at h
        injection h with h
        have h2 : p.1 + 1 = j := by injection h
        have := pick_lt (s := s) (names := r) (j := p.1) (t := p.2) hr
        simp; omega
theorem set_get (R : List Int) (i : Nat) (n : Int) (h : i < R.length) : (R.set i n).getD i 0 = n := by
  simp [List.getD, h]
theorem nameF_bd (i : Nat) (names : List Bs) (R : List Int) (s : Bs) (h : i < R.length) (hn : names.length ≤ 100) : 0 ≤ (nameF i names R s).2.1.getD i 0 ∧ (nameF i names R s).2.1.getD i 0 ≤ 100 := by
  unfold nameF
  cases hp : pick s names with
  | none => show 0 ≤ (R.set i 0).getD i 0 ∧ _; rw [set_get R i 0 h]; show 0 ≤ (0 : Int) ∧ (R.set i 0).getD i 0 ≤ 100; rw [set_get R i 0 h]; omega
  | some p =>
    have := pick_lt (j := p.1) (t := p.2) hp
    show 0 ≤ (R.set i (p.1 : Int)).getD i 0 ∧ (R.set i (p.1 : Int)).getD i 0 ≤ 100
    rw [set_get R i _ h]; omega
theorem numF_bd (i k : Nat) (R : List Int) (s : Bs) (h : i < R.length) (hk : k ≤ 4) : 0 ≤ (numF i k R s).2.1.getD i 0 ∧ (numF i k R s).2.1.getD i 0 ≤ 9999 := by
  unfold numF
  cases hp : cutN s k with
  | none => show 0 ≤ (R.set i 0).getD i 0 ∧ (R.set i 0).getD i 0 ≤ 9999; rw [set_get R i 0 h]; omega
  | some p =>
    show 0 ≤ (R.set i p.1).getD i 0 ∧ (R.set i p.1).getD i 0 ≤ 9999
    rw [set_get R i _ h]
    unfold cutN at hp
    split at hp
    · cases hp
    · split at hp
      · rename_i h1 h2
        injection hp with hp
        rw [← hp]
        exact numv_bd _ h2 (by simp; omega)
      · cases hp
def fullY (y : Int) : Int := if 70 ≤ y then 1900 + y else 2000 + y
def isBlank (s : Bs) : Bool := match s with
  | c :: _ => c == 32 || c == 9
  | [] => false
/-- The field of a letter. -/
def fieldF (c : UInt8) (R : List Int) (s : Bs) : Bool × List Int × Bs :=
  if c = 97 then nameF 0 shortNames R s
  else if c = 65 then nameF 0 longNames R s
  else if c = 98 then ((nameF 2 monNames R s).1, (nameF 2 monNames R s).2.1.set 2 ((nameF 2 monNames R s).2.1.getD 2 0 + 1), (nameF 2 monNames R s).2.2)
  else if c = 100 then numF 3 2 R s
  else if c = 101 then (if isBlank s = true then numF 3 1 R (s.drop 1) else numF 3 2 R s)
  else if c = 89 then numF 1 4 R s
  else if c = 121 then ((numF 1 2 R s).1, (numF 1 2 R s).2.1.set 1 (fullY ((numF 1 2 R s).2.1.getD 1 0)), (numF 1 2 R s).2.2)
  else if c = 104 then numF 4 2 R s
  else if c = 109 then numF 5 2 R s
  else numF 6 2 R s
theorem cell_heap {w w' : World} (e : w'.heap = w.heap) (a : Addr) : w'.cell? a = w.cell? a := by
  simp only [World.cell?, e]
theorem WD.heap {w w' : World} (h : WD w) (e : w'.heap = w.heap) : WD w' := fun k hk => (cell_heap e _).trans (h k hk)
theorem MN.heap {w w' : World} (h : MN w) (e : w'.heap = w.heap) : MN w' := fun k hk => (cell_heap e _).trans (h k hk)
theorem fullYear_any (y : Int) (w : World) (h0 : 0 ≤ y) (h1 : y ≤ 9999) :
    Calls Tryd.prog 81 #[.int .i64 y] w fun e w' => e = .returned (.int .i64 (fullY y)) ∧ w = w' := by
  by_cases h : 70 ≤ y
  · have HY := Lib.hid (show fullY y = 1900 + y from by unfold fullY; rw [if_pos h])
    go_enter Tryd.func81, Tryd.ntmps81
    go_wp2_with fail
    go_ret
    exact ⟨by rw [HY.out]; rfl, rfl⟩
  · have HY := Lib.hid (show fullY y = 2000 + y from by unfold fullY; rw [if_neg h])
    go_enter Tryd.func81, Tryd.ntmps81
    go_wp2_with fail
    go_ret
    exact ⟨by rw [HY.out]; rfl, rfl⟩
/-- What the closure answers. -/
abbrev Reads (w0 : World) (b : Nat) (c : UInt8) (R : List Int) (s : Bs) (w : World) : Prop :=
  Calls Tryd.prog 76 #[.int .u8 (c.toNat : Int), .pointer (some ⟨b + 6, 0, none⟩), .pointer (some ⟨b + 3, 0, none⟩), .pointer (some ⟨b + 5, 0, none⟩), .pointer (some ⟨b + 4, 0, none⟩)] w
    fun e w' => e = .returned (.bool (fieldF c R s).1) ∧ FInv w0 b (fieldF c R s).2.1 (fieldF c R s).2.2 w'
set_option maxHeartbeats 2000000 in
theorem reads_d (w0 w : World) (b : Nat) (R : List Int) (s : Bs) (h : FInv w0 b R s w) : Reads w0 b 100 R s w := by
  have c5 := cell_of_one h.fn
  have c3 := cell_of_one h.pr
  have HI := Lib.hid h
  clear h
  show Calls Tryd.prog 76 #[.int .u8 100, .pointer (some ⟨b + 6, 0, none⟩), .pointer (some ⟨b + 3, 0, none⟩), .pointer (some ⟨b + 5, 0, none⟩), .pointer (some ⟨b + 4, 0, none⟩)] w
    fun e w' => e = .returned (.bool (numF 3 2 R s).1) ∧ FInv w0 b (numF 3 2 R s).2.1 (numF 3 2 R s).2.2 w'
  go_enter Tryd.func76, Tryd.ntmps76
  go_wp2_with fail
  go_region_with (first | (go_at_call 72; refine (number_any w0 _ b 3 2 R s (by omega) (by omega) (HI.out.drawn (n := 1) rfl)).mono ?_; rintro e w' ⟨rfl, hI⟩))
  all_goals
    go_wp2_with fail
    go_ret
    exact ⟨rfl, hI⟩
set_option maxHeartbeats 2000000 in
theorem reads_Y (w0 w : World) (b : Nat) (R : List Int) (s : Bs) (h : FInv w0 b R s w) : Reads w0 b 89 R s w := by
  have c5 := cell_of_one h.fn
  have c3 := cell_of_one h.pr
  have HI := Lib.hid h
  clear h
  show Calls Tryd.prog 76 #[.int .u8 89, .pointer (some ⟨b + 6, 0, none⟩), .pointer (some ⟨b + 3, 0, none⟩), .pointer (some ⟨b + 5, 0, none⟩), .pointer (some ⟨b + 4, 0, none⟩)] w
    fun e w' => e = .returned (.bool (numF 1 4 R s).1) ∧ FInv w0 b (numF 1 4 R s).2.1 (numF 1 4 R s).2.2 w'
  go_enter Tryd.func76, Tryd.ntmps76
  go_wp2_with fail
  go_region_with (first | (go_at_call 72; refine (number_any w0 _ b 1 4 R s (by omega) (by omega) (HI.out.drawn (n := 1) rfl)).mono ?_; rintro e w' ⟨rfl, hI⟩))
  all_goals
    go_wp2_with fail
    go_ret
    exact ⟨rfl, hI⟩
set_option maxHeartbeats 2000000 in
theorem reads_h (w0 w : World) (b : Nat) (R : List Int) (s : Bs) (h : FInv w0 b R s w) : Reads w0 b 104 R s w := by
  have c5 := cell_of_one h.fn
  have c3 := cell_of_one h.pr
  have HI := Lib.hid h
  clear h
  show Calls Tryd.prog 76 #[.int .u8 104, .pointer (some ⟨b + 6, 0, none⟩), .pointer (some ⟨b + 3, 0, none⟩), .pointer (some ⟨b + 5, 0, none⟩), .pointer (some ⟨b + 4, 0, none⟩)] w
    fun e w' => e = .returned (.bool (numF 4 2 R s).1) ∧ FInv w0 b (numF 4 2 R s).2.1 (numF 4 2 R s).2.2 w'
  go_enter Tryd.func76, Tryd.ntmps76
  go_wp2_with fail
  go_region_with (first | (go_at_call 72; refine (number_any w0 _ b 4 2 R s (by omega) (by omega) (HI.out.drawn (n := 1) rfl)).mono ?_; rintro e w' ⟨rfl, hI⟩))
  all_goals
    go_wp2_with fail
    go_ret
    exact ⟨rfl, hI⟩
set_option maxHeartbeats 2000000 in
theorem reads_m (w0 w : World) (b : Nat) (R : List Int) (s : Bs) (h : FInv w0 b R s w) : Reads w0 b 109 R s w := by
  have c5 := cell_of_one h.fn
  have c3 := cell_of_one h.pr
  have HI := Lib.hid h
  clear h
  show Calls Tryd.prog 76 #[.int .u8 109, .pointer (some ⟨b + 6, 0, none⟩), .pointer (some ⟨b + 3, 0, none⟩), .pointer (some ⟨b + 5, 0, none⟩), .pointer (some ⟨b + 4, 0, none⟩)] w
    fun e w' => e = .returned (.bool (numF 5 2 R s).1) ∧ FInv w0 b (numF 5 2 R s).2.1 (numF 5 2 R s).2.2 w'
  go_enter Tryd.func76, Tryd.ntmps76
  go_wp2_with fail
  go_region_with (first | (go_at_call 72; refine (number_any w0 _ b 5 2 R s (by omega) (by omega) (HI.out.drawn (n := 1) rfl)).mono ?_; rintro e w' ⟨rfl, hI⟩))
  all_goals
    go_wp2_with fail
    go_ret
    exact ⟨rfl, hI⟩
set_option maxHeartbeats 2000000 in
theorem reads_s (w0 w : World) (b : Nat) (R : List Int) (s : Bs) (h : FInv w0 b R s w) : Reads w0 b 115 R s w := by
  have c5 := cell_of_one h.fn
  have c3 := cell_of_one h.pr
  have HI := Lib.hid h
  clear h
  show Calls Tryd.prog 76 #[.int .u8 115, .pointer (some ⟨b + 6, 0, none⟩), .pointer (some ⟨b + 3, 0, none⟩), .pointer (some ⟨b + 5, 0, none⟩), .pointer (some ⟨b + 4, 0, none⟩)] w
    fun e w' => e = .returned (.bool (numF 6 2 R s).1) ∧ FInv w0 b (numF 6 2 R s).2.1 (numF 6 2 R s).2.2 w'
  go_enter Tryd.func76, Tryd.ntmps76
  go_wp2_with fail
  go_region_with (first | (go_at_call 72; refine (number_any w0 _ b 6 2 R s (by omega) (by omega) (HI.out.drawn (n := 1) rfl)).mono ?_; rintro e w' ⟨rfl, hI⟩))
  all_goals
    go_wp2_with fail
    go_ret
    exact ⟨rfl, hI⟩
set_option maxHeartbeats 2000000 in
theorem reads_a (w0 w : World) (b : Nat) (R : List Int) (s : Bs) (hE : Env w0) (h : FInv w0 b R s w) : Reads w0 b 97 R s w := by
  have c6 := cell_of_one h.fm
  have c3 := cell_of_one h.pr
  have HI := Lib.hid h
  have hT := (hE.below h.below (by rw [h.base]; exact Nat.le_refl _)).wd
  have HC := Lib.hid (show ∀ w' : World, w'.heap = w.heap → Calls Tryd.prog 75 #[.string (B s), .int .i64 7, .func (.func 77) #[] #[]] w' (fun e w'' => e = .returned (nameRes s (pick s shortNames)) ∧ w' = w'') from fun w' e => by
    have := cutName_short (B s) w' (hT.heap e)
    rwa [B_list] at this)
  clear h hT hE
  show Calls Tryd.prog 76 #[.int .u8 97, .pointer (some ⟨b + 6, 0, none⟩), .pointer (some ⟨b + 3, 0, none⟩), .pointer (some ⟨b + 5, 0, none⟩), .pointer (some ⟨b + 4, 0, none⟩)] w
    fun e w' => e = .returned (.bool (nameF 0 shortNames R s).1) ∧ FInv w0 b (nameF 0 shortNames R s).2.1 (nameF 0 shortNames R s).2.2 w'
  go_enter Tryd.func76, Tryd.ntmps76
  go_wp2_with fail
  go_region_with (first | (go_at_call 74; refine (name_any w0 _ b 0 R s shortNames 7 _ (by omega) (HI.out.drawn (n := 1) rfl) (fun w' e => HC.out w' e)).mono ?_; rintro e w' ⟨rfl, hI⟩))
  all_goals
    go_wp2_with fail
    go_ret
    exact ⟨rfl, hI⟩
set_option maxHeartbeats 2000000 in
theorem reads_A (w0 w : World) (b : Nat) (R : List Int) (s : Bs) (hE : Env w0) (h : FInv w0 b R s w) : Reads w0 b 65 R s w := by
  have c6 := cell_of_one h.fm
  have c3 := cell_of_one h.pr
  have HI := Lib.hid h
  have hT := (hE.below h.below (by rw [h.base]; exact Nat.le_refl _)).wd
  have HC := Lib.hid (show ∀ w' : World, w'.heap = w.heap → Calls Tryd.prog 75 #[.string (B s), .int .i64 7, .func (.func 78) #[] #[]] w' (fun e w'' => e = .returned (nameRes s (pick s longNames)) ∧ w' = w'') from fun w' e => by
    have := cutName_long (B s) w' (hT.heap e)
    rwa [B_list] at this)
  clear h hT hE
  show Calls Tryd.prog 76 #[.int .u8 65, .pointer (some ⟨b + 6, 0, none⟩), .pointer (some ⟨b + 3, 0, none⟩), .pointer (some ⟨b + 5, 0, none⟩), .pointer (some ⟨b + 4, 0, none⟩)] w
    fun e w' => e = .returned (.bool (nameF 0 longNames R s).1) ∧ FInv w0 b (nameF 0 longNames R s).2.1 (nameF 0 longNames R s).2.2 w'
  go_enter Tryd.func76, Tryd.ntmps76
  go_wp2_with fail
  go_region_with (first | (go_at_call 74; refine (name_any w0 _ b 0 R s longNames 7 _ (by omega) (HI.out.drawn (n := 1) rfl) (fun w' e => HC.out w' e)).mono ?_; rintro e w' ⟨rfl, hI⟩))
  all_goals
    go_wp2_with fail
    go_ret
    exact ⟨rfl, hI⟩
set_option maxHeartbeats 2000000 in
theorem reads_b (w0 w : World) (b : Nat) (R : List Int) (s : Bs) (hE : Env w0) (h : FInv w0 b R s w) : Reads w0 b 98 R s w := by
  have c6 := cell_of_one h.fm
  have c3 := cell_of_one h.pr
  have HI := Lib.hid h
  have hT := (hE.below h.below (by rw [h.base]; exact Nat.le_refl _)).mn
  have HC := Lib.hid (show ∀ w' : World, w'.heap = w.heap → Calls Tryd.prog 75 #[.string (B s), .int .i64 12, .func (.func 79) #[] #[]] w' (fun e w'' => e = .returned (nameRes s (pick s monNames)) ∧ w' = w'') from fun w' e => by
    have := cutName_month (B s) w' (hT.heap e)
    rwa [B_list] at this)
  have hbd := nameF_bd 2 monNames R s (by rw [h.len]; omega) (by decide)
  obtain ⟨x, hx⟩ : ∃ x, x = (nameF 2 monNames R s).2.1.getD 2 0 := ⟨_, rfl⟩
  rw [← hx] at hbd
  have HX := Lib.hid hx
  clear h hT hE hx
  show Calls Tryd.prog 76 #[.int .u8 98, .pointer (some ⟨b + 6, 0, none⟩), .pointer (some ⟨b + 3, 0, none⟩), .pointer (some ⟨b + 5, 0, none⟩), .pointer (some ⟨b + 4, 0, none⟩)] w
    fun e w' => e = .returned (.bool (nameF 2 monNames R s).1) ∧ FInv w0 b ((nameF 2 monNames R s).2.1.set 2 ((nameF 2 monNames R s).2.1.getD 2 0 + 1)) (nameF 2 monNames R s).2.2 w'
  rw [← HX.out]
  go_enter Tryd.func76, Tryd.ntmps76
  go_wp2_with fail
  go_region_with (first | (go_at_call 74; refine (name_any w0 _ b 2 R s monNames 12 _ (by omega) (HI.out.drawn (n := 1) rfl) (fun w' e => HC.out w' e)).mono ?_; rintro e w' ⟨rfl, hI⟩))
  all_goals
    have d3 := cell_of_one hI.pr
    have dR := ints_at hI.vr 2 (by rw [hI.len]; omega)
    have gR := ints_free hI.vr 2
    rw [← HX.out] at dR
    have HJ := Lib.hid (hI.setR 2 (x + 1))
    clear hI
    go_wp2_with fail
    go_ret
    exact ⟨rfl, HJ.out⟩
set_option maxHeartbeats 2000000 in
theorem reads_y (w0 w : World) (b : Nat) (R : List Int) (s : Bs) (h : FInv w0 b R s w) : Reads w0 b 121 R s w := by
  have c5 := cell_of_one h.fn
  have c3 := cell_of_one h.pr
  have HI := Lib.hid h
  have hbd := numF_bd 1 2 R s (by rw [h.len]; omega) (by omega)
  obtain ⟨x, hx⟩ : ∃ x, x = (numF 1 2 R s).2.1.getD 1 0 := ⟨_, rfl⟩
  rw [← hx] at hbd
  have HX := Lib.hid hx
  clear h hx
  show Calls Tryd.prog 76 #[.int .u8 121, .pointer (some ⟨b + 6, 0, none⟩), .pointer (some ⟨b + 3, 0, none⟩), .pointer (some ⟨b + 5, 0, none⟩), .pointer (some ⟨b + 4, 0, none⟩)] w
    fun e w' => e = .returned (.bool (numF 1 2 R s).1) ∧ FInv w0 b ((numF 1 2 R s).2.1.set 1 (fullY ((numF 1 2 R s).2.1.getD 1 0))) (numF 1 2 R s).2.2 w'
  rw [← HX.out]
  go_enter Tryd.func76, Tryd.ntmps76
  go_wp2_with fail
  go_region_with (first | (go_at_call 72; refine (number_any w0 _ b 1 2 R s (by omega) (by omega) (HI.out.drawn (n := 1) rfl)).mono ?_; rintro e w' ⟨rfl, hI⟩))
  all_goals
    have d3 := cell_of_one hI.pr
    have dR := ints_at hI.vr 1 (by rw [hI.len]; omega)
    have gR := ints_free hI.vr 1
    rw [← HX.out] at dR
    have HJ := Lib.hid (hI.setR 1 (fullY x))
    clear hI
    go_wp2_with fail
    go_region_with (first | (go_at_call 81; refine (fullYear_any x _ (by omega) (by omega)).mono ?_; rintro e w'' ⟨rfl, rfl⟩))
    all_goals
      go_wp2_with fail
      go_ret
      exact ⟨rfl, HJ.out.drawn (n := 1) rfl⟩
end Go.Proofs.YtjbdgndejbiikaaDoor.Dp
/-
  The closure of date.fieldReader at the letter e (a day of two digits, or a blank and one digit), and at whatever letter the forms have. Conditions: as for cutNumber and cutName.
-/
namespace Go.Proofs.YtjbdgndejbiikaaDoor.Dp
open Go.RowKit Go.Proofs.YtjbdgndejbiikaaDoor.Dt
set_option linter.unusedVariables false

theorem blank_any (c : UInt8) (w : World) :
    Calls Tryd.prog 80 #[.int .u8 (c.toNat : Int)] w fun e w' => e = .returned (.bool (c == 32 || c == 9)) ∧ w = w' := by
  by_cases h : c = 32
  · subst h
    go_enter Tryd.func80, Tryd.ntmps80
    go_wp2_with fail
    go_ret
    exact ⟨rfl, rfl⟩
  · by_cases h' : c = 9
    · subst h'
      go_enter Tryd.func80, Tryd.ntmps80
      go_wp2_with fail
      go_ret
      exact ⟨rfl, rfl⟩
    · have t1 : ((c.toNat : Int) == 32) = false := beq_eq_false_iff_ne.2 (by intro e; apply h; apply UInt8.toNat.inj; simpa using (by omega : c.toNat = 32))
      have t2 : ((c.toNat : Int) == 9) = false := beq_eq_false_iff_ne.2 (by intro e; apply h'; apply UInt8.toNat.inj; simpa using (by omega : c.toNat = 9))
      have HB := Lib.hid (show (c == 32 || c == 9) = false from by simp [h, h'])
      clear h h'
      go_enter Tryd.func80, Tryd.ntmps80
      go_wp2_with fail
      go_ret
      exact ⟨by rw [HB.out]; rfl, rfl⟩
theorem text_empty {s : ByteArray} (h : s.size = 0) : s.toList = [] := by
  rw [ByteArray.toList_eq, ← List.length_eq_zero_iff]; simpa using h
theorem text_full {s : ByteArray} (h : 0 < s.size) : s.toList.isEmpty = false := by
  rw [ByteArray.toList_eq]
  cases hl : s.data.toList with
  | nil => have h1 : s.data.toList.length = 0 := by rw [hl]; rfl
           rw [Array.length_toList] at h1
           have h2 : s.size = s.data.size := rfl
           omega
  | cons => rfl
abbrev ReadsE (w0 : World) (b : Nat) (X : Bool × List Int × Bs) (w : World) : Prop :=
  Calls Tryd.prog 76 #[.int .u8 101, .pointer (some ⟨b + 6, 0, none⟩), .pointer (some ⟨b + 3, 0, none⟩), .pointer (some ⟨b + 5, 0, none⟩), .pointer (some ⟨b + 4, 0, none⟩)] w
    fun e w' => e = .returned (.bool X.1) ∧ FInv w0 b X.2.1 X.2.2 w'
set_option maxHeartbeats 2000000 in
theorem reads_e0 (w0 w : World) (b : Nat) (R : List Int) (h : FInv w0 b R [] w) : ReadsE w0 b (numF 3 2 R []) w := by
  have c5 := cell_of_one h.fn
  have c3 := cell_of_one h.pr
  have c4 := cell_of_one h.ps
  have c0 := cell_of_one h.vs
  have HI := Lib.hid h
  obtain ⟨S, hS⟩ : ∃ S, S = B [] := ⟨_, rfl⟩
  have he := text_empty (s := S) (by rw [hS, B_size]; rfl)
  rw [← hS] at c0
  clear h hS
  go_enter Tryd.func76, Tryd.ntmps76
  go_wp2_with fail
  go_region_with (first | (go_at_call 72; refine (number_any w0 _ b 3 2 R [] (by omega) (by omega) (HI.out.drawn (n := 1) rfl)).mono ?_; rintro e w' ⟨rfl, hI⟩))
  all_goals
    go_wp2_with fail
    go_ret
    exact ⟨rfl, hI⟩
set_option maxHeartbeats 2000000 in
theorem reads_e1 (w0 w : World) (b : Nat) (R : List Int) (c : UInt8) (t : Bs) (hb : (c == 32 || c == 9) = false) (h : FInv w0 b R (c :: t) w) : ReadsE w0 b (numF 3 2 R (c :: t)) w := by
  have c5 := cell_of_one h.fn
  have c3 := cell_of_one h.pr
  have c4 := cell_of_one h.ps
  have c0 := cell_of_one h.vs
  have HI := Lib.hid h
  obtain ⟨S, hS⟩ : ∃ S, S = B (c :: t) := ⟨_, rfl⟩
  have hsz : S.size = t.length + 1 := by rw [hS, B_size]; rfl
  have he := text_full (s := S) (by omega)
  have h0 : S[0]'(by omega) = c := by subst hS; rfl
  have hpos : 0 < S.size := by omega
  rw [← hS] at c0
  have HB := Lib.hid hb
  clear h hS hb
  go_enter Tryd.func76, Tryd.ntmps76
  go_wp2_with fail
  refine (blank_any c _).mono ?_
  rintro e w' ⟨rfl, rfl⟩
  rw [HB.out]
  go_wp2_with fail
  go_region_with (first | (go_at_call 72; refine (number_any w0 _ b 3 2 R (c :: t) (by omega) (by omega) (HI.out.drawn (n := 1) rfl)).mono ?_; rintro e w' ⟨rfl, hI⟩))
  all_goals
    go_wp2_with fail
    go_ret
    exact ⟨rfl, hI⟩
set_option maxHeartbeats 2000000 in
theorem reads_e2 (w0 w : World) (b : Nat) (R : List Int) (c : UInt8) (t : Bs) (hb : (c == 32 || c == 9) = true) (h : FInv w0 b R (c :: t) w) : ReadsE w0 b (numF 3 1 R t) w := by
  have c5 := cell_of_one h.fn
  have c3 := cell_of_one h.pr
  have c4 := cell_of_one h.ps
  have c0 := cell_of_one h.vs
  have f0 := free_of_one h.vs
  have HI := Lib.hid (h.setS t (by simp))
  obtain ⟨S, hS⟩ : ∃ S, S = B (c :: t) := ⟨_, rfl⟩
  have hsz : S.size = t.length + 1 := by rw [hS, B_size]; rfl
  have he := text_full (s := S) (by omega)
  have h0 : S[0]'(by omega) = c := by subst hS; rfl
  have hpos : 0 < S.size := by omega
  have hpos1 : (1 : Int) ≤ (S.size : Int) := by omega
  obtain ⟨T, hT⟩ : ∃ T, T = B t := ⟨_, rfl⟩
  have hx : S.extract 1 S.size = T := by rw [B_drop, hS, B_list, hT]; rfl
  have hx' : S.extract 1 (t.length + 1) = T := by rw [← hsz]; exact hx
  rw [← hS] at c0
  rw [← hT] at HI
  have HB := Lib.hid hb
  have e5 : b ≠ b + 5 := by omega
  have e3 : b ≠ b + 3 := by omega
  clear h hS hb hT
  go_enter Tryd.func76, Tryd.ntmps76
  go_wp2_with fail
  refine (blank_any c _).mono ?_
  rintro e w' ⟨rfl, rfl⟩
  rw [HB.out]
  go_wp2_with fail
  go_region
  have hJ := HI.out.drawn (n := 1) (w' := (w.setCell ⟨b, 0, none⟩ (.string T)).drew) rfl
  clear HI
  generalize (w.setCell ⟨b, 0, none⟩ (.string T)).drew = wq at hJ ⊢
  have d5 := cell_of_one hJ.fn
  have d3 := cell_of_one hJ.pr
  have HJ := Lib.hid hJ
  clear hJ c5 c3 c4 c0 f0
  go_wp2_with fail
  go_region_with (first | (go_at_call 72; refine (number_any w0 _ b 3 1 R t (by omega) (by omega) (HJ.out.drawn (n := 1) rfl)).mono ?_; rintro e w' ⟨rfl, hI⟩))
  all_goals
    go_wp2_with fail
    go_ret
    exact ⟨rfl, hI⟩
theorem reads_e (w0 w : World) (b : Nat) (R : List Int) (s : Bs) (h : FInv w0 b R s w) : Reads w0 b 101 R s w := by
  have e : fieldF 101 R s = if isBlank s = true then numF 3 1 R (s.drop 1) else numF 3 2 R s := rfl
  show Calls Tryd.prog 76 #[.int .u8 101, .pointer (some ⟨b + 6, 0, none⟩), .pointer (some ⟨b + 3, 0, none⟩), .pointer (some ⟨b + 5, 0, none⟩), .pointer (some ⟨b + 4, 0, none⟩)] w
    fun e w' => e = .returned (.bool (fieldF 101 R s).1) ∧ FInv w0 b (fieldF 101 R s).2.1 (fieldF 101 R s).2.2 w'
  rw [e]
  match s, h with
  | [], h => rw [if_neg (by simp [isBlank])]; exact reads_e0 w0 w b R h
  | c :: t, h =>
    cases hb : (c == 32 || c == 9) with
    | true => rw [if_pos (by simpa [isBlank] using hb)]; exact reads_e2 w0 w b R c t hb h
    | false => rw [if_neg (by simpa [isBlank] using hb)]; exact reads_e1 w0 w b R c t hb h
/-- The letters of the forms. -/
def letters : Bs := [97, 65, 98, 100, 101, 89, 121, 104, 109, 115]
theorem reads_any (w0 w : World) (b : Nat) (c : UInt8) (R : List Int) (s : Bs) (hc : c ∈ letters) (hE : Env w0) (h : FInv w0 b R s w) : Reads w0 b c R s w := by
  simp only [letters, List.mem_cons, List.not_mem_nil, or_false] at hc
  rcases hc with rfl | rfl | rfl | rfl | rfl | rfl | rfl | rfl | rfl | rfl
  · exact reads_a w0 w b R s hE h
  · exact reads_A w0 w b R s hE h
  · exact reads_b w0 w b R s hE h
  · exact reads_d w0 w b R s h
  · exact reads_e w0 w b R s h
  · exact reads_Y w0 w b R s h
  · exact reads_y w0 w b R s h
  · exact reads_h w0 w b R s h
  · exact reads_m w0 w b R s h
  · exact reads_s w0 w b R s h
end Go.Proofs.YtjbdgndejbiikaaDoor.Dp
/-
  How a text is read by a form: a plain function on bytes; and date.fieldReader: what it lays. No condition.
-/
namespace Go.Proofs.YtjbdgndejbiikaaDoor.Dp
open Go.RowKit Go.Proofs.YtjbdgndejbiikaaDoor.Dt
set_option linter.unusedVariables false

def zeros : List Int := [0, 0, 0, 0, 0, 0, 0]
def readF : Bs → List Int → Bs → Bool × List Int
  | [], R, s => (s.isEmpty, R)
  | [c], R, s => if c = 37 then (false, zeros) else match s with
    | [] => (false, zeros)
    | x :: t => if x = c then (t.isEmpty, R) else (false, zeros)
  | c :: l :: f, R, s => if c = 37 then (if (fieldF l R s).1 = true then readF f (fieldF l R s).2.1 (fieldF l R s).2.2 else (false, zeros)) else match s with
    | [] => (false, zeros)
    | x :: t => if x = c then readF (l :: f) R t else (false, zeros)
def okForm : Bs → Bool
  | [] => true
  | [c] => c != 37
  | c :: l :: f => if c = 37 then letters.contains l && okForm f else okForm (l :: f)
theorem readF_field {l : UInt8} {f : Bs} (R : List Int) (s : Bs) : readF (37 :: l :: f) R s = if (fieldF l R s).1 = true then readF f (fieldF l R s).2.1 (fieldF l R s).2.2 else (false, zeros) := by
  simp [readF]
theorem readF_none {c : UInt8} {f : Bs} (R : List Int) (hc : c ≠ 37) : readF (c :: f) R [] = (false, zeros) := by
  cases f <;> simp [readF, hc]
theorem readF_hit {c : UInt8} {f : Bs} (R : List Int) (t : Bs) (hc : c ≠ 37) : readF (c :: f) R (c :: t) = readF f R t := by
  cases f with
  | nil => simp [readF, hc]
  | cons l f => simp [readF, hc]
theorem readF_miss {c x : UInt8} {f : Bs} (R : List Int) (t : Bs) (hc : c ≠ 37) (hx : x ≠ c) : readF (c :: f) R (x :: t) = (false, zeros) := by
  cases f <;> simp [readF, hc, hx]
theorem okForm_field {f : Bs} (h : okForm (37 :: f) = true) : ∃ l r, f = l :: r ∧ l ∈ letters ∧ okForm r = true := by
  cases f with
  | nil => simp [okForm] at h
  | cons l r =>
    rw [okForm, if_pos rfl, Bool.and_eq_true] at h
    exact ⟨l, r, rfl, by simpa using h.1, h.2⟩
theorem okForm_plain {c : UInt8} {f : Bs} (hc : c ≠ 37) (h : okForm (c :: f) = true) : okForm f = true := by
  cases f with
  | nil => rfl
  | cons l r => rwa [okForm, if_neg hc] at h
set_option maxHeartbeats 1000000 in
theorem fieldReader_at (w : World) (p q : Addr) (n : Nat) (hn : w.heap.size = n) :
    Calls Tryd.prog 63 #[.pointer (some p), .pointer (some q)] w fun e w' =>
      e = .returned (.func (.func 76) #[] #[.pointer (some ⟨n + 3, 0, none⟩), .pointer (some ⟨n, 0, none⟩), .pointer (some ⟨n + 2, 0, none⟩), .pointer (some ⟨n + 1, 0, none⟩)]) ∧
      w' = (((w.alloc (.cells #[.pointer (some p)] 121)).alloc (.cells #[.pointer (some q)] 122)).alloc (.cells #[.func (.func 72) #[] #[.pointer (some ⟨n + 1, 0, none⟩)]] 129)).alloc
        (.cells #[.func (.func 74) #[] #[.pointer (some ⟨n + 1, 0, none⟩)]] 132) := by
  subst hn
  go_enter Tryd.func63, Tryd.ntmps63
  go_wp2_with fail
  go_ret
  exact ⟨rfl, rfl⟩
end Go.Proofs.YtjbdgndejbiikaaDoor.Dp
