/-
  The closure of date.fieldReader at the letter e (a day of two digits, or a blank and one digit), and at whatever letter the forms have. Conditions: as for cutNumber and cutName.
-/
import Derived.Test.YtipooddkpbkfhaaDoorReads
import Derived.BigRegion
namespace Go.Proofs.YtipooddkpbkfhaaDoor.Dt
open Go.RowKit

theorem blank_any (c : UInt8) (w : World) :
    Calls Tryd.prog 45 #[.int .u8 (c.toNat : Int)] w fun e w' => e = .returned (.bool (c == 32 || c == 9)) ∧ w = w' := by
  by_cases h : c = 32
  · subst h
    go_enter Tryd.func45, Tryd.ntmps45
    go_wp2_with fail
    go_ret
    exact ⟨rfl, rfl⟩
  · by_cases h' : c = 9
    · subst h'
      go_enter Tryd.func45, Tryd.ntmps45
      go_wp2_with fail
      go_ret
      exact ⟨rfl, rfl⟩
    · have t1 : ((c.toNat : Int) == 32) = false := beq_eq_false_iff_ne.2 (by intro e; apply h; apply UInt8.toNat.inj; simpa using (by omega : c.toNat = 32))
      have t2 : ((c.toNat : Int) == 9) = false := beq_eq_false_iff_ne.2 (by intro e; apply h'; apply UInt8.toNat.inj; simpa using (by omega : c.toNat = 9))
      have HB := Lib.hid (show (c == 32 || c == 9) = false from by simp [h, h'])
      clear h h'
      go_enter Tryd.func45, Tryd.ntmps45
      go_wp2_with fail
      go_ret
      exact ⟨by rw [HB.out]; rfl, rfl⟩

theorem text_empty {s : ByteArray} (h : s.size = 0) : s.toList = [] := by
  rw [ByteArray.toList_eq, ← List.length_eq_zero_iff]; simpa using h
theorem text_full {s : ByteArray} (h : 0 < s.size) : s.toList.isEmpty = false := by
  rw [ByteArray.toList_eq]
  cases hl : s.data.toList with
  | nil => have h1 : s.data.toList.length = 0 := by rw [hl]; rfl
           rw [Array.length_toList] at h1
           have h2 : s.size = s.data.size := rfl
           omega
  | cons => rfl

abbrev ReadsE (w0 : World) (b : Nat) (X : Bool × List Int × Bs) (w : World) : Prop :=
  Calls Tryd.prog 43 #[.int .u8 101, .pointer (some ⟨b + 6, 0, none⟩), .pointer (some ⟨b + 3, 0, none⟩), .pointer (some ⟨b + 5, 0, none⟩), .pointer (some ⟨b + 4, 0, none⟩)] w
    fun e w' => e = .returned (.bool X.1) ∧ FInv w0 b X.2.1 X.2.2 w'

set_option maxHeartbeats 2000000 in
theorem reads_e0 (w0 w : World) (b : Nat) (R : List Int) (h : FInv w0 b R [] w) : ReadsE w0 b (numF 3 2 R []) w := by
  have c5 := cell_of_one h.fn
  have c3 := cell_of_one h.pr
  have c4 := cell_of_one h.ps
  have c0 := cell_of_one h.vs
  have HI := Lib.hid h
  obtain ⟨S, hS⟩ : ∃ S, S = B [] := ⟨_, rfl⟩
  have he := text_empty (s := S) (by rw [hS, B_size]; rfl)
  rw [← hS] at c0
  clear h hS
  go_enter Tryd.func43, Tryd.ntmps43
  go_wp2_with fail
  go_region_with (first | (go_at_call 39; refine (number_any w0 _ b 3 2 R [] (by omega) (by omega) (HI.out.drawn (n := 1) rfl)).mono ?_; rintro e w' ⟨rfl, hI⟩))
  all_goals
    go_wp2_with fail
    go_ret
    exact ⟨rfl, hI⟩

set_option maxHeartbeats 2000000 in
theorem reads_e1 (w0 w : World) (b : Nat) (R : List Int) (c : UInt8) (t : Bs) (hb : (c == 32 || c == 9) = false) (h : FInv w0 b R (c :: t) w) : ReadsE w0 b (numF 3 2 R (c :: t)) w := by
  have c5 := cell_of_one h.fn
  have c3 := cell_of_one h.pr
  have c4 := cell_of_one h.ps
  have c0 := cell_of_one h.vs
  have HI := Lib.hid h
  obtain ⟨S, hS⟩ : ∃ S, S = B (c :: t) := ⟨_, rfl⟩
  have hsz : S.size = t.length + 1 := by rw [hS, B_size]; rfl
  have he := text_full (s := S) (by omega)
  have h0 : S[0]'(by omega) = c := by subst hS; rfl
  have hpos : 0 < S.size := by omega
  rw [← hS] at c0
  have HB := Lib.hid hb
  clear h hS hb
  go_enter Tryd.func43, Tryd.ntmps43
  go_wp2_with fail
  refine (blank_any c _).mono ?_
  rintro e w' ⟨rfl, rfl⟩
  rw [HB.out]
  go_wp2_with fail
  go_region_with (first | (go_at_call 39; refine (number_any w0 _ b 3 2 R (c :: t) (by omega) (by omega) (HI.out.drawn (n := 1) rfl)).mono ?_; rintro e w' ⟨rfl, hI⟩))
  all_goals
    go_wp2_with fail
    go_ret
    exact ⟨rfl, hI⟩

set_option maxHeartbeats 2000000 in
theorem reads_e2 (w0 w : World) (b : Nat) (R : List Int) (c : UInt8) (t : Bs) (hb : (c == 32 || c == 9) = true) (h : FInv w0 b R (c :: t) w) : ReadsE w0 b (numF 3 1 R t) w := by
  have c5 := cell_of_one h.fn
  have c3 := cell_of_one h.pr
  have c4 := cell_of_one h.ps
  have c0 := cell_of_one h.vs
  have f0 := free_of_one h.vs
  have HI := Lib.hid (h.setS t (by simp))
  obtain ⟨S, hS⟩ : ∃ S, S = B (c :: t) := ⟨_, rfl⟩
  have hsz : S.size = t.length + 1 := by rw [hS, B_size]; rfl
  have he := text_full (s := S) (by omega)
  have h0 : S[0]'(by omega) = c := by subst hS; rfl
  have hpos : 0 < S.size := by omega
  have hpos1 : (1 : Int) ≤ (S.size : Int) := by omega
  obtain ⟨T, hT⟩ : ∃ T, T = B t := ⟨_, rfl⟩
  have hx : S.extract 1 S.size = T := by rw [B_drop, hS, B_list, hT]; rfl
  have hx' : S.extract 1 (t.length + 1) = T := by rw [← hsz]; exact hx
  rw [← hS] at c0
  rw [← hT] at HI
  have HB := Lib.hid hb
  have e5 : b ≠ b + 5 := by omega
  have e3 : b ≠ b + 3 := by omega
  clear h hS hb hT
  go_enter Tryd.func43, Tryd.ntmps43
  go_wp2_with fail
  refine (blank_any c _).mono ?_
  rintro e w' ⟨rfl, rfl⟩
  rw [HB.out]
  go_wp2_with fail
  go_region
  have hJ := HI.out.drawn (n := 1) (w' := (w.setCell ⟨b, 0, none⟩ (.string T)).drew) rfl
  clear HI
  generalize (w.setCell ⟨b, 0, none⟩ (.string T)).drew = wq at hJ ⊢
  have d5 := cell_of_one hJ.fn
  have d3 := cell_of_one hJ.pr
  have HJ := Lib.hid hJ
  clear hJ c5 c3 c4 c0 f0
  go_wp2_with fail
  go_region_with (first | (go_at_call 39; refine (number_any w0 _ b 3 1 R t (by omega) (by omega) (HJ.out.drawn (n := 1) rfl)).mono ?_; rintro e w' ⟨rfl, hI⟩))
  all_goals
    go_wp2_with fail
    go_ret
    exact ⟨rfl, hI⟩

theorem reads_e (w0 w : World) (b : Nat) (R : List Int) (s : Bs) (h : FInv w0 b R s w) : Reads w0 b 101 R s w := by
  have e : fieldF 101 R s = if isBlank s = true then numF 3 1 R (s.drop 1) else numF 3 2 R s := rfl
  show Calls Tryd.prog 43 #[.int .u8 101, .pointer (some ⟨b + 6, 0, none⟩), .pointer (some ⟨b + 3, 0, none⟩), .pointer (some ⟨b + 5, 0, none⟩), .pointer (some ⟨b + 4, 0, none⟩)] w
    fun e w' => e = .returned (.bool (fieldF 101 R s).1) ∧ FInv w0 b (fieldF 101 R s).2.1 (fieldF 101 R s).2.2 w'
  rw [e]
  match s, h with
  | [], h => rw [if_neg (by simp [isBlank])]; exact reads_e0 w0 w b R h
  | c :: t, h =>
    cases hb : (c == 32 || c == 9) with
    | true => rw [if_pos (by simpa [isBlank] using hb)]; exact reads_e2 w0 w b R c t hb h
    | false => rw [if_neg (by simpa [isBlank] using hb)]; exact reads_e1 w0 w b R c t hb h

/-- The letters of the forms. -/
def letters : Bs := [97, 65, 98, 100, 101, 89, 121, 104, 109, 115]
theorem reads_any (w0 w : World) (b : Nat) (c : UInt8) (R : List Int) (s : Bs) (hc : c ∈ letters) (hE : Env w0) (h : FInv w0 b R s w) : Reads w0 b c R s w := by
  simp only [letters, List.mem_cons, List.not_mem_nil, or_false] at hc
  rcases hc with rfl | rfl | rfl | rfl | rfl | rfl | rfl | rfl | rfl | rfl
  · exact reads_a w0 w b R s hE h
  · exact reads_A w0 w b R s hE h
  · exact reads_b w0 w b R s hE h
  · exact reads_d w0 w b R s h
  · exact reads_e w0 w b R s h
  · exact reads_Y w0 w b R s h
  · exact reads_y w0 w b R s h
  · exact reads_h w0 w b R s h
  · exact reads_m w0 w b R s h
  · exact reads_s w0 w b R s h
end Go.Proofs.YtipooddkpbkfhaaDoor.Dt
