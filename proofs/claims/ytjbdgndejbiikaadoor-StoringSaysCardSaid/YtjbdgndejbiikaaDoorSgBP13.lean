/-
  Texts that the laws' proofs stand on, 3 of them in one file; each one's head says what it proves and under which condition.
-/
import Derived.Test.YtjbdgndejbiikaaDoorSgBP4
import Derived.Deep.QuietTactic
import Derived.BigQuiet
import Derived.Deep.RegionHeld3
import Derived.Deep.RegionWith
import Derived.OneCell
import Derived.Laws.Rows
/-
  Numbers and names at a text's beginning, and how a text of a date's form is read: plain functions on bytes. No program, no condition.
-/
namespace Go.Proofs.YtjbdgndejbiikaaDoor.Dp
open Go.RowKit Go.Proofs.YtjbdgndejbiikaaDoor.Dt
set_option linter.unusedVariables false

def dgt (c : UInt8) : Bool := 48 ≤ c.toNat && c.toNat ≤ 57
def numv (l : Bs) : Int := l.foldl (fun n c => n * 10 + ((c.toNat : Int) - 48)) 0
/-- The number of k digits that a text begins with, and what is behind it. -/
def cutN (l : Bs) (k : Nat) : Option (Int × Bs) := if l.length < k then none else if (l.take k).all dgt = true then some (numv (l.take k), l.drop k) else none
/-- Which of the names a text begins with, and what is behind it. -/
def pick (s : Bs) : List Bs → Option (Nat × Bs)
  | [] => none
  | n :: r => if Lib.hasPrefix s n = true then some (0, Lib.trimPrefix s n) else (pick s r).map fun x => (x.1 + 1, x.2)
theorem numv_snoc (l : Bs) (c : UInt8) : numv (l ++ [c]) = numv l * 10 + ((c.toNat : Int) - 48) := by simp [numv, List.foldl_append]
theorem dgt_bd {c : UInt8} (h : dgt c = true) : 48 ≤ (c.toNat : Int) ∧ (c.toNat : Int) ≤ 57 := by simp [dgt] at h; omega
theorem dgt_no {c : UInt8} (h : dgt c = false) : (c.toNat : Int) < 48 ∨ (48 ≤ (c.toNat : Int) ∧ 57 < (c.toNat : Int)) := by simp [dgt] at h; omega
theorem numv_bd (l : Bs) (h : l.all dgt = true) (hl : l.length ≤ 4) : 0 ≤ numv l ∧ numv l ≤ 9999 := by
  simp only [List.all_eq_true] at h
  have hb : ∀ c ∈ l, 48 ≤ (c.toNat : Int) ∧ (c.toNat : Int) ≤ 57 := fun c hc => dgt_bd (h c hc)
  match l, hl, hb with
  | [], _, _ => simp [numv]
  | [a], _, hb => have := hb a (by simp); simp [numv]; omega
  | [a, b], _, hb => have := hb a (by simp); have := hb b (by simp); simp [numv]; omega
  | [a, b, c], _, hb => have := hb a (by simp); have := hb b (by simp); have := hb c (by simp); simp [numv]; omega
  | [a, b, c, d], _, hb => have := hb a (by simp); have := hb b (by simp); have := hb c (by simp); have := hb d (by simp); simp [numv]; omega
  | a :: b :: c :: d :: e :: r, hl, _ => simp at hl
theorem take_snoc (s : ByteArray) (k : Nat) (h : k < s.size) : s.data.toList.take (k + 1) = s.data.toList.take k ++ [s[k]] := by
  rw [List.take_succ_eq_append_getElem (by simpa using h)]; rfl
theorem all_snoc (s : ByteArray) (k : Nat) (h : k < s.size) : (s.data.toList.take (k + 1)).all dgt = ((s.data.toList.take k).all dgt && dgt s[k]) := by
  rw [take_snoc s k h, List.all_append]; simp
theorem cutN_short {l : Bs} {k : Nat} (h : l.length < k) : cutN l k = none := by unfold cutN; rw [if_pos h]
theorem cutN_bad {s : ByteArray} {k j : Nat} (hk : k ≤ s.size) (hj : j < k) (hd : dgt (s[j]'(by omega)) = false) : cutN s.data.toList k = none := by
  unfold cutN
  rw [if_neg (by simp; exact hk), if_neg]
  intro h
  rw [List.all_eq_true] at h
  have hm : s[j]'(by omega) ∈ s.data.toList.take k := by
    rw [List.mem_take_iff_getElem]
    exact ⟨j, by rw [Array.length_toList]; have : s.data.size = s.size := rfl; omega, rfl⟩
  rw [h _ hm] at hd
  cases hd
theorem cutN_good {s : ByteArray} {k : Nat} (hk : k ≤ s.size) (h : (s.data.toList.take k).all dgt = true) : cutN s.data.toList k = some (numv (s.data.toList.take k), s.data.toList.drop k) := by
  unfold cutN; rw [if_neg (by simp; exact hk), if_pos h]
/-- Three results of a cut. -/
def cutRes (s : Bs) (r : Option (Int × Bs)) : Value := match r with
  | some (n, t) => .tuple #[.int .i64 n, .string (B t), .bool true]
  | none => .tuple #[.int .i64 0, .string (B s), .bool false]
def nameRes (s : Bs) (r : Option (Nat × Bs)) : Value := cutRes s (r.map fun x => ((x.1 : Int), x.2))
theorem pick_yes {s n : Bs} {r : List Bs} (h : Lib.hasPrefix s n = true) : pick s (n :: r) = some (0, Lib.trimPrefix s n) := by simp [pick, h]
theorem pick_no {s n : Bs} {r : List Bs} (h : Lib.hasPrefix s n = false) : pick s (n :: r) = (pick s r).map fun x => (x.1 + 1, x.2) := by simp [pick, h]
theorem shift_shift {j : Nat} (o : Option (Nat × Bs)) : (o.map fun x => (x.1 + 1, x.2)).map (fun x => (x.1 + j, x.2)) = o.map fun x => (x.1 + (j + 1), x.2) := by
  cases o <;> simp; omega
end Go.Proofs.YtjbdgndejbiikaaDoor.Dp
/-
  date.cutNumber and date.cutName (at each of its three lists of names): what each returns. Conditions: the tables of names hold what the program's text lays; at most four digits.
-/
namespace Go.Proofs.YtjbdgndejbiikaaDoor.Dp
open Go.RowKit Go.Proofs.YtjbdgndejbiikaaDoor.Dt
set_option linter.unusedVariables false

theorem B_drop (s : ByteArray) (k : Nat) : s.extract k s.size = B (s.data.toList.drop k) := by
  rw [← B_of s, B_extract, B_list, B_size, List.take_of_length_le (by simp)]
set_option maxHeartbeats 2000000 in
theorem cutNumber_any (s : ByteArray) (k : Nat) (w : World) (hk : k ≤ 4) (hs : s.size ≤ maxLen) :
    Calls Tryd.prog 73 #[.string s, .int .i64 (k : Int)] w fun e w' => e = .returned (cutRes s.data.toList (cutN s.data.toList k)) ∧ ∃ n, w' = w.drewN n := by
  unfold maxLen at hs
  by_cases hz : s.size < k
  · have HN := Lib.hid (show cutRes s.data.toList (cutN s.data.toList k) = .tuple #[.int .i64 0, .string s, .bool false] from by rw [cutN_short (by simpa using hz)]; simp [cutRes, B_of])
    go_enter Tryd.func73, Tryd.ntmps73
    go_wp2_with fail
    go_ret3
    exact ⟨by rw [HN.out]; rfl, 0, rfl⟩
  · have hz' : ¬ (s.size : Int) < (k : Int) := by omega
    go_enter Tryd.func73, Tryd.ntmps73
    go_wp2_with fail
    go_loop [4, 14] (fun n i => ∃ j : Nat, j ≤ k ∧ i = .int .i64 (j : Int) ∧ Hid ((s.data.toList.take j).all dgt = true) ∧ n = .int .i64 (numv (s.data.toList.take j))) (fun _ i => k - (intOf i).toNat)
    case atStart => exact ⟨0, Nat.zero_le _, rfl, Lib.hid rfl, rfl⟩
    case round =>
      obtain ⟨j, hj, rfl, HA, rfl⟩ := hrel
      have hb := numv_bd (s.data.toList.take j) HA.out (by simp; omega)
      by_cases hlt : j < k
      · have hjs : j < s.size := by omega
        cases hd : dgt s[j] with
        | true =>
          have hc := dgt_bd hd
          have HS := Lib.hid (show numv (s.data.toList.take (j + 1)) = numv (s.data.toList.take j) * 10 + ((s[j].toNat : Int) - 48) from by rw [take_snoc s j hjs, numv_snoc])
          have HA2 := Lib.hid (show (s.data.toList.take (j + 1)).all dgt = true from by rw [all_snoc s j hjs, HA.out, hd]; rfl)
          clear hd
          go_wp2_with fail
          go_round
          case rel => exact ⟨j + 1, by omega, by go_num, HA2, by rw [HS.out]⟩
          case measure => simp [intOf]; omega
        | false =>
          have HN := Lib.hid (show cutRes s.data.toList (cutN s.data.toList k) = .tuple #[.int .i64 0, .string s, .bool false] from by rw [cutN_bad (by omega) hlt hd]; simp [cutRes, B_of])
          rcases dgt_no hd with h | ⟨h1, h2⟩
          all_goals
            clear hd
            go_wp2_with fail
            go_ret3
            exact ⟨by rw [HN.out]; rfl, 0, rfl⟩
      · obtain rfl : j = k := by omega
        have HN := Lib.hid (show cutRes s.data.toList (cutN s.data.toList j) = .tuple #[.int .i64 (numv (s.data.toList.take j)), .string (s.extract j s.size), .bool true] from by rw [cutN_good (by omega) HA.out, B_drop]; rfl)
        have hx : (j : Int) ≤ (s.size : Int) := by omega
        go_wp2_with fail
        go_quiet (fail)
        go_wp2_with fail
        go_ret3
        exact ⟨by rw [HN.out]; rfl, _, rfl⟩
/-- The short names. -/
def shortNames : List Bs := longNames.map (·.take 3)
theorem short_at (j : Nat) : short j = shortNames.getD j [] := by
  unfold short shortNames
  rw [List.getD, List.getD, List.getElem?_map]
  cases longNames[j]? <;> rfl
theorem shortName_any (j : Nat) (w : World) (hk : j < 7) (hM : WD w) :
    Calls Tryd.prog 77 #[.int .i64 (j : Int)] w fun e w' => e = .returned (.string ⟨(shortNames.getD j []).toArray⟩) ∧ w = w' := by
  rw [← short_at]; exact shortWeekday_any j w hk hM
theorem short_names : shortNames.length = 7 := rfl
set_option maxHeartbeats 2000000 in
theorem cutName_short (s : ByteArray) (w : World) (hT : WD w) :
    Calls Tryd.prog 75 #[.string s, .int .i64 7, .func (.func 77) #[] #[]] w fun e w' => e = .returned (nameRes s.data.toList (pick s.data.toList shortNames)) ∧ w = w' := by
  have HT := Lib.hid hT
  clear hT
  go_enter Tryd.func75, Tryd.ntmps75
  go_wp2_with fail
  go_loop [13] (fun i => ∃ j : Nat, j ≤ 7 ∧ i = .int .i64 (j : Int) ∧ Hid (pick s.data.toList shortNames = (pick s.data.toList (shortNames.drop j)).map fun x => (x.1 + j, x.2))) (fun i => 7 - (intOf i).toNat)
  case atStart => exact ⟨0, Nat.zero_le _, rfl, Lib.hid (by simp)⟩
  case round =>
    obtain ⟨j, hj, rfl, HP⟩ := hrel
    by_cases hlt : j < 7
    · have hdrop : shortNames.drop j = shortNames.getD j [] :: shortNames.drop (j + 1) := by
        rw [List.drop_eq_getElem_cons (show j < shortNames.length from hlt), List.getD, List.getElem?_eq_getElem (show j < shortNames.length from hlt)]; rfl
      obtain ⟨N, hN⟩ : ∃ N, N = shortNames.getD j [] := ⟨_, rfl⟩
      rw [← hN] at hdrop
      have HC := Lib.hid (show Calls Tryd.prog 77 #[.int .i64 (j : Int)] w (fun e w' => e = .returned (.string (B N)) ∧ w = w') from by rw [hN]; exact shortName_any j w hlt HT.out)
      clear hN
      cases hp : Lib.hasPrefix s.data.toList N with
      | true =>
        have HR := Lib.hid (show nameRes s.data.toList (pick s.data.toList shortNames) = .tuple #[.int .i64 (j : Int), .string (B (Lib.trimPrefix s.data.toList N)), .bool true] from by
          rw [HP.out, hdrop, pick_yes hp]; simp [nameRes, cutRes])
        have HH := Lib.hid hp
        clear hp hdrop
        go_wp2_with fail
        refine HC.out.mono ?_
        rintro e w' ⟨rfl, rfl⟩
        go_wp2_with fail
        refine (cutPrefix_any s _ w).mono ?_
        rintro e w' ⟨rfl, rfl⟩
        rw [B_list, HH.out, show (⟨(Lib.trimPrefix s.data.toList N).toArray⟩ : ByteArray) = B (Lib.trimPrefix s.data.toList N) from rfl]
        go_wp2_with fail
        go_ret3
        exact ⟨by rw [HR.out]; rfl, rfl⟩
      | false =>
        have HR := Lib.hid (show pick s.data.toList shortNames = (pick s.data.toList (shortNames.drop (j + 1))).map fun x => (x.1 + (j + 1), x.2) from by
          rw [HP.out, hdrop, pick_no hp, shift_shift])
        have HH := Lib.hid hp
        clear hp hdrop
        go_wp2_with fail
        refine HC.out.mono ?_
        rintro e w' ⟨rfl, rfl⟩
        go_wp2_with fail
        refine (cutPrefix_any s _ w).mono ?_
        rintro e w' ⟨rfl, rfl⟩
        rw [B_list, HH.out]
        go_wp2_with fail
        go_round
        case rel => exact ⟨j + 1, by omega, by go_num, HR⟩
        case measure => simp [intOf]; omega
    · obtain rfl : j = 7 := by omega
      have HR := Lib.hid (show nameRes s.data.toList (pick s.data.toList shortNames) = .tuple #[.int .i64 0, .string s, .bool false] from by
        rw [HP.out, show shortNames.drop 7 = [] from rfl]; simp [pick, nameRes, cutRes, B_of])
      go_wp2_with fail
      go_ret3
      exact ⟨by rw [HR.out]; rfl, rfl⟩
theorem long_names : longNames.length = 7 := rfl
set_option maxHeartbeats 2000000 in
theorem cutName_long (s : ByteArray) (w : World) (hT : WD w) :
    Calls Tryd.prog 75 #[.string s, .int .i64 7, .func (.func 78) #[] #[]] w fun e w' => e = .returned (nameRes s.data.toList (pick s.data.toList longNames)) ∧ w = w' := by
  have HT := Lib.hid hT
  clear hT
  go_enter Tryd.func75, Tryd.ntmps75
  go_wp2_with fail
  go_loop [13] (fun i => ∃ j : Nat, j ≤ 7 ∧ i = .int .i64 (j : Int) ∧ Hid (pick s.data.toList longNames = (pick s.data.toList (longNames.drop j)).map fun x => (x.1 + j, x.2))) (fun i => 7 - (intOf i).toNat)
  case atStart => exact ⟨0, Nat.zero_le _, rfl, Lib.hid (by simp)⟩
  case round =>
    obtain ⟨j, hj, rfl, HP⟩ := hrel
    by_cases hlt : j < 7
    · have hdrop : longNames.drop j = longNames.getD j [] :: longNames.drop (j + 1) := by
        rw [List.drop_eq_getElem_cons (show j < longNames.length from hlt), List.getD, List.getElem?_eq_getElem (show j < longNames.length from hlt)]; rfl
      obtain ⟨N, hN⟩ : ∃ N, N = longNames.getD j [] := ⟨_, rfl⟩
      rw [← hN] at hdrop
      have HC := Lib.hid (show Calls Tryd.prog 78 #[.int .i64 (j : Int)] w (fun e w' => e = .returned (.string (B N)) ∧ w = w') from by rw [hN]; exact longWeekday_any j w hlt HT.out)
      clear hN
      cases hp : Lib.hasPrefix s.data.toList N with
      | true =>
        have HR := Lib.hid (show nameRes s.data.toList (pick s.data.toList longNames) = .tuple #[.int .i64 (j : Int), .string (B (Lib.trimPrefix s.data.toList N)), .bool true] from by
          rw [HP.out, hdrop, pick_yes hp]; simp [nameRes, cutRes])
        have HH := Lib.hid hp
        clear hp hdrop
        go_wp2_with fail
        refine HC.out.mono ?_
        rintro e w' ⟨rfl, rfl⟩
        go_wp2_with fail
        refine (cutPrefix_any s _ w).mono ?_
        rintro e w' ⟨rfl, rfl⟩
        rw [B_list, HH.out, show (⟨(Lib.trimPrefix s.data.toList N).toArray⟩ : ByteArray) = B (Lib.trimPrefix s.data.toList N) from rfl]
        go_wp2_with fail
        go_ret3
        exact ⟨by rw [HR.out]; rfl, rfl⟩
      | false =>
        have HR := Lib.hid (show pick s.data.toList longNames = (pick s.data.toList (longNames.drop (j + 1))).map fun x => (x.1 + (j + 1), x.2) from by
          rw [HP.out, hdrop, pick_no hp, shift_shift])
        have HH := Lib.hid hp
        clear hp hdrop
        go_wp2_with fail
        refine HC.out.mono ?_
        rintro e w' ⟨rfl, rfl⟩
        go_wp2_with fail
        refine (cutPrefix_any s _ w).mono ?_
        rintro e w' ⟨rfl, rfl⟩
        rw [B_list, HH.out]
        go_wp2_with fail
        go_round
        case rel => exact ⟨j + 1, by omega, by go_num, HR⟩
        case measure => simp [intOf]; omega
    · obtain rfl : j = 7 := by omega
      have HR := Lib.hid (show nameRes s.data.toList (pick s.data.toList longNames) = .tuple #[.int .i64 0, .string s, .bool false] from by
        rw [HP.out, show longNames.drop 7 = [] from rfl]; simp [pick, nameRes, cutRes, B_of])
      go_wp2_with fail
      go_ret3
      exact ⟨by rw [HR.out]; rfl, rfl⟩
theorem month_names : monNames.length = 12 := rfl
set_option maxHeartbeats 2000000 in
theorem cutName_month (s : ByteArray) (w : World) (hT : MN w) :
    Calls Tryd.prog 75 #[.string s, .int .i64 12, .func (.func 79) #[] #[]] w fun e w' => e = .returned (nameRes s.data.toList (pick s.data.toList monNames)) ∧ w = w' := by
  have HT := Lib.hid hT
  clear hT
  go_enter Tryd.func75, Tryd.ntmps75
  go_wp2_with fail
  go_loop [13] (fun i => ∃ j : Nat, j ≤ 12 ∧ i = .int .i64 (j : Int) ∧ Hid (pick s.data.toList monNames = (pick s.data.toList (monNames.drop j)).map fun x => (x.1 + j, x.2))) (fun i => 12 - (intOf i).toNat)
  case atStart => exact ⟨0, Nat.zero_le _, rfl, Lib.hid (by simp)⟩
  case round =>
    obtain ⟨j, hj, rfl, HP⟩ := hrel
    by_cases hlt : j < 12
    · have hdrop : monNames.drop j = monNames.getD j [] :: monNames.drop (j + 1) := by
        rw [List.drop_eq_getElem_cons (show j < monNames.length from hlt), List.getD, List.getElem?_eq_getElem (show j < monNames.length from hlt)]; rfl
      obtain ⟨N, hN⟩ : ∃ N, N = monNames.getD j [] := ⟨_, rfl⟩
      rw [← hN] at hdrop
      have HC := Lib.hid (show Calls Tryd.prog 79 #[.int .i64 (j : Int)] w (fun e w' => e = .returned (.string (B N)) ∧ w = w') from by rw [hN]; exact monthName_any j w hlt HT.out)
      clear hN
      cases hp : Lib.hasPrefix s.data.toList N with
      | true =>
        have HR := Lib.hid (show nameRes s.data.toList (pick s.data.toList monNames) = .tuple #[.int .i64 (j : Int), .string (B (Lib.trimPrefix s.data.toList N)), .bool true] from by
          rw [HP.out, hdrop, pick_yes hp]; simp [nameRes, cutRes])
        have HH := Lib.hid hp
        clear hp hdrop
        go_wp2_with fail
        refine HC.out.mono ?_
        rintro e w' ⟨rfl, rfl⟩
        go_wp2_with fail
        refine (cutPrefix_any s _ w).mono ?_
        rintro e w' ⟨rfl, rfl⟩
        rw [B_list, HH.out, show (⟨(Lib.trimPrefix s.data.toList N).toArray⟩ : ByteArray) = B (Lib.trimPrefix s.data.toList N) from rfl]
        go_wp2_with fail
        go_ret3
        exact ⟨by rw [HR.out]; rfl, rfl⟩
      | false =>
        have HR := Lib.hid (show pick s.data.toList monNames = (pick s.data.toList (monNames.drop (j + 1))).map fun x => (x.1 + (j + 1), x.2) from by
          rw [HP.out, hdrop, pick_no hp, shift_shift])
        have HH := Lib.hid hp
        clear hp hdrop
        go_wp2_with fail
        refine HC.out.mono ?_
        rintro e w' ⟨rfl, rfl⟩
        go_wp2_with fail
        refine (cutPrefix_any s _ w).mono ?_
        rintro e w' ⟨rfl, rfl⟩
        rw [B_list, HH.out]
        go_wp2_with fail
        go_round
        case rel => exact ⟨j + 1, by omega, by go_num, HR⟩
        case measure => simp [intOf]; omega
    · obtain rfl : j = 12 := by omega
      have HR := Lib.hid (show nameRes s.data.toList (pick s.data.toList monNames) = .tuple #[.int .i64 0, .string s, .bool false] from by
        rw [HP.out, show monNames.drop 12 = [] from rfl]; simp [pick, nameRes, cutRes, B_of])
      go_wp2_with fail
      go_ret3
      exact ⟨by rw [HR.out]; rfl, rfl⟩
end Go.Proofs.YtjbdgndejbiikaaDoor.Dp
/-
  The closures of date.fieldReader that read a number and a name: what each returns, and what it stores. Conditions: as for cutNumber and cutName.
-/
namespace Go.Proofs.YtjbdgndejbiikaaDoor.Dp
open Go.RowKit Go.Proofs.YtjbdgndejbiikaaDoor.Dt
set_option linter.unusedVariables false

def ints (R : List Int) : Array Value := (R.map fun n => Value.int .i64 n).toArray
theorem ints_set (R : List Int) (i : Nat) (n : Int) : (ints R).setIfInBounds i (.int .i64 n) = ints (R.set i n) := by
  unfold ints
  rw [List.setIfInBounds_toArray, List.map_set]
theorem ints_at {w : World} {g : Nat} {R : List Int} {t : TypeId} (h : w.heap[g]? = some (.cells (ints R) t (0, 0))) (i : Nat) (hi : i < R.length) : w.cell? ⟨g, i, none⟩ = some (.int .i64 (R.getD i 0)) := by
  simp [World.cell?, h, ints, hi]
theorem ints_free {w : World} {g : Nat} {R : List Int} {t : TypeId} (h : w.heap[g]? = some (.cells (ints R) t (0, 0))) (i : Nat) : w.frozen? ⟨g, i, none⟩ = false := by
  simp [World.frozen?, h]
/-- What 'read' has laid for its closures, and how far it has come: the reading R, the rest s. -/
structure FInv (w0 : World) (b : Nat) (R : List Int) (s : Bs) (w : World) : Prop where
  base : b = w0.heap.size
  len : R.length = 7
  few : s.length ≤ 1000000
  vs : w.heap[b]? = some (.cells #[.string (B s)] 9 (0, 0))
  vq : w.heap[b + 1]? = some (.cells (ints [0, 0, 0, 0, 0, 0, 0]) 102 (0, 0))
  vr : w.heap[b + 2]? = some (.cells (ints R) 102 (0, 0))
  pr : w.heap[b + 3]? = some (.cells #[.pointer (some ⟨b + 2, 0, none⟩)] 121 (0, 0))
  ps : w.heap[b + 4]? = some (.cells #[.pointer (some ⟨b, 0, none⟩)] 122 (0, 0))
  fn : w.heap[b + 5]? = some (.cells #[.func (.func 72) #[] #[.pointer (some ⟨b + 4, 0, none⟩)]] 129 (0, 0))
  fm : w.heap[b + 6]? = some (.cells #[.func (.func 74) #[] #[.pointer (some ⟨b + 4, 0, none⟩)]] 132 (0, 0))
  below : Below b w0 w
theorem FInv.drawn {w0 w w' : World} {b n : Nat} {R : List Int} {s : Bs} (h : FInv w0 b R s w) (e : w' = w.drewN n) : FInv w0 b R s w' := by
  subst e
  exact ⟨h.base, h.len, h.few, h.vs, h.vq, h.vr, h.pr, h.ps, h.fn, h.fm, ⟨h.below.os, h.below.tape, h.below.output, h.below.size, h.below.block⟩⟩
theorem FInv.setR {w0 w : World} {b : Nat} {R : List Int} {s : Bs} (h : FInv w0 b R s w) (i : Nat) (n : Int) : FInv w0 b (R.set i n) s (w.setCell ⟨b + 2, i, none⟩ (.int .i64 n)) := by
  refine ⟨h.base, by simp [h.len], h.few, ?_, ?_, ?_, ?_, ?_, ?_, ?_, h.below.setCell (by show b ≤ b + 2; omega) _⟩
  · rw [heap_setCell_other _ _ _ _ (by show b ≠ b + 2; omega)]; exact h.vs
  · rw [heap_setCell_other _ _ _ _ (by show b + 1 ≠ b + 2; omega)]; exact h.vq
  · rw [heap_setCell_same _ _ _ _ _ _ h.vr, ints_set]
  · rw [heap_setCell_other _ _ _ _ (by show b + 3 ≠ b + 2; omega)]; exact h.pr
  · rw [heap_setCell_other _ _ _ _ (by show b + 4 ≠ b + 2; omega)]; exact h.ps
  · rw [heap_setCell_other _ _ _ _ (by show b + 5 ≠ b + 2; omega)]; exact h.fn
  · rw [heap_setCell_other _ _ _ _ (by show b + 6 ≠ b + 2; omega)]; exact h.fm
theorem FInv.setS {w0 w : World} {b : Nat} {R : List Int} {s : Bs} (h : FInv w0 b R s w) (t : Bs) (ht : t.length ≤ s.length) : FInv w0 b R t (w.setCell ⟨b, 0, none⟩ (.string (B t))) := by
  refine ⟨h.base, h.len, Nat.le_trans ht h.few, ?_, ?_, ?_, ?_, ?_, ?_, ?_, h.below.setCell (by show b ≤ b; omega) _⟩
  · exact one_setCell h.vs
  · rw [heap_setCell_other _ _ _ _ (by show b + 1 ≠ b; omega)]; exact h.vq
  · rw [heap_setCell_other _ _ _ _ (by show b + 2 ≠ b; omega)]; exact h.vr
  · rw [heap_setCell_other _ _ _ _ (by show b + 3 ≠ b; omega)]; exact h.pr
  · rw [heap_setCell_other _ _ _ _ (by show b + 4 ≠ b; omega)]; exact h.ps
  · rw [heap_setCell_other _ _ _ _ (by show b + 5 ≠ b; omega)]; exact h.fn
  · rw [heap_setCell_other _ _ _ _ (by show b + 6 ≠ b; omega)]; exact h.fm
/-- What a field's reading answers, stores into the reading, and leaves. -/
def put (i : Nat) (R : List Int) (s : Bs) (r : Option (Int × Bs)) : Bool × List Int × Bs := match r with
  | some (n, t) => (true, R.set i n, t)
  | none => (false, R.set i 0, s)
def numF (i k : Nat) (R : List Int) (s : Bs) : Bool × List Int × Bs := put i R s (cutN s k)
def nameF (i : Nat) (names : List Bs) (R : List Int) (s : Bs) : Bool × List Int × Bs := put i R s ((pick s names).map fun x => ((x.1 : Int), x.2))
theorem cutN_le {s t : Bs} {k : Nat} {n : Int} (h : cutN s k = some (n, t)) : t.length ≤ s.length := by
  unfold cutN at h
  split at h
  · cases h
  · split at h
    · injection h with h; injection h with _ h; subst h; simp
    · cases h
theorem put_eq (i : Nat) (R : List Int) (s : Bs) (r : Option (Int × Bs)) : ∃ n t ok, put i R s r = (ok, R.set i n, t) ∧ cutRes s r = .tuple #[.int .i64 n, .string (B t), .bool ok] ∧ ((∀ n' t', r = some (n', t') → t'.length ≤ s.length) → t.length ≤ s.length) := by
  match r with
  | some (n, t) => exact ⟨n, t, true, rfl, rfl, fun h => h n t rfl⟩
  | none => exact ⟨0, s, false, rfl, rfl, fun _ => Nat.le_refl _⟩
theorem pick_le {s : Bs} : ∀ {names : List Bs} {j : Nat} {t : Bs}, pick s names = some (j, t) → t.length ≤ s.length
  | [], _, _, h => by cases h
  | n :: r, j, t, h => by
    unfold pick at h
    split at h
    · injection h with h; injection h with _ h; subst h
      unfold Lib.trimPrefix; split <;> simp
    · cases hr : pick s r with
      | none => rw [hr] at h; cases h
      | some p =>
        rw [hr] at h
        injection h with h
        have h2 : p.2 = t := by injection h
        have := pick_le (s := s) (names := r) (j := p.1) (t := p.2) hr
        rw [← h2]; exact this
set_option maxHeartbeats 2000000 in
theorem number_any (w0 w : World) (b i k : Nat) (R : List Int) (s : Bs) (hi : i < 7) (hk : k ≤ 4) (h : FInv w0 b R s w) :
    Calls Tryd.prog 72 #[.pointer (some ⟨b + 2, i, none⟩), .int .i64 (k : Int), .pointer (some ⟨b + 4, 0, none⟩)] w
      fun e w' => e = .returned (.bool (numF i k R s).1) ∧ FInv w0 b (numF i k R s).2.1 (numF i k R s).2.2 w' := by
  have c4 := cell_of_one h.ps
  have c0 := cell_of_one h.vs
  have f0 := free_of_one h.vs
  have cR := ints_at h.vr i (by rw [h.len]; exact hi)
  have fR := ints_free h.vr i
  have hsz : (B s).size ≤ maxLen := by rw [B_size]; have := h.few; unfold maxLen; omega
  obtain ⟨x, hx⟩ : ∃ x, x = R.getD i 0 := ⟨_, rfl⟩
  rw [← hx] at cR
  obtain ⟨n, t, ok, hF, hC, hle⟩ := put_eq i R s (cutN s k)
  have hle' := hle fun n' t' e => cutN_le e
  obtain ⟨S, hS⟩ : ∃ S, S = B s := ⟨_, rfl⟩
  rw [← hS] at c0 hsz
  have HSZ := Lib.hid hsz
  have HK := Lib.hid hk
  have HC := Lib.hid (show cutRes S.data.toList (cutN S.data.toList k) = .tuple #[.int .i64 n, .string (B t), .bool ok] from by rw [hS, B_list]; exact hC)
  have HF := Lib.hid (show numF i k R s = (ok, R.set i n, t) from hF)
  have HW := Lib.hid ((h.setR i n).setS t hle')
  have e4 : b + 2 ≠ b + 4 := by omega
  have e0 : b + 2 ≠ b := by omega
  have e04 : b ≠ b + 4 := by omega
  obtain ⟨T, hT⟩ : ∃ T, T = B t := ⟨_, rfl⟩
  rw [← hT] at HC HW
  clear h hS hsz hk hx hi hF hC hle hle' hT
  go_enter Tryd.func72, Tryd.ntmps72
  go_wp2_with fail
  go_region_with (first | (go_at_call 73; refine (cutNumber_any _ _ _ HK.out HSZ.out).mono ?_; rintro e w' ⟨rfl, m, rfl⟩; rw [HC.out]))
  all_goals
    go_wp2_with fail
    go_ret
    exact ⟨by rw [HF.out]; rfl, by rw [HF.out]; exact HW.out.drawn rfl⟩
set_option maxHeartbeats 2000000 in
theorem name_any (w0 w : World) (b i : Nat) (R : List Int) (s : Bs) (names : List Bs) (cnt : Int) (fv : Value) (hi : i < 7) (h : FInv w0 b R s w)
    (hcall : ∀ w' : World, w'.heap = w.heap → Calls Tryd.prog 75 #[.string (B s), .int .i64 cnt, fv] w' fun e w'' => e = .returned (nameRes s (pick s names)) ∧ w' = w'') :
    Calls Tryd.prog 74 #[.pointer (some ⟨b + 2, i, none⟩), .int .i64 cnt, fv, .pointer (some ⟨b + 4, 0, none⟩)] w
      fun e w' => e = .returned (.bool (nameF i names R s).1) ∧ FInv w0 b (nameF i names R s).2.1 (nameF i names R s).2.2 w' := by
  have c4 := cell_of_one h.ps
  have c0 := cell_of_one h.vs
  have f0 := free_of_one h.vs
  have cR := ints_at h.vr i (by rw [h.len]; exact hi)
  have fR := ints_free h.vr i
  obtain ⟨x, hx⟩ : ∃ x, x = R.getD i 0 := ⟨_, rfl⟩
  rw [← hx] at cR
  obtain ⟨n, t, ok, hF, hC, hle⟩ := put_eq i R s ((pick s names).map fun x => ((x.1 : Int), x.2))
  have hle' := hle fun n' t' e => by
    cases hp : pick s names with
    | none => rw [hp] at e; cases e
    | some p =>
      rw [hp] at e
      injection e with e
      have h2 : p.2 = t' := by injection e
      rw [← h2]; exact pick_le (j := p.1) hp
  have HC := Lib.hid (show ∀ w' : World, w'.heap = w.heap → Calls Tryd.prog 75 #[.string (B s), .int .i64 cnt, fv] w' fun e w'' => e = .returned (.tuple #[.int .i64 n, .string (B t), .bool ok]) ∧ w' = w'' from by rw [← hC]; exact hcall)
  have HF := Lib.hid (show nameF i names R s = (ok, R.set i n, t) from hF)
  have HW := Lib.hid ((h.setR i n).setS t hle')
  have e4 : b + 2 ≠ b + 4 := by omega
  have e0 : b + 2 ≠ b := by omega
  have e04 : b ≠ b + 4 := by omega
  obtain ⟨T, hT⟩ : ∃ T, T = B t := ⟨_, rfl⟩
  rw [← hT] at HC HW
  obtain ⟨S, hS⟩ : ∃ S, S = B s := ⟨_, rfl⟩
  rw [← hS] at HC c0
  clear h hx hi hF hC hle hle' hT hcall hS
  go_enter Tryd.func74, Tryd.ntmps74
  go_wp2_with fail
  go_region_with (first | (go_at_call 75; refine (HC.out _ (by rfl)).mono ?_; rintro e w' ⟨rfl, rfl⟩))
  all_goals
    go_wp2_with fail
    go_ret
    exact ⟨by rw [HF.out]; rfl, by rw [HF.out]; exact HW.out.drawn (n := 1) rfl⟩
end Go.Proofs.YtjbdgndejbiikaaDoor.Dp
