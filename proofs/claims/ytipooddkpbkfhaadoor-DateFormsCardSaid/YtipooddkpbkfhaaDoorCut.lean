/-
  date.cutNumber and date.cutName (at each of its three lists of names): what each returns. Conditions: the tables of names hold what the program's text lays; at most four digits.
-/
import Derived.Test.YtipooddkpbkfhaaDoorCutMath
import Derived.Deep.QuietTactic
import Derived.BigQuiet
namespace Go.Proofs.YtipooddkpbkfhaaDoor.Dt
open Go.RowKit

theorem B_drop (s : ByteArray) (k : Nat) : s.extract k s.size = B (s.data.toList.drop k) := by
  rw [← B_of s, B_extract, B_list, B_size, List.take_of_length_le (by simp)]

set_option maxHeartbeats 2000000 in
theorem cutNumber_any (s : ByteArray) (k : Nat) (w : World) (hk : k ≤ 4) (hs : s.size ≤ maxLen) :
    Calls Tryd.prog 40 #[.string s, .int .i64 (k : Int)] w fun e w' => e = .returned (cutRes s.data.toList (cutN s.data.toList k)) ∧ ∃ n, w' = w.drewN n := by
  unfold maxLen at hs
  by_cases hz : s.size < k
  · have HN := Lib.hid (show cutRes s.data.toList (cutN s.data.toList k) = .tuple #[.int .i64 0, .string s, .bool false] from by rw [cutN_short (by simpa using hz)]; simp [cutRes, B_of])
    go_enter Tryd.func40, Tryd.ntmps40
    go_wp2_with fail
    go_ret3
    exact ⟨by rw [HN.out]; rfl, 0, rfl⟩
  · have hz' : ¬ (s.size : Int) < (k : Int) := by omega
    go_enter Tryd.func40, Tryd.ntmps40
    go_wp2_with fail
    go_loop [4, 14] (fun n i => ∃ j : Nat, j ≤ k ∧ i = .int .i64 (j : Int) ∧ Hid ((s.data.toList.take j).all dgt = true) ∧ n = .int .i64 (numv (s.data.toList.take j))) (fun _ i => k - (intOf i).toNat)
    case atStart => exact ⟨0, Nat.zero_le _, rfl, Lib.hid rfl, rfl⟩
    case round =>
      obtain ⟨j, hj, rfl, HA, rfl⟩ := hrel
      have hb := numv_bd (s.data.toList.take j) HA.out (by simp; omega)
      by_cases hlt : j < k
      · have hjs : j < s.size := by omega
        cases hd : dgt s[j] with
        | true =>
          have hc := dgt_bd hd
          have HS := Lib.hid (show numv (s.data.toList.take (j + 1)) = numv (s.data.toList.take j) * 10 + ((s[j].toNat : Int) - 48) from by rw [take_snoc s j hjs, numv_snoc])
          have HA2 := Lib.hid (show (s.data.toList.take (j + 1)).all dgt = true from by rw [all_snoc s j hjs, HA.out, hd]; rfl)
          clear hd
          go_wp2_with fail
          go_round
          case rel => exact ⟨j + 1, by omega, by go_num, HA2, by rw [HS.out]⟩
          case measure => simp [intOf]; omega
        | false =>
          have HN := Lib.hid (show cutRes s.data.toList (cutN s.data.toList k) = .tuple #[.int .i64 0, .string s, .bool false] from by rw [cutN_bad (by omega) hlt hd]; simp [cutRes, B_of])
          rcases dgt_no hd with h | ⟨h1, h2⟩
          all_goals
            clear hd
            go_wp2_with fail
            go_ret3
            exact ⟨by rw [HN.out]; rfl, 0, rfl⟩
      · obtain rfl : j = k := by omega
        have HN := Lib.hid (show cutRes s.data.toList (cutN s.data.toList j) = .tuple #[.int .i64 (numv (s.data.toList.take j)), .string (s.extract j s.size), .bool true] from by rw [cutN_good (by omega) HA.out, B_drop]; rfl)
        have hx : (j : Int) ≤ (s.size : Int) := by omega
        go_wp2_with fail
        go_quiet (fail)
        go_wp2_with fail
        go_ret3
        exact ⟨by rw [HN.out]; rfl, _, rfl⟩

/-- The short names. -/
def shortNames : List Bs := longNames.map (·.take 3)
theorem short_at (j : Nat) : short j = shortNames.getD j [] := by
  unfold short shortNames
  rw [List.getD, List.getD, List.getElem?_map]
  cases longNames[j]? <;> rfl
theorem shortName_any (j : Nat) (w : World) (hk : j < 7) (hM : WD w) :
    Calls Tryd.prog 30 #[.int .i64 (j : Int)] w fun e w' => e = .returned (.string ⟨(shortNames.getD j []).toArray⟩) ∧ w = w' := by
  rw [← short_at]; exact shortWeekday_any j w hk hM

theorem short_names : shortNames.length = 7 := rfl
set_option maxHeartbeats 2000000 in
theorem cutName_short (s : ByteArray) (w : World) (hT : WD w) :
    Calls Tryd.prog 42 #[.string s, .int .i64 7, .func (.func 30) #[] #[]] w fun e w' => e = .returned (nameRes s.data.toList (pick s.data.toList shortNames)) ∧ w = w' := by
  have HT := Lib.hid hT
  clear hT
  go_enter Tryd.func42, Tryd.ntmps42
  go_wp2_with fail
  go_loop [13] (fun i => ∃ j : Nat, j ≤ 7 ∧ i = .int .i64 (j : Int) ∧ Hid (pick s.data.toList shortNames = (pick s.data.toList (shortNames.drop j)).map fun x => (x.1 + j, x.2))) (fun i => 7 - (intOf i).toNat)
  case atStart => exact ⟨0, Nat.zero_le _, rfl, Lib.hid (by simp)⟩
  case round =>
    obtain ⟨j, hj, rfl, HP⟩ := hrel
    by_cases hlt : j < 7
    · have hdrop : shortNames.drop j = shortNames.getD j [] :: shortNames.drop (j + 1) := by
        rw [List.drop_eq_getElem_cons (show j < shortNames.length from hlt), List.getD, List.getElem?_eq_getElem (show j < shortNames.length from hlt)]; rfl
      obtain ⟨N, hN⟩ : ∃ N, N = shortNames.getD j [] := ⟨_, rfl⟩
      rw [← hN] at hdrop
      have HC := Lib.hid (show Calls Tryd.prog 30 #[.int .i64 (j : Int)] w (fun e w' => e = .returned (.string (B N)) ∧ w = w') from by rw [hN]; exact shortName_any j w hlt HT.out)
      clear hN
      cases hp : Lib.hasPrefix s.data.toList N with
      | true =>
        have HR := Lib.hid (show nameRes s.data.toList (pick s.data.toList shortNames) = .tuple #[.int .i64 (j : Int), .string (B (Lib.trimPrefix s.data.toList N)), .bool true] from by
          rw [HP.out, hdrop, pick_yes hp]; simp [nameRes, cutRes])
        have HH := Lib.hid hp
        clear hp hdrop
        go_wp2_with fail
        refine HC.out.mono ?_
        rintro e w' ⟨rfl, rfl⟩
        go_wp2_with fail
        refine (cutPrefix_any s _ w).mono ?_
        rintro e w' ⟨rfl, rfl⟩
        rw [B_list, HH.out, show (⟨(Lib.trimPrefix s.data.toList N).toArray⟩ : ByteArray) = B (Lib.trimPrefix s.data.toList N) from rfl]
        go_wp2_with fail
        go_ret3
        exact ⟨by rw [HR.out]; rfl, rfl⟩
      | false =>
        have HR := Lib.hid (show pick s.data.toList shortNames = (pick s.data.toList (shortNames.drop (j + 1))).map fun x => (x.1 + (j + 1), x.2) from by
          rw [HP.out, hdrop, pick_no hp, shift_shift])
        have HH := Lib.hid hp
        clear hp hdrop
        go_wp2_with fail
        refine HC.out.mono ?_
        rintro e w' ⟨rfl, rfl⟩
        go_wp2_with fail
        refine (cutPrefix_any s _ w).mono ?_
        rintro e w' ⟨rfl, rfl⟩
        rw [B_list, HH.out]
        go_wp2_with fail
        go_round
        case rel => exact ⟨j + 1, by omega, by go_num, HR⟩
        case measure => simp [intOf]; omega
    · obtain rfl : j = 7 := by omega
      have HR := Lib.hid (show nameRes s.data.toList (pick s.data.toList shortNames) = .tuple #[.int .i64 0, .string s, .bool false] from by
        rw [HP.out, show shortNames.drop 7 = [] from rfl]; simp [pick, nameRes, cutRes, B_of])
      go_wp2_with fail
      go_ret3
      exact ⟨by rw [HR.out]; rfl, rfl⟩

theorem long_names : longNames.length = 7 := rfl
set_option maxHeartbeats 2000000 in
theorem cutName_long (s : ByteArray) (w : World) (hT : WD w) :
    Calls Tryd.prog 42 #[.string s, .int .i64 7, .func (.func 44) #[] #[]] w fun e w' => e = .returned (nameRes s.data.toList (pick s.data.toList longNames)) ∧ w = w' := by
  have HT := Lib.hid hT
  clear hT
  go_enter Tryd.func42, Tryd.ntmps42
  go_wp2_with fail
  go_loop [13] (fun i => ∃ j : Nat, j ≤ 7 ∧ i = .int .i64 (j : Int) ∧ Hid (pick s.data.toList longNames = (pick s.data.toList (longNames.drop j)).map fun x => (x.1 + j, x.2))) (fun i => 7 - (intOf i).toNat)
  case atStart => exact ⟨0, Nat.zero_le _, rfl, Lib.hid (by simp)⟩
  case round =>
    obtain ⟨j, hj, rfl, HP⟩ := hrel
    by_cases hlt : j < 7
    · have hdrop : longNames.drop j = longNames.getD j [] :: longNames.drop (j + 1) := by
        rw [List.drop_eq_getElem_cons (show j < longNames.length from hlt), List.getD, List.getElem?_eq_getElem (show j < longNames.length from hlt)]; rfl
      obtain ⟨N, hN⟩ : ∃ N, N = longNames.getD j [] := ⟨_, rfl⟩
      rw [← hN] at hdrop
      have HC := Lib.hid (show Calls Tryd.prog 44 #[.int .i64 (j : Int)] w (fun e w' => e = .returned (.string (B N)) ∧ w = w') from by rw [hN]; exact longWeekday_any j w hlt HT.out)
      clear hN
      cases hp : Lib.hasPrefix s.data.toList N with
      | true =>
        have HR := Lib.hid (show nameRes s.data.toList (pick s.data.toList longNames) = .tuple #[.int .i64 (j : Int), .string (B (Lib.trimPrefix s.data.toList N)), .bool true] from by
          rw [HP.out, hdrop, pick_yes hp]; simp [nameRes, cutRes])
        have HH := Lib.hid hp
        clear hp hdrop
        go_wp2_with fail
        refine HC.out.mono ?_
        rintro e w' ⟨rfl, rfl⟩
        go_wp2_with fail
        refine (cutPrefix_any s _ w).mono ?_
        rintro e w' ⟨rfl, rfl⟩
        rw [B_list, HH.out, show (⟨(Lib.trimPrefix s.data.toList N).toArray⟩ : ByteArray) = B (Lib.trimPrefix s.data.toList N) from rfl]
        go_wp2_with fail
        go_ret3
        exact ⟨by rw [HR.out]; rfl, rfl⟩
      | false =>
        have HR := Lib.hid (show pick s.data.toList longNames = (pick s.data.toList (longNames.drop (j + 1))).map fun x => (x.1 + (j + 1), x.2) from by
          rw [HP.out, hdrop, pick_no hp, shift_shift])
        have HH := Lib.hid hp
        clear hp hdrop
        go_wp2_with fail
        refine HC.out.mono ?_
        rintro e w' ⟨rfl, rfl⟩
        go_wp2_with fail
        refine (cutPrefix_any s _ w).mono ?_
        rintro e w' ⟨rfl, rfl⟩
        rw [B_list, HH.out]
        go_wp2_with fail
        go_round
        case rel => exact ⟨j + 1, by omega, by go_num, HR⟩
        case measure => simp [intOf]; omega
    · obtain rfl : j = 7 := by omega
      have HR := Lib.hid (show nameRes s.data.toList (pick s.data.toList longNames) = .tuple #[.int .i64 0, .string s, .bool false] from by
        rw [HP.out, show longNames.drop 7 = [] from rfl]; simp [pick, nameRes, cutRes, B_of])
      go_wp2_with fail
      go_ret3
      exact ⟨by rw [HR.out]; rfl, rfl⟩

theorem month_names : monNames.length = 12 := rfl
set_option maxHeartbeats 2000000 in
theorem cutName_month (s : ByteArray) (w : World) (hT : MN w) :
    Calls Tryd.prog 42 #[.string s, .int .i64 12, .func (.func 32) #[] #[]] w fun e w' => e = .returned (nameRes s.data.toList (pick s.data.toList monNames)) ∧ w = w' := by
  have HT := Lib.hid hT
  clear hT
  go_enter Tryd.func42, Tryd.ntmps42
  go_wp2_with fail
  go_loop [13] (fun i => ∃ j : Nat, j ≤ 12 ∧ i = .int .i64 (j : Int) ∧ Hid (pick s.data.toList monNames = (pick s.data.toList (monNames.drop j)).map fun x => (x.1 + j, x.2))) (fun i => 12 - (intOf i).toNat)
  case atStart => exact ⟨0, Nat.zero_le _, rfl, Lib.hid (by simp)⟩
  case round =>
    obtain ⟨j, hj, rfl, HP⟩ := hrel
    by_cases hlt : j < 12
    · have hdrop : monNames.drop j = monNames.getD j [] :: monNames.drop (j + 1) := by
        rw [List.drop_eq_getElem_cons (show j < monNames.length from hlt), List.getD, List.getElem?_eq_getElem (show j < monNames.length from hlt)]; rfl
      obtain ⟨N, hN⟩ : ∃ N, N = monNames.getD j [] := ⟨_, rfl⟩
      rw [← hN] at hdrop
      have HC := Lib.hid (show Calls Tryd.prog 32 #[.int .i64 (j : Int)] w (fun e w' => e = .returned (.string (B N)) ∧ w = w') from by rw [hN]; exact monthName_any j w hlt HT.out)
      clear hN
      cases hp : Lib.hasPrefix s.data.toList N with
      | true =>
        have HR := Lib.hid (show nameRes s.data.toList (pick s.data.toList monNames) = .tuple #[.int .i64 (j : Int), .string (B (Lib.trimPrefix s.data.toList N)), .bool true] from by
          rw [HP.out, hdrop, pick_yes hp]; simp [nameRes, cutRes])
        have HH := Lib.hid hp
        clear hp hdrop
        go_wp2_with fail
        refine HC.out.mono ?_
        rintro e w' ⟨rfl, rfl⟩
        go_wp2_with fail
        refine (cutPrefix_any s _ w).mono ?_
        rintro e w' ⟨rfl, rfl⟩
        rw [B_list, HH.out, show (⟨(Lib.trimPrefix s.data.toList N).toArray⟩ : ByteArray) = B (Lib.trimPrefix s.data.toList N) from rfl]
        go_wp2_with fail
        go_ret3
        exact ⟨by rw [HR.out]; rfl, rfl⟩
      | false =>
        have HR := Lib.hid (show pick s.data.toList monNames = (pick s.data.toList (monNames.drop (j + 1))).map fun x => (x.1 + (j + 1), x.2) from by
          rw [HP.out, hdrop, pick_no hp, shift_shift])
        have HH := Lib.hid hp
        clear hp hdrop
        go_wp2_with fail
        refine HC.out.mono ?_
        rintro e w' ⟨rfl, rfl⟩
        go_wp2_with fail
        refine (cutPrefix_any s _ w).mono ?_
        rintro e w' ⟨rfl, rfl⟩
        rw [B_list, HH.out]
        go_wp2_with fail
        go_round
        case rel => exact ⟨j + 1, by omega, by go_num, HR⟩
        case measure => simp [intOf]; omega
    · obtain rfl : j = 12 := by omega
      have HR := Lib.hid (show nameRes s.data.toList (pick s.data.toList monNames) = .tuple #[.int .i64 0, .string s, .bool false] from by
        rw [HP.out, show monNames.drop 12 = [] from rfl]; simp [pick, nameRes, cutRes, B_of])
      go_wp2_with fail
      go_ret3
      exact ⟨by rw [HR.out]; rfl, rfl⟩

end Go.Proofs.YtipooddkpbkfhaaDoor.Dt
