/-
  Texts that the laws' proofs stand on, 3 of them in one file; each one's head says what it proves and under which condition.
-/
import Derived.Test.YtledjiikpajdaaaDoorVtAllP2
import Derived.Deep.QuietTactic
import Derived.BigQuiet
import Derived.Deep.RegionHeld3
import Derived.Deep.RegionWith
import Derived.OneCell
import Derived.Laws.Rows
/-
  date.cutNumber and date.cutName (at each of its three lists of names): what each returns. Conditions: the tables of names hold what the program's text lays; at most four digits.
-/
namespace Go.Proofs.YtledjiikpajdaaaDoor.Dp
open Go.RowKit Go.Proofs.YtledjiikpajdaaaDoor.Dt
set_option linter.unusedVariables false

theorem B_drop (s : ByteArray) (k : Nat) : s.extract k s.size = B (s.data.toList.drop k) := by
  rw [← B_of s, B_extract, B_list, B_size, List.take_of_length_le (by simp)]
set_option maxHeartbeats 2000000 in
theorem cutNumber_any (s : ByteArray) (k : Nat) (w : World) (hk : k ≤ 4) (hs : s.size ≤ maxLen) :
    Calls Tryd.prog 78 #[.string s, .int .i64 (k : Int)] w fun e w' => e = .returned (cutRes s.data.toList (cutN s.data.toList k)) ∧ ∃ n, w' = w.drewN n := by
  unfold maxLen at hs
  by_cases hz : s.size < k
  · have HN := Lib.hid (show cutRes s.data.toList (cutN s.data.toList k) = .tuple #[.int .i64 0, .string s, .bool false] from by rw [cutN_short (by simpa using hz)]; simp [cutRes, B_of])
    go_enter Tryd.func78, Tryd.ntmps78
    go_wp2_with fail
    go_ret3
    exact ⟨by rw [HN.out]; rfl, 0, rfl⟩
  · have hz' : ¬ (s.size : Int) < (k : Int) := by omega
    go_enter Tryd.func78, Tryd.ntmps78
    go_wp2_with fail
    go_loop [4, 14] (fun n i => ∃ j : Nat, j ≤ k ∧ i = .int .i64 (j : Int) ∧ Hid ((s.data.toList.take j).all dgt = true) ∧ n = .int .i64 (numv (s.data.toList.take j))) (fun _ i => k - (intOf i).toNat)
    case atStart => exact ⟨0, Nat.zero_le _, rfl, Lib.hid rfl, rfl⟩
    case round =>
      obtain ⟨j, hj, rfl, HA, rfl⟩ := hrel
      have hb := numv_bd (s.data.toList.take j) HA.out (by simp; omega)
      by_cases hlt : j < k
      · have hjs : j < s.size := by omega
        cases hd : dgt s[j] with
        | true =>
          have hc := dgt_bd hd
          have HS := Lib.hid (show numv (s.data.toList.take (j + 1)) = numv (s.data.toList.take j) * 10 + ((s[j].toNat : Int) - 48) from by rw [take_snoc s j hjs, numv_snoc])
          have HA2 := Lib.hid (show (s.data.toList.take (j + 1)).all dgt = true from by rw [all_snoc s j hjs, HA.out, hd]; rfl)
          clear hd
          go_wp2_with fail
          go_round
          case rel => exact ⟨j + 1, by omega, by go_num, HA2, by rw [HS.out]⟩
          case measure => simp [intOf]; omega
        | false =>
          have HN := Lib.hid (show cutRes s.data.toList (cutN s.data.toList k) = .tuple #[.int .i64 0, .string s, .bool false] from by rw [cutN_bad (by omega) hlt hd]; simp [cutRes, B_of])
          rcases dgt_no hd with h | ⟨h1, h2⟩
          all_goals
            clear hd
            go_wp2_with fail
            go_ret3
            exact ⟨by rw [HN.out]; rfl, 0, rfl⟩
      · obtain rfl : j = k := by omega
        have HN := Lib.hid (show cutRes s.data.toList (cutN s.data.toList j) = .tuple #[.int .i64 (numv (s.data.toList.take j)), .string (s.extract j s.size), .bool true] from by rw [cutN_good (by omega) HA.out, B_drop]; rfl)
        have hx : (j : Int) ≤ (s.size : Int) := by omega
        go_wp2_with fail
        go_quiet (fail)
        go_wp2_with fail
        go_ret3
        exact ⟨by rw [HN.out]; rfl, _, rfl⟩
/-- The short names. -/
def shortNames : List Bs := longNames.map (·.take 3)
theorem short_at (j : Nat) : short j = shortNames.getD j [] := by
  unfold short shortNames
  rw [List.getD, List.getD, List.getElem?_map]
  cases longNames[j]? <;> rfl
theorem shortName_any (j : Nat) (w : World) (hk : j < 7) (hM : WD w) :
    Calls Tryd.prog 56 #[.int .i64 (j : Int)] w fun e w' => e = .returned (.string ⟨(shortNames.getD j []).toArray⟩) ∧ w = w' := by
  rw [← short_at]; exact shortWeekday_any j w hk hM
theorem short_names : shortNames.length = 7 := rfl
set_option maxHeartbeats 2000000 in
theorem cutName_short (s : ByteArray) (w : World) (hT : WD w) :
    Calls Tryd.prog 80 #[.string s, .int .i64 7, .func (.func 56) #[] #[]] w fun e w' => e = .returned (nameRes s.data.toList (pick s.data.toList shortNames)) ∧ w = w' := by
  have HT := Lib.hid hT
  clear hT
  go_enter Tryd.func80, Tryd.ntmps80
  go_wp2_with fail
  go_loop [13] (fun i => ∃ j : Nat, j ≤ 7 ∧ i = .int .i64 (j : Int) ∧ Hid (pick s.data.toList shortNames = (pick s.data.toList (shortNames.drop j)).map fun x => (x.1 + j, x.2))) (fun i => 7 - (intOf i).toNat)
  case atStart => exact ⟨0, Nat.zero_le _, rfl, Lib.hid (by simp)⟩
  case round =>
    obtain ⟨j, hj, rfl, HP⟩ := hrel
    by_cases hlt : j < 7
    · have hdrop : shortNames.drop j = shortNames.getD j [] :: shortNames.drop (j + 1) := by
        rw [List.drop_eq_getElem_cons (show j < shortNames.length from hlt), List.getD, List.getElem?_eq_getElem (show j < shortNames.length from hlt)]; rfl
      obtain ⟨N, hN⟩ : ∃ N, N = shortNames.getD j [] := ⟨_, rfl⟩
      rw [← hN] at hdrop
      have HC := Lib.hid (show Calls Tryd.prog 56 #[.int .i64 (j : Int)] w (fun e w' => e = .returned (.string (B N)) ∧ w = w') from by rw [hN]; exact shortName_any j w hlt HT.out)
      clear hN
      cases hp : Lib.hasPrefix s.data.toList N with
      | true =>
        have HR := Lib.hid (show nameRes s.data.toList (pick s.data.toList shortNames) = .tuple #[.int .i64 (j : Int), .string (B (Lib.trimPrefix s.data.toList N)), .bool true] from by
          rw [HP.out, hdrop, pick_yes hp]; simp [nameRes, cutRes])
        have HH := Lib.hid hp
        clear hp hdrop
        go_wp2_with fail
        refine HC.out.mono ?_
        rintro e w' ⟨rfl, rfl⟩
        go_wp2_with fail
        refine (cutPrefix_any s _ w).mono ?_
        rintro e w' ⟨rfl, rfl⟩
        rw [B_list, HH.out, show (⟨(Lib.trimPrefix s.data.toList N).toArray⟩ : ByteArray) = B (Lib.trimPrefix s.data.toList N) from rfl]
        go_wp2_with fail
        go_ret3
        exact ⟨by rw [HR.out]; rfl, rfl⟩
      | false =>
        have HR := Lib.hid (show pick s.data.toList shortNames = (pick s.data.toList (shortNames.drop (j + 1))).map fun x => (x.1 + (j + 1), x.2) from by
          rw [HP.out, hdrop, pick_no hp, shift_shift])
        have HH := Lib.hid hp
        clear hp hdrop
        go_wp2_with fail
        refine HC.out.mono ?_
        rintro e w' ⟨rfl, rfl⟩
        go_wp2_with fail
        refine (cutPrefix_any s _ w).mono ?_
        rintro e w' ⟨rfl, rfl⟩
        rw [B_list, HH.out]
        go_wp2_with fail
        go_round
        case rel => exact ⟨j + 1, by omega, by go_num, HR⟩
        case measure => simp [intOf]; omega
    · obtain rfl : j = 7 := by omega
      have HR := Lib.hid (show nameRes s.data.toList (pick s.data.toList shortNames) = .tuple #[.int .i64 0, .string s, .bool false] from by
        rw [HP.out, show shortNames.drop 7 = [] from rfl]; simp [pick, nameRes, cutRes, B_of])
      go_wp2_with fail
      go_ret3
      exact ⟨by rw [HR.out]; rfl, rfl⟩
theorem long_names : longNames.length = 7 := rfl
set_option maxHeartbeats 2000000 in
theorem cutName_long (s : ByteArray) (w : World) (hT : WD w) :
    Calls Tryd.prog 80 #[.string s, .int .i64 7, .func (.func 82) #[] #[]] w fun e w' => e = .returned (nameRes s.data.toList (pick s.data.toList longNames)) ∧ w = w' := by
  have HT := Lib.hid hT
  clear hT
  go_enter Tryd.func80, Tryd.ntmps80
  go_wp2_with fail
  go_loop [13] (fun i => ∃ j : Nat, j ≤ 7 ∧ i = .int .i64 (j : Int) ∧ Hid (pick s.data.toList longNames = (pick s.data.toList (longNames.drop j)).map fun x => (x.1 + j, x.2))) (fun i => 7 - (intOf i).toNat)
  case atStart => exact ⟨0, Nat.zero_le _, rfl, Lib.hid (by simp)⟩
  case round =>
    obtain ⟨j, hj, rfl, HP⟩ := hrel
    by_cases hlt : j < 7
    · have hdrop : longNames.drop j = longNames.getD j [] :: longNames.drop (j + 1) := by
        rw [List.drop_eq_getElem_cons (show j < longNames.length from hlt), List.getD, List.getElem?_eq_getElem (show j < longNames.length from hlt)]; rfl
      obtain ⟨N, hN⟩ : ∃ N, N = longNames.getD j [] := ⟨_, rfl⟩
      rw [← hN] at hdrop
      have HC := Lib.hid (show Calls Tryd.prog 82 #[.int .i64 (j : Int)] w (fun e w' => e = .returned (.string (B N)) ∧ w = w') from by rw [hN]; exact longWeekday_any j w hlt HT.out)
      clear hN
      cases hp : Lib.hasPrefix s.data.toList N with
      | true =>
        have HR := Lib.hid (show nameRes s.data.toList (pick s.data.toList longNames) = .tuple #[.int .i64 (j : Int), .string (B (Lib.trimPrefix s.data.toList N)), .bool true] from by
          rw [HP.out, hdrop, pick_yes hp]; simp [nameRes, cutRes])
        have HH := Lib.hid hp
        clear hp hdrop
        go_wp2_with fail
        refine HC.out.mono ?_
        rintro e w' ⟨rfl, rfl⟩
        go_wp2_with fail
        refine (cutPrefix_any s _ w).mono ?_
        rintro e w' ⟨rfl, rfl⟩
        rw [B_list, HH.out, show (⟨(Lib.trimPrefix s.data.toList N).toArray⟩ : ByteArray) = B (Lib.trimPrefix s.data.toList N) from rfl]
        go_wp2_with fail
        go_ret3
        exact ⟨by rw [HR.out]; rfl, rfl⟩
      | false =>
        have HR := Lib.hid (show pick s.data.toList longNames = (pick s.data.toList (longNames.drop (j + 1))).map fun x => (x.1 + (j + 1), x.2) from by
          rw [HP.out, hdrop, pick_no hp, shift_shift])
        have HH := Lib.hid hp
        clear hp hdrop
        go_wp2_with fail
        refine HC.out.mono ?_
        rintro e w' ⟨rfl, rfl⟩
        go_wp2_with fail
        refine (cutPrefix_any s _ w).mono ?_
        rintro e w' ⟨rfl, rfl⟩
        rw [B_list, HH.out]
        go_wp2_with fail
        go_round
        case rel => exact ⟨j + 1, by omega, by go_num, HR⟩
        case measure => simp [intOf]; omega
    · obtain rfl : j = 7 := by omega
      have HR := Lib.hid (show nameRes s.data.toList (pick s.data.toList longNames) = .tuple #[.int .i64 0, .string s, .bool false] from by
        rw [HP.out, show longNames.drop 7 = [] from rfl]; simp [pick, nameRes, cutRes, B_of])
      go_wp2_with fail
      go_ret3
      exact ⟨by rw [HR.out]; rfl, rfl⟩
theorem month_names : monNames.length = 12 := rfl
set_option maxHeartbeats 2000000 in
theorem cutName_month (s : ByteArray) (w : World) (hT : MN w) :
    Calls Tryd.prog 80 #[.string s, .int .i64 12, .func (.func 58) #[] #[]] w fun e w' => e = .returned (nameRes s.data.toList (pick s.data.toList monNames)) ∧ w = w' := by
  have HT := Lib.hid hT
  clear hT
  go_enter Tryd.func80, Tryd.ntmps80
  go_wp2_with fail
  go_loop [13] (fun i => ∃ j : Nat, j ≤ 12 ∧ i = .int .i64 (j : Int) ∧ Hid (pick s.data.toList monNames = (pick s.data.toList (monNames.drop j)).map fun x => (x.1 + j, x.2))) (fun i => 12 - (intOf i).toNat)
  case atStart => exact ⟨0, Nat.zero_le _, rfl, Lib.hid (by simp)⟩
  case round =>
    obtain ⟨j, hj, rfl, HP⟩ := hrel
    by_cases hlt : j < 12
    · have hdrop : monNames.drop j = monNames.getD j [] :: monNames.drop (j + 1) := by
        rw [List.drop_eq_getElem_cons (show j < monNames.length from hlt), List.getD, List.getElem?_eq_getElem (show j < monNames.length from hlt)]; rfl
      obtain ⟨N, hN⟩ : ∃ N, N = monNames.getD j [] := ⟨_, rfl⟩
      rw [← hN] at hdrop
      have HC := Lib.hid (show Calls Tryd.prog 58 #[.int .i64 (j : Int)] w (fun e w' => e = .returned (.string (B N)) ∧ w = w') from by rw [hN]; exact monthName_any j w hlt HT.out)
      clear hN
      cases hp : Lib.hasPrefix s.data.toList N with
      | true =>
        have HR := Lib.hid (show nameRes s.data.toList (pick s.data.toList monNames) = .tuple #[.int .i64 (j : Int), .string (B (Lib.trimPrefix s.data.toList N)), .bool true] from by
          rw [HP.out, hdrop, pick_yes hp]; simp [nameRes, cutRes])
        have HH := Lib.hid hp
        clear hp hdrop
        go_wp2_with fail
        refine HC.out.mono ?_
        rintro e w' ⟨rfl, rfl⟩
        go_wp2_with fail
        refine (cutPrefix_any s _ w).mono ?_
        rintro e w' ⟨rfl, rfl⟩
        rw [B_list, HH.out, show (⟨(Lib.trimPrefix s.data.toList N).toArray⟩ : ByteArray) = B (Lib.trimPrefix s.data.toList N) from rfl]
        go_wp2_with fail
        go_ret3
        exact ⟨by rw [HR.out]; rfl, rfl⟩
      | false =>
        have HR := Lib.hid (show pick s.data.toList monNames = (pick s.data.toList (monNames.drop (j + 1))).map fun x => (x.1 + (j + 1), x.2) from by
          rw [HP.out, hdrop, pick_no hp, shift_shift])
        have HH := Lib.hid hp
        clear hp hdrop
        go_wp2_with fail
        refine HC.out.mono ?_
        rintro e w' ⟨rfl, rfl⟩
        go_wp2_with fail
        refine (cutPrefix_any s _ w).mono ?_
        rintro e w' ⟨rfl, rfl⟩
        rw [B_list, HH.out]
        go_wp2_with fail
        go_round
        case rel => exact ⟨j + 1, by omega, by go_num, HR⟩
        case measure => simp [intOf]; omega
    · obtain rfl : j = 12 := by omega
      have HR := Lib.hid (show nameRes s.data.toList (pick s.data.toList monNames) = .tuple #[.int .i64 0, .string s, .bool false] from by
        rw [HP.out, show monNames.drop 12 = [] from rfl]; simp [pick, nameRes, cutRes, B_of])
      go_wp2_with fail
      go_ret3
      exact ⟨by rw [HR.out]; rfl, rfl⟩
end Go.Proofs.YtledjiikpajdaaaDoor.Dp
/-
  The closures of date.fieldReader that read a number and a name: what each returns, and what it stores. Conditions: as for cutNumber and cutName.
-/
namespace Go.Proofs.YtledjiikpajdaaaDoor.Dp
open Go.RowKit Go.Proofs.YtledjiikpajdaaaDoor.Dt
set_option linter.unusedVariables false

def ints (R : List Int) : Array Value := (R.map fun n => Value.int .i64 n).toArray
theorem ints_set (R : List Int) (i : Nat) (n : Int) : (ints R).setIfInBounds i (.int .i64 n) = ints (R.set i n) := by
  unfold ints
  rw [List.setIfInBounds_toArray, List.map_set]
theorem ints_at {w : World} {g : Nat} {R : List Int} {t : TypeId} (h : w.heap[g]? = some (.cells (ints R) t (0, 0))) (i : Nat) (hi : i < R.length) : w.cell? ⟨g, i, none⟩ = some (.int .i64 (R.getD i 0)) := by
  simp [World.cell?, h, ints, hi]
theorem ints_free {w : World} {g : Nat} {R : List Int} {t : TypeId} (h : w.heap[g]? = some (.cells (ints R) t (0, 0))) (i : Nat) : w.frozen? ⟨g, i, none⟩ = false := by
  simp [World.frozen?, h]
/-- What 'read' has laid for its closures, and how far it has come: the reading R, the rest s. -/
structure FInv (w0 : World) (b : Nat) (R : List Int) (s : Bs) (w : World) : Prop where
  base : b = w0.heap.size
  len : R.length = 7
  few : s.length ≤ 1000000
  vs : w.heap[b]? = some (.cells #[.string (B s)] 9 (0, 0))
  vq : w.heap[b + 1]? = some (.cells (ints [0, 0, 0, 0, 0, 0, 0]) 79 (0, 0))
  vr : w.heap[b + 2]? = some (.cells (ints R) 79 (0, 0))
  pr : w.heap[b + 3]? = some (.cells #[.pointer (some ⟨b + 2, 0, none⟩)] 93 (0, 0))
  ps : w.heap[b + 4]? = some (.cells #[.pointer (some ⟨b, 0, none⟩)] 94 (0, 0))
  fn : w.heap[b + 5]? = some (.cells #[.func (.func 77) #[] #[.pointer (some ⟨b + 4, 0, none⟩)]] 102 (0, 0))
  fm : w.heap[b + 6]? = some (.cells #[.func (.func 79) #[] #[.pointer (some ⟨b + 4, 0, none⟩)]] 104 (0, 0))
  below : Below b w0 w
theorem FInv.drawn {w0 w w' : World} {b n : Nat} {R : List Int} {s : Bs} (h : FInv w0 b R s w) (e : w' = w.drewN n) : FInv w0 b R s w' := by
  subst e
  exact ⟨h.base, h.len, h.few, h.vs, h.vq, h.vr, h.pr, h.ps, h.fn, h.fm, ⟨h.below.os, h.below.tape, h.below.output, h.below.size, h.below.block⟩⟩
theorem FInv.setR {w0 w : World} {b : Nat} {R : List Int} {s : Bs} (h : FInv w0 b R s w) (i : Nat) (n : Int) : FInv w0 b (R.set i n) s (w.setCell ⟨b + 2, i, none⟩ (.int .i64 n)) := by
  refine ⟨h.base, by simp [h.len], h.few, ?_, ?_, ?_, ?_, ?_, ?_, ?_, h.below.setCell (by show b ≤ b + 2; omega) _⟩
  · rw [heap_setCell_other _ _ _ _ (by show b ≠ b + 2; omega)]; exact h.vs
  · rw [heap_setCell_other _ _ _ _ (by show b + 1 ≠ b + 2; omega)]; exact h.vq
  · rw [heap_setCell_same _ _ _ _ _ _ h.vr, ints_set]
  · rw [heap_setCell_other _ _ _ _ (by show b + 3 ≠ b + 2; omega)]; exact h.pr
  · rw [heap_setCell_other _ _ _ _ (by show b + 4 ≠ b + 2; omega)]; exact h.ps
  · rw [heap_setCell_other _ _ _ _ (by show b + 5 ≠ b + 2; omega)]; exact h.fn
  · rw [heap_setCell_other _ _ _ _ (by show b + 6 ≠ b + 2; omega)]; exact h.fm
theorem FInv.setS {w0 w : World} {b : Nat} {R : List Int} {s : Bs} (h : FInv w0 b R s w) (t : Bs) (ht : t.length ≤ s.length) : FInv w0 b R t (w.setCell ⟨b, 0, none⟩ (.string (B t))) := by
  refine ⟨h.base, h.len, Nat.le_trans ht h.few, ?_, ?_, ?_, ?_, ?_, ?_, ?_, h.below.setCell (by show b ≤ b; omega) _⟩
  · exact one_setCell h.vs
  · rw [heap_setCell_other _ _ _ _ (by show b + 1 ≠ b; omega)]; exact h.vq
  · rw [heap_setCell_other _ _ _ _ (by show b + 2 ≠ b; omega)]; exact h.vr
  · rw [heap_setCell_other _ _ _ _ (by show b + 3 ≠ b; omega)]; exact h.pr
  · rw [heap_setCell_other _ _ _ _ (by show b + 4 ≠ b; omega)]; exact h.ps
  · rw [heap_setCell_other _ _ _ _ (by show b + 5 ≠ b; omega)]; exact h.fn
  · rw [heap_setCell_other _ _ _ _ (by show b + 6 ≠ b; omega)]; exact h.fm
/-- What a field's reading answers, stores into the reading, and leaves. -/
def put (i : Nat) (R : List Int) (s : Bs) (r : Option (Int × Bs)) : Bool × List Int × Bs := match r with
  | some (n, t) => (true, R.set i n, t)
  | none => (false, R.set i 0, s)
def numF (i k : Nat) (R : List Int) (s : Bs) : Bool × List Int × Bs := put i R s (cutN s k)
def nameF (i : Nat) (names : List Bs) (R : List Int) (s : Bs) : Bool × List Int × Bs := put i R s ((pick s names).map fun x => ((x.1 : Int), x.2))
theorem cutN_le {s t : Bs} {k : Nat} {n : Int} (h : cutN s k = some (n, t)) : t.length ≤ s.length := by
  unfold cutN at h
  split at h
  · cases h
  · split at h
    · injection h with h; injection h with _ h; subst h; simp
    · cases h
theorem put_eq (i : Nat) (R : List Int) (s : Bs) (r : Option (Int × Bs)) : ∃ n t ok, put i R s r = (ok, R.set i n, t) ∧ cutRes s r = .tuple #[.int .i64 n, .string (B t), .bool ok] ∧ ((∀ n' t', r = some (n', t') → t'.length ≤ s.length) → t.length ≤ s.length) := by
  match r with
  | some (n, t) => exact ⟨n, t, true, rfl, rfl, fun h => h n t rfl⟩
  | none => exact ⟨0, s, false, rfl, rfl, fun _ => Nat.le_refl _⟩
theorem pick_le {s : Bs} : ∀ {names : List Bs} {j : Nat} {t : Bs}, pick s names = some (j, t) → t.length ≤ s.length
  | [], _, _, h => by cases h
  | n :: r, j, t, h => by
    unfold pick at h
    split at h
    · injection h with h; injection h with _ h; subst h
      unfold Lib.trimPrefix; split <;> simp
    · cases hr : pick s r with
      | none => rw [hr] at h; cases h
      | some p =>
        rw [hr] at h
        injection h with h
        have h2 : p.2 = t := by injection h
        have := pick_le (s := s) (names := r) (j := p.1) (t := p.2) hr
        rw [← h2]; exact this
set_option maxHeartbeats 2000000 in
theorem number_any (w0 w : World) (b i k : Nat) (R : List Int) (s : Bs) (hi : i < 7) (hk : k ≤ 4) (h : FInv w0 b R s w) :
    Calls Tryd.prog 77 #[.pointer (some ⟨b + 2, i, none⟩), .int .i64 (k : Int), .pointer (some ⟨b + 4, 0, none⟩)] w
      fun e w' => e = .returned (.bool (numF i k R s).1) ∧ FInv w0 b (numF i k R s).2.1 (numF i k R s).2.2 w' := by
  have c4 := cell_of_one h.ps
  have c0 := cell_of_one h.vs
  have f0 := free_of_one h.vs
  have cR := ints_at h.vr i (by rw [h.len]; exact hi)
  have fR := ints_free h.vr i
  have hsz : (B s).size ≤ maxLen := by rw [B_size]; have := h.few; unfold maxLen; omega
  obtain ⟨x, hx⟩ : ∃ x, x = R.getD i 0 := ⟨_, rfl⟩
  rw [← hx] at cR
  obtain ⟨n, t, ok, hF, hC, hle⟩ := put_eq i R s (cutN s k)
  have hle' := hle fun n' t' e => cutN_le e
  obtain ⟨S, hS⟩ : ∃ S, S = B s := ⟨_, rfl⟩
  rw [← hS] at c0 hsz
  have HSZ := Lib.hid hsz
  have HK := Lib.hid hk
  have HC := Lib.hid (show cutRes S.data.toList (cutN S.data.toList k) = .tuple #[.int .i64 n, .string (B t), .bool ok] from by rw [hS, B_list]; exact hC)
  have HF := Lib.hid (show numF i k R s = (ok, R.set i n, t) from hF)
  have HW := Lib.hid ((h.setR i n).setS t hle')
  have e4 : b + 2 ≠ b + 4 := by omega
  have e0 : b + 2 ≠ b := by omega
  have e04 : b ≠ b + 4 := by omega
  obtain ⟨T, hT⟩ : ∃ T, T = B t := ⟨_, rfl⟩
  rw [← hT] at HC HW
  clear h hS hsz hk hx hi hF hC hle hle' hT
  go_enter Tryd.func77, Tryd.ntmps77
  go_wp2_with fail
  go_region_with (first | (go_at_call 78; refine (cutNumber_any _ _ _ HK.out HSZ.out).mono ?_; rintro e w' ⟨rfl, m, rfl⟩; rw [HC.out]))
  all_goals
    go_wp2_with fail
    go_ret
    exact ⟨by rw [HF.out]; rfl, by rw [HF.out]; exact HW.out.drawn rfl⟩
set_option maxHeartbeats 2000000 in
theorem name_any (w0 w : World) (b i : Nat) (R : List Int) (s : Bs) (names : List Bs) (cnt : Int) (fv : Value) (hi : i < 7) (h : FInv w0 b R s w)
    (hcall : ∀ w' : World, w'.heap = w.heap → Calls Tryd.prog 80 #[.string (B s), .int .i64 cnt, fv] w' fun e w'' => e = .returned (nameRes s (pick s names)) ∧ w' = w'') :
    Calls Tryd.prog 79 #[.pointer (some ⟨b + 2, i, none⟩), .int .i64 cnt, fv, .pointer (some ⟨b + 4, 0, none⟩)] w
      fun e w' => e = .returned (.bool (nameF i names R s).1) ∧ FInv w0 b (nameF i names R s).2.1 (nameF i names R s).2.2 w' := by
  have c4 := cell_of_one h.ps
  have c0 := cell_of_one h.vs
  have f0 := free_of_one h.vs
  have cR := ints_at h.vr i (by rw [h.len]; exact hi)
  have fR := ints_free h.vr i
  obtain ⟨x, hx⟩ : ∃ x, x = R.getD i 0 := ⟨_, rfl⟩
  rw [← hx] at cR
  obtain ⟨n, t, ok, hF, hC, hle⟩ := put_eq i R s ((pick s names).map fun x => ((x.1 : Int), x.2))
  have hle' := hle fun n' t' e => by
    cases hp : pick s names with
    | none => rw [hp] at e; cases e
    | some p =>
      rw [hp] at e
      injection e with e
      have h2 : p.2 = t' := by injection e
      rw [← h2]; exact pick_le (j := p.1) hp
  have HC := Lib.hid (show ∀ w' : World, w'.heap = w.heap → Calls Tryd.prog 80 #[.string (B s), .int .i64 cnt, fv] w' fun e w'' => e = .returned (.tuple #[.int .i64 n, .string (B t), .bool ok]) ∧ w' = w'' from by rw [← hC]; exact hcall)
  have HF := Lib.hid (show nameF i names R s = (ok, R.set i n, t) from hF)
  have HW := Lib.hid ((h.setR i n).setS t hle')
  have e4 : b + 2 ≠ b + 4 := by omega
  have e0 : b + 2 ≠ b := by omega
  have e04 : b ≠ b + 4 := by omega
  obtain ⟨T, hT⟩ : ∃ T, T = B t := ⟨_, rfl⟩
  rw [← hT] at HC HW
  obtain ⟨S, hS⟩ : ∃ S, S = B s := ⟨_, rfl⟩
  rw [← hS] at HC c0
  clear h hx hi hF hC hle hle' hT hcall hS
  go_enter Tryd.func79, Tryd.ntmps79
  go_wp2_with fail
  go_region_with (first | (go_at_call 80; refine (HC.out _ (by rfl)).mono ?_; rintro e w' ⟨rfl, rfl⟩))
  all_goals
    go_wp2_with fail
    go_ret
    exact ⟨by rw [HF.out]; rfl, by rw [HF.out]; exact HW.out.drawn (n := 1) rfl⟩
end Go.Proofs.YtledjiikpajdaaaDoor.Dp
/-
  The closure of date.fieldReader that reads the field of a letter: what it returns, and what it stores. Conditions: as for cutNumber and cutName.
-/
namespace Go.Proofs.YtledjiikpajdaaaDoor.Dp
open Go.RowKit Go.Proofs.YtledjiikpajdaaaDoor.Dt
set_option linter.unusedVariables false

theorem pick_lt {s : Bs} : ∀ {names : List Bs} {j : Nat} {t : Bs}, pick s names = some (j, t) → j < names.length
  | [], _, _, h => by cases h
  | n :: r, j, t, h => by
    unfold pick at h
    split at h
    · injection h with h; injection h with h _; subst h; simp
    · cases hr : pick s r with
      | none => rw [hr] at h; cases h
      | some p =>
        rw [hr] at h
        injection h with h
        have h2 : p.1 + 1 = j := by injection h
        have := pick_lt (s := s) (names := r) (j := p.1) (t := p.2) hr
        simp; omega
theorem set_get (R : List Int) (i : Nat) (n : Int) (h : i < R.length) : (R.set i n).getD i 0 = n := by
  simp [List.getD, h]
theorem nameF_bd (i : Nat) (names : List Bs) (R : List Int) (s : Bs) (h : i < R.length) (hn : names.length ≤ 100) : 0 ≤ (nameF i names R s).2.1.getD i 0 ∧ (nameF i names R s).2.1.getD i 0 ≤ 100 := by
  unfold nameF
  cases hp : pick s names with
  | none => show 0 ≤ (R.set i 0).getD i 0 ∧ _; rw [set_get R i 0 h]; show 0 ≤ (0 : Int) ∧ (R.set i 0).getD i 0 ≤ 100; rw [set_get R i 0 h]; omega
  | some p =>
    have := pick_lt (j := p.1) (t := p.2) hp
    show 0 ≤ (R.set i (p.1 : Int)).getD i 0 ∧ (R.set i (p.1 : Int)).getD i 0 ≤ 100
    rw [set_get R i _ h]; omega
theorem numF_bd (i k : Nat) (R : List Int) (s : Bs) (h : i < R.length) (hk : k ≤ 4) : 0 ≤ (numF i k R s).2.1.getD i 0 ∧ (numF i k R s).2.1.getD i 0 ≤ 9999 := by
  unfold numF
  cases hp : cutN s k with
  | none => show 0 ≤ (R.set i 0).getD i 0 ∧ (R.set i 0).getD i 0 ≤ 9999; rw [set_get R i 0 h]; omega
  | some p =>
    show 0 ≤ (R.set i p.1).getD i 0 ∧ (R.set i p.1).getD i 0 ≤ 9999
    rw [set_get R i _ h]
    unfold cutN at hp
    split at hp
    · cases hp
    · split at hp
      · rename_i h1 h2
        injection hp with hp
        rw [← hp]
        exact numv_bd _ h2 (by simp; omega)
      · cases hp
def fullY (y : Int) : Int := if 70 ≤ y then 1900 + y else 2000 + y
def isBlank (s : Bs) : Bool := match s with
  | c :: _ => c == 32 || c == 9
  | [] => false
/-- The field of a letter. -/
def fieldF (c : UInt8) (R : List Int) (s : Bs) : Bool × List Int × Bs :=
  if c = 97 then nameF 0 shortNames R s
  else if c = 65 then nameF 0 longNames R s
  else if c = 98 then ((nameF 2 monNames R s).1, (nameF 2 monNames R s).2.1.set 2 ((nameF 2 monNames R s).2.1.getD 2 0 + 1), (nameF 2 monNames R s).2.2)
  else if c = 100 then numF 3 2 R s
  else if c = 101 then (if isBlank s = true then numF 3 1 R (s.drop 1) else numF 3 2 R s)
  else if c = 89 then numF 1 4 R s
  else if c = 121 then ((numF 1 2 R s).1, (numF 1 2 R s).2.1.set 1 (fullY ((numF 1 2 R s).2.1.getD 1 0)), (numF 1 2 R s).2.2)
  else if c = 104 then numF 4 2 R s
  else if c = 109 then numF 5 2 R s
  else numF 6 2 R s
theorem cell_heap {w w' : World} (e : w'.heap = w.heap) (a : Addr) : w'.cell? a = w.cell? a := by
  simp only [World.cell?, e]
theorem WD.heap {w w' : World} (h : WD w) (e : w'.heap = w.heap) : WD w' := fun k hk => (cell_heap e _).trans (h k hk)
theorem MN.heap {w w' : World} (h : MN w) (e : w'.heap = w.heap) : MN w' := fun k hk => (cell_heap e _).trans (h k hk)
theorem fullYear_any (y : Int) (w : World) (h0 : 0 ≤ y) (h1 : y ≤ 9999) :
    Calls Tryd.prog 84 #[.int .i64 y] w fun e w' => e = .returned (.int .i64 (fullY y)) ∧ w = w' := by
  by_cases h : 70 ≤ y
  · have HY := Lib.hid (show fullY y = 1900 + y from by unfold fullY; rw [if_pos h])
    go_enter Tryd.func84, Tryd.ntmps84
    go_wp2_with fail
    go_ret
    exact ⟨by rw [HY.out]; rfl, rfl⟩
  · have HY := Lib.hid (show fullY y = 2000 + y from by unfold fullY; rw [if_neg h])
    go_enter Tryd.func84, Tryd.ntmps84
    go_wp2_with fail
    go_ret
    exact ⟨by rw [HY.out]; rfl, rfl⟩
/-- What the closure answers. -/
abbrev Reads (w0 : World) (b : Nat) (c : UInt8) (R : List Int) (s : Bs) (w : World) : Prop :=
  Calls Tryd.prog 81 #[.int .u8 (c.toNat : Int), .pointer (some ⟨b + 6, 0, none⟩), .pointer (some ⟨b + 3, 0, none⟩), .pointer (some ⟨b + 5, 0, none⟩), .pointer (some ⟨b + 4, 0, none⟩)] w
    fun e w' => e = .returned (.bool (fieldF c R s).1) ∧ FInv w0 b (fieldF c R s).2.1 (fieldF c R s).2.2 w'
set_option maxHeartbeats 2000000 in
theorem reads_d (w0 w : World) (b : Nat) (R : List Int) (s : Bs) (h : FInv w0 b R s w) : Reads w0 b 100 R s w := by
  have c5 := cell_of_one h.fn
  have c3 := cell_of_one h.pr
  have HI := Lib.hid h
  clear h
  show Calls Tryd.prog 81 #[.int .u8 100, .pointer (some ⟨b + 6, 0, none⟩), .pointer (some ⟨b + 3, 0, none⟩), .pointer (some ⟨b + 5, 0, none⟩), .pointer (some ⟨b + 4, 0, none⟩)] w
    fun e w' => e = .returned (.bool (numF 3 2 R s).1) ∧ FInv w0 b (numF 3 2 R s).2.1 (numF 3 2 R s).2.2 w'
  go_enter Tryd.func81, Tryd.ntmps81
  go_wp2_with fail
  go_region_with (first | (go_at_call 77; refine (number_any w0 _ b 3 2 R s (by omega) (by omega) (HI.out.drawn (n := 1) rfl)).mono ?_; rintro e w' ⟨rfl, hI⟩))
  all_goals
    go_wp2_with fail
    go_ret
    exact ⟨rfl, hI⟩
set_option maxHeartbeats 2000000 in
theorem reads_Y (w0 w : World) (b : Nat) (R : List Int) (s : Bs) (h : FInv w0 b R s w) : Reads w0 b 89 R s w := by
  have c5 := cell_of_one h.fn
  have c3 := cell_of_one h.pr
  have HI := Lib.hid h
  clear h
  show Calls Tryd.prog 81 #[.int .u8 89, .pointer (some ⟨b + 6, 0, none⟩), .pointer (some ⟨b + 3, 0, none⟩), .pointer (some ⟨b + 5, 0, none⟩), .pointer (some ⟨b + 4, 0, none⟩)] w
    fun e w' => e = .returned (.bool (numF 1 4 R s).1) ∧ FInv w0 b (numF 1 4 R s).2.1 (numF 1 4 R s).2.2 w'
  go_enter Tryd.func81, Tryd.ntmps81
  go_wp2_with fail
  go_region_with (first | (go_at_call 77; refine (number_any w0 _ b 1 4 R s (by omega) (by omega) (HI.out.drawn (n := 1) rfl)).mono ?_; rintro e w' ⟨rfl, hI⟩))
  all_goals
    go_wp2_with fail
    go_ret
    exact ⟨rfl, hI⟩
set_option maxHeartbeats 2000000 in
theorem reads_h (w0 w : World) (b : Nat) (R : List Int) (s : Bs) (h : FInv w0 b R s w) : Reads w0 b 104 R s w := by
  have c5 := cell_of_one h.fn
  have c3 := cell_of_one h.pr
  have HI := Lib.hid h
  clear h
  show Calls Tryd.prog 81 #[.int .u8 104, .pointer (some ⟨b + 6, 0, none⟩), .pointer (some ⟨b + 3, 0, none⟩), .pointer (some ⟨b + 5, 0, none⟩), .pointer (some ⟨b + 4, 0, none⟩)] w
    fun e w' => e = .returned (.bool (numF 4 2 R s).1) ∧ FInv w0 b (numF 4 2 R s).2.1 (numF 4 2 R s).2.2 w'
  go_enter Tryd.func81, Tryd.ntmps81
  go_wp2_with fail
  go_region_with (first | (go_at_call 77; refine (number_any w0 _ b 4 2 R s (by omega) (by omega) (HI.out.drawn (n := 1) rfl)).mono ?_; rintro e w' ⟨rfl, hI⟩))
  all_goals
    go_wp2_with fail
    go_ret
    exact ⟨rfl, hI⟩
set_option maxHeartbeats 2000000 in
theorem reads_m (w0 w : World) (b : Nat) (R : List Int) (s : Bs) (h : FInv w0 b R s w) : Reads w0 b 109 R s w := by
  have c5 := cell_of_one h.fn
  have c3 := cell_of_one h.pr
  have HI := Lib.hid h
  clear h
  show Calls Tryd.prog 81 #[.int .u8 109, .pointer (some ⟨b + 6, 0, none⟩), .pointer (some ⟨b + 3, 0, none⟩), .pointer (some ⟨b + 5, 0, none⟩), .pointer (some ⟨b + 4, 0, none⟩)] w
    fun e w' => e = .returned (.bool (numF 5 2 R s).1) ∧ FInv w0 b (numF 5 2 R s).2.1 (numF 5 2 R s).2.2 w'
  go_enter Tryd.func81, Tryd.ntmps81
  go_wp2_with fail
  go_region_with (first | (go_at_call 77; refine (number_any w0 _ b 5 2 R s (by omega) (by omega) (HI.out.drawn (n := 1) rfl)).mono ?_; rintro e w' ⟨rfl, hI⟩))
  all_goals
    go_wp2_with fail
    go_ret
    exact ⟨rfl, hI⟩
set_option maxHeartbeats 2000000 in
theorem reads_s (w0 w : World) (b : Nat) (R : List Int) (s : Bs) (h : FInv w0 b R s w) : Reads w0 b 115 R s w := by
  have c5 := cell_of_one h.fn
  have c3 := cell_of_one h.pr
  have HI := Lib.hid h
  clear h
  show Calls Tryd.prog 81 #[.int .u8 115, .pointer (some ⟨b + 6, 0, none⟩), .pointer (some ⟨b + 3, 0, none⟩), .pointer (some ⟨b + 5, 0, none⟩), .pointer (some ⟨b + 4, 0, none⟩)] w
    fun e w' => e = .returned (.bool (numF 6 2 R s).1) ∧ FInv w0 b (numF 6 2 R s).2.1 (numF 6 2 R s).2.2 w'
  go_enter Tryd.func81, Tryd.ntmps81
  go_wp2_with fail
  go_region_with (first | (go_at_call 77; refine (number_any w0 _ b 6 2 R s (by omega) (by omega) (HI.out.drawn (n := 1) rfl)).mono ?_; rintro e w' ⟨rfl, hI⟩))
  all_goals
    go_wp2_with fail
    go_ret
    exact ⟨rfl, hI⟩
set_option maxHeartbeats 2000000 in
theorem reads_a (w0 w : World) (b : Nat) (R : List Int) (s : Bs) (hE : Env w0) (h : FInv w0 b R s w) : Reads w0 b 97 R s w := by
  have c6 := cell_of_one h.fm
  have c3 := cell_of_one h.pr
  have HI := Lib.hid h
  have hT := (hE.below h.below (by rw [h.base]; exact Nat.le_refl _)).wd
  have HC := Lib.hid (show ∀ w' : World, w'.heap = w.heap → Calls Tryd.prog 80 #[.string (B s), .int .i64 7, .func (.func 56) #[] #[]] w' (fun e w'' => e = .returned (nameRes s (pick s shortNames)) ∧ w' = w'') from fun w' e => by
    have := cutName_short (B s) w' (hT.heap e)
    rwa [B_list] at this)
  clear h hT hE
  show Calls Tryd.prog 81 #[.int .u8 97, .pointer (some ⟨b + 6, 0, none⟩), .pointer (some ⟨b + 3, 0, none⟩), .pointer (some ⟨b + 5, 0, none⟩), .pointer (some ⟨b + 4, 0, none⟩)] w
    fun e w' => e = .returned (.bool (nameF 0 shortNames R s).1) ∧ FInv w0 b (nameF 0 shortNames R s).2.1 (nameF 0 shortNames R s).2.2 w'
  go_enter Tryd.func81, Tryd.ntmps81
  go_wp2_with fail
  go_region_with (first | (go_at_call 79; refine (name_any w0 _ b 0 R s shortNames 7 _ (by omega) (HI.out.drawn (n := 1) rfl) (fun w' e => HC.out w' e)).mono ?_; rintro e w' ⟨rfl, hI⟩))
  all_goals
    go_wp2_with fail
    go_ret
    exact ⟨rfl, hI⟩
set_option maxHeartbeats 2000000 in
theorem reads_A (w0 w : World) (b : Nat) (R : List Int) (s : Bs) (hE : Env w0) (h : FInv w0 b R s w) : Reads w0 b 65 R s w := by
  have c6 := cell_of_one h.fm
  have c3 := cell_of_one h.pr
  have HI := Lib.hid h
  have hT := (hE.below h.below (by rw [h.base]; exact Nat.le_refl _)).wd
  have HC := Lib.hid (show ∀ w' : World, w'.heap = w.heap → Calls Tryd.prog 80 #[.string (B s), .int .i64 7, .func (.func 82) #[] #[]] w' (fun e w'' => e = .returned (nameRes s (pick s longNames)) ∧ w' = w'') from fun w' e => by
    have := cutName_long (B s) w' (hT.heap e)
    rwa [B_list] at this)
  clear h hT hE
  show Calls Tryd.prog 81 #[.int .u8 65, .pointer (some ⟨b + 6, 0, none⟩), .pointer (some ⟨b + 3, 0, none⟩), .pointer (some ⟨b + 5, 0, none⟩), .pointer (some ⟨b + 4, 0, none⟩)] w
    fun e w' => e = .returned (.bool (nameF 0 longNames R s).1) ∧ FInv w0 b (nameF 0 longNames R s).2.1 (nameF 0 longNames R s).2.2 w'
  go_enter Tryd.func81, Tryd.ntmps81
  go_wp2_with fail
  go_region_with (first | (go_at_call 79; refine (name_any w0 _ b 0 R s longNames 7 _ (by omega) (HI.out.drawn (n := 1) rfl) (fun w' e => HC.out w' e)).mono ?_; rintro e w' ⟨rfl, hI⟩))
  all_goals
    go_wp2_with fail
    go_ret
    exact ⟨rfl, hI⟩
set_option maxHeartbeats 2000000 in
theorem reads_b (w0 w : World) (b : Nat) (R : List Int) (s : Bs) (hE : Env w0) (h : FInv w0 b R s w) : Reads w0 b 98 R s w := by
  have c6 := cell_of_one h.fm
  have c3 := cell_of_one h.pr
  have HI := Lib.hid h
  have hT := (hE.below h.below (by rw [h.base]; exact Nat.le_refl _)).mn
  have HC := Lib.hid (show ∀ w' : World, w'.heap = w.heap → Calls Tryd.prog 80 #[.string (B s), .int .i64 12, .func (.func 58) #[] #[]] w' (fun e w'' => e = .returned (nameRes s (pick s monNames)) ∧ w' = w'') from fun w' e => by
    have := cutName_month (B s) w' (hT.heap e)
    rwa [B_list] at this)
  have hbd := nameF_bd 2 monNames R s (by rw [h.len]; omega) (by decide)
  obtain ⟨x, hx⟩ : ∃ x, x = (nameF 2 monNames R s).2.1.getD 2 0 := ⟨_, rfl⟩
  rw [← hx] at hbd
  have HX := Lib.hid hx
  clear h hT hE hx
  show Calls Tryd.prog 81 #[.int .u8 98, .pointer (some ⟨b + 6, 0, none⟩), .pointer (some ⟨b + 3, 0, none⟩), .pointer (some ⟨b + 5, 0, none⟩), .pointer (some ⟨b + 4, 0, none⟩)] w
    fun e w' => e = .returned (.bool (nameF 2 monNames R s).1) ∧ FInv w0 b ((nameF 2 monNames R s).2.1.set 2 ((nameF 2 monNames R s).2.1.getD 2 0 + 1)) (nameF 2 monNames R s).2.2 w'
  rw [← HX.out]
  go_enter Tryd.func81, Tryd.ntmps81
  go_wp2_with fail
  go_region_with (first | (go_at_call 79; refine (name_any w0 _ b 2 R s monNames 12 _ (by omega) (HI.out.drawn (n := 1) rfl) (fun w' e => HC.out w' e)).mono ?_; rintro e w' ⟨rfl, hI⟩))
  all_goals
    have d3 := cell_of_one hI.pr
    have dR := ints_at hI.vr 2 (by rw [hI.len]; omega)
    have gR := ints_free hI.vr 2
    rw [← HX.out] at dR
    have HJ := Lib.hid (hI.setR 2 (x + 1))
    clear hI
    go_wp2_with fail
    go_ret
    exact ⟨rfl, HJ.out⟩
set_option maxHeartbeats 2000000 in
theorem reads_y (w0 w : World) (b : Nat) (R : List Int) (s : Bs) (h : FInv w0 b R s w) : Reads w0 b 121 R s w := by
  have c5 := cell_of_one h.fn
  have c3 := cell_of_one h.pr
  have HI := Lib.hid h
  have hbd := numF_bd 1 2 R s (by rw [h.len]; omega) (by omega)
  obtain ⟨x, hx⟩ : ∃ x, x = (numF 1 2 R s).2.1.getD 1 0 := ⟨_, rfl⟩
  rw [← hx] at hbd
  have HX := Lib.hid hx
  clear h hx
  show Calls Tryd.prog 81 #[.int .u8 121, .pointer (some ⟨b + 6, 0, none⟩), .pointer (some ⟨b + 3, 0, none⟩), .pointer (some ⟨b + 5, 0, none⟩), .pointer (some ⟨b + 4, 0, none⟩)] w
    fun e w' => e = .returned (.bool (numF 1 2 R s).1) ∧ FInv w0 b ((numF 1 2 R s).2.1.set 1 (fullY ((numF 1 2 R s).2.1.getD 1 0))) (numF 1 2 R s).2.2 w'
  rw [← HX.out]
  go_enter Tryd.func81, Tryd.ntmps81
  go_wp2_with fail
  go_region_with (first | (go_at_call 77; refine (number_any w0 _ b 1 2 R s (by omega) (by omega) (HI.out.drawn (n := 1) rfl)).mono ?_; rintro e w' ⟨rfl, hI⟩))
  all_goals
    have d3 := cell_of_one hI.pr
    have dR := ints_at hI.vr 1 (by rw [hI.len]; omega)
    have gR := ints_free hI.vr 1
    rw [← HX.out] at dR
    have HJ := Lib.hid (hI.setR 1 (fullY x))
    clear hI
    go_wp2_with fail
    go_region_with (first | (go_at_call 84; refine (fullYear_any x _ (by omega) (by omega)).mono ?_; rintro e w'' ⟨rfl, rfl⟩))
    all_goals
      go_wp2_with fail
      go_ret
      exact ⟨rfl, HJ.out.drawn (n := 1) rfl⟩
end Go.Proofs.YtledjiikpajdaaaDoor.Dp
