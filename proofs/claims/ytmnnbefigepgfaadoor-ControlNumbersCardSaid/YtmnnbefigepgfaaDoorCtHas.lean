/-
  slices.Index and slices.Contains of texts: what each returns. Condition: a list of a call's own, of at most 2^40 texts.
-/
import Derived.Test.YtmnnbefigepgfaaDoorCtSt
namespace Go.Proofs.YtmnnbefigepgfaaDoor.Ct
open Go.RowKit Go.Proofs.YtmnnbefigepgfaaDoor.Tk Go.Proofs.YtmnnbefigepgfaaDoor.Fd Go.Proofs.YtmnnbefigepgfaaDoor.Hd
set_option linter.unusedVariables false

theorem any_take (ls : List Bs) (y : Bs) (k : Nat) (hk : k < ls.length) (h : (ls.take k).any (· == y) = false) (hx : (ls[k] == y) = false) : (ls.take (k + 1)).any (· == y) = false := by
  rw [List.take_succ_eq_append_getElem hk, List.any_append, h]; simp [hx]
theorem any_at (ls : List Bs) (y : Bs) (k : Nat) (hk : k < ls.length) (hx : (ls[k] == y) = true) : ls.any (· == y) = true := List.any_eq_true.2 ⟨_, List.getElem_mem hk, hx⟩

set_option maxHeartbeats 4000000 in
theorem index_any (v : Value) (ls : List Bs) (x : ByteArray) (w : World) (base : Nat) (h : w.ownsRow base 9 1 v ls.length (ls.map TS)) (hl : ls.length ≤ 1099511627776) :
    Calls Tryd.prog 56 #[v, .string x] w fun e w' => (∃ r : Int, e = .returned (.int .i64 r) ∧ (decide (0 ≤ r)) = ls.any (· == x.data.toList)) ∧ w = w' := by
  have HO := Lib.hid h
  obtain ⟨a, cap, hv, ha⟩ : ∃ a cap, v = .slice a ls.length cap ∧ (0 < ls.length → ∃ b, a = some ⟨b, 0, none⟩) := by
    rcases h.2 with ⟨hv, h0⟩ | ⟨b, cap, cur, hv, _⟩
    · exact ⟨none, 0, by rw [hv, h0], fun h => by omega⟩
    · exact ⟨_, cap, hv, fun _ => ⟨b, rfl⟩⟩
  subst hv
  clear h
  go_enter Tryd.func56, Tryd.ntmps56
  go_wp2_with fail
  go_loopw [8] (fun i wr => ∃ k : Nat, k ≤ ls.length ∧ i = .int .i64 (k : Int) ∧ (ls.take k).any (· == x.data.toList) = false ∧ w = wr) (fun i _ => ls.length - (intOf i).toNat)
  case atStart => exact ⟨0, Nat.zero_le _, rfl, rfl, rfl⟩
  case round =>
    obtain ⟨k, hk, rfl, hal, rfl⟩ := hrel
    have HAL := Lib.hid hal
    clear hal
    by_cases hlt2 : k < ls.length
    · obtain ⟨b, rfl⟩ := ha (by omega)
      have c1 : w.cell? ⟨b, k, none⟩ = some (.string ⟨ls[k].toArray⟩) := by
        rw [HO.out.cellAt k (by omega), List.getElem?_map, List.getElem?_eq_getElem hlt2]; rfl
      obtain ⟨T, hT⟩ : ∃ T : ByteArray, T = ⟨ls[k].toArray⟩ := ⟨_, rfl⟩
      have hTl : T.data.toList = ls[k] := by rw [hT]
      rw [← hT] at c1
      cases hq : (ls[k] == x.data.toList) with
      | true =>
        have e1 : (x.toList == T.toList) = true := by
          rw [ByteArray.toList_eq, ByteArray.toList_eq, hTl, (beq_iff_eq.1 hq)]; simp
        have HA := Lib.hid (any_at ls x.data.toList k hlt2 hq)
        clear hq hT hTl
        go_wp2_with fail
        go_ret
        exact ⟨⟨k, rfl, by rw [HA.out]; simp⟩, rfl⟩
      | false =>
        have e1 : (x.toList == T.toList) = false := by
          rw [ByteArray.toList_eq, ByteArray.toList_eq, hTl]
          have := beq_eq_false_iff_ne.1 hq
          exact beq_eq_false_iff_ne.2 (fun e => this e.symm)
        have HA := Lib.hid (any_take ls x.data.toList k hlt2 HAL.out hq)
        clear hq hT hTl
        go_wp2_with fail
        go_roundw
        case rel => exact ⟨k + 1, by omega, by go_num, HA.out, trivial⟩
        case measure => simp [intOf]; omega
    · have hA := HAL.out
      rw [List.take_of_length_le (by omega)] at hA
      have HA := Lib.hid hA
      clear hA HAL
      go_wp2_with fail
      go_ret
      exact ⟨⟨-1, rfl, by rw [HA.out]; rfl⟩, rfl⟩
set_option maxHeartbeats 4000000 in
theorem contains_any (v : Value) (ls : List Bs) (x : ByteArray) (w : World) (base : Nat) (h : w.ownsRow base 9 1 v ls.length (ls.map TS)) (hl : ls.length ≤ 1099511627776) :
    Calls Tryd.prog 42 #[v, .string x] w fun e w' => e = .returned (.bool (ls.any (· == x.data.toList))) ∧ w = w' := by
  have HC := Lib.hid (index_any v ls x w base h hl)
  clear h
  go_enter Tryd.func42, Tryd.ntmps42
  go_wp2_with fail
  refine HC.out.mono ?_
  rintro e w1 ⟨⟨r, rfl, hr⟩, rfl⟩
  have HR := Lib.hid hr
  clear hr
  go_wp2_with fail
  go_ret
  exact ⟨by rw [← HR.out]; rfl, rfl⟩
end Go.Proofs.YtmnnbefigepgfaaDoor.Ct
