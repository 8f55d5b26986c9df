/-
  field.Parse: what it returns. Conditions: a text of at most 2^46 bytes; the table of token bytes.
-/
import Derived.Test.YtoofdompafkddaaDoorFdParse
namespace Go.Proofs.YtoofdompafkddaaDoor.Fd
open Go.RowKit Tk
set_option linter.unusedVariables false

/-- A line's name and value, as they lie about the first colon. -/
def pName (s : ByteArray) : ByteArray := s.extract 0 (colIdx s.data.toList)
def pVal (s : ByteArray) : ByteArray := ⟨(trim (s.extract (colIdx s.data.toList + 1) s.size).data.toList).toArray⟩
def parseOk (s : ByteArray) : Bool := decide (colIdx s.data.toList < s.size) && isFld (pName s).data.toList (pVal s).data.toList
/-- What Parse answers. -/
def parseVal (s : ByteArray) : Value :=
  if parseOk s then .tuple #[FV (pName s) (pVal s), .int .i64 0] else .tuple #[FV ⟨#[]⟩ ⟨#[]⟩, .int .i64 31]

theorem pVal_size (s : ByteArray) : (pVal s).size ≤ s.size := by
  have h := trim_length (s.extract (colIdx s.data.toList + 1) s.size).data.toList
  have e : (s.extract (colIdx s.data.toList + 1) s.size).data.toList.length = (s.extract (colIdx s.data.toList + 1) s.size).size := by simp
  have e2 : (s.extract (colIdx s.data.toList + 1) s.size).size ≤ s.size := by simp
  show (trim _).toArray.size ≤ _
  rw [List.size_toArray]; omega
theorem pName_size (s : ByteArray) : (pName s).size ≤ s.size := by unfold pName; simp; omega

set_option maxHeartbeats 2000000 in
theorem parse_any (s : ByteArray) (w : World) (hs : s.size ≤ 70368744177664) (hT : Tab w) :
    Calls Tryd.prog 98 #[.string s] w fun e w' => e = .returned (parseVal s) ∧ Below w.heap.size w w' := by
  have hg := hT.lt
  by_cases hc : colIdx s.data.toList < s.size
  · have HN := Lib.hid (show s.extract 0 (colIdx s.data.toList) = pName s from rfl)
    have HV := Lib.hid (show (⟨(trim (s.extract (colIdx s.data.toList + 1) s.size).data.toList).toArray⟩ : ByteArray) = pVal s from rfl)
    have HK := Lib.hid (show cutVal s = .tuple #[.string (pName s), .string (s.extract (colIdx s.data.toList + 1) s.size), .bool true] from by unfold cutVal; rw [if_pos hc]; rfl)
    have hn := pName_size s
    have hv := pVal_size s
    obtain ⟨T, hT'⟩ : ∃ T, T = s.extract (colIdx s.data.toList + 1) s.size := ⟨_, rfl⟩
    have hts : T.size ≤ s.size := by rw [hT']; simp
    have HP := Lib.hid (show parseOk s = isFld (pName s).data.toList (pVal s).data.toList from by unfold parseOk; simp [hc])
    rw [← hT'] at HK HV
    obtain ⟨n, hn'⟩ : ∃ n, n = pName s := ⟨_, rfl⟩
    obtain ⟨v, hv'⟩ : ∃ v, v = pVal s := ⟨_, rfl⟩
    have HPV := Lib.hid (show parseVal s = if isFld n.data.toList v.data.toList then .tuple #[FV n v, .int .i64 0] else .tuple #[FV ⟨#[]⟩ ⟨#[]⟩, .int .i64 31] from by unfold parseVal; rw [HP.out, hn', hv'])
    rw [← hn'] at HK hn
    rw [← hv'] at HV hv
    clear hT' hn' hv' hc HN HP
    have HT0 := Lib.hid hT
    clear hT
    cases hh : isFld n.data.toList v.data.toList
    all_goals
      have HH := Lib.hid hh
      rw [hh] at HPV
      clear hh
      go_enter Tryd.func98, Tryd.ntmps98
      go_wp2_with fail
      refine (cut_any s _ (by unfold maxLen; omega)).mono ?_
      rintro e w1 ⟨rfl, n1, hw1⟩
      rw [HK.out]
      have hb1 : Below w.heap.size w w1 := Bl.drewN' ((Below.refl _ _).alloc (Nat.le_refl _) _) hw1
      have hr1 : w1.heap[w.heap.size]? = some (.cells #[.string ⟨#[]⟩, .string ⟨#[]⟩] 56 (0, 0)) := by rw [hw1]; exact new_block _ _
      clear hw1
      go_wp2_with fail
      refine (clone_any n _ (by omega)).mono ?_
      rintro e w2 ⟨rfl, hb2⟩
      have hB2 := Bl.next hb1 hb2
      have hr2 := Bl.old hb2 (block_lt hr1) hr1
      clear hb1 hb2 hr1
      go_wp2_with fail
      refine (trim_any T _ (by unfold maxLen; omega)).mono ?_
      rintro e w3 ⟨rfl, hb3⟩
      rw [HV.out]
      have hB3 := Bl.next hB2 hb3
      have hr3 := Bl.old hb3 (block_lt hr2) hr2
      clear hB2 hb3 hr2
      go_wp2_with fail
      have hlt3 := block_lt hr3
      refine (isField_any n v _ (by unfold maxLen; omega) (by unfold maxLen; omega) ?tab).mono ?_
      case tab => exact HT0.out.below (hB3.alloc hB3.size _) hg
      rintro e w4 ⟨rfl, hb4⟩
      rw [HH.out]
      have hB4 := (hB3.alloc hB3.size (.cells #[.string n, .string v] 56)).trans (hb4.mono (by have := hB3.size; simp; omega))
      have hr4 := Bl.old hb4 (by simp; omega) ((old_block w3 (.cells #[.string n, .string v] 56) hlt3).trans hr3)
      have hf4 := Bl.old hb4 (by simp) (new_block w3 (.cells #[.string n, .string v] 56))
      have c0 := two0 hf4
      have c1 := two1 hf4
      have f0 := free hr4 0
      have f1 := free hr4 1
      have d0 := two0 hr4
      have d1 := two1 hr4
      have hz4 := hb4.size
      clear hB3 hb4 hr3 hf4
      go_wp2_with fail
      refine bodyPost_ret (results_pair rfl _ _ w.heap.size 56 _ (0, 0) _ rfl (put2 hr4 _ _) Tryd.underlying56 rfl infoFieldSize) rfl ?_
      exact ⟨by rw [HPV.out]; rfl, put2_below hB4 (Nat.le_refl _) _ _⟩
  · have HK := Lib.hid (show cutVal s = .tuple #[.string s, .string ⟨#[]⟩, .bool false] from by unfold cutVal; rw [if_neg hc])
    have HPV := Lib.hid (show parseVal s = .tuple #[FV ⟨#[]⟩ ⟨#[]⟩, .int .i64 31] from by unfold parseVal parseOk; simp [hc])
    have HV := Lib.hid (show (⟨(trim (⟨#[]⟩ : ByteArray).data.toList).toArray⟩ : ByteArray) = ⟨#[]⟩ from rfl)
    clear hc hT
    go_enter Tryd.func98, Tryd.ntmps98
    go_wp2_with fail
    refine (cut_any s _ (by unfold maxLen; omega)).mono ?_
    rintro e w1 ⟨rfl, n1, hw1⟩
    rw [HK.out]
    have hb1 : Below w.heap.size w w1 := Bl.drewN' ((Below.refl _ _).alloc (Nat.le_refl _) _) hw1
    have hr1 : w1.heap[w.heap.size]? = some (.cells #[.string ⟨#[]⟩, .string ⟨#[]⟩] 56 (0, 0)) := by rw [hw1]; exact new_block _ _
    clear hw1
    go_wp2_with fail
    refine (clone_any s _ (by omega)).mono ?_
    rintro e w2 ⟨rfl, hb2⟩
    have hB2 := Bl.next hb1 hb2
    have hr2 := Bl.old hb2 (block_lt hr1) hr1
    clear hb1 hb2 hr1
    go_wp2_with fail
    refine (trim_any ⟨#[]⟩ _ (Nat.zero_le _)).mono ?_
    rintro e w3 ⟨rfl, hb3⟩
    rw [HV.out]
    have hB3 := Bl.next hB2 hb3
    have hr3 := Bl.old hb3 (block_lt hr2) hr2
    clear hB2 hb3 hr2
    have f0 := free hr3 0
    have f1 := free hr3 1
    have d0 := two0 hr3
    have d1 := two1 hr3
    have hlt3 := block_lt hr3
    go_wp2_with fail
    refine bodyPost_ret (results_pair rfl _ _ w.heap.size 56 _ (0, 0) _ rfl ((old_block _ _ (by simp; exact hlt3)).trans (put2 hr3 _ _)) Tryd.underlying56 rfl infoFieldSize) rfl ?_
    exact ⟨by rw [HPV.out]; rfl, (put2_below hB3 (Nat.le_refl _) _ _).alloc (by simp; exact hB3.size) _⟩
end Go.Proofs.YtoofdompafkddaaDoor.Fd
