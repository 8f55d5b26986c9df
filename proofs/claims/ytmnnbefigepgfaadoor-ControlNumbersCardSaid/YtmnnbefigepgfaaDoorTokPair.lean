/-
  token.Pair: what it returns. Conditions: a text of at most 2^47 bytes; the table of token bytes holds what the program's text lays.
-/
import Derived.Test.YtmnnbefigepgfaaDoorTokUnquote
namespace Go.Proofs.YtmnnbefigepgfaaDoor.Tk
open Go.RowKit

/-- What a call of Pair answers. -/
def pairVal (l : Bs) : Value :=
  match pairOf l with
  | none => .tuple #[.string ⟨#[]⟩, .string ⟨#[]⟩, .bool false, .bool false]
  | some (a, none) => .tuple #[.string ⟨a.toArray⟩, .string ⟨#[]⟩, .bool false, .bool true]
  | some (a, some v) => .tuple #[.string ⟨a.toArray⟩, .string ⟨v.toArray⟩, .bool true, .bool true]
theorem four_results {fn : Func} {a b c d : Tmp} (h : fn.results = #[.tmp a, .tmp b, .tmp c, .tmp d]) (tmps : Array Value) (P : Program) (w : World) :
    (results fn tmps).run P w = .ok (.tuple #[tmps.getD a undef, tmps.getD b undef, tmps.getD c undef, tmps.getD d undef]) w := by
  simp [results, h]

theorem pair_noname {l : Bs} (h : isTok (l.take (eqIdx l)) = false) : pairVal l = .tuple #[.string ⟨#[]⟩, .string ⟨#[]⟩, .bool false, .bool false] := by
  unfold pairVal pairOf; rw [if_pos h]
theorem pair_bare {l : Bs} (h : isTok (l.take (eqIdx l)) = true) (hk : eqIdx l = l.length) : pairVal l = .tuple #[.string ⟨l.toArray⟩, .string ⟨#[]⟩, .bool false, .bool true] := by
  unfold pairVal pairOf; rw [if_neg (by rw [h]; simp), if_pos hk]
theorem pair_tok {l : Bs} (h : isTok (l.take (eqIdx l)) = true) (hk : eqIdx l ≠ l.length) (ht : isTok (l.drop (eqIdx l + 1)) = true) : pairVal l = .tuple #[.string ⟨(l.take (eqIdx l)).toArray⟩, .string ⟨(l.drop (eqIdx l + 1)).toArray⟩, .bool true, .bool true] := by
  unfold pairVal pairOf; rw [if_neg (by rw [h]; simp), if_neg hk, if_pos ht]
theorem pair_quoted {l u : Bs} (h : isTok (l.take (eqIdx l)) = true) (hk : eqIdx l ≠ l.length) (ht : isTok (l.drop (eqIdx l + 1)) = false) (hu : unq (l.drop (eqIdx l + 1)) = some u) : pairVal l = .tuple #[.string ⟨(l.take (eqIdx l)).toArray⟩, .string ⟨u.toArray⟩, .bool true, .bool true] := by
  unfold pairVal pairOf; rw [if_neg (by rw [h]; simp), if_neg hk, if_neg (by rw [ht]; simp), hu]; rfl
theorem pair_bad {l : Bs} (h : isTok (l.take (eqIdx l)) = true) (hk : eqIdx l ≠ l.length) (ht : isTok (l.drop (eqIdx l + 1)) = false) (hu : unq (l.drop (eqIdx l + 1)) = none) : pairVal l = .tuple #[.string ⟨#[]⟩, .string ⟨#[]⟩, .bool false, .bool false] := by
  unfold pairVal pairOf; rw [if_neg (by rw [h]; simp), if_neg hk, if_neg (by rw [ht]; simp), hu]; rfl

theorem left_data (s : ByteArray) (k : Nat) : (s.extract 0 k).data.toList = s.data.toList.take k := by simp
theorem right_data (s : ByteArray) (k : Nat) : (s.extract k s.size).data.toList = s.data.toList.drop k := by
  simp
  apply List.take_of_length_le
  have h : s.data.toList.length = s.size := by simp
  rw [List.length_drop, h]; exact Nat.le_refl _
theorem left_text (s : ByteArray) (k : Nat) : s.extract 0 k = ⟨(s.data.toList.take k).toArray⟩ := bytes_ext' (left_data s k)
theorem right_text (s : ByteArray) (k : Nat) : s.extract k s.size = ⟨(s.data.toList.drop k).toArray⟩ := bytes_ext' (right_data s k)
theorem whole_text (s : ByteArray) : s = ⟨s.data.toList.toArray⟩ := bytes_ext' rfl
theorem Tab.drewN {w w' : World} (h : Tab w) {n : Nat} (e : w' = w.drewN n) : Tab w' := by subst e; exact h
theorem below_drawn {B : Nat} {w w' : World} {n : Nat} (e : w' = w.drewN n) : Below B w w' := by
  subst e; exact ⟨rfl, rfl, rfl, Nat.le_refl _, fun _ _ => rfl⟩

set_option maxHeartbeats 2000000 in
theorem pair_any (s : ByteArray) (w : World) (hs : s.size ≤ 140737488351232) (hT : Tab w) :
    Calls Tryd.prog 15 #[.string s] w fun e w' => e = .returned (pairVal s.data.toList) ∧ Below w.heap.size w w' := by
  have HT := Lib.hid hT
  have hlen : s.data.toList.length = s.size := by simp
  have hle := eqIdx_le s.data.toList
  obtain ⟨k, hk⟩ : ∃ k, k = eqIdx s.data.toList := ⟨_, rfl⟩
  rw [← hk] at hle
  clear hT
  by_cases hks : k < s.size
  · have HC := Lib.hid (show cutVal s = .tuple #[.string (s.extract 0 k), .string (s.extract (k + 1) s.size), .bool true] from by unfold cutVal; rw [← hk, if_pos hks])
    obtain ⟨L, hL⟩ : ∃ L : ByteArray, L = s.extract 0 k := ⟨_, rfl⟩
    obtain ⟨R, hR⟩ : ∃ R : ByteArray, R = s.extract (k + 1) s.size := ⟨_, rfl⟩
    have hLd : L.data.toList = s.data.toList.take k := by rw [hL, left_data]
    have hRd : R.data.toList = s.data.toList.drop (k + 1) := by rw [hR, right_data]
    have hLs : L.size ≤ s.size := by rw [hL]; simp; omega
    have hRs : R.size ≤ s.size := by rw [hR]; simp
    have HLt := Lib.hid (show L = ⟨(s.data.toList.take k).toArray⟩ from by rw [hL, left_text])
    have HRt := Lib.hid (show R = ⟨(s.data.toList.drop (k + 1)).toArray⟩ from by rw [hR, right_text])
    have hkl : eqIdx s.data.toList ≠ s.data.toList.length := by omega
    rw [← hL, ← hR] at HC
    cases h1 : isTok L.data.toList with
    | false =>
      have HV := Lib.hid (pair_noname (l := s.data.toList) (by rw [← hk, ← hLd]; exact h1))
      have HI := Lib.hid h1
      clear h1 hkl hLd hRd hL hR hk hlen hle
      go_enter Tryd.func15, Tryd.ntmps15
      go_wp2_with fail
      refine (cut_any s _ (by unfold maxLen; omega)).mono ?_
      rintro e w1 ⟨rfl, n1, hw1⟩
      have HW := Lib.hid hw1
      clear hw1
      rw [HC.out]
      go_wp2_with fail
      refine (is_any L _ (by unfold maxLen; omega) (HT.out.drewN HW.out)).mono ?_
      rintro e w' ⟨rfl, rfl⟩
      rw [HI.out]
      go_wp2_with fail
      refine bodyPost_ret (four_results rfl _ _ _) rfl ?_
      exact ⟨by rw [HV.out]; rfl, below_drawn HW.out⟩
    | true =>
      have hN : isTok (s.data.toList.take (eqIdx s.data.toList)) = true := by rw [← hk, ← hLd]; exact h1
      have HI := Lib.hid h1
      cases h2 : isTok R.data.toList with
      | true =>
        have HV := Lib.hid (pair_tok hN hkl (by rw [← hk, ← hRd]; exact h2))
        rw [← hk, ← HLt.out, ← HRt.out] at HV
        have HI2 := Lib.hid h2
        clear h1 h2 hkl hLd hRd hL hR hk hlen hle hN
        go_enter Tryd.func15, Tryd.ntmps15
        go_wp2_with fail
        refine (cut_any s _ (by unfold maxLen; omega)).mono ?_
        rintro e w1 ⟨rfl, n1, hw1⟩
        have HW := Lib.hid hw1
        clear hw1
        rw [HC.out]
        go_wp2_with fail
        refine (is_any L _ (by unfold maxLen; omega) (HT.out.drewN HW.out)).mono ?_
        rintro e w' ⟨rfl, rfl⟩
        rw [HI.out]
        go_wp2_with fail
        refine (is_any R _ (by unfold maxLen; omega) (HT.out.drewN HW.out)).mono ?_
        rintro e w' ⟨rfl, rfl⟩
        rw [HI2.out]
        go_wp2_with fail
        refine (clone_any L _ (by omega)).mono ?_
        rintro e w2 ⟨rfl, hb2⟩
        go_wp2_with fail
        refine (clone_any R _ (by omega)).mono ?_
        rintro e w3 ⟨rfl, hb3⟩
        have hB := ((below_drawn (B := w.heap.size) HW.out).trans (hb2.mono (below_drawn (B := w.heap.size) HW.out).size)).trans (hb3.mono (Nat.le_trans (below_drawn (B := w.heap.size) HW.out).size hb2.size))
        have HB := Lib.hid hB
        clear hb2 hb3 hB
        go_wp2_with fail
        refine bodyPost_ret (four_results rfl _ _ _) rfl ?_
        exact ⟨by rw [HV.out]; rfl, HB.out⟩
      | false =>
        have HI2 := Lib.hid h2
        cases hu : unq R.data.toList with
        | none =>
          have HV := Lib.hid (pair_bad hN hkl (by rw [← hk, ← hRd]; exact h2) (by rw [← hk, ← hRd]; exact hu))
          have HU := Lib.hid hu
          clear h1 h2 hkl hLd hRd hL hR hk hlen hle hN hu
          go_enter Tryd.func15, Tryd.ntmps15
          go_wp2_with fail
          refine (cut_any s _ (by unfold maxLen; omega)).mono ?_
          rintro e w1 ⟨rfl, n1, hw1⟩
          have HW := Lib.hid hw1
          clear hw1
          rw [HC.out]
          go_wp2_with fail
          refine (is_any L _ (by unfold maxLen; omega) (HT.out.drewN HW.out)).mono ?_
          rintro e w' ⟨rfl, rfl⟩
          rw [HI.out]
          go_wp2_with fail
          refine (is_any R _ (by unfold maxLen; omega) (HT.out.drewN HW.out)).mono ?_
          rintro e w' ⟨rfl, rfl⟩
          rw [HI2.out]
          go_wp2_with fail
          refine (unquote_any R _ (by omega)).mono ?_
          rintro e w2 ⟨hb2, h3⟩
          have hB := (below_drawn (B := w.heap.size) HW.out).trans (hb2.mono (below_drawn (B := w.heap.size) HW.out).size)
          have HB := Lib.hid hB
          clear hb2 hB
          rcases h3 with ⟨_, he⟩ | ⟨u, h, _⟩
          · rw [he]
            clear he
            go_wp2_with fail
            refine bodyPost_ret (four_results rfl _ _ _) rfl ?_
            exact ⟨by rw [HV.out]; rfl, HB.out⟩
          · have := HU.out; rw [this] at h; cases h
        | some u =>
          have HV := Lib.hid (pair_quoted hN hkl (by rw [← hk, ← hRd]; exact h2) (by rw [← hk, ← hRd]; exact hu))
          rw [← hk, ← HLt.out] at HV
          have HU := Lib.hid hu
          clear h1 h2 hkl hLd hRd hL hR hk hlen hle hN hu
          go_enter Tryd.func15, Tryd.ntmps15
          go_wp2_with fail
          refine (cut_any s _ (by unfold maxLen; omega)).mono ?_
          rintro e w1 ⟨rfl, n1, hw1⟩
          have HW := Lib.hid hw1
          clear hw1
          rw [HC.out]
          go_wp2_with fail
          refine (is_any L _ (by unfold maxLen; omega) (HT.out.drewN HW.out)).mono ?_
          rintro e w' ⟨rfl, rfl⟩
          rw [HI.out]
          go_wp2_with fail
          refine (is_any R _ (by unfold maxLen; omega) (HT.out.drewN HW.out)).mono ?_
          rintro e w' ⟨rfl, rfl⟩
          rw [HI2.out]
          go_wp2_with fail
          refine (unquote_any R _ (by omega)).mono ?_
          rintro e w2 ⟨hb2, h3⟩
          have hB := (below_drawn (B := w.heap.size) HW.out).trans (hb2.mono (below_drawn (B := w.heap.size) HW.out).size)
          clear hb2
          rcases h3 with ⟨h, _⟩ | ⟨u', h, he⟩
          · have := HU.out; rw [this] at h; cases h
          · rw [he]
            have e1 : u = u' := by have := HU.out; rw [this] at h; injection h
            clear he h
            subst e1
            go_wp2_with fail
            refine (clone_any L _ (by omega)).mono ?_
            rintro e w3 ⟨rfl, hb3⟩
            have hB3 := hB.trans (hb3.mono hB.size)
            have HB := Lib.hid hB3
            clear hb3 hB hB3
            go_wp2_with fail
            refine bodyPost_ret (four_results rfl _ _ _) rfl ?_
            exact ⟨by rw [HV.out]; rfl, HB.out⟩
  · have HC := Lib.hid (show cutVal s = .tuple #[.string s, .string ⟨#[]⟩, .bool false] from by unfold cutVal; rw [← hk, if_neg hks])
    have hkl : eqIdx s.data.toList = s.data.toList.length := by omega
    have htk : s.data.toList.take (eqIdx s.data.toList) = s.data.toList := by rw [hkl, List.take_length]
    cases h1 : isTok s.data.toList with
    | false =>
      have HV := Lib.hid (pair_noname (l := s.data.toList) (by rw [htk]; exact h1))
      have HI := Lib.hid h1
      clear h1 hkl htk hk hlen hle
      go_enter Tryd.func15, Tryd.ntmps15
      go_wp2_with fail
      refine (cut_any s _ (by unfold maxLen; omega)).mono ?_
      rintro e w1 ⟨rfl, n1, hw1⟩
      have HW := Lib.hid hw1
      clear hw1
      rw [HC.out]
      go_wp2_with fail
      refine (is_any s _ (by unfold maxLen; omega) (HT.out.drewN HW.out)).mono ?_
      rintro e w' ⟨rfl, rfl⟩
      rw [HI.out]
      go_wp2_with fail
      refine bodyPost_ret (four_results rfl _ _ _) rfl ?_
      exact ⟨by rw [HV.out]; rfl, below_drawn HW.out⟩
    | true =>
      have HV := Lib.hid (pair_bare (l := s.data.toList) (by rw [htk]; exact h1) hkl)
      rw [← whole_text s] at HV
      have HI := Lib.hid h1
      clear h1 hkl htk hk hlen hle
      go_enter Tryd.func15, Tryd.ntmps15
      go_wp2_with fail
      refine (cut_any s _ (by unfold maxLen; omega)).mono ?_
      rintro e w1 ⟨rfl, n1, hw1⟩
      have HW := Lib.hid hw1
      clear hw1
      rw [HC.out]
      go_wp2_with fail
      refine (is_any s _ (by unfold maxLen; omega) (HT.out.drewN HW.out)).mono ?_
      rintro e w' ⟨rfl, rfl⟩
      rw [HI.out]
      go_wp2_with fail
      refine (clone_any s _ (by omega)).mono ?_
      rintro e w2 ⟨rfl, hb2⟩
      have hB := (below_drawn (B := w.heap.size) HW.out).trans (hb2.mono (below_drawn (B := w.heap.size) HW.out).size)
      have HB := Lib.hid hB
      clear hb2 hB
      go_wp2_with fail
      refine bodyPost_ret (four_results rfl _ _ _) rfl ?_
      exact ⟨by rw [HV.out]; rfl, HB.out⟩
end Go.Proofs.YtmnnbefigepgfaaDoor.Tk
