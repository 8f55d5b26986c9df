/-
  framing.justChunked, told, OfRequest and OfResponse: what they return. Conditions: fields of at most 2^20 bytes; the table of token bytes.
-/
import Derived.Test.YtoofdompafkddaaDoorFrLen
import Derived.Test.YtoofdompafkddaaDoorFrShelf
namespace Go.Proofs.YtoofdompafkddaaDoor.Fr
open Go.RowKit Go.Proofs.YtoofdompafkddaaDoor.Tk Go.Proofs.YtoofdompafkddaaDoor.Fd
set_option linter.unusedVariables false

theorem justC_none {fs : List Fl} (h : namesOf (getT fs trE) = none) : justC fs = false := by unfold justC; rw [h]
theorem justC_some {fs : List Fl} {ls : List Bs} (h : namesOf (getT fs trE) = some ls) : justC fs = (ls == [chk]) := by unfold justC; rw [h]
theorem texts_eq (ls : List Bs) : decide (ls.map (fun x : Bs => (⟨x.toArray⟩ : ByteArray)) = [⟨#[99, 104, 117, 110, 107, 101, 100]⟩]) = (ls == [chk]) := by
  rw [Bool.eq_iff_iff, decide_eq_true_eq, beq_iff_eq]
  constructor
  · intro h
    cases ls with
    | nil => simp at h
    | cons x r =>
      simp only [List.map_cons, List.cons.injEq, List.map_eq_nil_iff] at h
      obtain ⟨h1, rfl⟩ := h
      have : x = chk := by
        have h2 := congrArg (fun s : ByteArray => s.data.toList) h1
        simpa [chk] using h2
      rw [this]
  · rintro rfl; rfl
set_option maxRecDepth 100000 in
set_option maxHeartbeats 4000000 in
theorem just_any (v : Value) (fs : List Fl) (w : World) (hf : Flds w v fs) (ht : tot fs ≤ 1048576) (hT : Tab w) :
    Calls Tryd.prog 77 #[v] w fun e w' => e = .returned (.bool (justC fs)) ∧ Below w.heap.size w w' := by
  have HN := Lib.hid (show Calls Tryd.prog 110 #[v, .string ⟨#[84, 114, 97, 110, 115, 102, 101, 114, 45, 69, 110, 99, 111, 100, 105, 110, 103]⟩] w (NamesPost (getT fs trE) w) from names_any v fs _ w hf ht (by decide) hT)
  have hgl := getT_length fs trE
  have htl := hT.lt
  clear hf hT
  go_enter Tryd.func77, Tryd.ntmps77
  go_wp2_with fail
  refine HN.out.mono ?_
  rintro e w1 ⟨hb1, ⟨hn, rfl⟩ | ⟨ls, u, hn, rfl, ho⟩⟩
  · have HJ := Lib.hid (justC_none hn)
    have HB1 := Lib.hid hb1
    clear hn hb1 HN
    go_wp2_with fail
    go_ret
    exact ⟨by rw [HJ.out]; rfl, HB1.out⟩
  · have HJ := Lib.hid (justC_some hn)
    have HB1 := Lib.hid hb1
    have hll := names_length hn
    have HNB := Lib.hid (new_block w1 (.cells #[.string ⟨#[99, 104, 117, 110, 107, 101, 100]⟩] 9))
    have HBA := Lib.hid ((Below.refl w1.heap.size w1).alloc (Nat.le_refl _) (.cells #[.string ⟨#[99, 104, 117, 110, 107, 101, 100]⟩] 9))
    have HO := Lib.hid ho
    clear hb1 hn HN
    by_cases h0 : ls.length = 0
    · obtain rfl : ls = [] := List.length_eq_zero_iff.1 h0
      obtain ⟨a, cap, hu⟩ : ∃ a cap, u = .slice a 0 cap := by
        rcases ho.2 with ⟨hv, _⟩ | ⟨g, cap, cur, hv, _⟩
        · exact ⟨none, 0, hv⟩
        · exact ⟨_, cap, hv⟩
      subst hu
      clear ho HO hll h0
      go_wp2_with fail
      refine (Fs.slices_Equal_string_empty a (some ⟨w1.heap.size, 0, none⟩) cap 1 1 _ (by decide)).mono ?_
      rintro e w2 ⟨rfl, rfl⟩
      go_wp2_with fail
      go_ret
      exact ⟨by rw [HJ.out]; rfl, HB1.out.trans (HBA.out.mono HB1.out.size)⟩
    · obtain ⟨g, cap, hu⟩ : ∃ g cap, u = .slice (some ⟨g, 0, none⟩) ls.length cap := by
        rcases ho.2 with ⟨_, h⟩ | ⟨g, cap, cur, hv, _⟩
        · exact absurd h h0
        · exact ⟨g, cap, hv⟩
      subst hu
      have HE := Lib.hid (texts_eq ls)
      clear ho h0
      go_wp2_with fail
      refine (Fs.slices_Equal_string g 0 ls.length cap w1.heap.size 0 1 1 (ls.map (fun x : Bs => (⟨x.toArray⟩ : ByteArray))) [⟨#[99, 104, 117, 110, 107, 101, 100]⟩] _ (by simp) (by simp) (by omega) (by decide) (fun j hj => ?_) (fun j hj => ?_)).mono ?_
      · have hjl : j < ls.length := by simpa using hj
        have hk := owns_kept HO.out HBA.out
        rw [Nat.zero_add, World.ownsRow.cellAt hk j (by omega), List.getElem?_map, List.getElem?_eq_getElem hjl]
        simp [List.getD, hjl, TS]
      · have : j = 0 := by simpa using hj
        subst this
        rw [Lib.cell_of_heap HNB.out]; rfl
      · rintro e w2 ⟨rfl, q, rfl⟩
        rw [show ((ls.map (fun x : Bs => (⟨x.toArray⟩ : ByteArray))).take ls.length) = ls.map (fun x : Bs => (⟨x.toArray⟩ : ByteArray)) from List.take_of_length_le (by simp), show ([⟨#[99, 104, 117, 110, 107, 101, 100]⟩] : List ByteArray).take 1 = [⟨#[99, 104, 117, 110, 107, 101, 100]⟩] from rfl, HE.out, ← HJ.out]
        go_wp2_with fail
        go_ret
        exact ⟨rfl, Bl.drewN (HB1.out.trans (HBA.out.mono HB1.out.size)) q⟩
def TriPost (R : Int × Int × Int) (w : World) (e : Ending) (w' : World) : Prop := e = .returned (.tuple #[.int .i64 R.1, .int .i64 R.2.1, .int .i64 R.2.2]) ∧ Below w.heap.size w w'
theorem tri_post {R : Int × Int × Int} {a b c : Int} {w w' : World} (h : R = (a, b, c)) (hb : Below w.heap.size w w') : TriPost R w (.returned (.tuple #[.int .i64 a, .int .i64 b, .int .i64 c])) w' := by
  unfold TriPost; rw [h]; exact ⟨rfl, hb⟩
theorem toldVal_bad {m : Int} {fs : List Fl} {s : Int} (h : 0 < getN fs trE) (h2 : m = 0 ∨ 0 < getN fs coL ∨ justC fs = false) : toldVal m fs s = (0, 0, 32) := by unfold toldVal; rw [if_pos h, if_pos h2]
theorem toldVal_chunk {m : Int} {fs : List Fl} {s : Int} (h : 0 < getN fs trE) (h2 : ¬ (m = 0 ∨ 0 < getN fs coL ∨ justC fs = false)) : toldVal m fs s = (2, 0, 0) := by unfold toldVal; rw [if_pos h, if_neg h2]
theorem toldVal_silent {m : Int} {fs : List Fl} {s : Int} (h : ¬ 0 < getN fs trE) (h2 : getN fs coL = 0) : toldVal m fs s = (s, 0, 0) := by unfold toldVal; rw [if_neg h, if_pos h2]
theorem toldVal_len {m : Int} {fs : List Fl} {s : Int} (h : ¬ 0 < getN fs trE) (h2 : ¬ getN fs coL = 0) : toldVal m fs s = if (lenVal (getT fs coL)).2 = 0 then (1, (lenVal (getT fs coL)).1, 0) else (0, 0, (lenVal (getT fs coL)).2) := by unfold toldVal; rw [if_neg h, if_neg h2]
set_option maxRecDepth 100000 in
set_option maxHeartbeats 8000000 in
theorem told_any (m silent : Int) (v : Value) (fs : List Fl) (w : World) (hf : Flds w v fs) (ht : tot fs ≤ 524288) (hT : Tab w) :
    Calls Tryd.prog 53 #[.int .i64 m, v, .int .i64 silent] w (TriPost (toldVal m fs silent) w) := by
  have HG1 := Lib.hid (show Calls Tryd.prog 76 #[v, .string ⟨#[84, 114, 97, 110, 115, 102, 101, 114, 45, 69, 110, 99, 111, 100, 105, 110, 103]⟩] w (fun e w' => e = .returned (getVal fs trE) ∧ Below w.heap.size w w') from get_any v fs _ w hf (by omega) (by decide))
  have HF := Lib.hid hf
  have HT := Lib.hid hT
  have htl := hT.lt
  have hgl := getT_length fs coL
  obtain ⟨c, hc⟩ : ∃ c, c = getN fs trE := ⟨_, rfl⟩
  obtain ⟨n, hn⟩ : ∃ n, n = getN fs coL := ⟨_, rfl⟩
  obtain ⟨T1, hT1⟩ : ∃ T1 : ByteArray, T1 = ⟨(getT fs trE).toArray⟩ := ⟨_, rfl⟩
  obtain ⟨T2, hT2⟩ : ∃ T2 : ByteArray, T2 = ⟨(getT fs coL).toArray⟩ := ⟨_, rfl⟩
  have hv1 : getVal fs trE = .tuple #[.string T1, .int .i64 (c : Int)] := by rw [hc, hT1]; rfl
  have hv2 : getVal fs coL = .tuple #[.string T2, .int .i64 (n : Int)] := by rw [hn, hT2]; rfl
  rw [hv1] at HG1
  have HV2 := Lib.hid hv2
  have HC := Lib.hid hc
  have HN := Lib.hid hn
  have HT2 := Lib.hid hT2
  clear hf hT hc hn hT1 hT2 hv1 hv2
  go_enter Tryd.func53, Tryd.ntmps53
  go_wp2_with fail
  refine HG1.out.mono ?_
  rintro e w1 ⟨rfl, hb1⟩
  have HB1 := Lib.hid hb1
  have HG2 := Lib.hid (show Calls Tryd.prog 76 #[v, .string ⟨#[67, 111, 110, 116, 101, 110, 116, 45, 76, 101, 110, 103, 116, 104]⟩] w1 (fun e w' => e = .returned (getVal fs coL) ∧ Below w1.heap.size w1 w') from get_any v fs _ w1 (HF.out.below hb1 (Nat.le_refl _)) (by omega) (by decide))
  rw [HV2.out] at HG2
  have hs1 := hb1.size
  clear hb1 HG1
  go_wp2_with fail
  refine HG2.out.mono ?_
  rintro e w2 ⟨rfl, hb2⟩
  have HB2 := Lib.hid (HB1.out.trans (hb2.mono hs1))
  have hs2 : w.heap.size ≤ w2.heap.size := HB2.out.size
  clear hb2 HG2 HB1
  by_cases hcp : 0 < c
  · by_cases hm0 : m = 0
    · subst hm0
      have HP := Lib.hid (tri_post (toldVal_bad (m := 0) (s := silent) (by rw [← HC.out]; exact hcp) (.inl rfl)) HB2.out)
      go_wp2_with fail
      go_ret3
      exact HP.out
    · have hm1 : (m == 0) = false := by rw [beq_eq_false_iff_ne]; exact hm0
      by_cases hnp : 0 < n
      · have HP := Lib.hid (tri_post (toldVal_bad (m := m) (s := silent) (by rw [← HC.out]; exact hcp) (.inr (.inl (by rw [← HN.out]; exact hnp)))) HB2.out)
        go_wp2_with fail
        go_ret3
        exact HP.out
      · have HJ := Lib.hid (just_any v fs w2 (HF.out.below HB2.out (Nat.le_refl _)) (by omega) (HT.out.below HB2.out htl))
        obtain ⟨J, hJ⟩ : ∃ J, J = justC fs := ⟨_, rfl⟩
        rw [← hJ] at HJ
        have HJ2 := Lib.hid hJ
        clear hJ
        go_wp2_with fail
        refine HJ.out.mono ?_
        rintro e w3 ⟨rfl, hb3⟩
        have HB3 := Lib.hid (HB2.out.trans (hb3.mono hs2))
        clear hb3 HJ
        cases J with
        | false =>
          have HP := Lib.hid (tri_post (toldVal_bad (m := m) (s := silent) (by rw [← HC.out]; exact hcp) (.inr (.inr HJ2.out.symm))) HB3.out)
          clear HJ2
          go_wp2_with fail
          go_ret3
          exact HP.out
        | true =>
          have HP := Lib.hid (tri_post (toldVal_chunk (m := m) (s := silent) (by rw [← HC.out]; exact hcp) (by rw [← HN.out, ← HJ2.out]; simp; exact ⟨hm0, by omega⟩)) HB3.out)
          clear HJ2
          go_wp2_with fail
          go_ret3
          exact HP.out
  · by_cases hn0 : n = 0
    · have HP := Lib.hid (tri_post (toldVal_silent (m := m) (s := silent) (by rw [← HC.out]; exact hcp) (by rw [← HN.out]; exact hn0)) HB2.out)
      subst hn0
      go_wp2_with fail
      go_ret3
      exact HP.out
    · have hn1' : ((n : Int) == 0) = false := by rw [beq_eq_false_iff_ne]; omega
      have hTL := toldVal_len (m := m) (fs := fs) (s := silent) (by rw [← HC.out]; exact hcp) (by rw [← HN.out]; exact hn0)
      have HL := Lib.hid (length_any T2 w2 (by rw [HT2.out]; simp [ByteArray.size]; omega))
      have hlv : T2.data.toList = getT fs coL := by rw [HT2.out]
      rw [hlv] at HL
      obtain ⟨R, hR⟩ : ∃ R, R = lenVal (getT fs coL) := ⟨_, rfl⟩
      rw [← hR] at hTL
      have HL2 := Lib.hid (show Calls Tryd.prog 78 #[.string T2] w2 (fun e w' => e = .returned (.tuple #[.int .i64 R.1, .int .i64 R.2]) ∧ Below w2.heap.size w2 w') from by rw [hR]; exact HL.out)
      have HTL := Lib.hid hTL
      clear HL hlv hR hTL
      obtain ⟨N, E⟩ := R
      go_wp2_with fail
      refine HL2.out.mono ?_
      rintro e w3 ⟨rfl, hb3⟩
      have HB3 := Lib.hid (HB2.out.trans (hb3.mono hs2))
      clear hb3 HL2
      by_cases hE : E = 0
      · subst hE
        have HP := Lib.hid (tri_post (HTL.out.trans (if_pos rfl)) HB3.out)
        clear HTL
        go_wp2_with fail
        go_ret3
        exact HP.out
      · have HP := Lib.hid (tri_post (HTL.out.trans (if_neg hE)) HB3.out)
        have hE1 : (E != 0) = true := by rw [bne_iff_ne]; exact hE
        clear HTL
        go_wp2_with fail
        go_ret3
        exact HP.out
end Go.Proofs.YtoofdompafkddaaDoor.Fr
