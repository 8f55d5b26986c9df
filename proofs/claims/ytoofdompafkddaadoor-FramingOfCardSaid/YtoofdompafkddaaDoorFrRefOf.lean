/-
  The reference's length, of, OfRequest and OfResponse: what they return. Conditions: fields of at most 2^19 bytes.
-/
import Derived.Test.YtoofdompafkddaaDoorFrOf
import Derived.Test.YtoofdompafkddaaDoorFdRefNames
namespace Go.Proofs.YtoofdompafkddaaDoor.Fr
open Go.RowKit Go.Proofs.YtoofdompafkddaaDoor.Tk Go.Proofs.YtoofdompafkddaaDoor.Fd
set_option linter.unusedVariables false

def RLenPost (t : Bs) (w : World) (e : Ending) (w' : World) : Prop := e = .returned (.tuple #[.int .i64 (lenVal t).1, .bool true, .int .i64 (lenVal t).2]) ∧ Below w.heap.size w w'
theorem rlen_post {t : Bs} {a b : Int} {w w' : World} (h : lenVal t = (a, b)) (hb : Below w.heap.size w w') : RLenPost t w (.returned (.tuple #[.int .i64 a, .bool true, .int .i64 b])) w' := by
  unfold RLenPost; rw [h]; exact ⟨rfl, hb⟩
def RLPost (c : Nat) (t : Bs) (w : World) (e : Ending) (w' : World) : Prop := (c = 0 ∧ e = .returned (.tuple #[.int .i64 0, .bool false, .int .i64 0]) ∧ Below w.heap.size w w') ∨ (0 < c ∧ RLenPost t w e w')
theorem rl_post {c : Nat} {t : Bs} {w w' : World} {e : Ending} (h : 0 < c) (hp : RLenPost t w e w') : RLPost c t w e w' := .inr ⟨h, hp⟩
theorem rl_zero {t : Bs} {w w' : World} (hb : Below w.heap.size w w') : RLPost 0 t w (.returned (.tuple #[.int .i64 0, .bool false, .int .i64 0])) w' := .inl ⟨rfl, rfl, hb⟩
theorem coL_get (fs : List Fl) : getVal fs coL' = getVal fs coL := by unfold getVal; rw [getT_alike coL_low, getN_alike coL_low]
theorem trE_get (fs : List Fl) : getVal fs trE' = getVal fs trE := by unfold getVal; rw [getT_alike trE_low, getN_alike trE_low]
set_option maxRecDepth 100000 in
set_option maxHeartbeats 8000000 in
theorem rlength_any (v : Value) (fs : List Fl) (w : World) (hf : Flds w v fs) (ht : tot fs ≤ 524288) :
    Calls Tryd.prog 79 #[v] w (RLPost (getN fs coL) (getT fs coL) w) := by
  have HG1 := Lib.hid (show Calls Tryd.prog 80 #[v, .string ⟨#[99, 111, 110, 116, 101, 110, 116, 45, 108, 101, 110, 103, 116, 104]⟩] w (fun e w' => e = .returned (getVal fs coL) ∧ Below w.heap.size w w') from by
    rw [← coL_get]; exact refGet_any v fs _ w hf (by omega) (by decide))
  have hgl := getT_length fs coL
  obtain ⟨c, hc⟩ : ∃ c, c = getN fs coL := ⟨_, rfl⟩
  obtain ⟨s, hs0⟩ : ∃ s : ByteArray, s = ⟨(getT fs coL).toArray⟩ := ⟨_, rfl⟩
  have hv1 : getVal fs coL = .tuple #[.string s, .int .i64 (c : Int)] := by rw [hc, hs0]; rfl
  rw [hv1] at HG1
  obtain ⟨t, ht0⟩ : ∃ t, t = getT fs coL := ⟨_, rfl⟩
  have hsl : t.length = s.size := by rw [ht0, hs0]; simp [ByteArray.size]
  have hs : s.size ≤ 1048576 := by rw [← hsl, ht0]; omega
  have HS := Lib.hid (fun W : World => (show Calls Tryd.prog 114 #[.string s] W (SplitPost t W) from by
    have : s.data.toList = t := by rw [hs0, ht0]
    rw [← this]; exact refSplit_any s W (by omega)))
  rw [← hc, ← ht0]
  clear hf hc hs0 hv1 ht0 hgl
  go_enter Tryd.func79, Tryd.ntmps79
  go_wp2_with fail
  refine HG1.out.mono ?_
  rintro e w0 ⟨rfl, hb0⟩
  have HB0 := Lib.hid hb0
  have hs00 := hb0.size
  clear hb0 HG1
  by_cases h00 : c = 0
  · subst h00
    go_wp2_with fail
    go_ret3
    exact rl_zero HB0.out
  have hc0 : ((c : Int) == 0) = false := by rw [beq_eq_false_iff_ne]; omega
  have hcp : 0 < c := by omega
  go_wp2_with fail
  refine (HS.out w0).mono ?_
  rintro e w1 ⟨hb1', ⟨hn, rfl⟩ | ⟨ls, u, hn, rfl, ho⟩⟩
  · have HP := Lib.hid (rlen_post (lenVal_none hn) (HB0.out.trans (hb1'.mono hs00)))
    clear hb1' hn HS
    go_wp2_with fail
    go_ret3
    exact rl_post hcp HP.out
  · have hb1 := HB0.out.trans (hb1'.mono hs00)
    have HB1 := Lib.hid hb1
    clear hb1'
    have HN := Lib.hid hn
    have hll := split_length hn
    have HPc := Lib.hid (split_piece hn)
    clear hb1 HS
    by_cases h0 : ls = []
    · subst h0
      obtain ⟨a, cap, hu⟩ : ∃ a cap, u = .slice a 0 cap := by
        rcases ho.2 with ⟨hv, _⟩ | ⟨g, cap, cur, hv, _⟩
        · exact ⟨none, 0, hv⟩
        · exact ⟨_, cap, hv⟩
      subst hu
      have HP := Lib.hid (rlen_post (lenVal_empty hn) HB1.out)
      clear hn ho hll
      go_wp2_with fail
      go_ret3
      exact rl_post hcp HP.out
    · have hpos : 0 < ls.length := List.length_pos_iff.2 h0
      obtain ⟨g, cap, hu⟩ : ∃ g cap, u = .slice (some ⟨g, 0, none⟩) ls.length cap := by
        rcases ho.2 with ⟨_, h⟩ | ⟨g, cap, cur, hv, _⟩
        · omega
        · exact ⟨g, cap, hv⟩
      subst hu
      have HO := Lib.hid ho
      have H0 := Lib.hid h0
      have hne : ((ls.length : Int) == 0) = false := by rw [beq_eq_false_iff_ne]; omega
      clear hn ho h0
      go_wp2_with fail
      go_loopw [9, 10] (fun o i wr => ∃ (k : Nat) (n : Int), i = .int .i64 (k : Int) ∧ o = .int .i64 n ∧ NumAt ls k n ∧ w1 = wr) (fun _ i _ => ls.length - (intOf i).toNat)
      case atStart => exact ⟨0, 0, rfl, rfl, ⟨Nat.zero_le _, by simp⟩, rfl⟩
      case round =>
        obtain ⟨k, n, rfl, rfl, hA, rfl⟩ := hrel
        have HA := Lib.hid hA
        have hkl := hA.1
        clear hA
        by_cases hlt : k < ls.length
        · have hxz := HPc.out ls[k] (List.getElem_mem hlt)
          have c1 : w1.cell? ⟨g, k, none⟩ = some (.string ⟨ls[k].toArray⟩) := by rw [World.ownsRow.cellAt HO.out k (by omega), List.getElem?_map, List.getElem?_eq_getElem hlt]; rfl
          obtain ⟨x, hx⟩ : ∃ x : ByteArray, x = ⟨ls[k].toArray⟩ := ⟨_, rfl⟩
          have hxs : x.size ≤ maxLen := by rw [hx]; show ls[k].toArray.size ≤ _; rw [List.size_toArray]; unfold maxLen; omega
          have HXS := Lib.hid hxs
          obtain ⟨R, hR⟩ : ∃ R, R = Num.numOf x 1099511627776 := ⟨_, rfl⟩
          have HR := Lib.hid (show numT ls[k] = R from by rw [hR, hx]; rfl)
          have HC := Lib.hid (show Calls Tryd.prog 102 #[.string x, .int .i64 1099511627776] w1 (fun e w' => e = .returned (.tuple #[.int .i64 R.1, .bool R.2]) ∧ w1 = w') from by rw [hR]; exact Num.refNumber_any x _ w1 hxs (by omega) (by omega))
          rw [← hx] at c1
          clear hx hxz hxs hR
          obtain ⟨N, B⟩ := R
          go_wp2_with fail
          refine HC.out.mono ?_
          rintro e w3 ⟨rfl, rfl⟩
          have HI := HR.out
          by_cases hbad : B = false ∨ (0 < k ∧ N ≠ n)
          · have HP := Lib.hid (rlen_post (lenVal_bad HN.out (HA.out.bad hlt (by rw [HI]; exact hbad))) HB1.out)
            rcases hbad with rfl | ⟨hk0, hNn⟩
            · clear HI HC
              go_wp2_with fail
              go_ret3
              exact rl_post hcp HP.out
            · have hne2 : (N != n) = true := by rw [bne_iff_ne]; exact hNn
              clear HI HC hNn
              cases B with
              | false =>
                go_wp2_with fail
                go_ret3
                exact rl_post hcp HP.out
              | true =>
                go_wp2_with fail
                go_ret3
                exact rl_post hcp HP.out
          · have HX := Lib.hid (show NumAt ls (k + 1) N from by have := HA.out.next hlt (by rw [HI]; exact hbad); rwa [HI] at this)
            obtain rfl : B = true := by
              cases B with
              | true => rfl
              | false => exact absurd (.inl rfl) hbad
            by_cases hk0 : k = 0
            · subst hk0
              clear HI HC hbad
              go_wp2_with fail
              go_roundw
              case rel => exact ⟨0 + 1, N, by go_num, rfl, HX.out, by first | rfl | trivial⟩
              case measure => simp [intOf]; omega
            · have hNn : (N != n) = false := by
                by_cases h : N = n
                · subst h; simp
                · exact absurd (.inr ⟨by omega, h⟩) hbad
              have hk1 : 0 < k := by omega
              clear HI HC hbad hk0
              go_wp2_with fail
              go_roundw
              case rel => exact ⟨k + 1, N, by go_num, rfl, HX.out, by first | rfl | trivial⟩
              case measure => simp [intOf]; omega
        · have HL := Lib.hid (HA.out.last hlt)
          by_cases hbig : 1048576 < n
          · have HP := Lib.hid (rlen_post (lenVal_big HN.out H0.out HL.out hbig) HB1.out)
            go_wp2_with fail
            go_ret3
            exact rl_post hcp HP.out
          · have HP := Lib.hid (rlen_post (lenVal_ok HN.out H0.out HL.out hbig) HB1.out)
            go_wp2_with fail
            go_ret3
            exact rl_post hcp HP.out
theorem names_form {w : World} {base : Nat} {u : Value} {ls : List Bs} (h : w.ownsRow base 9 1 u ls.length (ls.map TS)) : (ls = [] ∧ ∃ a cap, u = .slice a 0 cap) ∨ ∃ g cap x r, ls = x :: r ∧ u = .slice (some ⟨g, 0, none⟩) ls.length cap ∧ w.cell? ⟨g, 0, none⟩ = some (.string ⟨x.toArray⟩) := by
  cases ls with
  | nil =>
    left
    refine ⟨rfl, ?_⟩
    rcases h.2 with ⟨hv, _⟩ | ⟨g, cap, cur, hv, _⟩
    · exact ⟨none, 0, hv⟩
    · exact ⟨_, cap, hv⟩
  | cons x r =>
    right
    rcases h.2 with ⟨_, h0⟩ | ⟨g, cap, cur, hv, _⟩
    · simp at h0
    · subst hv
      refine ⟨g, cap, x, r, rfl, rfl, ?_⟩
      rw [World.ownsRow.cellAt h 0 (by simp)]; rfl
set_option maxRecDepth 100000 in
set_option maxHeartbeats 8000000 in
theorem rof_any (m last : Int) (v : Value) (fs : List Fl) (w : World) (hf : Flds w v fs) (ht : tot fs ≤ 524288) :
    Calls Tryd.prog 54 #[.int .i64 m, v, .int .i64 last] w (TriPost (toldVal m fs last) w) := by
  have HL := Lib.hid (rlength_any v fs w hf ht)
  have HF := Lib.hid hf
  obtain ⟨c, hc⟩ : ∃ c, c = getN fs trE := ⟨_, rfl⟩
  obtain ⟨n, hn⟩ : ∃ n, n = getN fs coL := ⟨_, rfl⟩
  obtain ⟨T1, hT1⟩ : ∃ T1 : ByteArray, T1 = ⟨(getT fs trE).toArray⟩ := ⟨_, rfl⟩
  have hv1 : getVal fs trE = .tuple #[.string T1, .int .i64 (c : Int)] := by rw [hc, hT1]; rfl
  have HV1 := Lib.hid hv1
  have HC := Lib.hid hc
  have HN := Lib.hid hn
  obtain ⟨R, hR⟩ : ∃ R, R = lenVal (getT fs coL) := ⟨_, rfl⟩
  obtain ⟨N, E⟩ := R
  have HR := Lib.hid hR
  rw [← hn] at HL
  clear hf hc hn hT1 hv1 hR
  go_enter Tryd.func54, Tryd.ntmps54
  go_wp2_with fail
  refine HL.out.mono ?_
  intro e w1 hp
  have hb1 : Below w.heap.size w w1 := by
    rcases hp with ⟨_, _, h⟩ | ⟨_, _, h⟩
    · exact h
    · exact h
  have HB1 := Lib.hid hb1
  have hs1 := hb1.size
  obtain ⟨N', B, E', rfl, hNBE⟩ : ∃ (N' : Int) (B : Bool) (E' : Int), e = .returned (.tuple #[.int .i64 N', .bool B, .int .i64 E']) ∧ ((n = 0 ∧ N' = 0 ∧ B = false ∧ E' = 0) ∨ (0 < n ∧ N' = N ∧ B = true ∧ E' = E)) := by
    rcases hp with ⟨h0, he, _⟩ | ⟨h0, he, _⟩
    · exact ⟨0, false, 0, he, .inl ⟨h0, rfl, rfl, rfl⟩⟩
    · exact ⟨N, true, E, by rw [he, ← HR.out], .inr ⟨h0, rfl, rfl, rfl⟩⟩
  have HNBE := Lib.hid hNBE
  have HG1 := Lib.hid (show Calls Tryd.prog 80 #[v, .string ⟨#[116, 114, 97, 110, 115, 102, 101, 114, 45, 101, 110, 99, 111, 100, 105, 110, 103]⟩] w1 (fun e w' => e = .returned (getVal fs trE) ∧ Below w1.heap.size w1 w') from by
    rw [← trE_get]; exact refGet_any v fs _ w1 (HF.out.below hb1 (Nat.le_refl _)) (by omega) (by decide))
  rw [HV1.out] at HG1
  clear hp hb1 hNBE HL
  go_wp2_with fail
  refine HG1.out.mono ?_
  rintro e w2 ⟨rfl, hb2⟩
  have HB2 := Lib.hid (HB1.out.trans (hb2.mono hs1))
  have hs2 : w.heap.size ≤ w2.heap.size := HB2.out.size
  have HNM := Lib.hid (show Calls Tryd.prog 81 #[v, .string ⟨#[116, 114, 97, 110, 115, 102, 101, 114, 45, 101, 110, 99, 111, 100, 105, 110, 103]⟩] w2 (NamesPost (getT fs trE) w2) from by
    rw [← getT_alike trE_low]; exact refNames_any v fs _ w2 (HF.out.below HB2.out (Nat.le_refl _)) (by omega) (by decide))
  clear hb2 HG1 HB1
  by_cases hcp : 0 < c
  · go_wp2_with fail
    refine HNM.out.mono ?_
    intro e w3 hnp
    have hb3 : Below w2.heap.size w2 w3 := hnp.1
    have HB3 := Lib.hid (HB2.out.trans (hb3.mono hs2))
    have HBAD := Lib.hid (fun h => tri_post (w := w) (toldVal_bad (m := m) (fs := fs) (s := last) (by rw [← HC.out]; exact hcp) h) HB3.out)
    have HGOOD := Lib.hid (fun h => tri_post (w := w) (toldVal_chunk (m := m) (fs := fs) (s := last) (by rw [← HC.out]; exact hcp) h) HB3.out)
    obtain ⟨ls, u, ok, rfl, hjc, hform⟩ : ∃ (ls : List Bs) (u : Value) (ok : Bool), e = .returned (.tuple #[u, .bool ok]) ∧ justC fs = (ls == [chk]) ∧ ((ls = [] ∧ ∃ a cap, u = .slice a 0 cap) ∨ ∃ g cap x r, ls = x :: r ∧ u = .slice (some ⟨g, 0, none⟩) ls.length cap ∧ w3.cell? ⟨g, 0, none⟩ = some (.string ⟨x.toArray⟩)) := by
      rcases hnp.2 with ⟨hn0, he⟩ | ⟨ls, u, hn0, he, ho⟩
      · exact ⟨[], _, _, he, by rw [justC_none hn0]; rfl, .inl ⟨rfl, none, 0, rfl⟩⟩
      · exact ⟨ls, u, _, he, justC_some hn0, names_form ho⟩
    have HJ := Lib.hid hjc
    clear hnp hb3 hjc HNM HB2
    by_cases hm0 : m = 0
    · have HP := Lib.hid (HBAD.out (.inl hm0))
      subst hm0
      rcases hform with ⟨_, a, cap, rfl⟩ | ⟨g, cap, x, r, rfl, rfl, c1⟩
      · go_wp2_with fail
        go_ret3
        exact HP.out
      · go_wp2_with fail
        go_ret3
        exact HP.out
    · have hm1 : (m == 0) = false := by rw [beq_eq_false_iff_ne]; exact hm0
      cases B with
      | true =>
        have hnpos : 0 < n := by rcases HNBE.out with ⟨_, _, h, _⟩ | ⟨h, _⟩; cases h; exact h
        have HP := Lib.hid (HBAD.out (.inr (.inl (by rw [← HN.out]; exact hnpos))))
        rcases hform with ⟨_, a, cap, rfl⟩ | ⟨g, cap, x, r, rfl, rfl, c1⟩
        · go_wp2_with fail
          go_ret3
          exact HP.out
        · go_wp2_with fail
          go_ret3
          exact HP.out
      | false =>
        have hn0 : n = 0 := by rcases HNBE.out with ⟨h, _⟩ | ⟨_, _, h, _⟩; exact h; cases h
        rcases hform with ⟨h, a, cap, rfl⟩ | ⟨g, cap, x, r, h, rfl, c1⟩
        · have HP := Lib.hid (HBAD.out (.inr (.inr (by rw [HJ.out, h]; rfl))))
          clear h
          go_wp2_with fail
          go_ret3
          exact HP.out
        · by_cases hr : r = []
          · by_cases hx : x = chk
            · have HP := Lib.hid (HGOOD.out (by rw [HJ.out, h, hr, hx, ← HN.out]; simp; exact ⟨hm0, hn0⟩))
              subst hr hx h
              have hxe : ((⟨chk.toArray⟩ : ByteArray).toList != [99, 104, 117, 110, 107, 101, 100]) = false := by decide +kernel
              have hxf : (!((⟨chk.toArray⟩ : ByteArray).toList == [99, 104, 117, 110, 107, 101, 100])) = false := by decide +kernel
              go_wp2_with fail
              go_ret3
              exact HP.out
            · have HP := Lib.hid (HBAD.out (.inr (.inr (by rw [HJ.out, h, hr, beq_eq_false_iff_ne]; intro e; injection e with e; exact hx e))))
              obtain ⟨X, hX⟩ : ∃ X : ByteArray, X = ⟨x.toArray⟩ := ⟨_, rfl⟩
              have hXl : X.toList = x := by rw [hX]; simp
              have hxf : (!(X.toList == [99, 104, 117, 110, 107, 101, 100])) = true := by rw [hXl]; simp; exact hx
              rw [← hX] at c1
              subst hr h
              clear hX hXl hx HGOOD HBAD
              go_wp2_with fail
              go_ret3
              exact HP.out
          · have HP := Lib.hid (HBAD.out (.inr (.inr (by rw [HJ.out, h, beq_eq_false_iff_ne]; intro e; injection e with _ e; exact hr e))))
            have hl2 : 2 ≤ ls.length := by
              rw [h]
              have := List.length_pos_iff.2 hr
              simp; omega
            have hne : ((ls.length : Int) != 1) = true := by rw [bne_iff_ne]; omega
            clear h hr HGOOD HBAD
            go_wp2_with fail
            go_ret3
            exact HP.out
  · have hc0 : c = 0 := by omega
    have HTN := Lib.hid (fun (h2 : n = 0) => tri_post (w := w) (toldVal_silent (m := m) (fs := fs) (s := last) (by rw [← HC.out]; exact hcp) (by rw [← HN.out]; exact h2)) HB2.out)
    have HTL := Lib.hid (fun (h2 : ¬ n = 0) => (toldVal_len (m := m) (fs := fs) (s := last) (by rw [← HC.out]; exact hcp) (by rw [← HN.out]; exact h2)))
    clear HNM
    rcases HNBE.out with ⟨h0, rfl, rfl, rfl⟩ | ⟨h0, rfl, rfl, rfl⟩
    · have HP := Lib.hid (HTN.out h0)
      go_wp2_with fail
      go_ret3
      exact HP.out
    · have hT := HTL.out (by omega)
      rw [← HR.out] at hT
      by_cases hE : E' = 0
      · subst hE
        have HP := Lib.hid (tri_post (hT.trans (if_pos rfl)) HB2.out)
        clear hT
        go_wp2_with fail
        go_ret3
        exact HP.out
      · have HP := Lib.hid (tri_post (hT.trans (if_neg hE)) HB2.out)
        have hE1 : (E' != 0) = true := by rw [bne_iff_ne]; exact hE
        clear hT
        go_wp2_with fail
        go_ret3
        exact HP.out
set_option maxRecDepth 100000 in
set_option maxHeartbeats 4000000 in
theorem rofRequest_any (a b : ByteArray) (m : Int) (v : Value) (fs : List Fl) (w : World) (hf : Flds w v fs) (ht : tot fs ≤ 524288) :
    Calls Tryd.prog 28 #[.agg #[.string a, .string b, .int .i64 m, v]] w (TriPost (toldVal m fs 0) w) := by
  have hb := (Below.refl w.heap.size w).alloc (Nat.le_refl _) (.cells #[.string a, .string b, .int .i64 m, v] 29)
  have HB := Lib.hid hb
  have HC := Lib.hid (rof_any m 0 v fs _ (hf.below hb (Nat.le_refl _)) ht)
  obtain ⟨va, vc, hv⟩ := hf.shape
  subst hv
  obtain ⟨_, _, c2, c3⟩ := four_cells (new_block w (.cells #[.string a, .string b, .int .i64 m, .slice va fs.length vc] 29))
  clear hf hb
  go_enter Tryd.func28, Tryd.ntmps28
  go_wp2_with fail
  refine HC.out.mono ?_
  intro e w1 hp
  have HP := Lib.hid (hp.at HB.out)
  obtain ⟨rfl, _⟩ := hp
  go_wp2_with fail
  go_ret3
  exact HP.out
set_option maxRecDepth 100000 in
set_option maxHeartbeats 4000000 in
theorem rofResponse_any (m c : Int) (r : ByteArray) (v : Value) (fs : List Fl) (k : ByteArray) (w : World) (hf : Flds w v fs) (ht : tot fs ≤ 524288) :
    Calls Tryd.prog 30 #[.agg #[.int .i64 m, .int .i64 c, .string r, v], .string k] w (TriPost (resVal m c fs k) w) := by
  have hb := (Below.refl w.heap.size w).alloc (Nat.le_refl _) (.cells #[.int .i64 m, .int .i64 c, .string r, v] 31)
  have HB := Lib.hid hb
  have HC := Lib.hid (rof_any m 3 v fs _ (hf.below hb (Nat.le_refl _)) ht)
  obtain ⟨va, vc, hv⟩ := hf.shape
  subst hv
  obtain ⟨c0, c1, _, c3⟩ := four_cells (new_block w (.cells #[.int .i64 m, .int .i64 c, .string r, .slice va fs.length vc] 31))
  clear hf hb
  by_cases h1 : k.toList = [72, 69, 65, 68] ∨ c < 200 ∨ c = 204 ∨ c = 304
  · have HP := Lib.hid (tri_post (w := w) (resVal_none (m := m) (fs := fs) h1) HB.out)
    by_cases k1 : k.toList = [72, 69, 65, 68]
    · have hk1 : (k.toList == [72, 69, 65, 68]) = true := by rw [beq_iff_eq]; exact k1
      clear h1 k1
      go_enter Tryd.func30, Tryd.ntmps30
      go_wp2_with fail
      go_ret3
      exact HP.out
    · have hk1 : (k.toList == [72, 69, 65, 68]) = false := by rw [beq_eq_false_iff_ne]; exact k1
      by_cases c200 : c < 200
      · clear h1 k1
        go_enter Tryd.func30, Tryd.ntmps30
        go_wp2_with fail
        go_ret3
        exact HP.out
      · by_cases c204 : c = 204
        · have d1 : (c == 204) = true := by rw [beq_iff_eq]; exact c204
          clear h1 k1 c204
          go_enter Tryd.func30, Tryd.ntmps30
          go_wp2_with fail
          go_ret3
          exact HP.out
        · have d1 : (c == 204) = false := by rw [beq_eq_false_iff_ne]; exact c204
          have d2 : (c == 304) = true := by
            rw [beq_iff_eq]
            rcases h1 with h | h | h | h
            · exact absurd h k1
            · exact absurd h c200
            · exact absurd h c204
            · exact h
          clear h1 k1 c204
          go_enter Tryd.func30, Tryd.ntmps30
          go_wp2_with fail
          go_ret3
          exact HP.out
  · have hk1 : (k.toList == [72, 69, 65, 68]) = false := by rw [beq_eq_false_iff_ne]; exact fun h => h1 (.inl h)
    have c200 : ¬ c < 200 := fun h => h1 (.inr (.inl h))
    have d1 : (c == 204) = false := by rw [beq_eq_false_iff_ne]; exact fun h => h1 (.inr (.inr (.inl h)))
    have d2 : (c == 304) = false := by rw [beq_eq_false_iff_ne]; exact fun h => h1 (.inr (.inr (.inr h)))
    have HR := Lib.hid (resVal_some (m := m) (fs := fs) h1)
    clear h1
    go_enter Tryd.func30, Tryd.ntmps30
    go_wp2_with fail
    refine HC.out.mono ?_
    intro e w1 hp
    have HP := Lib.hid (show TriPost (resVal m c fs k) w e w1 from by rw [HR.out]; exact hp.at HB.out)
    obtain ⟨rfl, _⟩ := hp
    rw [← HR.out]
    rw [← HR.out] at HP
    go_wp2_with fail
    go_ret3
    exact HP.out
end Go.Proofs.YtoofdompafkddaaDoor.Fr
