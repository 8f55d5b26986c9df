/-
  framing.length: what it returns. Condition: a text of at most 2^20 bytes.
-/
import Derived.Test.YtoofdompafkddaaDoorFrOfMath
import Derived.Test.YtoofdompafkddaaDoorFdNames
namespace Go.Proofs.YtoofdompafkddaaDoor.Fr
open Go.RowKit Go.Proofs.YtoofdompafkddaaDoor.Tk Go.Proofs.YtoofdompafkddaaDoor.Fd
set_option linter.unusedVariables false

/-- Where the look at the numbers stands. -/
def NumAt (ls : List Bs) (k : Nat) (n : Int) : Prop := k ≤ ls.length ∧ oneNum 0 0 ls = oneNum k n (ls.drop k)
theorem NumAt.bad {ls : List Bs} {k : Nat} {n : Int} (h : NumAt ls k n) (hk : k < ls.length) (hb : (numT ls[k]).2 = false ∨ (0 < k ∧ (numT ls[k]).1 ≠ n)) : oneNum 0 0 ls = none := by
  rw [h.2, List.drop_eq_getElem_cons hk, oneNum_bad hb]
theorem NumAt.next {ls : List Bs} {k : Nat} {n : Int} (h : NumAt ls k n) (hk : k < ls.length) (hb : ¬ ((numT ls[k]).2 = false ∨ (0 < k ∧ (numT ls[k]).1 ≠ n))) : NumAt ls (k + 1) (numT ls[k]).1 :=
  ⟨by omega, by rw [h.2, List.drop_eq_getElem_cons hk, oneNum_next hb]⟩
theorem NumAt.last {ls : List Bs} {k : Nat} {n : Int} (h : NumAt ls k n) (hk : ¬ k < ls.length) : oneNum 0 0 ls = some n := by
  rw [h.2, List.drop_eq_nil_of_le (by omega)]; rfl
def LenPost (t : Bs) (w : World) (e : Ending) (w' : World) : Prop := e = .returned (.tuple #[.int .i64 (lenVal t).1, .int .i64 (lenVal t).2]) ∧ Below w.heap.size w w'
theorem len_post {t : Bs} {a b : Int} {w w' : World} (h : lenVal t = (a, b)) (hb : Below w.heap.size w w') : LenPost t w (.returned (.tuple #[.int .i64 a, .int .i64 b])) w' := by
  unfold LenPost; rw [h]; exact ⟨rfl, hb⟩
set_option maxRecDepth 100000 in
set_option maxHeartbeats 8000000 in
theorem length_any (s : ByteArray) (w : World) (hs : s.size ≤ 1048576) : Calls Tryd.prog 78 #[.string s] w (LenPost s.data.toList w) := by
  have hsl : s.data.toList.length = s.size := by simp
  obtain ⟨t, ht⟩ : ∃ t, t = s.data.toList := ⟨_, rfl⟩
  have HS := Lib.hid (show Calls Tryd.prog 112 #[.string s] w (SplitPost t w) from by rw [ht]; exact split_any s w (by omega))
  rw [← ht]
  rw [← ht] at hsl
  clear ht
  go_enter Tryd.func78, Tryd.ntmps78
  go_wp2_with fail
  refine HS.out.mono ?_
  rintro e w1 ⟨hb1, ⟨hn, rfl⟩ | ⟨ls, u, hn, rfl, ho⟩⟩
  · have HP := Lib.hid (len_post (lenVal_none hn) hb1)
    clear hb1 hn HS
    go_wp2_with fail
    go_ret2
    exact HP.out
  · have HB1 := Lib.hid hb1
    have HN := Lib.hid hn
    have hll := split_length hn
    have HPc := Lib.hid (split_piece hn)
    clear hb1 HS
    by_cases h0 : ls = []
    · subst h0
      obtain ⟨a, cap, hu⟩ : ∃ a cap, u = .slice a 0 cap := by
        rcases ho.2 with ⟨hv, _⟩ | ⟨g, cap, cur, hv, _⟩
        · exact ⟨none, 0, hv⟩
        · exact ⟨_, cap, hv⟩
      subst hu
      have HP := Lib.hid (len_post (lenVal_empty hn) HB1.out)
      clear hn ho hll
      go_wp2_with fail
      go_ret2
      exact HP.out
    · have hpos : 0 < ls.length := List.length_pos_iff.2 h0
      obtain ⟨g, cap, hu⟩ : ∃ g cap, u = .slice (some ⟨g, 0, none⟩) ls.length cap := by
        rcases ho.2 with ⟨_, h⟩ | ⟨g, cap, cur, hv, _⟩
        · omega
        · exact ⟨g, cap, hv⟩
      subst hu
      have HO := Lib.hid ho
      have H0 := Lib.hid h0
      have hne : ((ls.length : Int) == 0) = false := by rw [beq_eq_false_iff_ne]; omega
      clear hn ho h0
      go_wp2_with fail
      go_loopw [6, 25] (fun o i wr => ∃ (k : Nat) (n : Int), i = .int .i64 (k : Int) ∧ o = .int .i64 n ∧ NumAt ls k n ∧ w1 = wr) (fun _ i _ => ls.length - (intOf i).toNat)
      case atStart => exact ⟨0, 0, rfl, rfl, ⟨Nat.zero_le _, by simp⟩, rfl⟩
      case round =>
        obtain ⟨k, n, rfl, rfl, hA, rfl⟩ := hrel
        have HA := Lib.hid hA
        have hkl := hA.1
        clear hA
        by_cases hlt : k < ls.length
        · have hxz := HPc.out ls[k] (List.getElem_mem hlt)
          have c1 : w1.cell? ⟨g, k, none⟩ = some (.string ⟨ls[k].toArray⟩) := by rw [World.ownsRow.cellAt HO.out k (by omega), List.getElem?_map, List.getElem?_eq_getElem hlt]; rfl
          obtain ⟨x, hx⟩ : ∃ x : ByteArray, x = ⟨ls[k].toArray⟩ := ⟨_, rfl⟩
          have hxs : x.size ≤ maxLen := by rw [hx]; show ls[k].toArray.size ≤ _; rw [List.size_toArray]; unfold maxLen; omega
          have HXS := Lib.hid hxs
          obtain ⟨R, hR⟩ : ∃ R, R = Num.numOf x 1099511627776 := ⟨_, rfl⟩
          have HR := Lib.hid (show numT ls[k] = R from by rw [hR, hx]; rfl)
          have HC := Lib.hid (show Calls Tryd.prog 113 #[.string x, .int .i64 1099511627776] w1 (fun e w' => e = .returned (.tuple #[.int .i64 R.1, .bool R.2]) ∧ w1 = w') from by rw [hR]; exact Num.number_any x _ w1 hxs (by omega))
          rw [← hx] at c1
          clear hx hxz hxs hR
          obtain ⟨N, B⟩ := R
          go_wp2_with fail
          refine HC.out.mono ?_
          rintro e w3 ⟨rfl, rfl⟩
          have HI := HR.out
          by_cases hbad : B = false ∨ (0 < k ∧ N ≠ n)
          · have HP := Lib.hid (len_post (lenVal_bad HN.out (HA.out.bad hlt (by rw [HI]; exact hbad))) HB1.out)
            rcases hbad with rfl | ⟨hk0, hNn⟩
            · clear HI HC
              go_wp2_with fail
              go_ret2
              exact HP.out
            · have hne2 : (N != n) = true := by rw [bne_iff_ne]; exact hNn
              clear HI HC hNn
              cases B with
              | false =>
                go_wp2_with fail
                go_ret2
                exact HP.out
              | true =>
                go_wp2_with fail
                go_ret2
                exact HP.out
          · have HX := Lib.hid (show NumAt ls (k + 1) N from by have := HA.out.next hlt (by rw [HI]; exact hbad); rwa [HI] at this)
            obtain rfl : B = true := by
              cases B with
              | true => rfl
              | false => exact absurd (.inl rfl) hbad
            by_cases hk0 : k = 0
            · subst hk0
              clear HI HC hbad
              go_wp2_with fail
              go_roundw
              case rel => exact ⟨0 + 1, N, by go_num, rfl, HX.out, by first | rfl | trivial⟩
              case measure => simp [intOf]; omega
            · have hNn : (N != n) = false := by
                by_cases h : N = n
                · subst h; simp
                · exact absurd (.inr ⟨by omega, h⟩) hbad
              have hk1 : 0 < k := by omega
              clear HI HC hbad hk0
              go_wp2_with fail
              go_roundw
              case rel => exact ⟨k + 1, N, by go_num, rfl, HX.out, by first | rfl | trivial⟩
              case measure => simp [intOf]; omega
        · have HL := Lib.hid (HA.out.last hlt)
          by_cases hbig : 1048576 < n
          · have HP := Lib.hid (len_post (lenVal_big HN.out H0.out HL.out hbig) HB1.out)
            go_wp2_with fail
            go_ret2
            exact HP.out
          · have HP := Lib.hid (len_post (lenVal_ok HN.out H0.out HL.out hbig) HB1.out)
            go_wp2_with fail
            go_ret2
            exact HP.out
end Go.Proofs.YtoofdompafkddaaDoor.Fr
