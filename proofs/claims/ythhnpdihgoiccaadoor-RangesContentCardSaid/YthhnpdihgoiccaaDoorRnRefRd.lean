/-
  gatepostref14.Read: what it returns. Condition: a text of at most 2^47 bytes.
-/
import Derived.Test.YthhnpdihgoiccaaDoorRnReadP
import Derived.Deep.DeepCutAuto
namespace Go.Proofs.YthhnpdihgoiccaaDoor.Rn
open Go.RowKit Go.Proofs.YthhnpdihgoiccaaDoor.Fd Go.Proofs.YthhnpdihgoiccaaDoor.Sn Go.Proofs.YthhnpdihgoiccaaDoor.Rm
set_option maxRecDepth 100000
set_option linter.unusedVariables false
set_option linter.unusedSimpArgs false

theorem rd_short {s : ByteArray} (h : s.size < 6) : readR s.data.toList = none := by
  unfold readR
  rw [if_neg]
  rintro ⟨e, _⟩
  have := congrArg List.length e
  have e2 : s.data.toList.length = s.size := len_size s
  simp [bytL] at this
  omega
theorem rd_head {s : ByteArray} (h : (s.extract 0 6).data.toList ≠ bytL) : readR s.data.toList = none := by
  rw [ext_take] at h
  unfold readR
  rw [if_neg (fun q => h q.1)]
theorem rd_body {s T : ByteArray} (h : (s.extract 0 6).data.toList = bytL) (hT : s.extract 6 s.size = T) : readR s.data.toList = if ix 47 T.data.toList < T.size then bodyR T.data.toList else none := by
  rw [ext_take] at h
  have e : T.data.toList = s.data.toList.drop 6 := by rw [← hT, ext_drop]
  unfold readR bodyR
  rw [e]
  have hle := ix_le 47 (s.data.toList.drop 6)
  have hl : (s.data.toList.drop 6).length = T.size := by rw [← e, len_size]
  by_cases h2 : ix 47 (s.data.toList.drop 6) < T.size
  · rw [if_pos ⟨h, by omega⟩, if_pos h2]; rfl
  · rw [if_neg (fun q => q.2 (by omega)), if_neg h2]
theorem head_bytes {s : ByteArray} : ((s.extract 0 6).toList == [98, 121, 116, 101, 115, 32]) = true ↔ (s.extract 0 6).data.toList = bytL := by
  rw [beq_iff_eq, ByteArray.toList_eq]; rfl
theorem star_bytes {s : ByteArray} : (s.toList == [42]) = true ↔ s.data.toList = [42] := by
  rw [beq_iff_eq, ByteArray.toList_eq]
theorem byte_ne47 {a : UInt8} (h : a ≠ 47) : ((a.toNat : Int) != 47) = true := by
  rw [bne_iff_ne]; intro e; exact h (UInt8.toNat_inj.1 (by exact_mod_cast e))
theorem byte_ne45 {a : UInt8} (h : a ≠ 45) : ((a.toNat : Int) != 45) = true := by
  rw [bne_iff_ne]; intro e; exact h (UInt8.toNat_inj.1 (by exact_mod_cast e))
theorem ext_mid (T : ByteArray) (i k : Nat) (hk : k ≤ T.size) : (T.extract i k).data.toList = (T.data.toList.take k).drop i := by
  rw [ByteArray.data_extract, Array.toList_extract]
  show (T.data.toList.drop i).take (k - i) = _
  rw [List.drop_take]
theorem take_at (T : ByteArray) (k m : Nat) (hm : m < k) (hk : k ≤ T.size) : (T.data.toList.take k)[m]'(by rw [List.length_take, len_size]; omega) = T[m] := by
  rw [List.getElem_take]; rfl
theorem numOf_bd {s : ByteArray} {m : Int} (hm : 0 ≤ m) : 0 ≤ (Num.numOf s m).1 ∧ (Num.numOf s m).1 ≤ m := by
  cases h : (Num.numOf s m).2 with
  | false => rw [numOf_zero h]; exact ⟨Int.le_refl _, hm⟩
  | true =>
    have e : numT m s.data.toList = some (Num.numOf s m).1 := by rw [numT_of, h]; rfl
    exact numT_bd e
theorem span_none {l : Tk.Bs} (h : l ≠ [42]) (h2 : ix 45 l = l.length) : readSpan l = none := by unfold readSpan; rw [if_neg h, if_pos h2]
theorem span_star {l : Tk.Bs} (h : l = [42]) : readSpan l = some (0, 0) := by unfold readSpan; rw [if_pos h]
/-- The two numbers of the places. -/
theorem span_at {T : ByteArray} {k m : Nat} (hk : k ≤ T.size) (hm : m < k) (h : T.data.toList.take k ≠ [42]) (hi : ix 45 (T.data.toList.take k) = m) {a b : Int} {b1 b2 : Bool}
    (h1 : Num.numOf (T.extract 0 m) 1048577 = (a, b1)) (h2 : Num.numOf (T.extract (m + 1) k) 1048577 = (b, b2)) : readSpan (T.data.toList.take k) = if b1 && b2 && decide (a ≤ b) then some (a, b + 1) else none := by
  unfold readSpan
  have hl : (T.data.toList.take k).length = k := by rw [List.length_take, len_size]; omega
  have e1 : numT mostR ((T.data.toList.take k).take m) = if b1 then some a else none := by
    rw [List.take_take, Nat.min_eq_left (by omega), ← ext_take]
    have := numT_of mostR (T.extract 0 m)
    rw [show Num.numOf (T.extract 0 m) mostR = (a, b1) from h1] at this; exact this
  have e2 : numT mostR ((T.data.toList.take k).drop (m + 1)) = if b2 then some b else none := by
    rw [← ext_mid T (m + 1) k hk]
    have := numT_of mostR (T.extract (m + 1) k)
    rw [show Num.numOf (T.extract (m + 1) k) mostR = (b, b2) from h2] at this; exact this
  rw [if_neg h, hi, if_neg (by omega), e1, e2]
  cases b1 <;> cases b2 <;> simp
set_option maxHeartbeats 16000000 in
theorem refRead_any (s : ByteArray) (w : World) (hs : s.size ≤ maxLen) :
    Calls Tryd.prog 8 #[.string s] w fun e w' => e = .returned (rdV (readR s.data.toList)) ∧ Below w.heap.size w w' := by
  unfold maxLen at hs
  obtain ⟨W, hW⟩ : ∃ W, W = w.alloc (.cells #[.int .i64 0, .int .i64 0] 23) := ⟨_, rfl⟩
  have hr : W.heap[w.heap.size]? = some (.cells #[.int .i64 0, .int .i64 0] 23 (0, 0)) := by rw [hW]; exact new_block _ _
  have hB : Below w.heap.size w W := by rw [hW]; exact (Below.refl _ _).alloc (Nat.le_refl _) _
  have hlt := block_lt hr
  have r0 := two0 hr
  have r1 := two1 hr
  have f0 := free hr 0
  have f1 := free hr 1
  have HR := Lib.hid hr
  have HB := Lib.hid hB
  clear hr hB
  by_cases h6 : s.size < 6
  · have HV := Lib.hid (rd_short h6)
    go_enter Tryd.func8, Tryd.ntmps8
    go_upto_region 1 with fail
    rw [← hW]
    clear hW
    go_wp2_with fail
    refine bodyPost_ret (ret_read rfl _ _ w.heap.size _ _ rfl (put2 HR.out _ _)) rfl ?_
    exact ⟨by rw [HV.out]; rfl, put2_below HB.out (Nat.le_refl _) _ _⟩
  · have h6 : (6 : Int) ≤ s.size := by omega
    have h6n : 6 ≤ s.size := by omega
    by_cases hh : (s.extract 0 6).data.toList = bytL
    · have hbe := head_bytes.2 hh
      obtain ⟨T, hT⟩ : ∃ T, s.extract 6 s.size = T := ⟨_, rfl⟩
      have HV := Lib.hid (rd_body hh hT)
      have hTs : T.size ≤ 9223372036854775807 := by rw [← hT]; simp; omega
      clear hh
      go_enter Tryd.func8, Tryd.ntmps8
      go_upto_region 1 with fail
      rw [← hW]
      clear hW
      go_wp2_with fail
      clear hT hbe
      go_loop [5] (fun v => ∃ k : Nat, k ≤ T.size ∧ v = .int .i64 (k : Int) ∧ k ≤ ix 47 T.data.toList) (fun v => T.size - (intOf v).toNat)
      case atStart => exact ⟨0, Nat.zero_le _, rfl, Nat.zero_le _⟩
      case round =>
        obtain ⟨k, hk, rfl, hix⟩ := hrel
        by_cases hlk : k < T.size
        · by_cases hc : T[k] = 47
          · have hi := ixs_here 47 T k hix hlk hc
            clear hix
            obtain ⟨R, hR⟩ : ∃ R, T.extract (k + 1) T.size = R := ⟨_, rfl⟩
            obtain ⟨L, hL⟩ : ∃ L, T.extract 0 k = L := ⟨_, rfl⟩
            have hRl : R.data.toList = T.data.toList.drop (k + 1) := by rw [← hR, ext_drop]
            have hLl : L.data.toList = T.data.toList.take k := by rw [← hL, ext_take]
            replace HV := Lib.hid (show readR s.data.toList = match readLong R.data.toList, readSpan L.data.toList with
              | some n, some x => if rightR x n then some (x, n) else none
              | _, _ => none from by rw [HV.out, if_pos (by rw [hi]; exact hlk)]; unfold bodyR; rw [hi, hRl, hLl]; rfl)
            have hRs : R.size ≤ 9223372036854775807 := by rw [← hR]; simp; omega
            have HC := Lib.hid hc
            have HLl := Lib.hid hLl
            clear hi hRl hLl
            have hz0 := put2 HR.out (.int .i64 0) (.int .i64 0)
            have hzb := put2_below HB.out (Nat.le_refl _) (.int .i64 0) (.int .i64 0)
            have hzs : ((W.setCell ⟨w.heap.size, 0, none⟩ (.int .i64 0)).setCell ⟨w.heap.size, 1, none⟩ (.int .i64 0)).heap.size = W.heap.size := by simp [World.setCell]
            have HRA := Lib.hid (show ∀ x y : Int, (((W.setCell ⟨w.heap.size, 0, none⟩ (.int .i64 0)).setCell ⟨w.heap.size, 1, none⟩ (.int .i64 0)).alloc (.cells #[.int .i64 x, .int .i64 y] 23)).heap[w.heap.size]? = some (.cells #[.int .i64 0, .int .i64 0] 23 (0, 0)) from fun x y => by rw [old_block _ _ (by rw [hzs]; exact hlt)]; exact hz0)
            have HBA := Lib.hid (show ∀ x y : Int, Below w.heap.size w (((W.setCell ⟨w.heap.size, 0, none⟩ (.int .i64 0)).setCell ⟨w.heap.size, 1, none⟩ (.int .i64 0)).alloc (.cells #[.int .i64 x, .int .i64 y] 23)) from fun x y => hzb.alloc (by rw [hzs]; exact Nat.le_of_lt hlt) _)
            have HRW := Lib.hid (show ∀ x y : Int, (W.alloc (.cells #[.int .i64 x, .int .i64 y] 23)).heap[w.heap.size]? = some (.cells #[.int .i64 0, .int .i64 0] 23 (0, 0)) from fun x y => by rw [old_block _ _ hlt]; exact HR.out)
            have a0 := fun x y => two0 (HRW.out x y)
            have a1 := fun x y => two1 (HRW.out x y)
            have g0 := fun x y => free (HRW.out x y) 0
            have g1 := fun x y => free (HRW.out x y) 1
            clear hz0 hzb hzs HRW
            by_cases hst : R.data.toList = [42]
            · have hbe := star_bytes.2 hst
              replace HV := Lib.hid (show readR s.data.toList = match readSpan L.data.toList with
                | some x => if rightR x (-1) then some (x, -1) else none
                | none => none from by
                have e : readLong R.data.toList = some (-1) := by unfold readLong; rw [if_pos hst]
                rw [HV.out, e]; cases readSpan L.data.toList <;> rfl)
              clear hst
              by_cases hsl : L.data.toList = [42]
              · have hbl := star_bytes.2 hsl
                replace HV := Lib.hid (show readR s.data.toList = if rightR (0, 0) (-1) then some ((0, 0), (-1)) else none from by rw [HV.out, span_star hsl])
                clear hsl HRA HBA HLl
                go_wp2_with fail
                refine (right_any (0) (0) (-1) _).mono ?_
                rintro e w6 ⟨rfl, hb6⟩
                have hr5 : (W.alloc (.cells #[.int .i64 (0), .int .i64 (0)] 23)).heap[w.heap.size]? = some (.cells #[.int .i64 0, .int .i64 0] 23 (0, 0)) := by rw [old_block _ _ hlt]; exact HR.out
                have hk5 := new_block W (.cells #[.int .i64 (0), .int .i64 (0)] 23)
                have hr6 := Bl.old hb6 (block_lt hr5) hr5
                have hk6 := Bl.old hb6 (block_lt hk5) hk5
                have HB6 := Lib.hid (Bl.next (HB.out.alloc HB.out.size (.cells #[.int .i64 (0), .int .i64 (0)] 23)) hb6)
                clear hb6 hr5 hk5 r0 r1 f0 f1
                have r0 := two0 hr6
                have r1 := two1 hr6
                have f0 := free hr6 0
                have f1 := free hr6 1
                have k0 := two0 hk6
                have k1 := two1 hk6
                have HR6 := Lib.hid hr6
                clear hr6 hk6
                cases hrr : rightR (0, 0) (-1) with
                | false =>
                  replace HV := Lib.hid (show readR s.data.toList = none from by rw [HV.out, hrr]; rfl)
                  clear hrr
                  go_wp2_with fail
                  refine bodyPost_ret (ret_read rfl _ _ w.heap.size _ _ rfl (put2 HR6.out _ _)) rfl ?_
                  exact ⟨by rw [HV.out]; rfl, put2_below HB6.out (Nat.le_refl _) _ _⟩
                | true =>
                  replace HV := Lib.hid (show readR s.data.toList = some ((0, 0), (-1)) from by rw [HV.out, hrr]; rfl)
                  clear hrr
                  go_wp2_with fail
                  refine bodyPost_ret (ret_read rfl _ _ w.heap.size _ _ rfl (put2 HR6.out _ _)) rfl ?_
                  exact ⟨by rw [HV.out]; rfl, put2_below HB6.out (Nat.le_refl _) _ _⟩
              · have hbl : (L.toList == [42]) = false := by rw [Bool.eq_false_iff]; exact fun q => hsl (star_bytes.1 q)
                have HSL := Lib.hid (show T.data.toList.take k ≠ [42] from by rw [← HLl.out]; exact hsl)
                rw [HLl.out] at HV
                clear hsl HLl
                go_wp2_with fail
                clear hL hbl
                go_loop [10] (fun v => ∃ m : Nat, m ≤ k ∧ v = .int .i64 (m : Int) ∧ m ≤ ix 45 (T.data.toList.take k)) (fun v => k - (intOf v).toNat)
                case atStart => exact ⟨0, Nat.zero_le _, rfl, Nat.zero_le _⟩
                case round =>
                  obtain ⟨m, hm, rfl, him⟩ := hrel
                  by_cases hlm : m < k
                  · have hmT : m < T.size := by omega
                    have hta := take_at T k m hlm hk
                    by_cases hc2 : T[m] = 45
                    · have hi := ix_here 45 (T.data.toList.take k) m him (by rw [List.length_take, len_size]; omega) (by rw [hta]; exact hc2)
                      obtain ⟨⟨a, b1⟩, h1⟩ : ∃ p, Num.numOf (T.extract 0 m) 1048577 = p := ⟨_, rfl⟩
                      obtain ⟨⟨b, b2⟩, h2⟩ : ∃ p, Num.numOf (T.extract (m + 1) k) 1048577 = p := ⟨_, rfl⟩
                      have hab1 : 0 ≤ b ∧ b ≤ 1048577 := by have := numOf_bd (s := T.extract (m + 1) k) (m := 1048577) (by decide); rw [h2] at this; exact this
                      have N1 := Lib.hid (show ∀ V : World, Calls Tryd.prog 18 #[.string (T.extract 0 m), .int .i64 1048577] V fun e w' => e = .returned (.tuple #[.int .i64 a, .bool b1]) ∧ V = w' from fun V => by
                        have h := Num.refNumber_any (T.extract 0 m) 1048577 V (by unfold maxLen; simp; omega) (by decide) (by decide)
                        rw [h1] at h
                        exact h)
                      have N2 := Lib.hid (show ∀ V : World, Calls Tryd.prog 18 #[.string (T.extract (m + 1) k), .int .i64 1048577] V fun e w' => e = .returned (.tuple #[.int .i64 b, .bool b2]) ∧ V = w' from fun V => by
                        have h := Num.refNumber_any (T.extract (m + 1) k) 1048577 V (by unfold maxLen; simp; omega) (by decide) (by decide)
                        rw [h2] at h
                        exact h)
                      have HSP := Lib.hid (span_at hk hlm HSL.out hi h1 h2)
                      clear h1 h2 hi him
                      obtain ⟨hb1, hb2⟩ := hab1
                      go_wp2_with fail
                      refine (N1.out _).mono ?_
                      rintro e w4 ⟨rfl, hw4⟩
                      rw [← hw4]
                      clear hw4
                      go_wp2_with fail
                      refine (N2.out _).mono ?_
                      rintro e w4 ⟨rfl, hw4⟩
                      rw [← hw4]
                      clear hw4
                      by_cases hok : (b1 && b2 && decide (a ≤ b)) = true
                      · replace HV := Lib.hid (show readR s.data.toList = if rightR (a, b + 1) (-1) then some ((a, b + 1), (-1)) else none from by rw [HV.out, HSP.out, if_pos hok])
                        simp only [Bool.and_eq_true, decide_eq_true_iff] at hok
                        obtain ⟨⟨rfl, rfl⟩, hle⟩ := hok
                        have hgt : ¬ b < a := by omega
                        clear HRA HBA N1 N2
                        go_wp2_with fail
                        refine (right_any (a) (b + 1) (-1) _).mono ?_
                        rintro e w6 ⟨rfl, hb6⟩
                        have hr5 : (W.alloc (.cells #[.int .i64 (a), .int .i64 (b + 1)] 23)).heap[w.heap.size]? = some (.cells #[.int .i64 0, .int .i64 0] 23 (0, 0)) := by rw [old_block _ _ hlt]; exact HR.out
                        have hk5 := new_block W (.cells #[.int .i64 (a), .int .i64 (b + 1)] 23)
                        have hr6 := Bl.old hb6 (block_lt hr5) hr5
                        have hk6 := Bl.old hb6 (block_lt hk5) hk5
                        have HB6 := Lib.hid (Bl.next (HB.out.alloc HB.out.size (.cells #[.int .i64 (a), .int .i64 (b + 1)] 23)) hb6)
                        clear hb6 hr5 hk5 r0 r1 f0 f1
                        have r0 := two0 hr6
                        have r1 := two1 hr6
                        have f0 := free hr6 0
                        have f1 := free hr6 1
                        have k0 := two0 hk6
                        have k1 := two1 hk6
                        have HR6 := Lib.hid hr6
                        clear hr6 hk6
                        cases hrr : rightR (a, b + 1) (-1) with
                        | false =>
                          replace HV := Lib.hid (show readR s.data.toList = none from by rw [HV.out, hrr]; rfl)
                          clear hrr
                          go_wp2_with fail
                          refine bodyPost_ret (ret_read rfl _ _ w.heap.size _ _ rfl (put2 HR6.out _ _)) rfl ?_
                          exact ⟨by rw [HV.out]; rfl, put2_below HB6.out (Nat.le_refl _) _ _⟩
                        | true =>
                          replace HV := Lib.hid (show readR s.data.toList = some ((a, b + 1), (-1)) from by rw [HV.out, hrr]; rfl)
                          clear hrr
                          go_wp2_with fail
                          refine bodyPost_ret (ret_read rfl _ _ w.heap.size _ _ rfl (put2 HR6.out _ _)) rfl ?_
                          exact ⟨by rw [HV.out]; rfl, put2_below HB6.out (Nat.le_refl _) _ _⟩
                      · replace HV := Lib.hid (show readR s.data.toList = none from by rw [HV.out, HSP.out, if_neg hok])
                        have hok2 : b1 = true → b2 = true → b < a := by
                          rintro rfl rfl
                          simp at hok; exact hok
                        clear hok N1 N2
                        cases b1 with
                        | false =>
                          clear hok2
                          go_wp2_with fail
                          refine bodyPost_ret (ret_read rfl _ _ w.heap.size _ _ rfl (HRA.out _ _)) rfl ?_
                          exact ⟨by rw [HV.out]; rfl, HBA.out _ _⟩
                        | true =>
                          cases b2 with
                          | false =>
                            clear hok2
                            go_wp2_with fail
                            refine bodyPost_ret (ret_read rfl _ _ w.heap.size _ _ rfl (HRA.out _ _)) rfl ?_
                            exact ⟨by rw [HV.out]; rfl, HBA.out _ _⟩
                          | true =>
                            have hlt2 := hok2 rfl rfl
                            clear hok2
                            go_wp2_with fail
                            refine bodyPost_ret (ret_read rfl _ _ w.heap.size _ _ rfl (HRA.out _ _)) rfl ?_
                            exact ⟨by rw [HV.out]; rfl, HBA.out _ _⟩
                    · have hi := ix_step 45 (T.data.toList.take k) m him (by rw [List.length_take, len_size]; omega) (by rw [hta]; exact hc2)
                      have hne := byte_ne45 hc2
                      clear him
                      go_wp2_with fail
                      go_round
                      case rel => exact ⟨m + 1, by omega, by go_num, hi⟩
                      case measure => simp [intOf]; omega
                  · have hl : (T.data.toList.take k).length = k := by rw [List.length_take, len_size]; omega
                    have hi : ix 45 (T.data.toList.take k) = (T.data.toList.take k).length := by have := ix_le 45 (T.data.toList.take k); omega
                    replace HV := Lib.hid (show readR s.data.toList = none from by rw [HV.out, span_none HSL.out hi])
                    obtain rfl : m = k := by omega
                    clear hi him hl
                    go_wp2_with fail
                    refine bodyPost_ret (ret_read rfl _ _ w.heap.size _ _ rfl (HRA.out _ _)) rfl ?_
                    exact ⟨by rw [HV.out]; rfl, HBA.out _ _⟩
            · have hbe : (R.toList == [42]) = false := by rw [Bool.eq_false_iff]; exact fun q => hst (star_bytes.1 q)
              obtain ⟨⟨n, bn⟩, hn⟩ : ∃ p, Num.numOf R 1048577 = p := ⟨_, rfl⟩
              have e : readLong R.data.toList = if bn then some n else none := by
                unfold readLong; rw [if_neg hst]
                have := numT_of mostR R
                rw [show Num.numOf R mostR = (n, bn) from hn] at this; exact this
              have NN := Lib.hid (show ∀ V : World, Calls Tryd.prog 18 #[.string R, .int .i64 1048577] V fun e w' => e = .returned (.tuple #[.int .i64 n, .bool bn]) ∧ V = w' from fun V => by
                have h := Num.refNumber_any R 1048577 V hRs (by decide) (by decide)
                rw [hn] at h
                exact h)
              replace HV := Lib.hid (show readR s.data.toList = if bn then (match readSpan L.data.toList with
                | some x => if rightR x n then some (x, n) else none
                | none => none) else none from by
                rw [HV.out, e]; cases bn <;> cases readSpan L.data.toList <;> rfl)
              clear hst hn e
              go_wp2_with fail
              refine (NN.out _).mono ?_
              rintro e w4 ⟨rfl, hw4⟩
              rw [← hw4]
              clear hw4 NN
              cases bn with
              | false =>
                replace HV := Lib.hid (show readR s.data.toList = none from HV.out)
                go_wp2_with fail
                refine bodyPost_ret (ret_read rfl _ _ w.heap.size _ _ rfl (put2 HR.out _ _)) rfl ?_
                exact ⟨by rw [HV.out]; rfl, put2_below HB.out (Nat.le_refl _) _ _⟩
              | true =>
                replace HV := Lib.hid (show readR s.data.toList = match readSpan L.data.toList with
                  | some x => if rightR x n then some (x, n) else none
                  | none => none from HV.out)
                by_cases hsl : L.data.toList = [42]
                · have hbl := star_bytes.2 hsl
                  replace HV := Lib.hid (show readR s.data.toList = if rightR (0, 0) n then some ((0, 0), n) else none from by rw [HV.out, span_star hsl])
                  clear hsl HRA HBA HLl
                  go_wp2_with fail
                  refine (right_any (0) (0) n _).mono ?_
                  rintro e w6 ⟨rfl, hb6⟩
                  have hr5 : (W.alloc (.cells #[.int .i64 (0), .int .i64 (0)] 23)).heap[w.heap.size]? = some (.cells #[.int .i64 0, .int .i64 0] 23 (0, 0)) := by rw [old_block _ _ hlt]; exact HR.out
                  have hk5 := new_block W (.cells #[.int .i64 (0), .int .i64 (0)] 23)
                  have hr6 := Bl.old hb6 (block_lt hr5) hr5
                  have hk6 := Bl.old hb6 (block_lt hk5) hk5
                  have HB6 := Lib.hid (Bl.next (HB.out.alloc HB.out.size (.cells #[.int .i64 (0), .int .i64 (0)] 23)) hb6)
                  clear hb6 hr5 hk5 r0 r1 f0 f1
                  have r0 := two0 hr6
                  have r1 := two1 hr6
                  have f0 := free hr6 0
                  have f1 := free hr6 1
                  have k0 := two0 hk6
                  have k1 := two1 hk6
                  have HR6 := Lib.hid hr6
                  clear hr6 hk6
                  cases hrr : rightR (0, 0) n with
                  | false =>
                    replace HV := Lib.hid (show readR s.data.toList = none from by rw [HV.out, hrr]; rfl)
                    clear hrr
                    go_wp2_with fail
                    refine bodyPost_ret (ret_read rfl _ _ w.heap.size _ _ rfl (put2 HR6.out _ _)) rfl ?_
                    exact ⟨by rw [HV.out]; rfl, put2_below HB6.out (Nat.le_refl _) _ _⟩
                  | true =>
                    replace HV := Lib.hid (show readR s.data.toList = some ((0, 0), n) from by rw [HV.out, hrr]; rfl)
                    clear hrr
                    go_wp2_with fail
                    refine bodyPost_ret (ret_read rfl _ _ w.heap.size _ _ rfl (put2 HR6.out _ _)) rfl ?_
                    exact ⟨by rw [HV.out]; rfl, put2_below HB6.out (Nat.le_refl _) _ _⟩
                · have hbl : (L.toList == [42]) = false := by rw [Bool.eq_false_iff]; exact fun q => hsl (star_bytes.1 q)
                  have HSL := Lib.hid (show T.data.toList.take k ≠ [42] from by rw [← HLl.out]; exact hsl)
                  rw [HLl.out] at HV
                  clear hsl HLl
                  go_wp2_with fail
                  clear hL hbl
                  go_loop [10] (fun v => ∃ m : Nat, m ≤ k ∧ v = .int .i64 (m : Int) ∧ m ≤ ix 45 (T.data.toList.take k)) (fun v => k - (intOf v).toNat)
                  case atStart => exact ⟨0, Nat.zero_le _, rfl, Nat.zero_le _⟩
                  case round =>
                    obtain ⟨m, hm, rfl, him⟩ := hrel
                    by_cases hlm : m < k
                    · have hmT : m < T.size := by omega
                      have hta := take_at T k m hlm hk
                      by_cases hc2 : T[m] = 45
                      · have hi := ix_here 45 (T.data.toList.take k) m him (by rw [List.length_take, len_size]; omega) (by rw [hta]; exact hc2)
                        obtain ⟨⟨a, b1⟩, h1⟩ : ∃ p, Num.numOf (T.extract 0 m) 1048577 = p := ⟨_, rfl⟩
                        obtain ⟨⟨b, b2⟩, h2⟩ : ∃ p, Num.numOf (T.extract (m + 1) k) 1048577 = p := ⟨_, rfl⟩
                        have hab1 : 0 ≤ b ∧ b ≤ 1048577 := by have := numOf_bd (s := T.extract (m + 1) k) (m := 1048577) (by decide); rw [h2] at this; exact this
                        have N1 := Lib.hid (show ∀ V : World, Calls Tryd.prog 18 #[.string (T.extract 0 m), .int .i64 1048577] V fun e w' => e = .returned (.tuple #[.int .i64 a, .bool b1]) ∧ V = w' from fun V => by
                          have h := Num.refNumber_any (T.extract 0 m) 1048577 V (by unfold maxLen; simp; omega) (by decide) (by decide)
                          rw [h1] at h
                          exact h)
                        have N2 := Lib.hid (show ∀ V : World, Calls Tryd.prog 18 #[.string (T.extract (m + 1) k), .int .i64 1048577] V fun e w' => e = .returned (.tuple #[.int .i64 b, .bool b2]) ∧ V = w' from fun V => by
                          have h := Num.refNumber_any (T.extract (m + 1) k) 1048577 V (by unfold maxLen; simp; omega) (by decide) (by decide)
                          rw [h2] at h
                          exact h)
                        have HSP := Lib.hid (span_at hk hlm HSL.out hi h1 h2)
                        clear h1 h2 hi him
                        obtain ⟨hb1, hb2⟩ := hab1
                        go_wp2_with fail
                        refine (N1.out _).mono ?_
                        rintro e w4 ⟨rfl, hw4⟩
                        rw [← hw4]
                        clear hw4
                        go_wp2_with fail
                        refine (N2.out _).mono ?_
                        rintro e w4 ⟨rfl, hw4⟩
                        rw [← hw4]
                        clear hw4
                        by_cases hok : (b1 && b2 && decide (a ≤ b)) = true
                        · replace HV := Lib.hid (show readR s.data.toList = if rightR (a, b + 1) n then some ((a, b + 1), n) else none from by rw [HV.out, HSP.out, if_pos hok])
                          simp only [Bool.and_eq_true, decide_eq_true_iff] at hok
                          obtain ⟨⟨rfl, rfl⟩, hle⟩ := hok
                          have hgt : ¬ b < a := by omega
                          clear HRA HBA N1 N2
                          go_wp2_with fail
                          refine (right_any (a) (b + 1) n _).mono ?_
                          rintro e w6 ⟨rfl, hb6⟩
                          have hr5 : (W.alloc (.cells #[.int .i64 (a), .int .i64 (b + 1)] 23)).heap[w.heap.size]? = some (.cells #[.int .i64 0, .int .i64 0] 23 (0, 0)) := by rw [old_block _ _ hlt]; exact HR.out
                          have hk5 := new_block W (.cells #[.int .i64 (a), .int .i64 (b + 1)] 23)
                          have hr6 := Bl.old hb6 (block_lt hr5) hr5
                          have hk6 := Bl.old hb6 (block_lt hk5) hk5
                          have HB6 := Lib.hid (Bl.next (HB.out.alloc HB.out.size (.cells #[.int .i64 (a), .int .i64 (b + 1)] 23)) hb6)
                          clear hb6 hr5 hk5 r0 r1 f0 f1
                          have r0 := two0 hr6
                          have r1 := two1 hr6
                          have f0 := free hr6 0
                          have f1 := free hr6 1
                          have k0 := two0 hk6
                          have k1 := two1 hk6
                          have HR6 := Lib.hid hr6
                          clear hr6 hk6
                          cases hrr : rightR (a, b + 1) n with
                          | false =>
                            replace HV := Lib.hid (show readR s.data.toList = none from by rw [HV.out, hrr]; rfl)
                            clear hrr
                            go_wp2_with fail
                            refine bodyPost_ret (ret_read rfl _ _ w.heap.size _ _ rfl (put2 HR6.out _ _)) rfl ?_
                            exact ⟨by rw [HV.out]; rfl, put2_below HB6.out (Nat.le_refl _) _ _⟩
                          | true =>
                            replace HV := Lib.hid (show readR s.data.toList = some ((a, b + 1), n) from by rw [HV.out, hrr]; rfl)
                            clear hrr
                            go_wp2_with fail
                            refine bodyPost_ret (ret_read rfl _ _ w.heap.size _ _ rfl (put2 HR6.out _ _)) rfl ?_
                            exact ⟨by rw [HV.out]; rfl, put2_below HB6.out (Nat.le_refl _) _ _⟩
                        · replace HV := Lib.hid (show readR s.data.toList = none from by rw [HV.out, HSP.out, if_neg hok])
                          have hok2 : b1 = true → b2 = true → b < a := by
                            rintro rfl rfl
                            simp at hok; exact hok
                          clear hok N1 N2
                          cases b1 with
                          | false =>
                            clear hok2
                            go_wp2_with fail
                            refine bodyPost_ret (ret_read rfl _ _ w.heap.size _ _ rfl (HRA.out _ _)) rfl ?_
                            exact ⟨by rw [HV.out]; rfl, HBA.out _ _⟩
                          | true =>
                            cases b2 with
                            | false =>
                              clear hok2
                              go_wp2_with fail
                              refine bodyPost_ret (ret_read rfl _ _ w.heap.size _ _ rfl (HRA.out _ _)) rfl ?_
                              exact ⟨by rw [HV.out]; rfl, HBA.out _ _⟩
                            | true =>
                              have hlt2 := hok2 rfl rfl
                              clear hok2
                              go_wp2_with fail
                              refine bodyPost_ret (ret_read rfl _ _ w.heap.size _ _ rfl (HRA.out _ _)) rfl ?_
                              exact ⟨by rw [HV.out]; rfl, HBA.out _ _⟩
                      · have hi := ix_step 45 (T.data.toList.take k) m him (by rw [List.length_take, len_size]; omega) (by rw [hta]; exact hc2)
                        have hne := byte_ne45 hc2
                        clear him
                        go_wp2_with fail
                        go_round
                        case rel => exact ⟨m + 1, by omega, by go_num, hi⟩
                        case measure => simp [intOf]; omega
                    · have hl : (T.data.toList.take k).length = k := by rw [List.length_take, len_size]; omega
                      have hi : ix 45 (T.data.toList.take k) = (T.data.toList.take k).length := by have := ix_le 45 (T.data.toList.take k); omega
                      replace HV := Lib.hid (show readR s.data.toList = none from by rw [HV.out, span_none HSL.out hi])
                      obtain rfl : m = k := by omega
                      clear hi him hl
                      go_wp2_with fail
                      refine bodyPost_ret (ret_read rfl _ _ w.heap.size _ _ rfl (HRA.out _ _)) rfl ?_
                      exact ⟨by rw [HV.out]; rfl, HBA.out _ _⟩
          · have hi := ixs_step 47 T k hix hlk hc
            have hne := byte_ne47 hc
            clear hix
            go_wp2_with fail
            go_round
            case rel => exact ⟨k + 1, by omega, by go_num, hi⟩
            case measure => simp [intOf]; omega
        · have hi : ¬ ix 47 T.data.toList < T.size := by have := ixs_le 47 T; omega
          replace HV := Lib.hid (show readR s.data.toList = none from by rw [HV.out, if_neg hi])
          obtain rfl : k = T.size := by omega
          clear hi hix
          go_wp2_with fail
          refine bodyPost_ret (ret_read rfl _ _ w.heap.size _ _ rfl (put2 HR.out _ _)) rfl ?_
          exact ⟨by rw [HV.out]; rfl, put2_below HB.out (Nat.le_refl _) _ _⟩
    · have HV := Lib.hid (rd_head hh)
      have hbe : ((s.extract 0 6).toList == [98, 121, 116, 101, 115, 32]) = false := by
        rw [Bool.eq_false_iff]; exact fun q => hh (head_bytes.1 q)
      clear hh
      go_enter Tryd.func8, Tryd.ntmps8
      go_upto_region 1 with fail
      rw [← hW]
      clear hW
      go_wp2_with fail
      refine bodyPost_ret (ret_read rfl _ _ w.heap.size _ _ rfl (put2 HR.out _ _)) rfl ?_
      exact ⟨by rw [HV.out]; rfl, put2_below HB.out (Nat.le_refl _) _ _⟩
end Go.Proofs.YthhnpdihgoiccaaDoor.Rn
