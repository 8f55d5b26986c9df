/-
  Texts that the law's proof stands on, 4 of them in one file; each one's head says what it proves and under which condition.
-/
import Derived.Test.YtoofdompafkddaaDoorHeadReadsP5
import Derived.Lib.Strings
import Derived.Lib.IndexBytes
import Derived.Test.YtoofdompafkddaaDoorHeadReadsP8
import Derived.Test.YtoofdompafkddaaDoorHeadReadsP9
import Derived.Deep.QuietTactic
import Derived.BigQuiet
import Derived.Test.YtoofdompafkddaaDoorHeadReadsP7
import Derived.Laws.BytesArg
/-
  What the reference's loop over a request's line looks for: plain functions on bytes. No program, no condition.
-/
namespace Go.Proofs.YtoofdompafkddaaDoor.Ln
open Go.Proofs.YtoofdompafkddaaDoor.Tk

/-- Two bytes 32 that part a line into a token, a target and a version. -/
def Hit (l : Bs) (i k : Nat) : Prop := i < k ∧ k < l.length ∧ l[i]? = some 32 ∧ l[k]? = some 32 ∧ isTok (l.take i) = true ∧ isTgt ((l.drop (i + 1)).take (k - (i + 1))) = true ∧ isMin (minorOf (l.drop (k + 1))) = true

theorem part_at {l : Bs} {i : Nat} (h : l[i]? = some 32) : l = l.take i ++ 32 :: l.drop (i + 1) := by
  obtain ⟨hi, he⟩ := List.getElem?_eq_some_iff.1 h
  conv => lhs; rw [← List.take_append_drop i l]
  rw [List.drop_eq_getElem_cons hi, he]
theorem hit_parts {l : Bs} {i k : Nat} (h : Hit l i k) : reqOk l = true ∧ fst l = l.take i ∧ fst (rst l) = (l.drop (i + 1)).take (k - (i + 1)) ∧ rst (rst l) = l.drop (k + 1) := by
  obtain ⟨hik, hk, h1, h2, h3, h4, h5⟩ := h
  have e1 := part_at h1
  have f1 : fst l = l.take i := by
    conv => lhs; rw [e1]
    exact fst_mk (tok_no h3)
  have r1 : rst l = l.drop (i + 1) := by
    conv => lhs; rw [e1]
    exact rst_mk (tok_no h3)
  have h2' : (l.drop (i + 1))[k - (i + 1)]? = some 32 := by rw [List.getElem?_drop, show i + 1 + (k - (i + 1)) = k from by omega]; exact h2
  have e2 := part_at h2'
  rw [List.drop_drop, show i + 1 + (k - (i + 1) + 1) = k + 1 from by omega] at e2
  have f2 : fst (l.drop (i + 1)) = (l.drop (i + 1)).take (k - (i + 1)) := by
    conv => lhs; rw [e2]
    exact fst_mk (tgt_no h4)
  have r2 : rst (l.drop (i + 1)) = l.drop (k + 1) := by
    conv => lhs; rw [e2]
    exact rst_mk (tgt_no h4)
  rw [r1]
  refine ⟨?_, f1, f2, r2⟩
  unfold reqOk
  rw [r1, f1, f2, r2, h3, h4, h5]; rfl
theorem hit_of_ok {l : Bs} (h : reqOk l = true) : ∃ i k, Hit l i k := by
  unfold reqOk at h
  simp only [Bool.and_eq_true] at h
  obtain ⟨⟨h1, h2⟩, h3⟩ := h
  have a2 : idx (rst l) < (rst l).length := by
    refine Decidable.byContradiction fun hn => ?_
    rw [rst_full hn] at h3; exact absurd h3 (by decide)
  have a1 : idx l < l.length := by
    refine Decidable.byContradiction fun hn => ?_
    rw [rst_full hn] at a2; simp [idx] at a2
  have hl := rst_len l
  refine ⟨idx l, idx l + 1 + idx (rst l), by omega, by omega, ?_, ?_, h1, ?_, ?_⟩
  · rw [List.getElem?_eq_getElem a1, idx_at l a1]
  · have := List.getElem?_drop (xs := l) (i := idx l + 1) (j := idx (rst l))
    rw [← this, show l.drop (idx l + 1) = rst l from rfl, List.getElem?_eq_getElem a2, idx_at _ a2]
  · rw [show idx l + 1 + idx (rst l) - (idx l + 1) = idx (rst l) from by omega]; exact h2
  · rw [show idx l + 1 + idx (rst l) + 1 = idx l + 1 + (idx (rst l) + 1) from by omega, ← List.drop_drop]; exact h3
theorem ok_false {l : Bs} (h : ∀ i k, i < l.length → ¬ Hit l i k) : reqOk l = false := by
  cases hr : reqOk l with
  | false => rfl
  | true =>
    obtain ⟨i, k, hh⟩ := hit_of_ok hr
    exact absurd hh (h i k (Nat.lt_trans hh.1 hh.2.1))
/-- No two places from before (i, k) on part the line. -/
def NoHit (l : Bs) (i k : Nat) : Prop := (∀ i' k', i' < i → ¬ Hit l i' k') ∧ ∀ k', k' < k → ¬ Hit l i k'
theorem NoHit.start (l : Bs) : NoHit l 0 0 := ⟨fun _ _ h => by omega, fun _ h => by omega⟩
theorem NoHit.skip {l : Bs} {i : Nat} (h : NoHit l i 0) (hn : l[i]? ≠ some 32) : NoHit l (i + 1) 0 := by
  refine ⟨fun i' k' hi hh => ?_, fun _ h => by omega⟩
  by_cases e : i' = i
  · subst e; exact hn hh.2.2.1
  · exact h.1 i' k' (by omega) hh
theorem NoHit.enter {l : Bs} {i : Nat} (h : NoHit l i 0) : NoHit l i (i + 1) := ⟨h.1, fun _ hk hh => by have := hh.1; omega⟩
theorem NoHit.next {l : Bs} {i k : Nat} (h : NoHit l i k) (hn : ¬ Hit l i k) : NoHit l i (k + 1) := by
  refine ⟨h.1, fun k' hk hh => ?_⟩
  by_cases e : k' = k
  · subst e; exact hn hh
  · exact h.2 k' (by omega) hh
theorem NoHit.leave {l : Bs} {i : Nat} (h : NoHit l i l.length) : NoHit l (i + 1) 0 := by
  refine ⟨fun i' k' hi hh => ?_, fun _ h => by omega⟩
  by_cases e : i' = i
  · subst e; exact h.2 k' hh.2.1 hh
  · exact h.1 i' k' (by omega) hh
theorem NoHit.all {l : Bs} (h : NoHit l l.length 0) : reqOk l = false := ok_false fun i k hi => h.1 i k hi

theorem byte_at (s : ByteArray) (i : Nat) (h : i < s.size) : s.data.toList[i]? = some s[i] := by rw [List.getElem?_eq_getElem (by simpa using h)]; rfl
theorem byte_is {c : UInt8} (h : (c.toNat : Int) = 32) : c = 32 := by
  have : c.toNat = 32 := by omega
  exact UInt8.toNat_inj.1 this
theorem is_byte {c : UInt8} (h : c = 32) : (c.toNat : Int) = 32 := by rw [h]; rfl
theorem bytes_ext {a b : ByteArray} (h : a.data.toList = b.data.toList) : a = b := by
  apply ByteArray.ext; exact Array.toList_inj.1 h
theorem cut_text (s : ByteArray) (a b : Nat) : s.extract a b = ⟨((s.data.toList.drop a).take (b - a)).toArray⟩ := bytes_ext (by rw [Lib.extract_data])
theorem cut_head (s : ByteArray) (b : Nat) : s.extract 0 b = ⟨(s.data.toList.take b).toArray⟩ := by rw [cut_text]; rfl
theorem cut_tail (s : ByteArray) (a : Nat) : s.extract a s.size = ⟨(s.data.toList.drop a).toArray⟩ := bytes_ext (by rw [Lib.extract_to_end])

/-- A status line by its places. -/
def stRef (l : Bs) : Bool := decide (12 ≤ l.length) && isMin (minorOf (l.take 8)) && (l[8]? == some 32) && isCod (codeOf ((l.drop 9).take 3)) && (decide (l.length = 12) || ((l[12]? == some 32) && isRsn (l.drop 13)))
theorem code_len {l : Bs} (h : isCod (codeOf l) = true) : l.length = 3 := by
  match l, h with
  | [_, _, _], _ => rfl
  | [], h => exact absurd h (by decide)
  | [_], h => exact absurd (show isCod (-1) = true from h) (by decide)
  | [_, _], h => exact absurd (show isCod (-1) = true from h) (by decide)
  | _ :: _ :: _ :: _ :: _, h => exact absurd (show isCod (-1) = true from h) (by decide)
theorem dgt_ne {c : UInt8} (h : dgt c = true) : c ≠ 32 := by
  intro e; rw [e] at h; exact absurd h (by decide)
theorem code_no {l : Bs} (h : isCod (codeOf l) = true) : ∀ c ∈ l, c ≠ 32 := by
  match l, code_len h, h with
  | [a, b, c], _, h =>
    have hd : (dgt a && dgt b && dgt c) = true := by
      cases hd : (dgt a && dgt b && dgt c) with
      | true => rfl
      | false =>
        have e : codeOf [a, b, c] = -1 := by simp only [codeOf, hd]; rfl
        rw [e] at h; exact absurd h (by decide)
    simp only [Bool.and_eq_true] at hd
    intro x hx
    simp at hx
    rcases hx with rfl | rfl | rfl
    · exact dgt_ne hd.1.1
    · exact dgt_ne hd.1.2
    · exact dgt_ne hd.2
theorem ver_len {l : Bs} (h : isMin (minorOf l) = true) : l.length = 8 := by
  unfold minorOf at h
  split at h
  · rename_i e; rw [e]; rfl
  · split at h
    · rename_i e; rw [e]; rfl
    · exact absurd h (by decide)
theorem st_parts {l : Bs} (h : stRef l = true) : stOk l = true ∧ fst l = l.take 8 ∧ fst (rst l) = (l.drop 9).take 3 ∧ rst (rst l) = l.drop 13 := by
  unfold stRef at h
  simp only [Bool.and_eq_true, Bool.or_eq_true, decide_eq_true_eq, beq_iff_eq] at h
  obtain ⟨⟨⟨⟨h1, h2⟩, h3⟩, h4⟩, h5⟩ := h
  have e1 := part_at h3
  have f1 : fst l = l.take 8 := by
    conv => lhs; rw [e1]
    exact fst_mk (ver_no h2)
  have r1 : rst l = l.drop 9 := by
    conv => lhs; rw [e1]
    exact rst_mk (ver_no h2)
  have key : fst (l.drop 9) = (l.drop 9).take 3 ∧ rst (l.drop 9) = l.drop 13 ∧ isRsn (l.drop 13) = true := by
    rcases h5 with h5 | ⟨h5, h6⟩
    · have e3 : (l.drop 9).take 3 = l.drop 9 := List.take_of_length_le (by rw [List.length_drop]; omega)
      rw [e3] at h4
      have e4 : l.drop 13 = [] := List.drop_eq_nil_of_le (by omega)
      rw [e3, e4]
      exact ⟨fst_none (code_no h4), rst_none (code_no h4), rfl⟩
    · have h5' : (l.drop 9)[3]? = some 32 := by rw [List.getElem?_drop]; exact h5
      have e2 := part_at h5'
      rw [List.drop_drop] at e2
      refine ⟨?_, ?_, h6⟩
      · conv => lhs; rw [e2]
        exact fst_mk (code_no h4)
      · conv => lhs; rw [e2]
        exact rst_mk (code_no h4)
  rw [r1]
  refine ⟨?_, f1, key.1, key.2.1⟩
  unfold stOk
  rw [r1, f1, key.1, key.2.1, h2, h4, key.2.2]; rfl
theorem st_ref {l : Bs} (h : stOk l = true) : stRef l = true := by
  unfold stOk at h
  simp only [Bool.and_eq_true] at h
  obtain ⟨⟨h1, h2⟩, h3⟩ := h
  have l1 := ver_len h1
  have l2 := code_len h2
  rw [fst_len] at l1 l2
  have b2 := idx_le (rst l)
  have hl := rst_len l
  have a1 : idx l < l.length := by omega
  have t1 : l.take 8 = fst l := by unfold fst; rw [l1]
  have d1 : l.drop 9 = rst l := by unfold rst; rw [l1]
  have t2 : (rst l).take 3 = fst (rst l) := by unfold fst; rw [l2]
  have d2 : l.drop 13 = rst (rst l) := by
    have e : rst (rst l) = (rst l).drop 4 := by unfold rst; rw [show idx (List.drop (idx l + 1) l) = 3 from l2]
    rw [e, ← d1, List.drop_drop]
  have p8 : l[8]? = some 32 := by
    have := idx_at l a1
    rw [List.getElem?_eq_getElem (by omega)]
    rw [show l[8]'(by omega) = l[idx l] from by congr 1; omega, this]
  unfold stRef
  rw [t1, d1, t2, d2, h1, h2, h3, p8]
  have c1 : decide (12 ≤ l.length) = true := by rw [decide_eq_true_iff]; omega
  rw [c1]
  by_cases e : l.length = 12
  · simp [e]
  · have a2 : idx (rst l) < (rst l).length := by omega
    have p12 : l[12]? = some 32 := by
      have h4 := idx_at (rst l) a2
      have h5 : (rst l)[3]? = some 32 := by
        rw [List.getElem?_eq_getElem (by omega)]
        rw [show (rst l)[3]'(by omega) = (rst l)[idx (rst l)] from by congr 1; omega, h4]
      rw [← d1, List.getElem?_drop] at h5
      exact h5
    rw [p12]; simp
theorem st_no {l : Bs} (h : stRef l = false) : stOk l = false := by
  cases hs : stOk l with
  | false => rfl
  | true => rw [st_ref hs] at h; exact absurd h (by decide)
end Go.Proofs.YtoofdompafkddaaDoor.Ln
/-
  The reference's Request: what it returns. Condition: none beyond the lengths that a string can have.
-/
namespace Go.Proofs.YtoofdompafkddaaDoor.Ln
open Go.RowKit Go.Proofs.YtoofdompafkddaaDoor.Tk

theorem cut_mid (s : ByteArray) (i k : Nat) (w : World) (h : i < k) (hk : k ≤ s.size) :
    (Instr.slice 9 (.string s) (some (.int .i64 ((i : Int) + 1))) (some (.int .i64 (k : Int))) none).run Tryd.prog w = .ok (.string (s.extract (i + 1) k)) w := by
  have e : ((i : Int) + 1).toNat = i + 1 := by omega
  have := run_slice_string (P := Tryd.prog) w 9 s .i64 .i64 ((i : Int) + 1) (k : Int) Tryd.underlying9 (by omega) (by omega) (by omega)
  rw [e, Int.toNat_natCast] at this
  exact this
def RefPost (v : Value) (w : World) (e : Ending) (w' : World) : Prop := e = .returned v ∧ ∃ n, w' = w.drewN n

set_option maxHeartbeats 4000000 in
theorem refRequest_any (s : ByteArray) (w : World) :
    Calls Tryd.prog 74 #[.string s] w (RefPost (reqVal s) w) := by
  by_cases hs : 1024 < s.size
  · have HV := Lib.hid (show reqVal s = .tuple #[.string ⟨#[]⟩, .string ⟨#[]⟩, .int .i64 0, .int .i64 3] from by unfold reqVal; rw [if_pos hs])
    go_enter Tryd.func74, Tryd.ntmps74
    go_wp2_with fail
    refine bodyPost_ret (v := .tuple #[.string ⟨#[]⟩, .string ⟨#[]⟩, .int .i64 0, .int .i64 3]) (by simp [results, Tryd.results74, go_sem]) rfl ⟨by rw [HV.out], 0, rfl⟩
  · have HF := Lib.hid (fun (h : reqOk s.data.toList = false) => show reqVal s = .tuple #[.string ⟨#[]⟩, .string ⟨#[]⟩, .int .i64 0, .int .i64 30] from by unfold reqVal; rw [if_neg hs, if_neg (by rw [h]; simp)])
    have HY := Lib.hid (fun (i k : Nat) (h : Hit s.data.toList i k) => show reqVal s = .tuple #[.string (s.extract 0 i), .string (s.extract (i + 1) k), .int .i64 (minorOf (s.data.toList.drop (k + 1))), .int .i64 0] from by
      obtain ⟨p1, p2, p3, p4⟩ := hit_parts h
      unfold reqVal; rw [if_neg hs, if_pos p1, p2, p3, p4, cut_head, cut_text])
    go_enter Tryd.func74, Tryd.ntmps74
    go_wp2_with fail
    go_loop [6, 7] (fun i _ => ∃ k : Nat, k ≤ s.size ∧ i = .int .i64 (k : Int) ∧ NoHit s.data.toList k 0) (fun i _ => s.size - (intOf i).toNat)
    case atStart => exact ⟨0, Nat.zero_le _, rfl, NoHit.start _⟩
    case round =>
      obtain ⟨i, hi, rfl, hno⟩ := hrel
      have HN := Lib.hid hno
      clear hno
      by_cases hlt : i < s.size
      · obtain ⟨c, hc⟩ : ∃ c, s[i] = c := ⟨_, rfl⟩
        have HC := Lib.hid hc
        by_cases h32 : (c.toNat : Int) = 32
        · have t0 : ((s[i].toNat : Int) != 32) = false := by rw [hc, h32]; rfl
          have H32 := Lib.hid (show s.data.toList[i]? = some 32 from by rw [byte_at s i hlt, hc, byte_is h32])
          have HE := Lib.hid HN.out.enter
          clear h32 hc
          go_wp2_with fail
          go_loop [7] (fun k => ∃ m : Nat, i < m ∧ m ≤ s.size ∧ k = .int .i64 (m : Int) ∧ NoHit s.data.toList i m) (fun k => s.size - (intOf k).toNat)
          case atStart => exact ⟨i + 1, by omega, by omega, by go_num, HE.out⟩
          case round =>
            obtain ⟨k, hik, hk, rfl, hno⟩ := hrel
            have HK := Lib.hid hno
            clear hno
            by_cases hkt : k < s.size
            · obtain ⟨d, hd⟩ : ∃ d, s[k] = d := ⟨_, rfl⟩
              by_cases hk32 : (d.toNat : Int) = 32
              · have t1 : ((s[k].toNat : Int) == 32) = true := by rw [hd, hk32]; rfl
                have HK32 := Lib.hid (show s.data.toList[k]? = some 32 from by rw [byte_at s k hkt, hd, byte_is hk32])
                have E1 := Lib.hid (show (s.extract 0 i).data.toList = s.data.toList.take i from by rw [Lib.extract_data]; rfl)
                have E2 := Lib.hid (show (s.extract (i + 1) k).data.toList = (s.data.toList.drop (i + 1)).take (k - (i + 1)) from Lib.extract_data _ _ _)
                have E3 := Lib.hid (show (s.extract (k + 1) s.size).data.toList = s.data.toList.drop (k + 1) from Lib.extract_to_end _ _)
                have S1 := Lib.hid (show (s.extract 0 i).size ≤ maxLen from by simp; unfold maxLen; omega)
                have S2 := Lib.hid (show (s.extract (i + 1) k).size ≤ maxLen from by simp; unfold maxLen; omega)
                clear hk32 hd
                have r2 := fun W => cut_mid s i k W hik (by omega)
                cases b1 : isTok (s.data.toList.take i) with
                | false =>
                  have B1 := Lib.hid b1
                  have HX := Lib.hid (HK.out.next (fun hh => by rw [hh.2.2.2.2.1] at b1; exact absurd b1 (by decide)))
                  clear b1
                  go_wp2_with (go_at_call 104; refine (refIs_any _ _ S1.out).mono ?_; rintro e w' ⟨rfl, rfl⟩; rw [E1.out, B1.out])
                  go_round
                  case rel => exact ⟨k + 1, by omega, by omega, by go_num, HX.out⟩
                  case measure => simp [intOf]; omega
                | true =>
                  have B1 := Lib.hid b1
                  clear b1
                  cases b2 : isTgt ((s.data.toList.drop (i + 1)).take (k - (i + 1))) with
                  | false =>
                    have B2 := Lib.hid b2
                    have HX := Lib.hid (HK.out.next (fun hh => by rw [hh.2.2.2.2.2.1] at b2; exact absurd b2 (by decide)))
                    clear b2
                    go_wp2_with fail
                    refine (refIs_any _ _ S1.out).mono ?_
                    rintro e w' ⟨rfl, rfl⟩
                    rw [E1.out, B1.out]
                    go_wp2_with fail
                    refine (refTarget_any _ _ S2.out).mono ?_
                    rintro e w' ⟨rfl, rfl⟩
                    rw [E2.out, B2.out]
                    go_wp2_with fail
                    go_round
                    case rel => exact ⟨k + 1, by omega, by omega, by go_num, HX.out⟩
                    case measure => simp [intOf]; omega
                  | true =>
                    have B2 := Lib.hid b2
                    clear b2
                    obtain ⟨M, hM⟩ : ∃ M : Int, M = minorOf (s.data.toList.drop (k + 1)) := ⟨_, rfl⟩
                    have HM := Lib.hid hM
                    have hbd := minor_bd (s.data.toList.drop (k + 1))
                    rw [← hM] at hbd
                    by_cases h0 : 0 ≤ M
                    · have HH : Hit s.data.toList i k := ⟨hik, by simpa using hkt, H32.out, HK32.out, B1.out, B2.out, by rw [isMin_minor, ← hM]; simpa using h0⟩
                      have HV := Lib.hid (HY.out i k HH)
                      have hver := fun W => (refVersion_any (s.extract (k + 1) s.size) W).mono (R' := fun e w' => e = .returned (.int .i64 M) ∧ w' = W) fun e w' ⟨he, hw⟩ => ⟨by rw [he, E3.out, hM], hw.symm⟩
                      clear hM HH
                      go_wp2_with fail
                      refine (refIs_any _ _ S1.out).mono ?_
                      rintro e w' ⟨rfl, rfl⟩
                      rw [E1.out, B1.out]
                      go_wp2_with fail
                      refine (refTarget_any _ _ S2.out).mono ?_
                      rintro e w' ⟨rfl, rfl⟩
                      rw [E2.out, B2.out]
                      go_wp2_with fail
                      refine (hver _).mono ?_
                      rintro e w' ⟨rfl, rfl⟩
                      go_wp2_with fail
                      go_quiet ((go_at_call 101; exact Calls.quiet_of_same (hver _)))
                      go_wp2_with fail
                      refine bodyPost_ret (v := .tuple #[.string (s.extract 0 i), .string (s.extract (i + 1) k), .int .i64 M, .int .i64 0]) (by simp [results, Tryd.results74, go_sem]) rfl ⟨by rw [HV.out, HM.out], _, rfl⟩
                    · have hM1 : M = -1 := by omega
                      have HX := Lib.hid (HK.out.next (fun hh => by have h7 := hh.2.2.2.2.2.2; rw [isMin_minor, ← hM] at h7; simp at h7; omega))
                      clear hM hM1
                      go_wp2_with fail
                      refine (refIs_any _ _ S1.out).mono ?_
                      rintro e w' ⟨rfl, rfl⟩
                      rw [E1.out, B1.out]
                      go_wp2_with fail
                      refine (refTarget_any _ _ S2.out).mono ?_
                      rintro e w' ⟨rfl, rfl⟩
                      rw [E2.out, B2.out]
                      go_wp2_with fail
                      refine (refVersion_any _ _).mono ?_
                      rintro e w' ⟨rfl, rfl⟩
                      rw [E3.out, ← HM.out]
                      go_wp2_with fail
                      go_round
                      case rel => exact ⟨k + 1, by omega, by omega, by go_num, HX.out⟩
                      case measure => simp [intOf]; omega
              · have t1 : ((s[k].toNat : Int) == 32) = false := by rw [hd, beq_eq_false_iff_ne]; exact hk32
                have HX := Lib.hid (HK.out.next (fun hh => by have h4 := hh.2.2.2.1; rw [byte_at s k hkt, hd] at h4; exact hk32 (is_byte (Option.some.inj h4))))
                clear hk32 hd
                go_wp2_with fail
                go_round
                case rel => exact ⟨k + 1, by omega, by omega, by go_num, HX.out⟩
                case measure => simp [intOf]; omega
            · obtain rfl : k = s.size := by omega
              have HL := Lib.hid (NoHit.leave (l := s.data.toList) (i := i) (by simpa using HK.out))
              go_wp2_with fail
              go_round
              case rel => exact ⟨i + 1, by omega, by go_num, HL.out⟩
              case measure => simp [intOf]; omega
        · have t0 : ((s[i].toNat : Int) != 32) = true := by rw [hc, bne_iff_ne]; exact h32
          have HS := Lib.hid (HN.out.skip (by rw [byte_at s i hlt, hc]; intro e; exact h32 (is_byte (Option.some.inj e))))
          clear h32 hc
          go_wp2_with fail
          go_round
          case rel => exact ⟨i + 1, by omega, by go_num, HS.out⟩
          case measure => simp [intOf]; omega
      · obtain rfl : i = s.size := by omega
        have HFF := Lib.hid (HF.out (NoHit.all (by simpa using HN.out)))
        go_wp2_with fail
        refine bodyPost_ret (v := .tuple #[.string ⟨#[]⟩, .string ⟨#[]⟩, .int .i64 0, .int .i64 30]) (by simp [results, Tryd.results74, go_sem]) rfl ⟨by rw [HFF.out], 0, rfl⟩
end Go.Proofs.YtoofdompafkddaaDoor.Ln
/-
  The reference's Status: what it returns. Condition: none beyond the lengths that a string can have.
-/
namespace Go.Proofs.YtoofdompafkddaaDoor.Ln
open Go.RowKit Go.Proofs.YtoofdompafkddaaDoor.Tk

theorem err_post {s : ByteArray} {w w' : World} (hs : ¬ 1024 < s.size) (h : stRef s.data.toList = false) (hw : ∃ n, w' = w.drewN n) : RefPost (stVal s) w (.returned (.tuple #[.int .i64 0, .int .i64 0, .string ⟨#[]⟩, .int .i64 30])) w' :=
  ⟨by unfold stVal; rw [if_neg hs, if_neg (by rw [st_no h]; simp)], hw⟩

set_option maxHeartbeats 4000000 in
theorem refStatus_any (s : ByteArray) (w : World) :
    Calls Tryd.prog 73 #[.string s] w (RefPost (stVal s) w) := by
  by_cases hs : 1024 < s.size
  · have HV := Lib.hid (show stVal s = .tuple #[.int .i64 0, .int .i64 0, .string ⟨#[]⟩, .int .i64 3] from by unfold stVal; rw [if_pos hs])
    go_enter Tryd.func73, Tryd.ntmps73
    go_wp2_with fail
    refine bodyPost_ret (v := .tuple #[.int .i64 0, .int .i64 0, .string ⟨#[]⟩, .int .i64 3]) (by simp [results, Tryd.results73, go_sem]) rfl ⟨by rw [HV.out], 0, rfl⟩
  · have HF := Lib.hid (fun (w' : World) (h : stRef s.data.toList = false) (hw : ∃ n, w' = w.drewN n) => err_post hs h hw)
    by_cases h12 : s.size < 12
    · have HE := Lib.hid (HF.out w (by unfold stRef; rw [show decide (12 ≤ s.data.toList.length) = false from by simp; omega]; rfl) ⟨0, rfl⟩)
      clear HF
      go_enter Tryd.func73, Tryd.ntmps73
      go_wp2_with fail
      exact bodyPost_ret (v := .tuple #[.int .i64 0, .int .i64 0, .string ⟨#[]⟩, .int .i64 30]) (by simp [results, Tryd.results73, go_sem]) rfl HE.out
    · have c1 : decide (12 ≤ s.data.toList.length) = true := by simp; omega
      obtain ⟨M, hM⟩ : ∃ M : Int, M = minorOf (s.data.toList.take 8) := ⟨_, rfl⟩
      have hbd := minor_bd (s.data.toList.take 8)
      rw [← hM] at hbd
      obtain ⟨V, xV⟩ : ∃ V, s.extract 0 8 = V := ⟨_, rfl⟩
      obtain ⟨T, xT⟩ : ∃ T, s.extract 9 12 = T := ⟨_, rfl⟩
      obtain ⟨R, xR⟩ : ∃ R, s.extract 13 s.size = R := ⟨_, rfl⟩
      have E1 := Lib.hid (show V.data.toList = s.data.toList.take 8 from by rw [← xV, Lib.extract_data]; rfl)
      have HM := Lib.hid hM
      have hver := fun W => (refVersion_any V W).mono (R' := fun e w' => e = .returned (.int .i64 M) ∧ w' = W) fun e w' ⟨he, hw⟩ => ⟨by rw [he, E1.out, hM], hw.symm⟩
      have HVer := Lib.hid hver
      by_cases hm0 : 0 ≤ M
      · have c2 : isMin (minorOf (s.data.toList.take 8)) = true := by rw [isMin_minor, ← hM]; simpa using hm0
        clear hM hver
        obtain ⟨c, hc⟩ : ∃ c, s[8] = c := ⟨_, rfl⟩
        have hb := byte_at s 8 (by omega)
        rw [hc] at hb
        by_cases h32 : (c.toNat : Int) = 32
        · have t0 : ((s[8].toNat : Int) != 32) = false := by rw [hc, h32]; rfl
          have c3 : (s.data.toList[8]? == some 32) = true := by rw [hb, byte_is h32]; rfl
          have E2 := Lib.hid (show T.data.toList = (s.data.toList.drop 9).take 3 from by rw [← xT]; exact Lib.extract_data _ _ _)
          have L2 : ((s.data.toList.drop 9).take 3).length = 3 := by simp; omega
          have S2 := Lib.hid (show T.size ≤ maxLen from by rw [← xT]; simp; unfold maxLen; omega)
          have hco := code_of (most := 1000) L2 (by omega)
          rw [← E2.out] at hco
          have hx : (⟨T.data.toList.toArray⟩ : ByteArray) = T := bytes_ext (by simp)
          rw [hx] at hco
          obtain ⟨N, hN⟩ : ∃ N, N = Num.numOf T 1000 := ⟨_, rfl⟩
          have HN := Lib.hid hN
          rw [← hN, E2.out] at hco
          have hcb := code_bd ((s.data.toList.drop 9).take 3)
          have C1 := Lib.hid c1
          have C2 := Lib.hid c2
          have C3 := Lib.hid c3
          clear hN hx h32 hc hb c1 c2 c3 L2
          obtain ⟨N1, N2⟩ := N
          cases N2 with
          | false =>
            have HE := Lib.hid (HF.out w (by unfold stRef; rw [C1.out, C2.out, C3.out, hco]; rfl) ⟨0, rfl⟩)
            clear HF hco hcb
            go_enter Tryd.func73, Tryd.ntmps73
            go_wp2_with fail
            refine (HVer.out _).mono ?_
            rintro e w' ⟨rfl, rfl⟩
            go_wp2_with fail
            refine (Num.refNumber_any _ 1000 _ S2.out (by omega) (by omega)).mono ?_
            rintro e w' ⟨rfl, rfl⟩
            rw [← HN.out]
            go_wp2_with fail
            exact bodyPost_ret (v := .tuple #[.int .i64 0, .int .i64 0, .string ⟨#[]⟩, .int .i64 30]) (by simp [results, Tryd.results73, go_sem]) rfl HE.out
          | true =>
            rw [if_pos rfl] at hco
            have hco' : codeOf ((s.data.toList.drop 9).take 3) = N1 := hco
            rw [hco'] at hcb
            have HCo := Lib.hid hco'
            clear hco hco'
            by_cases hr : 100 ≤ N1 ∧ N1 ≤ 599
            · obtain ⟨hr1, hr2⟩ := hr
              have C4 := Lib.hid (show isCod (codeOf ((s.data.toList.drop 9).take 3)) = true from by rw [HCo.out]; simp [isCod]; omega)
              clear hcb
              by_cases he : s.size = 12
              · have hl : s.data.toList.length = 12 := by simpa using he
                have HP := Lib.hid (st_parts (l := s.data.toList) (by unfold stRef; rw [C1.out, C2.out, C3.out, C4.out, hl]; rfl))
                have HV := Lib.hid (show stVal s = .tuple #[.int .i64 M, .int .i64 N1, .string ⟨#[]⟩, .int .i64 0] from by
                  obtain ⟨p1, p2, p3, p4⟩ := HP.out
                  have e13 : s.data.toList.drop 13 = [] := List.drop_eq_nil_of_le (by omega)
                  unfold stVal; rw [if_neg hs, if_pos p1, p2, p3, p4, e13, HCo.out, ← HM.out])
                have t12 : ((s.size : Int) == 12) = true := by rw [he]; rfl
                clear HF hl he
                go_enter Tryd.func73, Tryd.ntmps73
                go_wp2_with fail
                refine (HVer.out _).mono ?_
                rintro e w' ⟨rfl, rfl⟩
                go_wp2_with fail
                refine (Num.refNumber_any _ 1000 _ S2.out (by omega) (by omega)).mono ?_
                rintro e w' ⟨rfl, rfl⟩
                rw [← HN.out]
                go_wp2_with fail
                refine (HVer.out _).mono ?_
                rintro e w' ⟨rfl, rfl⟩
                go_wp2_with fail
                exact bodyPost_ret (v := .tuple #[.int .i64 M, .int .i64 N1, .string ⟨#[]⟩, .int .i64 0]) (by simp [results, Tryd.results73, go_sem]) rfl ⟨by rw [HV.out], 0, rfl⟩
              · have hl : decide (s.data.toList.length = 12) = false := by simpa using he
                have t12 : ((s.size : Int) == 12) = false := by rw [beq_eq_false_iff_ne]; omega
                have h13 : 13 ≤ s.size := by omega
                obtain ⟨d, hd⟩ : ∃ d, s[12] = d := ⟨_, rfl⟩
                have hdb := byte_at s 12 (by omega)
                rw [hd] at hdb
                have E3 := Lib.hid (show R.data.toList = s.data.toList.drop 13 from by rw [← xR]; exact Lib.extract_to_end _ _)
                have S3 := Lib.hid (show R.size ≤ maxLen from by rw [← xR]; simp; unfold maxLen; omega)
                by_cases hd32 : (d.toNat : Int) = 32
                · have td : ((s[12].toNat : Int) != 32) = false := by rw [hd, hd32]; rfl
                  have c5 : (s.data.toList[12]? == some 32) = true := by rw [hdb, byte_is hd32]; rfl
                  have C5 := Lib.hid c5
                  clear hd32 hd hdb c5
                  cases hrs : isRsn (s.data.toList.drop 13) with
                  | false =>
                    have HE := Lib.hid (HF.out w (by unfold stRef; rw [C1.out, C2.out, C3.out, C4.out, C5.out, hl, hrs]; rfl) ⟨0, rfl⟩)
                    have HRs := Lib.hid hrs
                    clear HF hrs hl
                    go_enter Tryd.func73, Tryd.ntmps73
                    go_wp2_with fail
                    refine (HVer.out _).mono ?_
                    rintro e w' ⟨rfl, rfl⟩
                    go_wp2_with fail
                    refine (Num.refNumber_any _ 1000 _ S2.out (by omega) (by omega)).mono ?_
                    rintro e w' ⟨rfl, rfl⟩
                    rw [← HN.out]
                    go_wp2_with fail
                    refine (refReason_any _ _ S3.out).mono ?_
                    rintro e w' ⟨rfl, rfl⟩
                    rw [E3.out, HRs.out]
                    go_wp2_with fail
                    exact bodyPost_ret (v := .tuple #[.int .i64 0, .int .i64 0, .string ⟨#[]⟩, .int .i64 30]) (by simp [results, Tryd.results73, go_sem]) rfl HE.out
                  | true =>
                    have HP := Lib.hid (st_parts (l := s.data.toList) (by unfold stRef; rw [C1.out, C2.out, C3.out, C4.out, C5.out, hl, hrs]; rfl))
                    have HV := Lib.hid (show stVal s = .tuple #[.int .i64 M, .int .i64 N1, .string R, .int .i64 0] from by
                      obtain ⟨p1, p2, p3, p4⟩ := HP.out
                      unfold stVal; rw [if_neg hs, if_pos p1, p2, p3, p4, HCo.out, ← HM.out, ← xR, cut_tail])
                    have HRs := Lib.hid hrs
                    clear HF hrs hl
                    go_enter Tryd.func73, Tryd.ntmps73
                    go_wp2_with fail
                    refine (HVer.out _).mono ?_
                    rintro e w' ⟨rfl, rfl⟩
                    go_wp2_with fail
                    refine (Num.refNumber_any _ 1000 _ S2.out (by omega) (by omega)).mono ?_
                    rintro e w' ⟨rfl, rfl⟩
                    rw [← HN.out]
                    go_wp2_with fail
                    refine (refReason_any _ _ S3.out).mono ?_
                    rintro e w' ⟨rfl, rfl⟩
                    rw [E3.out, HRs.out]
                    go_wp2_with fail
                    go_quiet ((go_at_call 101; exact Calls.quiet_of_same (HVer.out _)))
                    go_wp2_with fail
                    exact bodyPost_ret (v := .tuple #[.int .i64 M, .int .i64 N1, .string R, .int .i64 0]) (by simp [results, Tryd.results73, go_sem]) rfl ⟨by rw [HV.out], _, rfl⟩
                · have td : ((s[12].toNat : Int) != 32) = true := by rw [hd, bne_iff_ne]; exact hd32
                  have c5 : (s.data.toList[12]? == some 32) = false := by
                    rw [hdb, beq_eq_false_iff_ne]; intro e; exact hd32 (is_byte (Option.some.inj e))
                  have HE := Lib.hid (HF.out w (by unfold stRef; rw [C1.out, C2.out, C3.out, C4.out, c5, hl]; rfl) ⟨0, rfl⟩)
                  clear HF hd32 hd hdb c5 hl
                  go_enter Tryd.func73, Tryd.ntmps73
                  go_wp2_with fail
                  refine (HVer.out _).mono ?_
                  rintro e w' ⟨rfl, rfl⟩
                  go_wp2_with fail
                  refine (Num.refNumber_any _ 1000 _ S2.out (by omega) (by omega)).mono ?_
                  rintro e w' ⟨rfl, rfl⟩
                  rw [← HN.out]
                  go_wp2_with fail
                  exact bodyPost_ret (v := .tuple #[.int .i64 0, .int .i64 0, .string ⟨#[]⟩, .int .i64 30]) (by simp [results, Tryd.results73, go_sem]) rfl HE.out
            · have HE := Lib.hid (HF.out w (by unfold stRef; rw [C1.out, C2.out, C3.out, HCo.out, show isCod N1 = false from by cases hb : isCod N1 with | false => rfl | true => simp [isCod] at hb; exact absurd hb hr]; rfl) ⟨0, rfl⟩)
              have hr' : N1 < 100 ∨ (100 ≤ N1 ∧ 599 < N1) := by omega
              clear HF hcb hr
              rcases hr' with hr' | ⟨hr', hr''⟩
              all_goals
                go_enter Tryd.func73, Tryd.ntmps73
                go_wp2_with fail
                refine (HVer.out _).mono ?_
                rintro e w' ⟨rfl, rfl⟩
                go_wp2_with fail
                refine (Num.refNumber_any _ 1000 _ S2.out (by omega) (by omega)).mono ?_
                rintro e w' ⟨rfl, rfl⟩
                rw [← HN.out]
                go_wp2_with fail
                exact bodyPost_ret (v := .tuple #[.int .i64 0, .int .i64 0, .string ⟨#[]⟩, .int .i64 30]) (by simp [results, Tryd.results73, go_sem]) rfl HE.out
        · have t0 : ((s[8].toNat : Int) != 32) = true := by rw [hc, bne_iff_ne]; exact h32
          have HE := Lib.hid (HF.out w (by unfold stRef; rw [c1, c2, show (s.data.toList[8]? == some 32) = false from by rw [hb, beq_eq_false_iff_ne]; intro e; exact h32 (is_byte (Option.some.inj e))]; rfl) ⟨0, rfl⟩)
          clear HF h32 hc hb c1 c2
          go_enter Tryd.func73, Tryd.ntmps73
          go_wp2_with fail
          refine (HVer.out _).mono ?_
          rintro e w' ⟨rfl, rfl⟩
          go_wp2_with fail
          exact bodyPost_ret (v := .tuple #[.int .i64 0, .int .i64 0, .string ⟨#[]⟩, .int .i64 30]) (by simp [results, Tryd.results73, go_sem]) rfl HE.out
      · have hlt : M < 0 := by omega
        have HE := Lib.hid (HF.out w (by unfold stRef; rw [c1, isMin_minor, ← hM, show decide (0 ≤ M) = false from by simpa using hm0]; rfl) ⟨0, rfl⟩)
        clear HF hM hm0 c1 hver
        go_enter Tryd.func73, Tryd.ntmps73
        go_wp2_with fail
        refine (HVer.out _).mono ?_
        rintro e w' ⟨rfl, rfl⟩
        go_wp2_with fail
        exact bodyPost_ret (v := .tuple #[.int .i64 0, .int .i64 0, .string ⟨#[]⟩, .int .i64 30]) (by simp [results, Tryd.results73, go_sem]) rfl HE.out
end Go.Proofs.YtoofdompafkddaaDoor.Ln
/-
  gatepostref04.Parse: what it returns. Condition: a text of at most 2^46 bytes.
-/
namespace Go.Proofs.YtoofdompafkddaaDoor.Fd
open Go.RowKit Tk
set_option linter.unusedVariables false

theorem get58 {s : ByteArray} {k : Nat} (h : k < s.size) (e : (((s[k]'h).toNat : Int) != 58) = false) : s.data.toList[k]'(by simpa using h) = 58 := by
  rcases Decidable.em (((s[k]'h).toNat : Int) = 58) with h1 | h1
  · apply UInt8.toNat.inj
    show (s[k]'h).toNat = 58
    omega
  · rw [bne_iff_ne.2 h1] at e; cases e
theorem not58 {s : ByteArray} {k : Nat} (h : k < s.size) (e : (((s[k]'h).toNat : Int) != 58) = true) : s.data.toList[k]'(by simpa using h) ≠ 58 := by
  intro h2
  have h3 : (s[k]'h) = 58 := h2
  rw [h3] at e; simp at e

def Upto (s : ByteArray) (k : Nat) : Prop := ∀ j (hj : j < s.data.toList.length), j < k → s.data.toList[j] ≠ 58

set_option maxHeartbeats 2000000 in
theorem refParse_any (s : ByteArray) (w : World) (hs : s.size ≤ 70368744177664) :
    Calls Tryd.prog 75 #[.string s] w fun e w' => e = .returned (parseVal s) ∧ Below w.heap.size w w' := by
  have hlen : s.data.toList.length = s.size := by simp
  have HLEN := Lib.hid hlen
  clear hlen
  go_enter Tryd.func75, Tryd.ntmps75
  go_wp2_with fail
  go_loop [4] (fun i => ∃ k : Nat, k ≤ s.size ∧ i = .int .i64 (k : Int) ∧ Upto s k) (fun i => s.size - (intOf i).toNat)
  case atStart => exact ⟨0, Nat.zero_le _, rfl, fun j _ h => by omega⟩
  case round =>
    obtain ⟨k, hk, rfl, hup⟩ := hrel
    have HUP := Lib.hid hup
    clear hup
    by_cases hlt : k < s.size
    · cases hne : (((s[k]'hlt).toNat : Int) != 58) with
      | true =>
        have HN := Lib.hid (not58 hlt hne)
        go_wp2_with fail
        go_round
        case rel => exact ⟨k + 1, by omega, by go_num, fun j h1 h2 => by
          by_cases e : j = k
          · subst e; exact HN.out
          · exact HUP.out j h1 (by omega)⟩
        case measure => simp [intOf]; omega
      | false =>
        have hci : colIdx s.data.toList = k := colIdx_is _ k (by rw [HLEN.out]; omega) (fun j hj => HUP.out j (by rw [HLEN.out]; omega) hj) (fun h => get58 hlt hne)
        have hks : ((k : Int) == (s.size : Int)) = false := beq_eq_false_iff_ne.2 (by omega)
        obtain ⟨n, hn⟩ : ∃ n, n = s.extract 0 k := ⟨_, rfl⟩
        obtain ⟨T, hT⟩ : ∃ T, T = s.extract (k + 1) s.size := ⟨_, rfl⟩
        obtain ⟨v, hv⟩ : ∃ v : ByteArray, v = ⟨(trim T.data.toList).toArray⟩ := ⟨_, rfl⟩
        have hns : n.size ≤ s.size := by rw [hn]; simp; omega
        have hTs : T.size ≤ s.size := by rw [hT]; simp
        have hvs : v.size ≤ s.size := by
          have h := trim_length T.data.toList
          have e : T.data.toList.length = T.size := by simp
          rw [hv]; show (trim _).toArray.size ≤ _
          rw [List.size_toArray]; omega
        have HPV := Lib.hid (show parseVal s = if isFld n.data.toList v.data.toList then .tuple #[FV n v, .int .i64 0] else .tuple #[FV ⟨#[]⟩ ⟨#[]⟩, .int .i64 31] from by
          unfold parseVal parseOk pName pVal; rw [hci, hv, hT, hn]; simp [hlt])
        have HNE := Lib.hid hn
        have HTE := Lib.hid hT
        have HVE := Lib.hid hv
        clear hn hT hv hci HUP
        cases h1 : isTok n.data.toList with
        | false =>
          have H1 := Lib.hid h1
          have HF := Lib.hid (show isFld n.data.toList v.data.toList = false from by unfold isFld; rw [h1]; rfl)
          clear h1
          rw [HF.out] at HPV
          have hr0 := new_block w (.cells #[.string ⟨#[]⟩, .string ⟨#[]⟩] 56)
          go_wp2_with fail
          rw [← HNE.out]
          refine (refIs_any n _ (by unfold maxLen; omega)).mono ?_
          rintro e w1 ⟨rfl, rfl⟩
          rw [H1.out]
          go_wp2_with fail
          refine bodyPost_ret (results_pair rfl _ _ w.heap.size 56 _ (0, 0) _ rfl (new_block w _) Tryd.underlying56 rfl infoFieldSize) rfl ?_
          exact ⟨by rw [HPV.out]; rfl, (Below.refl _ _).alloc (Nat.le_refl _) _⟩
        | true =>
          have H1 := Lib.hid h1
          cases h2 : isVal v.data.toList
          all_goals
            have H2 := Lib.hid h2
            first | have HF := Lib.hid (show isFld n.data.toList v.data.toList = true from by unfold isFld; rw [h1, h2]; rfl) | have HF := Lib.hid (show isFld n.data.toList v.data.toList = false from by unfold isFld; rw [h1, h2]; rfl)
            clear h2
            rw [HF.out] at HPV
            have hr0 := new_block w (.cells #[.string ⟨#[]⟩, .string ⟨#[]⟩] 56)
            try clear h1
            go_wp2_with fail
            rw [← HNE.out]
            refine (refIs_any n _ (by unfold maxLen; omega)).mono ?_
            rintro e w1 ⟨rfl, rfl⟩
            rw [H1.out]
            go_wp2_with fail
            rw [← HTE.out]
            refine (refTrim_any T _ (by unfold maxLen; omega)).mono ?_
            rintro e w1 ⟨rfl, rfl⟩
            rw [← HVE.out]
            go_wp2_with fail
            refine (refValue_any v _ (by unfold maxLen; omega)).mono ?_
            rintro e w1 ⟨rfl, rfl⟩
            rw [H2.out]
            go_wp2_with fail
            try rw [← HNE.out]
            refine bodyPost_ret (results_pair rfl _ _ w.heap.size 56 _ (0, 0) _ rfl (new_block w _) Tryd.underlying56 rfl infoFieldSize) rfl ?_
            exact ⟨by rw [HPV.out]; rfl, (Below.refl _ _).alloc (Nat.le_refl _) _⟩
    · have hci : colIdx s.data.toList = s.size := colIdx_is _ s.size (by rw [HLEN.out]; omega) (fun j hj => HUP.out j (by rw [HLEN.out]; omega) (by omega)) (fun h => by rw [HLEN.out] at h; omega)
      have hks : ((k : Int) == (s.size : Int)) = true := beq_iff_eq.2 (by omega)
      have HPV := Lib.hid (show parseVal s = .tuple #[FV ⟨#[]⟩ ⟨#[]⟩, .int .i64 31] from by unfold parseVal parseOk; simp [hci])
      have hr0 := new_block w (.cells #[.string ⟨#[]⟩, .string ⟨#[]⟩] 56)
      clear hci HUP
      go_wp2_with fail
      refine bodyPost_ret (results_pair rfl _ _ w.heap.size 56 _ (0, 0) _ rfl (new_block w _) Tryd.underlying56 rfl infoFieldSize) rfl ?_
      exact ⟨by rw [HPV.out]; rfl, (Below.refl _ _).alloc (Nat.le_refl _) _⟩
end Go.Proofs.YtoofdompafkddaaDoor.Fd
