/-
  Texts that the laws' proofs stand on, 10 of them in one file; each one's head says what it proves and under which condition.
-/
import Derived.Test.YtcolnidgembniaaGreatDoorMsAllP5
import Derived.Lib.Strings
import Derived.Lib.IndexBytes
import Derived.Test.YtcolnidgembniaaGreatDoorMsAllP7
import Derived.Deep.QuietTactic
import Derived.BigQuiet
import Derived.Test.YtcolnidgembniaaGreatDoorMsAllP8
import Derived.Test.YtcolnidgembniaaGreatDoorMsAllP11
import Derived.Deep.DeepCutAuto
import Derived.Deep.RegionHeld3
import Derived.Test.YtcolnidgembniaaGreatDoorMsAllP9
import Derived.RegionTactic
import Derived.ArgAppend
import Derived.Laws.AppendOwnNone
/-
  What the reference's loop over a request's line looks for: plain functions on bytes. No program, no condition.
-/
namespace Go.Proofs.YtcolnidgembniaaGreatDoor.Ln
open Go.Proofs.YtcolnidgembniaaGreatDoor.Tk

/-- Two bytes 32 that part a line into a token, a target and a version. -/
def Hit (l : Bs) (i k : Nat) : Prop := i < k ∧ k < l.length ∧ l[i]? = some 32 ∧ l[k]? = some 32 ∧ isTok (l.take i) = true ∧ isTgt ((l.drop (i + 1)).take (k - (i + 1))) = true ∧ isMin (minorOf (l.drop (k + 1))) = true

theorem part_at {l : Bs} {i : Nat} (h : l[i]? = some 32) : l = l.take i ++ 32 :: l.drop (i + 1) := by
  obtain ⟨hi, he⟩ := List.getElem?_eq_some_iff.1 h
  conv => lhs; rw [← List.take_append_drop i l]
  rw [List.drop_eq_getElem_cons hi, he]
theorem hit_parts {l : Bs} {i k : Nat} (h : Hit l i k) : reqOk l = true ∧ fst l = l.take i ∧ fst (rst l) = (l.drop (i + 1)).take (k - (i + 1)) ∧ rst (rst l) = l.drop (k + 1) := by
  obtain ⟨hik, hk, h1, h2, h3, h4, h5⟩ := h
  have e1 := part_at h1
  have f1 : fst l = l.take i := by
    conv => lhs; rw [e1]
    exact fst_mk (tok_no h3)
  have r1 : rst l = l.drop (i + 1) := by
    conv => lhs; rw [e1]
    exact rst_mk (tok_no h3)
  have h2' : (l.drop (i + 1))[k - (i + 1)]? = some 32 := by rw [List.getElem?_drop, show i + 1 + (k - (i + 1)) = k from by omega]; exact h2
  have e2 := part_at h2'
  rw [List.drop_drop, show i + 1 + (k - (i + 1) + 1) = k + 1 from by omega] at e2
  have f2 : fst (l.drop (i + 1)) = (l.drop (i + 1)).take (k - (i + 1)) := by
    conv => lhs; rw [e2]
    exact fst_mk (tgt_no h4)
  have r2 : rst (l.drop (i + 1)) = l.drop (k + 1) := by
    conv => lhs; rw [e2]
    exact rst_mk (tgt_no h4)
  rw [r1]
  refine ⟨?_, f1, f2, r2⟩
  unfold reqOk
  rw [r1, f1, f2, r2, h3, h4, h5]; rfl
theorem hit_of_ok {l : Bs} (h : reqOk l = true) : ∃ i k, Hit l i k := by
  unfold reqOk at h
  simp only [Bool.and_eq_true] at h
  obtain ⟨⟨h1, h2⟩, h3⟩ := h
  have a2 : idx (rst l) < (rst l).length := by
    refine Decidable.byContradiction fun hn => ?_
    rw [rst_full hn] at h3; exact absurd h3 (by decide)
  have a1 : idx l < l.length := by
    refine Decidable.byContradiction fun hn => ?_
    rw [rst_full hn] at a2; simp [idx] at a2
  have hl := rst_len l
  refine ⟨idx l, idx l + 1 + idx (rst l), by omega, by omega, ?_, ?_, h1, ?_, ?_⟩
  · rw [List.getElem?_eq_getElem a1, idx_at l a1]
  · have := List.getElem?_drop (xs := l) (i := idx l + 1) (j := idx (rst l))
    rw [← this, show l.drop (idx l + 1) = rst l from rfl, List.getElem?_eq_getElem a2, idx_at _ a2]
  · rw [show idx l + 1 + idx (rst l) - (idx l + 1) = idx (rst l) from by omega]; exact h2
  · rw [show idx l + 1 + idx (rst l) + 1 = idx l + 1 + (idx (rst l) + 1) from by omega, ← List.drop_drop]; exact h3
theorem ok_false {l : Bs} (h : ∀ i k, i < l.length → ¬ Hit l i k) : reqOk l = false := by
  cases hr : reqOk l with
  | false => rfl
  | true =>
    obtain ⟨i, k, hh⟩ := hit_of_ok hr
    exact absurd hh (h i k (Nat.lt_trans hh.1 hh.2.1))
/-- No two places from before (i, k) on part the line. -/
def NoHit (l : Bs) (i k : Nat) : Prop := (∀ i' k', i' < i → ¬ Hit l i' k') ∧ ∀ k', k' < k → ¬ Hit l i k'
theorem NoHit.start (l : Bs) : NoHit l 0 0 := ⟨fun _ _ h => by omega, fun _ h => by omega⟩
theorem NoHit.skip {l : Bs} {i : Nat} (h : NoHit l i 0) (hn : l[i]? ≠ some 32) : NoHit l (i + 1) 0 := by
  refine ⟨fun i' k' hi hh => ?_, fun _ h => by omega⟩
  by_cases e : i' = i
  · subst e; exact hn hh.2.2.1
  · exact h.1 i' k' (by omega) hh
theorem NoHit.enter {l : Bs} {i : Nat} (h : NoHit l i 0) : NoHit l i (i + 1) := ⟨h.1, fun _ hk hh => by have := hh.1; omega⟩
theorem NoHit.next {l : Bs} {i k : Nat} (h : NoHit l i k) (hn : ¬ Hit l i k) : NoHit l i (k + 1) := by
  refine ⟨h.1, fun k' hk hh => ?_⟩
  by_cases e : k' = k
  · subst e; exact hn hh
  · exact h.2 k' (by omega) hh
theorem NoHit.leave {l : Bs} {i : Nat} (h : NoHit l i l.length) : NoHit l (i + 1) 0 := by
  refine ⟨fun i' k' hi hh => ?_, fun _ h => by omega⟩
  by_cases e : i' = i
  · subst e; exact h.2 k' hh.2.1 hh
  · exact h.1 i' k' (by omega) hh
theorem NoHit.all {l : Bs} (h : NoHit l l.length 0) : reqOk l = false := ok_false fun i k hi => h.1 i k hi

theorem byte_at (s : ByteArray) (i : Nat) (h : i < s.size) : s.data.toList[i]? = some s[i] := by rw [List.getElem?_eq_getElem (by simpa using h)]; rfl
theorem byte_is {c : UInt8} (h : (c.toNat : Int) = 32) : c = 32 := by
  have : c.toNat = 32 := by omega
  exact UInt8.toNat_inj.1 this
theorem is_byte {c : UInt8} (h : c = 32) : (c.toNat : Int) = 32 := by rw [h]; rfl
theorem bytes_ext {a b : ByteArray} (h : a.data.toList = b.data.toList) : a = b := by
  apply ByteArray.ext; exact Array.toList_inj.1 h
theorem cut_text (s : ByteArray) (a b : Nat) : s.extract a b = ⟨((s.data.toList.drop a).take (b - a)).toArray⟩ := bytes_ext (by rw [Lib.extract_data])
theorem cut_head (s : ByteArray) (b : Nat) : s.extract 0 b = ⟨(s.data.toList.take b).toArray⟩ := by rw [cut_text]; rfl
theorem cut_tail (s : ByteArray) (a : Nat) : s.extract a s.size = ⟨(s.data.toList.drop a).toArray⟩ := bytes_ext (by rw [Lib.extract_to_end])

/-- A status line by its places. -/
def stRef (l : Bs) : Bool := decide (12 ≤ l.length) && isMin (minorOf (l.take 8)) && (l[8]? == some 32) && isCod (codeOf ((l.drop 9).take 3)) && (decide (l.length = 12) || ((l[12]? == some 32) && isRsn (l.drop 13)))
theorem code_len {l : Bs} (h : isCod (codeOf l) = true) : l.length = 3 := by
  match l, h with
  | [_, _, _], _ => rfl
  | [], h => exact absurd h (by decide)
  | [_], h => exact absurd (show isCod (-1) = true from h) (by decide)
  | [_, _], h => exact absurd (show isCod (-1) = true from h) (by decide)
  | _ :: _ :: _ :: _ :: _, h => exact absurd (show isCod (-1) = true from h) (by decide)
theorem dgt_ne {c : UInt8} (h : dgt c = true) : c ≠ 32 := by
  intro e; rw [e] at h; exact absurd h (by decide)
theorem code_no {l : Bs} (h : isCod (codeOf l) = true) : ∀ c ∈ l, c ≠ 32 := by
  match l, code_len h, h with
  | [a, b, c], _, h =>
    have hd : (dgt a && dgt b && dgt c) = true := by
      cases hd : (dgt a && dgt b && dgt c) with
      | true => rfl
      | false =>
        have e : codeOf [a, b, c] = -1 := by simp only [codeOf, hd]; rfl
        rw [e] at h; exact absurd h (by decide)
    simp only [Bool.and_eq_true] at hd
    intro x hx
    simp at hx
    rcases hx with rfl | rfl | rfl
    · exact dgt_ne hd.1.1
    · exact dgt_ne hd.1.2
    · exact dgt_ne hd.2
theorem ver_len {l : Bs} (h : isMin (minorOf l) = true) : l.length = 8 := by
  unfold minorOf at h
  split at h
  · rename_i e; rw [e]; rfl
  · split at h
    · rename_i e; rw [e]; rfl
    · exact absurd h (by decide)
theorem st_parts {l : Bs} (h : stRef l = true) : stOk l = true ∧ fst l = l.take 8 ∧ fst (rst l) = (l.drop 9).take 3 ∧ rst (rst l) = l.drop 13 := by
  unfold stRef at h
  simp only [Bool.and_eq_true, Bool.or_eq_true, decide_eq_true_eq, beq_iff_eq] at h
  obtain ⟨⟨⟨⟨h1, h2⟩, h3⟩, h4⟩, h5⟩ := h
  have e1 := part_at h3
  have f1 : fst l = l.take 8 := by
    conv => lhs; rw [e1]
    exact fst_mk (ver_no h2)
  have r1 : rst l = l.drop 9 := by
    conv => lhs; rw [e1]
    exact rst_mk (ver_no h2)
  have key : fst (l.drop 9) = (l.drop 9).take 3 ∧ rst (l.drop 9) = l.drop 13 ∧ isRsn (l.drop 13) = true := by
    rcases h5 with h5 | ⟨h5, h6⟩
    · have e3 : (l.drop 9).take 3 = l.drop 9 := List.take_of_length_le (by rw [List.length_drop]; omega)
      rw [e3] at h4
      have e4 : l.drop 13 = [] := List.drop_eq_nil_of_le (by omega)
      rw [e3, e4]
      exact ⟨fst_none (code_no h4), rst_none (code_no h4), rfl⟩
    · have h5' : (l.drop 9)[3]? = some 32 := by rw [List.getElem?_drop]; exact h5
      have e2 := part_at h5'
      rw [List.drop_drop] at e2
      refine ⟨?_, ?_, h6⟩
      · conv => lhs; rw [e2]
        exact fst_mk (code_no h4)
      · conv => lhs; rw [e2]
        exact rst_mk (code_no h4)
  rw [r1]
  refine ⟨?_, f1, key.1, key.2.1⟩
  unfold stOk
  rw [r1, f1, key.1, key.2.1, h2, h4, key.2.2]; rfl
theorem st_ref {l : Bs} (h : stOk l = true) : stRef l = true := by
  unfold stOk at h
  simp only [Bool.and_eq_true] at h
  obtain ⟨⟨h1, h2⟩, h3⟩ := h
  have l1 := ver_len h1
  have l2 := code_len h2
  rw [fst_len] at l1 l2
  have b2 := idx_le (rst l)
  have hl := rst_len l
  have a1 : idx l < l.length := by omega
  have t1 : l.take 8 = fst l := by unfold fst; rw [l1]
  have d1 : l.drop 9 = rst l := by unfold rst; rw [l1]
  have t2 : (rst l).take 3 = fst (rst l) := by unfold fst; rw [l2]
  have d2 : l.drop 13 = rst (rst l) := by
    have e : rst (rst l) = (rst l).drop 4 := by unfold rst; rw [show idx (List.drop (idx l + 1) l) = 3 from l2]
    rw [e, ← d1, List.drop_drop]
  have p8 : l[8]? = some 32 := by
    have := idx_at l a1
    rw [List.getElem?_eq_getElem (by omega)]
    rw [show l[8]'(by omega) = l[idx l] from by congr 1; omega, this]
  unfold stRef
  rw [t1, d1, t2, d2, h1, h2, h3, p8]
  have c1 : decide (12 ≤ l.length) = true := by rw [decide_eq_true_iff]; omega
  rw [c1]
  by_cases e : l.length = 12
  · simp [e]
  · have a2 : idx (rst l) < (rst l).length := by omega
    have p12 : l[12]? = some 32 := by
      have h4 := idx_at (rst l) a2
      have h5 : (rst l)[3]? = some 32 := by
        rw [List.getElem?_eq_getElem (by omega)]
        rw [show (rst l)[3]'(by omega) = (rst l)[idx (rst l)] from by congr 1; omega, h4]
      rw [← d1, List.getElem?_drop] at h5
      exact h5
    rw [p12]; simp
theorem st_no {l : Bs} (h : stRef l = false) : stOk l = false := by
  cases hs : stOk l with
  | false => rfl
  | true => rw [st_ref hs] at h; exact absurd h (by decide)
end Go.Proofs.YtcolnidgembniaaGreatDoor.Ln
/-
  The reference's Request: what it returns. Condition: none beyond the lengths that a string can have.
-/
namespace Go.Proofs.YtcolnidgembniaaGreatDoor.Ln
open Go.RowKit Go.Proofs.YtcolnidgembniaaGreatDoor.Tk

theorem cut_mid (s : ByteArray) (i k : Nat) (w : World) (h : i < k) (hk : k ≤ s.size) :
    (Instr.slice 9 (.string s) (some (.int .i64 ((i : Int) + 1))) (some (.int .i64 (k : Int))) none).run Tryz.prog w = .ok (.string (s.extract (i + 1) k)) w := by
  have e : ((i : Int) + 1).toNat = i + 1 := by omega
  have := run_slice_string (P := Tryz.prog) w 9 s .i64 .i64 ((i : Int) + 1) (k : Int) Tryz.underlying9 (by omega) (by omega) (by omega)
  rw [e, Int.toNat_natCast] at this
  exact this
def RefPost (v : Value) (w : World) (e : Ending) (w' : World) : Prop := e = .returned v ∧ ∃ n, w' = w.drewN n

set_option maxHeartbeats 4000000 in
theorem refRequest_any (s : ByteArray) (w : World) :
    Calls Tryz.prog 52 #[.string s] w (RefPost (reqVal s) w) := by
  by_cases hs : 1024 < s.size
  · have HV := Lib.hid (show reqVal s = .tuple #[.string ⟨#[]⟩, .string ⟨#[]⟩, .int .i64 0, .int .i64 3] from by unfold reqVal; rw [if_pos hs])
    go_enter Tryz.func52, Tryz.ntmps52
    go_wp2_with fail
    refine bodyPost_ret (v := .tuple #[.string ⟨#[]⟩, .string ⟨#[]⟩, .int .i64 0, .int .i64 3]) (by simp [results, Tryz.results52, go_sem]) rfl ⟨by rw [HV.out], 0, rfl⟩
  · have HF := Lib.hid (fun (h : reqOk s.data.toList = false) => show reqVal s = .tuple #[.string ⟨#[]⟩, .string ⟨#[]⟩, .int .i64 0, .int .i64 30] from by unfold reqVal; rw [if_neg hs, if_neg (by rw [h]; simp)])
    have HY := Lib.hid (fun (i k : Nat) (h : Hit s.data.toList i k) => show reqVal s = .tuple #[.string (s.extract 0 i), .string (s.extract (i + 1) k), .int .i64 (minorOf (s.data.toList.drop (k + 1))), .int .i64 0] from by
      obtain ⟨p1, p2, p3, p4⟩ := hit_parts h
      unfold reqVal; rw [if_neg hs, if_pos p1, p2, p3, p4, cut_head, cut_text])
    go_enter Tryz.func52, Tryz.ntmps52
    go_wp2_with fail
    go_loop [6, 7] (fun i _ => ∃ k : Nat, k ≤ s.size ∧ i = .int .i64 (k : Int) ∧ NoHit s.data.toList k 0) (fun i _ => s.size - (intOf i).toNat)
    case atStart => exact ⟨0, Nat.zero_le _, rfl, NoHit.start _⟩
    case round =>
      obtain ⟨i, hi, rfl, hno⟩ := hrel
      have HN := Lib.hid hno
      clear hno
      by_cases hlt : i < s.size
      · obtain ⟨c, hc⟩ : ∃ c, s[i] = c := ⟨_, rfl⟩
        have HC := Lib.hid hc
        by_cases h32 : (c.toNat : Int) = 32
        · have t0 : ((s[i].toNat : Int) != 32) = false := by rw [hc, h32]; rfl
          have H32 := Lib.hid (show s.data.toList[i]? = some 32 from by rw [byte_at s i hlt, hc, byte_is h32])
          have HE := Lib.hid HN.out.enter
          clear h32 hc
          go_wp2_with fail
          go_loop [7] (fun k => ∃ m : Nat, i < m ∧ m ≤ s.size ∧ k = .int .i64 (m : Int) ∧ NoHit s.data.toList i m) (fun k => s.size - (intOf k).toNat)
          case atStart => exact ⟨i + 1, by omega, by omega, by go_num, HE.out⟩
          case round =>
            obtain ⟨k, hik, hk, rfl, hno⟩ := hrel
            have HK := Lib.hid hno
            clear hno
            by_cases hkt : k < s.size
            · obtain ⟨d, hd⟩ : ∃ d, s[k] = d := ⟨_, rfl⟩
              by_cases hk32 : (d.toNat : Int) = 32
              · have t1 : ((s[k].toNat : Int) == 32) = true := by rw [hd, hk32]; rfl
                have HK32 := Lib.hid (show s.data.toList[k]? = some 32 from by rw [byte_at s k hkt, hd, byte_is hk32])
                have E1 := Lib.hid (show (s.extract 0 i).data.toList = s.data.toList.take i from by rw [Lib.extract_data]; rfl)
                have E2 := Lib.hid (show (s.extract (i + 1) k).data.toList = (s.data.toList.drop (i + 1)).take (k - (i + 1)) from Lib.extract_data _ _ _)
                have E3 := Lib.hid (show (s.extract (k + 1) s.size).data.toList = s.data.toList.drop (k + 1) from Lib.extract_to_end _ _)
                have S1 := Lib.hid (show (s.extract 0 i).size ≤ maxLen from by simp; unfold maxLen; omega)
                have S2 := Lib.hid (show (s.extract (i + 1) k).size ≤ maxLen from by simp; unfold maxLen; omega)
                clear hk32 hd
                have r2 := fun W => cut_mid s i k W hik (by omega)
                cases b1 : isTok (s.data.toList.take i) with
                | false =>
                  have B1 := Lib.hid b1
                  have HX := Lib.hid (HK.out.next (fun hh => by rw [hh.2.2.2.2.1] at b1; exact absurd b1 (by decide)))
                  clear b1
                  go_wp2_with (go_at_call 92; refine (refIs_any _ _ S1.out).mono ?_; rintro e w' ⟨rfl, rfl⟩; rw [E1.out, B1.out])
                  go_round
                  case rel => exact ⟨k + 1, by omega, by omega, by go_num, HX.out⟩
                  case measure => simp [intOf]; omega
                | true =>
                  have B1 := Lib.hid b1
                  clear b1
                  cases b2 : isTgt ((s.data.toList.drop (i + 1)).take (k - (i + 1))) with
                  | false =>
                    have B2 := Lib.hid b2
                    have HX := Lib.hid (HK.out.next (fun hh => by rw [hh.2.2.2.2.2.1] at b2; exact absurd b2 (by decide)))
                    clear b2
                    go_wp2_with fail
                    refine (refIs_any _ _ S1.out).mono ?_
                    rintro e w' ⟨rfl, rfl⟩
                    rw [E1.out, B1.out]
                    go_wp2_with fail
                    refine (refTarget_any _ _ S2.out).mono ?_
                    rintro e w' ⟨rfl, rfl⟩
                    rw [E2.out, B2.out]
                    go_wp2_with fail
                    go_round
                    case rel => exact ⟨k + 1, by omega, by omega, by go_num, HX.out⟩
                    case measure => simp [intOf]; omega
                  | true =>
                    have B2 := Lib.hid b2
                    clear b2
                    obtain ⟨M, hM⟩ : ∃ M : Int, M = minorOf (s.data.toList.drop (k + 1)) := ⟨_, rfl⟩
                    have HM := Lib.hid hM
                    have hbd := minor_bd (s.data.toList.drop (k + 1))
                    rw [← hM] at hbd
                    by_cases h0 : 0 ≤ M
                    · have HH : Hit s.data.toList i k := ⟨hik, by simpa using hkt, H32.out, HK32.out, B1.out, B2.out, by rw [isMin_minor, ← hM]; simpa using h0⟩
                      have HV := Lib.hid (HY.out i k HH)
                      have hver := fun W => (refVersion_any (s.extract (k + 1) s.size) W).mono (R' := fun e w' => e = .returned (.int .i64 M) ∧ w' = W) fun e w' ⟨he, hw⟩ => ⟨by rw [he, E3.out, hM], hw.symm⟩
                      clear hM HH
                      go_wp2_with fail
                      refine (refIs_any _ _ S1.out).mono ?_
                      rintro e w' ⟨rfl, rfl⟩
                      rw [E1.out, B1.out]
                      go_wp2_with fail
                      refine (refTarget_any _ _ S2.out).mono ?_
                      rintro e w' ⟨rfl, rfl⟩
                      rw [E2.out, B2.out]
                      go_wp2_with fail
                      refine (hver _).mono ?_
                      rintro e w' ⟨rfl, rfl⟩
                      go_wp2_with fail
                      go_quiet ((go_at_call 89; exact Calls.quiet_of_same (hver _)))
                      go_wp2_with fail
                      refine bodyPost_ret (v := .tuple #[.string (s.extract 0 i), .string (s.extract (i + 1) k), .int .i64 M, .int .i64 0]) (by simp [results, Tryz.results52, go_sem]) rfl ⟨by rw [HV.out, HM.out], _, rfl⟩
                    · have hM1 : M = -1 := by omega
                      have HX := Lib.hid (HK.out.next (fun hh => by have h7 := hh.2.2.2.2.2.2; rw [isMin_minor, ← hM] at h7; simp at h7; omega))
                      clear hM hM1
                      go_wp2_with fail
                      refine (refIs_any _ _ S1.out).mono ?_
                      rintro e w' ⟨rfl, rfl⟩
                      rw [E1.out, B1.out]
                      go_wp2_with fail
                      refine (refTarget_any _ _ S2.out).mono ?_
                      rintro e w' ⟨rfl, rfl⟩
                      rw [E2.out, B2.out]
                      go_wp2_with fail
                      refine (refVersion_any _ _).mono ?_
                      rintro e w' ⟨rfl, rfl⟩
                      rw [E3.out, ← HM.out]
                      go_wp2_with fail
                      go_round
                      case rel => exact ⟨k + 1, by omega, by omega, by go_num, HX.out⟩
                      case measure => simp [intOf]; omega
              · have t1 : ((s[k].toNat : Int) == 32) = false := by rw [hd, beq_eq_false_iff_ne]; exact hk32
                have HX := Lib.hid (HK.out.next (fun hh => by have h4 := hh.2.2.2.1; rw [byte_at s k hkt, hd] at h4; exact hk32 (is_byte (Option.some.inj h4))))
                clear hk32 hd
                go_wp2_with fail
                go_round
                case rel => exact ⟨k + 1, by omega, by omega, by go_num, HX.out⟩
                case measure => simp [intOf]; omega
            · obtain rfl : k = s.size := by omega
              have HL := Lib.hid (NoHit.leave (l := s.data.toList) (i := i) (by simpa using HK.out))
              go_wp2_with fail
              go_round
              case rel => exact ⟨i + 1, by omega, by go_num, HL.out⟩
              case measure => simp [intOf]; omega
        · have t0 : ((s[i].toNat : Int) != 32) = true := by rw [hc, bne_iff_ne]; exact h32
          have HS := Lib.hid (HN.out.skip (by rw [byte_at s i hlt, hc]; intro e; exact h32 (is_byte (Option.some.inj e))))
          clear h32 hc
          go_wp2_with fail
          go_round
          case rel => exact ⟨i + 1, by omega, by go_num, HS.out⟩
          case measure => simp [intOf]; omega
      · obtain rfl : i = s.size := by omega
        have HFF := Lib.hid (HF.out (NoHit.all (by simpa using HN.out)))
        go_wp2_with fail
        refine bodyPost_ret (v := .tuple #[.string ⟨#[]⟩, .string ⟨#[]⟩, .int .i64 0, .int .i64 30]) (by simp [results, Tryz.results52, go_sem]) rfl ⟨by rw [HFF.out], 0, rfl⟩
end Go.Proofs.YtcolnidgembniaaGreatDoor.Ln
/-
  The reference's Status: what it returns. Condition: none beyond the lengths that a string can have.
-/
namespace Go.Proofs.YtcolnidgembniaaGreatDoor.Ln
open Go.RowKit Go.Proofs.YtcolnidgembniaaGreatDoor.Tk

theorem err_post {s : ByteArray} {w w' : World} (hs : ¬ 1024 < s.size) (h : stRef s.data.toList = false) (hw : ∃ n, w' = w.drewN n) : RefPost (stVal s) w (.returned (.tuple #[.int .i64 0, .int .i64 0, .string ⟨#[]⟩, .int .i64 30])) w' :=
  ⟨by unfold stVal; rw [if_neg hs, if_neg (by rw [st_no h]; simp)], hw⟩

set_option maxHeartbeats 4000000 in
theorem refStatus_any (s : ByteArray) (w : World) :
    Calls Tryz.prog 51 #[.string s] w (RefPost (stVal s) w) := by
  by_cases hs : 1024 < s.size
  · have HV := Lib.hid (show stVal s = .tuple #[.int .i64 0, .int .i64 0, .string ⟨#[]⟩, .int .i64 3] from by unfold stVal; rw [if_pos hs])
    go_enter Tryz.func51, Tryz.ntmps51
    go_wp2_with fail
    refine bodyPost_ret (v := .tuple #[.int .i64 0, .int .i64 0, .string ⟨#[]⟩, .int .i64 3]) (by simp [results, Tryz.results51, go_sem]) rfl ⟨by rw [HV.out], 0, rfl⟩
  · have HF := Lib.hid (fun (w' : World) (h : stRef s.data.toList = false) (hw : ∃ n, w' = w.drewN n) => err_post hs h hw)
    by_cases h12 : s.size < 12
    · have HE := Lib.hid (HF.out w (by unfold stRef; rw [show decide (12 ≤ s.data.toList.length) = false from by simp; omega]; rfl) ⟨0, rfl⟩)
      clear HF
      go_enter Tryz.func51, Tryz.ntmps51
      go_wp2_with fail
      exact bodyPost_ret (v := .tuple #[.int .i64 0, .int .i64 0, .string ⟨#[]⟩, .int .i64 30]) (by simp [results, Tryz.results51, go_sem]) rfl HE.out
    · have c1 : decide (12 ≤ s.data.toList.length) = true := by simp; omega
      obtain ⟨M, hM⟩ : ∃ M : Int, M = minorOf (s.data.toList.take 8) := ⟨_, rfl⟩
      have hbd := minor_bd (s.data.toList.take 8)
      rw [← hM] at hbd
      obtain ⟨V, xV⟩ : ∃ V, s.extract 0 8 = V := ⟨_, rfl⟩
      obtain ⟨T, xT⟩ : ∃ T, s.extract 9 12 = T := ⟨_, rfl⟩
      obtain ⟨R, xR⟩ : ∃ R, s.extract 13 s.size = R := ⟨_, rfl⟩
      have E1 := Lib.hid (show V.data.toList = s.data.toList.take 8 from by rw [← xV, Lib.extract_data]; rfl)
      have HM := Lib.hid hM
      have hver := fun W => (refVersion_any V W).mono (R' := fun e w' => e = .returned (.int .i64 M) ∧ w' = W) fun e w' ⟨he, hw⟩ => ⟨by rw [he, E1.out, hM], hw.symm⟩
      have HVer := Lib.hid hver
      by_cases hm0 : 0 ≤ M
      · have c2 : isMin (minorOf (s.data.toList.take 8)) = true := by rw [isMin_minor, ← hM]; simpa using hm0
        clear hM hver
        obtain ⟨c, hc⟩ : ∃ c, s[8] = c := ⟨_, rfl⟩
        have hb := byte_at s 8 (by omega)
        rw [hc] at hb
        by_cases h32 : (c.toNat : Int) = 32
        · have t0 : ((s[8].toNat : Int) != 32) = false := by rw [hc, h32]; rfl
          have c3 : (s.data.toList[8]? == some 32) = true := by rw [hb, byte_is h32]; rfl
          have E2 := Lib.hid (show T.data.toList = (s.data.toList.drop 9).take 3 from by rw [← xT]; exact Lib.extract_data _ _ _)
          have L2 : ((s.data.toList.drop 9).take 3).length = 3 := by simp; omega
          have S2 := Lib.hid (show T.size ≤ maxLen from by rw [← xT]; simp; unfold maxLen; omega)
          have hco := code_of (most := 1000) L2 (by omega)
          rw [← E2.out] at hco
          have hx : (⟨T.data.toList.toArray⟩ : ByteArray) = T := bytes_ext (by simp)
          rw [hx] at hco
          obtain ⟨N, hN⟩ : ∃ N, N = Num.numOf T 1000 := ⟨_, rfl⟩
          have HN := Lib.hid hN
          rw [← hN, E2.out] at hco
          have hcb := code_bd ((s.data.toList.drop 9).take 3)
          have C1 := Lib.hid c1
          have C2 := Lib.hid c2
          have C3 := Lib.hid c3
          clear hN hx h32 hc hb c1 c2 c3 L2
          obtain ⟨N1, N2⟩ := N
          cases N2 with
          | false =>
            have HE := Lib.hid (HF.out w (by unfold stRef; rw [C1.out, C2.out, C3.out, hco]; rfl) ⟨0, rfl⟩)
            clear HF hco hcb
            go_enter Tryz.func51, Tryz.ntmps51
            go_wp2_with fail
            refine (HVer.out _).mono ?_
            rintro e w' ⟨rfl, rfl⟩
            go_wp2_with fail
            refine (Num.refNumber_any _ 1000 _ S2.out (by omega) (by omega)).mono ?_
            rintro e w' ⟨rfl, rfl⟩
            rw [← HN.out]
            go_wp2_with fail
            exact bodyPost_ret (v := .tuple #[.int .i64 0, .int .i64 0, .string ⟨#[]⟩, .int .i64 30]) (by simp [results, Tryz.results51, go_sem]) rfl HE.out
          | true =>
            rw [if_pos rfl] at hco
            have hco' : codeOf ((s.data.toList.drop 9).take 3) = N1 := hco
            rw [hco'] at hcb
            have HCo := Lib.hid hco'
            clear hco hco'
            by_cases hr : 100 ≤ N1 ∧ N1 ≤ 599
            · obtain ⟨hr1, hr2⟩ := hr
              have C4 := Lib.hid (show isCod (codeOf ((s.data.toList.drop 9).take 3)) = true from by rw [HCo.out]; simp [isCod]; omega)
              clear hcb
              by_cases he : s.size = 12
              · have hl : s.data.toList.length = 12 := by simpa using he
                have HP := Lib.hid (st_parts (l := s.data.toList) (by unfold stRef; rw [C1.out, C2.out, C3.out, C4.out, hl]; rfl))
                have HV := Lib.hid (show stVal s = .tuple #[.int .i64 M, .int .i64 N1, .string ⟨#[]⟩, .int .i64 0] from by
                  obtain ⟨p1, p2, p3, p4⟩ := HP.out
                  have e13 : s.data.toList.drop 13 = [] := List.drop_eq_nil_of_le (by omega)
                  unfold stVal; rw [if_neg hs, if_pos p1, p2, p3, p4, e13, HCo.out, ← HM.out])
                have t12 : ((s.size : Int) == 12) = true := by rw [he]; rfl
                clear HF hl he
                go_enter Tryz.func51, Tryz.ntmps51
                go_wp2_with fail
                refine (HVer.out _).mono ?_
                rintro e w' ⟨rfl, rfl⟩
                go_wp2_with fail
                refine (Num.refNumber_any _ 1000 _ S2.out (by omega) (by omega)).mono ?_
                rintro e w' ⟨rfl, rfl⟩
                rw [← HN.out]
                go_wp2_with fail
                refine (HVer.out _).mono ?_
                rintro e w' ⟨rfl, rfl⟩
                go_wp2_with fail
                exact bodyPost_ret (v := .tuple #[.int .i64 M, .int .i64 N1, .string ⟨#[]⟩, .int .i64 0]) (by simp [results, Tryz.results51, go_sem]) rfl ⟨by rw [HV.out], 0, rfl⟩
              · have hl : decide (s.data.toList.length = 12) = false := by simpa using he
                have t12 : ((s.size : Int) == 12) = false := by rw [beq_eq_false_iff_ne]; omega
                have h13 : 13 ≤ s.size := by omega
                obtain ⟨d, hd⟩ : ∃ d, s[12] = d := ⟨_, rfl⟩
                have hdb := byte_at s 12 (by omega)
                rw [hd] at hdb
                have E3 := Lib.hid (show R.data.toList = s.data.toList.drop 13 from by rw [← xR]; exact Lib.extract_to_end _ _)
                have S3 := Lib.hid (show R.size ≤ maxLen from by rw [← xR]; simp; unfold maxLen; omega)
                by_cases hd32 : (d.toNat : Int) = 32
                · have td : ((s[12].toNat : Int) != 32) = false := by rw [hd, hd32]; rfl
                  have c5 : (s.data.toList[12]? == some 32) = true := by rw [hdb, byte_is hd32]; rfl
                  have C5 := Lib.hid c5
                  clear hd32 hd hdb c5
                  cases hrs : isRsn (s.data.toList.drop 13) with
                  | false =>
                    have HE := Lib.hid (HF.out w (by unfold stRef; rw [C1.out, C2.out, C3.out, C4.out, C5.out, hl, hrs]; rfl) ⟨0, rfl⟩)
                    have HRs := Lib.hid hrs
                    clear HF hrs hl
                    go_enter Tryz.func51, Tryz.ntmps51
                    go_wp2_with fail
                    refine (HVer.out _).mono ?_
                    rintro e w' ⟨rfl, rfl⟩
                    go_wp2_with fail
                    refine (Num.refNumber_any _ 1000 _ S2.out (by omega) (by omega)).mono ?_
                    rintro e w' ⟨rfl, rfl⟩
                    rw [← HN.out]
                    go_wp2_with fail
                    refine (refReason_any _ _ S3.out).mono ?_
                    rintro e w' ⟨rfl, rfl⟩
                    rw [E3.out, HRs.out]
                    go_wp2_with fail
                    exact bodyPost_ret (v := .tuple #[.int .i64 0, .int .i64 0, .string ⟨#[]⟩, .int .i64 30]) (by simp [results, Tryz.results51, go_sem]) rfl HE.out
                  | true =>
                    have HP := Lib.hid (st_parts (l := s.data.toList) (by unfold stRef; rw [C1.out, C2.out, C3.out, C4.out, C5.out, hl, hrs]; rfl))
                    have HV := Lib.hid (show stVal s = .tuple #[.int .i64 M, .int .i64 N1, .string R, .int .i64 0] from by
                      obtain ⟨p1, p2, p3, p4⟩ := HP.out
                      unfold stVal; rw [if_neg hs, if_pos p1, p2, p3, p4, HCo.out, ← HM.out, ← xR, cut_tail])
                    have HRs := Lib.hid hrs
                    clear HF hrs hl
                    go_enter Tryz.func51, Tryz.ntmps51
                    go_wp2_with fail
                    refine (HVer.out _).mono ?_
                    rintro e w' ⟨rfl, rfl⟩
                    go_wp2_with fail
                    refine (Num.refNumber_any _ 1000 _ S2.out (by omega) (by omega)).mono ?_
                    rintro e w' ⟨rfl, rfl⟩
                    rw [← HN.out]
                    go_wp2_with fail
                    refine (refReason_any _ _ S3.out).mono ?_
                    rintro e w' ⟨rfl, rfl⟩
                    rw [E3.out, HRs.out]
                    go_wp2_with fail
                    go_quiet ((go_at_call 89; exact Calls.quiet_of_same (HVer.out _)))
                    go_wp2_with fail
                    exact bodyPost_ret (v := .tuple #[.int .i64 M, .int .i64 N1, .string R, .int .i64 0]) (by simp [results, Tryz.results51, go_sem]) rfl ⟨by rw [HV.out], _, rfl⟩
                · have td : ((s[12].toNat : Int) != 32) = true := by rw [hd, bne_iff_ne]; exact hd32
                  have c5 : (s.data.toList[12]? == some 32) = false := by
                    rw [hdb, beq_eq_false_iff_ne]; intro e; exact hd32 (is_byte (Option.some.inj e))
                  have HE := Lib.hid (HF.out w (by unfold stRef; rw [C1.out, C2.out, C3.out, C4.out, c5, hl]; rfl) ⟨0, rfl⟩)
                  clear HF hd32 hd hdb c5 hl
                  go_enter Tryz.func51, Tryz.ntmps51
                  go_wp2_with fail
                  refine (HVer.out _).mono ?_
                  rintro e w' ⟨rfl, rfl⟩
                  go_wp2_with fail
                  refine (Num.refNumber_any _ 1000 _ S2.out (by omega) (by omega)).mono ?_
                  rintro e w' ⟨rfl, rfl⟩
                  rw [← HN.out]
                  go_wp2_with fail
                  exact bodyPost_ret (v := .tuple #[.int .i64 0, .int .i64 0, .string ⟨#[]⟩, .int .i64 30]) (by simp [results, Tryz.results51, go_sem]) rfl HE.out
            · have HE := Lib.hid (HF.out w (by unfold stRef; rw [C1.out, C2.out, C3.out, HCo.out, show isCod N1 = false from by cases hb : isCod N1 with | false => rfl | true => simp [isCod] at hb; exact absurd hb hr]; rfl) ⟨0, rfl⟩)
              have hr' : N1 < 100 ∨ (100 ≤ N1 ∧ 599 < N1) := by omega
              clear HF hcb hr
              rcases hr' with hr' | ⟨hr', hr''⟩
              all_goals
                go_enter Tryz.func51, Tryz.ntmps51
                go_wp2_with fail
                refine (HVer.out _).mono ?_
                rintro e w' ⟨rfl, rfl⟩
                go_wp2_with fail
                refine (Num.refNumber_any _ 1000 _ S2.out (by omega) (by omega)).mono ?_
                rintro e w' ⟨rfl, rfl⟩
                rw [← HN.out]
                go_wp2_with fail
                exact bodyPost_ret (v := .tuple #[.int .i64 0, .int .i64 0, .string ⟨#[]⟩, .int .i64 30]) (by simp [results, Tryz.results51, go_sem]) rfl HE.out
        · have t0 : ((s[8].toNat : Int) != 32) = true := by rw [hc, bne_iff_ne]; exact h32
          have HE := Lib.hid (HF.out w (by unfold stRef; rw [c1, c2, show (s.data.toList[8]? == some 32) = false from by rw [hb, beq_eq_false_iff_ne]; intro e; exact h32 (is_byte (Option.some.inj e))]; rfl) ⟨0, rfl⟩)
          clear HF h32 hc hb c1 c2
          go_enter Tryz.func51, Tryz.ntmps51
          go_wp2_with fail
          refine (HVer.out _).mono ?_
          rintro e w' ⟨rfl, rfl⟩
          go_wp2_with fail
          exact bodyPost_ret (v := .tuple #[.int .i64 0, .int .i64 0, .string ⟨#[]⟩, .int .i64 30]) (by simp [results, Tryz.results51, go_sem]) rfl HE.out
      · have hlt : M < 0 := by omega
        have HE := Lib.hid (HF.out w (by unfold stRef; rw [c1, isMin_minor, ← hM, show decide (0 ≤ M) = false from by simpa using hm0]; rfl) ⟨0, rfl⟩)
        clear HF hM hm0 c1 hver
        go_enter Tryz.func51, Tryz.ntmps51
        go_wp2_with fail
        refine (HVer.out _).mono ?_
        rintro e w' ⟨rfl, rfl⟩
        go_wp2_with fail
        exact bodyPost_ret (v := .tuple #[.int .i64 0, .int .i64 0, .string ⟨#[]⟩, .int .i64 30]) (by simp [results, Tryz.results51, go_sem]) rfl HE.out
end Go.Proofs.YtcolnidgembniaaGreatDoor.Ln
/-
  The reference's reader in memory; a line that ended: what it leaves. Conditions: fields of at most 8192 bytes in all.
-/
namespace Go.Proofs.YtcolnidgembniaaGreatDoor.Hd
open Go.RowKit Go.Proofs.YtcolnidgembniaaGreatDoor.Tk Go.Proofs.YtcolnidgembniaaGreatDoor.Fd Go.Proofs.YtcolnidgembniaaGreatDoor.Ln
set_option linter.unusedVariables false

/-- The reference's cells. -/
def rr (resp : Bool) (n : Nat) (o : ByteArray) (f : Bool) (q : Parts) (fv : Value) (d : Bool) (e : Nat) : Array Value :=
  #[.bool resp, .int .i64 (n : Int), .string o, .bool f, .string (qA resp q), .string (qB resp q), .int .i64 (qM resp q), .slice none 0 0,
    .int .i64 (sM resp q), .int .i64 (sC resp q), .string (sA resp q), .slice none 0 0, fv, .bool d, .int .i64 (e : Int)]
def RBlk (w : World) (g : Nat) (cs : Array Value) : Prop := w.heap[g]? = some (.cells cs 54 (0, 0))
def RRdr (w : World) (O : Nat → Prop) (resp : Bool) (g : Nat) : St → Prop
  | .on p l n fs => ∃ fv, RBlk w g (rr resp n (txt l) p.isSome (p.getD .none) fv false 0) ∧ OwnF w 0 fv fs ∧ O g ∧ ∀ k, fv.ownBlock = some k → O k
  | .done q fs => ∃ n o f fv, RBlk w g (rr resp n o f q fv true 0) ∧ OwnF w 0 fv fs ∧ O g ∧ ∀ k, fv.ownBlock = some k → O k
  | .bad e => ∃ n o f q fv, RBlk w g (rr resp n o f q fv false e) ∧ O g
theorem RRdr.mono {w : World} {O O' : Nat → Prop} {resp : Bool} {g : Nat} {s : St} (h : RRdr w O resp g s) (hO : ∀ k, O k → O' k) : RRdr w O' resp g s := by
  cases s with
  | on p l n fs => obtain ⟨fv, hb, hf, hg, ho⟩ := h; exact ⟨fv, hb, hf, hO _ hg, fun k hk => hO _ (ho k hk)⟩
  | done q fs => obtain ⟨n, o, f, fv, hb, hf, hg, ho⟩ := h; exact ⟨n, o, f, fv, hb, hf, hO _ hg, fun k hk => hO _ (ho k hk)⟩
  | bad e => obtain ⟨n, o, f, q, fv, hb, hg⟩ := h; exact ⟨n, o, f, q, fv, hb, hO _ hg⟩
theorem RRdr.kept {w w' : World} {O O' : Nat → Prop} {resp : Bool} {g : Nat} {s : St} (h : RRdr w O resp g s) (hc : Chg O' w w') (hd : ∀ k, O k → ¬ O' k) : RRdr w' O resp g s := by
  cases s with
  | on p l n fs => obtain ⟨fv, hb, hf, hg, ho⟩ := h; exact ⟨fv, hc.old (hd _ hg) hb, row_chg hf hc ho hd, hg, ho⟩
  | done q fs => obtain ⟨n, o, f, fv, hb, hf, hg, ho⟩ := h; exact ⟨n, o, f, fv, hc.old (hd _ hg) hb, row_chg hf hc ho hd, hg, ho⟩
  | bad e => obtain ⟨n, o, f, q, fv, hb, hg⟩ := h; exact ⟨n, o, f, q, fv, hc.old (hd _ hg) hb, hg⟩
theorem RRdr.below {w w' : World} {O : Nat → Prop} {resp : Bool} {g : Nat} {s : St} (h : RRdr w O resp g s) (hb : Below w.heap.size w w') : RRdr w' O resp g s :=
  h.kept (O' := fun _ => False) (Chg.of_below hb) (fun _ _ hf => hf)
theorem RRdr.bound {w : World} {O : Nat → Prop} {resp : Bool} {g : Nat} {s : St} (h : RRdr w O resp g s) : RRdr w (fun k => O k ∧ k < w.heap.size) resp g s := by
  cases s with
  | on p l n fs => obtain ⟨fv, hb, hf, hg, ho⟩ := h; exact ⟨fv, hb, hf, ⟨hg, block_lt hb⟩, fun k hk => ⟨ho k hk, (World.ownsRow.lt hf k hk).2⟩⟩
  | done q fs => obtain ⟨n, o, f, fv, hb, hf, hg, ho⟩ := h; exact ⟨n, o, f, fv, hb, hf, ⟨hg, block_lt hb⟩, fun k hk => ⟨ho k hk, (World.ownsRow.lt hf k hk).2⟩⟩
  | bad e => obtain ⟨n, o, f, q, fv, hb, hg⟩ := h; exact ⟨n, o, f, q, fv, hb, hg, block_lt hb⟩
theorem rblk_at {w : World} {g : Nat} {cs : Array Value} (h : RBlk w g cs) (j : Nat) {x : Value} (e : cs[j]? = some x) : w.cell? ⟨g, j, none⟩ = some x := by rw [Lib.cell_of_heap h]; exact e
theorem rblk_free {w : World} {g : Nat} {cs : Array Value} (h : RBlk w g cs) (j : Nat) : w.frozen? ⟨g, j, none⟩ = false := free h j
theorem rblk_put {w : World} {g : Nat} {cs : Array Value} (h : RBlk w g cs) (i : Nat) (x : Value) : RBlk (w.setCell ⟨g, i, none⟩ x) g (cs.setIfInBounds i x) := heap_put h i x

/-- What a line that ended leaves. -/
def REnd (O : Nat → Prop) (resp : Bool) (g : Nat) (st : St) (w : World) (e : Ending) (w' : World) : Prop := e = .returned (.tuple #[]) ∧ RRdr w' (New O w) resp g st ∧ Chg O w w'

set_option maxRecDepth 100000 in
set_option maxHeartbeats 4000000 in
theorem rended_skip (O : Nat → Prop) (resp : Bool) (g : Nat) (n : Nat) (fs : List Fl) (w : World) (h : RRdr w O resp g (.on none [] n fs)) :
    Calls Tryz.prog 34 #[.pointer (some ⟨g, 0, none⟩), .string ⟨#[]⟩] w (REnd O resp g (.on none [] n fs) w) := by
  have HR := Lib.hid (h.mono (O' := New O w) (fun k hk => .inl hk))
  obtain ⟨fv, hb, _⟩ := h
  have c3 := rblk_at hb 3 (x := .bool false) rfl
  clear hb
  go_enter Tryz.func34, Tryz.ntmps34
  go_wp2_with fail
  go_end0
  exact ⟨rfl, HR.out, Chg.refl _ _⟩
set_option maxRecDepth 100000 in
set_option maxHeartbeats 4000000 in
theorem rended_last (O : Nat → Prop) (resp : Bool) (g : Nat) (q : Parts) (n : Nat) (fs : List Fl) (w : World) (h : RRdr w O resp g (.on (some q) [] n fs)) :
    Calls Tryz.prog 34 #[.pointer (some ⟨g, 0, none⟩), .string ⟨#[]⟩] w (REnd O resp g (.done q fs) w) := by
  obtain ⟨fv, hb, hf, hg, ho⟩ := h
  have c3 := rblk_at hb 3 (x := .bool true) rfl
  have c13 := rblk_at hb 13 (x := .bool false) rfl
  have f13 := rblk_free hb 13
  have HB := Lib.hid (rblk_put hb 13 (.bool true))
  have HF := Lib.hid (row_apart hb (by decide) hf ((Chg.refl (fun k => k = g) w).put ⟨g, 13, none⟩ (.bool true) (.inl rfl)))
  clear hb hf
  go_enter Tryz.func34, Tryz.ntmps34
  go_wp2_with fail
  go_end0
  exact ⟨rfl, ⟨n, _, _, fv, HB.out, HF.out, .inl hg, fun k hk => .inl (ho k hk)⟩, (Chg.refl _ _).put _ _ (.inl hg)⟩
set_option maxRecDepth 100000 in
set_option maxHeartbeats 4000000 in
theorem rended_full (O : Nat → Prop) (resp : Bool) (g : Nat) (q : Parts) (n : Nat) (fs : List Fl) (t : ByteArray) (w : World) (h : RRdr w O resp g (.on (some q) [] n fs)) (hl : fs.length = 64) (ht : 0 < t.size) :
    Calls Tryz.prog 34 #[.pointer (some ⟨g, 0, none⟩), .string t] w (REnd O resp g (.bad 3) w) := by
  have ht0 : t.toList.isEmpty = false := text_full ht
  obtain ⟨fv, hb, hf, hg, ho⟩ := h
  obtain ⟨a, c, hfv⟩ := OwnF.form hf
  subst hfv
  have hB : RBlk w g (rr resp n (txt []) true q (.slice a 64 c) false 0) := by rw [hl] at hb; exact hb
  have c3 := rblk_at hB 3 (x := .bool true) rfl
  have c12 := rblk_at hB 12 (x := .slice a 64 c) rfl
  have c14 := rblk_at hB 14 (x := .int .i64 0) rfl
  have f14 := rblk_free hB 14
  have HB := Lib.hid (rblk_put hB 14 (.int .i64 3))
  clear hb hf hB ho
  go_enter Tryz.func34, Tryz.ntmps34
  go_wp2_with fail
  go_end0
  exact ⟨rfl, ⟨n, _, _, q, _, HB.out, .inl hg⟩, (Chg.refl _ _).put _ _ (.inl hg)⟩
end Go.Proofs.YtcolnidgembniaaGreatDoor.Hd
/-
  The reference's ended: what it leaves at any line. Conditions: fields of at most 8192 bytes in all.
-/
namespace Go.Proofs.YtcolnidgembniaaGreatDoor.Hd
open Go.RowKit Go.Proofs.YtcolnidgembniaaGreatDoor.Tk Go.Proofs.YtcolnidgembniaaGreatDoor.Fd Go.Proofs.YtcolnidgembniaaGreatDoor.Ln
set_option linter.unusedVariables false

theorem rr_putQ {w : World} {g n : Nat} {o : ByteArray} {f : Bool} {q : Parts} {fv : Value} {d : Bool} {e : Nat} (h0 : RBlk w g (rr false n o f q fv d e)) (R : Parts) (m : Nat) :
    RBlk (((((w.setCell ⟨g, 4, none⟩ (.string R.a)).setCell ⟨g, 5, none⟩ (.string R.b)).setCell ⟨g, 6, none⟩ (.int .i64 R.m)).setCell ⟨g, 14, none⟩ (.int .i64 (m : Int))).setCell ⟨g, 3, none⟩ (.bool true)) g (rr false n o true R fv d m) := by
  have h0 : w.heap[g]? = some (.cells #[.bool false, .int .i64 (n : Int), .string o, .bool f, .string (qA false q), .string (qB false q), .int .i64 (qM false q), .slice none 0 0, .int .i64 (sM false q), .int .i64 (sC false q), .string (sA false q), .slice none 0 0, fv, .bool d, .int .i64 (e : Int)] 54 (0, 0)) := h0
  have h1 : (w.setCell ⟨g, 4, none⟩ (.string R.a)).heap[g]? = some (.cells #[.bool false, .int .i64 (n : Int), .string o, .bool f, .string R.a, .string (qB false q), .int .i64 (qM false q), .slice none 0 0, .int .i64 (sM false q), .int .i64 (sC false q), .string (sA false q), .slice none 0 0, fv, .bool d, .int .i64 (e : Int)] 54 (0, 0)) := heap_put h0 4 _
  have h2 : ((w.setCell ⟨g, 4, none⟩ (.string R.a)).setCell ⟨g, 5, none⟩ (.string R.b)).heap[g]? = some (.cells #[.bool false, .int .i64 (n : Int), .string o, .bool f, .string R.a, .string R.b, .int .i64 (qM false q), .slice none 0 0, .int .i64 (sM false q), .int .i64 (sC false q), .string (sA false q), .slice none 0 0, fv, .bool d, .int .i64 (e : Int)] 54 (0, 0)) := heap_put h1 5 _
  have h3 : (((w.setCell ⟨g, 4, none⟩ (.string R.a)).setCell ⟨g, 5, none⟩ (.string R.b)).setCell ⟨g, 6, none⟩ (.int .i64 R.m)).heap[g]? = some (.cells #[.bool false, .int .i64 (n : Int), .string o, .bool f, .string R.a, .string R.b, .int .i64 R.m, .slice none 0 0, .int .i64 (sM false q), .int .i64 (sC false q), .string (sA false q), .slice none 0 0, fv, .bool d, .int .i64 (e : Int)] 54 (0, 0)) := heap_put h2 6 _
  have h4 : ((((w.setCell ⟨g, 4, none⟩ (.string R.a)).setCell ⟨g, 5, none⟩ (.string R.b)).setCell ⟨g, 6, none⟩ (.int .i64 R.m)).setCell ⟨g, 14, none⟩ (.int .i64 (m : Int))).heap[g]? = some (.cells #[.bool false, .int .i64 (n : Int), .string o, .bool f, .string R.a, .string R.b, .int .i64 R.m, .slice none 0 0, .int .i64 (sM false q), .int .i64 (sC false q), .string (sA false q), .slice none 0 0, fv, .bool d, .int .i64 (m : Int)] 54 (0, 0)) := heap_put h3 14 _
  have h5 : (((((w.setCell ⟨g, 4, none⟩ (.string R.a)).setCell ⟨g, 5, none⟩ (.string R.b)).setCell ⟨g, 6, none⟩ (.int .i64 R.m)).setCell ⟨g, 14, none⟩ (.int .i64 (m : Int))).setCell ⟨g, 3, none⟩ (.bool true)).heap[g]? = some (.cells #[.bool false, .int .i64 (n : Int), .string o, .bool true, .string R.a, .string R.b, .int .i64 R.m, .slice none 0 0, .int .i64 (sM false q), .int .i64 (sC false q), .string (sA false q), .slice none 0 0, fv, .bool d, .int .i64 (m : Int)] 54 (0, 0)) := heap_put h4 3 _
  exact h5
theorem rr_putS {w : World} {g n : Nat} {o : ByteArray} {f : Bool} {q : Parts} {fv : Value} {d : Bool} {e : Nat} (h0 : RBlk w g (rr true n o f q fv d e)) (R : Parts) (m : Nat) :
    RBlk (((((w.setCell ⟨g, 8, none⟩ (.int .i64 R.m)).setCell ⟨g, 9, none⟩ (.int .i64 R.c)).setCell ⟨g, 10, none⟩ (.string R.a)).setCell ⟨g, 14, none⟩ (.int .i64 (m : Int))).setCell ⟨g, 3, none⟩ (.bool true)) g (rr true n o true R fv d m) := by
  have h0 : w.heap[g]? = some (.cells #[.bool true, .int .i64 (n : Int), .string o, .bool f, .string (qA true q), .string (qB true q), .int .i64 (qM true q), .slice none 0 0, .int .i64 (sM true q), .int .i64 (sC true q), .string (sA true q), .slice none 0 0, fv, .bool d, .int .i64 (e : Int)] 54 (0, 0)) := h0
  have h1 : (w.setCell ⟨g, 8, none⟩ (.int .i64 R.m)).heap[g]? = some (.cells #[.bool true, .int .i64 (n : Int), .string o, .bool f, .string (qA true q), .string (qB true q), .int .i64 (qM true q), .slice none 0 0, .int .i64 R.m, .int .i64 (sC true q), .string (sA true q), .slice none 0 0, fv, .bool d, .int .i64 (e : Int)] 54 (0, 0)) := heap_put h0 8 _
  have h2 : ((w.setCell ⟨g, 8, none⟩ (.int .i64 R.m)).setCell ⟨g, 9, none⟩ (.int .i64 R.c)).heap[g]? = some (.cells #[.bool true, .int .i64 (n : Int), .string o, .bool f, .string (qA true q), .string (qB true q), .int .i64 (qM true q), .slice none 0 0, .int .i64 R.m, .int .i64 R.c, .string (sA true q), .slice none 0 0, fv, .bool d, .int .i64 (e : Int)] 54 (0, 0)) := heap_put h1 9 _
  have h3 : (((w.setCell ⟨g, 8, none⟩ (.int .i64 R.m)).setCell ⟨g, 9, none⟩ (.int .i64 R.c)).setCell ⟨g, 10, none⟩ (.string R.a)).heap[g]? = some (.cells #[.bool true, .int .i64 (n : Int), .string o, .bool f, .string (qA true q), .string (qB true q), .int .i64 (qM true q), .slice none 0 0, .int .i64 R.m, .int .i64 R.c, .string R.a, .slice none 0 0, fv, .bool d, .int .i64 (e : Int)] 54 (0, 0)) := heap_put h2 10 _
  have h4 : ((((w.setCell ⟨g, 8, none⟩ (.int .i64 R.m)).setCell ⟨g, 9, none⟩ (.int .i64 R.c)).setCell ⟨g, 10, none⟩ (.string R.a)).setCell ⟨g, 14, none⟩ (.int .i64 (m : Int))).heap[g]? = some (.cells #[.bool true, .int .i64 (n : Int), .string o, .bool f, .string (qA true q), .string (qB true q), .int .i64 (qM true q), .slice none 0 0, .int .i64 R.m, .int .i64 R.c, .string R.a, .slice none 0 0, fv, .bool d, .int .i64 (m : Int)] 54 (0, 0)) := heap_put h3 14 _
  have h5 : (((((w.setCell ⟨g, 8, none⟩ (.int .i64 R.m)).setCell ⟨g, 9, none⟩ (.int .i64 R.c)).setCell ⟨g, 10, none⟩ (.string R.a)).setCell ⟨g, 14, none⟩ (.int .i64 (m : Int))).setCell ⟨g, 3, none⟩ (.bool true)).heap[g]? = some (.cells #[.bool true, .int .i64 (n : Int), .string o, .bool true, .string (qA true q), .string (qB true q), .int .i64 (qM true q), .slice none 0 0, .int .i64 R.m, .int .i64 R.c, .string R.a, .slice none 0 0, fv, .bool d, .int .i64 (m : Int)] 54 (0, 0)) := heap_put h4 3 _
  exact h5
/-- Where a reader stands behind a first line; behind a field. -/
def firstSt (R : Parts × Nat) (n : Nat) (fs : List Fl) : St := if R.2 = 0 then .on (some R.1) [] n fs else .bad R.2
def fieldSt (q : Parts) (R : Fl × Nat) (n : Nat) (fs : List Fl) : St := if R.2 = 0 then .on (some q) [] n (fs ++ [R.1]) else .bad R.2
theorem rfirst {O : Nat → Prop} {resp : Bool} {g : Nat} {n : Nat} {fs : List Fl} {fv : Value} {t : ByteArray} {w w' : World} (hc : Chg (fun k => k = g) w w') (hb : RBlk w' g (rr resp n (txt []) true (firstOf resp t).1 fv false (firstOf resp t).2)) (hw : ∃ cs, RBlk w g cs) (hf : OwnF w 0 fv fs) (hg : O g) (ho : ∀ k, fv.ownBlock = some k → O k) :
    RRdr w' (New O w) resp g (firstSt (firstOf resp t) n fs) := by
  obtain ⟨cs, hw⟩ := hw
  unfold firstSt
  by_cases h0 : (firstOf resp t).2 = 0
  · rw [if_pos h0]
    rw [h0] at hb
    exact ⟨fv, hb, row_apart hw (by decide) hf hc, .inl hg, fun k hk => .inl (ho k hk)⟩
  · rw [if_neg h0]
    exact ⟨n, _, _, _, fv, hb, .inl hg⟩
set_option maxRecDepth 100000 in
set_option maxHeartbeats 4000000 in
theorem rended_req (O : Nat → Prop) (g : Nat) (n : Nat) (fs : List Fl) (t : ByteArray) (w : World) (h : RRdr w O false g (.on none [] n fs)) (ht : 0 < t.size) :
    Calls Tryz.prog 34 #[.pointer (some ⟨g, 0, none⟩), .string t] w (REnd O false g (firstSt (firstOf false t) n fs) w) := by
  have ht0 : t.toList.isEmpty = false := text_full ht
  obtain ⟨fv, hb, hf, hg, ho⟩ := h
  have HV := Lib.hid (reqVal_of t)
  have HFin := Lib.hid (fun (w' : World) (hc : Chg (fun k => k = g) w w') (hb' : RBlk w' g (rr false n (txt []) true (firstOf false t).1 fv false (firstOf false t).2)) => rfirst (O := O) hc hb' ⟨_, hb⟩ hf hg ho)
  have HE := Lib.hid (show firstOf false t = reqOf t from rfl)
  rw [HE.out] at HFin
  rw [HE.out]
  obtain ⟨R, hR⟩ : ∃ R, R = reqOf t := ⟨_, rfl⟩
  rw [← hR] at HV HFin
  rw [← hR]
  have HB := Lib.hid hb
  have c0 := rblk_at hb 0 (x := .bool false) rfl
  have c3 := rblk_at hb 3 (x := .bool false) rfl
  clear hb hf hR
  go_enter Tryz.func34, Tryz.ntmps34
  go_wp2_with fail
  refine (refRequest_any t _).mono ?_
  rintro e w1 ⟨rfl, m, hw1⟩
  rw [HV.out]
  have hb1 : RBlk w1 g (rr false n (txt []) false .none fv false 0) := by rw [hw1]; exact HB.out
  have HC1 := Lib.hid (show Chg (fun k => k = g) w w1 from by rw [hw1]; exact (Chg.refl _ w).drewN m)
  have d3 := rblk_at hb1 3 (x := .bool false) rfl
  have d4 := rblk_at hb1 4 (x := .string ⟨#[]⟩) rfl
  have d5 := rblk_at hb1 5 (x := .string ⟨#[]⟩) rfl
  have d6 := rblk_at hb1 6 (x := .int .i64 0) rfl
  have d14 := rblk_at hb1 14 (x := .int .i64 0) rfl
  have f3 := rblk_free hb1 3
  have f4 := rblk_free hb1 4
  have f5 := rblk_free hb1 5
  have f6 := rblk_free hb1 6
  have f14 := rblk_free hb1 14
  have HB1 := Lib.hid (rr_putQ hb1 R.1 R.2)
  have HC2 := Lib.hid (((((HC1.out.put ⟨g, 4, none⟩ (.string R.1.a) (.inl rfl)).put ⟨g, 5, none⟩ (.string R.1.b) (.inl rfl)).put ⟨g, 6, none⟩ (.int .i64 R.1.m) (.inl rfl)).put ⟨g, 14, none⟩ (.int .i64 (R.2 : Int)) (.inl rfl)).put ⟨g, 3, none⟩ (.bool true) (.inl rfl))
  clear hw1 hb1
  go_wp2_with fail
  go_end0
  exact ⟨rfl, HFin.out _ HC2.out HB1.out, chg_one HC2.out hg⟩
set_option maxRecDepth 100000 in
set_option maxHeartbeats 4000000 in
theorem rended_res (O : Nat → Prop) (g : Nat) (n : Nat) (fs : List Fl) (t : ByteArray) (w : World) (h : RRdr w O true g (.on none [] n fs)) (ht : 0 < t.size) :
    Calls Tryz.prog 34 #[.pointer (some ⟨g, 0, none⟩), .string t] w (REnd O true g (firstSt (firstOf true t) n fs) w) := by
  have ht0 : t.toList.isEmpty = false := text_full ht
  obtain ⟨fv, hb, hf, hg, ho⟩ := h
  have HV := Lib.hid (stVal_of t)
  have HFin := Lib.hid (fun (w' : World) (hc : Chg (fun k => k = g) w w') (hb' : RBlk w' g (rr true n (txt []) true (firstOf true t).1 fv false (firstOf true t).2)) => rfirst (O := O) hc hb' ⟨_, hb⟩ hf hg ho)
  have HE := Lib.hid (show firstOf true t = stOf t from rfl)
  rw [HE.out] at HFin
  rw [HE.out]
  obtain ⟨R, hR⟩ : ∃ R, R = stOf t := ⟨_, rfl⟩
  rw [← hR] at HV HFin
  rw [← hR]
  have HB := Lib.hid hb
  have c0 := rblk_at hb 0 (x := .bool true) rfl
  have c3 := rblk_at hb 3 (x := .bool false) rfl
  clear hb hf hR
  go_enter Tryz.func34, Tryz.ntmps34
  go_wp2_with fail
  refine (refStatus_any t _).mono ?_
  rintro e w1 ⟨rfl, m, hw1⟩
  rw [HV.out]
  have hb1 : RBlk w1 g (rr true n (txt []) false .none fv false 0) := by rw [hw1]; exact HB.out
  have HC1 := Lib.hid (show Chg (fun k => k = g) w w1 from by rw [hw1]; exact (Chg.refl _ w).drewN m)
  have d3 := rblk_at hb1 3 (x := .bool false) rfl
  have d4 := rblk_at hb1 8 (x := .int .i64 0) rfl
  have d5 := rblk_at hb1 9 (x := .int .i64 0) rfl
  have d6 := rblk_at hb1 10 (x := .string ⟨#[]⟩) rfl
  have d14 := rblk_at hb1 14 (x := .int .i64 0) rfl
  have f3 := rblk_free hb1 3
  have f4 := rblk_free hb1 8
  have f5 := rblk_free hb1 9
  have f6 := rblk_free hb1 10
  have f14 := rblk_free hb1 14
  have HB1 := Lib.hid (rr_putS hb1 R.1 R.2)
  have HC2 := Lib.hid (((((HC1.out.put ⟨g, 8, none⟩ (.int .i64 R.1.m) (.inl rfl)).put ⟨g, 9, none⟩ (.int .i64 R.1.c) (.inl rfl)).put ⟨g, 10, none⟩ (.string R.1.a) (.inl rfl)).put ⟨g, 14, none⟩ (.int .i64 (R.2 : Int)) (.inl rfl)).put ⟨g, 3, none⟩ (.bool true) (.inl rfl))
  clear hw1 hb1
  go_wp2_with fail
  go_end0
  exact ⟨rfl, HFin.out _ HC2.out HB1.out, chg_one HC2.out hg⟩

set_option maxRecDepth 100000 in
set_option maxHeartbeats 4000000 in
theorem rended_field (O : Nat → Prop) (resp : Bool) (g : Nat) (q : Parts) (n : Nat) (fs : List Fl) (t : ByteArray) (w : World) (h : RRdr w O resp g (.on (some q) [] n fs)) (hl : fs.length < 64) (ht : 0 < t.size) (hts : t.size ≤ 70368744177664) :
    Calls Tryz.prog 34 #[.pointer (some ⟨g, 0, none⟩), .string t] w (REnd O resp g (fieldSt q (fldOf t) n fs) w) := by
  have ht0 : t.toList.isEmpty = false := text_full ht
  obtain ⟨i0, hi, hz0, hz1, hz2⟩ := info_parts infoField
  obtain ⟨fv, hb, hf, hg, ho⟩ := h
  have HV := Lib.hid (parseVal_of t)
  obtain ⟨⟨⟨a, b⟩, e0⟩, hR⟩ : ∃ R, R = fldOf t := ⟨_, rfl⟩
  rw [← hR] at HV
  rw [← hR]
  have HF := Lib.hid hf
  obtain ⟨fa, fc, hfv⟩ := hf.form
  subst hfv
  have HB := Lib.hid hb
  have c3 := rblk_at hb 3 (x := .bool true) rfl
  have c12 := rblk_at hb 12 (x := .slice fa fs.length fc) rfl
  have h64 : ¬ ((fs.length : Int) = 64) := by omega
  clear hR hb hf
  go_enter Tryz.func34, Tryz.ntmps34
  go_wp2_with fail
  refine (refParse_any t _ hts).mono ?_
  rintro e w1 ⟨rfl, hb1⟩
  rw [HV.out]
  unfold FV
  have hK1 : RBlk w1 g _ := Bl.old hb1 (block_lt HB.out) HB.out
  have hG1 := block_lt hK1
  have HF1 := Lib.hid (owns_kept HF.out hb1)
  have HC1 := Lib.hid (Chg.of_below (O := O) hb1)
  have d14 := rblk_at hK1 14 (x := .int .i64 0) rfl
  have f14 := rblk_free hK1 14
  have hCg := (Chg.refl (fun k => k = g) w1).put ⟨g, 14, none⟩ (.int .i64 (e0 : Int)) (.inl rfl)
  have HO1 := Lib.hid (row_apart hK1 (by decide) HF1.out hCg)
  have hKp : RBlk (w1.setCell ⟨g, 14, none⟩ (.int .i64 (e0 : Int))) g (rr resp n (txt []) true q (.slice fa fs.length fc) false e0) := rblk_put hK1 14 _
  have hsp : (w1.setCell ⟨g, 14, none⟩ (.int .i64 (e0 : Int))).heap.size = w1.heap.size := by simp [World.setCell]
  have hK2 : RBlk ((w1.setCell ⟨g, 14, none⟩ (.int .i64 (e0 : Int))).alloc (.cells #[.string a, .string b] 80)) g (rr resp n (txt []) true q (.slice fa fs.length fc) false e0) := (old_block _ (.cells #[.string a, .string b] 80) (by rw [hsp]; exact hG1)).trans hKp
  have hN2 := new_block' (w1.setCell ⟨g, 14, none⟩ (.int .i64 (e0 : Int))) (.cells #[.string a, .string b] 80) hsp.symm
  have hO2 := owns_kept HO1.out ((Below.refl _ (w1.setCell ⟨g, 14, none⟩ (.int .i64 (e0 : Int)))).alloc (Nat.le_refl _) (.cells #[.string a, .string b] 80))
  have hC2 := (HC1.out.put ⟨g, 14, none⟩ (.int .i64 (e0 : Int)) (.inl hg)).alloc (.cells #[.string a, .string b] 80)
  have HLT := Lib.hid (fun j hj => (World.ownsRow.lt HF1.out j hj).2)
  obtain ⟨G, hG⟩ : ∃ G, G = w1.heap.size := ⟨_, rfl⟩
  rw [← hG] at hN2
  have HGG := Lib.hid hG
  obtain ⟨w2, hw2⟩ : ∃ w2, w2 = (w1.setCell ⟨g, 14, none⟩ (.int .i64 (e0 : Int))).alloc (.cells #[.string a, .string b] 80) := ⟨_, rfl⟩
  rw [← hw2] at hK2 hN2 hO2 hC2
  have HW2 := Lib.hid hw2
  have HK2 := Lib.hid hK2
  have HN2 := Lib.hid hN2
  have HO2 := Lib.hid hO2
  have HC2 := Lib.hid hC2
  clear hw2 hG hK2 hN2 hO2 hC2 hKp hCg hsp c12 hb1 hK1
  go_upto_region 12 with fail
  rw [← HGG.out, ← HW2.out]
  have hgw : g < w2.heap.size := block_lt HK2.out
  have hGw : G < w2.heap.size := block_lt HN2.out
  have hrg : some g ≠ (Value.slice fa fs.length fc).ownBlock := fun e => by obtain ⟨cu, hcu⟩ := row_type HO2.out e.symm; exact apart_of hcu HK2.out (by decide) rfl
  have hrG : some G ≠ (Value.slice fa fs.length fc).ownBlock := fun e => by
    have h1 := HLT.out G e.symm
    have h2 := HGG.out
    omega
  have HO3 := Lib.hid (fun o => owns_kept HO2.out ((Below.refl w2.heap.size w2).drew.alloc (Nat.le_refl _) o))
  have hK3' : RBlk (w2.drew.alloc (.cells #[.string a, .string b] 80)) g _ := (old_block w2.drew (.cells #[.string a, .string b] 80) (block_lt HK2.out)).trans HK2.out
  have HK3 := Lib.hid hK3'
  have c12 := rblk_at HK2.out 12 (x := .slice fa fs.length fc) rfl
  have c12' : (w2.alloc (.cells #[.string a, .string b] 80)).cell? ⟨g, 12, none⟩ = some (.slice fa fs.length fc) := rblk_at (w := (w2.drew.alloc (.cells #[.string a, .string b] 80))) HK3.out 12 rfl
  have cG0 := two0 HN2.out
  have cG1 := two1 HN2.out
  clear d14 f14 hK3' hG1
  go_region_law ((refine step_append_lies _ (by rfl) _ _ 23 (by rfl) 0 80 i0 (.agg #[.string ⟨#[]⟩, .string ⟨#[]⟩]) 2 32 Tryz.underlying23 hi hz0 hz1 hz2 rfl (by decide) _ _ _ (by rfl) (HO3.out _) ⟨w2.heap.size, 0, none⟩ 1 1 [.string a, .string b] (by rfl) rfl (news_at (new_block w2.drew _)) (one_cells a b) (by omega) (by unfold maxLen; omega) (by omega) (Nat.zero_le _) _ rfl ?_; intro g3 cap3 w3 hown3 hgrow hat3 hlt3; have hK4 := (hgrow.block g (by simp; omega) hrg).trans HK3.out; have d15 := rblk_at hK4 12 (x := .slice fa fs.length fc) rfl; have df := rblk_free hK4 12))
  all_goals
    go_wp2_with fail
    go_end0
    have hsz := HC2.out.size
    have hrow3 : OwnF w3 0 (.slice (some ⟨g3, 0, none⟩) (fs.length + 1) cap3) (fs ++ [(a, b)]) := by
      unfold OwnF; rw [flat_snoc, List.length_append]; exact hown3
    obtain ⟨cu, hcu⟩ := row_type hrow3 rfl
    have hgg : g3 ≠ g := apart_of hcu hK4 (by decide)
    have hn3 : New O w g3 := by
      rcases hat3 with h3 | h3
      · exact .inl (ho _ h3)
      · refine .inr ?_
        have : g3 = w2.heap.size + 1 := by simpa using h3
        omega
    refine ⟨rfl, ?_, ((((HC2.out.drew).alloc _).grown hgrow (fun k hk => .inl (ho k hk))).put _ _ (.inl hg))⟩
    have hK5 : RBlk (w3.setCell ⟨g, 12, none⟩ (.slice (some ⟨g3, 0, none⟩) (fs.length + 1) cap3)) g (rr resp n (txt []) true q (.slice (some ⟨g3, 0, none⟩) (fs.length + 1) cap3) false e0) := rblk_put hK4 12 _
    unfold fieldSt
    by_cases h0 : e0 = 0
    · subst h0
      rw [if_pos rfl]
      exact ⟨_, hK5, row_same hrow3 (fun k hk => by injection hk with hk; subst hk; exact put_far rfl (by show g3 ≠ g; exact hgg)), .inl hg, fun k hk => by injection hk with hk; subst hk; exact hn3⟩
    · rw [if_neg (show ¬ ((a, b), e0).2 = 0 from h0)]
      exact ⟨n, _, _, q, _, hK5, .inl hg⟩
end Go.Proofs.YtcolnidgembniaaGreatDoor.Hd
/-
  The reference's Feed: what it returns and leaves. Condition: none beyond the lengths that a slice can have.
-/
namespace Go.Proofs.YtcolnidgembniaaGreatDoor.Hd
open Go.RowKit Go.Proofs.YtcolnidgembniaaGreatDoor.Tk Go.Proofs.YtcolnidgembniaaGreatDoor.Fd
set_option linter.unusedVariables false

theorem rended_any (O : Nat → Prop) (resp : Bool) (g : Nat) (p : Option Parts) (n : Nat) (fs : List Fl) (t : Bs) (w : World) (h : RRdr w O resp g (.on p [] n fs)) (hl : fs.length ≤ 64) (ht8 : t.length ≤ 8192) :
    Calls Tryz.prog 34 #[.pointer (some ⟨g, 0, none⟩), .string (txt t)] w (REnd O resp g (ended resp p n fs t) w) := by
  by_cases ht : t = []
  · subst ht
    cases p with
    | none => exact rended_skip O resp g n fs w h
    | some q => exact rended_last O resp g q n fs w h
  · cases p with
    | none =>
      have he : ended resp none n fs t = firstSt (firstOf resp (txt t)) n fs := by
        show (if t = [] then _ else _) = _; rw [if_neg ht]; rfl
      rw [he]
      cases resp with
      | false => exact rended_req O g n fs (txt t) w h (txt_pos ht)
      | true => exact rended_res O g n fs (txt t) w h (txt_pos ht)
    | some q =>
      have he : ended resp (some q) n fs t = if fs.length = 64 then .bad 3 else fieldSt q (fldOf (txt t)) n fs := by
        show (if t = [] then _ else _) = _; rw [if_neg ht]; rfl
      rw [he]
      by_cases h64 : fs.length = 64
      · rw [if_pos h64]; exact rended_full O resp g q n fs (txt t) w h h64 (txt_pos ht)
      · rw [if_neg h64]; exact rended_field O resp g q n fs (txt t) w h (by omega) (txt_pos ht) (by rw [txt_size]; omega)

def RFeedPost (O : Nat → Prop) (resp : Bool) (g : Nat) (s : St) (b : Bs) (w : World) (e : Ending) (w' : World) : Prop :=
  e = .returned (.tuple #[.int .i64 ((run resp s b).1 : Nat), .bool (doneOf (run resp s b).2), .int .i64 (errOf (run resp s b).2 : Nat)]) ∧ RRdr w' (New O w) resp g (run resp s b).2 ∧ Chg O w w'
def RAt (O : Nat → Prop) (resp : Bool) (g : Nat) (s : St) (b : Bs) (w : World) (k : Nat) (st : St) (wr : World) : Prop :=
  k ≤ b.length ∧ run resp s b = (k + (run resp st (b.drop k)).1, (run resp st (b.drop k)).2) ∧ Good st ∧ RRdr wr (New O w) resp g st ∧ Chg O w wr
theorem RAt.ends {O : Nat → Prop} {resp : Bool} {g : Nat} {s : St} {b : Bs} {w : World} {k : Nat} {st : St} {wr : World} (h : RAt O resp g s b w k st wr) (ho : over st = true ∨ k = b.length) : run resp s b = (k, st) := by
  obtain ⟨_, hr, _⟩ := h
  rcases ho with ho | ho
  · rw [hr, run_over ho]; rfl
  · rw [hr, ho, List.drop_length, run_nil]; rfl
theorem RAt.post {O : Nat → Prop} {resp : Bool} {g : Nat} {s : St} {b : Bs} {w : World} {k : Nat} {st : St} {wr : World} (h : RAt O resp g s b w k st wr) (ho : over st = true ∨ k = b.length) {n : Nat} :
    RFeedPost O resp g s b w (.returned (.tuple #[.int .i64 (k : Int), .bool (doneOf st), .int .i64 (errOf st : Nat)])) (wr.drewN n) := by
  unfold RFeedPost
  rw [h.ends ho]
  obtain ⟨_, _, _, hR, hC⟩ := h
  exact ⟨rfl, hR.below ⟨rfl, rfl, rfl, Nat.le_refl _, fun _ _ => rfl⟩, hC.drewN n⟩
/-- One byte more. -/
theorem RAt.next {O : Nat → Prop} {resp : Bool} {g : Nat} {s : St} {b : Bs} {w : World} {k : Nat} {p : Option Parts} {l : Bs} {n : Nat} {fs : List Fl} {wr w' : World} (h : RAt O resp g s b w k (.on p l n fs) wr) (hk : k < b.length)
    (hR : RRdr w' (New O w) resp g (step resp (.on p l n fs) b[k])) (hC : Chg O w w') : RAt O resp g s b w (k + 1) (step resp (.on p l n fs) b[k]) w' := by
  obtain ⟨_, hr, hG, _⟩ := h
  refine ⟨by omega, ?_, good_step resp hG _, hR, hC⟩
  rw [hr, List.drop_eq_getElem_cons hk, run_cons rfl]
  simp only [Prod.mk.injEq, and_true]
  omega
theorem RRdr.tells {w : World} {O : Nat → Prop} {resp : Bool} {g : Nat} {s : St} (h : RRdr w O resp g s) : w.cell? ⟨g, 13, none⟩ = some (.bool (doneOf s)) ∧ w.cell? ⟨g, 14, none⟩ = some (.int .i64 (errOf s : Nat)) := by
  cases s with
  | on p l n fs => obtain ⟨fv, hb, _⟩ := h; exact ⟨rblk_at hb 13 rfl, rblk_at hb 14 rfl⟩
  | done q fs => obtain ⟨n, o, f, fv, hb, _⟩ := h; exact ⟨rblk_at hb 13 rfl, rblk_at hb 14 rfl⟩
  | bad e => obtain ⟨n, o, f, q, fv, hb, hg⟩ := h; exact ⟨rblk_at hb 13 rfl, rblk_at hb 14 rfl⟩

theorem last_get {T : ByteArray} {l i : Bs} {d : UInt8} (hT : T = txt l) (hl : l = i ++ [d]) (h : l.length - 1 < T.size) : T[l.length - 1] = d := by
  subst hT hl
  rw [ByteArray.getElem_eq_getElem_data]
  show (i ++ [d]).toArray[(i ++ [d]).length - 1]'_ = d
  simp

theorem last_no {T : ByteArray} {l i : Bs} {d : UInt8} (hT : T = txt l) (hl : l = i ++ [d]) (h : l.length - 1 < T.size) (h3 : (((T[l.length - 1]'h).toNat : Int) == 13) = false) : T = txt (own l) := by
  rw [last_get hT hl h] at h3
  have hd : d ≠ 13 := by rintro rfl; revert h3; decide
  rw [hT, hl]
  simp [own, hd]

theorem last_13 {T : ByteArray} {l i : Bs} {d : UInt8} (hT : T = txt l) (hl : l = i ++ [d]) (h : l.length - 1 < T.size) (h3 : (((T[l.length - 1]'h).toNat : Int) == 13) = true) : T.extract 0 (l.length - 1) = txt (own l) := by
  rw [last_get hT hl h] at h3
  have hd : d = 13 := by
    apply UInt8.toNat.inj
    have := eq_of_beq h3
    show d.toNat = 13
    omega
  rw [hT, hl]
  subst hd
  apply bytes_eq
  rw [ByteArray.data_extract, Array.toList_extract, List.extract_eq_take_drop]
  simp [txt, own]

set_option maxRecDepth 100000 in
set_option maxHeartbeats 8000000 in
theorem rfeed_any (O : Nat → Prop) (resp : Bool) (g : Nat) (s : St) (v : Value) (b : Bs) (w : World) (h : RRdr w O resp g s) (hG : Good s) (hv : Byts w v b) (hvo : 0 < b.length → ∀ k, v.ownBlock = some k → ¬ O k) (hbl : b.length ≤ maxLen) :
    Calls Tryz.prog 16 #[.pointer (some ⟨g, 0, none⟩), v] w (RFeedPost O resp g s b w) := by
  obtain ⟨va, vc, hvs⟩ := hv.shape
  have HF0 := Lib.hid (show RAt O resp g s b w 0 s w from ⟨Nat.zero_le _, by simp, hG, h.mono (fun k hk => .inl hk), Chg.refl _ _⟩)
  have HV := Lib.hid hv
  unfold maxLen at hbl
  subst hvs
  clear h hv hG
  go_enter Tryz.func16, Tryz.ntmps16
  go_wp2_with fail
  go_loopw [7, 8, 9] (fun u c8 c9 wr => ∃ (k : Nat) (st : St), u = .int .i64 (k : Int) ∧ RAt O resp g s b w k st wr) (fun u _ _ _ => b.length - (intOf u).toNat)
  case atStart => exact ⟨0, s, rfl, HF0.out⟩
  case round =>
    obtain ⟨k, st, rfl, hAt⟩ := hrel
    have HA := Lib.hid hAt
    obtain ⟨hk, _, hGs, hRs, hCs⟩ := hAt
    obtain ⟨c5, c6⟩ := hRs.tells
    have HG := Lib.hid hGs
    have HR := Lib.hid hRs
    have HC := Lib.hid hCs
    obtain ⟨D, hD⟩ : ∃ D, D = doneOf st := ⟨_, rfl⟩
    obtain ⟨E, hE⟩ : ∃ E, E = errOf st := ⟨_, rfl⟩
    rw [← hD] at c5
    rw [← hE] at c6
    have HP := Lib.hid (fun (n : Nat) (ho : over st = true ∨ k = b.length) => (show RFeedPost O resp g s b w (.returned (.tuple #[.int .i64 (k : Int), .bool D, .int .i64 (E : Int)])) (wr.drewN n) from by rw [hD, hE]; exact HA.out.post ho))
    have HD := Lib.hid hD
    have HE := Lib.hid hE
    clear hGs hRs hCs hD hE
    by_cases hlt : k < b.length
    · cases D with
      | true =>
        have HOv := Lib.hid (show over st = true from over_of (.inl HD.out.symm))
        obtain rfl : E = 0 := by
          have h1 := HD.out; have h2 := HE.out
          cases st with
          | on => simp [doneOf] at h1
          | done => simpa [errOf] using h2
          | bad => simp [doneOf] at h1
        have c6' : wr.cell? ⟨g, 14, none⟩ = some (.int .i64 0) := c6
        clear c6
        go_wp2_with fail
        go_quiet (fail)
        go_wp2_with fail
        go_ret3
        exact HP.out _ (.inl HOv.out)
      | false =>
        by_cases he : E = 0
        · subst he
          obtain ⟨p, l, n, fs, hst⟩ := over_no HG.out HD.out.symm HE.out.symm
          have c6' : wr.cell? ⟨g, 14, none⟩ = some (.int .i64 0) := c6
          rcases HV.out with ⟨hb0, _⟩ | ⟨B, off, cap, hve, hcap, hcm, hB, hh⟩
          · rw [hb0] at hlt; simp at hlt
          injection hve with e1 e2 e3
          subst e1 e3
          have hOB : ¬ O B := hvo (by omega) B rfl
          have hKB : wr.heap[B]? = w.heap[B]? := HC.out.block B hB hOB
          obtain ⟨c, hc⟩ : ∃ c, c = b[k] := ⟨_, rfl⟩
          have cb : wr.cell? ⟨B, off + k, none⟩ = some (.int .u8 (c.toNat : Int)) := by rw [World.cell?_of_block (w := w) hKB, hc]; exact hh k hlt
          have HRon := HR.out
          have HGon := HG.out
          have HAon := HA.out
          rw [hst] at HRon HGon HAon
          obtain ⟨fv, hb, hf, hgO, hfo⟩ := HRon
          obtain ⟨h1, h2, h3, h4, h5, h6⟩ := HGon
          have d1 := rblk_at hb 1 (x := .int .i64 (n : Int)) rfl
          have d2 := rblk_at hb 2 (x := .string (txt l)) rfl
          have d3 := rblk_at hb 3 (x := .bool p.isSome) rfl
          have f1 := rblk_free hb 1
          have f2 := rblk_free hb 2
          have f14 := rblk_free hb 14
          have HAO := Lib.hid HAon
          have HBk := Lib.hid hb
          have HFk := Lib.hid hf
          have HC0 := Lib.hid hc
          have hcm' : vc ≤ 9223372036854775807 := by unfold maxLen at hcm; omega
          have hls : (txt l).size ≤ 8192 := by rw [txt_size]; omega
          clear c6 hh hKB e2 HAon hb hf hc hst h6 hcm
          obtain ⟨x1, hx1⟩ : ∃ x1, x1 = wr.setCell ⟨g, 1, none⟩ (.int .i64 ((n : Int) + 1)) := ⟨_, rfl⟩
          have HB1 := Lib.hid (show RBlk x1 g (rr resp (n + 1) (txt l) p.isSome (p.getD .none) fv false 0) from by rw [hx1]; exact rblk_put HBk.out 1 _)
          have HF1 := Lib.hid (show OwnF x1 0 fv fs from by rw [hx1]; exact row_apart HBk.out (by decide) HFk.out ((Chg.refl (fun k => k = g) wr).put _ _ (.inl rfl)))
          have HC1 := Lib.hid (show Chg O w x1 from by rw [hx1]; exact HC.out.put _ _ hgO)
          have HX1 := Lib.hid hx1
          have e2 := rblk_at HB1.out 2 (x := .string (txt l)) rfl
          have g2 := rblk_free HB1.out 2
          have hgx : g < x1.heap.size := block_lt HB1.out
          have hKA : RBlk (x1.drew.alloc (.cells #[.int .u8 (c.toNat : Int)] 5)) g _ := (old_block x1.drew _ (block_lt HB1.out)).trans HB1.out
          have e2' : (x1.alloc (.cells #[.int .u8 (c.toNat : Int)] 5)).cell? ⟨g, 2, none⟩ = some (.string (txt l)) := rblk_at (w := x1.drew.alloc (.cells #[.int .u8 (c.toNat : Int)] 5)) hKA 2 rfl
          have g2' : (x1.alloc (.cells #[.int .u8 (c.toNat : Int)] 5)).frozen? ⟨g, 2, none⟩ = false := rblk_free (w := x1.drew.alloc (.cells #[.int .u8 (c.toNat : Int)] 5)) hKA 2
          have hcv : (convert 22 9 (.slice (some ⟨x1.heap.size, 0, none⟩) 1 1)).run Tryz.prog (x1.alloc (.cells #[.int .u8 (c.toNat : Int)] 5)).drew = .ok (.string ⟨#[c]⟩) (x1.alloc (.cells #[.int .u8 (c.toNat : Int)] 5)).drew :=
            Tk.run_back (P := Tryz.prog) _ 22 9 5 x1.heap.size 0 1 [c] Tryz.underlying22 Tryz.underlying5 Tryz.underlying9 (fun j hj => by
              have : j = 0 := by simpa using hj
              subst this
              exact cell_of_one (new_block x1 _))
          obtain ⟨X, hX⟩ : ∃ X, txt l ++ ⟨#[c]⟩ = X := ⟨_, rfl⟩
          have HX := Lib.hid (show X = txt (l ++ [c]) from by rw [← hX]; exact bytes_eq (by simp [txt]))
          have hXs : X.size = l.length + 1 := by rw [HX.out, txt_size]; simp
          obtain ⟨x2, hx2⟩ : ∃ x2, x2 = ((x1.setCell ⟨g, 2, none⟩ (.string X)).alloc (.cells #[.int .u8 (c.toNat : Int)] 5)).drew := ⟨_, rfl⟩
          have hsp : (x1.setCell ⟨g, 2, none⟩ (.string X)).heap.size = x1.heap.size := by simp [World.setCell]
          have HB2 := Lib.hid (show RBlk x2 g (rr resp (n + 1) X p.isSome (p.getD .none) fv false 0) from by
            rw [hx2]; exact (old_block _ _ (by rw [hsp]; exact hgx)).trans (rblk_put HB1.out 2 _))
          have HF2 := Lib.hid (show OwnF x2 0 fv fs from by
            rw [hx2]
            have h := row_apart HB1.out (by decide) HF1.out ((Chg.refl (fun k => k = g) x1).put ⟨g, 2, none⟩ (.string X) (.inl rfl))
            exact owns_kept h (((Below.refl _ _).alloc (Nat.le_refl _) _).drew))
          have HC2 := Lib.hid (show Chg O w x2 from by rw [hx2]; exact ((HC1.out.put ⟨g, 2, none⟩ (.string X) hgO).alloc _).drew)
          have HX2 := Lib.hid hx2
          have HN := Lib.hid (fun (w' : World) (hR : RRdr w' (New O w) resp g (step resp (.on p l n fs) c)) (hC : Chg O w w') => (show RAt O resp g s b w (k + 1) (step resp (.on p l n fs) c) w' from by
            have h := RAt.next HAO.out hlt (by rw [← HC0.out]; exact hR) hC
            rwa [← HC0.out] at h))
          have i1 := rblk_at HB2.out 1 (x := .int .i64 ((n : Int) + 1)) rfl
          have i2 := rblk_at HB2.out 2 (x := .string X) rfl
          have i3 := rblk_at HB2.out 3 (x := .bool p.isSome) rfl
          have i14 := rblk_at HB2.out 14 (x := .int .i64 0) rfl
          have i13 := rblk_at HB2.out 13 (x := .bool false) rfl
          have j2 := rblk_free HB2.out 2
          have j14 := rblk_free HB2.out 14
          clear hx1 hKA d2 d3 f2 f14 hx2 hsp
          go_upto_region 6 with fail
          rw [← HX1.out]
          clear d1 f1
          go_region
          rw [← HX2.out]
          clear e2 g2 e2' g2' hcv hX cb
          by_cases hroom : room p l n = 0
          · have HS := Lib.hid (show step resp (.on p l n fs) c = .bad 3 from by rw [step_on, if_pos hroom])
            rw [HS.out] at HN
            have hb3 : RRdr (x2.setCell ⟨g, 14, none⟩ (.int .i64 3)) (New O w) resp g (.bad 3) := ⟨n + 1, X, p.isSome, p.getD .none, fv, rblk_put HB2.out 14 _, hgO⟩
            have HFin := Lib.hid (fun (m : Nat) => (show RFeedPost O resp g s b w (.returned (.tuple #[.int .i64 ((k : Int) + 1), .bool false, .int .i64 3])) ((x2.setCell ⟨g, 14, none⟩ (.int .i64 3)).drewN m) from RAt.post (n := m) (HN.out _ hb3 (HC2.out.put _ _ hgO)) (.inl rfl)))
            clear hb3
            by_cases h8 : 8192 ≤ n
            · go_wp2_with fail
              go_quiet (fail)
              go_wp2_with fail
              go_ret3
              exact HFin.out _
            · have hpn : p.isSome = false := by
                cases p with
                | none => rfl
                | some q => exfalso; simp [room, most] at hroom; omega
              have hl6 : 1026 ≤ l.length := by
                cases p with
                | none => simp [room, most] at hroom; omega
                | some q => simp at hpn
              rw [hpn] at i3
              clear hroom
              go_wp2_with fail
              go_quiet (fail)
              go_wp2_with fail
              go_ret3
              exact HFin.out _
          · have hn8 : n < 8192 := by unfold room at hroom; omega
            by_cases hc10 : c = 10
            · have hc10' : ((c.toNat : Int) != 10) = false := by rw [hc10]; rfl
              have HS := Lib.hid (show step resp (.on p l n fs) c = ended resp p (n + 1) fs (own l) from by rw [step_on, if_neg hroom, if_pos hc10])
              rw [HS.out] at HN
              obtain ⟨T, xT⟩ : ∃ T, X.extract 0 l.length = T := ⟨_, rfl⟩
              have HTT := Lib.hid (show T = txt l from by
                rw [← xT, HX.out]
                apply bytes_eq
                rw [ByteArray.data_extract, Array.toList_extract, List.extract_eq_take_drop]
                simp [txt])
              have hTs : T.size = l.length := by rw [HTT.out, txt_size]
              have hl6 : p.isSome = false → l.length < 1026 := fun hp => by
                cases p with
                | none => simp [room, most] at hroom; omega
                | some q => simp at hp
              have HL6 := Lib.hid hl6
              have HB4 := Lib.hid (show RRdr (x2.setCell ⟨g, 2, none⟩ (.string ⟨#[]⟩)) (New O w) resp g (.on p [] (n + 1) fs) from ⟨fv, rblk_put HB2.out 2 _, row_apart HB2.out (by decide) HF2.out ((Chg.refl (fun k => k = g) x2).put _ _ (.inl rfl)), hgO, hfo⟩)
              have HC4 := Lib.hid (HC2.out.put ⟨g, 2, none⟩ (.string ⟨#[]⟩) hgO)
              have HEnd := Lib.hid (fun (y : World) (x : ByteArray) (hx : x = txt (own l)) (hy : ∃ m, y = (x2.drewN m).setCell ⟨g, 2, none⟩ (.string ⟨#[]⟩)) => (show Calls Tryz.prog 34 #[.pointer (some ⟨g, 0, none⟩), .string x] y fun e w' => e = .returned (.tuple #[]) ∧ RAt O resp g s b w (k + 1) (ended resp p (n + 1) fs (own l)) w' from by
                obtain ⟨m, rfl⟩ := hy
                subst hx
                refine (rended_any (New O w) resp g p (n + 1) fs (own l) ((x2.setCell ⟨g, 2, none⟩ (.string ⟨#[]⟩)).drewN m) (HB4.out.below ⟨rfl, rfl, rfl, Nat.le_refl _, fun _ _ => rfl⟩) h4 (by have := own_length l; omega)).mono ?_
                rintro e w' ⟨rfl, hR, hC⟩
                have hC5 := (HC4.out.drewN m).again hC
                exact ⟨rfl, HN.out w' (hR.mono (new_new (HC4.out.drewN m).size)) hC5⟩))
              clear hroom hc10 hl6
              have hreg : p.isSome = true ∨ (p.isSome = false ∧ l.length < 1026) := by
                cases hp : p.isSome with
                | true => exact .inl rfl
                | false => exact .inr ⟨rfl, HL6.out hp⟩
              rcases hreg with hp | ⟨hp, hl6⟩
              all_goals
                rw [hp] at i3
                clear hp
                rcases snoc_cases l with hl0 | ⟨i, d, hld⟩
                · have hz : l.length = 0 := by rw [hl0]; rfl
                  have HO := Lib.hid (show (ByteArray.empty : ByteArray) = txt (own l) from by rw [hl0]; rfl)
                  clear hl0
                  go_wp2_with fail
                  go_quiet (fail)
                  go_wp2_with fail
                  refine (HEnd.out _ _ HO.out ⟨_, rfl⟩).mono ?_
                  rintro e x3 ⟨rfl, hA3⟩
                  have HA3 := Lib.hid hA3
                  clear hA3
                  go_wp2_with fail
                  go_roundw
                  case rel => exact ⟨k + 1, _, by go_num, HA3.out⟩
                  case measure => simp [intOf]; omega
                · have hz : 1 ≤ l.length := by rw [hld]; simp
                  have HLD := Lib.hid hld
                  clear hld
                  go_wp2_with fail
                  go_quiet (fail)
                  go_wp2_with fail
                  all_goals
                    rename_i h3 K3 a3
                    first
                    | refine (HEnd.out _ _ (last_no HTT.out HLD.out _ h3) ⟨_, rfl⟩).mono ?_
                    | refine (HEnd.out _ _ (last_13 HTT.out HLD.out _ h3) ⟨_, rfl⟩).mono ?_
                    rintro e x3 ⟨rfl, hA3⟩
                    have HA3 := Lib.hid hA3
                    clear hA3
                    go_wp2_with fail
                    go_roundw
                    case rel => exact ⟨k + 1, _, by go_num, HA3.out⟩
                    case measure => simp [intOf]; omega
            · have hc10' : ((c.toNat : Int) != 10) = true := by
                rw [bne_iff_ne]; intro e; apply hc10; apply UInt8.toNat.inj; show c.toNat = 10; omega
              have HS := Lib.hid (show step resp (.on p l n fs) c = .on p (l ++ [c]) (n + 1) fs from by rw [step_on, if_neg hroom, if_neg hc10])
              rw [HS.out] at HN
              have HFin := Lib.hid (HN.out x2 ⟨fv, by rw [← HX.out]; exact HB2.out, HF2.out, hgO, hfo⟩ HC2.out)
              cases hp : p.isSome with
              | true =>
                rw [hp] at i3
                clear hroom hc10 hp
                go_wp2_with fail
                go_roundw
                case rel => exact ⟨k + 1, _, by go_num, HFin.out⟩
                case measure => simp [intOf]; omega
              | false =>
                have hl6 : l.length < 1026 := by
                  cases p with
                  | none => simp [room, most] at hroom; omega
                  | some q => simp at hp
                rw [hp] at i3
                clear hroom hc10 hp
                go_wp2_with fail
                go_roundw
                case rel => exact ⟨k + 1, _, by go_num, HFin.out⟩
                case measure => simp [intOf]; omega
        · have hne : ((E : Int) == 0) = false := by rw [beq_eq_false_iff_ne]; omega
          have HOv := Lib.hid (show over st = true from over_of (.inr (by rw [← HE.out]; exact he)))
          clear he
          go_wp2_with fail
          go_quiet (fail)
          go_wp2_with fail
          go_ret3
          exact HP.out _ (.inl HOv.out)
    · have hke : k = b.length := by omega
      have HKE := Lib.hid hke
      clear hke
      go_wp2_with fail
      go_quiet (fail)
      go_wp2_with fail
      go_ret3
      exact HP.out _ (.inr HKE.out)
end Go.Proofs.YtcolnidgembniaaGreatDoor.Hd
/-
  The reference reader's Request and Response where there is no head to tell. (Where there is one: see NOTES.md.)
-/
namespace Go.Proofs.YtcolnidgembniaaGreatDoor.Hd
open Go.RowKit Go.Proofs.YtcolnidgembniaaGreatDoor.Tk Go.Proofs.YtcolnidgembniaaGreatDoor.Fd
set_option linter.unusedVariables false

set_option maxRecDepth 100000 in
set_option maxHeartbeats 4000000 in
theorem rrequest_no (O : Nat → Prop) (resp : Bool) (g : Nat) (s : St) (w : World) (h : RRdr w O resp g s) (hn : (doneOf s && resp == false) = false) :
    Calls Tryz.prog 17 #[.pointer (some ⟨g, 0, none⟩)] w (ReqPost (headOf resp (resp == false) s) w) := by
  rw [headOf_no hn]
  obtain ⟨c13, c14⟩ := h.tells
  have c0 : w.cell? ⟨g, 0, none⟩ = some (.bool resp) := by
    cases s with
    | on => obtain ⟨fv, hb, _⟩ := h; exact rblk_at hb 0 rfl
    | done => obtain ⟨n, o, f, fv, hb, _⟩ := h; exact rblk_at hb 0 rfl
    | bad => obtain ⟨n, o, f, q, fv, hb, _⟩ := h; exact rblk_at hb 0 rfl
  have hgl : g < w.heap.size := World.block_lt_of_cell? w _ c0
  obtain ⟨D, hD⟩ : ∃ D, D = doneOf s := ⟨_, rfl⟩
  obtain ⟨E, hE⟩ : ∃ E, E = errOf s := ⟨_, rfl⟩
  rw [← hD] at c13 hn
  rw [← hE] at c14
  have hDE : D = true → E = 0 := fun h => by
    cases s with
    | on => subst hD; cases h
    | done => exact hE
    | bad => subst hD; cases h
  clear h hD hE
  cases D with
  | false =>
    go_enter Tryz.func17, Tryz.ntmps17
    go_wp2_with fail
    refine bodyPost_ret (results_pair rfl _ _ w.heap.size 25 _ (0, 0) _ rfl (new_block _ _) Tryz.underlying25 rfl infoReq) rfl ?_
    exact ⟨_, rfl, OwnF.nil _ _, (Below.refl _ _).alloc (Nat.le_refl _) _⟩
  | true =>
    have hr : resp = true := by cases resp <;> simp at hn ⊢
    subst hr
    have he := hDE rfl
    subst he
    have c14' : w.cell? ⟨g, 14, none⟩ = some (.int .i64 0) := c14
    clear c14
    go_enter Tryz.func17, Tryz.ntmps17
    go_wp2_with fail
    refine bodyPost_ret (results_pair rfl _ _ w.heap.size 25 _ (0, 0) _ rfl (new_block _ _) Tryz.underlying25 rfl infoReq) rfl ?_
    exact ⟨_, rfl, OwnF.nil _ _, (Below.refl _ _).alloc (Nat.le_refl _) _⟩
set_option maxRecDepth 100000 in
set_option maxHeartbeats 4000000 in
theorem rresponse_no (O : Nat → Prop) (resp : Bool) (g : Nat) (s : St) (w : World) (h : RRdr w O resp g s) (hn : (doneOf s && resp == true) = false) :
    Calls Tryz.prog 23 #[.pointer (some ⟨g, 0, none⟩)] w (ResPost (headOf resp (resp == true) s) w) := by
  rw [headOf_no hn]
  obtain ⟨c13, c14⟩ := h.tells
  have c0 : w.cell? ⟨g, 0, none⟩ = some (.bool resp) := by
    cases s with
    | on => obtain ⟨fv, hb, _⟩ := h; exact rblk_at hb 0 rfl
    | done => obtain ⟨n, o, f, fv, hb, _⟩ := h; exact rblk_at hb 0 rfl
    | bad => obtain ⟨n, o, f, q, fv, hb, _⟩ := h; exact rblk_at hb 0 rfl
  have hgl : g < w.heap.size := World.block_lt_of_cell? w _ c0
  obtain ⟨D, hD⟩ : ∃ D, D = doneOf s := ⟨_, rfl⟩
  obtain ⟨E, hE⟩ : ∃ E, E = errOf s := ⟨_, rfl⟩
  rw [← hD] at c13 hn
  rw [← hE] at c14
  have hDE : D = true → E = 0 := fun h => by
    cases s with
    | on => subst hD; cases h
    | done => exact hE
    | bad => subst hD; cases h
  clear h hD hE
  cases D with
  | false =>
    go_enter Tryz.func23, Tryz.ntmps23
    go_wp2_with fail
    refine bodyPost_ret (results_pair rfl _ _ w.heap.size 32 _ (0, 0) _ rfl (new_block _ _) Tryz.underlying32 rfl infoRes) rfl ?_
    exact ⟨_, rfl, OwnF.nil _ _, (Below.refl _ _).alloc (Nat.le_refl _) _⟩
  | true =>
    have hr : resp = false := by cases resp <;> simp at hn ⊢
    subst hr
    have he := hDE rfl
    subst he
    have c14' : w.cell? ⟨g, 14, none⟩ = some (.int .i64 0) := c14
    clear c14
    go_enter Tryz.func23, Tryz.ntmps23
    go_wp2_with fail
    refine bodyPost_ret (results_pair rfl _ _ w.heap.size 32 _ (0, 0) _ rfl (new_block _ _) Tryz.underlying32 rfl infoRes) rfl ?_
    exact ⟨_, rfl, OwnF.nil _ _, (Below.refl _ _).alloc (Nat.le_refl _) _⟩
end Go.Proofs.YtcolnidgembniaaGreatDoor.Hd
/-
  The reference reader's Request and Response: what each returns. Conditions: at most 2^20 fields.
-/
namespace Go.Proofs.YtcolnidgembniaaGreatDoor.Hd
open Go.RowKit Go.Proofs.YtcolnidgembniaaGreatDoor.Tk Go.Proofs.YtcolnidgembniaaGreatDoor.Fd
set_option linter.unusedVariables false

set_option maxRecDepth 100000 in
set_option maxHeartbeats 4000000 in
theorem rrequest_yes (O : Nat → Prop) (g : Nat) (q : Parts) (fs : List Fl) (w : World) (h : RRdr w O false g (.done q fs)) (hl : fs.length ≤ 1048576) :
    Calls Tryz.prog 17 #[.pointer (some ⟨g, 0, none⟩)] w (ReqPost (q, fs, 0) w) := by
  obtain ⟨n, o, f, fv, hb, hf, _, _⟩ := h
  obtain ⟨A, hA⟩ : ∃ A, A = Obj.cells #[.string ⟨#[]⟩, .string ⟨#[]⟩, .int .i64 0, .slice none 0 0] 25 := ⟨_, rfl⟩
  obtain ⟨B, hB⟩ : ∃ B, B = Obj.cells #[.string q.a, .string q.b, .int .i64 q.m, .slice none 0 0] 25 := ⟨_, rfl⟩
  obtain ⟨C, hC⟩ : ∃ C, C = Obj.cells #[] 80 := ⟨_, rfl⟩
  have s1 : (w.alloc A).heap.size = w.heap.size + 1 := by simp
  have s2 : ((w.alloc A).alloc B).heap.size = w.heap.size + 1 + 1 := by simp
  have s3 : (((w.alloc A).alloc B).alloc C).heap.size = w.heap.size + 1 + 1 + 1 := by simp
  have hbel : Below w.heap.size w (((w.alloc A).alloc B).alloc C) := (((Below.refl _ w).alloc (Nat.le_refl _) A).alloc (by omega) B).alloc (by omega) C
  have hAB := new_block w A
  have hBB := new_block (w.alloc A) B
  rw [s1] at hBB
  have hA3 : (((w.alloc A).alloc B).alloc C).heap[w.heap.size]? = some A := (old_block _ _ (by omega)).trans ((old_block _ _ (by omega)).trans hAB)
  have hB3 : (((w.alloc A).alloc B).alloc C).heap[w.heap.size + 1]? = some B := (old_block _ _ (by omega)).trans hBB
  have hW : (((w.alloc A).alloc B).alloc C).ownsRow (w.heap.size + 1 + 1) 80 2 (.slice (some ⟨w.heap.size + 1 + 1, 0, none⟩) 0 0) 0 [] := by
    have h := World.ownsRow_lit (base := w.heap.size + 1 + 1) (e := 80) (size := 2) ((w.alloc A).alloc B) #[] 0 (by omega) (Nat.zero_le _) rfl
    rw [s2, ← hC] at h
    exact h
  have c0 := rblk_at hb 0 (x := .bool false) rfl
  have c4 := rblk_at hb 4 (x := .string q.a) rfl
  have c5 := rblk_at hb 5 (x := .string q.b) rfl
  have c6 := rblk_at hb 6 (x := .int .i64 q.m) rfl
  have c7 := rblk_at hb 7 (x := .slice none 0 0) rfl
  have c13 := rblk_at hb 13 (x := .bool true) rfl
  have c14 := rblk_at hb 14 (x := .int .i64 0) rfl
  have hgl := block_lt hb
  have c12' : (((w.alloc A).alloc B).alloc C).cell? ⟨g, 12, none⟩ = some fv := rblk_at (w := ((w.alloc A).alloc B).alloc C) ((hbel.block g hgl).trans hb) 12 rfl
  have HW := Lib.hid hW
  have HA3 := Lib.hid hA3
  have HB3 := Lib.hid hB3
  have HBel := Lib.hid hbel
  have HS3 := Lib.hid s3
  have HF := Lib.hid (owns_kept hf (w' := ((w.alloc A).alloc B).alloc C) hbel)
  obtain ⟨i0, hi, hz0, hz1, hz2⟩ := info_parts infoField
  have hOW : ∀ X Y, (((w.alloc X).alloc Y).alloc C).ownsRow w.heap.size 80 2 (.slice (some ⟨w.heap.size + 1 + 1, 0, none⟩) 0 0) 0 [] := fun X Y => by
    have s : ((w.alloc X).alloc Y).heap.size = w.heap.size + 1 + 1 := by simp
    have h := World.ownsRow_lit (base := w.heap.size) (e := 80) (size := 2) ((w.alloc X).alloc Y) #[] 0 (by omega) (Nat.zero_le _) rfl
    rw [s, ← hC] at h
    exact h
  subst hA hB hC
  have HOW := Lib.hid hOW
  clear hOW
  have hen : w.heap.size + 1 ≠ w.heap.size := by omega
  have hne : w.heap.size ≠ w.heap.size + 1 := by omega
  obtain ⟨r0, r1, r2, r3⟩ := four hA3
  have e0 := free hA3 0
  have e1 := free hA3 1
  have e2 := free hA3 2
  have e3 := free hA3 3
  obtain ⟨t0, t1, t2, t3⟩ := four hB3
  have ft := free hB3 3
  clear hAB hBB hA3 hB3 hW hbel s1 s2 s3
  rcases hf.2 with ⟨rfl, h0⟩ | ⟨k, cap, cur, hv, _, hh, hlc, hcm, hcs, htk⟩
  · obtain rfl : fs = [] := List.length_eq_zero_iff.1 h0
    clear hf hb h0
    go_enter Tryz.func17, Tryz.ntmps17
    go_wp2_with fail
    refine bodyPost_ret (results_pair rfl _ _ w.heap.size 25 _ (0, 0) _ rfl ((old_block _ _ (by simp; omega)).trans ((old_block _ _ (by simp)).trans (new_block _ _))) Tryz.underlying25 rfl infoReq) rfl ?_
    exact ⟨_, rfl, HOW.out _ _, (((Below.refl _ w).alloc (Nat.le_refl _) _).alloc (by simp) _).alloc (by simp; omega) _⟩
  · subst hv
    have HN := Lib.hid (World.ownsRow.cells HF.out (g := k) rfl)
    clear hf hb hh htk hcs r0 r1 r2 r3 e0 e1 e2 e3 t0 t1 t2 t3 ft
    go_enter Tryz.func17, Tryz.ntmps17
    go_wp2_with (at_builtin; refine wpList_append_own _ rfl _ _ 23 rfl (w.heap.size + 1 + 1) 80 i0 (.agg #[.string ⟨#[]⟩, .string ⟨#[]⟩]) 2 32 Tryz.underlying23 hi hz0 hz1 hz2 rfl (by decide) _ _ _ rfl HW.out ⟨k, 0, none⟩ fs.length cap (flat fs) rfl (flat_length _) HN.out (fun y hy => flat_one _ y hy) (by unfold maxLen; omega) (by omega) (by rw [HS3.out]; omega) ?_; intro v' w6 hown' hgrow hnil; have HO6 := Lib.hid (show OwnF w6 (w.heap.size + 1 + 1) v' fs from by unfold OwnF; rw [Nat.zero_add, List.nil_append] at hown'; exact hown'); obtain ⟨va, vc, hv'⟩ := OwnF.form HO6.out; subst hv'; have HB6 := Lib.hid (HBel.out.grown hgrow HBel.out.size (fun k hk => by injection hk with hk; have hk' : w.heap.size + 1 + 1 = k := hk; omega)); have hq6 := (Below.refl (w.heap.size + 1 + 1) _).grown hgrow (by rw [HS3.out]; omega) (fun k hk => by injection hk with hk; have hk' : w.heap.size + 1 + 1 = k := hk; omega); have HA6 := Lib.hid (Bl.old hq6 (by omega) HA3.out); have HC6 := Lib.hid (Bl.old hq6 (by omega) HB3.out); obtain ⟨r0, r1, r2, r3⟩ := four HA6.out; have e0 := free HA6.out 0; have e1 := free HA6.out 1; have e2 := free HA6.out 2; have e3 := free HA6.out 3; obtain ⟨t0, t1, t2, t3⟩ := four HC6.out; have ft := free HC6.out 3; clear hown' hgrow hnil hq6)
    refine bodyPost_ret (results_pair rfl _ _ w.heap.size 25 _ (0, 0) _ rfl (put4 (put_far (a := ⟨w.heap.size + 1, 3, none⟩) (v := .slice va fs.length vc) HA6.out (by show w.heap.size ≠ w.heap.size + 1; exact hne)) _ _ _ _) Tryz.underlying25 rfl infoReq) rfl ?_
    refine ⟨_, rfl, ?_, put4_below (HB6.out.setCell (p := ⟨w.heap.size + 1, 3, none⟩) (by show w.heap.size ≤ w.heap.size + 1; omega) _) (Nat.le_refl _) _ _ _ _⟩
    refine Fd.owns_mono (row_same HO6.out fun j hj => ?_) (by omega)
    have hj2 := (World.ownsRow.lt HO6.out j hj).1
    exact put_far (put_far (put_far (put_far (put_far rfl (by show j ≠ w.heap.size + 1; omega)) (by show j ≠ w.heap.size; omega)) (by show j ≠ w.heap.size; omega)) (by show j ≠ w.heap.size; omega)) (by show j ≠ w.heap.size; omega)
set_option maxRecDepth 100000 in
set_option maxHeartbeats 4000000 in
theorem rresponse_yes (O : Nat → Prop) (g : Nat) (q : Parts) (fs : List Fl) (w : World) (h : RRdr w O true g (.done q fs)) (hl : fs.length ≤ 1048576) :
    Calls Tryz.prog 23 #[.pointer (some ⟨g, 0, none⟩)] w (ResPost (q, fs, 0) w) := by
  obtain ⟨n, o, f, fv, hb, hf, _, _⟩ := h
  obtain ⟨A, hA⟩ : ∃ A, A = Obj.cells #[.int .i64 0, .int .i64 0, .string ⟨#[]⟩, .slice none 0 0] 32 := ⟨_, rfl⟩
  obtain ⟨B, hB⟩ : ∃ B, B = Obj.cells #[.int .i64 q.m, .int .i64 q.c, .string q.a, .slice none 0 0] 32 := ⟨_, rfl⟩
  obtain ⟨C, hC⟩ : ∃ C, C = Obj.cells #[] 80 := ⟨_, rfl⟩
  have s1 : (w.alloc A).heap.size = w.heap.size + 1 := by simp
  have s2 : ((w.alloc A).alloc B).heap.size = w.heap.size + 1 + 1 := by simp
  have s3 : (((w.alloc A).alloc B).alloc C).heap.size = w.heap.size + 1 + 1 + 1 := by simp
  have hbel : Below w.heap.size w (((w.alloc A).alloc B).alloc C) := (((Below.refl _ w).alloc (Nat.le_refl _) A).alloc (by omega) B).alloc (by omega) C
  have hAB := new_block w A
  have hBB := new_block (w.alloc A) B
  rw [s1] at hBB
  have hA3 : (((w.alloc A).alloc B).alloc C).heap[w.heap.size]? = some A := (old_block _ _ (by omega)).trans ((old_block _ _ (by omega)).trans hAB)
  have hB3 : (((w.alloc A).alloc B).alloc C).heap[w.heap.size + 1]? = some B := (old_block _ _ (by omega)).trans hBB
  have hW : (((w.alloc A).alloc B).alloc C).ownsRow (w.heap.size + 1 + 1) 80 2 (.slice (some ⟨w.heap.size + 1 + 1, 0, none⟩) 0 0) 0 [] := by
    have h := World.ownsRow_lit (base := w.heap.size + 1 + 1) (e := 80) (size := 2) ((w.alloc A).alloc B) #[] 0 (by omega) (Nat.zero_le _) rfl
    rw [s2, ← hC] at h
    exact h
  have c0 := rblk_at hb 0 (x := .bool true) rfl
  have c4 := rblk_at hb 8 (x := .int .i64 q.m) rfl
  have c5 := rblk_at hb 9 (x := .int .i64 q.c) rfl
  have c6 := rblk_at hb 10 (x := .string q.a) rfl
  have c7 := rblk_at hb 11 (x := .slice none 0 0) rfl
  have c13 := rblk_at hb 13 (x := .bool true) rfl
  have c14 := rblk_at hb 14 (x := .int .i64 0) rfl
  have hgl := block_lt hb
  have c12' : (((w.alloc A).alloc B).alloc C).cell? ⟨g, 12, none⟩ = some fv := rblk_at (w := ((w.alloc A).alloc B).alloc C) ((hbel.block g hgl).trans hb) 12 rfl
  have HW := Lib.hid hW
  have HA3 := Lib.hid hA3
  have HB3 := Lib.hid hB3
  have HBel := Lib.hid hbel
  have HS3 := Lib.hid s3
  have HF := Lib.hid (owns_kept hf (w' := ((w.alloc A).alloc B).alloc C) hbel)
  obtain ⟨i0, hi, hz0, hz1, hz2⟩ := info_parts infoField
  have hOW : ∀ X Y, (((w.alloc X).alloc Y).alloc C).ownsRow w.heap.size 80 2 (.slice (some ⟨w.heap.size + 1 + 1, 0, none⟩) 0 0) 0 [] := fun X Y => by
    have s : ((w.alloc X).alloc Y).heap.size = w.heap.size + 1 + 1 := by simp
    have h := World.ownsRow_lit (base := w.heap.size) (e := 80) (size := 2) ((w.alloc X).alloc Y) #[] 0 (by omega) (Nat.zero_le _) rfl
    rw [s, ← hC] at h
    exact h
  subst hA hB hC
  have HOW := Lib.hid hOW
  clear hOW
  have hen : w.heap.size + 1 ≠ w.heap.size := by omega
  have hne : w.heap.size ≠ w.heap.size + 1 := by omega
  obtain ⟨r0, r1, r2, r3⟩ := four hA3
  have e0 := free hA3 0
  have e1 := free hA3 1
  have e2 := free hA3 2
  have e3 := free hA3 3
  obtain ⟨t0, t1, t2, t3⟩ := four hB3
  have ft := free hB3 3
  clear hAB hBB hA3 hB3 hW hbel s1 s2 s3
  rcases hf.2 with ⟨rfl, h0⟩ | ⟨k, cap, cur, hv, _, hh, hlc, hcm, hcs, htk⟩
  · obtain rfl : fs = [] := List.length_eq_zero_iff.1 h0
    clear hf hb h0
    go_enter Tryz.func23, Tryz.ntmps23
    go_wp2_with fail
    refine bodyPost_ret (results_pair rfl _ _ w.heap.size 32 _ (0, 0) _ rfl ((old_block _ _ (by simp; omega)).trans ((old_block _ _ (by simp)).trans (new_block _ _))) Tryz.underlying32 rfl infoRes) rfl ?_
    exact ⟨_, rfl, HOW.out _ _, (((Below.refl _ w).alloc (Nat.le_refl _) _).alloc (by simp) _).alloc (by simp; omega) _⟩
  · subst hv
    have HN := Lib.hid (World.ownsRow.cells HF.out (g := k) rfl)
    clear hf hb hh htk hcs r0 r1 r2 r3 e0 e1 e2 e3 t0 t1 t2 t3 ft
    go_enter Tryz.func23, Tryz.ntmps23
    go_wp2_with (at_builtin; refine wpList_append_own _ rfl _ _ 23 rfl (w.heap.size + 1 + 1) 80 i0 (.agg #[.string ⟨#[]⟩, .string ⟨#[]⟩]) 2 32 Tryz.underlying23 hi hz0 hz1 hz2 rfl (by decide) _ _ _ rfl HW.out ⟨k, 0, none⟩ fs.length cap (flat fs) rfl (flat_length _) HN.out (fun y hy => flat_one _ y hy) (by unfold maxLen; omega) (by omega) (by rw [HS3.out]; omega) ?_; intro v' w6 hown' hgrow hnil; have HO6 := Lib.hid (show OwnF w6 (w.heap.size + 1 + 1) v' fs from by unfold OwnF; rw [Nat.zero_add, List.nil_append] at hown'; exact hown'); obtain ⟨va, vc, hv'⟩ := OwnF.form HO6.out; subst hv'; have HB6 := Lib.hid (HBel.out.grown hgrow HBel.out.size (fun k hk => by injection hk with hk; have hk' : w.heap.size + 1 + 1 = k := hk; omega)); have hq6 := (Below.refl (w.heap.size + 1 + 1) _).grown hgrow (by rw [HS3.out]; omega) (fun k hk => by injection hk with hk; have hk' : w.heap.size + 1 + 1 = k := hk; omega); have HA6 := Lib.hid (Bl.old hq6 (by omega) HA3.out); have HC6 := Lib.hid (Bl.old hq6 (by omega) HB3.out); obtain ⟨r0, r1, r2, r3⟩ := four HA6.out; have e0 := free HA6.out 0; have e1 := free HA6.out 1; have e2 := free HA6.out 2; have e3 := free HA6.out 3; obtain ⟨t0, t1, t2, t3⟩ := four HC6.out; have ft := free HC6.out 3; clear hown' hgrow hnil hq6)
    refine bodyPost_ret (results_pair rfl _ _ w.heap.size 32 _ (0, 0) _ rfl (put4 (put_far (a := ⟨w.heap.size + 1, 3, none⟩) (v := .slice va fs.length vc) HA6.out (by show w.heap.size ≠ w.heap.size + 1; exact hne)) _ _ _ _) Tryz.underlying32 rfl infoRes) rfl ?_
    refine ⟨_, rfl, ?_, put4_below (HB6.out.setCell (p := ⟨w.heap.size + 1, 3, none⟩) (by show w.heap.size ≤ w.heap.size + 1; omega) _) (Nat.le_refl _) _ _ _ _⟩
    refine Fd.owns_mono (row_same HO6.out fun j hj => ?_) (by omega)
    have hj2 := (World.ownsRow.lt HO6.out j hj).1
    exact put_far (put_far (put_far (put_far (put_far rfl (by show j ≠ w.heap.size + 1; omega)) (by show j ≠ w.heap.size; omega)) (by show j ≠ w.heap.size; omega)) (by show j ≠ w.heap.size; omega)) (by show j ≠ w.heap.size; omega)
theorem rrequest_any (O : Nat → Prop) (resp : Bool) (g : Nat) (s : St) (w : World) (h : RRdr w O resp g s) (hG : Good s) :
    Calls Tryz.prog 17 #[.pointer (some ⟨g, 0, none⟩)] w (ReqPost (headOf resp (resp == false) s) w) := by
  cases hn : (doneOf s && resp == false) with
  | false => exact rrequest_no O resp g s w h hn
  | true =>
    cases s with
    | on => simp [doneOf] at hn
    | bad => simp [doneOf] at hn
    | done q fs =>
      have hr : resp = false := by cases resp <;> simp [doneOf] at hn ⊢
      subst hr
      exact rrequest_yes O g q fs w h (by have := hG.1; omega)
theorem rresponse_any (O : Nat → Prop) (resp : Bool) (g : Nat) (s : St) (w : World) (h : RRdr w O resp g s) (hG : Good s) :
    Calls Tryz.prog 23 #[.pointer (some ⟨g, 0, none⟩)] w (ResPost (headOf resp (resp == true) s) w) := by
  cases hn : (doneOf s && resp == true) with
  | false => exact rresponse_no O resp g s w h hn
  | true =>
    cases s with
    | on => simp [doneOf] at hn
    | bad => simp [doneOf] at hn
    | done q fs =>
      have hr : resp = true := by cases resp <;> simp [doneOf] at hn ⊢
      subst hr
      exact rresponse_yes O g q fs w h (by have := hG.1; omega)
end Go.Proofs.YtcolnidgembniaaGreatDoor.Hd
/-
  gatepostref01.Lower and gatepostref01.Same: what each returns. Conditions: none beyond the lengths that a string can have.
-/
namespace Go.Proofs.YtcolnidgembniaaGreatDoor.Tk
open Go.RowKit

theorem run_one_back (wr : World) (n : Int) (d : UInt8) (h : n = (d.toNat : Int)) :
    (convert 22 9 (.slice (some ⟨wr.heap.size, 0, none⟩) 1 1)).run Tryz.prog (wr.alloc (.cells #[.int .u8 n] 5)) = .ok (.string ⟨#[d]⟩) (wr.alloc (.cells #[.int .u8 n] 5)) := by
  subst h
  have := run_back (P := Tryz.prog) (wr.alloc (.cells #[.int .u8 (d.toNat : Int)] 5)) 22 9 5 wr.heap.size 0 1 [d] Tryz.underlying22 Tryz.underlying5 Tryz.underlying9 (by
    intro j hj
    have hj0 : j = 0 := by simp at hj; omega
    subst hj0
    simp)
  exact this
theorem low_snoc (s : ByteArray) (k : Nat) (hk : k < s.size) : (s.data.toList.take (k + 1)).map low = (s.data.toList.take k).map low ++ [low s[k]] := by
  rw [List.take_succ_eq_append_getElem (by simpa using hk), List.map_append]; rfl
theorem snoc_data (X : ByteArray) (d : UInt8) : (X ++ (⟨#[d]⟩ : ByteArray)).data.toList = X.data.toList ++ [d] := by simp
theorem snoc_size (X : ByteArray) (d : UInt8) : (X ++ (⟨#[d]⟩ : ByteArray)).size = X.size + 1 := by rw [ByteArray.size_append]; rfl

set_option maxHeartbeats 1000000 in
theorem refLower_any (s : ByteArray) (w : World) (hs : s.size ≤ maxLen) :
    Calls Tryz.prog 98 #[.string s] w fun e w' => e = .returned (.string ⟨(lower s.data.toList).toArray⟩) ∧ Below w.heap.size w w' := by
  unfold maxLen at hs
  go_enter Tryz.func98, Tryz.ntmps98
  go_wp2_with fail
  go_loopw [3, 4] (fun o i wr => ∃ (k : Nat) (X : ByteArray), k ≤ s.size ∧ i = .int .i64 (k : Int) ∧ o = .string X ∧ X.size = k ∧ X.data.toList = (s.data.toList.take k).map low ∧ Below w.heap.size w wr) (fun _ i _ => s.size - (intOf i).toNat)
  case atStart => exact ⟨0, ⟨#[]⟩, Nat.zero_le _, rfl, rfl, rfl, by simp, Below.refl _ _⟩
  case round =>
    obtain ⟨k, X, hk, rfl, rfl, hXs, hX, hb⟩ := hrel
    have HX := Lib.hid hX
    have HXs := Lib.hid hXs
    have hXb : X.size ≤ k := by omega
    have hsz := hb.size
    clear hX hXs
    by_cases hlt : k < s.size
    · have hc : s[k].toNat < 256 := s[k].toNat_lt
      obtain ⟨d, hd⟩ : ∃ d, d = low s[k] := ⟨_, rfl⟩
      obtain ⟨D, hD⟩ : ∃ D : ByteArray, D = ⟨#[d]⟩ := ⟨_, rfl⟩
      have HD := Lib.hid hD
      have HDd := Lib.hid hd
      have hDs : D.size ≤ 1 := by rw [hD]; exact Nat.le_refl 1
      by_cases h : 65 ≤ s[k].toNat ∧ s[k].toNat ≤ 90
      · have hback := run_one_back wr ((s[k].toNat : Int) + 32) d (by rw [hd]; exact (low_up h).symm)
        rw [← hD] at hback
        have h1 : (65 : Int) ≤ (s[k].toNat : Int) := by omega
        have h2 : (s[k].toNat : Int) ≤ 90 := by omega
        clear h hd hD
        go_wp2_with fail
        go_roundw
        case rel => exact ⟨k + 1, X ++ D, by omega, by go_num, rfl, by rw [HD.out, snoc_size, HXs.out], by rw [HD.out, snoc_data, HX.out, HDd.out, low_snoc s k hlt], hb.alloc hsz _⟩
        case measure => simp [intOf]; omega
      · have hback := run_one_back wr (s[k].toNat : Int) d (by rw [hd, low_id h])
        rw [← hD] at hback
        by_cases h1 : (65 : Int) ≤ (s[k].toNat : Int)
        · have h2 : ¬ (s[k].toNat : Int) ≤ 90 := by omega
          clear h hd hD
          go_wp2_with fail
          go_roundw
          case rel => exact ⟨k + 1, X ++ D, by omega, by go_num, rfl, by rw [HD.out, snoc_size, HXs.out], by rw [HD.out, snoc_data, HX.out, HDd.out, low_snoc s k hlt], hb.alloc hsz _⟩
          case measure => simp [intOf]; omega
        · clear h hd hD
          go_wp2_with fail
          go_roundw
          case rel => exact ⟨k + 1, X ++ D, by omega, by go_num, rfl, by rw [HD.out, snoc_size, HXs.out], by rw [HD.out, snoc_data, HX.out, HDd.out, low_snoc s k hlt], hb.alloc hsz _⟩
          case measure => simp [intOf]; omega
    · have HE := Lib.hid (show X = ⟨(lower s.data.toList).toArray⟩ from by
        have h1 : X.data.toList = lower s.data.toList := by
          rw [HX.out, List.take_of_length_le (by simp; have : s.data.size = s.size := rfl; omega)]; rfl
        rw [← h1])
      go_wp2_with fail
      go_ret
      exact ⟨by rw [← HE.out]; rfl, hb⟩

set_option maxHeartbeats 1000000 in
theorem refSame_any (a b : ByteArray) (w : World) (ha : a.size ≤ maxLen) (hb : b.size ≤ maxLen) :
    Calls Tryz.prog 97 #[.string a, .string b] w fun e w' => e = .returned (.bool (same a.data.toList b.data.toList)) ∧ Below w.heap.size w w' := by
  obtain ⟨X, hX⟩ : ∃ X : ByteArray, X = ⟨(lower a.data.toList).toArray⟩ := ⟨_, rfl⟩
  obtain ⟨Y, hY⟩ : ∃ Y : ByteArray, Y = ⟨(lower b.data.toList).toArray⟩ := ⟨_, rfl⟩
  have HS := Lib.hid (show (X.toList == Y.toList) = same a.data.toList b.data.toList from by
    rw [ByteArray.toList_eq, ByteArray.toList_eq, hX, hY]; unfold same; simp)
  have HX := Lib.hid hX
  have HY := Lib.hid hY
  clear hX hY
  go_enter Tryz.func97, Tryz.ntmps97
  go_wp2_with fail
  refine (refLower_any a _ ha).mono ?_
  rintro e w1 ⟨rfl, hb1⟩
  rw [← HX.out]
  go_wp2_with fail
  refine (refLower_any b _ hb).mono ?_
  rintro e w2 ⟨rfl, hb2⟩
  rw [← HY.out]
  have hB := hb1.trans (hb2.mono hb1.size)
  clear hb1 hb2
  go_wp2_with fail
  go_ret
  exact ⟨by rw [← HS.out]; rfl, hB⟩
end Go.Proofs.YtcolnidgembniaaGreatDoor.Tk
/-
  gatepostref04.Get: what it returns. Condition: fields of at most 2^20 bytes in all.
-/
namespace Go.Proofs.YtcolnidgembniaaGreatDoor.Fd
open Go.RowKit Tk
set_option linter.unusedVariables false

theorem bytes_of {X : ByteArray} {l : Bs} (h : X.data.toList = l) : X = ⟨l.toArray⟩ := by subst h; cases X; rfl
theorem size_of {X : ByteArray} {l : Bs} (h : X.data.toList = l) : X.size = l.length := by subst h; simp

set_option maxHeartbeats 4000000 in
theorem refGet_any (v : Value) (fs : List Fl) (nm : ByteArray) (w : World) (hf : Flds w v fs) (ht : tot fs ≤ 1048576) (hn : nm.size ≤ maxLen) :
    Calls Tryz.prog 55 #[v, .string nm] w fun e w' => e = .returned (getVal fs nm.data.toList) ∧ Below w.heap.size w w' := by
  rcases hf with ⟨rfl, a, cap, rfl⟩ | ⟨b, off, cap, rfl, hlt, hc⟩
  · go_enter Tryz.func55, Tryz.ntmps55
    go_wp2_with fail
    refine wp_loop_rounds 1 ?_
    rw [rounds_succ]
    go_wp2_with fail
    go_ret2
    exact ⟨rfl, Below.refl _ _⟩
  · have HC := Lib.hid hc
    have hlen := tot_len fs
    clear hc
    go_enter Tryz.func55, Tryz.ntmps55
    go_wp2_with fail
    go_loopw [6, 7, 8] (fun s m i wr => ∃ (k : Nat) (X : ByteArray), k ≤ fs.length ∧ i = .int .i64 (k : Int) ∧ m = .int .i64 (getN (fs.take k) nm.data.toList : Int) ∧ s = .string X ∧
      X.data.toList = getT (fs.take k) nm.data.toList ∧ Below w.heap.size w wr) (fun _ _ i _ => fs.length - (intOf i).toNat)
    case atStart => exact ⟨0, ⟨#[]⟩, Nat.zero_le _, rfl, rfl, rfl, rfl, Below.refl _ _⟩
    case round =>
      obtain ⟨k, X, hk, rfl, rfl, rfl, hX, hB⟩ := hrel
      have hXs := size_of hX
      have HX := Lib.hid hX
      clear hX
      have hsz := hB.size
      by_cases hlt2 : k < fs.length
      · have hx2 := tot_at fs k hlt2
        have hgl := getT_length (fs.take k) nm.data.toList
        have htk := tot_take fs k
        have hXz : X.size ≤ 2097152 := by omega
        have hS := Lib.hid (has_same nm fs[k])
        have HC1 := Lib.hid (show ∀ W : World, Below w.heap.size w W → W.cell? ⟨b, off + k * 2, none⟩ = some (.string fs[k].1) ∧ W.cell? ⟨b, off + k * 2 + 1, none⟩ = some (.string fs[k].2) from
          fun W hW => ⟨(hW.cell (p := ⟨b, off + k * 2, none⟩) hlt).trans (HC.out k hlt2).1, (hW.cell (p := ⟨b, off + k * 2 + 1, none⟩) hlt).trans (HC.out k hlt2).2⟩)
        clear hXs
        cases hh : has nm.data.toList fs[k] with
        | false =>
          have HN := Lib.hid (get_next_no fs nm.data.toList k hlt2 hh)
          have HH := Lib.hid (hS.out.trans hh)
          obtain ⟨x, hx⟩ : ∃ x, x = fs[k].1 := ⟨_, rfl⟩
          rw [← hx] at HH hx2 HC1
          have c1 := (HC1.out wr hB).1
          clear hx hh hS
          go_wp2_with fail
          refine (refSame_any x nm _ (by unfold maxLen; omega) hn).mono ?_
          rintro e w1 ⟨rfl, hb1⟩
          rw [HH.out]
          have hB1 := hB.trans (hb1.mono hsz)
          clear hb1 c1
          go_wp2_with fail
          go_roundw
          case rel => exact ⟨k + 1, X, by omega, by go_num, by rw [HN.out.2], rfl, by rw [HN.out.1]; exact HX.out, hB1⟩
          case measure => simp [intOf]; omega
        | true =>
          have HN := Lib.hid (getN_next_yes fs nm.data.toList k hlt2 hh)
          have HH := Lib.hid (hS.out.trans hh)
          have hle := getN_le (fs.take k) nm.data.toList
          have hlk : (fs.take k).length ≤ k := List.length_take_le _ _
          obtain ⟨n, hn'⟩ : ∃ n, n = getN (fs.take k) nm.data.toList := ⟨_, rfl⟩
          have hnk : n ≤ fs.length := by omega
          by_cases h0 : n = 0
          · have HT := Lib.hid (getT_next_first fs nm.data.toList k hlt2 hh (by rw [← hn', h0]))
            have HT0 := Lib.hid (show getT (fs.take k) nm.data.toList = [] from by
              have h : (sel (fs.take k) nm.data.toList).length = 0 := by show getN _ _ = 0; omega
              unfold getT; rw [List.length_eq_zero_iff.1 h]; rfl)
            have d0 : decide (0 < n) = false := by rw [decide_eq_false_iff_not]; omega
            rw [← hn'] at HN
            rw [← hn']
            obtain ⟨x, hx⟩ : ∃ x, x = fs[k].1 := ⟨_, rfl⟩
            obtain ⟨y, hy⟩ : ∃ y, y = fs[k].2 := ⟨_, rfl⟩
            rw [← hx] at HH hx2 HC1
            rw [← hy] at hx2 HT HC1
            have c1 := (HC1.out wr hB).1
            clear hx hy hh hS hn' h0 hle
            go_wp2_with fail
            refine (refSame_any x nm _ (by unfold maxLen; omega) hn).mono ?_
            rintro e w1 ⟨rfl, hb1⟩
            rw [HH.out]
            have hB1 := hB.trans (hb1.mono hsz)
            have c2 := (HC1.out w1 hB1).2
            clear hb1 c1
            go_wp2_with fail
            go_roundw
            case rel => exact ⟨k + 1, X ++ y, by omega, by go_num, by rw [HN.out]; go_num, rfl, by rw [HT.out, ByteArray.data_append, Array.toList_append, HX.out, HT0.out]; rfl, hB1⟩
            case measure => simp [intOf]; omega
          · have HT := Lib.hid (getT_next_more fs nm.data.toList k hlt2 hh (by rw [← hn']; exact h0))
            have d0 : decide (0 < n) = true := by rw [decide_eq_true_eq]; omega
            rw [← hn'] at HN
            rw [← hn']
            obtain ⟨x, hx⟩ : ∃ x, x = fs[k].1 := ⟨_, rfl⟩
            obtain ⟨y, hy⟩ : ∃ y, y = fs[k].2 := ⟨_, rfl⟩
            rw [← hx] at HH hx2 HC1
            rw [← hy] at hx2 HT HC1
            have c1 := (HC1.out wr hB).1
            clear hx hy hh hS hn' h0 hle
            go_wp2_with fail
            refine (refSame_any x nm _ (by unfold maxLen; omega) hn).mono ?_
            rintro e w1 ⟨rfl, hb1⟩
            rw [HH.out]
            have hB1 := hB.trans (hb1.mono hsz)
            have c2 := (HC1.out w1 hB1).2
            clear hb1 c1
            go_wp2_with fail
            go_roundw
            case rel => exact ⟨k + 1, X ++ ⟨#[44, 32]⟩ ++ y, by omega, by go_num, by rw [HN.out]; go_num, rfl, by rw [HT.out, ByteArray.data_append, Array.toList_append, ByteArray.data_append, Array.toList_append, HX.out], hB1⟩
            case measure => simp [intOf]; omega
      · have HE := Lib.hid (show fs.take k = fs from List.take_of_length_le (by omega))
        rw [HE.out]
        rw [HE.out] at HX
        have HV := Lib.hid (bytes_of HX.out)
        clear hXs
        go_wp2_with fail
        go_ret2
        exact ⟨by unfold getVal; rw [← HV.out]; rfl, hB⟩
end Go.Proofs.YtcolnidgembniaaGreatDoor.Fd
