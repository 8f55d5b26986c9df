/-
  line.readMinor and line.readCode: what each returns. Condition: at most 1024 bytes.
-/
import Derived.Test.YtlnlihkljnkhiaaDoorLnCut
namespace Go.Proofs.YtlnlihkljnkhiaaDoor.Ln
open Go.RowKit Go.Proofs.YtlnlihkljnkhiaaDoor.Tk

theorem version0 (w : World) : Calls Tryd.prog 61 #[.int .i64 0] w fun e w' => e = .returned (.string ⟨#[72, 84, 84, 80, 47, 49, 46, 48]⟩) ∧ w' = w :=
  (version_small 0 (by omega) w).mono fun _ _ ⟨he, hw⟩ => ⟨he, hw.symm⟩
theorem version1 (w : World) : Calls Tryd.prog 61 #[.int .i64 1] w fun e w' => e = .returned (.string ⟨#[72, 84, 84, 80, 47, 49, 46, 49]⟩) ∧ w' = w :=
  (version_small 1 (by omega) w).mono fun _ _ ⟨he, hw⟩ => ⟨he, hw.symm⟩
theorem mk_is {l m : Bs} (h : l = m) : (l == m) = true := by rw [h]; simp
theorem mk_not {l m : Bs} (h : l ≠ m) : (l == m) = false := by rw [beq_eq_false_iff_ne]; exact h

def MinPost (l : Bs) (w : World) (e : Ending) (w' : World) : Prop := e = .returned (.int .i64 (minorOf l)) ∧ ∃ n, w' = w.drewN n
def MinRel (l : Bs) (w : World) (i : Value) (wr : World) : Prop :=
  ∃ z : Int, i = .int .i64 z ∧ (z = 0 ∨ (z = 1 ∧ l ≠ ver0) ∨ (z = 2 ∧ l ≠ ver0 ∧ l ≠ ver1)) ∧ ∃ n, wr = w.drewN n

theorem drew_add {w : World} {a b : Nat} {x y : World} (h1 : x = w.drewN a) (h2 : y = x.drewN b) : ∃ n, y = w.drewN n := ⟨a + b, by rw [h2, h1, World.drewN_drewN]⟩

set_option maxHeartbeats 1000000 in
theorem readMinor_any (lo : Nat) (v : Value) (l : Bs) (w : World) (h : SB lo w v l) :
    Calls Tryd.prog 42 #[v] w (MinPost l w) := by
  have HS := Lib.hid h
  clear h
  go_enter Tryd.func42, Tryd.ntmps42
  go_wp2_with fail
  go_loopw [4] (fun i wr => MinRel l w i wr) (fun i _ => (2 - intOf i).toNat)
  case atStart => exact ⟨0, rfl, .inl rfl, 0, rfl⟩
  case round =>
    obtain ⟨z, rfl, hz, n0, hw⟩ := hrel
    have hback := fun m => run_back (wr.drewN m) (show SB lo (wr.drewN m) v l from by rw [hw]; exact HS.out.drawn n0)
    have HW := Lib.hid hw
    clear hw
    rcases hz with rfl | ⟨rfl, h0⟩ | ⟨rfl, h0, h1⟩
    · by_cases h : l = [72, 84, 84, 80, 47, 49, 46, 48]
      · have t := mk_is h
        have HV := Lib.hid (show minorOf l = 0 from by unfold minorOf ver0; rw [if_pos h])
        clear h
        go_wp2_with fail
        go_quiet ((go_at_call 61; exact Calls.quiet_of_same (version0 _)))
        go_wp2_with fail
        go_ret
        exact ⟨by rw [HV.out]; rfl, drew_add HW.out rfl⟩
      · have t := mk_not h
        have HN := Lib.hid h
        clear h
        go_wp2_with fail
        go_quiet ((go_at_call 61; exact Calls.quiet_of_same (version0 _)))
        go_wp2_with fail
        go_roundw
        case rel => exact ⟨1, rfl, .inr (.inl ⟨rfl, HN.out⟩), drew_add HW.out rfl⟩
        case measure => simp [intOf]
    · by_cases h : l = [72, 84, 84, 80, 47, 49, 46, 49]
      · have t := mk_is h
        have HV := Lib.hid (show minorOf l = 1 from by unfold minorOf; rw [if_neg h0, if_pos (show l = ver1 from h)])
        clear h h0
        go_wp2_with fail
        go_quiet ((go_at_call 61; exact Calls.quiet_of_same (version1 _)))
        go_wp2_with fail
        go_ret
        exact ⟨by rw [HV.out]; rfl, drew_add HW.out rfl⟩
      · have t := mk_not h
        have HN := Lib.hid h
        have HN0 := Lib.hid h0
        clear h h0
        go_wp2_with fail
        go_quiet ((go_at_call 61; exact Calls.quiet_of_same (version1 _)))
        go_wp2_with fail
        go_roundw
        case rel => exact ⟨2, rfl, .inr (.inr ⟨rfl, HN0.out, HN.out⟩), drew_add HW.out rfl⟩
        case measure => simp [intOf]
    · have HV := Lib.hid (show minorOf l = -1 from by unfold minorOf; rw [if_neg h0, if_neg h1])
      clear h0 h1
      go_wp2_with fail
      go_ret
      exact ⟨by rw [HV.out]; rfl, _, HW.out⟩

theorem code_short {l : Bs} (h : l.length ≠ 3) : codeOf l = -1 := by
  match l with
  | [] => rfl
  | [_] => rfl
  | [_, _] => rfl
  | [_, _, _] => exact absurd rfl h
  | _ :: _ :: _ :: _ :: _ => rfl
theorem code_of {l : Bs} {most : Int} (h : l.length = 3) (hm : 999 ≤ most) : codeOf l = if (Num.numOf ⟨l.toArray⟩ most).2 = true then (Num.numOf ⟨l.toArray⟩ most).1 else -1 := by
  match l, h with
  | [a, b, c], _ =>
    have h1 : (⟨#[a, b, c]⟩ : ByteArray).size = 3 := rfl
    have h2 : (⟨#[a, b, c]⟩ : ByteArray).data.toList = [a, b, c] := rfl
    have hd : ∀ c : UInt8, Num.dg c = dgt c := fun _ => rfl
    show codeOf [a, b, c] = if (Num.numOf ⟨#[a, b, c]⟩ most).2 = true then (Num.numOf ⟨#[a, b, c]⟩ most).1 else -1
    unfold Num.numOf codeOf
    rw [h1, h2]
    cases ha : dgt a <;> cases hb : dgt b <;> cases hc : dgt c
    all_goals simp only [List.all_cons, List.all_nil, hd, ha, hb, hc]
    all_goals first | (simp; done) | skip
    have hno : ¬ (3 = 0 ∨ most < 0 ∨ (true && (true && (true && true))) = false) := by simp; omega
    rw [if_pos (show (true && true && true) = true from rfl)]
    simp only [if_neg hno, if_true]
    have e1 := Num.dg_bd (c := a) ha
    have e2 := Num.dg_bd (c := b) hb
    have e3 := Num.dg_bd (c := c) hc
    simp only [Num.num, Num.step, List.foldl_cons, List.foldl_nil]
    rw [if_neg (by omega)]
    rw [if_neg (by omega)]
    rw [if_neg (by omega)]
    omega

set_option maxHeartbeats 1000000 in
theorem readCode_any (lo : Nat) (v : Value) (l : Bs) (w : World) (hl : l.length ≤ 1024) (h : SB lo w v l) :
    Calls Tryd.prog 48 #[v] w fun e w' => e = .returned (.int .i64 (codeOf l)) ∧ w = w' := by
  have hback := run_back w h
  have HL : ∃ a cap, v = .slice a l.length cap := by
    rcases h with ⟨b, off, cap, rfl, _, _, _⟩ | ⟨rfl, rfl⟩
    · exact ⟨_, _, rfl⟩
    · exact ⟨_, _, rfl⟩
  obtain ⟨a, cap, rfl⟩ := HL
  clear h
  by_cases h3 : l.length = 3
  · have HV := Lib.hid (code_of (most := 999) h3 (by omega))
    have t : ((l.length : Int) != 3) = false := by rw [h3]; rfl
    have HS := Lib.hid (show (⟨l.toArray⟩ : ByteArray).size ≤ maxLen from by show l.toArray.size ≤ _; rw [List.size_toArray]; unfold maxLen; omega)
    obtain ⟨N, hN⟩ : ∃ N, N = Num.numOf ⟨l.toArray⟩ 999 := ⟨_, rfl⟩
    have HN := Lib.hid hN
    rw [← hN] at HV
    clear h3 hN
    obtain ⟨N1, N2⟩ := N
    cases N2 with
    | true =>
      go_enter Tryd.func48, Tryd.ntmps48
      go_wp2_with (go_at_call 62; refine (Num.number_any _ 999 _ HS.out (by omega)).mono ?_; rintro e w' ⟨rfl, rfl⟩; rw [← HN.out])
      go_ret
      exact ⟨by rw [HV.out]; rfl, rfl⟩
    | false =>
      go_enter Tryd.func48, Tryd.ntmps48
      go_wp2_with (go_at_call 62; refine (Num.number_any _ 999 _ HS.out (by omega)).mono ?_; rintro e w' ⟨rfl, rfl⟩; rw [← HN.out])
      go_ret
      exact ⟨by rw [HV.out]; rfl, rfl⟩
  · have HV := Lib.hid (code_short h3)
    have t : ((l.length : Int) != 3) = true := by rw [bne_iff_ne]; omega
    clear h3
    go_enter Tryd.func48, Tryd.ntmps48
    go_wp2_with fail
    go_ret
    exact ⟨by rw [HV.out]; rfl, rfl⟩
end Go.Proofs.YtlnlihkljnkhiaaDoor.Ln
