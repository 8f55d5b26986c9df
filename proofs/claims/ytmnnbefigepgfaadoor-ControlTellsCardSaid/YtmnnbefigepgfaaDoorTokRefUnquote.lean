/-
  gatepostref01.unquote: what it returns. Condition: a text of at most 2^47 bytes.
-/
import Derived.Test.YtmnnbefigepgfaaDoorTokUnquote
import Derived.Test.YtmnnbefigepgfaaDoorTokPiece
namespace Go.Proofs.YtmnnbefigepgfaaDoor.Tk
open Go.RowKit

/-- What a call of the reference's unquote answers; beside false its text counts for nothing. -/
def RefUnqPost (l : Bs) (w : World) (e : Ending) (w' : World) : Prop :=
  w = w' ∧ ((unq l = none ∧ ∃ X : ByteArray, e = .returned (.tuple #[.string X, .bool false])) ∨ ∃ u, unq l = some u ∧ e = .returned (.tuple #[.string ⟨u.toArray⟩, .bool true]))

set_option maxHeartbeats 4000000 in
theorem refUnquote_any (s : ByteArray) (w : World) (hs : s.size ≤ 140737488351232) :
    Calls Tryd.prog 38 #[.string s] w (RefUnqPost s.data.toList w) := by
  have hlen : s.data.toList.length = s.size := by simp
  by_cases h1 : s.size ≤ 1
  · have HN := Lib.hid (unq_short s.data.toList (by omega))
    have t1 : (s.size : Int) < 2 := by omega
    clear hlen
    go_enter Tryd.func38, Tryd.ntmps38
    go_wp2_with fail
    go_ret2
    exact ⟨rfl, .inl ⟨HN.out, _, rfl⟩⟩
  · have t1 : ¬ (s.size : Int) < 2 := by omega
    have hp : 0 < s.size := by omega
    by_cases h0 : s[0] = 34
    · have t2 := beq34 h0
      have HST := Lib.hid (Rest.start (l := s.data.toList) (by omega) h0)
      obtain ⟨n, hn⟩ : ∃ n : Nat, s.size = n + 1 := ⟨s.size - 1, by omega⟩
      have hnl : n < s.size := by omega
      have hn1 : 1 ≤ n := by omega
      have hnu : s.size ≤ n + 1 := by omega
      have hlast : (s.size : Int) - 1 = (n : Int) := by omega
      have hd1 : decide ((s.size : Int) < 2) = false := by rw [decide_eq_false_iff_not]; omega
      have HLEN := Lib.hid (show s.data.toList.length = n + 1 from by omega)
      clear h0 hlen h1 hn
      go_enter Tryd.func38, Tryd.ntmps38
      go_wp2_with fail
      go_loop [4, 5] (fun v i => ∃ (k : Nat) (X : ByteArray), 1 ≤ k ∧ k ≤ n + 1 ∧ i = .int .i64 (k : Int) ∧ v = .string X ∧ Rest s.data.toList X.data.toList k ∧ X.size ≤ k) (fun _ i => n + 1 - (intOf i).toNat)
      case atStart => exact ⟨1, ⟨#[]⟩, Nat.le_refl _, by omega, rfl, rfl, HST.out, Nat.zero_le _⟩
      case round =>
        obtain ⟨k, X, hk1, hk, rfl, rfl, hR, hal⟩ := hrel
        have HR := Lib.hid hR
        clear hR HST t2
        by_cases hlt : k < s.size
        · have hks' : k < s.data.toList.length := by rw [HLEN.out]; omega
          by_cases h34 : s[k] = 34
          · have u1 := beq34 h34
            by_cases hkn : k = n
            · subst hkn
              have HY := Lib.hid (HR.out.stop (by rw [HLEN.out]) h34)
              have v1 : ((k : Int) == (k : Int)) = true := by simp
              clear h34
              go_wp2_with fail
              go_ret2
              exact ⟨rfl, .inr ⟨X.data.toList, HY.out, by rw [show (⟨X.data.toList.toArray⟩ : ByteArray) = X from (bytes_ext' rfl).symm]; rfl⟩⟩
            · have HN := Lib.hid (HR.out.early (by rw [HLEN.out]; omega) h34)
              have v1 : ((k : Int) == (n : Int)) = false := beq_eq_false_iff_ne.2 (by omega)
              have v2 : (k == n) = false := beq_eq_false_iff_ne.2 hkn
              clear h34 hkn
              go_wp2_with fail
              go_ret2
              exact ⟨rfl, .inl ⟨HN.out, _, rfl⟩⟩
          · have u1 := bne34 h34
            by_cases h92 : s[k] = 92
            · have u2 := is92 h92
              by_cases hkn : k + 1 < s.size
              · cases ht : textByte s[k + 1] with
                | false =>
                  have HN := Lib.hid (HR.out.backno (by rw [HLEN.out]; omega) h92 ht)
                  have HT := Lib.hid ht
                  clear h34 h92 ht
                  go_wp2_with (go_at_call 54; refine (refText_any _ _).mono ?_; rintro e w' ⟨rfl, rfl⟩; rw [HT.out])
                  go_ret2
                  exact ⟨rfl, .inl ⟨HN.out, _, rfl⟩⟩
                | true =>
                  have HR2 := Lib.hid (HR.out.back (by rw [HLEN.out]; omega) h92 ht)
                  have HT := Lib.hid ht
                  obtain ⟨E, hE, hEs, hEd⟩ := piece s (k + 1) hkn
                  have hsl := run_two s k hkn
                  rw [← hE] at hsl
                  have HEd := Lib.hid hEd
                  have HEs := Lib.hid hEs
                  have hEb : E.size ≤ 1 := by omega
                  clear h34 h92 ht hE hEd hEs
                  go_wp2_with (go_at_call 54; refine (refText_any _ _).mono ?_; rintro e w' ⟨rfl, rfl⟩; rw [HT.out])
                  go_round
                  case rel => exact ⟨k + 2, X ++ E, by omega, by omega, by go_num, rfl, by rw [HEd.out]; exact HR2.out, by rw [ByteArray.size_append, HEs.out]; omega⟩
                  case measure => simp [intOf]; omega
              · have HN := Lib.hid (HR.out.back1 (by rw [HLEN.out]; omega) h92)
                clear h34 h92
                go_wp2_with fail
                go_ret2
                exact ⟨rfl, .inl ⟨HN.out, _, rfl⟩⟩
            · have u2 := no92 h92
              cases ht : textByte s[k] with
              | false =>
                have HN := Lib.hid (HR.out.otherno hks' h34 h92 ht)
                have HT := Lib.hid ht
                clear h34 h92 ht
                go_wp2_with (go_at_call 54; refine (refText_any _ _).mono ?_; rintro e w' ⟨rfl, rfl⟩; rw [HT.out])
                go_ret2
                exact ⟨rfl, .inl ⟨HN.out, _, rfl⟩⟩
              | true =>
                have HR2 := Lib.hid (HR.out.other hks' h34 h92 ht)
                have HT := Lib.hid ht
                obtain ⟨E, hE, hEs, hEd⟩ := piece s k hlt
                have hsl := run_one s k hlt
                rw [← hE] at hsl
                have HEd := Lib.hid hEd
                have HEs := Lib.hid hEs
                have hEb : E.size ≤ 1 := by omega
                clear h34 h92 ht hE hEd hEs
                go_wp2_with (go_at_call 54; refine (refText_any _ _).mono ?_; rintro e w' ⟨rfl, rfl⟩; rw [HT.out])
                go_round
                case rel => exact ⟨k + 1, X ++ E, by omega, by omega, by go_num, rfl, by rw [HEd.out]; exact HR2.out, by rw [ByteArray.size_append, HEs.out]; omega⟩
                case measure => simp [intOf]; omega
        · have HN := Lib.hid (HR.out.none (by rw [HLEN.out]; omega))
          have v1 : ((k : Int) == (n : Int)) = false := beq_eq_false_iff_ne.2 (by omega)
          have v2 : (k == n) = false := beq_eq_false_iff_ne.2 (by omega)
          go_wp2_with fail
          go_ret2
          exact ⟨rfl, .inl ⟨HN.out, _, rfl⟩⟩
    · have t2 := bne34 h0
      have HN := Lib.hid (unq_nohead s.data.toList (by omega) h0)
      clear hlen h0 h1
      go_enter Tryd.func38, Tryd.ntmps38
      go_wp2_with fail
      go_ret2
      exact ⟨rfl, .inl ⟨HN.out, _, rfl⟩⟩
end Go.Proofs.YtmnnbefigepgfaaDoor.Tk
