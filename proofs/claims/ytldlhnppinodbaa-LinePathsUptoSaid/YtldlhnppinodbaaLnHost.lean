/-
  line.hostAndPath and line.Path: what each returns. Condition: at most 2^21 bytes.
-/
import Derived.Test.YtldlhnppinodbaaLnPathMath
import Derived.Test.YtldlhnppinodbaaLnTarget
import Derived.Test.YtldlhnppinodbaaLnShelfP
import Derived.Test.YtldlhnppinodbaaTokCloneA
import Derived.Test.YtldlhnppinodbaaTokSame
namespace Go.Proofs.Ytldlhnppinodbaa.Ln
open Go.RowKit Go.Proofs.Ytldlhnppinodbaa.Tk

/-- The answer's three values. -/
def ansVal : Option (Bs × Bs) → Value
  | none => .tuple #[.string ⟨#[]⟩, .string ⟨#[]⟩, .bool false]
  | some (p, h) => .tuple #[.string ⟨p.toArray⟩, .string ⟨h.toArray⟩, .bool true]

set_option maxHeartbeats 1000000 in
theorem prefix_any (s : ByteArray) (w : World) :
    Calls Try.prog 15 #[.string s, .string ⟨#[47]⟩] w fun e w' => e = .returned (.bool (decide (s.data.toList.head? = some 47))) ∧ w' = w :=
  (Try.strings_HasPrefix s ⟨#[47]⟩ w).mono fun e w' ⟨he, hw⟩ => ⟨by
    rw [he]
    congr 2
    cases s.data.toList with
    | nil => rfl
    | cons c r =>
      by_cases h : c = 47
      · subst h; rfl
      · have h2 : ((47 : UInt8) == c) = false := beq_eq_false_iff_ne.2 (Ne.symm h)
        simp [Lib.hasPrefix, List.isPrefixOf, h, h2], hw⟩
theorem ends_ascii : ∀ (j : Nat) b, (ByteArray.mk #[47, 63]).data.toList[j]? = some b → b.toNat < 128 := by
  intro j b h
  have := List.mem_of_getElem? h
  simp at this
  rcases this with rfl | rfl <;> decide

theorem host_none {s : ByteArray} (h : hostEnd s.data.toList = 0) : hostParts s.data.toList = none := by unfold hostParts; rw [if_pos h]
theorem host_some {s : ByteArray} {k : Nat} (hk : k = hostEnd s.data.toList) (h : k ≠ 0) : hostParts s.data.toList = some (pathOf (s.data.toList.drop k), s.data.toList.take k) := by unfold hostParts; rw [← hk, if_neg h]

theorem below_drew {B : Nat} {a w : World} (h : Below B a w) (n : Nat) : Below B a (w.drewN n) := ⟨h.os, h.tape, h.output, h.size, h.block⟩

set_option maxHeartbeats 4000000 in
theorem host_any (s : ByteArray) (w : World) (hs : s.size ≤ 2097152) (ha : ∀ c ∈ s.data.toList, c.toNat < 128) :
    Calls Try.prog 9 #[.string s] w fun e w' => e = .returned (ansVal (hostParts s.data.toList)) ∧ Below w.heap.size w w' := by
  have hle := hostEnd_le s.data.toList
  have hll : s.data.toList.length = s.size := by simp
  rw [hll] at hle
  have hix := indexAny_end s.data.toList
  rw [hll] at hix
  obtain ⟨k, hk⟩ : ∃ k, k = hostEnd s.data.toList := ⟨_, rfl⟩
  rw [← hk] at hle hix
  have HA := Lib.hid (show ∀ (j : Nat) b, s.data.toList[j]? = some b → b.toNat < 128 from fun j b h => ha b (List.mem_of_getElem? h))
  have HK := Lib.hid hk
  have HIX := Lib.hid hix
  clear ha hll hix hk
  by_cases h0 : k = 0
  · have HN := Lib.hid (host_none (by rw [← HK.out]; exact h0))
    by_cases hlt : k < s.size
    · have hi2 := HIX.out
      rw [if_pos hlt, h0] at hi2
      have HI := Lib.hid (show Lib.indexAny s.data.toList [47, 63] = 0 from hi2)
      clear hi2 h0
      go_enter Try.func9, Try.ntmps9
      go_wp2_with fail
      refine (Try.strings_IndexAny_laid s ⟨#[47, 63]⟩ _ (by omega) (by decide) HA.out ends_ascii).mono ?_
      rintro e w1 ⟨rfl, hb1⟩
      rw [show (ByteArray.mk #[47, 63]).data.toList = [47, 63] from rfl, HI.out]
      go_wp2_with fail
      exact bodyPost_ret (v := .tuple #[.string ⟨#[]⟩, .string ⟨#[]⟩, .bool false]) (by simp [results, Try.results9, go_sem]) rfl ⟨by rw [HN.out]; rfl, hb1⟩
    · have hi2 := HIX.out
      rw [if_neg hlt] at hi2
      have HI := Lib.hid hi2
      have hz : ((s.size : Int) == 0) = true := by rw [beq_iff_eq]; omega
      clear hi2 h0
      go_enter Try.func9, Try.ntmps9
      go_wp2_with fail
      refine (Try.strings_IndexAny_laid s ⟨#[47, 63]⟩ _ (by omega) (by decide) HA.out ends_ascii).mono ?_
      rintro e w1 ⟨rfl, hb1⟩
      rw [show (ByteArray.mk #[47, 63]).data.toList = [47, 63] from rfl, HI.out]
      go_wp2_with fail
      exact bodyPost_ret (v := .tuple #[.string ⟨#[]⟩, .string ⟨#[]⟩, .bool false]) (by simp [results, Try.results9, go_sem]) rfl ⟨by rw [HN.out]; rfl, hb1⟩
  · have HS := Lib.hid (host_some HK.out h0)
    obtain ⟨X, xX⟩ : ∃ X, s.extract k s.size = X := ⟨_, rfl⟩
    obtain ⟨Y, xY⟩ : ∃ Y, s.extract 0 k = Y := ⟨_, rfl⟩
    have EX := Lib.hid (show X.data.toList = s.data.toList.drop k from by rw [← xX]; exact Lib.extract_to_end _ _)
    have EY := Lib.hid (show Y.data.toList = s.data.toList.take k from by rw [← xY, Lib.extract_data]; rfl)
    have SX := Lib.hid (show X.size ≤ 2097152 from by rw [← xX]; simp; omega)
    have SY := Lib.hid (show Y.size ≤ 2097152 from by rw [← xY]; simp; omega)
    have hkz : ((k : Int) == 0) = false := by rw [beq_eq_false_iff_ne]; omega
    have hpos : 0 < k := by omega
    clear h0
    by_cases hlt : k < s.size
    · have HI := Lib.hid (show Lib.indexAny s.data.toList [47, 63] = (k : Int) from by
        have := HIX.out
        rwa [if_pos hlt] at this)
      by_cases hp : X.data.toList.head? = some 47
      · have hpd : decide (X.data.toList.head? = some 47) = true := by simpa using hp
        have HV := Lib.hid (show ansVal (hostParts s.data.toList) = .tuple #[.string X, .string Y, .bool true] from by
          rw [HS.out, ← EX.out, ← EY.out]
          unfold pathOf
          rw [if_pos hp]
          show Value.tuple #[.string ⟨X.data.toList.toArray⟩, .string ⟨Y.data.toList.toArray⟩, .bool true] = _
          rw [bytes_mk, bytes_mk])
        have HPD := Lib.hid hpd
        clear hp hpd
        go_enter Try.func9, Try.ntmps9
        go_wp2_with fail
        refine (Try.strings_IndexAny_laid s ⟨#[47, 63]⟩ _ (by omega) (by decide) HA.out ends_ascii).mono ?_
        rintro e w1 ⟨rfl, hb1⟩
        rw [show (ByteArray.mk #[47, 63]).data.toList = [47, 63] from rfl, HI.out]
        go_wp2_with fail
        go_quiet (fail)
        go_wp2_with fail
        refine (prefix_any X _).mono ?_
        rintro e w' ⟨rfl, rfl⟩
        rw [HPD.out]
        go_wp2_with fail
        refine (clone_any X _ (Nat.le_trans SX.out (by decide))).mono ?_
        rintro e w2 ⟨rfl, hb2⟩
        go_wp2_with fail
        refine (clone_any Y _ (Nat.le_trans SY.out (by decide))).mono ?_
        rintro e w3 ⟨rfl, hb3⟩
        go_wp2_with fail
        have hB := ((below_drew hb1 _).trans (hb2.mono hb1.size)).trans (hb3.mono (Nat.le_trans hb1.size hb2.size))
        exact bodyPost_ret (v := .tuple #[.string X, .string Y, .bool true]) (by simp [results, Try.results9, go_sem]) rfl ⟨by rw [HV.out], hB⟩
      · have hpd : decide (X.data.toList.head? = some 47) = false := by simpa using hp
        have HV := Lib.hid (show ansVal (hostParts s.data.toList) = .tuple #[.string (⟨#[47]⟩ ++ X), .string Y, .bool true] from by
          rw [HS.out, ← EX.out, ← EY.out]
          unfold pathOf
          rw [if_neg hp]
          show Value.tuple #[.string ⟨(47 :: X.data.toList).toArray⟩, .string ⟨Y.data.toList.toArray⟩, .bool true] = _
          rw [← slash_text X _ rfl, bytes_mk])
        have HPD := Lib.hid hpd
        have sx := SX.out
        have SZ := Lib.hid (show ((⟨#[47]⟩ : ByteArray) ++ X).size ≤ 140737488355328 from by rw [slash_size]; have := SX.out; omega)
        clear hp hpd
        go_enter Try.func9, Try.ntmps9
        go_wp2_with fail
        refine (Try.strings_IndexAny_laid s ⟨#[47, 63]⟩ _ (by omega) (by decide) HA.out ends_ascii).mono ?_
        rintro e w1 ⟨rfl, hb1⟩
        rw [show (ByteArray.mk #[47, 63]).data.toList = [47, 63] from rfl, HI.out]
        go_wp2_with fail
        go_quiet (fail)
        go_wp2_with fail
        refine (prefix_any X _).mono ?_
        rintro e w' ⟨rfl, rfl⟩
        rw [HPD.out]
        go_wp2_with fail
        refine (clone_any _ _ SZ.out).mono ?_
        rintro e w2 ⟨rfl, hb2⟩
        go_wp2_with fail
        refine (clone_any Y _ (Nat.le_trans SY.out (by decide))).mono ?_
        rintro e w3 ⟨rfl, hb3⟩
        go_wp2_with fail
        have hB := ((below_drew hb1 _).trans (hb2.mono hb1.size)).trans (hb3.mono (Nat.le_trans hb1.size hb2.size))
        exact bodyPost_ret (v := .tuple #[.string (⟨#[47]⟩ ++ X), .string Y, .bool true]) (by simp [results, Try.results9, go_sem]) rfl ⟨by rw [HV.out], hB⟩
    · obtain rfl : k = s.size := by omega
      have HI := Lib.hid (show Lib.indexAny s.data.toList [47, 63] = -1 from by
        have := HIX.out
        rwa [if_neg hlt] at this)
      have xe : X = ByteArray.empty := bytes_ext (by rw [EX.out]; simp)
      have HV := Lib.hid (show ansVal (hostParts s.data.toList) = .tuple #[.string ⟨#[47]⟩, .string Y, .bool true] from by
          rw [HS.out, ← EX.out, ← EY.out, xe]
          show Value.tuple #[.string ⟨#[47]⟩, .string ⟨Y.data.toList.toArray⟩, .bool true] = _
          rw [bytes_mk])
      clear xX EX SX xe hlt
      go_enter Try.func9, Try.ntmps9
      go_wp2_with fail
      refine (Try.strings_IndexAny_laid s ⟨#[47, 63]⟩ _ (by omega) (by decide) HA.out ends_ascii).mono ?_
      rintro e w1 ⟨rfl, hb1⟩
      rw [show (ByteArray.mk #[47, 63]).data.toList = [47, 63] from rfl, HI.out]
      go_wp2_with fail
      go_quiet (fail)
      go_wp2_with fail
      refine (prefix_any ByteArray.empty _).mono ?_
      rintro e w' ⟨rfl, rfl⟩
      rw [show decide (ByteArray.empty.data.toList.head? = some 47) = false from rfl]
      go_wp2_with fail
      refine (clone_any _ _ (by decide)).mono ?_
      rintro e w2 ⟨rfl, hb2⟩
      go_wp2_with fail
      refine (clone_any Y _ (Nat.le_trans SY.out (by decide))).mono ?_
      rintro e w3 ⟨rfl, hb3⟩
      go_wp2_with fail
      have hB := ((below_drew hb1 _).trans (hb2.mono hb1.size)).trans (hb3.mono (Nat.le_trans hb1.size hb2.size))
      exact bodyPost_ret (v := .tuple #[.string ⟨#[47]⟩, .string Y, .bool true]) (by simp [results, Try.results9, go_sem]) rfl ⟨by rw [HV.out], hB⟩
end Go.Proofs.Ytldlhnppinodbaa.Ln
