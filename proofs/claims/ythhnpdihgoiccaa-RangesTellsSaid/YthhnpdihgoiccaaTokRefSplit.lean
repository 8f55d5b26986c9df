/-
  gatepostref01.Split: what it returns. Condition: a text of at most 2^32 bytes.
-/
import Derived.Test.YthhnpdihgoiccaaTokSplitAll
import Derived.Test.YthhnpdihgoiccaaTokRefTrim
import Derived.Test.YthhnpdihgoiccaaTokPiece
namespace Go.Proofs.Ythhnpdihgoiccaa.Tk
open Go.RowKit

theorem get_eq (s : ByteArray) (k : Nat) (hk : k < s.size) : s.data.toList[k]'(by simpa using hk) = s[k] := rfl
theorem empty_text {T : ByteArray} {x : Bs} (h : T = ⟨x.toArray⟩) (hx : x = []) : T.toList = [] := by
  rw [ByteArray.toList_eq, h]; simpa using hx
theorem full_text {T : ByteArray} {x : Bs} (h : T = ⟨x.toArray⟩) (hx : x ≠ []) : T.toList.isEmpty = false := by
  rw [ByteArray.toList_eq, h]
  cases x with
  | nil => exact absurd rfl hx
  | cons => rfl

/-- What the loop of the reference's Split keeps. -/
def Kept (w : World) (s : ByteArray) (o ow q v : Value) (wr : World) : Prop :=
  ∃ (k : Nat) (ls : List Bs) (X : ByteArray) (qb : Bool), v = .int .i64 (k : Int) ∧ ow = .string X ∧ q = .bool qb ∧ k ≤ s.size ∧ X.size ≤ k ∧ ls.length ≤ k ∧
    wr.ownsRow w.heap.size 9 1 o ls.length (ls.map S) ∧ Below w.heap.size w wr ∧ Left s.data.toList ls qb X.data.toList k

set_option maxRecDepth 100000 in
set_option maxHeartbeats 4000000 in
theorem refSplit_any (s : ByteArray) (w : World) (hs : s.size ≤ 4294967296) :
    Calls Try.prog 17 #[.string s] w (SplitPost s.data.toList w) := by
  have HLEN := Lib.hid (len_eq s)
  obtain ⟨i0, hi, hz0, hz1, hz2⟩ := info_parts infoString
  go_enter Try.func17, Try.ntmps17
  go_wp2_with fail
  go_loopw [4, 5, 6, 7] (fun o ow q v wr => Kept w s o ow q v wr) (fun _ _ _ v _ => s.size - (intOf v).toNat)
  case atStart => exact ⟨0, [], ⟨#[]⟩, false, rfl, rfl, rfl, Nat.zero_le _, Nat.zero_le _, Nat.zero_le _, World.ownsRow_nil _ _ _ _, Below.refl _ _, Left.start _⟩
  case round =>
    obtain ⟨k, ls, X, qb, rfl, rfl, rfl, hk, hX, hls, hown, hbel, hL⟩ := hrel
    have HL := Lib.hid hL
    have hsz := hbel.size
    clear hL
    by_cases hlt : k < s.size
    · have hk' : k < s.data.toList.length := by rw [HLEN.out]; exact hlt
      have HG := Lib.hid (get_eq s k hlt)
      obtain ⟨E, hE, hEs, hEd⟩ := piece s k hlt
      have hsl := run_one s k hlt
      rw [← hE] at hsl
      have HEd := Lib.hid hEd
      have HEs := Lib.hid hEs
      have hEb : E.size ≤ 1 := by omega
      clear hE hEd hEs
      cases qb with
      | false =>
        by_cases h44 : s[k] = 44
        · have t1 := is44 h44
          have HL2 := Lib.hid (HL.out.comma hk' (HG.out.trans h44))
          obtain ⟨T, hT⟩ : ∃ T : ByteArray, T = ⟨(trim X.data.toList).toArray⟩ := ⟨_, rfl⟩
          have HT := Lib.hid hT
          by_cases hz : trim X.data.toList = []
          · have he := empty_text hT hz
            have HF := Lib.hid (show fin ls X.data.toList = ls from by unfold fin; rw [if_pos hz])
            clear hT h44 hz
            go_wp2_with (go_at_call 29; refine (refTrim_any X _ (by unfold maxLen; omega)).mono ?_; rintro e w' ⟨rfl, rfl⟩; rw [← HT.out])
            go_roundw
            case rel => exact ⟨k + 1, ls, ⟨#[]⟩, false, by go_num, rfl, rfl, by omega, Nat.zero_le _, by omega, hown, hbel, by have := HL2.out; rw [HF.out] at this; exact this⟩
            case measure => simp [intOf]; omega
          · have he := full_text hT hz
            have HF := Lib.hid (show fin ls X.data.toList = ls ++ [trim X.data.toList] from by unfold fin; rw [if_neg hz])
            clear hT h44 hz
            go_wp2_with (first | (go_at_call 29; refine (refTrim_any X _ (by unfold maxLen; omega)).mono ?_; rintro e w' ⟨rfl, rfl⟩; rw [← HT.out]) | (at_builtin; refine wpList_append_own _ rfl _ _ 42 rfl w.heap.size 9 i0 (.string ⟨#[]⟩) 1 16 Try.underlying42 hi hz0 hz1 hz2 rfl (by decide) _ _ _ rfl (hown.alloc _) ⟨wr.heap.size, 0, none⟩ 1 1 [.string T] rfl rfl ?c1 ?c2 ?c3 ?c4 ?c5 ?_))
            case c1 =>
              intro j u hj
              match j, hj with
              | 0, hj => simp at hj; subst hj; simp [Addr.add]
            case c2 => intro u hu; simp at hu; subst hu; rfl
            case c3 => unfold maxLen; omega
            case c4 => omega
            case c5 => simp; omega
            · intro v' w1 hown' hgrow _
              have hb1 := (hbel.alloc hsz _).grown hgrow (by rw [World.size_alloc]; omega) (fun j hj => (hown.lt j hj).1)
              have HO := Lib.hid hown'
              clear hown' hgrow
              go_wp2_with fail
              go_roundw
              case rel =>
                refine ⟨k + 1, ls ++ [trim X.data.toList], ⟨#[]⟩, false, by go_num, rfl, rfl, by omega, Nat.zero_le _, by simp; omega, ?_, hb1, by have := HL2.out; rw [HF.out] at this; exact this⟩
                have := HO.out
                rw [HT.out] at this
                simpa [S] using this
              case measure => simp [intOf]; omega
        · have t1 := no44 h44
          by_cases h34 : s[k] = 34
          · have t2 := is34 h34
            have HL2 := Lib.hid (HL.out.open hk' (HG.out.trans h34))
            have t3 := no92 (c := s[k]) (by rw [h34]; decide)
            have HV := Lib.hid h34
            clear h44 h34
            go_wp2_with fail
            go_roundw
            case rel => exact ⟨k + 1, ls, X ++ E, true, by go_num, rfl, rfl, by omega, by rw [ByteArray.size_append, HEs.out]; omega, by omega, hown, hbel, by rw [HEd.out, HV.out]; exact HL2.out⟩
            case measure => simp [intOf]; omega
          · have t2 := no34 h34
            have HL2 := Lib.hid (HL.out.other hk' (by rw [HG.out]; exact h44) (by rw [HG.out]; exact h34))
            clear h44 h34
            go_wp2_with fail
            go_roundw
            case rel => exact ⟨k + 1, ls, X ++ E, false, by go_num, rfl, rfl, by omega, by rw [ByteArray.size_append, HEs.out]; omega, by omega, hown, hbel, by rw [HEd.out, ← HG.out]; exact HL2.out⟩
            case measure => simp [intOf]; omega
      | true =>
        by_cases h34 : s[k] = 34
        · have t2 := is34 h34
          have HL2 := Lib.hid (HL.out.qclose hk' (HG.out.trans h34))
          have HV := Lib.hid h34
          clear h34
          go_wp2_with fail
          go_roundw
          case rel => exact ⟨k + 1, ls, X ++ E, false, by go_num, rfl, rfl, by omega, by rw [ByteArray.size_append, HEs.out]; omega, by omega, hown, hbel, by rw [HEd.out, HV.out]; exact HL2.out⟩
          case measure => simp [intOf]; omega
        · have t2 := no34 h34
          by_cases h92 : s[k] = 92
          · have t3 := is92 h92
            by_cases hk1 : k + 1 < s.size
            · have HG1 := Lib.hid (get_eq s (k + 1) hk1)
              have HL2 := Lib.hid (HL.out.qback (by rw [HLEN.out]; exact hk1) (HG.out.trans h92))
              obtain ⟨F, hF, hFs, hFd⟩ := piece s (k + 1) hk1
              have hsl2 := run_two s k hk1
              rw [← hF] at hsl2
              have HFd := Lib.hid hFd
              have HFs := Lib.hid hFs
              have hFb : F.size ≤ 1 := by omega
              have HV := Lib.hid h92
              clear hF hFd hFs h34 h92
              go_wp2_with fail
              go_roundw
              case rel => exact ⟨k + 2, ls, X ++ E ++ F, true, by go_num, rfl, rfl, by omega, by rw [ByteArray.size_append, ByteArray.size_append, HEs.out, HFs.out]; omega, by omega, hown, hbel, by rw [HFd.out, HEd.out, HV.out, ← HG1.out]; exact HL2.out⟩
              case measure => simp [intOf]; omega
            · have HL2 := Lib.hid (HL.out.qlast hk' (by rw [HLEN.out]; omega) (HG.out.trans h92))
              have HV := Lib.hid h92
              clear h34 h92
              go_wp2_with fail
              go_roundw
              case rel => exact ⟨k + 1, ls, X ++ E, true, by go_num, rfl, rfl, by omega, by rw [ByteArray.size_append, HEs.out]; omega, by omega, hown, hbel, by rw [HEd.out, HV.out]; exact HL2.out⟩
              case measure => simp [intOf]; omega
          · have t3 := no92 h92
            have HL2 := Lib.hid (HL.out.qother hk' (by rw [HG.out]; exact h34) (by rw [HG.out]; exact h92))
            clear h34 h92
            go_wp2_with fail
            go_roundw
            case rel => exact ⟨k + 1, ls, X ++ E, true, by go_num, rfl, rfl, by omega, by rw [ByteArray.size_append, HEs.out]; omega, by omega, hown, hbel, by rw [HEd.out, ← HG.out]; exact HL2.out⟩
            case measure => simp [intOf]; omega
    · obtain rfl : k = s.size := by omega
      obtain ⟨T, hT⟩ : ∃ T : ByteArray, T = ⟨(trim X.data.toList).toArray⟩ := ⟨_, rfl⟩
      have HT := Lib.hid hT
      cases qb with
      | true =>
        have HN := Lib.hid (HL.out.qstop (by rw [HLEN.out]; exact Nat.le_refl _))
        clear hT
        go_wp2_with (go_at_call 29; refine (refTrim_any X _ (by unfold maxLen; omega)).mono ?_; rintro e w' ⟨rfl, rfl⟩; rw [← HT.out])
        go_ret2
        exact ⟨hbel, .inl ⟨HN.out, rfl⟩⟩
      | false =>
        have HS := Lib.hid (HL.out.stop (by rw [HLEN.out]; exact Nat.le_refl _))
        by_cases hz : trim X.data.toList = []
        · have he := empty_text hT hz
          have HF := Lib.hid (show fin ls X.data.toList = ls from by unfold fin; rw [if_pos hz])
          clear hT hz
          go_wp2_with (go_at_call 29; refine (refTrim_any X _ (by unfold maxLen; omega)).mono ?_; rintro e w' ⟨rfl, rfl⟩; rw [← HT.out])
          go_ret2
          exact ⟨hbel, .inr ⟨ls, _, by rw [HS.out, HF.out], rfl, hown⟩⟩
        · have he := full_text hT hz
          have HF := Lib.hid (show fin ls X.data.toList = ls ++ [trim X.data.toList] from by unfold fin; rw [if_neg hz])
          clear hT hz
          go_wp2_with (first | (go_at_call 29; refine (refTrim_any X _ (by unfold maxLen; omega)).mono ?_; rintro e w' ⟨rfl, rfl⟩; rw [← HT.out]) | (at_builtin; refine wpList_append_own _ rfl _ _ 42 rfl w.heap.size 9 i0 (.string ⟨#[]⟩) 1 16 Try.underlying42 hi hz0 hz1 hz2 rfl (by decide) _ _ _ rfl (hown.alloc _) ⟨wr.heap.size, 0, none⟩ 1 1 [.string T] rfl rfl ?d1 ?d2 ?d3 ?d4 ?d5 ?_))
          case d1 =>
            intro j u hj
            match j, hj with
            | 0, hj => simp at hj; subst hj; simp [Addr.add]
          case d2 => intro u hu; simp at hu; subst hu; rfl
          case d3 => unfold maxLen; omega
          case d4 => omega
          case d5 => simp; omega
          · intro v' w1 hown' hgrow _
            have hb1 := (hbel.alloc hsz _).grown hgrow (by rw [World.size_alloc]; omega) (fun j hj => (hown.lt j hj).1)
            have HO := Lib.hid hown'
            clear hown' hgrow
            go_wp2_with fail
            go_ret2
            refine ⟨hb1, .inr ⟨ls ++ [trim X.data.toList], _, by rw [HS.out, HF.out], rfl, ?_⟩⟩
            have := HO.out
            rw [HT.out] at this
            simpa [S] using this
end Go.Proofs.Ythhnpdihgoiccaa.Tk
