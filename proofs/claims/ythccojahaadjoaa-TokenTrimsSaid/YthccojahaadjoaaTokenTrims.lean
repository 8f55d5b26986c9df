/-
  TokenTrims: blanks about a text are taken away, and none within, for every text and both counts.
  Conditions: none.
-/
import Derived.Test.YthccojahaadjoaaRows
import Derived.Test.YthccojahaadjoaaTokTrim
import Derived.WalkKit
import Derived.WalkLawsBesides
import Derived.ProofKit
import Derived.OpenShut
import Derived.ShutString
import Derived.Below
import Derived.Outline
import Derived.Lib.Hide
namespace Go.Proofs.Ythccojahaadjoaa.tokenTrims
open Go.ChangeShapes Go.WideShapes Go.ChangeAt Go.RowKit
open Go.ChangeMaps (open_string shut_string)
set_option linter.unusedVariables false

theorem own : ownKnob Try.prog.godebug = none := by kernel_rfl

theorem and7 (a : Int) : ∃ n : Nat, n ≤ 7 ∧ bits .and .i64 a 7 = (n : Int) := by
  refine ⟨(BitVec.ofInt 64 a &&& BitVec.ofInt 64 7).toNat, ?_, ?_⟩
  · rw [BitVec.toNat_and]; exact Nat.and_le_right
  · have h : (BitVec.ofInt 64 a &&& BitVec.ofInt 64 7).toNat ≤ 7 := by rw [BitVec.toNat_and]; exact Nat.and_le_right
    show IntKind.i64.wrap ((BitVec.ofInt 64 a &&& BitVec.ofInt 64 7).toNat : Int) = _
    rw [IntKind.wrap_i64]; omega

theorem trim_front (l : Tk.Bs) : ∀ k, Tk.trim (List.replicate k 32 ++ l) = Tk.trim l
  | 0 => rfl
  | k + 1 => by rw [List.replicate_succ, List.cons_append, Tk.trim_cons_blank _ rfl]; exact trim_front l k
theorem trim_back (l : Tk.Bs) : ∀ k, Tk.trim (l ++ List.replicate k 9) = Tk.trim l
  | 0 => by simp
  | k + 1 => by rw [List.replicate_succ', ← List.append_assoc, Tk.trim_snoc_blank _ rfl]; exact trim_back l k
theorem append_toList (a b : ByteArray) : (a ++ b).data.toList = a.data.toList ++ b.data.toList := by simp

theorem pre_size (T : ByteArray) : ((⟨#[32]⟩ : ByteArray) ++ T).size = 1 + T.size := by rw [ByteArray.size_append]; rfl
theorem post_size (T : ByteArray) : (T ++ (⟨#[9]⟩ : ByteArray)).size = T.size + 1 := by rw [ByteArray.size_append]; rfl
theorem const_trim : (⟨(Tk.trim (⟨#[32, 97, 32, 98, 9]⟩ : ByteArray).data.toList).toArray⟩ : ByteArray) = ⟨#[97, 32, 98]⟩ := by decide +kernel
theorem cut_size (a : ByteArray) (n : Nat) (h : n < a.size) : (a.extract 0 n).size = n := by simp; omega
/-- What is left has no blank at its ends: as the law asks it. -/
theorem ends (X : ByteArray) (l : Tk.Bs) (hX : X.data.toList = Tk.trim l) (h0 : 0 < X.size) :
    ((X[0].toNat : Int) ≠ 32 ∧ (X[0].toNat : Int) ≠ 9) ∧ ((X[X.size - 1].toNat : Int) ≠ 32 ∧ (X[X.size - 1].toNat : Int) ≠ 9) := by
  have hlen : X.data.toList.length = X.size := by simp
  rcases Tk.trim_ends l with h | ⟨⟨c, t, h, hc⟩, i, d, h2, hd⟩
  · rw [hX, h] at hlen; simp at hlen; omega
  · refine ⟨?_, ?_⟩
    · have e : X[0] = c := by
        have e1 : X.data.toList[0]? = some c := by rw [hX, h]; rfl
        have e2 : X.data.toList[0]? = some X[0] := by rw [List.getElem?_eq_getElem (by omega)]; rfl
        rw [e2] at e1; injection e1
      rw [e]; exact Tk.blank_no hc
    · have hi : X.size - 1 = i.length := by rw [hX, h2] at hlen; simp at hlen; omega
      have e : X[X.size - 1] = d := by
        have e1 : X.data.toList[X.size - 1]? = some d := by rw [hX, h2, hi]; simp
        have e2 : X.data.toList[X.size - 1]? = some X[X.size - 1] := by rw [List.getElem?_eq_getElem (by omega)]; rfl
        rw [e2] at e1; injection e1
      rw [e]; exact Tk.blank_no hd
theorem mk_data (l : Tk.Bs) : (ByteArray.mk l.toArray).data.toList = l := by simp

set_option maxHeartbeats 4000000 in
theorem walk (a0 : ByteArray) (w0 : a0.size ≤ maxLen) (a1 : Int) (w1 : (Lit.int .i64 a1).wf = true) (a2 : Int) (w2 : (Lit.int .i64 a2).wf = true) (w : World) :
    Calls Try.prog 6 #[.string a0, .int .i64 a1, .int .i64 a2] w fun e w' => e = .returned (.bool true) ∧ Below w.heap.size w w' := by
  obtain ⟨m1, hm1, e1⟩ := and7 a1
  obtain ⟨m2, hm2, e2⟩ := and7 a2
  unfold maxLen at w0
  clear w1 w2
  obtain ⟨s, hs, hsz⟩ : ∃ s : ByteArray, (s = if 2000 < a0.size then a0.extract 0 2000 else a0) ∧ s.size ≤ 2000 := by
    refine ⟨_, rfl, ?_⟩
    split
    · rw [cut_size _ _ (by assumption)]; omega
    · omega
  by_cases hlen : 2000 < a0.size
  all_goals
    first | rw [if_pos hlen] at hs | rw [if_neg hlen] at hs
    first | (have hd : decide ((2000 : Int) < (a0.size : Int)) = true := by simp; omega) | (have hd : decide ((2000 : Int) < (a0.size : Int)) = false := by simp; omega)
    have HS := Lib.hid hs
    clear hs
    go_enter Try.func6, Try.ntmps6
    go_wp2_with fail
    rw [← HS.out]
    clear HS hd hlen
    go_loop [7, 8] (fun t i => ∃ (k : Nat) (T : ByteArray), k ≤ m1 ∧ i = .int .i64 k ∧ t = .string T ∧ T.size = k + s.size ∧ T.data.toList = List.replicate k 32 ++ s.data.toList) (fun _ i => m1 - (intOf i).toNat)
    case atStart => exact ⟨0, s, Nat.zero_le _, rfl, rfl, by omega, rfl⟩
    case round =>
      obtain ⟨k, T, hk, rfl, rfl, hTs, hT⟩ := hrel
      have HT := Lib.hid hT
      have HTs := Lib.hid hTs
      have hTb : T.size ≤ 2007 := by omega
      clear hT hTs
      by_cases hlt : k < m1
      · go_wp2
        go_round
        case rel => exact ⟨k + 1, ⟨#[32]⟩ ++ T, by omega, by go_num, rfl, by rw [pre_size, HTs.out]; omega, by rw [append_toList, HT.out, List.replicate_succ]; rfl⟩
        case measure => simp [intOf]; omega
      · go_wp2_with fail
        go_loop [7, 9] (fun t i => ∃ (j : Nat) (U : ByteArray), j ≤ m2 ∧ i = .int .i64 j ∧ t = .string U ∧ U.size = j + T.size ∧ U.data.toList = T.data.toList ++ List.replicate j 9) (fun _ i => m2 - (intOf i).toNat)
        case atStart => exact ⟨0, T, Nat.zero_le _, rfl, rfl, by omega, by simp⟩
        case round =>
          obtain ⟨j, U, hj, rfl, rfl, hUs, hU⟩ := hrel
          have HU := Lib.hid hU
          have HUs := Lib.hid hUs
          have hUb : U.size ≤ 2014 := by omega
          clear hU hUs
          by_cases hlt : j < m2
          · go_wp2
            go_round
            case rel => exact ⟨j + 1, U ++ ⟨#[9]⟩, by omega, by go_num, rfl, by rw [post_size, HUs.out]; omega, by rw [append_toList, HU.out, List.replicate_succ', List.append_assoc]⟩
            case measure => simp [intOf]; omega
          · have HX := Lib.hid (show Tk.trim U.data.toList = Tk.trim s.data.toList from by rw [HU.out, HT.out, trim_back, trim_front])
            obtain ⟨X, hX⟩ : ∃ X : ByteArray, X = ⟨(Tk.trim s.data.toList).toArray⟩ := ⟨_, rfl⟩
            have hXd : X.data.toList = Tk.trim s.data.toList := by rw [hX]
            have HXd := Lib.hid hXd
            have HXe := Lib.hid hX
            clear hX hXd HU HUs HT HTs
            go_wp2_with fail
            refine (Tk.trim_any U _ (by unfold maxLen; omega)).mono ?_
            rintro e w1 ⟨rfl, hb1⟩
            rw [HX.out, ← HXe.out]
            go_wp2_with fail
            refine (Tk.trim_any s _ (by unfold maxLen; omega)).mono ?_
            rintro e w2 ⟨rfl, hb2⟩
            rw [← HXe.out]
            have HXX := Lib.hid (show (⟨(Tk.trim X.data.toList).toArray⟩ : ByteArray) = X from by rw [HXd.out, Tk.trim_trim, HXe.out])
            have hXb : X.size ≤ 2000 := by
              have h1 := Tk.trim_length s.data.toList
              rw [← HXd.out] at h1
              have h2 : X.data.toList.length = X.size := by simp
              have h3 : s.data.toList.length = s.size := by simp
              omega
            have hXX : (!(X.toList == X.toList)) = false := by simp
            go_wp2_with fail
            refine (Tk.trim_any X _ (by unfold maxLen; omega)).mono ?_
            rintro e w3 ⟨rfl, hb3⟩
            rw [HXX.out]
            go_wp2_with fail
            refine (Tk.trim_any _ _ (by decide)).mono ?_
            rintro e w4 ⟨rfl, hb4⟩
            rw [const_trim]
            have hB := ((hb1.trans (hb2.mono hb1.size)).trans (hb3.mono (Nat.le_trans hb1.size hb2.size))).trans (hb4.mono (Nat.le_trans hb1.size (Nat.le_trans hb2.size hb3.size)))
            clear hb1 hb2 hb3 hb4
            by_cases h0 : X.size = 0
            · have he : X.toList = [] := by
                rw [ByteArray.toList_eq, ← List.length_eq_zero_iff]; simpa using h0
              clear h0 hXX
              go_wp2
              go_ret
              exact ⟨rfl, hB⟩
            · have he : X.toList.isEmpty = false := by
                rw [ByteArray.toList_eq]
                cases hl : X.data.toList with
                | nil => have h1 : X.data.toList.length = 0 := by rw [hl]; rfl
                         rw [Array.length_toList] at h1
                         have h2 : X.size = X.data.size := rfl
                         omega
                | cons => rfl
              have h1 := ends X _ HXd.out (by omega)
              have hp : 0 < X.size := by omega
              have g1 : ((X[0].toNat : Int) != 32) = true := by rw [bne_iff_ne]; exact h1.1.1
              have g2 : ((X[0].toNat : Int) != 9) = true := by rw [bne_iff_ne]; exact h1.1.2
              have g3 : ((X[X.size - 1].toNat : Int) != 32) = true := by rw [bne_iff_ne]; exact h1.2.1
              have g4 : ((X[X.size - 1].toNat : Int) != 9) = true := by rw [bne_iff_ne]; exact h1.2.2
              clear h0 h1
              go_wp2
              go_ret
              exact ⟨rfl, hB⟩


set_option maxRecDepth 100000 in
theorem lifted (os : Os) (started : os.Started) (H : Type) (enc : TypeId × Value → H) :
    ReturnsInHanded {} Try.checked os 6 .any (Rows.tokenTrimsSpec.pre6 enc Try.prog Try.f6 Rows.tokenTrimsRow.domain false) (Rows.tokenTrimsSpec.post enc Try.prog Try.f6 false true false false) := by
  refine returnsInHanded_of_change (C := Try.checked) own started (by kernel_rfl) Try.func6
    (ChangeSpec.witness6 (enc := enc) (C := Try.checked) false ⟨#[], #[.string ByteArray.empty, .int .i64 0, .int .i64 0], []⟩ 8 (by kernel_rfl) (by kernel_rfl) (by kernel_rfl) (by kernel_rfl)) ?_
  intro W base args ds gs before hval0 hW hcnd _
  have hval : ∀ (j : Nat) t v, Try.f6.params[j]? = some t → args[j]? = some v → Value.okWide Try.prog W .any base t v := hval0
  have hW' := hW
  obtain ⟨p, q, hA0, hV, rfl, hfz, hnd⟩ := hW
  have hA : DataW.TrodAll enc Try.prog W 0 (fun _ => true) true Try.f6.params.toList args.toList ds p := hA0
  rw [Try.params6] at hA hval
  obtain ⟨v0, vs0, d0, ds0, p0, q0, hargs, rfl, rfl, h0, r0⟩ := trodAll_cons hA
  obtain ⟨v1, vs1, d1, ds1, p1, q1, rfl, rfl, rfl, h1, r1⟩ := trodAll_cons r0
  obtain ⟨v2, vs2, d2, ds2, p2, q2, rfl, rfl, rfl, h2, r2⟩ := trodAll_cons r1
  obtain ⟨rfl, rfl, rfl⟩ := trodAll_nil r2
  obtain rfl : args = #[v0, v1, v2] := by cases args; simp_all
  obtain ⟨rfl, rfl⟩ := trodVars_none hV
  obtain ⟨a0, rfl, rfl, rfl, w0⟩ := open_string Try.underlying9 (hval 0 9 v0 rfl rfl) h0
  obtain ⟨a1, rfl, rfl, rfl, w1⟩ := open_int Try.underlying3 (hval 1 3 v1 rfl rfl) h1
  obtain ⟨a2, rfl, rfl, rfl, w2⟩ := open_int Try.underlying3 (hval 2 3 v2 rfl rfl) h2
  clear hA0 hval0
  simp only [List.append_nil] at hW'
  refine (walk a0 w0 a1 w1 a2 w2 W).mono fun e W' ⟨he, bel⟩ => ?_
  subst he
  exact ⟨_, rfl, _, _, _, [], _, [], hW', trodAll_mk1 (shut_bool Try.underlying4 _), (trodAll_cons_mk (shut_string Try.underlying9 w0) (trodAll_cons_mk (shut_int Try.underlying3 w1) (trodAll_cons_mk (shut_int Try.underlying3 w2) trodAll_mk0))), rfl, bel.frame _, fun h => by cases h⟩

theorem over : Rows.tokenTrimsRow.holds Try.pinned (OpenSpec.ofChange Rows.tokenTrimsSpec) :=
  OpenClaim.holds_of_wide 6 Try.f6 rfl rfl rfl rfl rfl rfl rfl ⟨rfl, rfl, rfl, rfl, rfl⟩ rfl rfl rfl rfl rfl (by kernel_rfl) Try.func6 (by kernel_rfl)
    (of_decide_eq_true (by kernel_rfl)) (by unfold Func.isWrapper; first | (rw [if_pos (by decide +kernel)]; kernel_rfl) | (rw [if_neg (by decide +kernel)]; exact ⟨rfl, rfl⟩))
    (fun os started H enc _ => lifted os started H enc)

theorem proved : Rows.TokenTrimsSaid := over
end Go.Proofs.Ythccojahaadjoaa.tokenTrims
