/-
  TokenSplits: any text is cut into the document's elements, or has a quoted text that does not end.
  Conditions: none.
-/
import Derived.Test.YthccojahaadjoaaRows
import Derived.Test.YthccojahaadjoaaTokRefSplit
import Derived.Test.YthccojahaadjoaaTokTexts
import Derived.WalkKit
import Derived.WalkLawsBesides
import Derived.ProofKit
import Derived.OpenShut
import Derived.ShutString
import Derived.Below
import Derived.Outline
import Derived.Lib.Hide
namespace Go.Proofs.Ythccojahaadjoaa.tokenSplits
open Go.ChangeShapes Go.WideShapes Go.ChangeAt Go.RowKit
open Go.ChangeMaps (open_string shut_string)
set_option linter.unusedVariables false

theorem own : ownKnob Try.prog.godebug = none := by kernel_rfl

theorem cut_size (a : ByteArray) (n : Nat) (h : n < a.size) : (a.extract 0 n).size = n := by simp; omega
theorem below_drewN {B : Nat} {a w w' : World} {n : Nat} (h : Below B a w) (e : w' = w.drewN n) : Below B a w' := by
  subst e; exact ⟨h.os, h.tape, h.output, h.size, h.block⟩
theorem owns_kept {w w' : World} {base : Nat} {e : TypeId} {v : Value} {n : Nat} {xs : List Value} (h : w.ownsRow base e 1 v n xs) (hb : Below w.heap.size w w') : w'.ownsRow base e 1 v n xs := by
  refine ⟨h.1, ?_⟩
  rcases h.2 with h2 | ⟨g, cap, cur, hv, hg, hh, r⟩
  · exact .inl h2
  · exact .inr ⟨g, cap, cur, hv, hg, (hb.block g (lt_of_block hh)).trans hh, r⟩

set_option maxHeartbeats 2000000 in
theorem walk (a0 : ByteArray) (w0 : a0.size ≤ maxLen) (w : World) :
    Calls Try.prog 3 #[.string a0] w fun e w' => e = .returned (.bool true) ∧ Below w.heap.size w w' := by
  unfold maxLen at w0
  obtain ⟨s, hs, hsz⟩ : ∃ s : ByteArray, (s = if 3000 < a0.size then a0.extract 0 3000 else a0) ∧ s.size ≤ 3000 := by
    refine ⟨_, rfl, ?_⟩
    split
    · rw [cut_size _ _ (by assumption)]; omega
    · omega
  by_cases hlen : 3000 < a0.size
  all_goals
    first | rw [if_pos hlen] at hs | rw [if_neg hlen] at hs
    first | (have hd : decide ((3000 : Int) < (a0.size : Int)) = true := by simp; omega) | (have hd : decide ((3000 : Int) < (a0.size : Int)) = false := by simp; omega)
    have HS := Lib.hid hs
    clear hs
    go_enter Try.func3, Try.ntmps3
    go_wp2_with fail
    rw [← HS.out]
    clear HS hd hlen
    refine (Tk.split_any s _ (by omega)).mono ?_
    rintro e w1 ⟨hb1, h1⟩
    cases hsp : Tk.splitOf s.data.toList with
    | none =>
      rcases h1 with ⟨_, he1⟩ | ⟨ls, v, h, _⟩
      · rw [he1]
        clear he1
        go_wp2_with fail
        refine (Tk.refSplit_any s _ (by omega)).mono ?_
        rintro e w2 ⟨hb2, h2⟩
        rcases h2 with ⟨_, he2⟩ | ⟨ls, v, h, _⟩
        · rw [he2]
          clear he2 hsp
          have hB := hb1.trans (hb2.mono hb1.size)
          clear hb1 hb2
          go_wp2_with fail
          refine (Tk.texts_any _ _ [] [] _ (.inl ⟨rfl, _, _, rfl⟩) (.inl ⟨rfl, _, _, rfl⟩) (by simp)).mono ?_
          rintro e w3 ⟨rfl, n3, hw3⟩
          have hB3 := below_drewN hB hw3
          clear hB hw3
          go_wp2_with fail
          go_ret
          exact ⟨rfl, hB3⟩
        · rw [hsp] at h; cases h
      · rw [hsp] at h; cases h
    | some ls =>
      have hlb := Tk.split_length hsp
      have hlb2 : ls.length ≤ 3001 := by
        have : s.data.toList.length = s.size := by simp
        omega
      clear hlb
      rcases h1 with ⟨h, _⟩ | ⟨ls1, v, h, he1, ho1⟩
      · rw [hsp] at h; cases h
      · rw [he1]
        clear he1
        rw [hsp] at h
        injection h with h
        subst h
        obtain ⟨a1, c1, hv1⟩ := (Tk.Texts.of_owns ho1 rfl).shape
        rw [hv1]
        rw [hv1] at ho1
        clear hv1
        go_wp2_with fail
        refine (Tk.refSplit_any s _ (by omega)).mono ?_
        rintro e w2 ⟨hb2, h2⟩
        rcases h2 with ⟨h, _⟩ | ⟨ls2, u, h, he2, ho2⟩
        · rw [hsp] at h; cases h
        · rw [he2]
          clear he2
          rw [hsp] at h
          injection h with h
          subst h
          obtain ⟨a2, c2, hv2⟩ := (Tk.Texts.of_owns ho2 rfl).shape
          rw [hv2]
          rw [hv2] at ho2
          have hB := hb1.trans (hb2.mono hb1.size)
          have HT1 := Lib.hid (Tk.Texts.of_owns (owns_kept ho1 hb2) rfl)
          have HT2 := Lib.hid (Tk.Texts.of_owns ho2 rfl)
          clear hv2 hsp ho1 ho2 hb1 hb2
          go_wp2_with fail
          refine (Tk.texts_any _ _ ls ls _ HT1.out HT2.out (by omega)).mono ?_
          rintro e w3 ⟨rfl, n3, hw3⟩
          have hB3 := below_drewN hB hw3
          have HE := Lib.hid (show (ls == ls) = true from by simp)
          clear hB hw3 HT1 HT2
          rw [HE.out]
          go_wp2_with fail
          go_ret
          exact ⟨rfl, hB3⟩


set_option maxRecDepth 100000 in
theorem lifted (os : Os) (started : os.Started) (H : Type) (enc : TypeId × Value → H) :
    ReturnsInHanded {} Try.checked os 3 .any (Rows.tokenSplitsSpec.pre6 enc Try.prog Try.f3 Rows.tokenSplitsRow.domain false) (Rows.tokenSplitsSpec.post enc Try.prog Try.f3 false true false false) := by
  refine returnsInHanded_of_change (C := Try.checked) own started (by kernel_rfl) Try.func3
    (ChangeSpec.witness6 (enc := enc) (C := Try.checked) false ⟨#[], #[.string ByteArray.empty], []⟩ 8 (by kernel_rfl) (by kernel_rfl) (by kernel_rfl) (by kernel_rfl)) ?_
  intro W base args ds gs before hval0 hW hcnd _
  have hval : ∀ (j : Nat) t v, Try.f3.params[j]? = some t → args[j]? = some v → Value.okWide Try.prog W .any base t v := hval0
  have hW' := hW
  obtain ⟨p, q, hA0, hV, rfl, hfz, hnd⟩ := hW
  have hA : DataW.TrodAll enc Try.prog W 0 (fun _ => true) true Try.f3.params.toList args.toList ds p := hA0
  rw [Try.params3] at hA hval
  obtain ⟨v0, vs0, d0, ds0, p0, q0, hargs, rfl, rfl, h0, r0⟩ := trodAll_cons hA
  obtain ⟨rfl, rfl, rfl⟩ := trodAll_nil r0
  obtain rfl : args = #[v0] := by cases args; simp_all
  obtain ⟨rfl, rfl⟩ := trodVars_none hV
  obtain ⟨a0, rfl, rfl, rfl, w0⟩ := open_string Try.underlying9 (hval 0 9 v0 rfl rfl) h0
  clear hA0 hval0
  simp only [List.append_nil] at hW'
  refine (walk a0 w0 W).mono fun e W' ⟨he, bel⟩ => ?_
  subst he
  exact ⟨_, rfl, _, _, _, [], _, [], hW', trodAll_mk1 (shut_bool Try.underlying4 _), (trodAll_cons_mk (shut_string Try.underlying9 w0) trodAll_mk0), rfl, bel.frame _, fun h => by cases h⟩

theorem over : Rows.tokenSplitsRow.holds Try.pinned (OpenSpec.ofChange Rows.tokenSplitsSpec) :=
  OpenClaim.holds_of_wide 3 Try.f3 rfl rfl rfl rfl rfl rfl rfl ⟨rfl, rfl, rfl, rfl, rfl⟩ rfl rfl rfl rfl rfl (by kernel_rfl) Try.func3 (by kernel_rfl)
    (of_decide_eq_true (by kernel_rfl)) (by unfold Func.isWrapper; first | (rw [if_pos (by decide +kernel)]; kernel_rfl) | (rw [if_neg (by decide +kernel)]; exact ⟨rfl, rfl⟩))
    (fun os started H enc _ => lifted os started H enc)

theorem proved : Rows.TokenSplitsSaid := over
end Go.Proofs.Ythccojahaadjoaa.tokenSplits
