/-
  TokenLowers: small letters of small letters are these, and texts are alike just up to the size of letters, for every text and place.
  Conditions: none.
-/
import Derived.Test.YthccojahaadjoaaRows
import Derived.Test.YthccojahaadjoaaTokLower
import Derived.WalkKit
import Derived.WalkLawsBesides
import Derived.ProofKit
import Derived.OpenShut
import Derived.ShutString
import Derived.Below
import Derived.Outline
import Derived.Lib.Hide
namespace Go.Proofs.Ythccojahaadjoaa.tokenLowers
open Go.ChangeShapes Go.WideShapes Go.ChangeAt Go.RowKit
open Go.ChangeMaps (open_string shut_string)
set_option linter.unusedVariables false

theorem own : ownKnob Try.prog.godebug = none := by kernel_rfl

theorem xor1 (c : UInt8) : bits .xor .u8 (c.toNat : Int) 1 = ((c ^^^ 1).toNat : Int) := by
  have h : ∀ n : Nat, n < 256 → bits .xor .u8 (n : Int) 1 = (((UInt8.ofNat n) ^^^ 1).toNat : Int) := by decide +kernel
  have := h c.toNat c.toNat_lt
  rwa [UInt8.ofNat_toNat] at this
theorem low_xor (c : UInt8) : Tk.low c ≠ Tk.low (c ^^^ 1) := by
  have h : ∀ n, n < 256 → Tk.low (UInt8.ofNat n) ≠ Tk.low ((UInt8.ofNat n) ^^^ 1) := by decide +kernel
  have := h c.toNat c.toNat_lt
  rwa [UInt8.ofNat_toNat] at this
theorem below_drewN {B : Nat} {a w w' : World} {n : Nat} (h : Below B a w) (e : w' = w.drewN n) : Below B a w' := by
  subst e; exact ⟨h.os, h.tape, h.output, h.size, h.block⟩
theorem cut_size (a : ByteArray) (n : Nat) (h : n < a.size) : (a.extract 0 n).size = n := by simp; omega
theorem at_in (a : Int) (n : Nat) (h : 0 < n) : ∃ p : Nat, p < n ∧ (a.tmod (n : Int) + (n : Int)) % (n : Int) = (p : Int) ∧ -(n : Int) < a.tmod (n : Int) ∧ a.tmod (n : Int) < (n : Int) := by
  have h1 : a.tmod (n : Int) < (n : Int) := Int.tmod_lt_of_pos _ (by omega)
  have h2 : -(n : Int) < a.tmod (n : Int) := by
    have h3 : (-a).tmod (n : Int) < (n : Int) := Int.tmod_lt_of_pos _ (by omega)
    rw [Int.neg_tmod] at h3; omega
  have h3 := Int.emod_nonneg (a.tmod (n : Int) + (n : Int)) (show (n : Int) ≠ 0 by omega)
  have h4 := Int.emod_lt_of_pos (a.tmod (n : Int) + (n : Int)) (show (0 : Int) < (n : Int) by omega)
  exact ⟨((a.tmod (n : Int) + (n : Int)) % (n : Int)).toNat, by omega, by omega, h2, h1⟩
theorem same_refl_lower (s L : ByteArray) (h : L.data.toList = Tk.lower s.data.toList) : Tk.same s.data.toList L.data.toList = true ∧ Tk.same L.data.toList s.data.toList = true := by
  unfold Tk.same; rw [h, Tk.lower_lower]; simp
theorem const_same : Tk.same (⟨#[97, 90]⟩ : ByteArray).data.toList (⟨#[65, 122]⟩ : ByteArray).data.toList = true := by decide +kernel
theorem add_same (s : ByteArray) (c : UInt8) : Tk.same s.data.toList (s ++ (⟨#[c]⟩ : ByteArray)).data.toList = false :=
  Tk.same_no (by rw [ByteArray.size_append]; show s.size ≠ s.size + 1; omega)
theorem set_same (s : ByteArray) (p : Nat) (hp : p < s.size) : Tk.same s.data.toList (⟨(s.data.toList.set p (s[p] ^^^ 1)).toArray⟩ : ByteArray).data.toList = false := by
  have hs : p < (⟨(s.data.toList.set p (s[p] ^^^ 1)).toArray⟩ : ByteArray).size := by
    show p < (s.data.toList.set p (s[p] ^^^ 1)).toArray.size
    simpa using hp
  refine Tk.same_at _ _ p hp hs ?_
  have : (⟨(s.data.toList.set p (s[p] ^^^ 1)).toArray⟩ : ByteArray)[p] = s[p] ^^^ 1 := by
    show (s.data.toList.set p (s[p] ^^^ 1)).toArray[p]'_ = _
    simp
  rw [this]; exact low_xor _

set_option maxHeartbeats 4000000 in
theorem walk (a0 : ByteArray) (w0 : a0.size ≤ maxLen) (a1 : Int) (w1 : (Lit.int .i64 a1).wf = true) (w : World) :
    Calls Try.prog 5 #[.string a0, .int .i64 a1] w fun e w' => e = .returned (.bool true) ∧ Below w.heap.size w w' := by
  obtain ⟨hlo, hhi⟩ := bounds_i64 w1
  unfold maxLen at w0
  clear w1
  obtain ⟨s, hs, hsz⟩ : ∃ s : ByteArray, (s = if 3000 < a0.size then a0.extract 0 3000 else a0) ∧ s.size ≤ 3000 := by
    refine ⟨_, rfl, ?_⟩
    split
    · rw [cut_size _ _ (by assumption)]; omega
    · omega
  obtain ⟨L, hL⟩ : ∃ L : ByteArray, L = ⟨(Tk.lower s.data.toList).toArray⟩ := ⟨_, rfl⟩
  have hLd : L.data.toList = Tk.lower s.data.toList := by rw [hL]
  have hLs : L.size = s.size := by
    have h1 := congrArg List.length hLd
    rw [Tk.lower_length] at h1
    simpa using h1
  have hLL : (⟨(Tk.lower L.data.toList).toArray⟩ : ByteArray) = L := by rw [hLd, Tk.lower_lower, hL]
  have HL := Lib.hid hL
  have HLL := Lib.hid hLL
  have HSL := Lib.hid (same_refl_lower s L hLd)
  have hne : ((L.size : Int) != (s.size : Int)) = false := by rw [hLs]; simp
  have hLb : L.size ≤ 3000 := by omega
  clear hL hLL hLd hLs
  by_cases hlen : 3000 < a0.size
  all_goals
    first | rw [if_pos hlen] at hs | rw [if_neg hlen] at hs
    first | (have hd : decide ((3000 : Int) < (a0.size : Int)) = true := by simp; omega) | (have hd : decide ((3000 : Int) < (a0.size : Int)) = false := by simp; omega)
    have HS := Lib.hid hs
    clear hs
    go_enter Try.func5, Try.ntmps5
    go_wp2_with fail
    rw [← HS.out]
    clear HS hd hlen
    refine (Tk.lower_any s _ (by unfold maxLen; omega)).mono ?_
    rintro e w1 ⟨rfl, hb1⟩
    rw [← HL.out]
    go_wp2_with fail
    refine (Tk.lower_any L _ (by unfold maxLen; omega)).mono ?_
    rintro e w2 ⟨rfl, hb2⟩
    rw [HLL.out]
    have hB := hb1.trans (hb2.mono hb1.size)
    clear hb1 hb2
    have hXX : (!(L.toList == L.toList)) = false := by simp
    go_wp2_with fail
    refine (Tk.same_any s L _ (by unfold maxLen; omega)).mono ?_
    rintro e w3 ⟨rfl, n3, hw3⟩
    have hB3 := below_drewN hB hw3
    clear hB hw3
    rw [HSL.out.1]
    go_wp2_with fail
    refine (Tk.same_any L s _ (by unfold maxLen; omega)).mono ?_
    rintro e w4 ⟨rfl, n4, hw4⟩
    have hB4 := below_drewN hB3 hw4
    clear hB3 hw4
    rw [HSL.out.2]
    go_wp2_with fail
    refine (Tk.same_any _ _ _ (by decide)).mono ?_
    rintro e W ⟨rfl, n5, hw5⟩
    have hB' := below_drewN hB4 hw5
    clear hB4 hw5
    rw [const_same]
    clear hXX
    by_cases h0 : s.size = 0
    · have he : ((s.size : Int) == 0) = true := by rw [h0]; rfl
      clear h0
      go_wp2
      go_ret
      exact ⟨rfl, hB'⟩
    · have he : ((s.size : Int) == 0) = false := beq_eq_false_iff_ne.2 (by omega)
      obtain ⟨p, hp, hpe, hp1, hp2⟩ := at_in a1 s.size (by omega)
      clear h0
      have hconv := fun W : World => run_bytes_of_string (P := Try.prog) W 9 32 5 s Try.underlying9 Try.underlying32 Try.underlying5
      have hcap := grownCap_ge W s.size 0 5
      obtain ⟨d, hd⟩ : ∃ d, d = s[p] ^^^ 1 := ⟨_, rfl⟩
      have hx : bits .xor .u8 (s[p].toNat : Int) 1 = (d.toNat : Int) := by rw [hd]; exact xor1 _
      have hsz2 : (bytesRow s (grownCap W s.size 0 5)).size = grownCap W s.size 0 5 := by
        have h2 : s.data.size = s.size := rfl
        simp [bytesRow]; omega
      have hH := Tk.holds_new W s (grownCap W s.size 0 5) 5 ((bytesRow s (grownCap W s.size 0 5)).size, (bytesRow s (grownCap W s.size 0 5)).size + 1)
      have hpl : p < s.data.toList.length := by simpa using hp
      have hcell := hH.at0 p hpl
      rw [show s.data.toList[p] = s[p] from rfl] at hcell
      have hfz : (W.alloc (.cells (bytesRow s (grownCap W s.size 0 5)) 5 ((bytesRow s (grownCap W s.size 0 5)).size, (bytesRow s (grownCap W s.size 0 5)).size + 1))).frozen? ⟨W.heap.size, p, none⟩ = false := by
        rw [World.frozen?_alloc_mark, hsz2]; simp; omega
      have hH2 := hH.set p hpl d
      have hback := Tk.run_back (P := Try.prog) _ 32 9 5 W.heap.size 0 (grownCap W s.size 0 5) _ Try.underlying32 Try.underlying5 Try.underlying9 (Tk.holds_drew hH2)
      rw [List.length_set, show s.data.toList.length = s.size from by simp] at hback
      have HSS := Lib.hid (show Tk.same s.data.toList (⟨(s.data.toList.set p d).toArray⟩ : ByteArray).data.toList = false from by rw [hd]; exact set_same s p hp)
      have hB6 := ((hB'.alloc hB'.size (.cells (bytesRow s (grownCap W s.size 0 5)) 5 ((bytesRow s (grownCap W s.size 0 5)).size, (bytesRow s (grownCap W s.size 0 5)).size + 1))).setCell (p := ⟨W.heap.size, p, none⟩) hB'.size (.int .u8 (d.toNat : Int))).drew
      clear hH hH2 hd hsz2
      obtain ⟨S2, hS2⟩ : ∃ S2 : ByteArray, S2 = ⟨(s.data.toList.set p d).toArray⟩ := ⟨_, rfl⟩
      rw [← hS2] at hback
      rw [← hS2] at HSS
      clear hS2
      go_wp2_with fail
      refine (Tk.same_any s S2 _ (by unfold maxLen; omega)).mono ?_
      rintro e w7 ⟨rfl, n7, hw7⟩
      have hB7 := below_drewN hB6 hw7
      clear hB6 hw7 hback hconv hcell hfz
      rw [HSS.out]
      go_wp2_with fail
      refine (Tk.same_any s _ _ (by unfold maxLen; omega)).mono ?_
      rintro e w8 ⟨rfl, n8, hw8⟩
      have hB8 := below_drewN hB7 hw8
      clear hB7 hw8
      rw [add_same]
      go_wp2
      go_ret
      exact ⟨rfl, hB8⟩


set_option maxRecDepth 100000 in
theorem lifted (os : Os) (started : os.Started) (H : Type) (enc : TypeId × Value → H) :
    ReturnsInHanded {} Try.checked os 5 .any (Rows.tokenLowersSpec.pre6 enc Try.prog Try.f5 Rows.tokenLowersRow.domain false) (Rows.tokenLowersSpec.post enc Try.prog Try.f5 false true false false) := by
  refine returnsInHanded_of_change (C := Try.checked) own started (by kernel_rfl) Try.func5
    (ChangeSpec.witness6 (enc := enc) (C := Try.checked) false ⟨#[], #[.string ByteArray.empty, .int .i64 0], []⟩ 8 (by kernel_rfl) (by kernel_rfl) (by kernel_rfl) (by kernel_rfl)) ?_
  intro W base args ds gs before hval0 hW hcnd _
  have hval : ∀ (j : Nat) t v, Try.f5.params[j]? = some t → args[j]? = some v → Value.okWide Try.prog W .any base t v := hval0
  have hW' := hW
  obtain ⟨p, q, hA0, hV, rfl, hfz, hnd⟩ := hW
  have hA : DataW.TrodAll enc Try.prog W 0 (fun _ => true) true Try.f5.params.toList args.toList ds p := hA0
  rw [Try.params5] at hA hval
  obtain ⟨v0, vs0, d0, ds0, p0, q0, hargs, rfl, rfl, h0, r0⟩ := trodAll_cons hA
  obtain ⟨v1, vs1, d1, ds1, p1, q1, rfl, rfl, rfl, h1, r1⟩ := trodAll_cons r0
  obtain ⟨rfl, rfl, rfl⟩ := trodAll_nil r1
  obtain rfl : args = #[v0, v1] := by cases args; simp_all
  obtain ⟨rfl, rfl⟩ := trodVars_none hV
  obtain ⟨a0, rfl, rfl, rfl, w0⟩ := open_string Try.underlying9 (hval 0 9 v0 rfl rfl) h0
  obtain ⟨a1, rfl, rfl, rfl, w1⟩ := open_int Try.underlying3 (hval 1 3 v1 rfl rfl) h1
  clear hA0 hval0
  simp only [List.append_nil] at hW'
  refine (walk a0 w0 a1 w1 W).mono fun e W' ⟨he, bel⟩ => ?_
  subst he
  exact ⟨_, rfl, _, _, _, [], _, [], hW', trodAll_mk1 (shut_bool Try.underlying4 _), (trodAll_cons_mk (shut_string Try.underlying9 w0) (trodAll_cons_mk (shut_int Try.underlying3 w1) trodAll_mk0)), rfl, bel.frame _, fun h => by cases h⟩

theorem over : Rows.tokenLowersRow.holds Try.pinned (OpenSpec.ofChange Rows.tokenLowersSpec) :=
  OpenClaim.holds_of_wide 5 Try.f5 rfl rfl rfl rfl rfl rfl rfl ⟨rfl, rfl, rfl, rfl, rfl⟩ rfl rfl rfl rfl rfl (by kernel_rfl) Try.func5 (by kernel_rfl)
    (of_decide_eq_true (by kernel_rfl)) (by unfold Func.isWrapper; first | (rw [if_pos (by decide +kernel)]; kernel_rfl) | (rw [if_neg (by decide +kernel)]; exact ⟨rfl, rfl⟩))
    (fun os started H enc _ => lifted os started H enc)

theorem proved : Rows.TokenLowersSaid := over
end Go.Proofs.Ythccojahaadjoaa.tokenLowers
