/-
  SpanPlays: for every list of spans and every list of bools the call returns true.
  Conditions: none.
-/
import Derived.Test.YtifceaffglomaaaRows
import Derived.Test.YtifceaffglomaaaSpRefTop
import Derived.Test.YtifceaffglomaaaSpOpen
import Derived.Deep.DeepCutAuto
import Derived.Deep.RegionHeld3
import Derived.WalkKit
import Derived.WalkLawsBesides
import Derived.ProofKit
import Derived.OpenShut
import Derived.ShutString
import Derived.SizedLaws
import Derived.Carry
import Derived.Below
import Derived.Outline
import Derived.Lib.Hide
namespace Go.Proofs.Ytifceaffglomaaa.spanPlays
open Go.ChangeShapes Go.WideShapes Go.ChangeAt Go.RowKit
open Go.ChangeMaps (open_string shut_string)
set_option linter.unusedVariables false

theorem own : ownKnob Try.prog.godebug = none := by kernel_rfl
theorem laidOut : laidOutB Try.prog = true := by kernel_rfl

open Go.Proofs.Ytifceaffglomaaa.Fd Go.Proofs.Ytifceaffglomaaa.Sn
set_option maxRecDepth 100000 in
set_option maxHeartbeats 16000000 in
theorem walk (v0 : Value) (m : List Sp) (v1 : Value) (d : List Bool) (w : World) (f0 : Spans w v0 m) (l0 : m.length ≤ 9223372036854775807) (f1 : Bools w v1 d) (l1 : d.length ≤ 9223372036854775807) :
    Calls Try.prog 4 #[v0, v1] w fun e w' => e = .returned (.bool true) ∧ Below w.heap.size w w' := by
  obtain ⟨a, c, rfl⟩ := f0.shape
  have hsh : ∃ a c, v1 = .slice a d.length c := by
    rcases f1 with ⟨rfl, a, c, h⟩ | ⟨b, off, c, h, _⟩
    · exact ⟨a, c, h⟩
    · exact ⟨_, c, h⟩
  obtain ⟨a1, c1, rfl⟩ := hsh
  have HRD := Lib.hid (show ∀ k (hk : k < m.length), ∃ b off, a = some ⟨b, off, none⟩ ∧ ∀ W, Below w.heap.size w W → W.cell? ⟨b, off + k * 2, none⟩ = some (.int .i64 m[k].1) ∧ W.cell? ⟨b, off + k * 2 + 1, none⟩ = some (.int .i64 m[k].2) from by
    intro k hk
    rcases f0 with ⟨rfl, _⟩ | ⟨b, off, cap, hv, _, _, hlt, hs⟩
    · simp at hk
    · injection hv with e1 e2 e3
      exact ⟨b, off, e1, fun W hW => ⟨(hW.cell (p := ⟨b, off + k * 2, none⟩) hlt).trans (hs k hk).1, (hW.cell (p := ⟨b, off + k * 2 + 1, none⟩) hlt).trans (hs k hk).2⟩⟩)
  have HRB := Lib.hid (show ∀ k (hk : k < d.length), ∃ b off, a1 = some ⟨b, off, none⟩ ∧ ∀ W, Below w.heap.size w W → W.cell? ⟨b, off + k, none⟩ = some (.bool d[k]) from by
    intro k hk
    rcases f1 with ⟨rfl, _⟩ | ⟨b, off, cap, hv, hlt, hs⟩
    · simp at hk
    · injection hv with e1 e2 e3
      exact ⟨b, off, e1, fun W hW => (hW.cell (p := ⟨b, off + k, none⟩) hlt).trans (hs k hk)⟩)
  clear f0 f1
  have h1s := Lib.hid (show ∀ (W : World) (v : Value) {L : List Sp}, Spans W v L → ∃ a c, v = .slice a L.length c from fun W v L h => h.shape)
  go_enter Try.func4, Try.ntmps4
  go_wp2_with fail
  go_loopw [5, 6, 7] (fun s t i wr => ∃ (k : Nat) (X : List Sp), k ≤ m.length ∧ k ≤ 100 ∧ i = .int .i64 (k : Int) ∧ Spans wr s X ∧ Spans wr t X ∧ X.length ≤ 32 ∧ Below w.heap.size w wr) (fun _ _ i _ => m.length - (intOf i).toNat)
  case atStart => exact ⟨0, [], Nat.zero_le _, Nat.zero_le _, rfl, Spans.nil _, Spans.nil _, Nat.zero_le _, Below.refl _ _⟩
  case round =>
    obtain ⟨k, X, hk, hk100, rfl, hx, hy, hX, hB⟩ := hrel
    have HX := Lib.hid hx
    have HY := Lib.hid hy
    obtain ⟨xa, xc, rfl⟩ := hx.shape
    obtain ⟨ya, yc, rfl⟩ := hy.shape
    have hXl : X.length ≤ 9223372036854775807 := by omega
    clear hx hy
    have HEND := Lib.hid (((Got.start (w := wr)).lit 0 9))
    have hbl := (Below.refl wr.heap.size wr).alloc (Nat.le_refl _) (.cells #[.int .i64 0, .int .i64 9] 24)
    have HBL := Lib.hid (Bl.next hB hbl)
    clear hbl
    by_cases hlt2 : k < m.length
    · by_cases hlt3 : k < 100
      · obtain ⟨b, off, rfl, hc⟩ := HRD.out k hlt2
        obtain ⟨p, hp⟩ : ∃ p, p = m[k].1 := ⟨_, rfl⟩
        obtain ⟨q, hq⟩ : ∃ q, q = m[k].2 := ⟨_, rfl⟩
        have HC := Lib.hid (show ∀ W, Below w.heap.size w W → W.cell? ⟨b, off + k * 2, none⟩ = some (.int .i64 p) ∧ W.cell? ⟨b, off + k * 2 + 1, none⟩ = some (.int .i64 q) from by rw [hp, hq]; exact hc)
        clear hp hq hc HEND HBL
        go_upto_region 7 with fail
        go_cut [31] (fun s31 wx => (∃ z : Bool, s31 = .bool z) ∧ wr = wx)
        case first =>
          by_cases hlt4 : k < d.length
          · obtain ⟨b', off', rfl, hcb⟩ := HRB.out k hlt4
            have e0 := hcb wr hB
            go_wp2_with fail
            go_meet
            exact ⟨⟨_, rfl⟩, rfl⟩
          · go_wp2_with fail
            go_meet
            exact ⟨⟨false, rfl⟩, rfl⟩
        case rest =>
          obtain ⟨⟨z, rfl⟩, rfl⟩ := hcut
          obtain ⟨c0, c1'⟩ := HC.out wr hB
          cases z
          · go_wp2_with fail
            refine (remove_any _ X p q _ HX.out hXl).mono ?_
            rintro e w1 ⟨r1, rfl, h1, hb1⟩
            obtain ⟨E, hE⟩ : ∃ n, n = errOf (okB X (p, q)) (remOf X (p, q)) := ⟨_, rfl⟩
            obtain ⟨T, hT⟩ : ∃ T, T = tellOf (okB X (p, q)) (remOf X (p, q)) := ⟨_, rfl⟩
            have hTl : T.length ≤ 32 := by rw [hT]; exact tell_len _ _
            rw [← hE]
            rw [← hT] at h1
            have HE := Lib.hid hE
            have HT := Lib.hid hT
            have H1 := Lib.hid h1
            have HY1 := Lib.hid (HY.out.next hb1)
            have hB1 := Bl.next hB hb1
            obtain ⟨c0, c1'⟩ := HC.out w1 hB1
            clear hE hT h1 hb1
            go_wp2_with fail
            refine (rremove_any _ X p q _ HY1.out hXl).mono ?_
            rintro e w2 ⟨r2, rfl, h2, hb2⟩
            rw [← HE.out]
            rw [← HT.out] at h2
            have H1b := Lib.hid (H1.out.next hb2)
            have H2 := Lib.hid h2
            have hB2 := Bl.next hB1 hb2
            have heq : (E == E) = true := by simp
            have hTm : T.length ≤ 9223372036854775807 := by omega
            obtain ⟨ra, rc, hr1⟩ := h1s.out _ _ H1b.out
            obtain ⟨sa, sc, hr2⟩ := h1s.out _ _ H2.out
            subst hr1 hr2
            clear h2 hb2 c0 c1' HE HT HX HY HY1 H1
            go_wp2_with fail
            refine (rsame_any _ _ T T _ H1b.out H2.out hTm hTm).mono ?_
            rintro e w3 ⟨rfl, hb3⟩
            rw [decide_eq_true rfl]
            have H1c := Lib.hid (H1b.out.next hb3)
            have H2c := Lib.hid (H2.out.next hb3)
            have hB3 := Bl.next hB2 hb3
            clear hb3 H1b H2
            go_wp2_with fail
            refine (size_any _ T _ H1c.out hTm).mono ?_
            rintro e w4 ⟨rfl, hb4⟩
            have H1d := Lib.hid (H1c.out.next hb4)
            have H2d := Lib.hid (H2c.out.next hb4)
            have hB4 := Bl.next hB3 hb4
            clear hb4 H1c H2c
            go_wp2_with fail
            refine (rsize_any _ T _ H2d.out hTm).mono ?_
            rintro e w5 ⟨rfl, hb5⟩
            have H1e := Lib.hid (H1d.out.next hb5)
            have H2e := Lib.hid (H2d.out.next hb5)
            have hB5 := Bl.next hB4 hb5
            clear hb5 H1d H2d
            go_wp2_with fail
            go_roundw
            case rel => exact ⟨k + 1, T, by omega, by omega, by go_num, H1e.out, H2e.out, hTl, hB5⟩
            case measure => simp [intOf]; omega
          · go_wp2_with fail
            refine (add_any _ X p q _ HX.out hXl).mono ?_
            rintro e w1 ⟨r1, rfl, h1, hb1⟩
            obtain ⟨E, hE⟩ : ∃ n, n = errOf (okB X (p, q)) (addOf X (p, q)) := ⟨_, rfl⟩
            obtain ⟨T, hT⟩ : ∃ T, T = tellOf (okB X (p, q)) (addOf X (p, q)) := ⟨_, rfl⟩
            have hTl : T.length ≤ 32 := by rw [hT]; exact tell_len _ _
            rw [← hE]
            rw [← hT] at h1
            have HE := Lib.hid hE
            have HT := Lib.hid hT
            have H1 := Lib.hid h1
            have HY1 := Lib.hid (HY.out.next hb1)
            have hB1 := Bl.next hB hb1
            obtain ⟨c0, c1'⟩ := HC.out w1 hB1
            clear hE hT h1 hb1
            go_wp2_with fail
            refine (radd_any _ X p q _ HY1.out hXl).mono ?_
            rintro e w2 ⟨r2, rfl, h2, hb2⟩
            rw [← HE.out]
            rw [← HT.out] at h2
            have H1b := Lib.hid (H1.out.next hb2)
            have H2 := Lib.hid h2
            have hB2 := Bl.next hB1 hb2
            have heq : (E == E) = true := by simp
            have hTm : T.length ≤ 9223372036854775807 := by omega
            obtain ⟨ra, rc, hr1⟩ := h1s.out _ _ H1b.out
            obtain ⟨sa, sc, hr2⟩ := h1s.out _ _ H2.out
            subst hr1 hr2
            clear h2 hb2 c0 c1' HE HT HX HY HY1 H1
            go_wp2_with fail
            refine (rsame_any _ _ T T _ H1b.out H2.out hTm hTm).mono ?_
            rintro e w3 ⟨rfl, hb3⟩
            rw [decide_eq_true rfl]
            have H1c := Lib.hid (H1b.out.next hb3)
            have H2c := Lib.hid (H2.out.next hb3)
            have hB3 := Bl.next hB2 hb3
            clear hb3 H1b H2
            go_wp2_with fail
            refine (size_any _ T _ H1c.out hTm).mono ?_
            rintro e w4 ⟨rfl, hb4⟩
            have H1d := Lib.hid (H1c.out.next hb4)
            have H2d := Lib.hid (H2c.out.next hb4)
            have hB4 := Bl.next hB3 hb4
            clear hb4 H1c H2c
            go_wp2_with fail
            refine (rsize_any _ T _ H2d.out hTm).mono ?_
            rintro e w5 ⟨rfl, hb5⟩
            have H1e := Lib.hid (H1d.out.next hb5)
            have H2e := Lib.hid (H2d.out.next hb5)
            have hB5 := Bl.next hB4 hb5
            clear hb5 H1d H2d
            go_wp2_with fail
            go_roundw
            case rel => exact ⟨k + 1, T, by omega, by omega, by go_num, H1e.out, H2e.out, hTl, hB5⟩
            case measure => simp [intOf]; omega
      · go_wp2_with fail
        refine (remove_any _ [(0, 9)] 3 4 _ (HEND.out.sp (by simp)) (by decide)).mono ?_
        rintro e w6 ⟨v6, rfl, h6, hb⟩
        rw [rem09.2] at h6
        rw [rem09.1]
        obtain ⟨a6, c6, rfl⟩ := h6.shape
        have hBf := Bl.next HBL.out hb
        clear h6 hb
        go_wp2_with fail
        go_ret
        exact ⟨rfl, hBf⟩
    · go_wp2_with fail
      refine (remove_any _ [(0, 9)] 3 4 _ (HEND.out.sp (by simp)) (by decide)).mono ?_
      rintro e w6 ⟨v6, rfl, h6, hb⟩
      rw [rem09.2] at h6
      rw [rem09.1]
      obtain ⟨a6, c6, rfl⟩ := h6.shape
      have hBf := Bl.next HBL.out hb
      clear h6 hb
      go_wp2_with fail
      go_ret
      exact ⟨rfl, hBf⟩

set_option maxRecDepth 100000 in
theorem lifted (os : Os) (started : os.Started) (H : Type) (enc : TypeId × Value → H) :
    ReturnsInHanded {} Try.checked os 4 .any (Rows.spanPlaysSpec.pre6 enc Try.prog Try.f4 Rows.spanPlaysRow.domain false) (Rows.spanPlaysSpec.post enc Try.prog Try.f4 false true false false) := by
  refine returnsInHanded_of_change_sized (C := Try.checked) own started (by kernel_rfl) Try.func4
    (ChangeSpec.witness6 (enc := enc) (C := Try.checked) false ⟨#[], #[.slice none 0 0, .slice none 0 0], []⟩ 8 (by kernel_rfl) (by kernel_rfl) (by kernel_rfl) (by kernel_rfl)) ?_
  intro W base args ds gs before hval0 hW hcnd hsz _
  have hval : ∀ (j : Nat) t v, Try.f4.params[j]? = some t → args[j]? = some v → Value.okWide Try.prog W .any base t v := hval0
  have hW' := hW
  obtain ⟨p, q, hA0, hV, rfl, hfz, hnd⟩ := hW
  have hA : DataW.TrodAll enc Try.prog W 0 (fun _ => true) true Try.f4.params.toList args.toList ds p := hA0
  rw [Try.params4] at hA hval hsz
  obtain ⟨v0, vs0, d0, ds0, p0, q0, hargs, rfl, rfl, h0, r0⟩ := trodAll_cons hA
  obtain ⟨v1, vs1, d1, ds1, p1, q1, rfl, rfl, rfl, h1, r1⟩ := trodAll_cons r0
  obtain ⟨rfl, rfl, rfl⟩ := trodAll_nil r1
  obtain rfl : args = #[v0, v1] := by cases args; simp_all
  obtain ⟨rfl, rfl⟩ := trodVars_none hV
  have k0 := h0
  have lt0 : ∀ x ∈ p0, x.block < W.heap.size := by obtain ⟨m, hm⟩ := k0; exact DataW.trod_lt m _ _ _ hm
  obtain ⟨ls0, f0, l0⟩ := Sn.open_spans (hval 0 22 v0 rfl rfl) h0
  have k1 := h1
  have lt1 : ∀ x ∈ p1, x.block < W.heap.size := by obtain ⟨m, hm⟩ := k1; exact DataW.trod_lt m _ _ _ hm
  obtain ⟨ls1, f1, l1⟩ := Sn.open_bools (hval 1 35 v1 rfl rfl) h1
  clear hA0 hval0
  simp only [List.append_nil] at hW'
  refine (walk v0 ls0 v1 ls1 W f0 l0 f1 l1).mono fun e W' ⟨he, bel⟩ => ?_
  subst he
  exact ⟨_, rfl, _, _, _, [], _, [], hW', trodAll_mk1 (shut_bool Try.underlying4 _), (trodAll_cons_mk (Below.trod laidOut (by kernel_rfl) (of_decide_eq_true (by kernel_rfl)) k0 bel lt0) (trodAll_cons_mk (Below.trod laidOut (by kernel_rfl) (of_decide_eq_true (by kernel_rfl)) k1 bel lt1) trodAll_mk0)), rfl, bel.frame _, fun h => by cases h⟩

theorem over : Rows.spanPlaysRow.holds Try.pinned (OpenSpec.ofChange Rows.spanPlaysSpec) :=
  OpenClaim.holds_of_wide 4 Try.f4 rfl rfl rfl rfl rfl rfl rfl ⟨rfl, rfl, rfl, rfl, rfl⟩ rfl rfl rfl rfl rfl (by kernel_rfl) Try.func4 (by kernel_rfl)
    (of_decide_eq_true (by kernel_rfl)) (by unfold Func.isWrapper; first | (rw [if_pos (by decide +kernel)]; kernel_rfl) | (rw [if_neg (by decide +kernel)]; exact ⟨rfl, rfl⟩))
    (fun os started H enc _ => lifted os started H enc)

theorem proved : Rows.SpanPlaysSaid := over
end Go.Proofs.Ytifceaffglomaaa.spanPlays
