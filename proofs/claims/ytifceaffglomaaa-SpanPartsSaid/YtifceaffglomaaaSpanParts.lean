/-
  SpanParts: for every list of spans, every span and every place the call returns true.
  Conditions: none.
-/
import Derived.Test.YtifceaffglomaaaRows
import Derived.Test.YtifceaffglomaaaSpGot
import Derived.Test.YtifceaffglomaaaSpOpen
import Derived.Deep.DeepCutAuto
import Derived.Deep.RegionHeld3
import Derived.WalkKit
import Derived.WalkLawsBesides
import Derived.ProofKit
import Derived.OpenShut
import Derived.ShutString
import Derived.SizedLaws
import Derived.Carry
import Derived.Below
import Derived.Outline
import Derived.Lib.Hide
namespace Go.Proofs.Ytifceaffglomaaa.spanParts
open Go.ChangeShapes Go.WideShapes Go.ChangeAt Go.RowKit
open Go.ChangeMaps (open_string shut_string)
set_option linter.unusedVariables false

theorem own : ownKnob Try.prog.godebug = none := by kernel_rfl
theorem laidOut : laidOutB Try.prog = true := by kernel_rfl

open Go.Proofs.Ytifceaffglomaaa.Fd Go.Proofs.Ytifceaffglomaaa.Sn
theorem got_law {w W : World} {bx : List (Nat × Sp)} {gs : List (Value × List Sp)} (h : Got w bx gs W) {g : Nat} {x y : Int} (hp : (g, (x, y)) ∈ bx) :
    W.cell? ⟨g, 0, none⟩ = some (.int .i64 x) ∧ W.cell? ⟨g, 1, none⟩ = some (.int .i64 y) := ⟨h.c0 hp, h.c1 hp⟩
/-- What the parts of a span are. -/
theorem parts_facts {l : List Sp} {x y : Int} (hv : validB l = true) (h0 : 0 ≤ x) (h1 : x ≤ y) (h2 : y ≤ 1048576) :
    sizeB (cutL l (x, y)) + size (gapsL l (x, y)) = y - x ∧ (0 ≤ sizeB (cutL l (x, y)) ∧ 0 ≤ size (gapsL l (x, y))) ∧ hasL l (x, y) = (((gapsL l (x, y)).length : Int) == 0) ∧ (cutL l (x, y)).length ≤ 32 ∧ (gapsL l (x, y)).length ≤ 33 ∧
    (Sn.Good (-1) (gapsL l (x, y)) ∧ ∀ s ∈ gapsL l (x, y), s.2 ≤ 1048576) ∧ (x = y → gapsL l (x, y) = [] ∧ cutL l (x, y) = []) ∧ ∀ z, x ≤ z → z < y → memB (gapsL l (x, y)) z = !memB (cutL l (x, y)) z ∧ memB (cutL l (x, y)) z = memB l z := by
  have hV := (validB_iff l).1 hv
  have hR : Right (x, y) := ⟨h0, h1, h2⟩
  have hok : okB l (x, y) = true := (okB_iff _ _).2 ⟨hV, hR⟩
  have eg : gapsL l (x, y) = gapsOf l (x, y) := by simp [gapsL, hok]
  have ec : cutL l (x, y) = cutOf l (x, y) := by simp [cutL, hok]
  have hg := gaps_set hV.good hR
  have hc := cut_set hV.good hR
  have hcl : (cutOf l (x, y)).length ≤ 32 := by unfold cutOf; rw [List.length_map]; exact Nat.le_trans (met_len l _) hV.len
  have hgl : (gapsOf l (x, y)).length ≤ 33 := by have := without_len (metL l (x, y)) y x; have := met_len l (x, y); have := hV.len; show (withoutL y x (metL l (x, y))).length ≤ 33; omega
  have hcv := hc.valid hV hR hcl
  have hsz : sizeB (cutOf l (x, y)) = size (cutOf l (x, y)) := by simp [sizeB, (validB_iff _).2 hcv]
  have hps := parts_size hV.good hV.top hR hg hc
  refine ⟨by rw [eg, ec, hsz]; exact hps, ⟨by rw [ec, hsz]; exact size_nonneg hc.good, by rw [eg]; exact size_nonneg hg.good⟩, ?_, by rw [ec]; exact hcl, by rw [eg]; exact hgl, by rw [eg]; exact ⟨hg.good, hg.top hV.good hV.top hR⟩, fun he => by rw [eg, ec]; exact parts_none hg hc he, fun z hz1 hz2 => by rw [eg, ec]; exact parts_at hg hc ⟨hz1, hz2⟩⟩
  unfold hasL
  rw [hok, Bool.true_and]
  by_cases h : (gapsL l (x, y)).length = 0
  · simp [h]
  · rw [decide_eq_false h]; symm; rw [beq_eq_false_iff_ne]; omega
set_option maxRecDepth 100000 in
set_option maxHeartbeats 16000000 in
theorem walk (v0 : Value) (l : List Sp) (x y : Int) (z : Int) (wz : (Lit.int .i64 z).wf = true) (w : World) (f0 : Spans w v0 l) (l0 : l.length ≤ 9223372036854775807) :
    Calls Try.prog 5 #[v0, .agg #[.int .i64 x, .int .i64 y], .int .i64 z] w fun e w' => e = .returned (.bool true) ∧ Below w.heap.size w w' := by
  obtain ⟨va, vc, rfl⟩ := f0.shape
  have G0 := Lib.hid (((Got.start (w := w)).add f0).new x y)
  have HL := Lib.hid l0
  clear f0 l0 wz
  go_enter Try.func5, Try.ntmps5
  go_wp2_with fail
  refine (add_any _ [] 5 6 _ (Spans.nil _) (by decide)).mono ?_
  rintro e w1 ⟨v1, rfl, h1, hb⟩
  rw [add56.2] at h1
  rw [add56.1]
  obtain ⟨a1, c1, rfl⟩ := h1.shape
  have G1 := Lib.hid (G0.out.more hb)
  clear hb h1 G0
  go_wp2_with fail
  refine (valid_any _ l _ (G1.out.sp (by simp)) HL.out).mono ?_
  rintro e w2 ⟨rfl, hb⟩
  have G := Lib.hid (G1.out.more hb)
  clear hb G1
  have b0 := G.out.c0 (g := w.heap.size) (x := x) (y := y) (by simp)
  have b1 := G.out.c1 (g := w.heap.size) (x := x) (y := y) (by simp)
  cases hv : validB l with
  | false =>
    clear hv
    go_wp2_with fail
    go_ret
    exact ⟨rfl, G.out.bel⟩
  | true =>
    have HV := Lib.hid hv
    clear hv
    by_cases h1 : 0 ≤ x
    · by_cases h2 : x ≤ y
      · by_cases h3 : y ≤ 1048576
        · obtain ⟨p1, ⟨p2, p3⟩, p4, p5, p6, p7, p8, p9⟩ := parts_facts HV.out h1 h2 h3
          have hle1 : sizeB (cutL l (x, y)) ≤ 1048576 := by omega
          have hle2 : size (gapsL l (x, y)) ≤ 1048576 := by omega
          have P1 := Lib.hid p1
          have P4 := Lib.hid p4
          have P7 := Lib.hid p7
          have P8 := Lib.hid p8
          have P9 := Lib.hid p9
          clear p4 p7 p8 p9
          go_upto_region 6 with fail
          clear b0 b1
          replace G := Lib.hid G.out.drew
          go_region_held3 (fun W => W.cell? ⟨w.heap.size, 0, none⟩ = some (.int .i64 x) ∧ W.cell? ⟨w.heap.size, 1, none⟩ = some (.int .i64 y))
            (exact got_law G.out (by simp)) (first
            | (go_at_call 19; refine (gaps_any _ l x y _ (G.out.sp (by simp)) HL.out).mono ?_; rintro e w3 ⟨v3, rfl, h3, hb⟩; obtain ⟨ga, gc, rfl⟩ := h3.shape; replace G := Lib.hid ((G.out.more hb).add h3); clear hb h3)
            | (go_at_call 21; refine (cut_any _ l x y _ (G.out.sp (by simp)) HL.out).mono ?_; rintro e w4 ⟨v4, rfl, h4, hb⟩; obtain ⟨ca, cc, rfl⟩ := h4.shape; replace G := Lib.hid ((G.out.more hb).add h4); clear hb h4))
          have hgb : (gapsL l (x, y)).length ≤ 9223372036854775807 := by omega
          have hcb : (cutL l (x, y)).length ≤ 9223372036854775807 := by omega
          go_upto_region 7 with fail
          replace G := Lib.hid G.out.drew
          go_region_held3 (fun W => W.cell? ⟨w.heap.size, 0, none⟩ = some (.int .i64 x) ∧ W.cell? ⟨w.heap.size, 1, none⟩ = some (.int .i64 y))
            (exact got_law G.out (by simp)) (first
            | (go_at_call 17; refine (size_any _ (cutL l (x, y)) _ (G.out.sp (by simp)) hcb).mono ?_; rintro e w5 ⟨rfl, hb⟩; replace G := Lib.hid (G.out.more hb); clear hb)
            | (go_at_call 23; refine (sum_any _ (gapsL l (x, y)) (-1) _ (G.out.sp (by simp)) hgb P7.out.1 (by omega) P7.out.2).mono ?_; rintro e w6 ⟨rfl, hb⟩; replace G := Lib.hid (G.out.more hb); clear hb)
            | (go_at_call 15; refine (has_any _ l x y _ (G.out.sp (by simp)) HL.out).mono ?_; rintro e w7 ⟨rfl, hb⟩; rw [P4.out]; replace G := Lib.hid (G.out.more hb); clear hb))
          have b0 := G.out.c0 (g := w.heap.size) (x := x) (y := y) (by simp)
          have b1 := G.out.c1 (g := w.heap.size) (x := x) (y := y) (by simp)
          clear p1 p2 p3 p5 p6 hle1 hle2
          by_cases hz1 : x ≤ z
          · by_cases hz2 : z < y
            · have hne : (z == y) = false := by rw [beq_eq_false_iff_ne]; omega
              obtain ⟨q1, q2⟩ := P9.out z (by omega) (by omega)
              cases hm : memB l z
              all_goals
                rw [hm] at q2
                rw [q2] at q1
                have Q1 := Lib.hid q1
                have Q2 := Lib.hid q2
                have Q3 := Lib.hid hm
                clear q1 q2 hm
                go_wp2_with fail
                refine (inside_any _ (gapsL l (x, y)) z _ (G.out.sp (by simp)) hgb).mono ?_
                rintro e w8 ⟨rfl, rfl⟩
                rw [Q1.out]
                go_wp2_with fail
                refine (inside_any _ (cutL l (x, y)) z _ (G.out.sp (by simp)) hcb).mono ?_
                rintro e w8 ⟨rfl, rfl⟩
                rw [Q2.out]
                go_wp2_with fail
                refine (inside_any _ (cutL l (x, y)) z _ (G.out.sp (by simp)) hcb).mono ?_
                rintro e w8 ⟨rfl, rfl⟩
                rw [Q2.out]
                go_wp2_with fail
                refine (inside_any _ l z _ (G.out.sp (by simp)) HL.out).mono ?_
                rintro e w8 ⟨rfl, rfl⟩
                rw [Q3.out]
                go_wp2_with fail
                go_ret
                exact ⟨rfl, G.out.bel⟩
            · rcases Int.lt_or_eq_of_le h2 with hxy | hxy
              · have hne : (x == y) = false := by rw [beq_eq_false_iff_ne]; omega
                obtain ⟨q1, q2⟩ := P9.out x (by omega) (by omega)
                cases hm : memB l x
                all_goals
                  rw [hm] at q2
                  rw [q2] at q1
                  have Q1 := Lib.hid q1
                  have Q2 := Lib.hid q2
                  have Q3 := Lib.hid hm
                  clear q1 q2 hm
                  go_wp2_with fail
                  refine (inside_any _ (gapsL l (x, y)) x _ (G.out.sp (by simp)) hgb).mono ?_
                  rintro e w8 ⟨rfl, rfl⟩
                  rw [Q1.out]
                  go_wp2_with fail
                  refine (inside_any _ (cutL l (x, y)) x _ (G.out.sp (by simp)) hcb).mono ?_
                  rintro e w8 ⟨rfl, rfl⟩
                  rw [Q2.out]
                  go_wp2_with fail
                  refine (inside_any _ (cutL l (x, y)) x _ (G.out.sp (by simp)) hcb).mono ?_
                  rintro e w8 ⟨rfl, rfl⟩
                  rw [Q2.out]
                  go_wp2_with fail
                  refine (inside_any _ l x _ (G.out.sp (by simp)) HL.out).mono ?_
                  rintro e w8 ⟨rfl, rfl⟩
                  rw [Q3.out]
                  go_wp2_with fail
                  go_ret
                  exact ⟨rfl, G.out.bel⟩
              · obtain ⟨e1, e2⟩ := P8.out hxy
                have E1 := Lib.hid (show (gapsL l (x, y)).length = 0 from by rw [e1]; rfl)
                have E2 := Lib.hid (show (cutL l (x, y)).length = 0 from by rw [e2]; rfl)
                have heq : (x == y) = true := by rw [hxy]; simp
                clear e1 e2
                rw [E1.out, E2.out]
                go_wp2_with fail
                go_ret
                exact ⟨rfl, G.out.bel⟩
          · rcases Int.lt_or_eq_of_le h2 with hxy | hxy
            · have hne : (x == y) = false := by rw [beq_eq_false_iff_ne]; omega
              obtain ⟨q1, q2⟩ := P9.out x (by omega) (by omega)
              cases hm : memB l x
              all_goals
                rw [hm] at q2
                rw [q2] at q1
                have Q1 := Lib.hid q1
                have Q2 := Lib.hid q2
                have Q3 := Lib.hid hm
                clear q1 q2 hm
                go_wp2_with fail
                refine (inside_any _ (gapsL l (x, y)) x _ (G.out.sp (by simp)) hgb).mono ?_
                rintro e w8 ⟨rfl, rfl⟩
                rw [Q1.out]
                go_wp2_with fail
                refine (inside_any _ (cutL l (x, y)) x _ (G.out.sp (by simp)) hcb).mono ?_
                rintro e w8 ⟨rfl, rfl⟩
                rw [Q2.out]
                go_wp2_with fail
                refine (inside_any _ (cutL l (x, y)) x _ (G.out.sp (by simp)) hcb).mono ?_
                rintro e w8 ⟨rfl, rfl⟩
                rw [Q2.out]
                go_wp2_with fail
                refine (inside_any _ l x _ (G.out.sp (by simp)) HL.out).mono ?_
                rintro e w8 ⟨rfl, rfl⟩
                rw [Q3.out]
                go_wp2_with fail
                go_ret
                exact ⟨rfl, G.out.bel⟩
            · obtain ⟨e1, e2⟩ := P8.out hxy
              have E1 := Lib.hid (show (gapsL l (x, y)).length = 0 from by rw [e1]; rfl)
              have E2 := Lib.hid (show (cutL l (x, y)).length = 0 from by rw [e2]; rfl)
              have heq : (x == y) = true := by rw [hxy]; simp
              clear e1 e2
              rw [E1.out, E2.out]
              go_wp2_with fail
              go_ret
              exact ⟨rfl, G.out.bel⟩
        · go_wp2_with fail
          go_ret
          exact ⟨rfl, G.out.bel⟩
      · go_wp2_with fail
        go_ret
        exact ⟨rfl, G.out.bel⟩
    · go_wp2_with fail
      go_ret
      exact ⟨rfl, G.out.bel⟩

set_option maxRecDepth 100000 in
theorem lifted (os : Os) (started : os.Started) (H : Type) (enc : TypeId × Value → H) :
    ReturnsInHanded {} Try.checked os 5 .any (Rows.spanPartsSpec.pre6 enc Try.prog Try.f5 Rows.spanPartsRow.domain false) (Rows.spanPartsSpec.post enc Try.prog Try.f5 false true false false) := by
  refine returnsInHanded_of_change_sized (C := Try.checked) own started (by kernel_rfl) Try.func5
    (ChangeSpec.witness6 (enc := enc) (C := Try.checked) false ⟨#[], #[.slice none 0 0, .agg #[.int .i64 0, .int .i64 0], .int .i64 0], []⟩ 8 (by kernel_rfl) (by kernel_rfl) (by kernel_rfl) (by kernel_rfl)) ?_
  intro W base args ds gs before hval0 hW hcnd hsz _
  have hval : ∀ (j : Nat) t v, Try.f5.params[j]? = some t → args[j]? = some v → Value.okWide Try.prog W .any base t v := hval0
  have hW' := hW
  obtain ⟨p, q, hA0, hV, rfl, hfz, hnd⟩ := hW
  have hA : DataW.TrodAll enc Try.prog W 0 (fun _ => true) true Try.f5.params.toList args.toList ds p := hA0
  rw [Try.params5] at hA hval hsz
  obtain ⟨v0, vs0, d0, ds0, p0, q0, hargs, rfl, rfl, h0, r0⟩ := trodAll_cons hA
  obtain ⟨v1, vs1, d1, ds1, p1, q1, rfl, rfl, rfl, h1, r1⟩ := trodAll_cons r0
  obtain ⟨v2, vs2, d2, ds2, p2, q2, rfl, rfl, rfl, h2, r2⟩ := trodAll_cons r1
  obtain ⟨rfl, rfl, rfl⟩ := trodAll_nil r2
  obtain rfl : args = #[v0, v1, v2] := by cases args; simp_all
  obtain ⟨rfl, rfl⟩ := trodVars_none hV
  have k0 := h0
  have lt0 : ∀ x ∈ p0, x.block < W.heap.size := by obtain ⟨m, hm⟩ := k0; exact DataW.trod_lt m _ _ _ hm
  obtain ⟨ls0, f0, l0⟩ := Sn.open_spans (hval 0 22 v0 rfl rfl) h0
  have k1 := h1
  have lt1 : ∀ x ∈ p1, x.block < W.heap.size := by obtain ⟨m, hm⟩ := k1; exact DataW.trod_lt m _ _ _ hm
  obtain ⟨⟨x1, y1⟩, rfl⟩ := Sn.open_span (hval 1 24 v1 rfl rfl) h1
  obtain ⟨a2, rfl, rfl, rfl, w2⟩ := open_int Try.underlying3 (hval 2 3 v2 rfl rfl) h2
  clear hA0 hval0
  simp only [List.append_nil] at hW'
  refine (walk v0 ls0 x1 y1 a2 w2 W f0 l0).mono fun e W' ⟨he, bel⟩ => ?_
  subst he
  exact ⟨_, rfl, _, _, _, [], _, [], hW', trodAll_mk1 (shut_bool Try.underlying4 _), (trodAll_cons_mk (Below.trod laidOut (by kernel_rfl) (of_decide_eq_true (by kernel_rfl)) k0 bel lt0) (trodAll_cons_mk (Below.trod laidOut (by kernel_rfl) (of_decide_eq_true (by kernel_rfl)) k1 bel lt1) (trodAll_cons_mk (shut_int Try.underlying3 w2) trodAll_mk0))), rfl, bel.frame _, fun h => by cases h⟩

theorem over : Rows.spanPartsRow.holds Try.pinned (OpenSpec.ofChange Rows.spanPartsSpec) :=
  OpenClaim.holds_of_wide 5 Try.f5 rfl rfl rfl rfl rfl rfl rfl ⟨rfl, rfl, rfl, rfl, rfl⟩ rfl rfl rfl rfl rfl (by kernel_rfl) Try.func5 (by kernel_rfl)
    (of_decide_eq_true (by kernel_rfl)) (by unfold Func.isWrapper; first | (rw [if_pos (by decide +kernel)]; kernel_rfl) | (rw [if_neg (by decide +kernel)]; exact ⟨rfl, rfl⟩))
    (fun os started H enc _ => lifted os started H enc)

theorem proved : Rows.SpanPartsSaid := over
end Go.Proofs.Ytifceaffglomaaa.spanParts
