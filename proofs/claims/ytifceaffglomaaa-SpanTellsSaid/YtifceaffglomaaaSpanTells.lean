/-
  SpanTells: for every list of spans and every span the call returns true.
  Conditions: none.
-/
import Derived.Test.YtifceaffglomaaaRows
import Derived.Test.YtifceaffglomaaaSpRefTop
import Derived.Test.YtifceaffglomaaaSpOpen
import Derived.Deep.DeepCutAuto
import Derived.Deep.RegionHeld3
import Derived.WalkKit
import Derived.WalkLawsBesides
import Derived.ProofKit
import Derived.OpenShut
import Derived.ShutString
import Derived.SizedLaws
import Derived.Carry
import Derived.Below
import Derived.Outline
import Derived.Lib.Hide
namespace Go.Proofs.Ytifceaffglomaaa.spanTells
open Go.ChangeShapes Go.WideShapes Go.ChangeAt Go.RowKit
open Go.ChangeMaps (open_string shut_string)
set_option linter.unusedVariables false

theorem own : ownKnob Try.prog.godebug = none := by kernel_rfl
theorem laidOut : laidOutB Try.prog = true := by kernel_rfl

open Go.Proofs.Ytifceaffglomaaa.Fd Go.Proofs.Ytifceaffglomaaa.Sn
theorem got_law {w W : World} {bx : List (Nat × Sp)} {gs : List (Value × List Sp)} (h : Got w bx gs W) {g : Nat} {x y : Int} (hp : (g, (x, y)) ∈ bx) :
    W.cell? ⟨g, 0, none⟩ = some (.int .i64 x) ∧ W.cell? ⟨g, 1, none⟩ = some (.int .i64 y) := ⟨h.c0 hp, h.c1 hp⟩
theorem gaps_few (l : List Sp) (s : Sp) : (gapsL l s).length ≤ 33 := by
  unfold gapsL
  split
  · rename_i h
    have h1 := ((okB_iff _ _).1 h).1.len
    have := without_len (metL l s) s.2 s.1
    have := met_len l s
    show (withoutL s.2 s.1 (metL l s)).length ≤ 33
    omega
  · simp
theorem cut_few (l : List Sp) (s : Sp) : (cutL l s).length ≤ 32 := by
  unfold cutL
  split
  · rename_i h
    have h1 := ((okB_iff _ _).1 h).1.len
    have := met_len l s
    unfold cutOf
    rw [List.length_map]
    omega
  · simp
set_option maxRecDepth 100000 in
set_option maxHeartbeats 16000000 in
theorem walk (v0 : Value) (l : List Sp) (x y : Int) (w : World) (f0 : Spans w v0 l) (l0 : l.length ≤ 9223372036854775807) :
    Calls Try.prog 3 #[v0, .agg #[.int .i64 x, .int .i64 y]] w fun e w' => e = .returned (.bool true) ∧ Below w.heap.size w w' := by
  obtain ⟨va, vc, rfl⟩ := f0.shape
  have G0 := Lib.hid (((Got.start (w := w)).add f0).new x y)
  have HL := Lib.hid l0
  clear f0 l0
  go_enter Try.func3, Try.ntmps3
  by_cases h60 : 60 < l.length
  · go_wp2_with fail
    go_ret
    exact ⟨rfl, G0.out.bel⟩
  · go_wp2_with fail
    refine (add_any (.slice va l.length vc) l x y _ (G0.out.sp (by simp)) HL.out).mono ?_
    rintro e w1 ⟨v1, rfl, h1, hb⟩
    have G1 := Lib.hid ((G0.out.more hb).add h1)
    obtain ⟨E1, hE1⟩ : ∃ n, n = errOf (okB l (x, y)) (addOf l (x, y)) := ⟨_, rfl⟩
    rw [← hE1]
    have HE1 := Lib.hid hE1
    clear hb h1 G0 hE1
    have c0 := G1.out.c0 (g := w.heap.size) (x := x) (y := y) (by simp)
    have c1' := G1.out.c1 (g := w.heap.size) (x := x) (y := y) (by simp)
    go_wp2_with fail
    refine (radd_any (.slice va l.length vc) l x y _ (G1.out.sp (by simp)) HL.out).mono ?_
    rintro e w2 ⟨v2, rfl, h2, hb⟩
    rw [← HE1.out]
    have G2 := Lib.hid ((G1.out.more hb).add h2)
    clear hb h2 c0 c1' G1
    have c0 := G2.out.c0 (g := w.heap.size) (x := x) (y := y) (by simp)
    have c1' := G2.out.c1 (g := w.heap.size) (x := x) (y := y) (by simp)
    go_wp2_with fail
    refine (remove_any (.slice va l.length vc) l x y _ (G2.out.sp (by simp)) HL.out).mono ?_
    rintro e w3 ⟨v3, rfl, h3, hb⟩
    have G3 := Lib.hid ((G2.out.more hb).add h3)
    obtain ⟨E2, hE2⟩ : ∃ n, n = errOf (okB l (x, y)) (remOf l (x, y)) := ⟨_, rfl⟩
    rw [← hE2]
    have HE2 := Lib.hid hE2
    clear hb h3 c0 c1' G2 hE2
    have c0 := G3.out.c0 (g := w.heap.size) (x := x) (y := y) (by simp)
    have c1' := G3.out.c1 (g := w.heap.size) (x := x) (y := y) (by simp)
    go_wp2_with fail
    refine (rremove_any (.slice va l.length vc) l x y _ (G3.out.sp (by simp)) HL.out).mono ?_
    rintro e w4 ⟨v4, rfl, h4, hb⟩
    rw [← HE2.out]
    have G4 := Lib.hid ((G3.out.more hb).add h4)
    clear hb h4 c0 c1' G3
    go_wp2_with fail
    refine (add_any _ [] 1 3 _ (Spans.nil _) (by decide)).mono ?_
    rintro e w5 ⟨v5, rfl, h5, hb⟩
    rw [add13.2] at h5
    rw [add13.1]
    obtain ⟨a5, c5, rfl⟩ := h5.shape
    have G5 := Lib.hid (G4.out.more hb)
    clear hb h5 G4
    have hla : (tellOf (okB l (x, y)) (addOf l (x, y))).length ≤ 9223372036854775807 := by have := tell_len (okB l (x, y)) (addOf l (x, y)); omega
    have hlr : (tellOf (okB l (x, y)) (remOf l (x, y))).length ≤ 9223372036854775807 := by have := tell_len (okB l (x, y)) (remOf l (x, y)); omega
    have hlg : (gapsL l (x, y)).length ≤ 9223372036854775807 := by have := gaps_few l (x, y); omega
    have hlc : (cutL l (x, y)).length ≤ 9223372036854775807 := by have := cut_few l (x, y); omega
    have hvb : (validB l == validB l) = true := by simp
    have heq1 : (E1 == E1) = true := by simp
    have heq2 : (E2 == E2) = true := by simp
    have hhb : (hasL l (x, y) == hasL l (x, y)) = true := by simp
    have hsb : (sizeB l == sizeB l) = true := by simp
    go_upto_region 8 with fail
    simp only [List.append_eq, List.cons_append, List.nil_append]
    have G := Lib.hid G5.out.drew
    clear G5
    go_region_held3 (fun W => W.cell? ⟨w.heap.size, 0, none⟩ = some (.int .i64 x) ∧ W.cell? ⟨w.heap.size, 1, none⟩ = some (.int .i64 y))
      (exact got_law G.out (by simp)) (first
      | (go_at_call 12; refine (valid_any (.slice va l.length vc) l _ (G.out.sp (by simp)) HL.out).mono ?_; rintro e w9 ⟨rfl, hb⟩; replace G := Lib.hid (G.out.more hb); clear hb)
      | (go_at_call 13; refine (rvalid_any (.slice va l.length vc) l _ (G.out.sp (by simp)) HL.out).mono ?_; rintro e w9 ⟨rfl, hb⟩; replace G := Lib.hid (G.out.more hb); clear hb)
      | (go_at_call 14; (with_reducible refine Calls.mono (rsame_any v1 v2 (tellOf (okB l (x, y)) (addOf l (x, y))) (tellOf (okB l (x, y)) (addOf l (x, y))) _ (G.out.sp (by simp)) (G.out.sp (by simp)) hla hla) ?_); rintro e w9 ⟨rfl, hb⟩; rw [decide_eq_true rfl]; replace G := Lib.hid (G.out.more hb); clear hb)
      | (go_at_call 14; (with_reducible refine Calls.mono (rsame_any v3 v4 (tellOf (okB l (x, y)) (remOf l (x, y))) (tellOf (okB l (x, y)) (remOf l (x, y))) _ (G.out.sp (by simp)) (G.out.sp (by simp)) hlr hlr) ?_); rintro e w9 ⟨rfl, hb⟩; rw [decide_eq_true rfl]; replace G := Lib.hid (G.out.more hb); clear hb)
      | (go_at_call 15; refine (has_any (.slice va l.length vc) l x y _ (G.out.sp (by simp)) HL.out).mono ?_; rintro e w9 ⟨rfl, hb⟩; replace G := Lib.hid (G.out.more hb); clear hb)
      | (go_at_call 16; refine (rhas_any (.slice va l.length vc) l x y _ (G.out.sp (by simp)) HL.out).mono ?_; rintro e w9 ⟨rfl, hb⟩; replace G := Lib.hid (G.out.more hb); clear hb)
      | (go_at_call 17; refine (size_any (.slice va l.length vc) l _ (G.out.sp (by simp)) HL.out).mono ?_; rintro e w9 ⟨rfl, hb⟩; replace G := Lib.hid (G.out.more hb); clear hb)
      | (go_at_call 18; refine (rsize_any (.slice va l.length vc) l _ (G.out.sp (by simp)) HL.out).mono ?_; rintro e w9 ⟨rfl, hb⟩; replace G := Lib.hid (G.out.more hb); clear hb)
      | (go_at_call 19; refine (gaps_any (.slice va l.length vc) l x y _ (G.out.sp (by simp)) HL.out).mono ?_; rintro e w9 ⟨ve, rfl, hs, hb⟩; replace G := Lib.hid ((G.out.more hb).add hs); clear hs; clear hb)
      | (go_at_call 20; refine (rgaps_any (.slice va l.length vc) l x y _ (G.out.sp (by simp)) HL.out).mono ?_; rintro e w9 ⟨vf, rfl, hs, hb⟩; replace G := Lib.hid ((G.out.more hb).add hs); clear hs; clear hb)
      | (go_at_call 14; (with_reducible refine Calls.mono (rsame_any ve vf (gapsL l (x, y)) (gapsL l (x, y)) _ (G.out.sp (by simp)) (G.out.sp (by simp)) hlg hlg) ?_); rintro e w9 ⟨rfl, hb⟩; rw [decide_eq_true rfl]; replace G := Lib.hid (G.out.more hb); clear hb)
      | (go_at_call 21; refine (cut_any (.slice va l.length vc) l x y _ (G.out.sp (by simp)) HL.out).mono ?_; rintro e w9 ⟨vh, rfl, hs, hb⟩; replace G := Lib.hid ((G.out.more hb).add hs); clear hs; clear hb)
      | (go_at_call 22; refine (rcut_any (.slice va l.length vc) l x y _ (G.out.sp (by simp)) HL.out).mono ?_; rintro e w9 ⟨vi, rfl, hs, hb⟩; replace G := Lib.hid ((G.out.more hb).add hs); clear hs; clear hb)
      | (go_at_call 14; (with_reducible refine Calls.mono (rsame_any vh vi (cutL l (x, y)) (cutL l (x, y)) _ (G.out.sp (by simp)) (G.out.sp (by simp)) hlc hlc) ?_); rintro e w9 ⟨rfl, hb⟩; rw [decide_eq_true rfl]; replace G := Lib.hid (G.out.more hb); clear hb))
    all_goals
      go_wp2_with fail
      go_ret
      exact ⟨rfl, G.out.bel⟩

set_option maxRecDepth 100000 in
theorem lifted (os : Os) (started : os.Started) (H : Type) (enc : TypeId × Value → H) :
    ReturnsInHanded {} Try.checked os 3 .any (Rows.spanTellsSpec.pre6 enc Try.prog Try.f3 Rows.spanTellsRow.domain false) (Rows.spanTellsSpec.post enc Try.prog Try.f3 false true false false) := by
  refine returnsInHanded_of_change_sized (C := Try.checked) own started (by kernel_rfl) Try.func3
    (ChangeSpec.witness6 (enc := enc) (C := Try.checked) false ⟨#[], #[.slice none 0 0, .agg #[.int .i64 0, .int .i64 0]], []⟩ 8 (by kernel_rfl) (by kernel_rfl) (by kernel_rfl) (by kernel_rfl)) ?_
  intro W base args ds gs before hval0 hW hcnd hsz _
  have hval : ∀ (j : Nat) t v, Try.f3.params[j]? = some t → args[j]? = some v → Value.okWide Try.prog W .any base t v := hval0
  have hW' := hW
  obtain ⟨p, q, hA0, hV, rfl, hfz, hnd⟩ := hW
  have hA : DataW.TrodAll enc Try.prog W 0 (fun _ => true) true Try.f3.params.toList args.toList ds p := hA0
  rw [Try.params3] at hA hval hsz
  obtain ⟨v0, vs0, d0, ds0, p0, q0, hargs, rfl, rfl, h0, r0⟩ := trodAll_cons hA
  obtain ⟨v1, vs1, d1, ds1, p1, q1, rfl, rfl, rfl, h1, r1⟩ := trodAll_cons r0
  obtain ⟨rfl, rfl, rfl⟩ := trodAll_nil r1
  obtain rfl : args = #[v0, v1] := by cases args; simp_all
  obtain ⟨rfl, rfl⟩ := trodVars_none hV
  have k0 := h0
  have lt0 : ∀ x ∈ p0, x.block < W.heap.size := by obtain ⟨m, hm⟩ := k0; exact DataW.trod_lt m _ _ _ hm
  obtain ⟨ls0, f0, l0⟩ := Sn.open_spans (hval 0 22 v0 rfl rfl) h0
  have k1 := h1
  have lt1 : ∀ x ∈ p1, x.block < W.heap.size := by obtain ⟨m, hm⟩ := k1; exact DataW.trod_lt m _ _ _ hm
  obtain ⟨⟨x1, y1⟩, rfl⟩ := Sn.open_span (hval 1 24 v1 rfl rfl) h1
  clear hA0 hval0
  simp only [List.append_nil] at hW'
  refine (walk v0 ls0 x1 y1 W f0 l0).mono fun e W' ⟨he, bel⟩ => ?_
  subst he
  exact ⟨_, rfl, _, _, _, [], _, [], hW', trodAll_mk1 (shut_bool Try.underlying4 _), (trodAll_cons_mk (Below.trod laidOut (by kernel_rfl) (of_decide_eq_true (by kernel_rfl)) k0 bel lt0) (trodAll_cons_mk (Below.trod laidOut (by kernel_rfl) (of_decide_eq_true (by kernel_rfl)) k1 bel lt1) trodAll_mk0)), rfl, bel.frame _, fun h => by cases h⟩

theorem over : Rows.spanTellsRow.holds Try.pinned (OpenSpec.ofChange Rows.spanTellsSpec) :=
  OpenClaim.holds_of_wide 3 Try.f3 rfl rfl rfl rfl rfl rfl rfl ⟨rfl, rfl, rfl, rfl, rfl⟩ rfl rfl rfl rfl rfl (by kernel_rfl) Try.func3 (by kernel_rfl)
    (of_decide_eq_true (by kernel_rfl)) (by unfold Func.isWrapper; first | (rw [if_pos (by decide +kernel)]; kernel_rfl) | (rw [if_neg (by decide +kernel)]; exact ⟨rfl, rfl⟩))
    (fun os started H enc _ => lifted os started H enc)

theorem proved : Rows.SpanTellsSaid := over
end Go.Proofs.Ytifceaffglomaaa.spanTells
