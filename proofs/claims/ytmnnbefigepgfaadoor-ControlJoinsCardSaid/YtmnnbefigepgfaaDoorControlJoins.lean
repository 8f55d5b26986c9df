/-
  ControlJoins: two texts together say what both say, in either order.
  Conditions: the listed tables hold what the program's text lays (the card ties them).
-/
import Derived.Deep.DeepCutAuto
import Derived.Deep.RegionWith
import Derived.Test.YtmnnbefigepgfaaDoorTabs
import Derived.Test.YtmnnbefigepgfaaDoorFdOpen
import Derived.SizedLaws
import Derived.Carry
import Derived.Test.YtmnnbefigepgfaaDoorCtJoin
import Derived.Test.YtmnnbefigepgfaaDoorCtOf
import Derived.Test.YtmnnbefigepgfaaDoorFdOpen
import Derived.WideKeyPair
namespace Go.Proofs.YtmnnbefigepgfaaDoor.controlJoins
open Go.ChangeShapes Go.WideShapes Go.ChangeAt Go.RowKit
open Go.ChangeMaps (open_string shut_string)
set_option linter.unusedVariables false

open Go.Proofs.YtmnnbefigepgfaaDoor.Tk Go.Proofs.YtmnnbefigepgfaaDoor.Fd Go.Proofs.YtmnnbefigepgfaaDoor.Ct
/-- no-store, max-age=3. -/
theorem three : parseVal [110, 111, 45, 115, 116, 111, 114, 101, 44, 32, 109, 97, 120, 45, 97, 103, 101, 61, 51] = .tuple #[.agg #[.bool true, .bool false, .bool false, .bool false, .bool false, .bool false, .bool false, .int .i64 3, .int .i64 (-1), .int .i64 (-1), .int .i64 (-1), .int .i64 (-1), .int .i64 (-1)], .bool true] := by kernel_rfl
theorem parse_lit (l : Bs) : parseVal l = .tuple #[.agg #[.bool (parseOf l).1.ns, .bool (parseOf l).1.nc, .bool (parseOf l).1.pr, .bool (parseOf l).1.pu, .bool (parseOf l).1.mu, .bool (parseOf l).1.px, .bool (parseOf l).1.oc, .int .i64 (parseOf l).1.ag, .int .i64 (parseOf l).1.sh, .int .i64 (parseOf l).1.wh, .int .i64 (parseOf l).1.ie, .int .i64 (parseOf l).1.mf, .int .i64 (parseOf l).1.ms], .bool (parseOf l).2] := rfl
theorem two_text (a b : ByteArray) (c : Bs) : (a ++ ⟨c.toArray⟩ ++ b).data.toList = a.data.toList ++ c ++ b.data.toList := by simp
theorem below7 {p : Nat → Prop} (h0 : p 0) (h1 : p 1) (h2 : p 2) (h3 : p 3) (h4 : p 4) (h5 : p 5) (h6 : p 6) : ∀ k, k < 7 → p k := by
  intro k hk
  rcases (by omega : k = 0 ∨ k = 1 ∨ k = 2 ∨ k = 3 ∨ k = 4 ∨ k = 5 ∨ k = 6) with rfl | rfl | rfl | rfl | rfl | rfl | rfl <;> assumption
theorem below6 {p : Nat → Prop} (h0 : p 0) (h1 : p 1) (h2 : p 2) (h3 : p 3) (h4 : p 4) (h5 : p 5) : ∀ k, k < 6 → p k := by
  intro k hk
  rcases (by omega : k = 0 ∨ k = 1 ∨ k = 2 ∨ k = 3 ∨ k = 4 ∨ k = 5) with rfl | rfl | rfl | rfl | rfl | rfl <;> assumption
set_option maxHeartbeats 16000000 in
set_option maxRecDepth 100000 in
theorem walk (a0 : ByteArray) (s0 : a0.size ≤ reachBytes) (a1 : ByteArray) (s1 : a1.size ≤ reachBytes) (w : World) (hT : Tk.Tab w) :
    Calls Tryd.prog 4 #[.string a0, .string a1] w fun e w' => e = .returned (.bool true) ∧ Below w.heap.size w w' := by
  have HT := Lib.hid hT
  have htl := hT.lt
  unfold reachBytes at s0 s1
  have ws : IntKind.i64.wrap ((a0.size : Int) + (a1.size : Int)) = (a0.size : Int) + (a1.size : Int) := IntWalk.i64_in _ (by omega)
  clear hT
  by_cases hA : a0.size + a1.size ≤ 2000
  case neg =>
    have d1 : decide ((2000 : Int) < (a0.size : Int) + (a1.size : Int)) = true := by rw [decide_eq_true_eq]; omega
    go_enter Tryd.func4, Tryd.ntmps4
    go_wp2_with fail
    go_ret
    exact ⟨rfl, Below.refl _ _⟩
  case pos =>
  have d1 : decide ((2000 : Int) < (a0.size : Int) + (a1.size : Int)) = false := by rw [decide_eq_false_iff_not]; omega
  obtain ⟨cx, hcx⟩ : ∃ cx, cx = (parseOf a0.data.toList).1 := ⟨_, rfl⟩
  obtain ⟨cy, hcy⟩ : ∃ cy, cy = (parseOf a1.data.toList).1 := ⟨_, rfl⟩
  obtain ⟨bx, hbx⟩ : ∃ bx, bx = (parseOf a0.data.toList).2 := ⟨_, rfl⟩
  obtain ⟨by', hby⟩ : ∃ by', by' = (parseOf a1.data.toList).2 := ⟨_, rfl⟩
  have HPX := Lib.hid (show parseVal a0.data.toList = .tuple #[.agg #[.bool cx.ns, .bool cx.nc, .bool cx.pr, .bool cx.pu, .bool cx.mu, .bool cx.px, .bool cx.oc, .int .i64 cx.ag, .int .i64 cx.sh, .int .i64 cx.wh, .int .i64 cx.ie, .int .i64 cx.mf, .int .i64 cx.ms], .bool bx] from by rw [parse_lit, ← hcx, ← hbx])
  have HPY := Lib.hid (show parseVal a1.data.toList = .tuple #[.agg #[.bool cy.ns, .bool cy.nc, .bool cy.pr, .bool cy.pu, .bool cy.mu, .bool cy.px, .bool cy.oc, .int .i64 cy.ag, .int .i64 cy.sh, .int .i64 cy.wh, .int .i64 cy.ie, .int .i64 cy.mf, .int .i64 cy.ms], .bool by'] from by rw [parse_lit, ← hcy, ← hby])
  obtain ⟨Z, hZ⟩ : ∃ Z : ByteArray, Z = a0 ++ ⟨#[44]⟩ ++ a1 := ⟨_, rfl⟩
  obtain ⟨V, hV⟩ : ∃ V : ByteArray, V = a1 ++ ⟨#[32, 44, 32]⟩ ++ a0 := ⟨_, rfl⟩
  have hZs : Z.size ≤ 2003 := by rw [hZ, ByteArray.size_append, ByteArray.size_append]; show a0.size + 1 + a1.size ≤ 2003; omega
  have hVs : V.size ≤ 2003 := by rw [hV, ByteArray.size_append, ByteArray.size_append]; show a1.size + 3 + a0.size ≤ 2003; omega
  have HZV := Lib.hid (show bx = true → by' = true → parseVal Z.data.toList = .tuple #[.agg (cells (both cx cy)), .bool true] ∧ parseVal V.data.toList = .tuple #[.agg (cells (both cx cy)), .bool true] from fun e1 e2 => by
    have h := parse_two (a := a0.data.toList) (b := a1.data.toList) (by rw [← hbx]; exact e1) (by rw [← hby]; exact e2)
    have hz : Z.data.toList = a0.data.toList ++ 44 :: a1.data.toList := by rw [hZ]; simp
    have hv : V.data.toList = a1.data.toList ++ [32, 44, 32] ++ a0.data.toList := by rw [hV]; simp
    constructor
    · unfold parseVal; rw [hz, h.1, ← hcx, ← hcy]
    · unfold parseVal; rw [hv, h.2, ← hcx, ← hcy])
  have HZ := Lib.hid hZ
  have HV := Lib.hid hV
  clear hcx hcy hbx hby hZ hV
  go_enter Tryd.func4, Tryd.ntmps4
  go_wp2_with fail
  refine (parse_any ⟨#[110, 111, 45, 115, 116, 111, 114, 101, 44, 32, 109, 97, 120, 45, 97, 103, 101, 61, 51]⟩ _ (by decide) HT.out).mono ?_
  rintro e w1 ⟨rfl, hb1⟩
  rw [three]
  clear ws
  have HB1 := Lib.hid (show Below w.heap.size w (w1.alloc (.cells #[.bool true, .bool false, .bool false, .bool false, .bool false, .bool false, .bool false, .int .i64 3, .int .i64 (-1), .int .i64 (-1), .int .i64 (-1), .int .i64 (-1), .int .i64 (-1)] 26)) from hb1.alloc hb1.size _)
  clear hb1
  go_wp2_with fail
  refine (parse_any a0 _ (by omega) (HT.out.below HB1.out htl)).mono ?_
  rintro e w2 ⟨rfl, hb2⟩
  rw [HPX.out]
  obtain ⟨W2, hW2⟩ : ∃ W2, W2 = w2.alloc (.cells #[.bool cx.ns, .bool cx.nc, .bool cx.pr, .bool cx.pu, .bool cx.mu, .bool cx.px, .bool cx.oc, .int .i64 cx.ag, .int .i64 cx.sh, .int .i64 cx.wh, .int .i64 cx.ie, .int .i64 cx.mf, .int .i64 cx.ms] 26) := ⟨_, rfl⟩
  have hX2 : ConAt W2 w2.heap.size cx := by rw [hW2]; exact new_block _ _
  have hB2 : Below w.heap.size w W2 := by rw [hW2]; exact (Bl.next HB1.out hb2).alloc (Bl.next HB1.out hb2).size _
  have HW2 := Lib.hid hW2
  clear hW2 hb2
  go_wp2_with fail
  rw [← HW2.out]
  refine (parse_any a1 W2 (by omega) (HT.out.below hB2 htl)).mono ?_
  rintro e w3 ⟨rfl, hb3⟩
  rw [HPY.out]
  obtain ⟨W3, hW3⟩ : ∃ W3, W3 = w3.alloc (.cells #[.bool cy.ns, .bool cy.nc, .bool cy.pr, .bool cy.pu, .bool cy.mu, .bool cy.px, .bool cy.oc, .int .i64 cy.ag, .int .i64 cy.sh, .int .i64 cy.wh, .int .i64 cy.ie, .int .i64 cy.mf, .int .i64 cy.ms] 26) := ⟨_, rfl⟩
  have hX3 : ConAt W3 w2.heap.size cx := by rw [hW3]; exact (old_block _ _ (block_lt (Bl.old hb3 (block_lt hX2) hX2))).trans (Bl.old hb3 (block_lt hX2) hX2)
  have hY3 : ConAt W3 w3.heap.size cy := by rw [hW3]; exact new_block _ _
  have hB3 : Below w.heap.size w W3 := by rw [hW3]; exact (Bl.next hB2 hb3).alloc (Bl.next hB2 hb3).size _
  have HW3 := Lib.hid hW3
  clear hW3 hb3 hX2 hB2
  cases bx with
  | false =>
    go_wp2_with fail
    rw [← HW3.out]
    go_ret
    exact ⟨rfl, hB3⟩
  | true =>
  cases by' with
  | false =>
    go_wp2_with fail
    rw [← HW3.out]
    go_ret
    exact ⟨rfl, hB3⟩
  | true =>
  obtain ⟨hpz, hpv⟩ := HZV.out rfl rfl
  obtain ⟨cz, hcz⟩ : ∃ cz, cz = both cx cy := ⟨_, rfl⟩
  rw [← hcz] at hpz hpv
  have HPZ := Lib.hid (show parseVal Z.data.toList = .tuple #[.agg #[.bool cz.ns, .bool cz.nc, .bool cz.pr, .bool cz.pu, .bool cz.mu, .bool cz.px, .bool cz.oc, .int .i64 cz.ag, .int .i64 cz.sh, .int .i64 cz.wh, .int .i64 cz.ie, .int .i64 cz.mf, .int .i64 cz.ms], .bool true] from hpz)
  have HPV := Lib.hid (show parseVal V.data.toList = .tuple #[.agg #[.bool cz.ns, .bool cz.nc, .bool cz.pr, .bool cz.pu, .bool cz.mu, .bool cz.px, .bool cz.oc, .int .i64 cz.ag, .int .i64 cz.sh, .int .i64 cz.wh, .int .i64 cz.ie, .int .i64 cz.mf, .int .i64 cz.ms], .bool true] from hpv)
  have HCZ := Lib.hid hcz
  clear hpz hpv hcz HZV
  go_wp2_with fail
  rw [← HZ.out, ← HW3.out]
  refine (parse_any Z W3 (by omega) (HT.out.below hB3 htl)).mono ?_
  rintro e w4 ⟨rfl, hb4⟩
  rw [HPZ.out]
  obtain ⟨W4, hW4⟩ : ∃ W4, W4 = w4.alloc (.cells #[.bool cz.ns, .bool cz.nc, .bool cz.pr, .bool cz.pu, .bool cz.mu, .bool cz.px, .bool cz.oc, .int .i64 cz.ag, .int .i64 cz.sh, .int .i64 cz.wh, .int .i64 cz.ie, .int .i64 cz.mf, .int .i64 cz.ms] 26) := ⟨_, rfl⟩
  have hX4 : ConAt W4 w2.heap.size cx := by rw [hW4]; exact (old_block _ _ (block_lt (Bl.old hb4 (block_lt hX3) hX3))).trans (Bl.old hb4 (block_lt hX3) hX3)
  have hY4 : ConAt W4 w3.heap.size cy := by rw [hW4]; exact (old_block _ _ (block_lt (Bl.old hb4 (block_lt hY3) hY3))).trans (Bl.old hb4 (block_lt hY3) hY3)
  have hZ4 : ConAt W4 w4.heap.size cz := by rw [hW4]; exact new_block _ _
  have hB4 : Below w.heap.size w W4 := by rw [hW4]; exact (Bl.next hB3 hb4).alloc (Bl.next hB3 hb4).size _
  have HW4 := Lib.hid hW4
  clear hW4 hb4 hX3 hY3 hB3
  go_wp2_with fail
  rw [← HV.out, ← HW4.out]
  refine (parse_any V W4 (by omega) (HT.out.below hB4 htl)).mono ?_
  rintro e w5 ⟨rfl, hb5⟩
  rw [HPV.out]
  obtain ⟨W5, hW5⟩ : ∃ W5, W5 = w5.alloc (.cells #[.bool cz.ns, .bool cz.nc, .bool cz.pr, .bool cz.pu, .bool cz.mu, .bool cz.px, .bool cz.oc, .int .i64 cz.ag, .int .i64 cz.sh, .int .i64 cz.wh, .int .i64 cz.ie, .int .i64 cz.mf, .int .i64 cz.ms] 26) := ⟨_, rfl⟩
  have hX5 : ConAt W5 w2.heap.size cx := by rw [hW5]; exact (old_block _ _ (block_lt (Bl.old hb5 (block_lt hX4) hX4))).trans (Bl.old hb5 (block_lt hX4) hX4)
  have hY5 : ConAt W5 w3.heap.size cy := by rw [hW5]; exact (old_block _ _ (block_lt (Bl.old hb5 (block_lt hY4) hY4))).trans (Bl.old hb5 (block_lt hY4) hY4)
  have hZ5 : ConAt W5 w4.heap.size cz := by rw [hW5]; exact (old_block _ _ (block_lt (Bl.old hb5 (block_lt hZ4) hZ4))).trans (Bl.old hb5 (block_lt hZ4) hZ4)
  have hV5 : ConAt W5 w5.heap.size cz := by rw [hW5]; exact new_block _ _
  have hB5 : Below w.heap.size w W5 := by rw [hW5]; exact (Bl.next hB4 hb5).alloc (Bl.next hB4 hb5).size _
  have HW5 := Lib.hid hW5
  clear hW5 hb5 hX4 hY4 hZ4 hB4
  have HX5 := Lib.hid hX5
  have HY5 := Lib.hid hY5
  have HB5 := Lib.hid hB5
  clear hX5 hY5 hB5
  go_wp2_with fail
  rw [← HW5.out]
  rename_i Qf Kf hgo
  refine join_region (gx := w2.heap.size) (gy := w3.heap.size) ?_ HX5.out HY5.out rfl rfl rfl rfl ?_
  · constructor
    · kernel_rfl
    · kernel_rfl
    · refine below7 ?_ ?_ ?_ ?_ ?_ ?_ ?_ <;> (unfold isOpG; kernel_rfl)
    · refine below7 ?_ ?_ ?_ ?_ ?_ ?_ ?_ <;> (unfold isOpG; kernel_rfl)
    · refine below7 ?_ ?_ ?_ ?_ ?_ ?_ ?_ <;> (unfold waits; kernel_rfl)
    · refine below7 ?_ ?_ ?_ ?_ ?_ ?_ ?_ <;> (unfold isOpG; kernel_rfl)
    · refine below7 ?_ ?_ ?_ ?_ ?_ ?_ ?_ <;> (unfold waits; kernel_rfl)
    · refine below7 ?_ ?_ ?_ ?_ ?_ ?_ ?_ <;> (unfold isOpG; kernel_rfl)
    · refine below7 ?_ ?_ ?_ ?_ ?_ ?_ ?_ <;> (unfold waits; kernel_rfl)
    · refine below7 ?_ ?_ ?_ ?_ ?_ ?_ ?_ <;> (unfold isOpG; kernel_rfl)
    · refine below7 ?_ ?_ ?_ ?_ ?_ ?_ ?_ <;> (unfold waits; kernel_rfl)
    · refine below7 ?_ ?_ ?_ ?_ ?_ ?_ ?_ <;> (unfold waits; kernel_rfl)
    · refine below7 ?_ ?_ ?_ ?_ ?_ ?_ ?_ <;> (unfold isOpG; kernel_rfl)
    · refine below7 ?_ ?_ ?_ ?_ ?_ ?_ ?_ <;> (unfold waits; kernel_rfl)
    · refine below7 ?_ ?_ ?_ ?_ ?_ ?_ ?_ <;> (unfold waits; kernel_rfl)
    · refine below6 ?_ ?_ ?_ ?_ ?_ ?_ <;> (unfold isOpG; kernel_rfl)
    · refine below6 ?_ ?_ ?_ ?_ ?_ ?_ <;> (unfold isOpG; kernel_rfl)
    · refine below6 ?_ ?_ ?_ ?_ ?_ ?_ <;> (unfold waits; kernel_rfl)
    · refine below6 ?_ ?_ ?_ ?_ ?_ ?_ <;> (unfold isOpG; kernel_rfl)
    · refine below6 ?_ ?_ ?_ ?_ ?_ ?_ <;> (unfold isOpG; kernel_rfl)
    · refine below6 ?_ ?_ ?_ ?_ ?_ ?_ <;> (unfold waits; kernel_rfl)
    · refine below6 ?_ ?_ ?_ ?_ ?_ ?_ <;> (unfold isOpG; kernel_rfl)
    · refine below6 ?_ ?_ ?_ ?_ ?_ ?_ <;> (unfold waits; kernel_rfl)
    · refine below6 ?_ ?_ ?_ ?_ ?_ ?_ <;> (unfold waits; kernel_rfl)
    · unfold isOpG; kernel_rfl
    · refine below7 ?_ ?_ ?_ ?_ ?_ ?_ ?_ <;> (unfold waits; kernel_rfl)
    · refine below6 ?_ ?_ ?_ ?_ ?_ ?_ <;> (unfold waits; kernel_rfl)
    · unfold isOpG; kernel_rfl
    · unfold isOpG; kernel_rfl
    · unfold waits; kernel_rfl
    · unfold waits; kernel_rfl
  · intro a' hs hd hlow h15
    have hDW : Below w.heap.size w (W5.drew.alloc (.cells (cells (both cx cy)) 26)) := HB5.out.drew.alloc HB5.out.drew.size _
    rw [← HCZ.out] at hDW ⊢
    have HDW := Lib.hid hDW
    have hN6 : ConAt (W5.drew.alloc (.cells (cells cz) 26)) W5.heap.size cz := new_block W5.drew _
    have hZ6 : ConAt (W5.drew.alloc (.cells (cells cz) 26)) w4.heap.size cz := (old_block W5.drew _ (block_lt hZ5)).trans hZ5
    have hV6 : ConAt (W5.drew.alloc (.cells (cells cz) 26)) w5.heap.size cz := (old_block W5.drew _ (block_lt hV5)).trans hV5
    obtain ⟨W6, hW6⟩ : ∃ W6, W6 = W5.drew.alloc (.cells (cells cz) 26) := ⟨_, rfl⟩
    rw [← hW6] at HDW hN6 hZ6 hV6 ⊢
    clear hW6 hDW hZ5 hV5
    refine act_lit (Q := fun a' => Exit.then Kf Qf .normal a' W6) a' hs hd _ _ _ _ _ _ _ _ _ _ _ _ _ _ _ _ (hlow 0 (by omega)) (hlow 1 (by omega)) (hlow 2 (by omega)) (hlow 3 (by omega)) (hlow 4 (by omega)) (hlow 5 (by omega)) (hlow 6 (by omega)) (hlow 7 (by omega)) (hlow 8 (by omega)) (hlow 9 (by omega)) (hlow 10 (by omega)) (hlow 11 (by omega)) (hlow 12 (by omega)) (hlow 13 (by omega)) (hlow 14 (by omega)) (show a'.tmps.getD 15 undef = .pointer (some ⟨W5.heap.size, 0, none⟩) from h15) ?_
    intro f
    obtain ⟨a0', a1', a2, a3, a4, a5, a6, a7, a8, a9, a10, a11, a12⟩ := thirteen hN6
    obtain ⟨b0, b1, b2, b3, b4, b5, b6, b7, b8, b9, b10, b11, b12⟩ := thirteen hZ6
    obtain ⟨c0, c1, c2, c3, c4, c5, c6, c7, c8, c9, c10, c11, c12⟩ := thirteen hV6
    clear hs hd hlow h15 hN6 hZ6 hV6
    go_wp2_with fail

    go_ret
    exact ⟨rfl, HDW.out⟩

set_option maxHeartbeats 2000000 in
set_option maxRecDepth 100000 in
theorem contract (H : Type) (enc : TypeId × Value → H) (W : World) (base : Nat) (args : Array Value) (ds gs : List (DataW H)) (before : List MemPlace)
    (hval : ∀ (j : Nat) t v, Tryd.f4.params[j]? = some t → args[j]? = some v → Value.okWide Tryd.prog W .any base t v)
    (hW : DataW.Whole enc Tryd.prog Tryd.f4.params.toList Rows.controlJoinsSpec.vars false W args.toList ds gs before) (ts : List TypeId) (hsz : (DataW.weightsEach Tryd.prog (Tryd.f4.params.toList ++ ts) (ds ++ gs)).all (· ≤ reachBytes) = true) (hL : laidMetH Tryd.prog Rows.controlJoinsRow.laid W) :
    Calls Tryd.prog 4 args W fun e W' => ∃ v, e = .returned v ∧ Rows.controlJoinsSpec.post enc Tryd.prog Tryd.f4 false true false false W args v W' := by
  have hW' := hW
  obtain ⟨p, q, hA0, hV, rfl, hfz, hnd⟩ := hW
  have hA : DataW.TrodAll enc Tryd.prog W 0 (fun _ => true) true Tryd.f4.params.toList args.toList ds p := hA0
  rw [Tryd.params4] at hA hval hsz
  obtain ⟨v0, vs0, d0, ds0, p0, q0, hargs, rfl, rfl, h0, r0⟩ := trodAll_cons hA
  obtain ⟨v1, vs1, d1, ds1, p1, q1, rfl, rfl, rfl, h1, r1⟩ := trodAll_cons r0
  obtain ⟨rfl, rfl, rfl⟩ := trodAll_nil r1
  have hw0 : ∀ n ∈ d0.weights Tryd.prog 9, n ≤ reachBytes := fun n hn => by simpa using List.all_eq_true.1 hsz n (DataW.weights_mem_each (j := 0) (t := 9) (d := d0) rfl rfl _ hn)
  have hw1 : ∀ n ∈ d1.weights Tryd.prog 9, n ≤ reachBytes := fun n hn => by simpa using List.all_eq_true.1 hsz n (DataW.weights_mem_each (j := 1) (t := 9) (d := d1) rfl rfl _ hn)
  obtain rfl : args = #[v0, v1] := by cases args; simp_all
  obtain ⟨rfl, rfl⟩ := trodVars_none hV
  obtain ⟨a0, rfl, rfl, rfl, w0⟩ := open_string Tryd.underlying9 (hval 0 9 v0 rfl rfl) h0
  have s0 : a0.size ≤ reachBytes := by simpa [DataW.weights] using hw0
  obtain ⟨a1, rfl, rfl, rfl, w1⟩ := open_string Tryd.underlying9 (hval 1 9 v1 rfl rfl) h1
  have s1 : a1.size ≤ reachBytes := by simpa [DataW.weights] using hw1
  clear hA0
  simp only [List.append_nil] at hW'
  refine (walk a0 s0 a1 s1 W (Tb.tok_of_head hL)).mono fun e W' ⟨he, bel⟩ => ?_
  subst he
  exact ⟨_, rfl, _, _, _, [], _, [], hW', trodAll_mk1 (shut_bool Tryd.underlying4 _), (trodAll_cons_mk (shut_string Tryd.underlying9 w0) (trodAll_cons_mk (shut_string Tryd.underlying9 w1) trodAll_mk0)), rfl, bel.frame _, fun h => by cases h⟩

theorem laid_met (os : Os) : laidMet Tryd.prog Rows.controlJoinsRow.laid ((Tb.laidWorld os).forCall (fun _ _ => 0) ⟨#[], #[.string ByteArray.empty, .string ByteArray.empty], []⟩).memory :=
  laidMet_of_run' 8 (by kernel_rfl) (by kernel_rfl)
theorem reads (os : Os) {H : Type} (enc : TypeId × Value → H) : ∃ places, DataW.whole enc Tryd.prog ((Tb.laidWorld os).forCall (fun _ _ => 0) ⟨#[], #[.string ByteArray.empty, .string ByteArray.empty], []⟩).memory Tryd.f4.params.toList Rows.controlJoinsSpec.vars false (#[.string ByteArray.empty, .string ByteArray.empty] : Array Value).toList 8 = some ([.lit (.string []), .lit (.string [])], [], places) :=
  ⟨[], by kernel_rfl⟩

set_option maxRecDepth 100000 in
theorem lifted (os : Os) (started : os.Started) (H : Type) (enc : TypeId × Value → H) (F : Stop.Interp) :
    ReturnsInHanded {} Tryd.checked os 4 .any ((OpenSpec.ofChange Rows.controlJoinsSpec).preRow enc Tryd.prog Tryd.f4 Rows.controlJoinsRow.domain false Rows.controlJoinsRow.laid) (((OpenSpec.ofChange Rows.controlJoinsSpec).at F).post enc Tryd.prog Tryd.f4 false true false false) := by
  obtain ⟨places, hx⟩ := reads os enc
  refine returnsInHanded_of_row (C := Tryd.checked) (s := OpenSpec.ofChange Rows.controlJoinsSpec) Tb.own started (by kernel_rfl) Tryd.func4
    (witness_row_at (enc := enc) (C := Tryd.checked) false (Tb.laidWorld os) #[.string ByteArray.empty, .string ByteArray.empty] rfl (by kernel_rfl) (by kernel_rfl) (by kernel_rfl)
      (OpenSpec.preRow_of_cond 8 hx (by kernel_rfl) (fun k hk => by cases hk) (by kernel_rfl) (laid_met os))) ?_
  intro W base args ds gs before hval hW _ _ hsz hL _ _
  exact contract H enc W base args ds gs before hval hW _ hsz hL

theorem said : Rows.ControlJoinsSaid :=
  OpenClaim.holds_of_cond 4 Tryd.f4 rfl rfl rfl rfl rfl rfl rfl ⟨rfl, rfl, rfl, rfl, rfl⟩ rfl rfl rfl rfl rfl (by kernel_rfl) Tryd.func4 (by kernel_rfl)
    (of_decide_eq_true (by kernel_rfl)) (by unfold Func.isWrapper; first | (rw [if_pos (by decide +kernel)]; kernel_rfl) | (rw [if_neg (by decide +kernel)]; exact ⟨rfl, rfl⟩))
    (fun os started H enc _ F => by rw [OpenClaim.pre_eq_preRow]; exact lifted os started H enc F)

set_option maxRecDepth 100000 in
theorem plain (f : FuncId) (fn : Func) (hf : Tryd.pinned.checked.prog.funcNamed "gatepost/gatepostlaw08.ControlJoins" = some f) (hfn : Tryd.pinned.checked.prog.funcs[f]? = some fn) :
    false = Tryd.pinned.checked.prog.looks [] ∧ ∀ (j : Nat) t, fn.params[j]? = some t → Tryd.pinned.checked.prog.wantsStandIn t = false := by
  obtain rfl : f = 4 := Option.some.inj ((show Tryd.prog.funcNamed "gatepost/gatepostlaw08.ControlJoins" = some 4 by kernel_rfl).symm.trans hf) |>.symm
  obtain rfl : fn = Tryd.f4 := (Option.some.inj (Tryd.func4.symm.trans hfn)).symm
  refine ⟨by kernel_rfl, fun j t ht => ?_⟩
  rw [Tryd.params4] at ht
  have hm := Array.mem_of_getElem? ht
  simp at hm
  subst hm
  exact (show Tryd.prog.wantsStandIn 9 = false by kernel_rfl)

theorem card : Rows.ControlJoinsCardSaid :=
  Claim7.holds_tied_plain_at .later [] _ _ _ _ said (fun _ h => by cases h) (by kernel_rfl) (fun _ h => by cases h) controlJoins_row_tie rfl ⟨rfl, rfl⟩ (by kernel_rfl) rfl plain (by kernel_rfl)
end Go.Proofs.YtmnnbefigepgfaaDoor.controlJoins
