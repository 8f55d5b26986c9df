/-
  SpanOrder: for every list of spans the call returns true.
  Conditions: none.
-/
import Derived.Test.YtifceaffglomaaaRows
import Derived.Test.YtifceaffglomaaaSpGot
import Derived.Test.YtifceaffglomaaaSpOpen
import Derived.Deep.DeepCutAuto
import Derived.Deep.RegionHeld3
import Derived.WalkKit
import Derived.WalkLawsBesides
import Derived.ProofKit
import Derived.OpenShut
import Derived.ShutString
import Derived.SizedLaws
import Derived.Carry
import Derived.Below
import Derived.Outline
import Derived.Lib.Hide
namespace Go.Proofs.Ytifceaffglomaaa.spanOrder
open Go.ChangeShapes Go.WideShapes Go.ChangeAt Go.RowKit
open Go.ChangeMaps (open_string shut_string)
set_option linter.unusedVariables false

theorem own : ownKnob Try.prog.godebug = none := by kernel_rfl
theorem laidOut : laidOutB Try.prog = true := by kernel_rfl

open Go.Proofs.Ytifceaffglomaaa.Fd Go.Proofs.Ytifceaffglomaaa.Sn
/-- One more span: what it tells of a set of few. -/
theorem add_right {L x : List Sp} {s : Sp} (hA : Adds L x) (hR : ∀ u ∈ L, Right u) (hL : L.length ≤ 12) (hr : rightB s = true) :
    errOf (okB x s) (addOf x s) = 0 ∧ tellOf (okB x s) (addOf x s) = addOf x s ∧ Adds (L ++ [s]) (addOf x s) ∧ (addOf x s).length ≤ 13 := by
  have hv := hA.valid hR (by omega)
  have hs := (rightB_iff s).1 hr
  have hok : okB x s = true := (okB_iff _ _).2 ⟨hv, hs⟩
  have hset := add_set hv.good hs
  have h1 := add_len hset
  have h2 := hA.len
  have hlen : (addOf x s).length ≤ 32 := by omega
  exact ⟨by simp [errOf, hok, hlen], by simp [tellOf, hok, hlen], .snoc hA hset, by omega⟩
theorem add_wrong {x : List Sp} {s : Sp} (hr : rightB s = false) : errOf (okB x s) (addOf x s) = 2 := by simp [okB, hr, errOf]
theorem add_twice {L x : List Sp} {s : Sp} (hA : Adds L x) (hR : ∀ u ∈ L, Right u) (hL : L.length ≤ 12) (hs : s ∈ L) :
    errOf (okB x s) (addOf x s) = 0 ∧ tellOf (okB x s) (addOf x s) = x ∧ hasL x s = true := by
  have hv := hA.valid hR (by omega)
  have hr := hR s hs
  have hok : okB x s = true := (okB_iff _ _).2 ⟨hv, hr⟩
  have he : addOf x s = x := adds_again hA hs (add_set hv.good hr)
  have hl := hv.len
  refine ⟨by rw [he]; simp [errOf, hok, hl], by rw [he]; simp [tellOf, hok, hl], ?_⟩
  unfold hasL gapsL
  rw [hok, adds_has hA hs (gaps_set hv.good hr)]
  rfl
theorem drop_rev (m : List Sp) (j : Nat) (h : j < m.length) : (m.drop j).reverse = (m.drop (j + 1)).reverse ++ [m[j]] := by
  rw [drop_cons m j h, List.reverse_cons]
theorem take_more (m : List Sp) (k : Nat) (h : k < m.length) : m.take (k + 1) = m.take k ++ [m[k]] := by rw [List.take_succ_eq_append_getElem h]
theorem cut_off {w : World} {a : Option Addr} {n cap : Nat} {l : List Sp} (h : Spans w (.slice a n cap) l) {k : Nat} (hk : k ≤ l.length) : Spans w (.slice a k cap) (l.take k) := by
  rcases h with ⟨rfl, _⟩ | ⟨b, off, cap', hv, hc, hmx, hlt, hs⟩
  · obtain rfl : k = 0 := by simpa using hk
    exact .inl ⟨rfl, _, _, rfl⟩
  · injection hv with e1 e2 e3
    subst e1 e3
    have hs2 := hs.sub 0 k (by omega)
    simp only [Nat.zero_mul, Nat.add_zero, List.drop_zero] at hs2
    exact SAt.spans hs2 (by simp; omega) (by simp; omega) hmx hlt
set_option maxRecDepth 100000 in
set_option maxHeartbeats 16000000 in
theorem walk (v0 : Value) (l : List Sp) (w : World) (f0 : Spans w v0 l) (l0 : l.length ≤ 9223372036854775807) :
    Calls Try.prog 7 #[v0] w fun e w' => e = .returned (.bool true) ∧ Below w.heap.size w w' := by
  obtain ⟨va, vc, rfl⟩ := f0.shape
  have HF := Lib.hid f0
  have hvc := f0.cap_le
  clear f0
  go_enter Try.func7, Try.ntmps7
  go_upto_if 16 with fail
  go_cut [0] (fun s0 wx => ∃ m a c, s0 = .slice a m.length c ∧ Spans w (.slice a m.length c) m ∧ m.length ≤ 12 ∧ w = wx)
  case first =>
    by_cases h12 : 12 < l.length
    · have hlen : (l.take 12).length = 12 := by rw [List.length_take]; omega
      have HC := Lib.hid (cut_off HF.out (k := 12) (by omega))
      have hcp : 12 ≤ vc := by omega
      go_wp2_with fail
      go_meet
      exact ⟨l.take 12, _, _, by rw [hlen], by rw [hlen]; exact HC.out, by omega, rfl⟩
    · go_wp2_with fail
      go_meet
      exact ⟨l, _, _, rfl, HF.out, by omega, rfl⟩
  case rest =>
    obtain ⟨m, a, c, rfl, hm, hm12, rfl⟩ := hcut
    clear HF hvc l0
    have HRD := Lib.hid (show ∀ k (hk : k < m.length), ∃ b off, a = some ⟨b, off, none⟩ ∧ ∀ W, Below w.heap.size w W → W.cell? ⟨b, off + k * 2, none⟩ = some (.int .i64 m[k].1) ∧ W.cell? ⟨b, off + k * 2 + 1, none⟩ = some (.int .i64 m[k].2) from by
      intro k hk
      rcases hm with ⟨rfl, _⟩ | ⟨b, off, cap, hv, _, _, hlt, hs⟩
      · simp at hk
      · injection hv with e1 e2 e3
        exact ⟨b, off, e1, fun W hW => ⟨(hW.cell (p := ⟨b, off + k * 2, none⟩) hlt).trans (hs k hk).1, (hW.cell (p := ⟨b, off + k * 2 + 1, none⟩) hlt).trans (hs k hk).2⟩⟩)
    clear hm
    go_wp2_with fail
    go_loopw [3, 5] (fun s i wr => ∃ (k : Nat) (x : List Sp), k ≤ m.length ∧ i = .int .i64 (k : Int) ∧ Spans wr s x ∧ Adds (m.take k) x ∧ (∀ u ∈ m.take k, Right u) ∧ Below w.heap.size w wr) (fun _ i _ => m.length - (intOf i).toNat)
    case atStart => exact ⟨0, [], Nat.zero_le _, rfl, Spans.nil _, .nil, by simp, Below.refl _ _⟩
    case round =>
      obtain ⟨k, x, hk, rfl, hx, hA, hR, hB⟩ := hrel
      have HX := Lib.hid hx
      have HA := Lib.hid hA
      have HR := Lib.hid hR
      obtain ⟨xa, xc, rfl⟩ := hx.shape
      clear hx hA hR
      have htl : (m.take k).length ≤ 12 := by rw [List.length_take]; omega
      have hxl := HA.out.len
      by_cases hlt2 : k < m.length
      · obtain ⟨b, off, rfl, hc⟩ := HRD.out k hlt2
        obtain ⟨c0, c1⟩ := hc wr hB
        clear hc
        have hd := take_more m k hlt2
        obtain ⟨p, hp⟩ : ∃ p, p = m[k].1 := ⟨_, rfl⟩
        obtain ⟨q, hq⟩ : ∃ q, q = m[k].2 := ⟨_, rfl⟩
        rw [show m[k] = (m[k].1, m[k].2) from rfl, ← hp, ← hq] at hd
        rw [← hp] at c0
        rw [← hq] at c1
        have HD := Lib.hid hd
        clear hp hq hd
        go_wp2_with fail
        refine (add_any _ x p q _ HX.out (by omega)).mono ?_
        rintro e w1 ⟨v1, rfl, h1, hb⟩
        have hB1 := Bl.next hB hb
        cases hr : rightB (p, q) with
        | false =>
          rw [add_wrong hr]
          clear hr h1 hb
          go_wp2_with fail
          go_ret
          exact ⟨rfl, hB1⟩
        | true =>
          obtain ⟨r1, r2, r3, r4⟩ := add_right HA.out HR.out htl hr
          rw [r1]
          rw [r2] at h1
          have H1 := Lib.hid h1
          have HA1 := Lib.hid r3
          have hr2 := (rightB_iff _).1 hr
          have HR1 := Lib.hid (show ∀ u ∈ m.take (k + 1), Right u from by
            rw [HD.out]
            intro u hu
            rcases List.mem_append.1 hu with hu | hu
            · exact HR.out u hu
            · simp at hu; subst hu; exact hr2)
          clear hr r1 r2 r3 r4 h1 hb hr2
          go_wp2_with fail
          go_roundw
          case rel => exact ⟨k + 1, addOf x (p, q), by omega, by go_num, H1.out, by rw [HD.out]; exact HA1.out, HR1.out, hB1⟩
          case measure => simp [intOf]; omega
      · have hall : m.take k = m := List.take_of_length_le (by omega)
        rw [hall] at HA HR
        clear hall
        go_wp2_with fail
        obtain ⟨W1, hW1⟩ : ∃ W1, W1 = wr := ⟨_, rfl⟩
        subst hW1
        go_loopw [4, 8] (fun s i W2 => ∃ (j : Nat) (z : List Sp), j ≤ m.length ∧ i = .int .i64 ((j : Int) - 1) ∧ Spans W2 s z ∧ Adds (m.drop j).reverse z ∧ Below W1.heap.size W1 W2) (fun _ i _ => (intOf i + 1).toNat)
        case atStart => exact ⟨m.length, [], Nat.le_refl _, rfl, Spans.nil _, by rw [List.drop_length]; exact .nil, Below.refl _ _⟩
        case round =>
          obtain ⟨j, z, hj, rfl, hz, hZ, hB2⟩ := hrel
          have HZ := Lib.hid hz
          have HZA := Lib.hid hZ
          obtain ⟨za, zc, rfl⟩ := hz.shape
          clear hz hZ
          have hBw := Bl.next hB hB2
          have hrl : ∀ j, (m.drop j).reverse.length ≤ 12 := fun j => by rw [List.length_reverse, List.length_drop]; omega
          have hzl := HZA.out.len
          have hzl2 := hrl j
          have HRr := Lib.hid (show ∀ j, ∀ u ∈ (m.drop j).reverse, Right u from fun j u hu => HR.out u (List.mem_of_mem_drop (List.mem_reverse.1 hu)))
          by_cases hj0 : 0 < j
          · obtain ⟨i, rfl⟩ : ∃ i, j = i + 1 := ⟨j - 1, by omega⟩
            have hi : i < m.length := by omega
            obtain ⟨b, off, rfl, hc⟩ := HRD.out i hi
            obtain ⟨c0, c1⟩ := hc wr hBw
            clear hc
            have hd := drop_rev m i hi
            have hmem : m[i] ∈ m := List.getElem_mem _
            obtain ⟨p, hp⟩ : ∃ p, p = m[i].1 := ⟨_, rfl⟩
            obtain ⟨q, hq⟩ : ∃ q, q = m[i].2 := ⟨_, rfl⟩
            rw [show m[i] = (m[i].1, m[i].2) from rfl, ← hp, ← hq] at hd hmem
            rw [← hp] at c0
            rw [← hq] at c1
            have HD := Lib.hid hd
            obtain ⟨r1, r2, r3, r4⟩ := add_right HZA.out (HRr.out (i + 1)) hzl2 ((rightB_iff _).2 (HR.out _ hmem))
            have HA1 := Lib.hid r3
            have ei : ((i + 1 : Nat) : Int) - 1 = (i : Int) := by omega
            rw [ei]
            clear hp hq hd hmem hrl
            go_wp2_with fail
            refine (add_any _ z p q _ HZ.out (by omega)).mono ?_
            rintro e w1 ⟨v1, rfl, h1, hb⟩
            rw [r1]
            rw [r2] at h1
            have H1 := Lib.hid h1
            have hB3 := hB2.trans (hb.mono hB2.size)
            clear r1 r2 r3 r4 h1 hb
            go_wp2_with fail
            go_roundw
            case rel => exact ⟨i, addOf z (p, q), by omega, by go_num, H1.out, by rw [HD.out]; exact HA1.out, hB3⟩
            case measure => simp [intOf]
          · obtain rfl : j = 0 := by omega
            have hxz : x = z := adds_order HA.out (by have := HZA.out; rw [List.drop_zero] at this; exact this)
            subst hxz
            have HX2 := Lib.hid (HX.out.next hB2)
            have ei : ((0 : Nat) : Int) - 1 = -1 := by omega
            rw [ei]
            clear hrl HZA
            go_wp2_with fail
            refine (size_any _ x _ HX2.out (by omega)).mono ?_
            rintro e w1 ⟨rfl, hb⟩
            have hB3 := Bl.next hBw hb
            have HX3 := Lib.hid (HX2.out.next hb)
            have HZ3 := Lib.hid (HZ.out.next hb)
            clear hb HX2 HZ
            go_wp2_with fail
            refine (size_any _ x _ HZ3.out (by omega)).mono ?_
            rintro e w2 ⟨rfl, hb⟩
            have hB4 := Bl.next hB3 hb
            have HX4 := Lib.hid (HX3.out.next hb)
            have G := Lib.hid ((Got.start (w := w2)).lit 1 4)
            have hbl := (Below.refl w2.heap.size w2).alloc (Nat.le_refl _) (.cells #[.int .i64 1, .int .i64 4] 24)
            clear hb HX3 HZ3
            go_wp2_with fail
            refine (size_any _ [(1, 4)] _ (G.out.sp (by simp)) (by decide)).mono ?_
            rintro e w3 ⟨rfl, hb⟩
            rw [size14]
            have hB5 := Bl.next (Bl.next hB4 hbl) hb
            have HX5 := Lib.hid ((HX4.out.next hbl).next hb)
            clear hb hbl HX4 G
            go_wp2_with fail
            go_loopw [11] (fun i W2 => ∃ (k : Nat), k ≤ m.length ∧ i = .int .i64 (k : Int) ∧ Below w3.heap.size w3 W2) (fun i _ => m.length - (intOf i).toNat)
            case atStart => exact ⟨0, Nat.zero_le _, rfl, Below.refl _ _⟩
            case round =>
              obtain ⟨k', hk', rfl, hB6⟩ := hrel
              have hBw2 := Bl.next hB5 hB6
              have HX6 := Lib.hid (HX5.out.next hB6)
              by_cases hlt3 : k' < m.length
              · obtain ⟨b, off, rfl, hc⟩ := HRD.out k' hlt3
                obtain ⟨c0, c1⟩ := hc wr hBw2
                have HCC := Lib.hid hc
                clear hc
                have hmem : m[k'] ∈ m := List.getElem_mem _
                have HCC2 := Lib.hid (show ∀ W, Below w.heap.size w W → W.cell? ⟨b, off + k' * 2, none⟩ = some (.int .i64 m[k'].1) ∧ W.cell? ⟨b, off + k' * 2 + 1, none⟩ = some (.int .i64 m[k'].2) from HCC.out)
                obtain ⟨p, hp⟩ : ∃ p, p = m[k'].1 := ⟨_, rfl⟩
                obtain ⟨q, hq⟩ : ∃ q, q = m[k'].2 := ⟨_, rfl⟩
                rw [show m[k'] = (m[k'].1, m[k'].2) from rfl, ← hp, ← hq] at hmem
                rw [← hp] at c0
                rw [← hq] at c1
                have HCC3 := Lib.hid (show ∀ W, Below w.heap.size w W → W.cell? ⟨b, off + k' * 2, none⟩ = some (.int .i64 p) ∧ W.cell? ⟨b, off + k' * 2 + 1, none⟩ = some (.int .i64 q) from by rw [hp, hq]; exact HCC2.out)
                obtain ⟨r1, r2, r3⟩ := add_twice HA.out HR.out hm12 hmem
                have R3 := Lib.hid r3
                clear hp hq hmem HCC HCC2 r3
                go_wp2_with fail
                refine (add_any _ x p q _ HX6.out (by omega)).mono ?_
                rintro e w4 ⟨v4, rfl, h4, hb⟩
                rw [r1]
                rw [r2] at h4
                obtain ⟨ya, yc, rfl⟩ := h4.shape
                have H4 := Lib.hid h4
                have hB7 := hB6.trans (hb.mono hB6.size)
                have HX7 := Lib.hid (HX6.out.next hb)
                clear r1 r2 h4 hb c0 c1
                go_wp2_with fail
                refine (size_any _ x _ H4.out (by omega)).mono ?_
                rintro e w5 ⟨rfl, hb⟩
                have hB8 := hB7.trans (hb.mono hB7.size)
                have HX8 := Lib.hid (HX7.out.next hb)
                clear hb H4 HX7
                go_wp2_with fail
                refine (size_any _ x _ HX8.out (by omega)).mono ?_
                rintro e w6 ⟨rfl, hb⟩
                have hB9 := hB8.trans (hb.mono hB8.size)
                have HX9 := Lib.hid (HX8.out.next hb)
                clear hb HX8
                obtain ⟨c0, c1⟩ := HCC3.out w6 (Bl.next hB5 hB9)
                go_wp2_with fail
                refine (has_any _ x p q _ HX9.out (by omega)).mono ?_
                rintro e w7 ⟨rfl, hb⟩
                rw [R3.out]
                have hB10 := hB9.trans (hb.mono hB9.size)
                clear hb HX9 c0 c1
                go_wp2_with fail
                go_roundw
                case rel => exact ⟨k' + 1, by omega, by go_num, hB10⟩
                case measure => simp [intOf]; omega
              · go_wp2_with fail
                go_ret
                exact ⟨rfl, hBw2⟩

set_option maxRecDepth 100000 in
theorem lifted (os : Os) (started : os.Started) (H : Type) (enc : TypeId × Value → H) :
    ReturnsInHanded {} Try.checked os 7 .any (Rows.spanOrderSpec.pre6 enc Try.prog Try.f7 Rows.spanOrderRow.domain false) (Rows.spanOrderSpec.post enc Try.prog Try.f7 false true false false) := by
  refine returnsInHanded_of_change_sized (C := Try.checked) own started (by kernel_rfl) Try.func7
    (ChangeSpec.witness6 (enc := enc) (C := Try.checked) false ⟨#[], #[.slice none 0 0], []⟩ 8 (by kernel_rfl) (by kernel_rfl) (by kernel_rfl) (by kernel_rfl)) ?_
  intro W base args ds gs before hval0 hW hcnd hsz _
  have hval : ∀ (j : Nat) t v, Try.f7.params[j]? = some t → args[j]? = some v → Value.okWide Try.prog W .any base t v := hval0
  have hW' := hW
  obtain ⟨p, q, hA0, hV, rfl, hfz, hnd⟩ := hW
  have hA : DataW.TrodAll enc Try.prog W 0 (fun _ => true) true Try.f7.params.toList args.toList ds p := hA0
  rw [Try.params7] at hA hval hsz
  obtain ⟨v0, vs0, d0, ds0, p0, q0, hargs, rfl, rfl, h0, r0⟩ := trodAll_cons hA
  obtain ⟨rfl, rfl, rfl⟩ := trodAll_nil r0
  obtain rfl : args = #[v0] := by cases args; simp_all
  obtain ⟨rfl, rfl⟩ := trodVars_none hV
  have k0 := h0
  have lt0 : ∀ x ∈ p0, x.block < W.heap.size := by obtain ⟨m, hm⟩ := k0; exact DataW.trod_lt m _ _ _ hm
  obtain ⟨ls0, f0, l0⟩ := Sn.open_spans (hval 0 22 v0 rfl rfl) h0
  clear hA0 hval0
  simp only [List.append_nil] at hW'
  refine (walk v0 ls0 W f0 l0).mono fun e W' ⟨he, bel⟩ => ?_
  subst he
  exact ⟨_, rfl, _, _, _, [], _, [], hW', trodAll_mk1 (shut_bool Try.underlying4 _), (trodAll_cons_mk (Below.trod laidOut (by kernel_rfl) (of_decide_eq_true (by kernel_rfl)) k0 bel lt0) trodAll_mk0), rfl, bel.frame _, fun h => by cases h⟩

theorem over : Rows.spanOrderRow.holds Try.pinned (OpenSpec.ofChange Rows.spanOrderSpec) :=
  OpenClaim.holds_of_wide 7 Try.f7 rfl rfl rfl rfl rfl rfl rfl ⟨rfl, rfl, rfl, rfl, rfl⟩ rfl rfl rfl rfl rfl (by kernel_rfl) Try.func7 (by kernel_rfl)
    (of_decide_eq_true (by kernel_rfl)) (by unfold Func.isWrapper; first | (rw [if_pos (by decide +kernel)]; kernel_rfl) | (rw [if_neg (by decide +kernel)]; exact ⟨rfl, rfl⟩))
    (fun os started H enc _ => lifted os started H enc)

theorem proved : Rows.SpanOrderSaid := over
end Go.Proofs.Ytifceaffglomaaa.spanOrder
