/-
  FramingBack: chunks of any pieces and the last one, cut anyhow, are read as the pieces, up to their end.
  Conditions: the listed tables hold what the program's text lays (the card ties them).
-/
import Derived.Deep.DeepCutAuto
import Derived.Deep.RegionWith
import Derived.Test.YtcolnidgembniaaDoorFrAllP5
import Derived.SizedLaws
import Derived.Carry
import Derived.Test.YtcolnidgembniaaDoorFrAllP7
import Derived.Test.YtcolnidgembniaaDoorFrAllP6
import Derived.Test.YtcolnidgembniaaDoorFrAllP4
import Derived.WideKeyPair
import Derived.Deep.DeepWitnessRowRef
namespace Go.Proofs.YtcolnidgembniaaDoor.framingBack
open Go.ChangeShapes Go.WideShapes Go.ChangeAt Go.RowKit
open Go.ChangeMaps (open_string shut_string)
set_option linter.unusedVariables false

open Go.Proofs.YtcolnidgembniaaDoor.Fr Go.Proofs.YtcolnidgembniaaDoor.Hd Go.Proofs.YtcolnidgembniaaDoor.Fd Go.Proofs.YtcolnidgembniaaDoor.Tk

theorem int_of (k : IntKind) (n : Int) : intOf (.int k n) = n := rfl
theorem wrap_small {n : Nat} (h : n ≤ 9223372036854775807) : wrap64 (n : Int) = (n : Int) := by unfold wrap64; omega
/-- How far the loop's counter is, also where it wraps. -/
def cnt (i : Int) : Nat := if i < 0 then 9223372036854775808 else i.toNat
theorem cnt_wrap {n : Nat} (h : n ≤ 9223372036854775808) : cnt (wrap64 (n : Int)) = n := by
  by_cases hn : n = 9223372036854775808
  · subst hn
    rw [show wrap64 ((9223372036854775808 : Nat) : Int) = -9223372036854775808 from by unfold wrap64; omega]
    unfold cnt
    rw [if_pos (by omega)]
  · rw [wrap_small (by omega)]; unfold cnt; rw [if_neg (by omega)]; omega
theorem cnt_less {ii n1 : Nat} (h : ii ≤ n1) (hn : n1 ≤ 9223372036854775807) : n1 + 2 - cnt (wrap64 ((ii : Int) + 1)) < n1 + 2 - cnt (ii : Int) := by
  have h1 := cnt_wrap (n := ii + 1) (by omega)
  rw [show ((ii + 1 : Nat) : Int) = (ii : Int) + 1 from by omega] at h1
  rw [h1]
  have h2 : cnt (ii : Int) = ii := by unfold cnt; rw [if_neg (by omega)]; omega
  rw [h2]
  omega
set_option maxHeartbeats 16000000 in
set_option maxRecDepth 100000 in
theorem walk (v0 : Value) (ls : List Bs) (v1 : Value) (n1 : Nat) (v2 : Value) (more : Bs) (w : World) (hD : Fr.D64 w) (hT : Tk.Tab w) (hE : Fr.ErrV w) (f0 : Fr.Bytss w v0 ls) (l0l : ls.length ≤ maxLen) (f1 : Ints w v1 n1) (l1l : n1 ≤ maxLen) (f2 : Byts w v2 more) (l2l : more.length ≤ maxLen) :
    Calls Tryd.prog 7 #[v0, v1, v2] w fun e w' => e = .returned (.bool true) ∧ Below w.heap.size w w' := by
  have HD := Lib.hid hD
  have hdl := hD.lt
  have HT := Lib.hid hT
  have htl := hT.lt
  have HE := Lib.hid hE
  obtain ⟨pa, pc, hv0⟩ := f0.shape
  obtain ⟨na, nc, hv1⟩ := f1.shape
  obtain ⟨ma, mc, hv2⟩ := f2.shape
  have HL := Lib.hid f0
  have HI := Lib.hid f1
  have HMo := Lib.hid f2
  unfold maxLen at l0l l1l l2l
  subst hv0 hv1 hv2
  clear hD hT hE f0 f1 f2
  go_enter Tryd.func7, Tryd.ntmps7
  go_wp2_with fail
  go_loopw [7, 8, 9, 10] (fun v7 v8 v9 _ wr => ∃ (i : Nat) (G W : Bs) (a1 : Option Addr) (c1 : Nat) (a2 : Option Addr) (c2 : Nat), v7 = .slice a1 G.length c1 ∧ v8 = .slice a2 W.length c2 ∧ v9 = .int .i64 (i : Int) ∧ i ≤ 20 ∧ Fr.Chunked G W i ∧ Fr.Pair w (.slice a1 G.length c1) G (.slice a2 W.length c2) W wr) (fun _ _ v9 _ _ => 20 - (intOf v9).toNat)
  case atStart => exact ⟨0, [], [], none, 0, none, 0, rfl, rfl, rfl, by omega, chunked_nil, ⟨Below.refl _ _, Own.nil _ _, Own.nil _ _, fun k hk => by cases hk⟩⟩
  case round =>
    obtain ⟨i, G, W, a1, c1, a2, c2, rfl, rfl, rfl, hi, hch, hp⟩ := hrel
    have HCH := Lib.hid hch
    have HP := Lib.hid hp
    have hgl := hch.1
    have hwl := hch.2.1
    clear hch hp
    go_upto_region 3 with fail
    go_cut [30] (fun s30 wx => s30 = .bool (decide (i < ls.length ∧ i < 20)) ∧ wr = wx)
    case first =>
      by_cases h1 : i < ls.length
      · by_cases h2 : i < 20
        · have hd := Lib.hid (show decide (i < ls.length ∧ i < 20) = true from by simp; omega)
          go_wp2_with fail
          go_meet
          exact ⟨by rw [hd.out]; simp; omega, rfl⟩
        · have hd := Lib.hid (show decide (i < ls.length ∧ i < 20) = false from by simp; omega)
          go_wp2_with fail
          go_meet
          exact ⟨by rw [hd.out]; simp; omega, rfl⟩
      · have hd := Lib.hid (show decide (i < ls.length ∧ i < 20) = false from by simp; omega)
        go_wp2_with fail
        go_meet
        exact ⟨by rw [hd.out], rfl⟩
    case rest =>
      obtain ⟨rfl, rfl⟩ := hcut
      obtain ⟨B0, hB0⟩ : ∃ B0, B0 = decide (i < ls.length ∧ i < 20) := ⟨_, rfl⟩
      rw [← hB0]
      cases B0 with
      | true =>
        have hlt : i < ls.length ∧ i < 20 := by simpa using hB0.symm
        clear hB0
        rcases HL.out with ⟨h0, _⟩ | ⟨b, off, cap, hv, hB, hh⟩
        · rw [h0] at hlt; simp at hlt
        injection hv with e1 _ e3
        subst e1 e3
        obtain ⟨u, hu, hbu⟩ := hh i hlt.1
        have hu' : wr.cell? ⟨b, off + i, none⟩ = some u := by rw [HP.out.bel.cell (p := ⟨b, off + i, none⟩) (by show b < _; omega)]; exact hu
        obtain ⟨P, hPP⟩ : ∃ P, P = ls[i]'hlt.1 := ⟨_, rfl⟩
        rw [← hPP] at hbu
        obtain ⟨qa, qc, hq⟩ := hbu.shape
        have HBU := Lib.hid hbu
        subst hq
        clear hu hh hPP hbu
        go_upto_if 39 with fail
        go_cut [10] (fun s10 wx => ∃ (q : Bs) (ra : Option Addr) (rc : Nat), s10 = .slice ra q.length rc ∧ q.length ≤ 300 ∧ Byts w (.slice ra q.length rc) q ∧ wr = wx)
        case first =>
          by_cases h3 : 300 < P.length
          · rcases HBU.out with ⟨h0, _⟩ | ⟨B, off', cap', hv, hcap, hcm, hB', hh'⟩
            · rw [h0] at h3; simp at h3
            injection hv with e1 _ e3
            subst e1 e3
            have HB0 := Lib.hid (byts_cut (k := 0) (d := 300) HBU.out hB' hcap hcm (by omega))
            have HLL := Lib.hid (show ((P.drop 0).take 300).length = 300 from by rw [List.length_take, List.length_drop]; omega)
            unfold maxLen at hcm
            go_wp2_with fail
            go_meet
            refine ⟨(P.drop 0).take 300, some ⟨B, off', none⟩, qc, by rw [HLL.out], by rw [HLL.out]; omega, by rw [HLL.out]; exact HB0.out, rfl⟩
          · have hPm : P.length ≤ 9223372036854775807 := by omega
            go_wp2_with fail
            go_meet
            exact ⟨P, _, _, rfl, by omega, HBU.out, rfl⟩
        case rest =>
          obtain ⟨q, ra, rc, rfl, hq3, hq, rfl⟩ := hcut
          have HQ := Lib.hid hq
          have HCN := Lib.hid (chunked_next HCH.out q hq3)
          obtain ⟨CQ, hCQ⟩ : ∃ CQ, CQ = chunkL q := ⟨_, rfl⟩
          rw [← hCQ] at HCN
          have HCQ := Lib.hid hCQ
          have hcn := HCN.out.2.1
          rw [List.length_append] at hcn
          have HCNL := Lib.hid hcn
          have hsz := HP.out.bel.size
          clear hq hCQ hcn HBU
          go_wp2_with (at_builtin; refine wpList_append_any _ rfl _ _ 39 rfl w.heap.size _ _ G q rfl rfl hsz HP.out.a (src_byts (HQ.out.below HP.out.bel (Nat.le_refl _))) (by omega) ?_; intro v5 x5 hp5; have hP5 := HP.out.app hp5; obtain ⟨a5, c5, hv5⟩ := hP5.a.form; subst hv5; have HP5 := Lib.hid hP5; clear hp5 hP5)
          refine (chunk_any _ q x5 (HQ.out.below HP5.out.bel (Nat.le_refl _)) (by omega) (HD.out.below HP5.out.bel hdl)).mono ?_
          rintro e x6 ⟨u6, rfl, ho6, hb6⟩
          rw [← HCQ.out] at ho6
          obtain ⟨ua, uc, hu6⟩ := ho6.form
          subst hu6
          have HU6 := Lib.hid ho6.byts
          have HP6 := Lib.hid (HP5.out.below hb6)
          have hsz6 := HP6.out.bel.size
          clear ho6 hb6 HP5 HP
          go_wp2_with (at_builtin; refine wpList_append_any _ rfl _ _ 39 rfl w.heap.size _ _ W CQ rfl rfl hsz6 HP6.out.b (src_byts HU6.out) (by have := HCNL.out; omega) ?_; intro v7 x7 hp7; have hP7 := HP6.out.appB hp7; obtain ⟨a7, c7, hv7⟩ := hP7.b.form; subst hv7; have HP7 := Lib.hid hP7; clear hp7 hP7)
          go_roundw
          case rel => exact ⟨i + 1, G ++ q, W ++ CQ, a5, c5, a7, c7, by rw [List.length_append], by rw [List.length_append], by go_num, by omega, HCN.out, HP7.out⟩
          case measure => simp [intOf]; omega
      | false =>
        clear hB0
        have hsz := HP.out.bel.size
        obtain ⟨LL, hLL⟩ : ∃ LL, LL = lastL := ⟨_, rfl⟩
        have HLL := Lib.hid hLL
        have hll : LL.length ≤ 5 := by rw [hLL]; decide
        have HLast := Lib.hid (last_any wr)
        have hrun := fun r => chunked_run HCH.out hi r
        rw [← hLL] at hrun
        obtain ⟨V, hV⟩ : ∃ V, V = W ++ LL := ⟨_, rfl⟩
        have hrun2 : ∀ r, run (.size 1048576 []) (V ++ r) = (G, V.length, .done) := fun r => by rw [hV]; exact hrun r
        have HRUN := Lib.hid hrun2
        have hVl : V.length ≤ W.length + 5 := by rw [hV, List.length_append]; omega
        have HV := Lib.hid hV
        clear hLL hrun hrun2 hV
        go_wp2_with fail
        refine HLast.out.mono ?_
        rintro e x6 ⟨u6, rfl, ho6, hb6⟩
        rw [← HLL.out] at ho6
        obtain ⟨ua, uc, hu6⟩ := ho6.form
        subst hu6
        have HU6 := Lib.hid ho6.byts
        have HP6 := Lib.hid (HP.out.below hb6)
        have hsz6 := HP6.out.bel.size
        clear ho6 hb6 HP HLast
        go_upto_if 56 with (at_builtin; refine wpList_append_any _ rfl _ _ 39 rfl w.heap.size _ _ W LL rfl rfl hsz6 HP6.out.b (src_byts HU6.out) (by omega) ?_; intro v7 x7 hp7; have hP7 := HP6.out.appB hp7; rw [← HV.out] at hP7; obtain ⟨a7, c7, hv7⟩ := hP7.b.form; subst hv7; have HP7 := Lib.hid hP7; clear hp7 hP7)
        go_cut [8] (fun s8 wx => ∃ (M : Bs) (a8 : Option Addr) (c8 : Nat), s8 = .slice a8 M.length c8 ∧ run (.size 1048576 []) M = (G, V.length, .done) ∧ M.length ≤ 9000 ∧ Fr.Pair w (.slice a1 G.length c1) G (.slice a8 M.length c8) M wx)
        case first =>
          by_cases hm : more.length < 1000
          · have hsz7 := HP7.out.bel.size
            go_wp2_with (at_builtin; refine wpList_append_any _ rfl _ _ 39 rfl w.heap.size _ _ V more rfl rfl hsz7 HP7.out.b (src_byts (HMo.out.below HP7.out.bel (Nat.le_refl _))) (by omega) ?_; intro v8 x8 hp8; have hP8 := HP7.out.appB hp8; obtain ⟨a8, c8, hv8⟩ := hP8.b.form; subst hv8; have HP8 := Lib.hid hP8; clear hp8 hP8)
            go_meet
            exact ⟨V ++ more, a8, c8, by rw [List.length_append], HRUN.out more, by rw [List.length_append]; omega, HP8.out⟩
          · go_wp2_with fail
            go_meet
            exact ⟨V, _, _, rfl, by have := HRUN.out []; rwa [List.append_nil] at this, by omega, HP7.out⟩
        case rest =>
          obtain ⟨M, a8, c8, rfl, hrunM, hM9, hP8⟩ := hcut
          obtain ⟨long, hlong⟩ : ∃ long, long = V.length := ⟨_, rfl⟩
          rw [← hlong] at hrunM ⊢
          have HR := Lib.hid hrunM
          have HP8 := Lib.hid hP8
          have hN2 := new_any 2 0 wc
          unfold NewPost at hN2
          rw [made_chunked] at hN2
          have HN2 := Lib.hid hN2
          have HTc := Lib.hid (HT.out.below hP8.bel htl)
          have HEc := Lib.hid (HE.out.below hP8.bel)
          have hsc := hP8.bel.size
          clear hrunM hP8 hN2 hlong HP7 HP6 HU6 HRUN HV hVl HCH
          go_wp2_with fail
          refine HN2.out.mono ?_
          rintro e x1 ⟨gd, rfl, hDx, h1⟩
          have HA0 := Lib.hid (cut_new (b := M) (lone_start (show Fr.Good (Fr.St.size 1048576 []) from ⟨by omega, by simp⟩) hDx (Below.refl _ _) h1))
          clear hDx h1 HN2
          go_wp2_with fail
          go_loopw [14, 15, 16, 17, 18, 19, 20, 21, 22] (fun v14 v15 v16 v17 _ _ _ _ _ wr => ∃ (k ii : Nat) (A : Bs) (ga : Option Addr) (gc : Nat) (st : St) (O : Nat → Prop), v14 = .slice ga A.length gc ∧ v15 = .int .i64 (k : Int) ∧ v16 = .bool (doneOf st) ∧ v17 = .int .i64 (wrap64 (ii : Int)) ∧ ii ≤ n1 + 1 ∧ (n1 < ii → over st = true ∨ k = M.length) ∧ Fr.CutAt wc gd (.size 1048576 []) M (.slice none 0 0) [] k A (.slice ga A.length gc) st O wr) (fun _ _ _ v17 _ _ _ _ _ _ => n1 + 2 - cnt (intOf v17))
          case atStart => exact ⟨0, 0, [], none, 0, .size 1048576 [], _, rfl, rfl, rfl, by rw [wrap_small (n := 0) (by omega)]; rfl, by omega, fun h => by omega, HA0.out⟩
          case round =>
            obtain ⟨k, ii, A, ga, gc, st, O, rfl, rfl, rfl, rfl, hii, hio, hA⟩ := hrel
            have HA := Lib.hid hA
            have HIO := Lib.hid hio
            have hk := hA.le
            have hal := hA.accLe
            have he0 := cut_whole hA HR.out
            have hgd := hA.lone.good
            clear hA hio HA0
            obtain ⟨D, hD⟩ : ∃ D, D = doneOf st := ⟨_, rfl⟩
            rw [← hD]
            by_cases hgo : k < M.length ∧ D = false
            · obtain ⟨hlt, rfl⟩ := hgo
              have hov := over_no hgd hD.symm he0
              have hin : ii ≤ n1 := by
                by_cases h : n1 < ii
                · rcases HIO.out h with h1 | h1
                  · rw [hov] at h1; cases h1
                  · omega
                · omega
              have hMS := Lib.hid (cnt_less hin (by omega))
              rw [wrap_small (n := ii) (by omega)]
              rcases HP8.out.b with ⟨h0, hM0⟩ | ⟨B, cap, hv, hB1, hB2, hcap, hcm, _, _⟩
              · rw [hM0] at hlt; simp at hlt
              injection hv with e1 _ e3
              subst e1 e3
              have HPC := Lib.hid (piece_any n1 ii k M.length _ wr ((HI.out.below HP8.out.bel (Nat.le_refl _)).below HA.out.lone.bel (Nat.le_refl _)) hk hM9 (by unfold maxLen; omega) hii)
              clear hgd he0 hD
              go_wp2_with fail
              refine HPC.out.mono ?_
              rintro e x4 ⟨d, nn, rfl, hx4, hkd, hd2⟩
              have HD2 := Lib.hid hd2
              have HA4 := Lib.hid (show Fr.CutAt wc gd (.size 1048576 []) M (.slice none 0 0) [] k A (.slice ga A.length gc) st O x4 from by rw [hx4]; exact HA.out.drewN nn)
              obtain ⟨P, hP⟩ : ∃ P, P = (M.drop k).take d := ⟨_, rfl⟩
              have hFA := HA4.out.lone.far
              have hBY := byts_cut (k := k) (d := d) (HP8.out.b.byts.below HA4.out.lone.bel (Nat.le_refl _)) (Nat.lt_of_lt_of_le hB2 HA4.out.lone.bel.size) hcap hcm hkd
              rw [← hP] at hBY
              have hCF := cut_feed HA4.out d hkd (.slice (some ⟨B, 0 + k, none⟩) d (c8 - k)) P hP hBY (fun _ j hj hO => by
                injection hj with hj
                have hj' : B = j := hj
                have := (hFA j hO).1
                omega) (by omega) HTc.out HEc.out
              obtain ⟨o, m, S1, ho⟩ : ∃ o m S1, run st P = (o, m, S1) := ⟨_, _, _, rfl⟩
              have hmle := run_le P st
              have hole := run_out P st
              have hPl : P.length = d := by rw [hP, List.length_take, List.length_drop]; omega
              rw [ho] at hCF hmle hole
              rw [hPl] at hmle
              obtain ⟨D1, hD1⟩ : ∃ D1, D1 = doneOf S1 := ⟨_, rfl⟩
              obtain ⟨E1, hE1⟩ : ∃ E1, E1 = errOf S1 := ⟨_, rfl⟩
              obtain ⟨OL, hOL⟩ : ∃ OL, OL = o.length := ⟨_, rfl⟩
              simp only [← hD1, ← hE1, ← hOL] at hCF
              have HCF := Lib.hid hCF
              have HD1 := Lib.hid hD1
              have HE1 := Lib.hid hE1
              have HOL := Lib.hid hOL
              have hm' : m ≤ d := hmle
              have hom : OL ≤ m := by rw [hOL]; exact hole
              unfold maxLen at hcm
              rw [Nat.zero_add] at HCF
              clear hx4 hd2 hP hPl hFA hBY hCF ho hmle hole hD1 hE1 hOL hov HPC
              go_wp2_with fail
              refine HCF.out.mono ?_
              rintro e x6 ⟨ra, rc, O3, rfl, hM, hall⟩
              have hE10 : E1 = 0 := by rw [HE1.out]; exact mid_whole hM HR.out
              subst hE10
              have HIO2 := Lib.hid (fun (h : n1 < ii + 1) => (show over S1 = true ∨ k + m = M.length from by
                cases ho : over S1 with
                | true => exact .inl rfl
                | false => rw [show m = d from hall ho]; exact .inr (HD2.out (by omega))))
              have hmd : D1 = false → m = d := fun h => hall (over_no hM.lone.good (by rw [← HD1.out, h]) (by rw [← HE1.out]))
              have HM := Lib.hid hM
              have hsz := hM.lone.bel.size
              clear hM hall HCF
              cases D1 with
              | true =>
                go_wp2_with (at_builtin; refine wpList_append_any _ rfl _ _ 39 rfl wc.heap.size _ _ A o rfl rfl hsz HM.out.got (src_byts HM.out.new.byts) (by have := HOL.out; omega) ?_; intro v7 x7 hp7; have hC7 := HM.out.next hp7; obtain ⟨a7, c7, hv7⟩ := hC7.got.form; subst hv7; have HC7 := Lib.hid hC7; clear hp7 hC7)
                go_roundw
                case rel => exact ⟨k + m, ii + 1, A ++ o, a7, c7, S1, O3, by rw [List.length_append], by go_num, by rw [HD1.out], by rw [show ((ii + 1 : Nat) : Int) = (ii : Int) + 1 from by omega], by omega, HIO2.out, HC7.out⟩
                case measure => rw [int_of, int_of]; exact hMS.out
              | false =>
                have hmd' := hmd rfl
                subst hmd'
                go_wp2_with (at_builtin; refine wpList_append_any _ rfl _ _ 39 rfl wc.heap.size _ _ A o rfl rfl hsz HM.out.got (src_byts HM.out.new.byts) (by have := HOL.out; omega) ?_; intro v7 x7 hp7; have hC7 := HM.out.next hp7; obtain ⟨a7, c7, hv7⟩ := hC7.got.form; subst hv7; have HC7 := Lib.hid hC7; clear hp7 hC7)
                go_roundw
                case rel => exact ⟨k + m, ii + 1, A ++ o, a7, c7, S1, O3, by rw [List.length_append], by go_num, by rw [HD1.out], by rw [show ((ii + 1 : Nat) : Int) = (ii : Int) + 1 from by omega], by omega, HIO2.out, HC7.out⟩
                case measure => rw [int_of, int_of]; exact hMS.out
            · have hends := HA.out.ends (by
                by_cases hlt : k < M.length
                · left
                  apply over_of
                  left
                  rw [← hD]
                  simpa using fun hd => hgo ⟨hlt, hd⟩
                · right; omega)
              rw [HR.out] at hends
              injection hends with hx1 hx2
              injection hx2 with hx2 hx3
              subst hx1 hx2 hx3
              have hDt : D = true := by rw [hD]; rfl
              subst hDt
              have hc1 := conv_own (HP8.out.a.below (HA.out.lone.bel))
              have hc2 := conv_own HA.out.got
              obtain ⟨TX, hTX⟩ : ∃ TX : ByteArray, TX = ⟨G.toArray⟩ := ⟨_, rfl⟩
              rw [← hTX] at hc1 hc2
              have eN : ((long : Int) == (long : Int)) = true := by simp
              have HBe := Lib.hid (HP8.out.bel.trans (HA.out.lone.bel.mono hsc))
              clear hTX hD hgo
              by_cases hlt : long < M.length
              all_goals
                go_wp2_with fail
                go_ret
                exact ⟨rfl, HBe.out⟩

set_option maxHeartbeats 2000000 in
set_option maxRecDepth 100000 in
theorem contract (H : Type) (enc : TypeId × Value → H) (W : World) (base : Nat) (args : Array Value) (ds gs : List (DataW H)) (before : List MemPlace)
    (hval : ∀ (j : Nat) t v, Tryd.f7.params[j]? = some t → args[j]? = some v → Value.okWide Tryd.prog W .any base t v)
    (hW : DataW.Whole enc Tryd.prog Tryd.f7.params.toList Rows.framingBackSpec.vars false W args.toList ds gs before) (ts : List TypeId) (hsz : (DataW.weightsEach Tryd.prog (Tryd.f7.params.toList ++ ts) (ds ++ gs)).all (· ≤ reachBytes) = true) (hL : laidMetH Tryd.prog Rows.framingBackRow.laid W) :
    Calls Tryd.prog 7 args W fun e W' => ∃ v, e = .returned v ∧ Rows.framingBackSpec.post enc Tryd.prog Tryd.f7 false true false false W args v W' := by
  have hW' := hW
  obtain ⟨p, q, hA0, hV, rfl, hfz, hnd⟩ := hW
  have hA : DataW.TrodAll enc Tryd.prog W 0 (fun _ => true) true Tryd.f7.params.toList args.toList ds p := hA0
  rw [Tryd.params7] at hA hval hsz
  obtain ⟨v0, vs0, d0, ds0, p0, q0, hargs, rfl, rfl, h0, r0⟩ := trodAll_cons hA
  obtain ⟨v1, vs1, d1, ds1, p1, q1, rfl, rfl, rfl, h1, r1⟩ := trodAll_cons r0
  obtain ⟨v2, vs2, d2, ds2, p2, q2, rfl, rfl, rfl, h2, r2⟩ := trodAll_cons r1
  obtain ⟨rfl, rfl, rfl⟩ := trodAll_nil r2
  obtain rfl : args = #[v0, v1, v2] := by cases args; simp_all
  obtain ⟨rfl, rfl⟩ := trodVars_none hV
  have k0 := h0
  have lt0 : ∀ x ∈ p0, x.block < W.heap.size := by obtain ⟨m, hm⟩ := k0; exact DataW.trod_lt m _ _ _ hm
  obtain ⟨ls0, f0, l0⟩ := Fr.open_bytss (hval 0 61 v0 rfl rfl) h0
  have k1 := h1
  have lt1 : ∀ x ∈ p1, x.block < W.heap.size := by obtain ⟨m, hm⟩ := k1; exact DataW.trod_lt m _ _ _ hm
  obtain ⟨ls1, f1, l1⟩ := Hd.open_nums (hval 1 62 v1 rfl rfl) h1
  have k2 := h2
  have lt2 : ∀ x ∈ p2, x.block < W.heap.size := by obtain ⟨m, hm⟩ := k2; exact DataW.trod_lt m _ _ _ hm
  obtain ⟨ls2, f2, l2⟩ := Hd.open_byts (hval 2 39 v2 rfl rfl) h2
  clear hA0
  simp only [List.append_nil] at hW'
  refine (walk v0 ls0 v1 ls1 v2 ls2 W (Tb.d64_of_head (Tb.tail hL)) (Tb.tok_of_head (Tb.tail (Tb.tail (Tb.tail (Tb.tail (Tb.tail (Tb.tail hL))))))) (Tb.err_of_head (Tb.tail (Tb.tail (Tb.tail (Tb.tail (Tb.tail hL)))))) f0 l0 f1 l1 f2 l2).mono fun e W' ⟨he, bel⟩ => ?_
  subst he
  exact ⟨_, rfl, _, _, _, [], _, [], hW', trodAll_mk1 (shut_bool Tryd.underlying4 _), (trodAll_cons_mk (Below.trod Tb.laidOut (by kernel_rfl) (of_decide_eq_true (by kernel_rfl)) k0 bel lt0) (trodAll_cons_mk (Below.trod Tb.laidOut (by kernel_rfl) (of_decide_eq_true (by kernel_rfl)) k1 bel lt1) (trodAll_cons_mk (Below.trod Tb.laidOut (by kernel_rfl) (of_decide_eq_true (by kernel_rfl)) k2 bel lt2) trodAll_mk0))), rfl, bel.frame _, fun h => by cases h⟩

theorem laid_met (os : Os) : laidMet Tryd.prog Rows.framingBackRow.laid ((Tb.laidWorld os).forCall (fun _ _ => 0) ⟨#[], #[.slice none 0 0, .slice none 0 0, .slice none 0 0], []⟩).memory :=
  laidMet_of_run' 8 (by kernel_rfl) (by kernel_rfl)
theorem reads (os : Os) {H : Type} (enc : TypeId × Value → H) : ∃ places, DataW.whole enc Tryd.prog ((Tb.laidWorld os).forCall (fun _ _ => 0) ⟨#[], #[.slice none 0 0, .slice none 0 0, .slice none 0 0], []⟩).memory Tryd.f7.params.toList Rows.framingBackSpec.vars false (#[.slice none 0 0, .slice none 0 0, .slice none 0 0] : Array Value).toList 8 = some ([.nil, .nil, .nil], [], places) :=
  ⟨[], by kernel_rfl⟩

set_option maxRecDepth 100000 in
theorem lifted (os : Os) (started : os.Started) (H : Type) (enc : TypeId × Value → H) (F : Stop.Interp) :
    ReturnsInHanded {} Tryd.checked os 7 .any ((OpenSpec.ofChange Rows.framingBackSpec).preRow enc Tryd.prog Tryd.f7 Rows.framingBackRow.domain false Rows.framingBackRow.laid) (((OpenSpec.ofChange Rows.framingBackSpec).at F).post enc Tryd.prog Tryd.f7 false true false false) := by
  obtain ⟨places, hx⟩ := reads os enc
  refine returnsInHanded_of_row (C := Tryd.checked) (s := OpenSpec.ofChange Rows.framingBackSpec) Tb.own started (by kernel_rfl) Tryd.func7
    (witness_row_atRef (enc := enc) (C := Tryd.checked) false (Tb.laidWorld os) #[.slice none 0 0, .slice none 0 0, .slice none 0 0] rfl (by kernel_rfl) (by kernel_rfl) (by kernel_rfl)
      (OpenSpec.preRow_of_cond 8 hx (by kernel_rfl) (fun k hk => by cases hk) (by kernel_rfl) (laid_met os))) ?_
  intro W base args ds gs before hval hW _ _ hsz hL _ _
  exact contract H enc W base args ds gs before hval hW _ hsz hL

theorem said : Rows.FramingBackSaid :=
  OpenClaim.holds_of_cond 7 Tryd.f7 rfl rfl rfl rfl rfl rfl rfl ⟨rfl, rfl, rfl, rfl, rfl⟩ rfl rfl rfl rfl rfl (by kernel_rfl) Tryd.func7 (by kernel_rfl)
    (of_decide_eq_true (by kernel_rfl)) (by unfold Func.isWrapper; first | (rw [if_pos (by decide +kernel)]; kernel_rfl) | (rw [if_neg (by decide +kernel)]; exact ⟨rfl, rfl⟩))
    (fun os started H enc _ F => by rw [OpenClaim.pre_eq_preRow]; exact lifted os started H enc F)

set_option maxRecDepth 100000 in
theorem plain (f : FuncId) (fn : Func) (hf : Tryd.pinned.checked.prog.funcNamed "gatepost/gatepostlaw06.FramingBack" = some f) (hfn : Tryd.pinned.checked.prog.funcs[f]? = some fn) :
    true = Tryd.pinned.checked.prog.looks [] ∧ ∀ (j : Nat) t, fn.params[j]? = some t → Tryd.pinned.checked.prog.wantsStandIn t = false := by
  obtain rfl : f = 7 := Option.some.inj ((show Tryd.prog.funcNamed "gatepost/gatepostlaw06.FramingBack" = some 7 by kernel_rfl).symm.trans hf) |>.symm
  obtain rfl : fn = Tryd.f7 := (Option.some.inj (Tryd.func7.symm.trans hfn)).symm
  refine ⟨by kernel_rfl, fun j t ht => ?_⟩
  rw [Tryd.params7] at ht
  have hm := Array.mem_of_getElem? ht
  simp at hm
  rcases hm with rfl | rfl | rfl
  · exact (show Tryd.prog.wantsStandIn 61 = false by kernel_rfl)
  · exact (show Tryd.prog.wantsStandIn 62 = false by kernel_rfl)
  · exact (show Tryd.prog.wantsStandIn 39 = false by kernel_rfl)

theorem card : Rows.FramingBackCardSaid :=
  Claim7.holds_tied_plain_at .later [] _ _ _ _ said (fun _ h => by cases h) (by kernel_rfl) (fun _ h => by cases h) framingBack_row_tie rfl ⟨rfl, rfl⟩ (by kernel_rfl) rfl plain (by kernel_rfl)
end Go.Proofs.YtcolnidgembniaaDoor.framingBack
