/-
  StoringKeeps: StoringKeeps: a refresh keeps the code, what the 304 does not name and what tells of the body; what it names is as it says.
  Conditions: the listed tables hold what the program's text lays (the card ties them).
-/
import Derived.Deep.DeepCutAuto
import Derived.Deep.RegionWith
import Derived.Test.YtjbdgndejbiikaaDoorSgBP7
import Derived.Test.YtjbdgndejbiikaaDoorSgBP8
import Derived.Test.YtjbdgndejbiikaaDoorSgBP6
import Derived.SizedLaws
import Derived.Carry
import Derived.Test.YtjbdgndejbiikaaDoorSgBP31
import Derived.Test.YtjbdgndejbiikaaDoorSgBP32
import Derived.WideKeyPair
namespace Go.Proofs.YtjbdgndejbiikaaDoor.storingKeeps
open Go.ChangeShapes Go.WideShapes Go.ChangeAt Go.RowKit
open Go.ChangeMaps (open_string shut_string)
set_option linter.unusedVariables false

open Go.Proofs.YtjbdgndejbiikaaDoor.Tk Go.Proofs.YtjbdgndejbiikaaDoor.Fd Go.Proofs.YtjbdgndejbiikaaDoor.Ct Go.Proofs.YtjbdgndejbiikaaDoor.Fh Go.Proofs.YtjbdgndejbiikaaDoor.Sg
/-- The law's own Meta stays in its block. -/
structure Kp (w : World) (m : Mta) (W : World) : Prop where
  met : MetAt W w.heap.size m
  bel : Below w.heap.size w W
theorem Kp.size {w W : World} {m : Mta} (h : Kp w m W) : w.heap.size + 1 ≤ W.heap.size := h.met.lt
theorem Kp.more {w W W' : World} {m : Mta} (h : Kp w m W) {B : Nat} (hb : Below B W W') (hB : w.heap.size + 1 ≤ B) : Kp w m W' := ⟨h.met.more hb (by omega), h.bel.trans (hb.mono (by omega))⟩
theorem Kp.drewN {w W : World} {m : Mta} (h : Kp w m W) (n : Nat) : Kp w m (W.drewN n) := ⟨h.met, Bl.drewN h.bel n⟩
theorem Kp.grown {w W W' : World} {m : Mta} (h : Kp w m W) {row : Option Nat} (hg : W.grownBy W' row) (hr : ∀ k, row = some k → w.heap.size + 1 ≤ k) : Kp w m W' :=
  ⟨(hg.block _ h.met.lt (fun e => by have := hr _ e.symm; omega)).trans h.met, h.bel.grown hg (by have := h.size; omega) (fun k hk => by have := hr k hk; omega)⟩
theorem kp_new (w : World) (m : Mta) : Kp w m (w.alloc (.cells (mcells m) 35)) := ⟨new_block _ _, (Below.refl _ _).alloc (Nat.le_refl _) _⟩
/-- Neither name among the first ones. -/
def NoTwo (l : List Fl) : Prop := ∀ f ∈ l, has etagL f = false ∧ has zzL f = false
theorem notwo_next {fs : List Fl} {k : Nat} (hk : k < fs.length) (h : NoTwo (fs.take k)) (h1 : has etagL fs[k] = false) (h2 : has zzL fs[k] = false) : NoTwo (fs.take (k + 1)) := by
  intro f hf
  rw [Fd.take_next fs k hk, List.mem_append] at hf
  rcases hf with hf | hf
  · exact h f hf
  · simp at hf; subst hf; exact ⟨h1, h2⟩
theorem two_news {W : World} {g : Nat} (h : W.heap[g]? = some (.cells #[.string ⟨#[67, 111, 110, 116, 101, 110, 116, 45, 84, 121, 112, 101]⟩, .string ⟨#[97]⟩, .string ⟨#[69, 84, 97, 103]⟩, .string ⟨#[34, 49, 34]⟩] 27 (0, 0))) : ∀ j u, (flat Sg.two1)[j]? = some u → W.cell? ((⟨g, 0, none⟩ : Addr).add j) = some u := by
  intro j u hu
  have e : flat Sg.two1 = [.string ⟨#[67, 111, 110, 116, 101, 110, 116, 45, 84, 121, 112, 101]⟩, .string ⟨#[97]⟩, .string ⟨#[69, 84, 97, 103]⟩, .string ⟨#[34, 49, 34]⟩] := rfl
  rw [e] at hu
  rw [Addr.add_lit, Nat.zero_add, Lib.cell_of_heap h]
  simpa using hu
theorem flds3 {W : World} {g : Nat} (h : W.heap[g]? = some (.cells #[.string ⟨#[101, 116, 97, 103]⟩, .string ⟨#[34, 50, 34]⟩, .string ⟨#[99, 111, 110, 116, 101, 110, 116, 45, 116, 121, 112, 101]⟩, .string ⟨#[98]⟩, .string ⟨#[90, 122]⟩, .string ⟨#[99]⟩] 27 (0, 0))) : Flds W (.slice (some ⟨g, 0, none⟩) 3 3) new3 := by
  refine .inr ⟨_, 0, 3, rfl, Fd.block_lt h, fun j hj => ?_⟩
  have hj' : j < 3 := hj
  have hc := fun i => Lib.cell_of_heap h i
  rcases (by omega : j = 0 ∨ j = 1 ∨ j = 2) with rfl | rfl | rfl
  · exact ⟨hc 0, hc 1⟩
  · exact ⟨hc 2, hc 3⟩
  · exact ⟨hc 4, hc 5⟩
/-- What a refresh leaves. -/
def outL (fs : List Fl) : List Fl := fs ++ [(ctU, ⟨#[97]⟩)] ++ add2
theorem outL_len (fs : List Fl) : (outL fs).length = fs.length + 3 := by unfold outL add2; simp
theorem outL_at (fs : List Fl) (k : Nat) (hk : k < fs.length) : (outL fs)[k]'(by rw [outL_len]; omega) = fs[k] := by
  unfold outL
  rw [List.getElem_append_left (by rw [List.length_append]; omega), List.getElem_append_left hk]
theorem outL_last (fs : List Fl) (k : Nat) (hk : k < 3) : (outL fs)[fs.length + k]'(by rw [outL_len]; omega) = ([(ctU, ⟨#[97]⟩)] ++ add2)[k]'hk := by
  unfold outL
  simp only [List.append_assoc]
  rw [List.getElem_append_right (by omega)]
  congr 1
  omega
set_option maxHeartbeats 4000000 in
set_option maxRecDepth 100000 in
theorem walk (m0 : Mta) (ok0 : MetOk m0) (v1 : Value) (fs1 : List Fl) (a2 : Int) (w2 : (Lit.int .i64 a2).wf = true) (w : World) (hT : Tk.Tab w) (hmd : Dp.MD w) (hwd : Dp.WD w) (hmn : Dp.MN w) (hfm : Dp.FM w) (f1 : Flds w v1 fs1) (l1 : fs1.length ≤ 140737488355328) (z1 : ∀ f ∈ fs1, f.1.size ≤ 140737488355328 ∧ f.2.size ≤ 140737488355328) (n1 : Shape v1) :
    Calls Tryd.prog 4 #[.agg (mcells m0), v1, .int .i64 a2] w fun e w' => e = .returned (.bool true) ∧ Below w.heap.size w w' := by
  have HT := Lib.hid hT
  have HE := Lib.hid (show Dp.Env w from ⟨hmd, hwd, hmn⟩)
  have HM := Lib.hid hfm
  have HZ := Lib.hid z1
  have HL := Lib.hid l1
  have HF := Lib.hid f1
  have HSH := Lib.hid n1
  obtain ⟨p, c, rfl, hat⟩ := flds_at f1
  have HAT := Lib.hid hat
  have H0 := Lib.hid (kp_new w m0)
  have hk0 : (mcells m0)[0]? = some (.int .i64 m0.code) := rfl
  clear hT hmd hwd hmn hfm z1 f1 n1 hat ok0 w2
  go_enter Tryd.func4, Tryd.ntmps4
  go_wp2_with fail
  refine (fewL_any _ fs1 _ (HF.out.below H0.out.bel (Nat.le_refl _)) HL.out HZ.out).mono ?_
  rintro e W1 ⟨rfl, q1, hw1⟩
  have H1 := Lib.hid (show Kp w m0 W1 from by rw [hw1]; exact H0.out.drewN q1)
  clear hw1 H0
  cases hfew : fewL fs1 with
  | false =>
    go_wp2_with fail
    go_ret
    exact ⟨rfl, H1.out.bel⟩
  | true =>
  have htot := fewL_tot hfew
  have hlen := tot_len fs1
  clear hfew l1
  go_wp2_with fail
  go_loopw [7] (fun i wr => ∃ k : Nat, k ≤ fs1.length ∧ i = .int .i64 (k : Int) ∧ Hid (NoTwo (fs1.take k)) ∧ Hid (Kp w m0 wr)) (fun i _ => fs1.length - (intOf i).toNat)
  case atStart => exact ⟨0, Nat.zero_le _, rfl, Lib.hid (fun f hf => by simp at hf), H1⟩
  case round =>
    obtain ⟨k, hk, rfl, HN, HK⟩ := hrel
    clear H1
    by_cases hlt : k < fs1.length
    · obtain ⟨b, off, rfl, hbl, hc⟩ := HAT.out (by omega)
      have c1 : wr.cell? ⟨b, off + k * 2, none⟩ = some (.string fs1[k].1) := (HK.out.bel.cell (p := ⟨b, off + k * 2, none⟩) hbl).trans (hc k hlt).1
      have hx2 := tot_at fs1 k hlt
      have hs1 := has_same ⟨#[101, 116, 97, 103]⟩ fs1[k]
      have hs2 := has_same ⟨#[122, 122]⟩ fs1[k]
      have HNX := Lib.hid (show has etagL fs1[k] = false → has zzL fs1[k] = false → NoTwo (fs1.take (k + 1)) from notwo_next hlt HN.out)
      obtain ⟨q1, hq1⟩ : ∃ q, q = has etagL fs1[k] := ⟨_, rfl⟩
      obtain ⟨q2, hq2⟩ : ∃ q, q = has zzL fs1[k] := ⟨_, rfl⟩
      have HS1 := Lib.hid (show same fs1[k].1.data.toList (⟨#[101, 116, 97, 103]⟩ : ByteArray).data.toList = q1 from by rw [hq1]; exact hs1)
      have HS2 := Lib.hid (show same fs1[k].1.data.toList (⟨#[122, 122]⟩ : ByteArray).data.toList = q2 from by rw [hq2]; exact hs2)
      rw [← hq1, ← hq2] at HNX
      obtain ⟨x, hx⟩ : ∃ x, x = fs1[k].1 := ⟨_, rfl⟩
      rw [← hx] at c1 hx2 HS1 HS2
      clear hs1 hs2 hq1 hq2 hx hc HN
      go_wp2_with fail
      refine (same_any x ⟨#[101, 116, 97, 103]⟩ _ (by unfold maxLen; omega)).mono ?_
      rintro e W2 ⟨rfl, n2, hw2⟩
      rw [HS1.out]
      have HK2 := Lib.hid (show Kp w m0 W2 from by rw [hw2]; exact HK.out.drewN n2)
      have c2 : W2.cell? ⟨b, off + k * 2, none⟩ = some (.string x) := by rw [hw2]; exact c1
      clear hw2
      cases q1 with
      | true =>
        go_wp2_with fail
        go_ret
        exact ⟨rfl, HK2.out.bel⟩
      | false =>
      go_wp2_with fail
      refine (same_any x ⟨#[122, 122]⟩ _ (by unfold maxLen; omega)).mono ?_
      rintro e W3 ⟨rfl, n3, hw3⟩
      rw [HS2.out]
      have HK3 := Lib.hid (show Kp w m0 W3 from by rw [hw3]; exact HK2.out.drewN n3)
      clear hw3 c1 c2
      cases q2 with
      | true =>
        go_wp2_with fail
        go_ret
        exact ⟨rfl, HK3.out.bel⟩
      | false =>
      have HNN := Lib.hid (show NoTwo (fs1.take (k + 1)) from by first | exact HNX.out rfl rfl | exact HNX.out trivial rfl | exact HNX.out trivial trivial)
      go_wp2_with fail
      go_roundw
      case rel => exact ⟨k + 1, by omega, by go_num, HNN, HK3⟩
      case measure => simp [intOf]; omega
    · have HNA := Lib.hid (show NoTwo fs1 from by have h := HN.out; rwa [List.take_of_length_le (by omega)] at h)
      clear HN
      have hszk := HK.out.size
      obtain ⟨i0, hi, hz0, hz1, hz2⟩ := info_parts infoField
      go_upto_region 8 with fail
      go_cut [8] (fun s wx => OwnF wx (w.heap.size + 1) s (fs1 ++ Sg.two1) ∧ Kp w m0 wx)
      case first =>
        have hB0 : Below wr.heap.size wr (wr.alloc (.cells #[] 27)) := (Below.refl _ _).alloc (Nat.le_refl _) _
        have HK0 := Lib.hid (HK.out.more hB0 hszk)
        have HR0 := Lib.hid (show OwnF (wr.alloc (.cells #[] 27)) (w.heap.size + 1) (.slice (some ⟨wr.heap.size, 0, none⟩) 0 0) [] from World.ownsRow_lit (base := w.heap.size + 1) (e := 27) (size := 2) wr #[] 0 hszk (by unfold maxLen; omega) rfl)
        rcases HSH.out with hv | ⟨a, n', c', hv⟩
        · injection hv with hp hn hc
          have hfs : fs1 = [] := List.length_eq_zero_iff.1 hn
          subst hp hc hfs
          have HR1 := Lib.hid (show OwnF ((wr.alloc (.cells #[] 27)).alloc (.cells #[.string ⟨#[67, 111, 110, 116, 101, 110, 116, 45, 84, 121, 112, 101]⟩, .string ⟨#[97]⟩, .string ⟨#[69, 84, 97, 103]⟩, .string ⟨#[34, 49, 34]⟩] 27)) (w.heap.size + 1) (.slice (some ⟨wr.heap.size, 0, none⟩) 0 0) [] from HR0.out.kept ((Below.refl _ _).alloc (Nat.le_refl _) _))
          have HK1 := Lib.hid (HK0.out.more ((Below.refl (wr.alloc (.cells #[] 27)).heap.size _).alloc (Nat.le_refl _) (.cells #[.string ⟨#[67, 111, 110, 116, 101, 110, 116, 45, 84, 121, 112, 101]⟩, .string ⟨#[97]⟩, .string ⟨#[69, 84, 97, 103]⟩, .string ⟨#[34, 49, 34]⟩] 27)) HK0.out.size)
          go_wp2_with (first | (at_builtin; refine wpList_append_own_none rfl _ _ 22 rfl (w.heap.size + 1) 27 i0 2 Tryd.underlying22 hi _ 0 [] rfl HR0.out rfl ?_) | (at_builtin; refine wpList_append_own _ rfl _ _ 22 rfl (w.heap.size + 1) 27 i0 (.agg #[.string ⟨#[]⟩, .string ⟨#[]⟩]) 2 32 Tryd.underlying22 hi hz0 hz1 hz2 rfl (by decide) _ _ _ rfl HR1.out ⟨wr.heap.size + 1, 0, none⟩ 2 2 (flat Sg.two1) rfl rfl (two_news (new_block' _ _ (by simp))) (flat_one Sg.two1) (by unfold maxLen; decide) (by decide) HK1.out.size ?_; intro v2 w2 hown2 hgrow2 hnil2))
          go_meet
          refine ⟨?_, HK1.out.grown hgrow2 (fun q hq => (OwnF.row HR1.out q hq))⟩
          exact hown2
        · injection hv with hp hn hc
          have HR2 := Lib.hid (Fd.flds_news (show Flds (wr.alloc (.cells #[] 27)) (.slice (some a) fs1.length c) fs1 from by rw [← hp]; exact HF.out.below HK0.out.bel (Nat.le_refl _)))
          subst hp
          clear hn hc
          go_wp2_with (first | (at_builtin; refine wpList_append_own _ rfl _ _ 22 rfl (w.heap.size + 1) 27 i0 (.agg #[.string ⟨#[]⟩, .string ⟨#[]⟩]) 2 32 Tryd.underlying22 hi hz0 hz1 hz2 rfl (by decide) (.slice (some ⟨wr.heap.size, 0, none⟩) 0 0) 0 [] rfl HR0.out a fs1.length c (flat fs1) rfl (flat_length fs1) HR2.out (flat_one fs1) (by unfold maxLen; omega) (by omega) HK0.out.size ?_; intro v1 w1 hown1 hgrow1 hnil1; have HO1 := Lib.hid (show OwnF w1 (w.heap.size + 1) v1 fs1 from by unfold OwnF; rw [List.nil_append, Nat.zero_add] at hown1; exact hown1); have HK1 := Lib.hid (HK0.out.grown hgrow1 (fun q hq => OwnF.row HR0.out q hq)); clear hown1 hgrow1 hnil1) | (at_builtin; refine wpList_append_own _ rfl _ _ 22 rfl (w.heap.size + 1) 27 i0 (.agg #[.string ⟨#[]⟩, .string ⟨#[]⟩]) 2 32 Tryd.underlying22 hi hz0 hz1 hz2 rfl (by decide) _ _ _ rfl (HO1.out.kept ((Below.refl _ _).alloc (Nat.le_refl _) (.cells #[.string ⟨#[67, 111, 110, 116, 101, 110, 116, 45, 84, 121, 112, 101]⟩, .string ⟨#[97]⟩, .string ⟨#[69, 84, 97, 103]⟩, .string ⟨#[34, 49, 34]⟩] 27))) ⟨w1.heap.size, 0, none⟩ 2 2 (flat Sg.two1) rfl rfl (two_news (new_block w1 _)) (flat_one Sg.two1) (by unfold maxLen; omega) (by omega) (by have := HK1.out.size; simp; omega) ?_; intro v2 w2 hown2 hgrow2 hnil2))
          go_meet
          have hK2 := HK1.out.more ((Below.refl w1.heap.size w1).alloc (Nat.le_refl _) (.cells #[.string ⟨#[67, 111, 110, 116, 101, 110, 116, 45, 84, 121, 112, 101]⟩, .string ⟨#[97]⟩, .string ⟨#[69, 84, 97, 103]⟩, .string ⟨#[34, 49, 34]⟩] 27)) HK1.out.size
          refine ⟨?_, hK2.grown hgrow2 (fun q hq => OwnF.row HO1.out q hq)⟩
          unfold OwnF
          rw [List.length_append]
          have e : flat (fs1 ++ Sg.two1) = flat fs1 ++ flat Sg.two1 := by simp [flat]
          rw [e]
          exact hown2
      case rest =>
      obtain ⟨hO, hK⟩ := hcut
      obtain ⟨OL, hOL⟩ : ∃ OL, OL = fs1 ++ Sg.two1 := ⟨_, rfl⟩
      rw [← hOL] at hO
      obtain ⟨p3, c3, rfl⟩ := hO.form
      have HO := Lib.hid hO
      have H9 := Lib.hid hK
      obtain ⟨M, hM⟩ : ∃ M, M = metOf m0.code (outOf OL new3) a2 a2 := ⟨_, rfl⟩
      have hout : outOf OL new3 = fs1 ++ [(ctU, ⟨#[97]⟩)] ++ add2 := by rw [hOL]; exact Sg.keeps fs1 HNA.out
      have hMc : M.code = m0.code := by rw [hM]; rfl
      have hMg : M.got = a2 := by rw [hM]; rfl
      have hMt : M.tag = ⟨#[34, 50, 34]⟩ := by
        rw [hM, hout]
        show (⟨(getT _ tagN).toArray⟩ : ByteArray) = _
        rw [(getN_case _ (a := tagN) (b := etagL) (by decide)).2, keeps_tag fs1 HNA.out]
      have HMd := Lib.hid hM
      have HOU := Lib.hid hout
      have htn : tot OL ≤ 100000 := by
        rw [hOL, tot_append]
        have : tot Sg.two1 ≤ 30 := by decide +kernel
        omega
      have Hc := Lib.hid hMc
      have Hg := Lib.hid hMg
      have Ht := Lib.hid hMt
      have q0 := H9.out.met.load (N := 21) rfl
      obtain ⟨Z, N, hZ⟩ := size_met
      have z1 := hZ.is
      have z2 := hZ.run
      have HN := Lib.hid hZ.num
      have q2 : (mcells M).size = N := hZ.num ▸ rfl
      have y5 : ¬ N = 0 := by rw [hZ.num]; decide
      have q1 := H9.out.met.load hZ.num
      clear hO hK hout hM hMc hMg hMt q0 hZ HNA hOL hi hz0 hz1 hz2 HK
      go_upto_region 9 with fail
      have hG := new_block wc (.cells #[.string ⟨#[101, 116, 97, 103]⟩, .string ⟨#[34, 50, 34]⟩, .string ⟨#[99, 111, 110, 116, 101, 110, 116, 45, 116, 121, 112, 101]⟩, .string ⟨#[98]⟩, .string ⟨#[90, 122]⟩, .string ⟨#[99]⟩] 27)
      have hal : Below wc.heap.size wc (wc.alloc (.cells #[.string ⟨#[101, 116, 97, 103]⟩, .string ⟨#[34, 50, 34]⟩, .string ⟨#[99, 111, 110, 116, 101, 110, 116, 45, 116, 121, 112, 101]⟩, .string ⟨#[98]⟩, .string ⟨#[90, 122]⟩, .string ⟨#[99]⟩] 27)) := (Below.refl _ _).alloc (Nat.le_refl _) _
      have HG := Lib.hid (flds3 hG)
      have HOa := Lib.hid (HO.out.kept hal)
      have Ha := Lib.hid (H9.out.more hal H9.out.size)
      clear hG hal H9 HO
      go_wp2_with fail
      refine (refresh_lit m0 p3 _ c3 OL 0 304 ⟨#[]⟩ _ 3 3 new3 a2 a2 _ HOa.out.flds HG.out htn (by decide +kernel) (HT.out.below Ha.out.bel HT.out.lt) (HE.out.below Ha.out.bel (Nat.le_refl _)) (HM.out.below Ha.out.bel (Nat.le_refl _))).mono ?_
      rintro e w4 ⟨u, rfl, hO4, hb4⟩
      rw [← HMd.out]
      rw [HOU.out] at hO4
      replace hO4 : OwnF w4 _ u (outL fs1) := hO4
      have H4 := Lib.hid (Ha.out.more hb4 Ha.out.size)
      have hll := outL_len fs1
      obtain ⟨n3, hn3⟩ : ∃ n3, n3 = fs1.length + 3 := ⟨_, rfl⟩
      obtain ⟨g4, c4, rfl⟩ : ∃ g4 c4, u = .slice (some ⟨g4, 0, none⟩) n3 c4 := by
        rcases hO4.2 with ⟨_, h0⟩ | ⟨g, cap, cur, hv, _⟩
        · omega
        · exact ⟨g, cap, by rw [hv, hn3, hll]⟩
      have HO4 := Lib.hid hO4
      have HMN := Lib.hid (show MetAt (w4.alloc (.cells (mcells M) 35)) w4.heap.size M from new_block _ _)
      have hal5 : Below w4.heap.size w4 (w4.alloc (.cells (mcells M) 35)) := (Below.refl _ _).alloc (Nat.le_refl _) _
      have HO5 := Lib.hid (HO4.out.kept hal5)
      have H5 := Lib.hid (H4.out.more hal5 H4.out.size)
      have P1 := put_last w4 w4.heap.size rfl #[.int .i64 0, .bool false, .bool false, .bool false, .bool false, .bool false, .bool false, .bool false, .int .i64 0, .int .i64 0, .int .i64 0, .int .i64 0, .int .i64 0, .int .i64 0, .int .i64 0, .int .i64 0, .int .i64 0, .int .i64 0, .int .i64 0, .int .i64 0, .string ⟨#[]⟩] rfl M
      have HLL := Lib.hid hll
      have HN3 := Lib.hid hn3
      clear hO4 hb4 hal5 HO4 H4 HOa Ha HG hll hn3
      go_upto_region 10 with fail
      generalize w4.alloc (.cells (mcells M) 35) = W5 at HMN HO5 H5 ⊢
      obtain ⟨g9, hg9⟩ : ∃ g9, g9 = w4.heap.size := ⟨_, rfl⟩
      rw [← hg9] at HMN
      rw [← hg9]
      clear hg9 P1 q1 q2 z1 z2 HN
      have e0 : W5.cell? ⟨g9, 0, none⟩ = some (.int .i64 m0.code) := by rw [← Hc.out]; exact HMN.out.code
      have e20 : W5.cell? ⟨g9, 20, none⟩ = some (.string ⟨#[34, 50, 34]⟩) := by rw [← Ht.out]; exact HMN.out.at rfl
      have e19 : W5.cell? ⟨g9, 19, none⟩ = some (.int .i64 a2) := by rw [← Hg.out]; exact HMN.out.at rfl
      have e3 : W5.cell? ⟨w.heap.size, 0, none⟩ = some (.int .i64 m0.code) := H5.out.met.code
      have b3 : ((n3 : Int) != (fs1.length : Int) + 3) = false := by
        have h := HN3.out
        rw [bne_eq_false_iff_eq]; omega
      go_upto_region 12 with fail
      clear e0 e20 e19 e3 b3 HMN Hc Hg Ht HOU HMd
      have HLA := Lib.hid (show ∀ k (hk : k < fs1.length), W5.cell? ⟨g4, k * 2, none⟩ = some (.string fs1[k].1) ∧ W5.cell? ⟨g4, k * 2 + 1, none⟩ = some (.string fs1[k].2) from fun k hk => by
        obtain ⟨h1, h2⟩ := own_cell HO5.out k (by rw [HLL.out]; omega)
        rw [outL_at fs1 k hk] at h1 h2
        exact ⟨h1, h2⟩)
      have HLB := Lib.hid (show ∀ k (hk : k < 3), W5.cell? ⟨g4, (fs1.length + k) * 2 + 1, none⟩ = some (.string (([(ctU, ⟨#[97]⟩)] ++ add2)[k]'hk).2) from fun k hk => by
        obtain ⟨_, h2⟩ := own_cell HO5.out (fs1.length + k) (by rw [HLL.out]; omega)
        rw [outL_last fs1 k hk] at h2
        exact h2)
      go_wp2_with fail
      go_loopw [11] (fun i wr => ∃ k q : Nat, k ≤ fs1.length ∧ i = .int .i64 (k : Int) ∧ wr = W5.drewN q) (fun i _ => fs1.length - (intOf i).toNat)
      case atStart => exact ⟨0, 0, Nat.zero_le _, rfl, rfl⟩
      case round =>
        obtain ⟨k2, q2, hk2, rfl, hw⟩ := hrel
        have HW := Lib.hid hw
        by_cases hlt2 : k2 < fs1.length
        · obtain ⟨b, off, rfl, hbl, hc⟩ := HAT.out (by omega)
          have c1 : wr.cell? ⟨b, off + k2 * 2, none⟩ = some (.string fs1[k2].1) := by rw [hw]; exact (H5.out.bel.cell (p := ⟨b, off + k2 * 2, none⟩) hbl).trans (hc k2 hlt2).1
          have c2 : wr.cell? ⟨b, off + k2 * 2 + 1, none⟩ = some (.string fs1[k2].2) := by rw [hw]; exact (H5.out.bel.cell (p := ⟨b, off + k2 * 2 + 1, none⟩) hbl).trans (hc k2 hlt2).2
          have d1 : wr.cell? ⟨g4, k2 * 2, none⟩ = some (.string fs1[k2].1) := by rw [hw]; exact (HLA.out k2 hlt2).1
          have d2 : wr.cell? ⟨g4, k2 * 2 + 1, none⟩ = some (.string fs1[k2].2) := by rw [hw]; exact (HLA.out k2 hlt2).2
          have b1 : (k2 : Int) < (n3 : Int) := by have := HN3.out; omega
          have b0 : (0 : Int) ≤ (k2 : Int) := by omega
          have b2 : (k2 : Int) < (fs1.length : Int) := by omega
          obtain ⟨x, hx⟩ : ∃ x, x = fs1[k2].1 := ⟨_, rfl⟩
          obtain ⟨y, hy⟩ : ∃ y, y = fs1[k2].2 := ⟨_, rfl⟩
          rw [← hx] at c1 d1
          rw [← hy] at c2 d2
          clear hx hy hw hc
          go_wp2_with fail
          go_quiet (fail)
          clear c1 c2 d1 d2
          go_wp2_with fail
          go_roundw
          case rel => exact ⟨k2 + 1, _, by omega, by go_num, by rw [HW.out, World.drewN_drewN]⟩
          case measure => simp [intOf]; omega
        · have t0 : wr.cell? ⟨g4, fs1.length * 2 + 1, none⟩ = some (.string ⟨#[97]⟩) := by rw [hw]; exact HLB.out 0 (by omega)
          have t1 : wr.cell? ⟨g4, (fs1.length + 1) * 2 + 1, none⟩ = some (.string ⟨#[34, 50, 34]⟩) := by rw [hw]; exact HLB.out 1 (by omega)
          have t2 : wr.cell? ⟨g4, (fs1.length + 2) * 2 + 1, none⟩ = some (.string ⟨#[99]⟩) := by rw [hw]; exact HLB.out 2 (by omega)
          have b0 : (0 : Int) ≤ (fs1.length : Int) := by omega
          have b1 : (fs1.length : Int) < (n3 : Int) := by have := HN3.out; omega
          have b2 : (fs1.length : Int) + 1 < (n3 : Int) := by have := HN3.out; omega
          have b3 : (fs1.length : Int) + 2 < (n3 : Int) := by have := HN3.out; omega
          have b4 : (0 : Int) ≤ (fs1.length : Int) + 1 := by omega
          have b5 : (0 : Int) ≤ (fs1.length : Int) + 2 := by omega
          have HB := Lib.hid (show Below w.heap.size w wr from by rw [hw]; exact (H5.out.drewN q2).bel)
          clear hw
          go_wp2_with fail
          go_ret
          exact ⟨rfl, HB.out⟩

set_option maxHeartbeats 2000000 in
set_option maxRecDepth 100000 in
theorem contract (H : Type) (enc : TypeId × Value → H) (W : World) (base : Nat) (args : Array Value) (ds gs : List (DataW H)) (before : List MemPlace)
    (hval : ∀ (j : Nat) t v, Tryd.f4.params[j]? = some t → args[j]? = some v → Value.okWide Tryd.prog W .any base t v)
    (hW : DataW.Whole enc Tryd.prog Tryd.f4.params.toList Rows.storingKeepsSpec.vars false W args.toList ds gs before) (ts : List TypeId) (hsz : (DataW.weightsEach Tryd.prog (Tryd.f4.params.toList ++ ts) (ds ++ gs)).all (· ≤ reachBytes) = true) (hL : laidMetH Tryd.prog Rows.storingKeepsRow.laid W) :
    Calls Tryd.prog 4 args W fun e W' => ∃ v, e = .returned v ∧ Rows.storingKeepsSpec.post enc Tryd.prog Tryd.f4 false true false false W args v W' := by
  have hW' := hW
  obtain ⟨p, q, hA0, hV, rfl, hfz, hnd⟩ := hW
  have hA : DataW.TrodAll enc Tryd.prog W 0 (fun _ => true) true Tryd.f4.params.toList args.toList ds p := hA0
  rw [Tryd.params4] at hA hval hsz
  obtain ⟨v0, vs0, d0, ds0, p0, q0, hargs, rfl, rfl, h0, r0⟩ := trodAll_cons hA
  obtain ⟨v1, vs1, d1, ds1, p1, q1, rfl, rfl, rfl, h1, r1⟩ := trodAll_cons r0
  obtain ⟨v2, vs2, d2, ds2, p2, q2, rfl, rfl, rfl, h2, r2⟩ := trodAll_cons r1
  obtain ⟨rfl, rfl, rfl⟩ := trodAll_nil r2
  have hw1 : ∀ n ∈ d1.weights Tryd.prog 22, n ≤ reachBytes := fun n hn => by simpa using List.all_eq_true.1 hsz n (DataW.weights_mem_each (j := 1) (t := 22) (d := d1) rfl rfl _ hn)
  obtain rfl : args = #[v0, v1, v2] := by cases args; simp_all
  obtain ⟨rfl, rfl⟩ := trodVars_none hV
  have k0 := h0
  have lt0 : ∀ x ∈ p0, x.block < W.heap.size := by obtain ⟨m, hm⟩ := k0; exact DataW.trod_lt m _ _ _ hm
  obtain ⟨c0, rfl, ok0⟩ := Ct.open_met (hval 0 35 v0 rfl rfl) h0
  have k1 := h1
  have lt1 : ∀ x ∈ p1, x.block < W.heap.size := by obtain ⟨m, hm⟩ := k1; exact DataW.trod_lt m _ _ _ hm
  obtain ⟨fs1, f1, l1, z1⟩ := Fd.open_flds (hval 1 22 v1 rfl rfl) h1 hw1
  have n1 := Fd.open_shape (hval 1 22 v1 rfl rfl) k1
  obtain ⟨a2, rfl, rfl, rfl, w2⟩ := open_int Tryd.underlying3 (hval 2 3 v2 rfl rfl) h2
  clear hA0
  simp only [List.append_nil] at hW'
  refine (walk c0 ok0 v1 fs1 a2 w2 W (Tb.tok_of_head (Tb.tail (Tb.tail (Tb.tail (Tb.tail hL))))) (Tb.md_of_head (Tb.tail (Tb.tail hL))) (Tb.wd_of_head hL) (Tb.mn_of_head (Tb.tail hL)) (Tb.fm_of_head (Tb.tail (Tb.tail (Tb.tail hL)))) f1 l1 z1 n1).mono fun e W' ⟨he, bel⟩ => ?_
  subst he
  exact ⟨_, rfl, _, _, _, [], _, [], hW', trodAll_mk1 (shut_bool Tryd.underlying4 _), (trodAll_cons_mk (Below.trod Tb.laidOut (by kernel_rfl) (of_decide_eq_true (by kernel_rfl)) k0 bel lt0) (trodAll_cons_mk (Below.trod Tb.laidOut (by kernel_rfl) (of_decide_eq_true (by kernel_rfl)) k1 bel lt1) (trodAll_cons_mk (shut_int Tryd.underlying3 w2) trodAll_mk0))), rfl, bel.frame _, fun h => by cases h⟩

theorem laid_met (os : Os) : laidMet Tryd.prog Rows.storingKeepsRow.laid ((Tb.laidWorld os).forCall (fun _ _ => 0) ⟨#[], #[.agg #[.int .i64 0, .bool false, .bool false, .bool false, .bool false, .bool false, .bool false, .bool false, .int .i64 0, .int .i64 0, .int .i64 0, .int .i64 0, .int .i64 0, .int .i64 0, .int .i64 0, .int .i64 0, .int .i64 0, .int .i64 0, .int .i64 0, .int .i64 0, .string ByteArray.empty], .slice none 0 0, .int .i64 0], []⟩).memory :=
  laidMet_of_run' 8 (by kernel_rfl) (by kernel_rfl)
theorem reads (os : Os) {H : Type} (enc : TypeId × Value → H) : ∃ places, DataW.whole enc Tryd.prog ((Tb.laidWorld os).forCall (fun _ _ => 0) ⟨#[], #[.agg #[.int .i64 0, .bool false, .bool false, .bool false, .bool false, .bool false, .bool false, .bool false, .int .i64 0, .int .i64 0, .int .i64 0, .int .i64 0, .int .i64 0, .int .i64 0, .int .i64 0, .int .i64 0, .int .i64 0, .int .i64 0, .int .i64 0, .int .i64 0, .string ByteArray.empty], .slice none 0 0, .int .i64 0], []⟩).memory Tryd.f4.params.toList Rows.storingKeepsSpec.vars false (#[.agg #[.int .i64 0, .bool false, .bool false, .bool false, .bool false, .bool false, .bool false, .bool false, .int .i64 0, .int .i64 0, .int .i64 0, .int .i64 0, .int .i64 0, .int .i64 0, .int .i64 0, .int .i64 0, .int .i64 0, .int .i64 0, .int .i64 0, .int .i64 0, .string ByteArray.empty], .slice none 0 0, .int .i64 0] : Array Value).toList 8 = some ([.agg [.lit (.int .i64 0), .agg [.lit (.bool false), .lit (.bool false), .lit (.bool false), .lit (.bool false), .lit (.bool false), .lit (.bool false), .lit (.bool false), .lit (.int .i64 0), .lit (.int .i64 0), .lit (.int .i64 0), .lit (.int .i64 0), .lit (.int .i64 0), .lit (.int .i64 0)], .lit (.int .i64 0), .lit (.int .i64 0), .lit (.int .i64 0), .lit (.int .i64 0), .lit (.int .i64 0), .lit (.int .i64 0), .lit (.string [])], .nil, .lit (.int .i64 0)], [], places) :=
  ⟨[], by kernel_rfl⟩

set_option maxRecDepth 100000 in
theorem lifted (os : Os) (started : os.Started) (H : Type) (enc : TypeId × Value → H) (F : Stop.Interp) :
    ReturnsInHanded {} Tryd.checked os 4 .any ((OpenSpec.ofChange Rows.storingKeepsSpec).preRow enc Tryd.prog Tryd.f4 Rows.storingKeepsRow.domain false Rows.storingKeepsRow.laid) (((OpenSpec.ofChange Rows.storingKeepsSpec).at F).post enc Tryd.prog Tryd.f4 false true false false) := by
  obtain ⟨places, hx⟩ := reads os enc
  refine returnsInHanded_of_row (C := Tryd.checked) (s := OpenSpec.ofChange Rows.storingKeepsSpec) Tb.own started (by kernel_rfl) Tryd.func4
    (witness_row_at (enc := enc) (C := Tryd.checked) false (Tb.laidWorld os) #[.agg #[.int .i64 0, .bool false, .bool false, .bool false, .bool false, .bool false, .bool false, .bool false, .int .i64 0, .int .i64 0, .int .i64 0, .int .i64 0, .int .i64 0, .int .i64 0, .int .i64 0, .int .i64 0, .int .i64 0, .int .i64 0, .int .i64 0, .int .i64 0, .string ByteArray.empty], .slice none 0 0, .int .i64 0] rfl (by kernel_rfl) (by kernel_rfl) (by kernel_rfl)
      (OpenSpec.preRow_of_cond 8 hx (by kernel_rfl) (fun k hk => by cases hk) (by kernel_rfl) (laid_met os))) ?_
  intro W base args ds gs before hval hW _ _ hsz hL _ _
  exact contract H enc W base args ds gs before hval hW _ hsz hL

theorem said : Rows.StoringKeepsSaid :=
  OpenClaim.holds_of_cond 4 Tryd.f4 rfl rfl rfl rfl rfl rfl rfl ⟨rfl, rfl, rfl, rfl, rfl⟩ rfl rfl rfl rfl rfl (by kernel_rfl) Tryd.func4 (by kernel_rfl)
    (of_decide_eq_true (by kernel_rfl)) (by unfold Func.isWrapper; first | (rw [if_pos (by decide +kernel)]; kernel_rfl) | (rw [if_neg (by decide +kernel)]; exact ⟨rfl, rfl⟩))
    (fun os started H enc _ F => by rw [OpenClaim.pre_eq_preRow]; exact lifted os started H enc F)

set_option maxRecDepth 100000 in
theorem plain (f : FuncId) (fn : Func) (hf : Tryd.pinned.checked.prog.funcNamed "gatepost/gatepostlaw10.StoringKeeps" = some f) (hfn : Tryd.pinned.checked.prog.funcs[f]? = some fn) :
    false = Tryd.pinned.checked.prog.looks [] ∧ ∀ (j : Nat) t, fn.params[j]? = some t → Tryd.pinned.checked.prog.wantsStandIn t = false := by
  obtain rfl : f = 4 := Option.some.inj ((show Tryd.prog.funcNamed "gatepost/gatepostlaw10.StoringKeeps" = some 4 by kernel_rfl).symm.trans hf) |>.symm
  obtain rfl : fn = Tryd.f4 := (Option.some.inj (Tryd.func4.symm.trans hfn)).symm
  refine ⟨by kernel_rfl, fun j t ht => ?_⟩
  rw [Tryd.params4] at ht
  have hm := Array.mem_of_getElem? ht
  simp at hm
  rcases hm with rfl | rfl | rfl
  · exact (show Tryd.prog.wantsStandIn 35 = false by kernel_rfl)
  · exact (show Tryd.prog.wantsStandIn 22 = false by kernel_rfl)
  · exact (show Tryd.prog.wantsStandIn 3 = false by kernel_rfl)

theorem card : Rows.StoringKeepsCardSaid :=
  Claim7.holds_tied_plain_at .later [] _ _ _ _ said (fun _ h => by cases h) (by kernel_rfl) (fun _ h => by cases h) storingKeeps_row_tie rfl ⟨rfl, rfl⟩ (by kernel_rfl) rfl plain (by kernel_rfl)
end Go.Proofs.YtjbdgndejbiikaaDoor.storingKeeps
