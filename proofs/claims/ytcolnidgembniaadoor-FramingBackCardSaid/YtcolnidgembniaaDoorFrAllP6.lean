/-
  Texts that the laws' proofs stand on, 10 of them in one file; each one's head says what it proves and under which condition.
-/
import Derived.Test.YtcolnidgembniaaDoorFrAllP5
import Derived.Deep.DeepCutAuto
import Derived.Deep.RegionWith
import Derived.Deep.QuietTactic
import Derived.BigQuiet
import Derived.Test.YtcolnidgembniaaDoorFrAllP4
import Derived.Test.YtcolnidgembniaaDoorFrAllP3
import Derived.Test.YtcolnidgembniaaDoorFrAllP1
import Derived.Test.YtcolnidgembniaaDoorFrAllP2
import Derived.Laws.BytesArg
/-
  A decoder's Feed: what it returns and leaves. Conditions: the tables; what is fed lies apart from the decoder.
-/
namespace Go.Proofs.YtcolnidgembniaaDoor.Fr
open Go.RowKit Go.Proofs.YtcolnidgembniaaDoor.Tk Go.Proofs.YtcolnidgembniaaDoor.Fd Go.Proofs.YtcolnidgembniaaDoor.Hd
set_option linter.unusedVariables false

theorem FeedAt.post {O : Nat → Prop} {g : Nat} {s : St} {b : Bs} {w0 w : World} {k : Nat} {acc : Bs} {st : St} {ov : Value} {wr : World} (h : FeedAt (fun j => O j ∧ j < w0.heap.size) g s b w k acc st ov wr) (hw : Below w0.heap.size w0 w) (ho : over st = true ∨ k = b.length) {n : Nat} :
    FeedPost O g s b w0 (.returned (.tuple #[ov, .int .i64 (k : Int), .bool (doneOf st), .int .i64 (errOf st : Nat)])) (wr.drewN n) := by
  have hx := h.ends ho
  unfold FeedPost
  rw [hx]
  refine ⟨ov, rfl, row_same h.own (fun _ _ => rfl), fun j hj => Nat.le_trans hw.size (h.new j hj), ?_, ?_⟩
  · refine (h.dec.below (below_drewN (Below.refl _ _) n)).mono (fun j hj => ⟨?_, hj.2⟩)
    rcases hj.1 with h1 | h1
    · exact .inl h1.1
    · exact .inr (Nat.le_trans hw.size h1)
  · exact ((Chg.of_below (O := O) hw).trans h.chg (fun j hj => .inl hj.1)).drewN n
set_option maxRecDepth 100000 in
set_option maxHeartbeats 8000000 in
theorem feed_any (O : Nat → Prop) (g : Nat) (s : St) (v : Value) (b : Bs) (w : World) (h : Dec w O g s) (hG : Good s) (hv : Byts w v b) (hvo : 0 < b.length → ∀ k, v.ownBlock = some k → ¬ O k) (hbl : b.length ≤ 1099511627776)
    (hT : Tab w) (hE : ErrV w) (ho : ¬ O 2) (ho2 : ¬ O 5) :
    Calls Tryd.prog 18 #[.pointer (some ⟨g, 0, none⟩), v] w (FeedPost O g s b w) := by
  obtain ⟨va, vc, hvs⟩ := hv.shape
  obtain ⟨c0, c4⟩ := h.nums
  have hgw : g < w.heap.size := by obtain ⟨u, h⟩ := h; exact block_lt h.blk
  obtain ⟨w1, hw1⟩ : ∃ w1, w1 = w.alloc (.cells (stepFns g) 72) := ⟨_, rfl⟩
  have hb1 : Below w.heap.size w w1 := by rw [hw1]; exact (Below.refl _ _).alloc (Nat.le_refl _) _
  have hs1 : w1.heap.size = w.heap.size + 1 := by rw [hw1]; simp
  have hN1 : w1.heap[w.heap.size]? = some (.cells (stepFns g) 72 (0, 0)) := by rw [hw1]; exact new_block _ _
  have HM := Lib.hid (made_yes g (num1 s) w (num_pos s) c0)
  have HF0 := Lib.hid (FeedAt.start (O := fun j => O j ∧ j < w.heap.size) (b := b) (h.bound.below hb1) hG)
  have HV := Lib.hid (hv.below hb1 (Nat.le_refl _))
  have HBl := Lib.hid hb1
  have htl := hT.lt
  have hel := hE.lt
  have hT1 : Tab w1 := tab_chg hT (Chg.of_below (O := fun _ => False) hb1) (fun h => h)
  have HT := Lib.hid hT1
  have HE := Lib.hid (hE.below hb1)
  have HN1 := Lib.hid hN1
  have hw1u := hw1
  unfold stepFns at hw1u
  have HW1 := Lib.hid hw1u
  subst hvs
  have HO1 := Lib.hid (show ∀ j, New (fun j => O j ∧ j < w.heap.size) w1 j → j < w1.heap.size → O j ∧ j < w.heap.size from fun j hj hl => by
    rcases hj with hj | hj
    · exact hj
    · omega)
  unfold maxLen at *
  clear h hv hT hE hG c0 c4 hw1u hw1 hT1 hN1 hb1
  go_enter Tryd.func18, Tryd.ntmps18
  go_wp2_with fail
  refine HM.out.mono ?_
  rintro e w0 ⟨rfl, rfl⟩
  go_upto_region 4 with fail
  rw [← HW1.out]
  go_loopw [4, 5, 9, 10] (fun vo vu v9 v10 wr => ∃ (k : Nat) (acc : Bs) (st : St), vu = .int .i64 (k : Int) ∧ FeedAt (fun j => O j ∧ j < w.heap.size) g s b w1 k acc st vo wr) (fun _ u _ _ _ => b.length - (intOf u).toNat)
  case atStart => exact ⟨0, [], s, rfl, HF0.out⟩
  case round =>
    obtain ⟨k, acc, st, rfl, hAt⟩ := hrel
    have HA := Lib.hid hAt
    have hk := hAt.le
    obtain ⟨c0, c4⟩ := hAt.dec.nums
    have HWe := Lib.hid (whole_eq hAt.good)
    obtain ⟨S, hS⟩ : ∃ S, S = num1 st := ⟨_, rfl⟩
    obtain ⟨E, hE⟩ : ∃ E, E = errOf st := ⟨_, rfl⟩
    rw [← hS] at c0 HWe
    rw [← hE] at c4 HWe
    have HWh := Lib.hid (whole_any g S E wr.drew c0 c4)
    rw [HWe.out] at HWh
    obtain ⟨D, hD⟩ : ∃ D, D = doneOf st := ⟨_, rfl⟩
    rw [← hD] at HWh
    have HP := Lib.hid (fun (ho : over st = true ∨ k = b.length) => (show FeedPost O g s b w (.returned (.tuple #[u4, .int .i64 (k : Int), .bool D, .int .i64 (E : Int)])) wr.drew from by rw [hD, hE]; exact hAt.post HBl.out ho (n := 1)))
    have HS := Lib.hid hS
    clear hAt hE hD hS
    by_cases hlt : k < b.length
    · by_cases h7 : S = 7
      · have HOv := Lib.hid (show over st = true from over_num (by rw [← HS.out]; exact h7))
        subst h7
        have c0' : wr.cell? ⟨g, 0, none⟩ = some (.int .i64 7) := c0
        clear c0
        go_upto_region 8 with fail
        go_region_with (go_at_call 35; refine HWh.out.mono ?_; rintro e w2 ⟨rfl, rfl⟩)
        all_goals go_wp2_with fail
        all_goals
          refine bodyPost_ret (four_results rfl _ _ _) rfl ?_
          exact HP.out (.inl HOv.out)
      · have h7' : ((S : Int) != 7) = true := by rw [bne_iff_ne]; omega
        have hov : over st = false := not_over (by rw [← HS.out]; exact h7)
        have hfn := stepFn_is hov
        rw [← HS.out] at hfn
        rcases HV.out with ⟨hb0, _⟩ | ⟨B, off, cap, hve, hcap, hcm, hB, hh⟩
        · rw [hb0] at hlt; simp at hlt
        injection hve with e1 e2 e3
        subst e1 e3
        have hOB : ¬ O B := hvo (by omega) B rfl
        have hOB1 : ¬ (O B ∧ B < w.heap.size) := fun hx => hOB hx.1
        have hNB : ¬ New (fun j => O j ∧ j < w.heap.size) w1 B := fun hn => by
          rcases hn with hn | hn
          · exact hOB1 hn
          · omega
        have hNT : ¬ New (fun j => O j ∧ j < w.heap.size) w1 2 := fun hn => by
          rcases hn with hn | hn
          · exact ho hn.1
          · omega
        have hNE : ¬ New (fun j => O j ∧ j < w.heap.size) w1 5 := fun hn => by
          rcases hn with hn | hn
          · exact ho2 hn.1
          · omega
        have hlt2 : B < wr.heap.size := Nat.lt_of_lt_of_le hB HA.out.chg.size
        have hFd : Fed wr B (off + k) (vc - k) (b.drop k) := ⟨by rw [List.length_drop]; omega, by omega, hlt2, by
          have h1 : Holds wr B off b := fun j hj => by rw [World.cell?_of_block (w := w1) (HA.out.chg.block B hB hOB1)]; exact hh j hj
          have h2 := h1.part k b.length (Nat.le_refl _)
          rwa [List.take_length] at h2⟩
        have hFd2 : Fed wr.drew B (off + k) (vc - k) (b.drop k) := ⟨hFd.le, hFd.max, hFd.lt, hFd.holds⟩
        have hTr : Tab wr := tab_chg HT.out HA.out.chg (fun hx => ho hx.1)
        have hEr : ErrV wr := HE.out.chg HA.out.chg (fun hx => ho2 hx.1)
        have hst := step_fn (fun j => New (fun j => O j ∧ j < w.heap.size) w1 j ∧ u4.ownBlock ≠ some j) g B (off + k) (vc - k) st (b.drop k) wr.drew (HA.out.dec.below (below_drewN (Below.refl _ _) 1)) hov HA.out.good hFd2 (fun hx => hNB hx.1) (by rw [List.length_drop]; omega) hTr hEr (fun hx => hNT hx.1) (fun hx => hNE hx.1)
        rw [List.length_drop] at hst
        have HSt := Lib.hid (fun (v' : Value) (hv' : v' = .slice (some ⟨B, off + k, none⟩) (b.length - k) (vc - k)) => (show Calls Tryd.prog (stepFn st) #[.pointer (some ⟨g, 0, none⟩), v'] wr.drew (StepPost (fun j => New (fun j => O j ∧ j < w.heap.size) w1 j ∧ u4.ownBlock ≠ some j) g st (b.drop k) wr.drew) from by subst hv'; exact hst))
        have kF : wr.cell? ⟨w.heap.size, S, none⟩ = some (.func (.func (stepFn st)) #[.pointer (some ⟨g, 0, none⟩)] #[]) := by
          rw [World.cell?_of_block (w := w1) (HA.out.chg.block w.heap.size (by omega) (fun hx => by omega)), Lib.cell_of_heap HN1.out]
          rcases hfn with ⟨rfl, h⟩ | ⟨rfl, h⟩ | ⟨rfl, h⟩ | ⟨rfl, h⟩ | ⟨rfl, h⟩ | ⟨rfl, h⟩ <;> (rw [h]; rfl)
        obtain ⟨F, hF⟩ : ∃ F, F = stepFn st := ⟨_, rfl⟩
        rw [← hF] at hfn HSt kF
        have hent : ∀ args w, (callFunc F args).run Tryd.prog w = .ok (.enter F args) w := by
          rcases hfn with ⟨_, rfl⟩ | ⟨_, rfl⟩ | ⟨_, rfl⟩ | ⟨_, rfl⟩ | ⟨_, rfl⟩ | ⟨_, rfl⟩
          · exact Go.Proofs.enters_of Tryd.func30 (by kernel_rfl) rfl
          · exact Go.Proofs.enters_of Tryd.func31 (by kernel_rfl) rfl
          · exact Go.Proofs.enters_of Tryd.func32 (by kernel_rfl) rfl
          · exact Go.Proofs.enters_of Tryd.func33 (by kernel_rfl) rfl
          · exact Go.Proofs.enters_of Tryd.func32 (by kernel_rfl) rfl
          · exact Go.Proofs.enters_of Tryd.func32 (by kernel_rfl) rfl
        have hS8 : S < 8 := by rcases hfn with ⟨rfl, _⟩ | ⟨rfl, _⟩ | ⟨rfl, _⟩ | ⟨rfl, _⟩ | ⟨rfl, _⟩ | ⟨rfl, _⟩ <;> omega
        have HFd := Lib.hid hFd
        have HNX := Lib.hid (fun (w' : World) (body taken : Nat) (st' : St) (ht : Took st (b.drop k) body taken st') (hD : Dec w' (New (fun j => New (fun j => O j ∧ j < w.heap.size) w1 j ∧ u4.ownBlock ≠ some j) wr.drew) g st') (hC : Chg (fun j => New (fun j => O j ∧ j < w.heap.size) w1 j ∧ u4.ownBlock ≠ some j) wr.drew w') =>
          (show body ≤ taken ∧ 0 < taken ∧ k + taken ≤ b.length ∧ ∀ v', v' = .slice (some ⟨B, off + k, none⟩) body (vc - k) → Calls Tryd.prog 34 #[u4, v'] w' fun e w3 => ∃ ov', e = .returned ov' ∧ FeedAt (fun j => O j ∧ j < w.heap.size) g s b w1 (k + taken) (acc ++ (b.drop k).take body) st' ov' w3 ∧ ∃ a n c, ov' = .slice a n c from by
            have hC' : Chg (fun j => New (fun j => O j ∧ j < w.heap.size) w1 j ∧ u4.ownBlock ≠ some j) wr w' := (Chg.refl _ wr).drew.trans hC (fun i hi => .inl hi)
            have h3 := ht.2.2.1
            rw [List.length_drop] at h3
            have hbt := ht.1
            refine ⟨hbt, ht.2.1, by omega, ?_⟩
            rintro v' rfl
            have hFd' : Fed w' B (off + k) (vc - k) (b.drop k) := ⟨HFd.out.le, HFd.out.max, Nat.lt_of_lt_of_le HFd.out.lt hC'.size, fun j hj => by
              rw [World.cell?_of_block (w := wr) (hC'.block B HFd.out.lt (fun hx => hNB hx.1))]; exact HFd.out.holds j hj⟩
            have hown : OwnB w' u4 acc := row_chg HA.out.own hC' (fun j (hj : u4.ownBlock = some j) => hj) (fun j hj hx => hx.2 hj)
            have hal := HA.out.accLe
            refine (put_any u4 _ acc ((b.drop k).take body) w' hown (hFd'.byts (by rw [List.length_drop]; omega)) (fun j hj e => ?_) (by rw [List.length_take, List.length_drop]; omega)).mono ?_
            · injection e with e
              subst e
              have h5 : w1.heap.size ≤ B := HA.out.new _ hj
              omega
            · rintro e w3 ⟨ov', rfl, h1, h2, h4⟩
              obtain ⟨a, c, hs⟩ := h1.shape
              exact ⟨ov', rfl, HA.out.step ht hD hC' h1 h2 h4, a, _, c, hs⟩))
        have hck : ¬ vc = k := by omega
        have hkc : k ≤ vc := by omega
        clear hov hfn hFd hFd2 hTr hEr hst hF hNB hNT hNE hOB1 hh e2 c4 HWh HWe
        go_upto_region 5 with fail
        go_region_with ((with_reducible show Calls _ F _ _ _); refine (HSt.out _ rfl).mono ?_; rintro e w2 ⟨body, taken, st', rfl, ht, hD, hC⟩; obtain ⟨hbt, ht0, htl2, hput⟩ := HNX.out _ _ _ _ ht hD hC; have HPut := Lib.hid hput; clear ht hD hC hput)
        all_goals
          have hbk : k + body ≤ b.length := by omega
          go_wp2_with fail
          refine (HPut.out _ (by first | rfl | (congr 1 <;> omega))).mono ?_
          rintro e w3 ⟨ov', rfl, hAt', a, n, c, hs⟩
          subst hs
          have HA' := Lib.hid hAt'
          clear hAt'
          go_wp2_with fail
          go_roundw
          case rel => exact ⟨k + taken, _, st', by go_num, HA'.out⟩
          case measure => simp [intOf]; omega
    · have hke : k = b.length := by omega
      have HKE := Lib.hid hke
      clear hke
      go_upto_region 8 with fail
      go_region_with (go_at_call 35; refine HWh.out.mono ?_; rintro e w2 ⟨rfl, rfl⟩)
      all_goals go_wp2_with fail
      all_goals
        refine bodyPost_ret (four_results rfl _ _ _) rfl ?_
        exact HP.out (.inr HKE.out)
end Go.Proofs.YtcolnidgembniaaDoor.Fr
/-
  The reference's hex: what it returns. No condition.
-/
namespace Go.Proofs.YtcolnidgembniaaDoor.Fr
open Go.RowKit Go.Proofs.YtcolnidgembniaaDoor.Tk Go.Proofs.YtcolnidgembniaaDoor.Fd Go.Proofs.YtcolnidgembniaaDoor.Hd
set_option linter.unusedVariables false

def hexI (c : UInt8) : Int := if isHex c then (hexOf c : Int) else -1
theorem hexI_1 {c : UInt8} (h : 48 ≤ c.toNat ∧ c.toNat ≤ 57) : hexI c = (c.toNat : Int) - 48 := by
  have e : hexOf c = c.toNat - 48 := by unfold hexOf; rw [if_pos h]
  unfold hexI isHex; rw [e, if_pos (by simp; omega)]; omega
theorem hexI_2 {c : UInt8} (h : 97 ≤ c.toNat ∧ c.toNat ≤ 102) : hexI c = (c.toNat : Int) - 97 + 10 := by
  have e : hexOf c = c.toNat - 87 := by unfold hexOf; rw [if_neg (by omega), if_pos h]
  unfold hexI isHex; rw [e, if_pos (by simp; omega)]; omega
theorem hexI_3 {c : UInt8} (h : 65 ≤ c.toNat ∧ c.toNat ≤ 70) : hexI c = (c.toNat : Int) - 65 + 10 := by
  have e : hexOf c = c.toNat - 55 := by unfold hexOf; rw [if_neg (by omega), if_neg (by omega), if_pos h]
  unfold hexI isHex; rw [e, if_pos (by simp; omega)]; omega
theorem hexI_4 {c : UInt8} (h1 : ¬ (48 ≤ c.toNat ∧ c.toNat ≤ 57)) (h2 : ¬ (97 ≤ c.toNat ∧ c.toNat ≤ 102)) (h3 : ¬ (65 ≤ c.toNat ∧ c.toNat ≤ 70)) : hexI c = -1 := by
  have e : hexOf c = 16 := by unfold hexOf; rw [if_neg h1, if_neg h2, if_neg h3]
  unfold hexI isHex; rw [e]; rfl
set_option maxRecDepth 100000 in
set_option maxHeartbeats 4000000 in
theorem rhex_any (c : UInt8) (w : World) : Calls Tryd.prog 69 #[.int .u8 (c.toNat : Int)] w fun e w' => e = .returned (.int .i64 (hexI c)) ∧ w = w' := by
  obtain ⟨n, hn⟩ : ∃ n, n = c.toNat := ⟨_, rfl⟩
  have hlt : n < 256 := by rw [hn]; exact c.toNat_lt
  by_cases h1 : 48 ≤ n ∧ n ≤ 57
  · have HE := Lib.hid (hexI_1 (c := c) (by rw [← hn]; exact h1))
    rw [HE.out, ← hn]
    obtain ⟨d, rfl⟩ : ∃ d, n = 48 + d := ⟨n - 48, by omega⟩
    clear HE hn
    go_enter Tryd.func69, Tryd.ntmps69
    go_wp2_with fail
    go_ret
    exact ⟨rfl, rfl⟩
  · by_cases h2 : 97 ≤ n ∧ n ≤ 102
    · have HE := Lib.hid (hexI_2 (c := c) (by rw [← hn]; exact h2))
      rw [HE.out, ← hn]
      clear HE hn
      go_enter Tryd.func69, Tryd.ntmps69
      go_wp2_with fail
      go_ret
      exact ⟨rfl, rfl⟩
    · by_cases h3 : 65 ≤ n ∧ n ≤ 70
      · have HE := Lib.hid (hexI_3 (c := c) (by rw [← hn]; exact h3))
        rw [HE.out, ← hn]
        clear HE hn
        go_enter Tryd.func69, Tryd.ntmps69
        go_wp2_with fail
        go_ret
        exact ⟨rfl, rfl⟩
      · have HE := Lib.hid (hexI_4 (c := c) (by rw [← hn]; exact h1) (by rw [← hn]; exact h2) (by rw [← hn]; exact h3))
        rw [HE.out, ← hn]
        clear HE hn
        go_enter Tryd.func69, Tryd.ntmps69
        rcases (by omega : n < 48 ∨ (57 < n ∧ n < 65) ∨ (70 < n ∧ n < 97) ∨ 102 < n) with h | h | h | h
        all_goals
          go_wp2_with fail
          go_ret
          exact ⟨rfl, rfl⟩
end Go.Proofs.YtcolnidgembniaaDoor.Fr
/-
  The reference's decoder in memory, and its End. No condition.
-/
namespace Go.Proofs.YtcolnidgembniaaDoor.Fr
open Go.RowKit Go.Proofs.YtcolnidgembniaaDoor.Tk Go.Proofs.YtcolnidgembniaaDoor.Fd Go.Proofs.YtcolnidgembniaaDoor.Hd
set_option linter.unusedVariables false

def rdc (K L S P : Nat) (o : ByteArray) (D : Bool) (E : Nat) : Array Value := #[.int .i64 (K : Int), .int .i64 (L : Int), .int .i64 (S : Int), .int .i64 (P : Int), .string o, .bool D, .int .i64 (E : Int)]
def RBlk (w : World) (g K L S P : Nat) (o : ByteArray) (D : Bool) (E : Nat) : Prop := w.heap[g]? = some (.cells (rdc K L S P o D E) 70 (0, 0))
/-- The reference's decoder at block g. -/
def RDec (w : World) (g : Nat) : St → Prop
  | .len n => RBlk w g 1 n 0 0 ⟨#[]⟩ false 0
  | .opn n => ∃ S, S + n = 1048576 ∧ RBlk w g 3 0 S 0 ⟨#[]⟩ false 0
  | .size m l => ∃ S, S + m = 1048576 ∧ RBlk w g 2 0 S 0 (txt l) false 0
  | .chunk m n => ∃ S, S + m = 1048576 ∧ RBlk w g 2 n S 1 ⟨#[]⟩ false 0
  | .gap m l => ∃ S, S + m = 1048576 ∧ RBlk w g 2 0 S 2 (txt l) false 0
  | .trail m l => ∃ S, S + m = 1048576 ∧ RBlk w g 2 0 S 3 (txt l) false 0
  | .done => ∃ K L S P o, RBlk w g K L S P o true 0
  | .bad e => ∃ K L S P o, RBlk w g K L S P o false e
section
variable {w : World} {g K L S P E : Nat} {o : ByteArray} {D : Bool}
theorem rd0 (h : RBlk w g K L S P o D E) : w.cell? ⟨g, 0, none⟩ = some (.int .i64 (K : Int)) := by unfold RBlk at h; rw [Lib.cell_of_heap h]; rfl
theorem rd5 (h : RBlk w g K L S P o D E) : w.cell? ⟨g, 5, none⟩ = some (.bool D) := by unfold RBlk at h; rw [Lib.cell_of_heap h]; rfl
theorem rd6 (h : RBlk w g K L S P o D E) : w.cell? ⟨g, 6, none⟩ = some (.int .i64 (E : Int)) := by unfold RBlk at h; rw [Lib.cell_of_heap h]; rfl
theorem rd_put5 (h : RBlk w g K L S P o D E) (D' : Bool) : RBlk (w.setCell ⟨g, 5, none⟩ (.bool D')) g K L S P o D' E := heap_put h 5 _
theorem rd_put6 (h : RBlk w g K L S P o D E) (E' : Nat) : RBlk (w.setCell ⟨g, 6, none⟩ (.int .i64 (E' : Int))) g K L S P o D E' := heap_put h 6 _
end
def REndPost (g : Nat) (s : St) (w : World) (e : Ending) (w' : World) : Prop :=
  e = .returned (.tuple #[.bool (doneOf s), .int .i64 (errOf s : Nat)]) ∧ RDec w' g s ∧ Chg (fun k => k = g) w w'
set_option maxRecDepth 100000 in
set_option maxHeartbeats 4000000 in
theorem rend_lost (g K L S P : Nat) (o : ByteArray) (w : World) (h : RBlk w g K L S P o false 0) (hK : K ≠ 3) : Calls Tryd.prog 21 #[.pointer (some ⟨g, 0, none⟩)] w (REndPost g (.bad 20) w) := by
  have c0 := rd0 h
  have c5 := rd5 h
  have c6 : w.cell? ⟨g, 6, none⟩ = some (.int .i64 0) := rd6 h
  have f6 := free h 6
  have hk : ((K : Int) == 3) = false := by simp; omega
  have hk2 : ¬ ((K : Int) = 3) := by omega
  have HB := Lib.hid (rd_put6 h 20)
  have HC := Lib.hid ((Chg.refl (fun k => k = g) w).put ⟨g, 6, none⟩ (.int .i64 (20 : Nat)) (.inl rfl))
  have d5 := rd5 HB.out
  have d6 := rd6 HB.out
  obtain ⟨W, hW⟩ : ∃ W, W = w.setCell ⟨g, 6, none⟩ (.int .i64 ((20 : Nat) : Int)) := ⟨_, rfl⟩
  have hW' : w.setCell ⟨g, 6, none⟩ (.int .i64 20) = W := hW.symm
  rw [← hW] at HB HC d5 d6
  have d6' : W.cell? ⟨g, 6, none⟩ = some (.int .i64 20) := d6
  clear h d6 hW
  go_enter Tryd.func21, Tryd.ntmps21
  go_upto_region 5 with fail
  try rw [hW']
  clear hW' c0 c5 c6 f6
  go_wp2_with fail
  try go_quiet (fail)
  all_goals try go_wp2_with fail
  all_goals
    go_ret2
    exact ⟨rfl, ⟨K, L, S, P, o, HB.out⟩, HC.out.drewN _⟩
set_option maxRecDepth 100000 in
set_option maxHeartbeats 4000000 in
theorem rend_opn (g L S P : Nat) (o : ByteArray) (w : World) (h : RBlk w g 3 L S P o false 0) : Calls Tryd.prog 21 #[.pointer (some ⟨g, 0, none⟩)] w (REndPost g .done w) := by
  have c0 : w.cell? ⟨g, 0, none⟩ = some (.int .i64 3) := rd0 h
  have c5 := rd5 h
  have c6 : w.cell? ⟨g, 6, none⟩ = some (.int .i64 0) := rd6 h
  have f5 := free h 5
  have HB := Lib.hid (rd_put5 h true)
  have HC := Lib.hid ((Chg.refl (fun k => k = g) w).put ⟨g, 5, none⟩ (.bool true) (.inl rfl))
  have d5 := rd5 HB.out
  have d6 : (w.setCell ⟨g, 5, none⟩ (.bool true)).cell? ⟨g, 6, none⟩ = some (.int .i64 0) := rd6 HB.out
  obtain ⟨W, hW⟩ : ∃ W, W = w.setCell ⟨g, 5, none⟩ (.bool true) := ⟨_, rfl⟩
  have hW' : w.setCell ⟨g, 5, none⟩ (.bool true) = W := hW.symm
  rw [← hW] at HB HC d5 d6
  clear h hW
  go_enter Tryd.func21, Tryd.ntmps21
  go_upto_region 5 with fail
  try rw [hW']
  clear hW' c0 c5 c6 f5
  go_wp2_with fail
  try go_quiet (fail)
  all_goals try go_wp2_with fail
  all_goals
    go_ret2
    exact ⟨rfl, ⟨3, L, S, P, o, HB.out⟩, HC.out.drewN _⟩
set_option maxRecDepth 100000 in
set_option maxHeartbeats 4000000 in
theorem rend_over (g K L S P E : Nat) (o : ByteArray) (D : Bool) (w : World) (h : RBlk w g K L S P o D E) (hD : D = true ∧ E = 0 ∨ D = false ∧ E ≠ 0) :
    Calls Tryd.prog 21 #[.pointer (some ⟨g, 0, none⟩)] w (REndPost g (if D then .done else .bad E) w) := by
  have HH := Lib.hid h
  have c5 := rd5 h
  have c6 := rd6 h
  clear h
  rcases hD with ⟨rfl, rfl⟩ | ⟨rfl, h0⟩
  · have c6' : w.cell? ⟨g, 6, none⟩ = some (.int .i64 0) := c6
    clear c6
    go_enter Tryd.func21, Tryd.ntmps21
    go_wp2_with fail
    try go_quiet (fail)
    all_goals try go_wp2_with fail
    all_goals
      go_ret2
      exact ⟨rfl, ⟨K, L, S, P, o, HH.out⟩, (Chg.refl _ w).drewN _⟩
  · have he : ((E : Int) == 0) = false := by simp; omega
    have he2 : ¬ ((E : Int) = 0) := by omega
    clear h0
    go_enter Tryd.func21, Tryd.ntmps21
    go_wp2_with fail
    try go_quiet (fail)
    all_goals try go_wp2_with fail
    all_goals
      go_ret2
      exact ⟨rfl, ⟨K, L, S, P, o, HH.out⟩, (Chg.refl _ w).drewN _⟩
/-- The reference's End, whatever came in. -/
theorem rend_any (g : Nat) (s : St) (w : World) (h : RDec w g s) (hG : Good s) : Calls Tryd.prog 21 #[.pointer (some ⟨g, 0, none⟩)] w (REndPost g (closed s) w) := by
  cases s with
  | len n => exact rend_lost g _ _ _ _ _ w h (by omega)
  | opn n => obtain ⟨S, _, h⟩ := h; exact rend_opn g _ _ _ _ w h
  | size m l => obtain ⟨S, _, h⟩ := h; exact rend_lost g _ _ _ _ _ w h (by omega)
  | chunk m n => obtain ⟨S, _, h⟩ := h; exact rend_lost g _ _ _ _ _ w h (by omega)
  | gap m l => obtain ⟨S, _, h⟩ := h; exact rend_lost g _ _ _ _ _ w h (by omega)
  | trail m l => obtain ⟨S, _, h⟩ := h; exact rend_lost g _ _ _ _ _ w h (by omega)
  | done => obtain ⟨K, L, S, P, o, h⟩ := h; exact rend_over g K L S P 0 o true w h (.inl ⟨rfl, rfl⟩)
  | bad e =>
    obtain ⟨K, L, S, P, o, h⟩ := h
    have he : e ≠ 0 := by rcases hG with h | h | h | h <;> omega
    exact rend_over g K L S P e o false w h (.inr ⟨rfl, he⟩)
end Go.Proofs.YtcolnidgembniaaDoor.Fr
/-
  The reference's New: what it returns. No condition.
-/
namespace Go.Proofs.YtcolnidgembniaaDoor.Fr
open Go.RowKit Go.Proofs.YtcolnidgembniaaDoor.Tk Go.Proofs.YtcolnidgembniaaDoor.Fd Go.Proofs.YtcolnidgembniaaDoor.Hd
set_option linter.unusedVariables false

def RNewPost (k n : Int) (w : World) (e : Ending) (w' : World) : Prop :=
  Below w.heap.size w w' ∧ match made k n with
  | none => e = .returned (.tuple #[.pointer none, .int .i64 (madeErr k n : Nat)])
  | some s => ∃ g, e = .returned (.tuple #[.pointer (some ⟨g, 0, none⟩), .int .i64 0]) ∧ RDec w' g s ∧ w.heap.size ≤ g
set_option maxRecDepth 100000 in
set_option maxHeartbeats 4000000 in
theorem rnew_none (k n : Int) (w : World) (h : made k n = none) : Calls Tryd.prog 17 #[.int .i64 k, .int .i64 n] w (RNewPost k n w) := by
  have HP := Lib.hid (fun (e : Ending) => show e = .returned (.tuple #[.pointer none, .int .i64 (madeErr k n : Nat)]) → RNewPost k n w e w from fun he => ⟨Below.refl _ _, by rw [h]; exact he⟩)
  by_cases h1 : k < 0 ∨ 3 < k ∨ n < 0 ∨ (0 < n ∧ k ≠ 1)
  · have HE := Lib.hid (show madeErr k n = 2 from by unfold madeErr; rw [if_pos h1])
    clear h
    go_enter Tryd.func17, Tryd.ntmps17
    by_cases ha : k < 0
    · clear h1
      go_wp2_with fail
      go_ret2
      exact HP.out _ (by rw [HE.out]; rfl)
    · by_cases hb : 3 < k
      · clear h1
        go_wp2_with fail
        go_ret2
        exact HP.out _ (by rw [HE.out]; rfl)
      · by_cases hc : n < 0
        · clear h1
          go_wp2_with fail
          go_ret2
          exact HP.out _ (by rw [HE.out]; rfl)
        · have hd : 0 < n := by omega
          have he : (k != 1) = true := by simp; omega
          clear h1
          go_wp2_with fail
          go_ret2
          exact HP.out _ (by rw [HE.out]; rfl)
  · have h2 : 1048576 < n := by unfold made at h; rcases Int.lt_or_le 1048576 n with h3 | h3; exact h3; rw [if_neg (by omega)] at h; split at h <;> (try split at h) <;> (try split at h) <;> cases h
    have HE := Lib.hid (show madeErr k n = 3 from by unfold madeErr; rw [if_neg h1, if_pos h2])
    clear h
    have h3 : k = 1 := by omega
    subst h3
    go_enter Tryd.func17, Tryd.ntmps17
    go_wp2_with fail
    go_ret2
    exact HP.out _ (by rw [HE.out]; rfl)
def rmade (w : World) (k L : Nat) (D : Bool) : World := w.alloc (.cells (rdc k L 0 0 ⟨#[]⟩ D 0) 70)
theorem rmade_blk (w : World) (k L : Nat) (D : Bool) : RBlk (rmade w k L D) w.heap.size k L 0 0 ⟨#[]⟩ D 0 := new_block _ _
theorem rmade_below (w : World) (k L : Nat) (D : Bool) : Below w.heap.size w (rmade w k L D) := (Below.refl w.heap.size w).alloc (Nat.le_refl _) _
set_option maxRecDepth 100000 in
set_option maxHeartbeats 4000000 in
theorem rnew_some (k n : Int) (s : St) (w : World) (h : made k n = some s) : Calls Tryd.prog 17 #[.int .i64 k, .int .i64 n] w (RNewPost k n w) := by
  have HP := Lib.hid (fun (e : Ending) (K L : Nat) (D : Bool) (he : e = .returned (.tuple #[.pointer (some ⟨w.heap.size, 0, none⟩), .int .i64 0])) (hd : RDec (rmade w K L D) w.heap.size s) => show RNewPost k n w e (rmade w K L D) from ⟨rmade_below w K L D, by rw [h]; exact ⟨_, he, hd, Nat.le_refl _⟩⟩)
  unfold made at h
  split at h
  · cases h
  rename_i h1
  split at h
  · cases h
    rename_i h2
    subst h2
    have hn : n = 0 := by omega
    subst hn
    clear h1
    go_enter Tryd.func17, Tryd.ntmps17
    go_wp2_with fail
    go_ret2
    exact HP.out _ 2 0 false rfl ⟨0, rfl, rmade_blk w 2 0 false⟩
  · split at h
    · cases h
      rename_i _ h2
      subst h2
      have hn : n = 0 := by omega
      subst hn
      clear h1
      go_enter Tryd.func17, Tryd.ntmps17
      go_wp2_with fail
      go_ret2
      exact HP.out _ 3 0 false rfl ⟨0, rfl, rmade_blk w 3 0 false⟩
    · split at h
      · cases h
        have hk : k = 1 := by omega
        subst hk
        obtain ⟨m, rfl⟩ : ∃ m : Nat, n = (m : Int) := ⟨n.toNat, by omega⟩
        have hn0 : 0 < m := by omega
        have hn1 : m ≤ 1048576 := by omega
        have hz : ((m : Int) == 0) = false := by simp; omega
        rw [Int.toNat_natCast] at HP
        clear h1
        go_enter Tryd.func17, Tryd.ntmps17
        go_wp2_with fail
        go_ret2
        exact HP.out _ 1 m false rfl (rmade_blk w 1 m false)
      · cases h
        have hn : n = 0 := by omega
        subst hn
        have hk : k = 0 ∨ k = 1 := by omega
        clear h1
        go_enter Tryd.func17, Tryd.ntmps17
        rcases hk with rfl | rfl
        · go_wp2_with fail
          go_ret2
          exact HP.out _ 0 0 true rfl ⟨0, 0, 0, 0, _, rmade_blk w 0 0 true⟩
        · go_wp2_with fail
          go_ret2
          exact HP.out _ 1 0 true rfl ⟨1, 0, 0, 0, _, rmade_blk w 1 0 true⟩
theorem rnew_any (k n : Int) (w : World) : Calls Tryd.prog 17 #[.int .i64 k, .int .i64 n] w (RNewPost k n w) := by
  cases h : made k n with
  | none => exact rnew_none k n w h
  | some s => exact rnew_some k n s w h
end Go.Proofs.YtcolnidgembniaaDoor.Fr
/-
  A slice of ints that came in. Condition: what the form says of what is read.
-/
namespace Go.Proofs.YtcolnidgembniaaDoor.Hd
open Go.RowKit Go.Proofs.YtcolnidgembniaaDoor.Tk Go.ChangeShapes Go.WideShapes
set_option linter.unusedVariables false

/-- A slice of so many ints. -/
def Ints (w : World) (v : Value) (L : Nat) : Prop :=
  (L = 0 ∧ ∃ a cap, v = .slice a 0 cap) ∨ ∃ b off cap, v = .slice (some ⟨b, off, none⟩) L cap ∧ b < w.heap.size ∧ ∀ j, j < L → ∃ z : Int, w.cell? ⟨b, off + j, none⟩ = some (.int .i64 z)
theorem Ints.below {B : Nat} {w w' : World} {v : Value} {L : Nat} (h : Ints w v L) (hb : Below B w w') (hB : w.heap.size ≤ B) : Ints w' v L := by
  rcases h with h | ⟨b, off, cap, hv, hlt, hh⟩
  · exact .inl h
  · exact .inr ⟨b, off, cap, hv, Nat.lt_of_lt_of_le hlt hb.size, fun j hj => by rw [hb.cell (p := ⟨b, off + j, none⟩) (by show b < B; omega)]; exact hh j hj⟩
theorem Ints.shape {w : World} {v : Value} {L : Nat} (h : Ints w v L) : ∃ a cap, v = .slice a L cap := by
  rcases h with ⟨rfl, a, cap, hv⟩ | ⟨b, off, cap, hv, _⟩
  · exact ⟨a, cap, hv⟩
  · exact ⟨_, cap, hv⟩
theorem cellsInt : Tryd.prog.cellsOf 3 = 1 := by kernel_rfl
set_option maxRecDepth 100000 in
theorem open_nums {H : Type} {enc : TypeId × Value → H} {W : World} {base : Nat} {v : Value} {d : DataW H} {p : List MemPlace} (hv : Value.okWide Tryd.prog W .any base 62 v)
    (h : DataW.Trod enc Tryd.prog W 0 (fun _ => true) true 62 v d p) :
    ∃ L : Nat, Ints W v L ∧ L ≤ maxLen := by
  obtain ⟨a0, len0, cap0, rfl⟩ := okWide_slice Tryd.underlying62 hv
  obtain ⟨fuel, hf⟩ := h
  rcases open_ints Tryd.underlying62 Tryd.underlying3 cellsInt hf with ⟨hcs, _⟩ | ⟨a, len, cap, zs, hcs, _, hl, hm, hz, hx, hcell, hwz⟩
  · simp [Value.cells] at hcs
    obtain ⟨rfl, rfl, rfl⟩ := hcs
    exact ⟨0, .inl ⟨rfl, _, _, rfl⟩, by simp⟩
  · simp [Value.cells] at hcs
    obtain ⟨rfl, rfl, rfl⟩ := hcs
    simp only [if_true] at hz
    by_cases h0 : len0 = 0
    · subst h0; exact ⟨0, .inl ⟨rfl, _, _, rfl⟩, by simp⟩
    · obtain ⟨b, off, spot⟩ := a
      have hc0 := hcell 0 (by omega)
      have hspot : spot = none := by simpa [Addr.add] using World.cell?_spot hc0
      subst hspot
      refine ⟨len0, .inr ⟨b, off, cap0, rfl, ?_, fun j hj => ?_⟩, by omega⟩
      · rw [Addr.add_lit] at hc0
        exact World.block_lt_of_cell? W _ hc0
      · have hcj := hcell j (by omega)
        rw [Addr.add_lit] at hcj
        exact ⟨_, hcj⟩
end Go.Proofs.YtcolnidgembniaaDoor.Hd
/-
  The framing laws' piece: the next piece's end. Condition: what the form says of what is read.
-/
namespace Go.Proofs.YtcolnidgembniaaDoor.Fr
open Go.RowKit Go.Proofs.YtcolnidgembniaaDoor.Tk Go.Proofs.YtcolnidgembniaaDoor.Hd
set_option linter.unusedVariables false

/-- The i-th piece's end: so many bytes further; all that is left behind the last cut. -/
def PiecePost (L i k long : Nat) (w : World) (e : Ending) (w' : World) : Prop := ∃ (d n : Nat), e = .returned (.int .i64 ((k : Int) + (d : Int))) ∧ w' = w.drewN n ∧ k + d ≤ long ∧ (L ≤ i → k + d = long)
set_option maxRecDepth 100000 in
set_option maxHeartbeats 2000000 in
theorem piece_any (L i k long : Nat) (v : Value) (w : World) (h : Ints w v L) (hk : k ≤ long) (hl : long ≤ 9000) (hL : L ≤ maxLen) (hi : i ≤ L + 1) :
    Calls Tryd.prog 25 #[v, .int .i64 (i : Int), .int .i64 (k : Int), .int .i64 (long : Int)] w (PiecePost L i k long w) := by
  obtain ⟨a, cap, hv⟩ := h.shape
  unfold maxLen at hL
  have HP := Lib.hid (fun (d n : Nat) (h1 : k + d ≤ long) (h2 : L ≤ i → k + d = long) => (show PiecePost L i k long w (.returned (.int .i64 ((k : Int) + (d : Int)))) (w.drewN n) from ⟨d, n, rfl, rfl, h1, h2⟩))
  by_cases hlt : i < L
  · rcases h with ⟨h0, _⟩ | ⟨b, off, cap', hv', hb, hh⟩
    · omega
    obtain ⟨z, hz⟩ := hh i hlt
    obtain ⟨r, hr, hr7⟩ := mask_nat z 1023 (by omega)
    have hr' : bits BinOp.and IntKind.i64 z 1023 = (r : Int) := hr
    subst hv'
    injection hv with e1 e2 e3
    clear hr e1 e2 e3 hh hi
    by_cases hrn : r < long - k
    · go_enter Tryd.func25, Tryd.ntmps25
      go_wp2_with fail
      go_ret
      exact HP.out r 0 (by omega) (fun h => by omega)
    · go_enter Tryd.func25, Tryd.ntmps25
      go_wp2_with fail
      go_ret
      have h0 := HP.out (long - k) 0 (by omega) (fun h => by omega)
      rw [show (k : Int) + ((long - k : Nat) : Int) = (k : Int) + ((long : Int) - (k : Int)) from by omega] at h0
      exact h0
  · subst hv
    clear h hi
    go_enter Tryd.func25, Tryd.ntmps25
    go_wp2_with fail
    go_ret
    have h0 := HP.out (long - k) 0 (by omega) (fun h => by omega)
    rw [show (k : Int) + ((long - k : Nat) : Int) = (k : Int) + ((long : Int) - (k : Int)) from by omega] at h0
    exact h0
end Go.Proofs.YtcolnidgembniaaDoor.Fr
/-
  The reference's number of a chunk's line: plain functions. No condition.
-/
namespace Go.Proofs.YtcolnidgembniaaDoor.Fr
open Go.RowKit Go.Proofs.YtcolnidgembniaaDoor.Tk Go.Proofs.YtcolnidgembniaaDoor.Fd Go.Proofs.YtcolnidgembniaaDoor.Hd
set_option linter.unusedVariables false

/-- The number as the reference tells it. -/
def sizeI (t : Bs) : Int := match sizeOf t with
  | none => -1
  | some n => (n : Int)
theorem sizeI_no {t : Bs} (h : sizeOk t = false) : sizeI t = -1 := by unfold sizeI sizeOf; rw [if_neg (by rw [h]; simp)]
theorem sizeI_yes {t : Bs} (h : sizeOk t = true) : sizeI t = (hexGo 0 (hexes t) : Nat) := by unfold sizeI sizeOf; rw [if_pos h]
/-- Digits up to a place behind which none stands. -/
theorem split_at {t : Bs} {k : Nat} (hk : k ≤ t.length) (ha : (t.take k).all isHex = true) (hb : ∀ h : k < t.length, isHex t[k] = false) : hexes t = t.take k ∧ behind t = t.drop k := by
  have h := hexes_mk (a := t.take k) (b := t.drop k) (fun c hc => List.all_eq_true.1 ha c hc) (fun c r e => by
    by_cases h : k < t.length
    · rw [List.drop_eq_getElem_cons h] at e
      injection e with e1 e2
      rw [← e1]; exact hb h
    · rw [List.drop_eq_nil_of_le (by omega)] at e; cases e)
  rwa [List.take_append_drop] at h
theorem hexes_long {t : Bs} {k : Nat} (hk : k < t.length) (ha : (t.take k).all isHex = true) (hb : isHex t[k] = true) : k < (hexes t).length := by
  have e : t = t.take (k + 1) ++ t.drop (k + 1) := (List.take_append_drop _ _).symm
  have e1 : t.take (k + 1) = t.take k ++ [t[k]] := (List.take_append_getElem hk).symm
  have hall : ∀ (a b : Bs), (∀ c ∈ a, isHex c = true) → a.length ≤ (hexes (a ++ b)).length := by
    intro a b h
    induction a with
    | nil => simp
    | cons c r ih =>
      show _ ≤ (if isHex c then c :: hexes (r ++ b) else []).length
      rw [if_pos (h c (by simp)), List.length_cons, List.length_cons]
      have := ih (fun d hd => h d (by simp [hd]))
      omega
  have h := hall (t.take (k + 1)) (t.drop (k + 1)) (fun c hc => by
    rw [e1] at hc
    rcases List.mem_append.1 hc with hc | hc
    · exact List.all_eq_true.1 ha c hc
    · simp at hc; subst hc; exact hb)
  rw [← e, List.length_take] at h
  omega
theorem trim_nil (r : Bs) : (trim r = []) ↔ ltrim r = [] := by
  unfold trim
  constructor
  · intro h
    rcases ltrim_begin r with h1 | ⟨c, t, h1, h2⟩
    · exact h1
    · obtain ⟨t', h3⟩ := rtrim_cons_other t h2
      rw [h1, h3] at h; cases h
  · intro h; rw [h]; rfl
theorem trim_cons {r : Bs} {c : UInt8} {m : Bs} (h : ltrim r = c :: m) : ∃ m', trim r = c :: m' := by
  rcases ltrim_begin r with h1 | ⟨d, t, h1, h2⟩
  · rw [h1] at h; cases h
  · rw [h] at h1
    injection h1 with e1 e2
    subst e1 e2
    obtain ⟨t', h3⟩ := rtrim_cons_other m h2
    exact ⟨t', by unfold trim; rw [h, h3]⟩
theorem tail_nil {r : Bs} (h : trim r = []) : tailOk r = true := by unfold tailOk; rw [(trim_nil r).1 h]
theorem tail_other {r : Bs} {c : UInt8} {m : Bs} (h : trim r = c :: m) (hc : c ≠ 59) : tailOk r = false := by
  rcases hl : ltrim r with _ | ⟨d, t⟩
  · rw [(trim_nil r).2 hl] at h; cases h
  · obtain ⟨m', h2⟩ := trim_cons hl
    rw [h] at h2
    injection h2 with e1 e2
    subst e1
    unfold tailOk
    rw [hl]
    simp [hc]
theorem tail_sem {r : Bs} {m : Bs} (h : trim r = 59 :: m) : tailOk r = r.all ext := by
  rcases hl : ltrim r with _ | ⟨d, t⟩
  · rw [(trim_nil r).2 hl] at h; cases h
  · obtain ⟨m', h2⟩ := trim_cons hl
    rw [h] at h2
    injection h2 with e1 e2
    subst e1
    obtain ⟨bl, h3, h4⟩ := ltrim_parts r
    have hb : bl.all ext = true := by
      rw [List.all_eq_true]; intro c hc
      have := h4 c hc
      simp [Tk.blank] at this
      rcases this with rfl | rfl <;> decide
    unfold tailOk
    rw [hl]
    conv => rhs; rw [h3, hl, List.all_append, hb]
    show ((59 : UInt8) == 59 && t.all ext) = (true && ((59 : UInt8) :: t).all ext)
    rw [List.all_cons]
    rfl
/-- How far the digits are read. -/
structure SzAt (t : Bs) (k n : Nat) : Prop where
  le : k ≤ t.length
  k8 : k ≤ 8
  all : (t.take k).all isHex = true
  val : n = hexGo 0 (t.take k)
theorem SzAt.next {t : Bs} {k n : Nat} (h : SzAt t k n) (hk : k < t.length) (h8 : k ≠ 8) (hc : isHex t[k] = true) : SzAt t (k + 1) (n * 16 + hexOf t[k]) := by
  have e : t.take (k + 1) = t.take k ++ [t[k]] := (List.take_append_getElem hk).symm
  have := h.k8
  refine ⟨by omega, by omega, ?_, ?_⟩
  · rw [e, List.all_append, h.all]; simp [hc]
  · rw [e, hexGo_snoc, ← h.val]
theorem SzAt.small {t : Bs} {k n : Nat} (h : SzAt t k n) (h8 : k < 8) : n ≤ 268435455 := by
  have h1 := hexGo_lt (t.take k) (fun c hc => List.all_eq_true.1 h.all c hc) 0 0 (by simp)
  rw [← h.val, Nat.zero_add, List.length_take, Nat.min_eq_left h.le] at h1
  have h2 : 16 ^ k ≤ 16 ^ 7 := Nat.pow_le_pow_right (by omega) (by omega)
  omega
/-- The digits end here. -/
structure SzEnd (t : Bs) (k n : Nat) : Prop where
  le : k ≤ t.length
  k8 : k ≤ 8
  hex : hexes t = t.take k
  beh : behind t = t.drop k
  val : n = hexGo 0 (t.take k)
theorem SzAt.ends {t : Bs} {k n : Nat} (h : SzAt t k n) (hb : ∀ h : k < t.length, isHex t[k] = false) : SzEnd t k n :=
  ⟨h.le, h.k8, (split_at h.le h.all hb).1, (split_at h.le h.all hb).2, h.val⟩
theorem SzAt.long {t : Bs} {n : Nat} (h : SzAt t 8 n) (hk : 8 < t.length) (hc : isHex t[8] = true) : sizeI t = -1 := by
  have := hexes_long hk h.all hc
  refine sizeI_no ?_
  unfold sizeOk
  rw [decide_eq_false (show ¬ (hexes t).length ≤ 8 from by omega)]
  simp
theorem SzEnd.none {t : Bs} {n : Nat} (h : SzEnd t 0 n) : sizeI t = -1 := by
  refine sizeI_no ?_
  unfold sizeOk
  rw [h.hex]
  simp
theorem SzEnd.ok {t : Bs} {k n : Nat} (h : SzEnd t k n) (h0 : 0 < k) (htl : tailOk (t.drop k) = true) : sizeI t = (n : Int) := by
  rw [sizeI_yes, h.hex, ← h.val]
  unfold sizeOk
  have hl := h.le
  have h8 := h.k8
  rw [h.hex, h.beh, htl]
  have : (t.take k).isEmpty = false := by rw [List.isEmpty_eq_false_iff]; intro e; have h3 : (t.take k).length = 0 := (by rw [e]; rfl); rw [List.length_take] at h3; omega
  rw [this, decide_eq_true (by rw [List.length_take]; omega)]
  rfl
theorem SzEnd.bad {t : Bs} {k n : Nat} (h : SzEnd t k n) (htl : tailOk (t.drop k) = false) : sizeI t = -1 := by
  refine sizeI_no ?_
  unfold sizeOk
  rw [h.beh, htl]
  simp
theorem all_drop (p : UInt8 → Bool) (s : Bs) (k i : Nat) (hk : k ≤ i) (hi : i < s.length) : ((s.take (i + 1)).drop k).all p = (((s.take i).drop k).all p && p s[i]) := by
  have e : s.take (i + 1) = s.take i ++ [s[i]] := (List.take_append_getElem hi).symm
  rw [e, List.drop_append_of_le_length (by rw [List.length_take]; omega), List.all_append]
  simp
theorem all_drop_no (p : UInt8 → Bool) (s : Bs) (k i : Nat) (hk : k ≤ i) (hi : i < s.length) (h : p s[i] = false) : (s.drop k).all p = false := by
  rw [Bool.eq_false_iff]
  intro ha
  have hm : s[i] ∈ s.drop k := by
    rw [List.mem_iff_getElem]
    exact ⟨i - k, by rw [List.length_drop]; omega, by rw [List.getElem_drop]; congr 1; omega⟩
  rw [List.all_eq_true.1 ha _ hm] at h
  cases h
theorem txt_data (t : Bs) : (txt t).data.toList = t := by simp [txt]
end Go.Proofs.YtcolnidgembniaaDoor.Fr
/-
  The reference's size of a chunk's line: what it returns. Condition: a text of at most 1025 bytes.
-/
namespace Go.Proofs.YtcolnidgembniaaDoor.Fr
open Go.RowKit Go.Proofs.YtcolnidgembniaaDoor.Tk Go.Proofs.YtcolnidgembniaaDoor.Fd Go.Proofs.YtcolnidgembniaaDoor.Hd
set_option linter.unusedVariables false

set_option maxRecDepth 100000 in
set_option maxHeartbeats 8000000 in
theorem rsize_any (s : ByteArray) (w : World) (hs : s.size ≤ 1025) :
    Calls Tryd.prog 49 #[.string s] w fun e w' => e = .returned (.int .i64 (sizeI s.data.toList)) ∧ w = w' := by
  obtain ⟨t, ht⟩ : ∃ t, t = s.data.toList := ⟨_, rfl⟩
  have hts : t.length = s.size := by rw [ht]; simp
  have HE := Lib.hid (fun (k : Nat) (hk : k < s.size) => show s[k] = t[k]'(by omega) from by subst ht; rfl)
  have HT := Lib.hid ht
  rw [← ht]
  clear ht
  go_enter Tryd.func49, Tryd.ntmps49
  go_wp2_with fail
  go_loop [3, 4] (fun vn vk => ∃ k n : Nat, vn = .int .i64 (n : Int) ∧ vk = .int .i64 (k : Int) ∧ Hid (SzAt t k n)) (fun _ vk => s.size - (intOf vk).toNat)
  case atStart => exact ⟨0, 0, rfl, rfl, Lib.hid ⟨Nat.zero_le _, by omega, rfl, rfl⟩⟩
  case round =>
    obtain ⟨k, n, rfl, rfl, HA⟩ := hrel
    have hk1 := HA.out.le
    have hk8 := HA.out.k8
    by_cases hgo : ∃ h : k < t.length, isHex t[k] = true
    · obtain ⟨hk, hc⟩ := hgo
      have hks : k < s.size := by omega
      have HX := Lib.hid (fun w => rhex_any (s[k]'hks) w)
      have hI : hexI (s[k]'hks) = (hexOf t[k] : Nat) := by rw [HE.out k hks]; unfold hexI; rw [if_pos hc]
      rw [hI] at HX
      have hd := (digit_yes hc)
      have hd16 : hexOf t[k] < 16 := by omega
      by_cases h8 : k = 8
      · subst h8
        have HV := Lib.hid (HA.out.long hk hc)
        obtain ⟨d, hdd⟩ : ∃ d, d = hexOf t[8] := ⟨_, rfl⟩
        rw [← hdd] at HX hd16
        clear hdd hd hc hI hk1 hk8
        go_wp2_with (go_at_call 69; refine (HX.out _).mono ?_; rintro e w' ⟨rfl, rfl⟩)
        all_goals
          go_ret
          exact ⟨by rw [HV.out]; rfl, rfl⟩
      · have HN := Lib.hid (HA.out.next hk h8 hc)
        have hsm := HA.out.small (by omega)
        obtain ⟨d, hdd⟩ : ∃ d, d = hexOf t[k] := ⟨_, rfl⟩
        rw [← hdd] at HX HN hd16
        clear hdd hd hc hI hk1
        go_wp2_with (go_at_call 69; refine (HX.out _).mono ?_; rintro e w' ⟨rfl, rfl⟩)
        all_goals
          go_round
          case rel => exact ⟨k + 1, n * 16 + d, by go_num, by go_num, HN⟩
          case measure => simp [intOf]; omega
    · have hend : ∀ h : k < t.length, isHex t[k] = false := fun h => by
        rcases Bool.eq_false_or_eq_true (isHex t[k]) with h1 | h1
        · exact absurd ⟨h, h1⟩ hgo
        · exact h1
      have HEn := Lib.hid (HA.out.ends hend)
      have hXs : k < s.size → ∃ h : k < s.size, hexI s[k] = -1 := fun h => ⟨h, by rw [HE.out k h]; unfold hexI; rw [if_neg (by rw [hend (by omega)]; simp)]⟩
      have HX := Lib.hid (fun (h : k < s.size) (w : World) => show Calls Tryd.prog 69 #[.int .u8 ((s[k]'h).toNat : Int)] w fun e w' => e = .returned (.int .i64 (-1)) ∧ w = w' from by
        obtain ⟨_, h1⟩ := hXs h
        rw [← h1]; exact rhex_any _ w)
      clear hXs hgo hend HA
      by_cases h0 : k = 0
      · subst h0
        have HV := Lib.hid HEn.out.none
        rcases Nat.lt_or_ge 0 s.size with hks | hks
        all_goals
          go_wp2_with (go_at_call 69; refine (HX.out (by omega) _).mono ?_; rintro e w' ⟨rfl, rfl⟩)
          go_ret
          exact ⟨by rw [HV.out]; rfl, rfl⟩
      · have hk0 : 0 < k := by omega
        obtain ⟨R, hR⟩ : ∃ R, s.extract k s.size = R := ⟨_, rfl⟩
        have hRd : R.data.toList = t.drop k := by
          rw [← hR, ByteArray.data_extract, Array.toList_extract, List.extract_eq_take_drop, ← HT.out]
          rw [List.take_of_length_le (by rw [List.length_drop]; omega)]
        have hRs : R.size ≤ 1025 := by rw [← hR, ByteArray.size_extract]; omega
        have HTr := Lib.hid (fun w => refTrim_any R w (by unfold maxLen; omega))
        rw [hRd] at HTr
        obtain ⟨Q, hQ⟩ : ∃ Q : ByteArray, Q = ⟨(trim (t.drop k)).toArray⟩ := ⟨_, rfl⟩
        rw [← hQ] at HTr
        have hQd : Q.data.toList = trim (t.drop k) := by rw [hQ]
        have hQs : Q.size ≤ 1025 := by
          have h1 : Q.data.toList.length = Q.size := by simp
          have h2 := trim_length (t.drop k)
          rw [← hQd, h1, List.length_drop] at h2
          omega
        have HQ := Lib.hid hQd
        clear hQ hQd hRd
        have hks' : k < s.size ∨ s.size ≤ k := by omega
        by_cases hq0 : Q.size = 0
        · have hqe : Q.toList.isEmpty = true := by rw [text_empty hq0]; rfl
          have HV := Lib.hid (HEn.out.ok hk0 (tail_nil (by rw [← HQ.out]; apply List.length_eq_zero_iff.1; rw [Array.length_toList]; exact hq0)))
          rcases hks' with hks | hks
          all_goals
            go_wp2_with (first | (go_at_call 69; refine (HX.out (by omega) _).mono ?_; rintro e w' ⟨rfl, rfl⟩) | (go_at_call 70; refine (HTr.out _).mono ?_; rintro e w' ⟨rfl, rfl⟩))
            go_ret
            exact ⟨by rw [HV.out]; rfl, rfl⟩
        · have hq1 : 0 < Q.size := by omega
          have hqe : Q.toList.isEmpty = false := text_full hq1
          obtain ⟨c, hc⟩ : ∃ c, c = Q[0] := ⟨_, rfl⟩
          have HQ1 := Lib.hid (show ∃ m, trim (t.drop k) = c :: m from by
            rw [← HQ.out]
            have h1 : Q.data.toList.length = Q.size := by simp
            cases hl : Q.data.toList with
            | nil => rw [hl] at h1; simp at h1; omega
            | cons d r => exact ⟨r, by rw [hc]; show d :: r = Q.data.toList[0]'(by omega) :: r; simp [hl]⟩)
          have hks : k < s.size := by
            rcases hks' with h | h
            · exact h
            · exfalso
              obtain ⟨m, hm⟩ := HQ1.out
              rw [List.drop_eq_nil_of_le (by omega)] at hm
              cases hm
          clear hks'
          by_cases hc59 : c = 59
          · have hcn : ((Q[0].toNat : Int) != 59) = false := by rw [← hc, hc59]; rfl
            have HTL := Lib.hid (show tailOk (t.drop k) = (t.drop k).all ext from by obtain ⟨m, hm⟩ := HQ1.out; rw [hc59] at hm; exact tail_sem hm)
            clear hc hc59
            go_wp2_with (first | (go_at_call 69; refine (HX.out (by omega) _).mono ?_; rintro e w' ⟨rfl, rfl⟩) | (go_at_call 70; refine (HTr.out _).mono ?_; rintro e w' ⟨rfl, rfl⟩))
            go_loop [6] (fun vi => ∃ i : Nat, vi = .int .i64 (i : Int) ∧ k ≤ i ∧ i ≤ s.size ∧ Hid (((t.take i).drop k).all ext = true)) (fun vi => s.size - (intOf vi).toNat)
            case atStart => exact ⟨k, rfl, Nat.le_refl _, by omega, Lib.hid (by rw [List.drop_take, Nat.sub_self]; rfl)⟩
            case round =>
              obtain ⟨i, rfl, hki, his, HAl⟩ := hrel
              by_cases hlt : i < s.size
              · have hst := Lib.hid (HE.out i hlt)
                by_cases h9 : s[i].toNat < 9
                · have HV := Lib.hid (HEn.out.bad (by rw [HTL.out]; exact all_drop_no ext t k i hki (by omega) (by rw [← hst.out]; unfold ext; simp; omega)))
                  have h9' : (s[i].toNat : Int) < 9 := by omega
                  go_wp2_with fail
                  go_ret
                  exact ⟨by rw [HV.out]; rfl, rfl⟩
                · have h9' : ¬ ((s[i].toNat : Int) < 9) := by omega
                  by_cases h127 : s[i].toNat = 127
                  · have HV := Lib.hid (HEn.out.bad (by rw [HTL.out]; exact all_drop_no ext t k i hki (by omega) (by rw [← hst.out]; unfold ext; simp [h127])))
                    have hd : (s[i].toNat : Int) = 127 := by omega
                    have hd2 : ((s[i].toNat : Int) == 127) = true := by simp; omega
                    clear h127
                    go_wp2_with fail
                    go_ret
                    exact ⟨by rw [HV.out]; rfl, rfl⟩
                  · have HN := Lib.hid (show ((t.take (i + 1)).drop k).all ext = true from by
                      rw [all_drop ext t k i hki (by omega), HAl.out, ← hst.out]; unfold ext; simp [h127]; omega)
                    have hd : ¬ ((s[i].toNat : Int) = 127) := by omega
                    have hd2 : ((s[i].toNat : Int) == 127) = false := by simp; omega
                    clear h127
                    go_wp2_with fail
                    go_round
                    case rel => exact ⟨i + 1, by go_num, by omega, by omega, HN⟩
                    case measure => simp [intOf]; omega
              · have HV := Lib.hid (HEn.out.ok hk0 (by rw [HTL.out]; have := HAl.out; rwa [List.take_of_length_le (by omega)] at this))
                go_wp2_with fail
                go_ret
                exact ⟨by rw [HV.out]; rfl, rfl⟩
          · have hcn : ((Q[0].toNat : Int) != 59) = true := by
              rw [bne_iff_ne, ← hc]; intro e; apply hc59; apply UInt8.toNat.inj; show c.toNat = 59; omega
            have HV := Lib.hid (HEn.out.bad (by obtain ⟨m, hm⟩ := HQ1.out; exact tail_other hm hc59))
            clear hc hc59
            go_wp2_with (first | (go_at_call 69; refine (HX.out (by omega) _).mono ?_; rintro e w' ⟨rfl, rfl⟩) | (go_at_call 70; refine (HTr.out _).mono ?_; rintro e w' ⟨rfl, rfl⟩))
            go_ret
            exact ⟨by rw [HV.out]; rfl, rfl⟩
end Go.Proofs.YtcolnidgembniaaDoor.Fr
/-
  gatepostref04.Parse: what it returns. Condition: a text of at most 2^46 bytes.
-/
namespace Go.Proofs.YtcolnidgembniaaDoor.Fd
open Go.RowKit Tk
set_option linter.unusedVariables false

theorem get58 {s : ByteArray} {k : Nat} (h : k < s.size) (e : (((s[k]'h).toNat : Int) != 58) = false) : s.data.toList[k]'(by simpa using h) = 58 := by
  rcases Decidable.em (((s[k]'h).toNat : Int) = 58) with h1 | h1
  · apply UInt8.toNat.inj
    show (s[k]'h).toNat = 58
    omega
  · rw [bne_iff_ne.2 h1] at e; cases e
theorem not58 {s : ByteArray} {k : Nat} (h : k < s.size) (e : (((s[k]'h).toNat : Int) != 58) = true) : s.data.toList[k]'(by simpa using h) ≠ 58 := by
  intro h2
  have h3 : (s[k]'h) = 58 := h2
  rw [h3] at e; simp at e

def Upto (s : ByteArray) (k : Nat) : Prop := ∀ j (hj : j < s.data.toList.length), j < k → s.data.toList[j] ≠ 58

set_option maxHeartbeats 2000000 in
theorem refParse_any (s : ByteArray) (w : World) (hs : s.size ≤ 70368744177664) :
    Calls Tryd.prog 50 #[.string s] w fun e w' => e = .returned (parseVal s) ∧ Below w.heap.size w w' := by
  have hlen : s.data.toList.length = s.size := by simp
  have HLEN := Lib.hid hlen
  clear hlen
  go_enter Tryd.func50, Tryd.ntmps50
  go_wp2_with fail
  go_loop [4] (fun i => ∃ k : Nat, k ≤ s.size ∧ i = .int .i64 (k : Int) ∧ Upto s k) (fun i => s.size - (intOf i).toNat)
  case atStart => exact ⟨0, Nat.zero_le _, rfl, fun j _ h => by omega⟩
  case round =>
    obtain ⟨k, hk, rfl, hup⟩ := hrel
    have HUP := Lib.hid hup
    clear hup
    by_cases hlt : k < s.size
    · cases hne : (((s[k]'hlt).toNat : Int) != 58) with
      | true =>
        have HN := Lib.hid (not58 hlt hne)
        go_wp2_with fail
        go_round
        case rel => exact ⟨k + 1, by omega, by go_num, fun j h1 h2 => by
          by_cases e : j = k
          · subst e; exact HN.out
          · exact HUP.out j h1 (by omega)⟩
        case measure => simp [intOf]; omega
      | false =>
        have hci : colIdx s.data.toList = k := colIdx_is _ k (by rw [HLEN.out]; omega) (fun j hj => HUP.out j (by rw [HLEN.out]; omega) hj) (fun h => get58 hlt hne)
        have hks : ((k : Int) == (s.size : Int)) = false := beq_eq_false_iff_ne.2 (by omega)
        obtain ⟨n, hn⟩ : ∃ n, n = s.extract 0 k := ⟨_, rfl⟩
        obtain ⟨T, hT⟩ : ∃ T, T = s.extract (k + 1) s.size := ⟨_, rfl⟩
        obtain ⟨v, hv⟩ : ∃ v : ByteArray, v = ⟨(trim T.data.toList).toArray⟩ := ⟨_, rfl⟩
        have hns : n.size ≤ s.size := by rw [hn]; simp; omega
        have hTs : T.size ≤ s.size := by rw [hT]; simp
        have hvs : v.size ≤ s.size := by
          have h := trim_length T.data.toList
          have e : T.data.toList.length = T.size := by simp
          rw [hv]; show (trim _).toArray.size ≤ _
          rw [List.size_toArray]; omega
        have HPV := Lib.hid (show parseVal s = if isFld n.data.toList v.data.toList then .tuple #[FV n v, .int .i64 0] else .tuple #[FV ⟨#[]⟩ ⟨#[]⟩, .int .i64 31] from by
          unfold parseVal parseOk pName pVal; rw [hci, hv, hT, hn]; simp [hlt])
        have HNE := Lib.hid hn
        have HTE := Lib.hid hT
        have HVE := Lib.hid hv
        clear hn hT hv hci HUP
        cases h1 : isTok n.data.toList with
        | false =>
          have H1 := Lib.hid h1
          have HF := Lib.hid (show isFld n.data.toList v.data.toList = false from by unfold isFld; rw [h1]; rfl)
          clear h1
          rw [HF.out] at HPV
          have hr0 := new_block w (.cells #[.string ⟨#[]⟩, .string ⟨#[]⟩] 36)
          go_wp2_with fail
          rw [← HNE.out]
          refine (refIs_any n _ (by unfold maxLen; omega)).mono ?_
          rintro e w1 ⟨rfl, rfl⟩
          rw [H1.out]
          go_wp2_with fail
          refine bodyPost_ret (results_pair rfl _ _ w.heap.size 36 _ (0, 0) _ rfl (new_block w _) Tryd.underlying36 rfl infoFieldSize) rfl ?_
          exact ⟨by rw [HPV.out]; rfl, (Below.refl _ _).alloc (Nat.le_refl _) _⟩
        | true =>
          have H1 := Lib.hid h1
          cases h2 : isVal v.data.toList
          all_goals
            have H2 := Lib.hid h2
            first | have HF := Lib.hid (show isFld n.data.toList v.data.toList = true from by unfold isFld; rw [h1, h2]; rfl) | have HF := Lib.hid (show isFld n.data.toList v.data.toList = false from by unfold isFld; rw [h1, h2]; rfl)
            clear h2
            rw [HF.out] at HPV
            have hr0 := new_block w (.cells #[.string ⟨#[]⟩, .string ⟨#[]⟩] 36)
            try clear h1
            go_wp2_with fail
            rw [← HNE.out]
            refine (refIs_any n _ (by unfold maxLen; omega)).mono ?_
            rintro e w1 ⟨rfl, rfl⟩
            rw [H1.out]
            go_wp2_with fail
            rw [← HTE.out]
            refine (refTrim_any T _ (by unfold maxLen; omega)).mono ?_
            rintro e w1 ⟨rfl, rfl⟩
            rw [← HVE.out]
            go_wp2_with fail
            refine (refValue_any v _ (by unfold maxLen; omega)).mono ?_
            rintro e w1 ⟨rfl, rfl⟩
            rw [H2.out]
            go_wp2_with fail
            try rw [← HNE.out]
            refine bodyPost_ret (results_pair rfl _ _ w.heap.size 36 _ (0, 0) _ rfl (new_block w _) Tryd.underlying36 rfl infoFieldSize) rfl ?_
            exact ⟨by rw [HPV.out]; rfl, (Below.refl _ _).alloc (Nat.le_refl _) _⟩
    · have hci : colIdx s.data.toList = s.size := colIdx_is _ s.size (by rw [HLEN.out]; omega) (fun j hj => HUP.out j (by rw [HLEN.out]; omega) (by omega)) (fun h => by rw [HLEN.out] at h; omega)
      have hks : ((k : Int) == (s.size : Int)) = true := beq_iff_eq.2 (by omega)
      have HPV := Lib.hid (show parseVal s = .tuple #[FV ⟨#[]⟩ ⟨#[]⟩, .int .i64 31] from by unfold parseVal parseOk; simp [hci])
      have hr0 := new_block w (.cells #[.string ⟨#[]⟩, .string ⟨#[]⟩] 36)
      clear hci HUP
      go_wp2_with fail
      refine bodyPost_ret (results_pair rfl _ _ w.heap.size 36 _ (0, 0) _ rfl (new_block w _) Tryd.underlying36 rfl infoFieldSize) rfl ?_
      exact ⟨by rw [HPV.out]; rfl, (Below.refl _ _).alloc (Nat.le_refl _) _⟩
end Go.Proofs.YtcolnidgembniaaDoor.Fd
/-
  The reference's ended: what it leaves. Condition: a text of at most 1025 bytes.
-/
namespace Go.Proofs.YtcolnidgembniaaDoor.Fr
open Go.RowKit Go.Proofs.YtcolnidgembniaaDoor.Tk Go.Proofs.YtcolnidgembniaaDoor.Fd Go.Proofs.YtcolnidgembniaaDoor.Hd
set_option linter.unusedVariables false

theorem sizeOf_small {t : Bs} {n : Nat} (h : sizeOf t = some n) : n < 4294967296 := by
  unfold sizeOf at h
  split at h
  · rename_i hk
    cases h
    unfold sizeOk at hk
    simp only [Bool.and_eq_true, decide_eq_true_eq] at hk
    exact hexGo_small (hexes_all t) hk.1.2
  · cases h
def bare : St → Prop
  | .size _ l => l = []
  | .gap _ l => l = []
  | .trail _ l => l = []
  | _ => False
def REndedPost (g : Nat) (s : St) (t : Bs) (w : World) (e : Ending) (w' : World) : Prop := e = .returned (.tuple #[]) ∧ RDec w' g (ended s t) ∧ Chg (fun k => k = g) w w'
section
variable {w : World} {g K L S P E : Nat} {o : ByteArray} {D : Bool}
theorem rd1 (h : RBlk w g K L S P o D E) : w.cell? ⟨g, 1, none⟩ = some (.int .i64 (L : Int)) := by unfold RBlk at h; rw [Lib.cell_of_heap h]; rfl
theorem rd2 (h : RBlk w g K L S P o D E) : w.cell? ⟨g, 2, none⟩ = some (.int .i64 (S : Int)) := by unfold RBlk at h; rw [Lib.cell_of_heap h]; rfl
theorem rd3 (h : RBlk w g K L S P o D E) : w.cell? ⟨g, 3, none⟩ = some (.int .i64 (P : Int)) := by unfold RBlk at h; rw [Lib.cell_of_heap h]; rfl
theorem rd4 (h : RBlk w g K L S P o D E) : w.cell? ⟨g, 4, none⟩ = some (.string o) := by unfold RBlk at h; rw [Lib.cell_of_heap h]; rfl
theorem rd_put1 (h : RBlk w g K L S P o D E) (x : Nat) : RBlk (w.setCell ⟨g, 1, none⟩ (.int .i64 (x : Int))) g K x S P o D E := heap_put h 1 _
theorem rd_put2 (h : RBlk w g K L S P o D E) (x : Nat) : RBlk (w.setCell ⟨g, 2, none⟩ (.int .i64 (x : Int))) g K L x P o D E := heap_put h 2 _
theorem rd_put3 (h : RBlk w g K L S P o D E) (x : Nat) : RBlk (w.setCell ⟨g, 3, none⟩ (.int .i64 (x : Int))) g K L S x o D E := heap_put h 3 _
theorem rd_put4 (h : RBlk w g K L S P o D E) (x : ByteArray) : RBlk (w.setCell ⟨g, 4, none⟩ (.string x)) g K L S P x D E := heap_put h 4 _
end
set_option maxRecDepth 100000 in
set_option maxHeartbeats 4000000 in
theorem rended_size (g m S : Nat) (t : Bs) (w : World) (hS : S + m = 1048576) (h : RBlk w g 2 0 S 0 ⟨#[]⟩ false 0) (ht : t.length ≤ 1025) :
    Calls Tryd.prog 36 #[.pointer (some ⟨g, 0, none⟩), .string (txt t)] w (REndedPost g (.size m []) t w) := by
  have HSS := Lib.hid hS
  have hS6 : S ≤ 1048576 := by omega
  have HS := Lib.hid (rsize_any (txt t) w (by rw [txt_size']; exact ht))
  rw [txt_data] at HS
  have HZ := Lib.hid (show ended (.size m []) t = sizeSt m (sizeOf t) from rfl)
  have c2 := rd2 h
  have c1 : w.cell? ⟨g, 1, none⟩ = some (.int .i64 0) := rd1 h
  have c6 : w.cell? ⟨g, 6, none⟩ = some (.int .i64 0) := rd6 h
  have c3 : w.cell? ⟨g, 3, none⟩ = some (.int .i64 0) := rd3 h
  have f1 := free h 1
  have f2 := free h 2
  have f3 := free h 3
  have f6 := free h 6
  have HB := Lib.hid h
  have hc : ∀ i x, Chg (fun k => k = g) w (w.setCell ⟨g, i, none⟩ x) := fun i x => (Chg.refl (fun k => k = g) w).put ⟨g, i, none⟩ x (.inl rfl)
  have HC := Lib.hid hc
  obtain ⟨T, hT⟩ : ∃ T, T = txt t := ⟨_, rfl⟩
  rw [← hT] at HS ⊢
  cases hz : sizeOf t with
  | none =>
    have hI : sizeI t = -1 := by unfold sizeI; rw [hz]
    have HN := Lib.hid (show ended (.size m []) t = .bad 32 from by rw [HZ.out, hz]; rfl)
    rw [hI] at HS
    have HB6 := Lib.hid (rd_put6 HB.out 32)
    clear h hT hz hI hc c2 f1 f2 f3
    clear hS
    go_enter Tryd.func36, Tryd.ntmps36
    go_wp2_with fail
    refine HS.out.mono ?_
    rintro e w1 ⟨rfl, rfl⟩
    go_wp2_with fail
    go_end0
    exact ⟨rfl, by rw [HN.out]; exact ⟨2, 0, S, 0, _, HB6.out⟩, HC.out _ _⟩
  | some n =>
    have hI : sizeI t = (n : Int) := by unfold sizeI; rw [hz]
    have hn4 := sizeOf_small hz
    rw [hI] at HS
    by_cases hmn : m < n
    · have HN := Lib.hid (show ended (.size m []) t = .bad 3 from by rw [HZ.out, hz]; show (if n = 0 then St.trail m [] else if m < n then .bad 3 else .chunk (m - n) n) = _; rw [if_neg (by omega), if_pos hmn])
      have HB6 := Lib.hid (rd_put6 HB.out 3)
      have hgt : 1048576 < (S : Int) + (n : Int) := by omega
      clear h hT hz hI hc f1 f2 f3 hmn
      clear hS
      go_enter Tryd.func36, Tryd.ntmps36
      go_wp2_with fail
      refine HS.out.mono ?_
      rintro e w1 ⟨rfl, rfl⟩
      go_wp2_with fail
      go_end0
      exact ⟨rfl, by rw [HN.out]; exact ⟨2, 0, S, 0, _, HB6.out⟩, HC.out _ _⟩
    · have hle : ¬ 1048576 < (S : Int) + (n : Int) := by omega
      have hcast : ((S + n : Nat) : Int) = (S : Int) + (n : Int) := by omega
      by_cases h0 : n = 0
      · subst h0
        have HN := Lib.hid (show ended (.size m []) t = .trail m [] from by rw [HZ.out, hz]; rfl)
        have HB3 := Lib.hid (rd_put3 (rd_put3 (rd_put1 (rd_put2 HB.out S) 0) 1) 3)
        have HCC := Lib.hid (fun a b c d => ((((Chg.refl (fun k => k = g) w).put ⟨g, 2, none⟩ a (.inl rfl)).put ⟨g, 1, none⟩ b (.inl rfl)).put ⟨g, 3, none⟩ c (.inl rfl)).put ⟨g, 3, none⟩ d (.inl rfl))
        clear h hT hz hI hc hmn hcast hn4
        clear hS
        go_enter Tryd.func36, Tryd.ntmps36
        go_wp2_with fail
        refine HS.out.mono ?_
        rintro e w1 ⟨rfl, rfl⟩
        go_wp2_with fail
        go_end0
        exact ⟨rfl, by rw [HN.out]; exact ⟨S, HSS.out, HB3.out⟩, HCC.out _ _ _ _⟩
      · have HN := Lib.hid (show ended (.size m []) t = .chunk (m - n) n from by rw [HZ.out, hz]; show (if n = 0 then St.trail m [] else if m < n then .bad 3 else .chunk (m - n) n) = _; rw [if_neg h0, if_neg hmn])
        have HB3 := Lib.hid (rd_put3 (rd_put1 (rd_put2 HB.out (S + n)) n) 1)
        rw [hcast] at HB3
        have hSn : S + n + (m - n) = 1048576 := by omega
        have HCC := Lib.hid (fun a b c => (((Chg.refl (fun k => k = g) w).put ⟨g, 2, none⟩ a (.inl rfl)).put ⟨g, 1, none⟩ b (.inl rfl)).put ⟨g, 3, none⟩ c (.inl rfl))
        have HSn := Lib.hid hSn
        have hn0 : 0 < n := by omega
        clear h hT hz hI hc hmn hcast h0 hSn
        clear hS
        go_enter Tryd.func36, Tryd.ntmps36
        go_wp2_with fail
        refine HS.out.mono ?_
        rintro e w1 ⟨rfl, rfl⟩
        go_wp2_with fail
        go_end0
        exact ⟨rfl, by rw [HN.out]; exact ⟨S + n, HSn.out, HB3.out⟩, HCC.out _ _ _⟩
set_option maxRecDepth 100000 in
set_option maxHeartbeats 4000000 in
theorem rended_gap (g m S : Nat) (t : Bs) (w : World) (hS : S + m = 1048576) (h : RBlk w g 2 0 S 2 ⟨#[]⟩ false 0) :
    Calls Tryd.prog 36 #[.pointer (some ⟨g, 0, none⟩), .string (txt t)] w (REndedPost g (.gap m []) t w) := by
  have HSS := Lib.hid hS
  have hS6 : S ≤ 1048576 := by omega
  have c3 : w.cell? ⟨g, 3, none⟩ = some (.int .i64 2) := rd3 h
  have c6 : w.cell? ⟨g, 6, none⟩ = some (.int .i64 0) := rd6 h
  have f3 := free h 3
  have f6 := free h 6
  by_cases ht : t = []
  · subst ht
    rw [txt_nil]
    have HB3 := Lib.hid (rd_put3 h 0)
    have HC := Lib.hid (fun a => (Chg.refl (fun k => k = g) w).put ⟨g, 3, none⟩ a (.inl rfl))
    clear h
    clear hS
    go_enter Tryd.func36, Tryd.ntmps36
    go_wp2_with fail
    go_end0
    exact ⟨rfl, ⟨S, HSS.out, HB3.out⟩, HC.out _⟩
  · have hs : 0 < (txt t).size := by rw [txt_size']; cases t with | nil => exact (ht rfl).elim | cons c r => simp
    have HN := Lib.hid (show ended (.gap m []) t = .bad 32 from by show gapSt m t = _; unfold gapSt; rw [if_neg ht])
    have HB := Lib.hid (rd_put3 (rd_put6 h 32) 0)
    have HC := Lib.hid (fun a b => ((Chg.refl (fun k => k = g) w).put ⟨g, 6, none⟩ a (.inl rfl)).put ⟨g, 3, none⟩ b (.inl rfl))
    obtain ⟨T, hT⟩ : ∃ T, T = txt t := ⟨_, rfl⟩
    rw [← hT] at hs ⊢
    have ht0 : T.toList.isEmpty = false := text_full hs
    clear h hT ht
    clear hS
    go_enter Tryd.func36, Tryd.ntmps36
    go_wp2_with fail
    go_end0
    exact ⟨rfl, by rw [HN.out]; exact ⟨2, 0, S, 0, _, HB.out⟩, HC.out _ _⟩
set_option maxRecDepth 100000 in
set_option maxHeartbeats 4000000 in
theorem rended_trail (g m S : Nat) (t : Bs) (w : World) (hS : S + m = 1048576) (h : RBlk w g 2 0 S 3 ⟨#[]⟩ false 0) (hl : t.length ≤ 1025) :
    Calls Tryd.prog 36 #[.pointer (some ⟨g, 0, none⟩), .string (txt t)] w (REndedPost g (.trail m []) t w) := by
  have HSS := Lib.hid hS
  have hS6 : S ≤ 1048576 := by omega
  have c3 : w.cell? ⟨g, 3, none⟩ = some (.int .i64 3) := rd3 h
  have c5 : w.cell? ⟨g, 5, none⟩ = some (.bool false) := rd5 h
  have f5 := free h 5
  by_cases ht : t = []
  · subst ht
    rw [txt_nil]
    have HB := Lib.hid (rd_put5 h true)
    have HC := Lib.hid (fun a => (Chg.refl (fun k => k = g) w).put ⟨g, 5, none⟩ a (.inl rfl))
    clear h
    clear hS
    go_enter Tryd.func36, Tryd.ntmps36
    go_wp2_with fail
    go_end0
    exact ⟨rfl, ⟨2, 0, S, 3, _, HB.out⟩, HC.out _⟩
  · have hs : 0 < (txt t).size := by rw [txt_size']; cases t with | nil => exact (ht rfl).elim | cons c r => simp
    have HE := Lib.hid (show ended (.trail m []) t = if (fldOf (txt t)).2 = 0 then .trail m [] else .bad (fldOf (txt t)).2 from by show trailSt m t = _; unfold trailSt; rw [if_neg ht])
    have hsz : (txt t).size ≤ 70368744177664 := by rw [txt_size']; omega
    obtain ⟨T, hTT⟩ : ∃ T, T = txt t := ⟨_, rfl⟩
    rw [← hTT] at hs HE hsz ⊢
    have ht0 : T.toList.isEmpty = false := text_full hs
    have HV := Lib.hid (parseVal_of T)
    have HP := Lib.hid (refParse_any T w hsz)
    obtain ⟨⟨⟨a, b⟩, e0⟩, hR⟩ : ∃ R, R = fldOf T := ⟨_, rfl⟩
    rw [← hR] at HV HE
    have HH := Lib.hid h
    have HLt := block_lt h
    clear h hTT ht hR hl hsz f5
    clear hS
    go_enter Tryd.func36, Tryd.ntmps36
    go_wp2_with fail
    refine HP.out.mono ?_
    rintro e w1 ⟨rfl, hb⟩
    rw [HV.out]
    unfold FV
    have HB := Lib.hid hb
    have HK : RBlk w1 g 2 0 S 3 ⟨#[]⟩ false 0 := Bl.old hb HLt HH.out
    have d6 : w1.cell? ⟨g, 6, none⟩ = some (.int .i64 0) := rd6 HK
    have f6 := free HK 6
    have hall : ∀ X, RBlk (w1.alloc X) g 2 0 S 3 ⟨#[]⟩ false 0 := fun X => (old_block _ _ (block_lt HK)).trans HK
    have e6 : ∀ X, (w1.alloc X).cell? ⟨g, 6, none⟩ = some (.int .i64 0) := fun X => rd6 (hall X)
    have g6 : ∀ X, (w1.alloc X).frozen? ⟨g, 6, none⟩ = false := fun X => free (hall X) 6
    have HK6 := Lib.hid (rd_put6 HK e0)
    have HA6 := Lib.hid (fun X => rd_put6 (hall X) e0)
    have HC := Lib.hid (show ∀ x, Chg (fun k => k = g) w (w1.setCell ⟨g, 6, none⟩ x) from fun x => (Chg.of_below (O := fun k => k = g) hb).put _ _ (.inl rfl))
    have HCA := Lib.hid (show ∀ X x, Chg (fun k => k = g) w ((w1.alloc X).setCell ⟨g, 6, none⟩ x) from fun X x => ((Chg.of_below (O := fun k => k = g) hb).alloc X).put _ _ (.inl rfl))
    have HR := Lib.hid (show ∀ w', RBlk w' g 2 0 S 3 ⟨#[]⟩ false e0 → RDec w' g (ended (.trail m []) t) from fun w' hw => by
      rw [HE.out]
      by_cases h0 : e0 = 0
      · subst h0; exact ⟨S, HSS.out, hw⟩
      · rw [if_neg h0]; exact ⟨2, 0, S, 3, _, hw⟩)
    clear hb HK hall
    go_wp2_with fail
    go_end0
    first
      | exact ⟨rfl, HR.out _ (HA6.out _), HCA.out _ _⟩
      | exact ⟨rfl, HR.out _ HK6.out, HC.out _⟩
/-- The reference's ended, at any line. -/
theorem rended_any (g : Nat) (s : St) (t : Bs) (w : World) (h : RDec w g s) (hs : bare s) (hl : t.length ≤ 1025) : Calls Tryd.prog 36 #[.pointer (some ⟨g, 0, none⟩), .string (txt t)] w (REndedPost g s t w) := by
  cases s with
  | size m l => obtain rfl : l = [] := hs; obtain ⟨S, hS, h⟩ := h; exact rended_size g m S t w hS h hl
  | gap m l => obtain rfl : l = [] := hs; obtain ⟨S, hS, h⟩ := h; exact rended_gap g m S t w hS h
  | trail m l => obtain rfl : l = [] := hs; obtain ⟨S, hS, h⟩ := h; exact rended_trail g m S t w hS h hl
  | _ => exact hs.elim
end Go.Proofs.YtcolnidgembniaaDoor.Fr
