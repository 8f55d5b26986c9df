/-
  A reader's Feed: what it returns and leaves. Condition: the table of token bytes.
-/
import Derived.Test.YtlnlihkljnkhiaaDoorHdTake
import Derived.Deep.QuietTactic
import Derived.BigQuiet
namespace Go.Proofs.YtlnlihkljnkhiaaDoor.Hd
open Go.RowKit Go.Proofs.YtlnlihkljnkhiaaDoor.Tk Go.Proofs.YtlnlihkljnkhiaaDoor.Fd
set_option linter.unusedVariables false

theorem neq_fun (w : World) (fn : Fn) (fi ca : Array Value) : (binOp .neq 58 (.func fn fi ca) .nilFunc).run Tryd.prog w = .ok (.bool true) w := by kernel_rfl
/-- The cells that tell how a reader stands. -/
structure Tells (w : World) (g : Nat) (s : St) : Prop where
  fn : ∃ F, IsFn F ∧ w.cell? ⟨g, 2, none⟩ = some F
  whole : w.cell? ⟨g, 5, none⟩ = some (.bool (doneOf s))
  failed : w.cell? ⟨g, 6, none⟩ = some (.int .i64 (errOf s : Nat))
theorem Rdr.tells {w : World} {O : Nat → Prop} {resp : Bool} {g : Nat} {s : St} (h : Rdr w O resp g s) : Tells w g s := by
  cases s with
  | on p l n fs => obtain ⟨gb, lv, fv, h⟩ := h; exact ⟨⟨_, fnOf_is gb p, rc2 h.blk⟩, rc5 h.blk, rc6 h.blk⟩
  | done q fs => obtain ⟨M, F, lv, n, fv, hF, hb, hf, hg, ho⟩ := h; exact ⟨⟨F, hF, rc2 hb⟩, rc5 hb, rc6 hb⟩
  | bad e => obtain ⟨M, F, hF, hb, hg⟩ := h; exact ⟨⟨F, hF, rc2 hb⟩, rc5 hb, rc6 hb⟩

set_option maxHeartbeats 1000000 in
theorem made_yes (g : Nat) (F : Value) (w : World) (hF : IsFn F) (h : w.cell? ⟨g, 2, none⟩ = some F) : Calls Tryd.prog 22 #[.pointer (some ⟨g, 0, none⟩)] w fun e w' => e = .returned (.bool true) ∧ w = w' := by
  obtain ⟨fn, fi, ca, rfl⟩ := hF
  have hq := neq_fun
  go_enter Tryd.func22, Tryd.ntmps22
  go_wp2_with fail
  go_ret
  exact ⟨rfl, rfl⟩

def FeedPost (O : Nat → Prop) (resp : Bool) (g : Nat) (s : St) (b : Bs) (w : World) (e : Ending) (w' : World) : Prop :=
  e = .returned (.tuple #[.int .i64 ((run resp s b).1 : Nat), .bool (doneOf (run resp s b).2), .int .i64 (errOf (run resp s b).2 : Nat)]) ∧ Rdr w' (New O w) resp g (run resp s b).2 ∧ Chg O w w'
/-- Where a Feed stands at its loop's head. -/
def FeedAt (O : Nat → Prop) (resp : Bool) (g : Nat) (s : St) (b : Bs) (w : World) (k : Nat) (st : St) (wr : World) : Prop :=
  k ≤ b.length ∧ run resp s b = (k + (run resp st (b.drop k)).1, (run resp st (b.drop k)).2) ∧ Good st ∧ Rdr wr (New O w) resp g st ∧ Chg O w wr
theorem FeedAt.ends {O : Nat → Prop} {resp : Bool} {g : Nat} {s : St} {b : Bs} {w : World} {k : Nat} {st : St} {wr : World} (h : FeedAt O resp g s b w k st wr) (ho : over st = true ∨ k = b.length) : run resp s b = (k, st) := by
  obtain ⟨_, hr, _⟩ := h
  rcases ho with ho | ho
  · rw [hr, run_over ho]; rfl
  · rw [hr, ho, List.drop_length, run_nil]; rfl
theorem FeedAt.post {O : Nat → Prop} {resp : Bool} {g : Nat} {s : St} {b : Bs} {w : World} {k : Nat} {st : St} {wr : World} (h : FeedAt O resp g s b w k st wr) (ho : over st = true ∨ k = b.length) {n : Nat} :
    FeedPost O resp g s b w (.returned (.tuple #[.int .i64 (k : Int), .bool (doneOf st), .int .i64 (errOf st : Nat)])) (wr.drewN n) := by
  unfold FeedPost
  rw [h.ends ho]
  obtain ⟨_, _, _, hR, hC⟩ := h
  exact ⟨rfl, hR.below ⟨rfl, rfl, rfl, Nat.le_refl _, fun _ _ => rfl⟩, hC.drewN n⟩
theorem took_at {O : Nat → Prop} {resp : Bool} {g : Nat} {s : St} {b : Bs} {w : World} {k : Nat} {st : St} {wr w' : World} (h : FeedAt O resp g s b w k st wr) {j : Nat} {st' : St} (ht : Took resp st (b.drop k) j st') (hR : Rdr w' (New (New O w) wr) resp g st') (hC : Chg (New O w) wr w') :
    k < k + j ∧ k + j ≤ b.length ∧ FeedAt O resp g s b w (k + j) st' w' := by
  obtain ⟨hk, hr, hG, hR0, hC0⟩ := h
  obtain ⟨h1, h2, h3, h4⟩ := ht
  rw [List.length_drop] at h2
  refine ⟨by omega, by omega, by omega, ?_, h4 hG, hR.mono (new_new hC0.size), hC0.again hC⟩
  rw [hr, h3, List.drop_drop]
  simp only [Prod.mk.injEq, and_true]
  omega

theorem over_of {s : St} (h : doneOf s = true ∨ errOf s ≠ 0) : over s = true := by
  cases s with
  | on p l n fs => simp [doneOf, errOf] at h
  | done => rfl
  | bad => rfl
theorem over_no {s : St} (hG : Good s) (h1 : doneOf s = false) (h2 : errOf s = 0) : ∃ p l n fs, s = .on p l n fs := by
  cases s with
  | on p l n fs => exact ⟨p, l, n, fs, rfl⟩
  | done => simp [doneOf] at h1
  | bad e => simp [errOf] at h2; subst h2; rcases hG with h | h | h <;> omega

set_option maxRecDepth 100000 in
set_option maxHeartbeats 8000000 in
theorem feed_any (O : Nat → Prop) (resp : Bool) (g : Nat) (s : St) (v : Value) (b : Bs) (w : World) (h : Rdr w O resp g s) (hG : Good s) (hv : Byts w v b) (hvo : 0 < b.length → ∀ k, v.ownBlock = some k → ¬ O k) (hbl : b.length ≤ maxLen)
    (hT : Tab w) (ho : ¬ O 0) :
    Calls Tryd.prog 10 #[.pointer (some ⟨g, 0, none⟩), v] w (FeedPost O resp g s b w) := by
  obtain ⟨va, vc, hvs⟩ := hv.shape
  have HF0 := Lib.hid (show FeedAt O resp g s b w 0 s w from ⟨Nat.zero_le _, by simp, hG, h.mono (fun k hk => .inl hk), Chg.refl _ _⟩)
  obtain ⟨⟨F, hF, c2⟩, c5, c6⟩ := h.tells
  have HV := Lib.hid hv
  have htl := hT.lt
  have HT := Lib.hid hT
  unfold maxLen at hbl
  subst hvs
  clear h hv hT hG c5 c6
  go_enter Tryd.func10, Tryd.ntmps10
  go_wp2_with fail
  refine (made_yes g F _ hF c2).mono ?_
  rintro e w0 ⟨rfl, rfl⟩
  clear c2 hF
  go_wp2_with fail
  go_loopw [4] (fun u wr => ∃ (k : Nat) (st : St), u = .int .i64 (k : Int) ∧ FeedAt O resp g s b w k st wr) (fun u _ => b.length - (intOf u).toNat)
  case atStart => exact ⟨0, s, rfl, HF0.out⟩
  case round =>
    obtain ⟨k, st, rfl, hAt⟩ := hrel
    have HA := Lib.hid hAt
    obtain ⟨hk, _, hGs, hRs, hCs⟩ := hAt
    obtain ⟨_, c5, c6⟩ := hRs.tells
    have HG := Lib.hid hGs
    have HR := Lib.hid hRs
    have HC := Lib.hid hCs
    obtain ⟨D, hD⟩ : ∃ D, D = doneOf st := ⟨_, rfl⟩
    obtain ⟨E, hE⟩ : ∃ E, E = errOf st := ⟨_, rfl⟩
    rw [← hD] at c5
    rw [← hE] at c6
    have HP := Lib.hid (fun (n : Nat) (ho : over st = true ∨ k = b.length) => (show FeedPost O resp g s b w (.returned (.tuple #[.int .i64 (k : Int), .bool D, .int .i64 (E : Int)])) (wr.drewN n) from by rw [hD, hE]; exact HA.out.post ho))
    have HD := Lib.hid hD
    have HE := Lib.hid hE
    clear hGs hRs hCs hD hE
    by_cases hlt : k < b.length
    · cases D with
      | true =>
        have HOv := Lib.hid (show over st = true from over_of (.inl HD.out.symm))
        go_wp2_with fail
        go_quiet (fail)
        go_wp2_with fail
        go_ret3
        exact HP.out _ (.inl HOv.out)
      | false =>
        by_cases he : E = 0
        · subst he
          obtain ⟨p, l, n, fs, hst⟩ := over_no HG.out HD.out.symm HE.out.symm
          have c6' : wr.cell? ⟨g, 6, none⟩ = some (.int .i64 0) := c6
          rcases HV.out with ⟨hb0, _⟩ | ⟨B, off, cap, hve, hcap, hcm, hB, hh⟩
          · rw [hb0] at hlt; simp at hlt
          injection hve with e1 e2 e3
          subst e1 e3
          have hOB : ¬ O B := hvo (by omega) B rfl
          have hNB : ¬ New O w B := fun hn => by
            rcases hn with hn | hn
            · exact hOB hn
            · omega
          have hNT : ¬ New O w 0 := fun hn => by
            rcases hn with hn | hn
            · exact ho hn
            · omega
          have hKB : wr.heap[B]? = w.heap[B]? := HC.out.block B hB hOB
          have HH := Lib.hid (show Holds wr B (off + k) (b.drop k) from by
            have h1 : Holds wr B off b := fun j hj => by rw [World.cell?_of_block (w := w) hKB]; exact hh j hj
            have h2 := h1.part k b.length (Nat.le_refl _)
            rwa [List.take_length] at h2)
          have hlt2 : B < wr.heap.size := Nat.lt_of_lt_of_le hB HC.out.size
          have HTk := Lib.hid (fun (v' : Value) (hv' : v' = .slice (some ⟨B, off + k, none⟩) (b.length - k) (vc - k)) => (show Calls Tryd.prog 23 #[.pointer (some ⟨g, 0, none⟩), v'] wr (TakePost (New O w) resp g st (b.drop k) wr) from by
            have hR2 := HR.out
            have hG2 := HG.out
            rw [hst] at hR2 hG2 ⊢
            obtain ⟨gb, lv, fv, hOn⟩ := hR2
            subst hv'
            exact take_any (New O w) resp g gb lv fv p l n fs _ (b.drop k) wr hOn hG2 (.inr ⟨B, off + k, vc - k, by rw [List.length_drop], by rw [List.length_drop]; omega, by omega, hlt2, HH.out⟩) (fun j hj => by injection hj with hj; subst hj; exact hNB) (by rw [List.length_drop]; omega) (Tab.chg HT.out HC.out ho) hNT))
          have hck : ¬ vc = k := by omega
          unfold maxLen at hcm
          clear c6 hh hst hKB e2
          go_wp2_with fail
          refine (HTk.out _ rfl).mono ?_
          rintro e w1 ⟨j, st', rfl, ht, hR1, hC1⟩
          obtain ⟨hj1, hj2, hAt1⟩ := took_at HA.out ht hR1 hC1
          have HA1 := Lib.hid hAt1
          clear ht hR1 hC1 hAt1
          go_wp2_with fail
          go_roundw
          case rel => exact ⟨k + j, st', by go_num, HA1.out⟩
          case measure => simp [intOf]; omega
        · have hne : ((E : Int) == 0) = false := by rw [beq_eq_false_iff_ne]; omega
          have HOv := Lib.hid (show over st = true from over_of (.inr (by rw [← HE.out]; exact he)))
          clear he
          go_wp2_with fail
          go_quiet (fail)
          go_wp2_with fail
          go_ret3
          exact HP.out _ (.inl HOv.out)
    · have hke : k = b.length := by omega
      have HKE := Lib.hid hke
      clear hke
      go_wp2_with fail
      go_quiet (fail)
      go_wp2_with fail
      go_ret3
      exact HP.out _ (.inr HKE.out)
end Go.Proofs.YtlnlihkljnkhiaaDoor.Hd
