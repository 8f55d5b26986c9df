/-
  Texts that the laws' proofs stand on, 10 of them in one file; each one's head says what it proves and under which condition.
-/
import Derived.Test.YtcolnidgembniaaGreatDoorMsAllP8
import Derived.Deep.QuietTactic
import Derived.BigQuiet
import Derived.Test.YtcolnidgembniaaGreatDoorMsAllP7
import Derived.Test.YtcolnidgembniaaGreatDoorMsAllP6
import Derived.Deep.DeepCutAuto
import Derived.Deep.RegionWith
import Derived.Laws.AppendOwnNone
import Derived.WalkSpells
import Derived.Lib.LazyBuf
import Derived.Test.YtcolnidgembniaaGreatDoorMsAllP2
import Derived.Shelf.Strings.BuilderK
import Derived.Test.YtcolnidgembniaaGreatDoorRows
import Derived.Test.YtcolnidgembniaaGreatDoorMsAllP1
import Derived.WalkKit
import Derived.WalkLawsBesides
import Derived.Outline
import Derived.Lib.Hide
/-
  A reader's Feed: what it returns and leaves. Condition: the table of token bytes.
-/
namespace Go.Proofs.YtcolnidgembniaaGreatDoor.Hd
open Go.RowKit Go.Proofs.YtcolnidgembniaaGreatDoor.Tk Go.Proofs.YtcolnidgembniaaGreatDoor.Fd
set_option linter.unusedVariables false

theorem neq_fun (w : World) (fn : Fn) (fi ca : Array Value) : (binOp .neq 70 (.func fn fi ca) .nilFunc).run Tryz.prog w = .ok (.bool true) w := by kernel_rfl
/-- The cells that tell how a reader stands. -/
structure Tells (w : World) (g : Nat) (s : St) : Prop where
  fn : ∃ F, IsFn F ∧ w.cell? ⟨g, 2, none⟩ = some F
  whole : w.cell? ⟨g, 5, none⟩ = some (.bool (doneOf s))
  failed : w.cell? ⟨g, 6, none⟩ = some (.int .i64 (errOf s : Nat))
theorem Rdr.tells {w : World} {O : Nat → Prop} {resp : Bool} {g : Nat} {s : St} (h : Rdr w O resp g s) : Tells w g s := by
  cases s with
  | on p l n fs => obtain ⟨gb, lv, fv, h⟩ := h; exact ⟨⟨_, fnOf_is gb p, rc2 h.blk⟩, rc5 h.blk, rc6 h.blk⟩
  | done q fs => obtain ⟨M, F, lv, n, fv, hF, hb, hf, hg, ho⟩ := h; exact ⟨⟨F, hF, rc2 hb⟩, rc5 hb, rc6 hb⟩
  | bad e => obtain ⟨M, F, hF, hb, hg⟩ := h; exact ⟨⟨F, hF, rc2 hb⟩, rc5 hb, rc6 hb⟩

set_option maxHeartbeats 1000000 in
theorem made_yes (g : Nat) (F : Value) (w : World) (hF : IsFn F) (h : w.cell? ⟨g, 2, none⟩ = some F) : Calls Tryz.prog 43 #[.pointer (some ⟨g, 0, none⟩)] w fun e w' => e = .returned (.bool true) ∧ w = w' := by
  obtain ⟨fn, fi, ca, rfl⟩ := hF
  have hq := neq_fun
  go_enter Tryz.func43, Tryz.ntmps43
  go_wp2_with fail
  go_ret
  exact ⟨rfl, rfl⟩

def FeedPost (O : Nat → Prop) (resp : Bool) (g : Nat) (s : St) (b : Bs) (w : World) (e : Ending) (w' : World) : Prop :=
  e = .returned (.tuple #[.int .i64 ((run resp s b).1 : Nat), .bool (doneOf (run resp s b).2), .int .i64 (errOf (run resp s b).2 : Nat)]) ∧ Rdr w' (New O w) resp g (run resp s b).2 ∧ Chg O w w'
/-- Where a Feed stands at its loop's head. -/
def FeedAt (O : Nat → Prop) (resp : Bool) (g : Nat) (s : St) (b : Bs) (w : World) (k : Nat) (st : St) (wr : World) : Prop :=
  k ≤ b.length ∧ run resp s b = (k + (run resp st (b.drop k)).1, (run resp st (b.drop k)).2) ∧ Good st ∧ Rdr wr (New O w) resp g st ∧ Chg O w wr
theorem FeedAt.ends {O : Nat → Prop} {resp : Bool} {g : Nat} {s : St} {b : Bs} {w : World} {k : Nat} {st : St} {wr : World} (h : FeedAt O resp g s b w k st wr) (ho : over st = true ∨ k = b.length) : run resp s b = (k, st) := by
  obtain ⟨_, hr, _⟩ := h
  rcases ho with ho | ho
  · rw [hr, run_over ho]; rfl
  · rw [hr, ho, List.drop_length, run_nil]; rfl
theorem FeedAt.post {O : Nat → Prop} {resp : Bool} {g : Nat} {s : St} {b : Bs} {w : World} {k : Nat} {st : St} {wr : World} (h : FeedAt O resp g s b w k st wr) (ho : over st = true ∨ k = b.length) {n : Nat} :
    FeedPost O resp g s b w (.returned (.tuple #[.int .i64 (k : Int), .bool (doneOf st), .int .i64 (errOf st : Nat)])) (wr.drewN n) := by
  unfold FeedPost
  rw [h.ends ho]
  obtain ⟨_, _, _, hR, hC⟩ := h
  exact ⟨rfl, hR.below ⟨rfl, rfl, rfl, Nat.le_refl _, fun _ _ => rfl⟩, hC.drewN n⟩
theorem took_at {O : Nat → Prop} {resp : Bool} {g : Nat} {s : St} {b : Bs} {w : World} {k : Nat} {st : St} {wr w' : World} (h : FeedAt O resp g s b w k st wr) {j : Nat} {st' : St} (ht : Took resp st (b.drop k) j st') (hR : Rdr w' (New (New O w) wr) resp g st') (hC : Chg (New O w) wr w') :
    k < k + j ∧ k + j ≤ b.length ∧ FeedAt O resp g s b w (k + j) st' w' := by
  obtain ⟨hk, hr, hG, hR0, hC0⟩ := h
  obtain ⟨h1, h2, h3, h4⟩ := ht
  rw [List.length_drop] at h2
  refine ⟨by omega, by omega, by omega, ?_, h4 hG, hR.mono (new_new hC0.size), hC0.again hC⟩
  rw [hr, h3, List.drop_drop]
  simp only [Prod.mk.injEq, and_true]
  omega

theorem over_of {s : St} (h : doneOf s = true ∨ errOf s ≠ 0) : over s = true := by
  cases s with
  | on p l n fs => simp [doneOf, errOf] at h
  | done => rfl
  | bad => rfl
theorem over_no {s : St} (hG : Good s) (h1 : doneOf s = false) (h2 : errOf s = 0) : ∃ p l n fs, s = .on p l n fs := by
  cases s with
  | on p l n fs => exact ⟨p, l, n, fs, rfl⟩
  | done => simp [doneOf] at h1
  | bad e => simp [errOf] at h2; subst h2; rcases hG with h | h | h <;> omega

set_option maxRecDepth 100000 in
set_option maxHeartbeats 8000000 in
theorem feed_any (O : Nat → Prop) (resp : Bool) (g : Nat) (s : St) (v : Value) (b : Bs) (w : World) (h : Rdr w O resp g s) (hG : Good s) (hv : Byts w v b) (hvo : 0 < b.length → ∀ k, v.ownBlock = some k → ¬ O k) (hbl : b.length ≤ maxLen)
    (hT : Tab w) (ho : ¬ O 0) :
    Calls Tryz.prog 32 #[.pointer (some ⟨g, 0, none⟩), v] w (FeedPost O resp g s b w) := by
  obtain ⟨va, vc, hvs⟩ := hv.shape
  have HF0 := Lib.hid (show FeedAt O resp g s b w 0 s w from ⟨Nat.zero_le _, by simp, hG, h.mono (fun k hk => .inl hk), Chg.refl _ _⟩)
  obtain ⟨⟨F, hF, c2⟩, c5, c6⟩ := h.tells
  have HV := Lib.hid hv
  have htl := hT.lt
  have HT := Lib.hid hT
  unfold maxLen at hbl
  subst hvs
  clear h hv hT hG c5 c6
  go_enter Tryz.func32, Tryz.ntmps32
  go_wp2_with fail
  refine (made_yes g F _ hF c2).mono ?_
  rintro e w0 ⟨rfl, rfl⟩
  clear c2 hF
  go_wp2_with fail
  go_loopw [4] (fun u wr => ∃ (k : Nat) (st : St), u = .int .i64 (k : Int) ∧ FeedAt O resp g s b w k st wr) (fun u _ => b.length - (intOf u).toNat)
  case atStart => exact ⟨0, s, rfl, HF0.out⟩
  case round =>
    obtain ⟨k, st, rfl, hAt⟩ := hrel
    have HA := Lib.hid hAt
    obtain ⟨hk, _, hGs, hRs, hCs⟩ := hAt
    obtain ⟨_, c5, c6⟩ := hRs.tells
    have HG := Lib.hid hGs
    have HR := Lib.hid hRs
    have HC := Lib.hid hCs
    obtain ⟨D, hD⟩ : ∃ D, D = doneOf st := ⟨_, rfl⟩
    obtain ⟨E, hE⟩ : ∃ E, E = errOf st := ⟨_, rfl⟩
    rw [← hD] at c5
    rw [← hE] at c6
    have HP := Lib.hid (fun (n : Nat) (ho : over st = true ∨ k = b.length) => (show FeedPost O resp g s b w (.returned (.tuple #[.int .i64 (k : Int), .bool D, .int .i64 (E : Int)])) (wr.drewN n) from by rw [hD, hE]; exact HA.out.post ho))
    have HD := Lib.hid hD
    have HE := Lib.hid hE
    clear hGs hRs hCs hD hE
    by_cases hlt : k < b.length
    · cases D with
      | true =>
        have HOv := Lib.hid (show over st = true from over_of (.inl HD.out.symm))
        go_wp2_with fail
        go_quiet (fail)
        go_wp2_with fail
        go_ret3
        exact HP.out _ (.inl HOv.out)
      | false =>
        by_cases he : E = 0
        · subst he
          obtain ⟨p, l, n, fs, hst⟩ := over_no HG.out HD.out.symm HE.out.symm
          have c6' : wr.cell? ⟨g, 6, none⟩ = some (.int .i64 0) := c6
          rcases HV.out with ⟨hb0, _⟩ | ⟨B, off, cap, hve, hcap, hcm, hB, hh⟩
          · rw [hb0] at hlt; simp at hlt
          injection hve with e1 e2 e3
          subst e1 e3
          have hOB : ¬ O B := hvo (by omega) B rfl
          have hNB : ¬ New O w B := fun hn => by
            rcases hn with hn | hn
            · exact hOB hn
            · omega
          have hNT : ¬ New O w 0 := fun hn => by
            rcases hn with hn | hn
            · exact ho hn
            · omega
          have hKB : wr.heap[B]? = w.heap[B]? := HC.out.block B hB hOB
          have HH := Lib.hid (show Holds wr B (off + k) (b.drop k) from by
            have h1 : Holds wr B off b := fun j hj => by rw [World.cell?_of_block (w := w) hKB]; exact hh j hj
            have h2 := h1.part k b.length (Nat.le_refl _)
            rwa [List.take_length] at h2)
          have hlt2 : B < wr.heap.size := Nat.lt_of_lt_of_le hB HC.out.size
          have HTk := Lib.hid (fun (v' : Value) (hv' : v' = .slice (some ⟨B, off + k, none⟩) (b.length - k) (vc - k)) => (show Calls Tryz.prog 47 #[.pointer (some ⟨g, 0, none⟩), v'] wr (TakePost (New O w) resp g st (b.drop k) wr) from by
            have hR2 := HR.out
            have hG2 := HG.out
            rw [hst] at hR2 hG2 ⊢
            obtain ⟨gb, lv, fv, hOn⟩ := hR2
            subst hv'
            exact take_any (New O w) resp g gb lv fv p l n fs _ (b.drop k) wr hOn hG2 (.inr ⟨B, off + k, vc - k, by rw [List.length_drop], by rw [List.length_drop]; omega, by omega, hlt2, HH.out⟩) (fun j hj => by injection hj with hj; subst hj; exact hNB) (by rw [List.length_drop]; omega) (Tab.chg HT.out HC.out ho) hNT))
          have hck : ¬ vc = k := by omega
          unfold maxLen at hcm
          clear c6 hh hst hKB e2
          go_wp2_with fail
          refine (HTk.out _ rfl).mono ?_
          rintro e w1 ⟨j, st', rfl, ht, hR1, hC1⟩
          obtain ⟨hj1, hj2, hAt1⟩ := took_at HA.out ht hR1 hC1
          have HA1 := Lib.hid hAt1
          clear ht hR1 hC1 hAt1
          go_wp2_with fail
          go_roundw
          case rel => exact ⟨k + j, st', by go_num, HA1.out⟩
          case measure => simp [intOf]; omega
        · have hne : ((E : Int) == 0) = false := by rw [beq_eq_false_iff_ne]; omega
          have HOv := Lib.hid (show over st = true from over_of (.inr (by rw [← HE.out]; exact he)))
          clear he
          go_wp2_with fail
          go_quiet (fail)
          go_wp2_with fail
          go_ret3
          exact HP.out _ (.inl HOv.out)
    · have hke : k = b.length := by omega
      have HKE := Lib.hid hke
      clear hke
      go_wp2_with fail
      go_quiet (fail)
      go_wp2_with fail
      go_ret3
      exact HP.out _ (.inr HKE.out)
end Go.Proofs.YtcolnidgembniaaGreatDoor.Hd
/-
  message.read: what it returns, of a reader that was just made and a function that tells what a whole head says of the body. Conditions: at most 2^40 bytes; the tables.
-/
namespace Go.Proofs.YtcolnidgembniaaGreatDoor.Ms
open Go.RowKit Go.Proofs.YtcolnidgembniaaGreatDoor.Tk Go.Proofs.YtcolnidgembniaaGreatDoor.Fd Go.Proofs.YtcolnidgembniaaGreatDoor.Hd Go.Proofs.YtcolnidgembniaaGreatDoor.Fr
set_option linter.unusedVariables false

theorem msg_bad {resp : Bool} {T : Hd.Parts → List Fl → Int × Int × Int} {b : Bs} {fin : Bool} {N e : Nat} (h : Hd.run resp Hd.start b = (N, .bad e)) : msgOf resp T b fin = failed e := by unfold msgOf; rw [h]
theorem msg_on {resp : Bool} {T : Hd.Parts → List Fl → Int × Int × Int} {b : Bs} {fin : Bool} {N n : Nat} {p : Option Hd.Parts} {l : Bs} {fs : List Fl} (h : Hd.run resp Hd.start b = (N, .on p l n fs)) : msgOf resp T b fin = failed 11 := by unfold msgOf; rw [h]
theorem msg_done {resp : Bool} {T : Hd.Parts → List Fl → Int × Int × Int} {b : Bs} {fin : Bool} {N : Nat} {q : Hd.Parts} {fs : List Fl} (h : Hd.run resp Hd.start b = (N, .done q fs)) : msgOf resp T b fin = behindHead (T q fs) q fs N b fin := by unfold msgOf; rw [h]
theorem behind_told {T : Int × Int × Int} {q : Hd.Parts} {fs : List Fl} {N : Nat} {b : Bs} {fin : Bool} (h : T.2.2 ≠ 0) : behindHead T q fs N b fin = failed T.2.2 := if_pos h
theorem behind_body {T : Int × Int × Int} {q : Hd.Parts} {fs : List Fl} {N : Nat} {b : Bs} {fin : Bool} (h : T.2.2 = 0) (h2 : (bodyOf T.1 T.2.1 (b.drop N) fin).1 ≠ 0) : behindHead T q fs N b fin = failed (bodyOf T.1 T.2.1 (b.drop N) fin).1 := by unfold behindHead; rw [if_neg (by omega), if_pos h2]
theorem behind_ok {T : Int × Int × Int} {q : Hd.Parts} {fs : List Fl} {N : Nat} {b : Bs} {fin : Bool} (h : T.2.2 = 0) (h2 : (bodyOf T.1 T.2.1 (b.drop N) fin).1 = 0) : behindHead T q fs N b fin = ⟨0, q, fs, (bodyOf T.1 T.2.1 (b.drop N) fin).2.1, N + (bodyOf T.1 T.2.1 (b.drop N) fin).2.2⟩ := by unfold behindHead; rw [if_neg (by omega), if_neg (by omega)]
/-- What read returns. -/
def ReadPost (resp : Bool) (T : Hd.Parts → List Fl → Int × Int × Int) (b : Bs) (fin : Bool) (O C : Nat → Prop) (J : World → Prop) (K : Hd.Parts → List Fl → World → Prop) (w : World) (e : Ending) (w' : World) : Prop :=
  ∃ (a : Option Addr) (c : Nat) (X : Bs) (M : Nat) (E : Int), e = .returned (.tuple #[.slice a X.length c, .int .i64 (M : Int), .int .i64 E]) ∧ Own w' w.heap.size (.slice a X.length c) X ∧ Chg (fun k => O k ∨ C k) w w' ∧ J w' ∧
    (E ≠ 0 → msgOf resp T b fin = failed E) ∧ (E = 0 → ∃ q fs, msgOf resp T b fin = ⟨0, q, fs, X, M⟩ ∧ fs.length ≤ 64 ∧ tot fs ≤ 8192 ∧ K q fs w')
theorem read_fails {resp : Bool} {T : Hd.Parts → List Fl → Int × Int × Int} {b : Bs} {fin : Bool} {O C : Nat → Prop} {J : World → Prop} {K : Hd.Parts → List Fl → World → Prop} {w w' : World} {E : Int} (h0 : E ≠ 0) (h : msgOf resp T b fin = failed E) (hc : Chg (fun k => O k ∨ C k) w w') (hj : J w') :
    ReadPost resp T b fin O C J K w (.returned (.tuple #[.slice none 0 0, .int .i64 0, .int .i64 E])) w' :=
  ⟨none, 0, [], 0, E, rfl, Own.nil _ _, hc, hj, fun _ => h, fun h1 => (h0 h1).elim⟩
theorem chg_or {O C : Nat → Prop} {a b : World} (h : Chg O a b) : Chg (fun k => O k ∨ C k) a b := ⟨h.os, h.tape, h.output, h.size, fun k hk hn => h.block k hk (fun ho => hn (.inl ho))⟩
theorem chg_or2 {O C : Nat → Prop} {a b : World} (h : Chg C a b) : Chg (fun k => O k ∨ C k) a b := ⟨h.os, h.tape, h.output, h.size, fun k hk hn => h.block k hk (fun ho => hn (.inr ho))⟩
set_option maxRecDepth 100000 in
set_option maxHeartbeats 8000000 in
theorem read2_any (resp : Bool) (O C : Nat → Prop) (J : World → Prop) (K : Hd.Parts → List Fl → World → Prop) (T : Hd.Parts → List Fl → Int × Int × Int) (g : Nat) (c0 c1 : Value) (v : Value) (b : Bs) (fin : Bool) (w : World)
    (hR : Rdr w O resp g Hd.start) (hv : Byts w v b) (hvo : 0 < b.length → ∀ k, v.ownBlock = some k → ¬ O k ∧ ¬ C k ∧ k < w.heap.size) (hbl : b.length ≤ 1099511627775) (hT : Tab w) (hE : ErrV w)
    (ho : ¬ O 0) (ho2 : ¬ O 3) (hc : ¬ C 0) (hc2 : ¬ C 3) (hcs : ∀ k, C k → k < w.heap.size)
    (hS : ∀ q fs, (Hd.run resp Hd.start b).2 = .done q fs → ∀ x, Rdr x (Hd.New O w) resp g (.done q fs) → Chg O w x → Calls Tryz.prog 12 #[c0, c1] x fun e y => e = .returned (.agg #[.int .i64 (T q fs).1, .int .i64 (T q fs).2.1, .int .i64 (T q fs).2.2]) ∧ Chg C x y ∧ K q fs y)
    (hK : ∀ q fs x y, K q fs x → Below x.heap.size x y → K q fs y) (hJ : ∀ x, Chg O w x → J x) (hKJ : ∀ q fs x, K q fs x → J x) :
    Calls Tryz.prog 15 #[v, .pointer (some ⟨g, 0, none⟩), .func (.func 12) #[] #[c0, c1], .bool fin] w (ReadPost resp T b fin O C J K w) := by
  obtain ⟨va, vc, hvs⟩ := hv.shape
  have hG := Hd.good_run resp b Hd.good_start
  have hNl := Hd.run_le resp b Hd.start
  have hFeed := Hd.feed_any O resp g Hd.start v b w hR Hd.good_start hv (fun hp k hk => (hvo hp k hk).1) (by unfold maxLen; omega) hT ho
  unfold Hd.FeedPost at hFeed
  have HV := Lib.hid hv
  have HVO := Lib.hid hvo
  have HT := Lib.hid hT
  have HE := Lib.hid hE
  have htl := hT.lt
  have hel := hE.lt
  have HS := Lib.hid hS
  have HK := Lib.hid hK
  have HJ := Lib.hid hJ
  have HKJ := Lib.hid hKJ
  have HCS := Lib.hid hcs
  obtain ⟨N, ST, hr⟩ : ∃ N ST, Hd.run resp Hd.start b = (N, ST) := ⟨_, _, rfl⟩
  rw [hr] at hFeed hG hNl
  subst hvs
  clear hv hvo hT hE hR hS hK hcs hJ hKJ
  go_enter Tryz.func15, Tryz.ntmps15
  cases ST with
  | bad e0 =>
    have hF2 : Calls Tryz.prog 32 #[.pointer (some ⟨g, 0, none⟩), .slice va b.length vc] w (fun e w' => e = .returned (.tuple #[.int .i64 (N : Int), .bool false, .int .i64 (e0 : Int)]) ∧ Rdr w' (Hd.New O w) resp g (.bad e0) ∧ Chg O w w') := hFeed
    have HF := Lib.hid hF2
    have he0 : e0 ≠ 0 := by rcases hG with h | h | h <;> omega
    have eE : ((e0 : Int) != 0) = true := by simp; omega
    have HM := Lib.hid (fun (x : World) (h : Chg O w x) => read_fails (C := C) (K := K) (E := (e0 : Int)) (by omega) (msg_bad (T := T) (fin := fin) hr) (chg_or h) (HJ.out x h))
    clear hF2 hFeed hr hG hNl
    go_wp2_with fail
    refine HF.out.mono ?_
    rintro e x1 ⟨rfl, _, hC⟩
    have HM1 := Lib.hid (HM.out _ hC)
    clear hC
    go_wp2_with fail
    go_ret3
    exact HM1.out
  | on p l n fs =>
    have hF2 : Calls Tryz.prog 32 #[.pointer (some ⟨g, 0, none⟩), .slice va b.length vc] w (fun e w' => e = .returned (.tuple #[.int .i64 (N : Int), .bool false, .int .i64 0]) ∧ Rdr w' (Hd.New O w) resp g (.on p l n fs) ∧ Chg O w w') := hFeed
    have HF := Lib.hid hF2
    have HM := Lib.hid (fun (x : World) (h : Chg O w x) => read_fails (C := C) (K := K) (E := 11) (by omega) (msg_on (T := T) (fin := fin) hr) (chg_or h) (HJ.out x h))
    clear hF2 hFeed hr hG hNl
    go_wp2_with fail
    refine HF.out.mono ?_
    rintro e x1 ⟨rfl, _, hC⟩
    have HM1 := Lib.hid (HM.out _ hC)
    clear hC
    go_wp2_with fail
    go_ret3
    exact HM1.out
  | done q fs =>
    have hF2 : Calls Tryz.prog 32 #[.pointer (some ⟨g, 0, none⟩), .slice va b.length vc] w (fun e w' => e = .returned (.tuple #[.int .i64 (N : Int), .bool true, .int .i64 0]) ∧ Rdr w' (Hd.New O w) resp g (.done q fs) ∧ Chg O w w') := hFeed
    have HF := Lib.hid hF2
    have HSx := Lib.hid (HS.out q fs (by rw [hr]))
    have hgo : fs.length ≤ 64 ∧ tot fs ≤ 8192 := hG
    have hbp : 0 < b.length := by
      by_cases h0 : b = []
      · rw [h0, Hd.run_nil] at hr; injection hr with _ h; cases h
      · exact List.length_pos_iff.2 h0
    have hms := msg_done (T := T) (fin := fin) hr
    obtain ⟨t0, t1, t2, hT3⟩ : ∃ t0 t1 t2, T q fs = (t0, t1, t2) := ⟨_, _, _, rfl⟩
    rw [hT3] at HSx hms
    have HMS := Lib.hid hms
    have HGO := Lib.hid hgo
    rcases HV.out with ⟨h0, _⟩ | ⟨B, off, cap, hvv, hcap, hcm, hB, hh⟩
    · rw [h0] at hbp; simp at hbp
    injection hvv with e1 _ e3
    subst e1 e3
    have HB := Lib.hid (HVO.out hbp B rfl)
    have HH := Lib.hid hh
    clear hF2 hFeed hr hG hgo hT3 hms hh
    have hNb : N ≤ b.length := hNl
    clear hNl
    go_wp2_with fail
    refine HF.out.mono ?_
    rintro e x1 ⟨rfl, hR1, hC1⟩
    have HX := Lib.hid (HSx.out x1 hR1 hC1)
    have HC1 := Lib.hid hC1
    clear hR1 hC1 HF HSx
    go_wp2_with fail
    refine HX.out.mono ?_
    rintro e x2 ⟨rfl, hC2, hk2⟩
    obtain ⟨x3, hx3⟩ : ∃ x3, x3 = x2.alloc (.cells #[.int .i64 t0, .int .i64 t1, .int .i64 t2] 44) := ⟨_, rfl⟩
    have HX3 := Lib.hid hx3
    have hb3 : Below x2.heap.size x2 x3 := by rw [hx3]; exact (Below.refl _ _).alloc (Nat.le_refl _) _
    have hs1 := HC1.out.size
    have hs2 := hC2.size
    have hs3 := hb3.size
    have hCH : Chg (fun k => O k ∨ C k) w x3 := ((chg_or HC1.out).trans (chg_or2 (O := O) hC2) (fun i hi => by
      rcases hi with hi | hi
      · exact .inl (.inl hi)
      · exact .inl (.inr hi))).next hb3
    have HCH := Lib.hid hCH
    have HK3 := Lib.hid (HK.out q fs x2 x3 hk2 hb3)
    have hN3 : x3.heap[x2.heap.size]? = some (.cells #[.int .i64 t0, .int .i64 t1, .int .i64 t2] 44 (0, 0)) := by rw [hx3]; exact new_block _ _
    have k0 : x3.cell? ⟨x2.heap.size, 0, none⟩ = some (.int .i64 t0) := by rw [Lib.cell_of_heap hN3]; rfl
    have k1 : x3.cell? ⟨x2.heap.size, 1, none⟩ = some (.int .i64 t1) := by rw [Lib.cell_of_heap hN3]; rfl
    have k2 : x3.cell? ⟨x2.heap.size, 2, none⟩ = some (.int .i64 t2) := by rw [Lib.cell_of_heap hN3]; rfl
    have HHo := Lib.hid (show Holds x3 B off b from fun j hj => by
      have := HH.out j hj
      rw [World.cell?_of_block (w := w) (a := ⟨B, off + j, none⟩) (hCH.block B hB (fun hk => by rcases hk with hk | hk; exact HB.out.1 hk; exact HB.out.2.1 hk))]
      exact this)
    have HTx := Lib.hid (tab_chg HT.out hCH (fun hk => by rcases hk with hk | hk; exact ho hk; exact hc hk))
    have HEx := Lib.hid (HE.out.chg hCH (fun hk => by rcases hk with hk | hk; exact ho2 hk; exact hc2 hk))
    unfold maxLen at hcm
    clear hx3 hb3 hN3 hCH hk2 hC2 HX HH
    by_cases ht : t2 = 0
    · subst ht
      obtain ⟨V, hV⟩ : ∃ V, V = bodyOf t0 t1 (b.drop N) fin := ⟨_, rfl⟩
      have HVV := Lib.hid hV
      have hvle : V.2.2 ≤ 1099511627775 := by rw [hV]; have := body_le t0 t1 (b.drop N) fin; rw [List.length_drop] at this; omega
      have HBody := Lib.hid (fun (x : World) (hx : Below x3.heap.size x3 x) (u : Value) (hu : Byts x u (b.drop N)) => (show Calls Tryz.prog 33 #[.agg #[.int .i64 t0, .int .i64 t1, .int .i64 0], u, .bool fin] x (BodyPost V x) from by
        rw [hV]
        exact readBody_any t0 t1 0 u (b.drop N) fin x hu (by rw [List.length_drop]; omega) (HTx.out.below hx HTx.out.lt) (HEx.out.below hx)))
      have HU1 := Lib.hid (fun (x : World) (hx : Below x3.heap.size x3 x) (h : N < vc) => (show Byts x (.slice (some ⟨B, off + N, none⟩) (b.length - N) (vc - N)) (b.drop N) from by
        have h1 := byts_cut (k := N) (d := b.length - N) (.inr ⟨B, off, vc, rfl, hcap, by unfold maxLen; omega, Nat.lt_of_lt_of_le hB (by omega), HHo.out⟩) (Nat.lt_of_lt_of_le hB (by omega)) hcap (by unfold maxLen; omega) (by omega)
        rw [show (b.drop N).take (b.length - N) = b.drop N from by rw [← List.length_drop, List.take_length]] at h1
        exact h1.below hx (Nat.le_refl _)))
      have HU2 := Lib.hid (fun (x : World) (h : ¬ N < vc) (a : Option Addr) (c : Nat) => (show Byts x (.slice a (b.length - N) c) (b.drop N) from .inl ⟨List.length_eq_zero_iff.1 (by rw [List.length_drop]; omega), a, c, by rw [show b.length - N = 0 from by omega]⟩))
      have HP := Lib.hid (fun (a : Option Addr) (c : Nat) (x y : World) (hx : Below x3.heap.size x3 x) (h1 : Own y x.heap.size (.slice a V.2.1.length c) V.2.1) (h2 : Below x.heap.size x y) => (show ReadPost resp T b fin O C J K w (.returned (.tuple #[.slice a V.2.1.length c, .int .i64 ((N : Int) + (V.2.2 : Int)), .int .i64 (V.1 : Int)])) y from by
        have hxs := hx.size
        have hxy : Below x3.heap.size x3 y := hx.trans (h2.mono hxs)
        refine ⟨a, c, V.2.1, N + V.2.2, V.1, by rw [Int.natCast_add], h1.mono (by omega), HCH.out.next hxy, HKJ.out q fs y (HK.out q fs x3 y HK3.out hxy), fun h0 => ?_, fun h0 => ?_⟩
        · rw [HMS.out, behind_body rfl (by show (bodyOf t0 t1 (b.drop N) fin).1 ≠ 0; rw [← hV]; omega)]
          show failed ((bodyOf t0 t1 (b.drop N) fin).1 : Int) = _
          rw [← hV]
        · refine ⟨q, fs, ?_, HGO.out.1, HGO.out.2, HK.out q fs x3 y HK3.out hxy⟩
          rw [HMS.out, behind_ok rfl (by show (bodyOf t0 t1 (b.drop N) fin).1 = 0; rw [← hV]; omega)]
          show Msg.mk 0 q fs (bodyOf t0 t1 (b.drop N) fin).2.1 (N + (bodyOf t0 t1 (b.drop N) fin).2.2) = _
          rw [← hV]))
      have HBD := Lib.hid (show Below x3.heap.size x3 x3.drew from (Below.refl _ _).drew)
      clear hV HHo HTx HEx HCH HMS
      go_upto_region 9 with fail
      rw [← HX3.out]
      by_cases hNc : N < vc
      · have hvN : (vc = N) = False := eq_false (by omega)
        go_region_with (go_at_call 33; refine (HBody.out _ HBD.out _ (HU1.out _ HBD.out hNc)).mono ?_; rintro e y ⟨a, c, rfl, h1, h2⟩; have HPP := Lib.hid (HP.out a c _ y HBD.out h1 h2); clear h1 h2)
        all_goals go_wp2_with fail
        all_goals
          go_ret3
          exact HPP.out
      · have hvN : (vc = N) = True := eq_true (by omega)
        go_region_with (go_at_call 33; refine (HBody.out _ HBD.out _ (HU2.out _ hNc _ _)).mono ?_; rintro e y ⟨a, c, rfl, h1, h2⟩; have HPP := Lib.hid (HP.out a c _ y HBD.out h1 h2); clear h1 h2)
        all_goals go_wp2_with fail
        all_goals
          go_ret3
          exact HPP.out
    · have eE : ((t2 : Int) != 0) = true := by simp; omega
      have HM := Lib.hid (fun n => read_fails (K := K) (E := t2) ht (by rw [HMS.out]; exact behind_told ht) (HCH.out.drewN n) (HKJ.out q fs _ (HK.out q fs x3 _ HK3.out (Below.refl _ _ |>.trans ⟨rfl, rfl, rfl, Nat.le_refl _, fun _ _ => rfl⟩))))
      clear HHo HTx HEx HCH HMS
      go_upto_region 8 with fail
      rw [← HX3.out]
      go_quiet (fail)
      go_wp2_with fail
      go_ret3
      exact HM.out _
set_option maxRecDepth 100000 in
set_option maxHeartbeats 8000000 in
theorem read3_any (resp : Bool) (O C : Nat → Prop) (J : World → Prop) (K : Hd.Parts → List Fl → World → Prop) (T : Hd.Parts → List Fl → Int × Int × Int) (g : Nat) (c0 c1 c2 : Value) (v : Value) (b : Bs) (fin : Bool) (w : World)
    (hR : Rdr w O resp g Hd.start) (hv : Byts w v b) (hvo : 0 < b.length → ∀ k, v.ownBlock = some k → ¬ O k ∧ ¬ C k ∧ k < w.heap.size) (hbl : b.length ≤ 1099511627775) (hT : Tab w) (hE : ErrV w)
    (ho : ¬ O 0) (ho2 : ¬ O 3) (hc : ¬ C 0) (hc2 : ¬ C 3) (hcs : ∀ k, C k → k < w.heap.size)
    (hS : ∀ q fs, (Hd.run resp Hd.start b).2 = .done q fs → ∀ x, Rdr x (Hd.New O w) resp g (.done q fs) → Chg O w x → Calls Tryz.prog 20 #[c0, c1, c2] x fun e y => e = .returned (.agg #[.int .i64 (T q fs).1, .int .i64 (T q fs).2.1, .int .i64 (T q fs).2.2]) ∧ Chg C x y ∧ K q fs y)
    (hK : ∀ q fs x y, K q fs x → Below x.heap.size x y → K q fs y) (hJ : ∀ x, Chg O w x → J x) (hKJ : ∀ q fs x, K q fs x → J x) :
    Calls Tryz.prog 15 #[v, .pointer (some ⟨g, 0, none⟩), .func (.func 20) #[] #[c0, c1, c2], .bool fin] w (ReadPost resp T b fin O C J K w) := by
  obtain ⟨va, vc, hvs⟩ := hv.shape
  have hG := Hd.good_run resp b Hd.good_start
  have hNl := Hd.run_le resp b Hd.start
  have hFeed := Hd.feed_any O resp g Hd.start v b w hR Hd.good_start hv (fun hp k hk => (hvo hp k hk).1) (by unfold maxLen; omega) hT ho
  unfold Hd.FeedPost at hFeed
  have HV := Lib.hid hv
  have HVO := Lib.hid hvo
  have HT := Lib.hid hT
  have HE := Lib.hid hE
  have htl := hT.lt
  have hel := hE.lt
  have HS := Lib.hid hS
  have HK := Lib.hid hK
  have HJ := Lib.hid hJ
  have HKJ := Lib.hid hKJ
  have HCS := Lib.hid hcs
  obtain ⟨N, ST, hr⟩ : ∃ N ST, Hd.run resp Hd.start b = (N, ST) := ⟨_, _, rfl⟩
  rw [hr] at hFeed hG hNl
  subst hvs
  clear hv hvo hT hE hR hS hK hcs hJ hKJ
  go_enter Tryz.func15, Tryz.ntmps15
  cases ST with
  | bad e0 =>
    have hF2 : Calls Tryz.prog 32 #[.pointer (some ⟨g, 0, none⟩), .slice va b.length vc] w (fun e w' => e = .returned (.tuple #[.int .i64 (N : Int), .bool false, .int .i64 (e0 : Int)]) ∧ Rdr w' (Hd.New O w) resp g (.bad e0) ∧ Chg O w w') := hFeed
    have HF := Lib.hid hF2
    have he0 : e0 ≠ 0 := by rcases hG with h | h | h <;> omega
    have eE : ((e0 : Int) != 0) = true := by simp; omega
    have HM := Lib.hid (fun (x : World) (h : Chg O w x) => read_fails (C := C) (K := K) (E := (e0 : Int)) (by omega) (msg_bad (T := T) (fin := fin) hr) (chg_or h) (HJ.out x h))
    clear hF2 hFeed hr hG hNl
    go_wp2_with fail
    refine HF.out.mono ?_
    rintro e x1 ⟨rfl, _, hC⟩
    have HM1 := Lib.hid (HM.out _ hC)
    clear hC
    go_wp2_with fail
    go_ret3
    exact HM1.out
  | on p l n fs =>
    have hF2 : Calls Tryz.prog 32 #[.pointer (some ⟨g, 0, none⟩), .slice va b.length vc] w (fun e w' => e = .returned (.tuple #[.int .i64 (N : Int), .bool false, .int .i64 0]) ∧ Rdr w' (Hd.New O w) resp g (.on p l n fs) ∧ Chg O w w') := hFeed
    have HF := Lib.hid hF2
    have HM := Lib.hid (fun (x : World) (h : Chg O w x) => read_fails (C := C) (K := K) (E := 11) (by omega) (msg_on (T := T) (fin := fin) hr) (chg_or h) (HJ.out x h))
    clear hF2 hFeed hr hG hNl
    go_wp2_with fail
    refine HF.out.mono ?_
    rintro e x1 ⟨rfl, _, hC⟩
    have HM1 := Lib.hid (HM.out _ hC)
    clear hC
    go_wp2_with fail
    go_ret3
    exact HM1.out
  | done q fs =>
    have hF2 : Calls Tryz.prog 32 #[.pointer (some ⟨g, 0, none⟩), .slice va b.length vc] w (fun e w' => e = .returned (.tuple #[.int .i64 (N : Int), .bool true, .int .i64 0]) ∧ Rdr w' (Hd.New O w) resp g (.done q fs) ∧ Chg O w w') := hFeed
    have HF := Lib.hid hF2
    have HSx := Lib.hid (HS.out q fs (by rw [hr]))
    have hgo : fs.length ≤ 64 ∧ tot fs ≤ 8192 := hG
    have hbp : 0 < b.length := by
      by_cases h0 : b = []
      · rw [h0, Hd.run_nil] at hr; injection hr with _ h; cases h
      · exact List.length_pos_iff.2 h0
    have hms := msg_done (T := T) (fin := fin) hr
    obtain ⟨t0, t1, t2, hT3⟩ : ∃ t0 t1 t2, T q fs = (t0, t1, t2) := ⟨_, _, _, rfl⟩
    rw [hT3] at HSx hms
    have HMS := Lib.hid hms
    have HGO := Lib.hid hgo
    rcases HV.out with ⟨h0, _⟩ | ⟨B, off, cap, hvv, hcap, hcm, hB, hh⟩
    · rw [h0] at hbp; simp at hbp
    injection hvv with e1 _ e3
    subst e1 e3
    have HB := Lib.hid (HVO.out hbp B rfl)
    have HH := Lib.hid hh
    clear hF2 hFeed hr hG hgo hT3 hms hh
    have hNb : N ≤ b.length := hNl
    clear hNl
    go_wp2_with fail
    refine HF.out.mono ?_
    rintro e x1 ⟨rfl, hR1, hC1⟩
    have HX := Lib.hid (HSx.out x1 hR1 hC1)
    have HC1 := Lib.hid hC1
    clear hR1 hC1 HF HSx
    go_wp2_with fail
    refine HX.out.mono ?_
    rintro e x2 ⟨rfl, hC2, hk2⟩
    obtain ⟨x3, hx3⟩ : ∃ x3, x3 = x2.alloc (.cells #[.int .i64 t0, .int .i64 t1, .int .i64 t2] 44) := ⟨_, rfl⟩
    have HX3 := Lib.hid hx3
    have hb3 : Below x2.heap.size x2 x3 := by rw [hx3]; exact (Below.refl _ _).alloc (Nat.le_refl _) _
    have hs1 := HC1.out.size
    have hs2 := hC2.size
    have hs3 := hb3.size
    have hCH : Chg (fun k => O k ∨ C k) w x3 := ((chg_or HC1.out).trans (chg_or2 (O := O) hC2) (fun i hi => by
      rcases hi with hi | hi
      · exact .inl (.inl hi)
      · exact .inl (.inr hi))).next hb3
    have HCH := Lib.hid hCH
    have HK3 := Lib.hid (HK.out q fs x2 x3 hk2 hb3)
    have hN3 : x3.heap[x2.heap.size]? = some (.cells #[.int .i64 t0, .int .i64 t1, .int .i64 t2] 44 (0, 0)) := by rw [hx3]; exact new_block _ _
    have k0 : x3.cell? ⟨x2.heap.size, 0, none⟩ = some (.int .i64 t0) := by rw [Lib.cell_of_heap hN3]; rfl
    have k1 : x3.cell? ⟨x2.heap.size, 1, none⟩ = some (.int .i64 t1) := by rw [Lib.cell_of_heap hN3]; rfl
    have k2 : x3.cell? ⟨x2.heap.size, 2, none⟩ = some (.int .i64 t2) := by rw [Lib.cell_of_heap hN3]; rfl
    have HHo := Lib.hid (show Holds x3 B off b from fun j hj => by
      have := HH.out j hj
      rw [World.cell?_of_block (w := w) (a := ⟨B, off + j, none⟩) (hCH.block B hB (fun hk => by rcases hk with hk | hk; exact HB.out.1 hk; exact HB.out.2.1 hk))]
      exact this)
    have HTx := Lib.hid (tab_chg HT.out hCH (fun hk => by rcases hk with hk | hk; exact ho hk; exact hc hk))
    have HEx := Lib.hid (HE.out.chg hCH (fun hk => by rcases hk with hk | hk; exact ho2 hk; exact hc2 hk))
    unfold maxLen at hcm
    clear hx3 hb3 hN3 hCH hk2 hC2 HX HH
    by_cases ht : t2 = 0
    · subst ht
      obtain ⟨V, hV⟩ : ∃ V, V = bodyOf t0 t1 (b.drop N) fin := ⟨_, rfl⟩
      have HVV := Lib.hid hV
      have hvle : V.2.2 ≤ 1099511627775 := by rw [hV]; have := body_le t0 t1 (b.drop N) fin; rw [List.length_drop] at this; omega
      have HBody := Lib.hid (fun (x : World) (hx : Below x3.heap.size x3 x) (u : Value) (hu : Byts x u (b.drop N)) => (show Calls Tryz.prog 33 #[.agg #[.int .i64 t0, .int .i64 t1, .int .i64 0], u, .bool fin] x (BodyPost V x) from by
        rw [hV]
        exact readBody_any t0 t1 0 u (b.drop N) fin x hu (by rw [List.length_drop]; omega) (HTx.out.below hx HTx.out.lt) (HEx.out.below hx)))
      have HU1 := Lib.hid (fun (x : World) (hx : Below x3.heap.size x3 x) (h : N < vc) => (show Byts x (.slice (some ⟨B, off + N, none⟩) (b.length - N) (vc - N)) (b.drop N) from by
        have h1 := byts_cut (k := N) (d := b.length - N) (.inr ⟨B, off, vc, rfl, hcap, by unfold maxLen; omega, Nat.lt_of_lt_of_le hB (by omega), HHo.out⟩) (Nat.lt_of_lt_of_le hB (by omega)) hcap (by unfold maxLen; omega) (by omega)
        rw [show (b.drop N).take (b.length - N) = b.drop N from by rw [← List.length_drop, List.take_length]] at h1
        exact h1.below hx (Nat.le_refl _)))
      have HU2 := Lib.hid (fun (x : World) (h : ¬ N < vc) (a : Option Addr) (c : Nat) => (show Byts x (.slice a (b.length - N) c) (b.drop N) from .inl ⟨List.length_eq_zero_iff.1 (by rw [List.length_drop]; omega), a, c, by rw [show b.length - N = 0 from by omega]⟩))
      have HP := Lib.hid (fun (a : Option Addr) (c : Nat) (x y : World) (hx : Below x3.heap.size x3 x) (h1 : Own y x.heap.size (.slice a V.2.1.length c) V.2.1) (h2 : Below x.heap.size x y) => (show ReadPost resp T b fin O C J K w (.returned (.tuple #[.slice a V.2.1.length c, .int .i64 ((N : Int) + (V.2.2 : Int)), .int .i64 (V.1 : Int)])) y from by
        have hxs := hx.size
        have hxy : Below x3.heap.size x3 y := hx.trans (h2.mono hxs)
        refine ⟨a, c, V.2.1, N + V.2.2, V.1, by rw [Int.natCast_add], h1.mono (by omega), HCH.out.next hxy, HKJ.out q fs y (HK.out q fs x3 y HK3.out hxy), fun h0 => ?_, fun h0 => ?_⟩
        · rw [HMS.out, behind_body rfl (by show (bodyOf t0 t1 (b.drop N) fin).1 ≠ 0; rw [← hV]; omega)]
          show failed ((bodyOf t0 t1 (b.drop N) fin).1 : Int) = _
          rw [← hV]
        · refine ⟨q, fs, ?_, HGO.out.1, HGO.out.2, HK.out q fs x3 y HK3.out hxy⟩
          rw [HMS.out, behind_ok rfl (by show (bodyOf t0 t1 (b.drop N) fin).1 = 0; rw [← hV]; omega)]
          show Msg.mk 0 q fs (bodyOf t0 t1 (b.drop N) fin).2.1 (N + (bodyOf t0 t1 (b.drop N) fin).2.2) = _
          rw [← hV]))
      have HBD := Lib.hid (show Below x3.heap.size x3 x3.drew from (Below.refl _ _).drew)
      clear hV HHo HTx HEx HCH HMS
      go_upto_region 9 with fail
      rw [← HX3.out]
      by_cases hNc : N < vc
      · have hvN : (vc = N) = False := eq_false (by omega)
        go_region_with (go_at_call 33; refine (HBody.out _ HBD.out _ (HU1.out _ HBD.out hNc)).mono ?_; rintro e y ⟨a, c, rfl, h1, h2⟩; have HPP := Lib.hid (HP.out a c _ y HBD.out h1 h2); clear h1 h2)
        all_goals go_wp2_with fail
        all_goals
          go_ret3
          exact HPP.out
      · have hvN : (vc = N) = True := eq_true (by omega)
        go_region_with (go_at_call 33; refine (HBody.out _ HBD.out _ (HU2.out _ hNc _ _)).mono ?_; rintro e y ⟨a, c, rfl, h1, h2⟩; have HPP := Lib.hid (HP.out a c _ y HBD.out h1 h2); clear h1 h2)
        all_goals go_wp2_with fail
        all_goals
          go_ret3
          exact HPP.out
    · have eE : ((t2 : Int) != 0) = true := by simp; omega
      have HM := Lib.hid (fun n => read_fails (K := K) (E := t2) ht (by rw [HMS.out]; exact behind_told ht) (HCH.out.drewN n) (HKJ.out q fs _ (HK.out q fs x3 _ HK3.out (Below.refl _ _ |>.trans ⟨rfl, rfl, rfl, Nat.le_refl _, fun _ _ => rfl⟩))))
      clear HHo HTx HEx HCH HMS
      go_upto_region 8 with fail
      rw [← HX3.out]
      go_quiet (fail)
      go_wp2_with fail
      go_ret3
      exact HM.out _
end Go.Proofs.YtcolnidgembniaaGreatDoor.Ms
/-
  slices.Clone at fields; a reader's untold, Request and Response: what each returns. Conditions: fields of at most 2^20 bytes in all.
-/
namespace Go.Proofs.YtcolnidgembniaaGreatDoor.Hd
open Go.RowKit Go.Proofs.YtcolnidgembniaaGreatDoor.Tk Go.Proofs.YtcolnidgembniaaGreatDoor.Fd
set_option linter.unusedVariables false

def ListPost (fs : List Fl) (w : World) (e : Ending) (w' : World) : Prop := ∃ u, e = .returned u ∧ OwnF w' w.heap.size u fs ∧ Below w.heap.size w w'
theorem flat_one (fs : List Fl) : ∀ u ∈ flat fs, u.oneCell' = true := by
  intro u hu
  unfold flat at hu
  rw [List.mem_flatMap] at hu
  obtain ⟨f, _, hf⟩ := hu
  exact one_cells f.1 f.2 u hf
set_option maxRecDepth 100000 in
set_option maxHeartbeats 4000000 in
theorem clone_any (v : Value) (fs : List Fl) (w : World) (h : OwnF w 0 v fs) (hl : fs.length ≤ 1048576) : Calls Tryz.prog 30 #[v] w (ListPost fs w) := by
  have hq := fun (w : World) (a : Option Addr) (n c : Nat) => Lib.run_eql_slice_nil (P := Tryz.prog) w 23 80 a n c 0 0 Tryz.underlying23
  rcases h.2 with ⟨rfl, h0⟩ | ⟨q, C, cur, hv, _, hh, hlc, hcm, hcs, htk⟩
  · have hfs : fs = [] := List.length_eq_zero_iff.1 h0
    subst hfs
    clear h h0
    go_enter Tryz.func30, Tryz.ntmps30
    go_wp2_with fail
    go_ret
    exact ⟨_, rfl, OwnF.nil _ _, Below.refl _ _⟩
  · subst hv
    obtain ⟨i0, hi, hz0, hz1, hz2⟩ := info_parts infoField
    have HO := Lib.hid h
    have HW := Lib.hid (show (w.alloc (.cells #[] 80)).ownsRow w.heap.size 80 2 (.slice (some ⟨w.heap.size, 0, none⟩) 0 0) 0 [] from World.ownsRow_lit (base := w.heap.size) (e := 80) (size := 2) w #[] 0 (Nat.le_refl _) (Nat.zero_le _) rfl)
    have hB1 := (Below.refl w.heap.size w).alloc (Nat.le_refl _) (.cells #[] 80)
    have HN := Lib.hid (World.ownsRow.cells (owns_kept HO.out hB1) (g := q) rfl)
    clear h hh htk hcs
    go_enter Tryz.func30, Tryz.ntmps30
    go_wp2_with (at_builtin; refine wpList_append_own _ rfl _ _ 23 rfl w.heap.size 80 i0 (.agg #[.string ⟨#[]⟩, .string ⟨#[]⟩]) 2 32 Tryz.underlying23 hi hz0 hz1 hz2 rfl (by decide) _ _ _ rfl HW.out ⟨q, 0, none⟩ fs.length C (flat fs) rfl (flat_length _) HN.out (fun y hy => flat_one _ y hy) (by unfold maxLen; omega) (by omega) hB1.size ?_; intro v' w6 hown' hgrow hnil)
    have HB6 := Lib.hid (hB1.grown hgrow hB1.size (fun k hk => by injection hk with hk; subst hk; exact Nat.le_refl _))
    have HO6 := Lib.hid (show OwnF w6 w.heap.size v' fs from by unfold OwnF; rw [Nat.zero_add, List.nil_append] at hown'; exact hown')
    clear hown' hgrow hnil
    go_wp2_with fail
    go_ret
    exact ⟨_, rfl, HO6.out, HB6.out⟩

set_option maxHeartbeats 2000000 in
theorem untold_any (O : Nat → Prop) (resp want : Bool) (g : Nat) (s : St) (w : World) (h : Rdr w O resp g s) :
    Calls Tryz.prog 29 #[.pointer (some ⟨g, 0, none⟩), .bool want] w fun e w' => e = .returned (.int .i64 (if doneOf s && resp == want then 0 else 16)) ∧ w = w' := by
  obtain ⟨⟨F, hF, c2⟩, c5, c6⟩ := h.tells
  obtain ⟨D, hD⟩ : ∃ D, D = doneOf s := ⟨_, rfl⟩
  rw [← hD] at c5 ⊢
  cases D with
  | false =>
    clear h hD c6
    go_enter Tryz.func29, Tryz.ntmps29
    go_wp2_with fail
    refine (made_yes g F _ hF c2).mono ?_
    rintro e w' ⟨rfl, rfl⟩
    go_wp2_with fail
    go_ret
    exact ⟨rfl, rfl⟩
  | true =>
    have c0 : w.cell? ⟨g, 0, none⟩ = some (.bool resp) := by
      cases s with
      | on => simp [doneOf] at hD
      | done q fs => obtain ⟨M, F, lv, n, fv, hF, hb, _⟩ := h; exact rc0 hb
      | bad => simp [doneOf] at hD
    clear h hD c6
    cases resp <;> cases want
    all_goals
      go_enter Tryz.func29, Tryz.ntmps29
      go_wp2_with fail
      refine (made_yes g F _ hF c2).mono ?_
      rintro e w' ⟨rfl, rfl⟩
      go_wp2_with fail
      go_ret
      exact ⟨rfl, rfl⟩
end Go.Proofs.YtcolnidgembniaaGreatDoor.Hd
/-
  A reader's Request and Response: what each returns. Conditions: fields of at most 2^20 bytes in all.
-/
namespace Go.Proofs.YtcolnidgembniaaGreatDoor.Hd
open Go.RowKit Go.Proofs.YtcolnidgembniaaGreatDoor.Tk Go.Proofs.YtcolnidgembniaaGreatDoor.Fd
set_option linter.unusedVariables false

theorem infoReq : (Tryz.prog.info? 25).map (·.size) = some 4 := by kernel_rfl
theorem infoRes : (Tryz.prog.info? 32).map (·.size) = some 4 := by kernel_rfl
theorem put4 {w : World} {g : Nat} {a b c d : Value} {t : TypeId} {fr : Nat × Nat} (h : w.heap[g]? = some (.cells #[a, b, c, d] t fr)) (x y z u : Value) :
    ((((w.setCell ⟨g, 0, none⟩ x).setCell ⟨g, 1, none⟩ y).setCell ⟨g, 2, none⟩ z).setCell ⟨g, 3, none⟩ u).heap[g]? = some (.cells #[x, y, z, u] t fr) := by
  rw [heap_put (heap_put (heap_put (heap_put h 0 x) 1 y) 2 z) 3 u]; rfl
theorem four {w : World} {g : Nat} {a b c d : Value} {t : TypeId} {fr : Nat × Nat} (h : w.heap[g]? = some (.cells #[a, b, c, d] t fr)) : w.cell? ⟨g, 0, none⟩ = some a ∧ w.cell? ⟨g, 1, none⟩ = some b ∧ w.cell? ⟨g, 2, none⟩ = some c ∧ w.cell? ⟨g, 3, none⟩ = some d := by
  refine ⟨?_, ?_, ?_, ?_⟩ <;> (rw [Lib.cell_of_heap h]; rfl)
theorem put4_below {B : Nat} {w0 w : World} {g : Nat} (h : Below B w0 w) (hg : B ≤ g) (x y z u : Value) : Below B w0 ((((w.setCell ⟨g, 0, none⟩ x).setCell ⟨g, 1, none⟩ y).setCell ⟨g, 2, none⟩ z).setCell ⟨g, 3, none⟩ u) :=
  (((h.setCell (p := ⟨g, 0, none⟩) hg _).setCell (p := ⟨g, 1, none⟩) hg _).setCell (p := ⟨g, 2, none⟩) hg _).setCell (p := ⟨g, 3, none⟩) hg _
/-- A request's head, and its error; a response's. -/
def ReqPost (H : Parts × List Fl × Nat) (w : World) (e : Ending) (w' : World) : Prop := ∃ v, e = .returned (.tuple #[.agg #[.string H.1.a, .string H.1.b, .int .i64 H.1.m, v], .int .i64 (H.2.2 : Int)]) ∧ OwnF w' w.heap.size v H.2.1 ∧ Below w.heap.size w w'
def ResPost (H : Parts × List Fl × Nat) (w : World) (e : Ending) (w' : World) : Prop := ∃ v, e = .returned (.tuple #[.agg #[.int .i64 H.1.m, .int .i64 H.1.c, .string H.1.a, v], .int .i64 (H.2.2 : Int)]) ∧ OwnF w' w.heap.size v H.2.1 ∧ Below w.heap.size w w'
theorem headOf_no {resp same : Bool} {s : St} (h : (doneOf s && same) = false) : headOf resp same s = (.none, [], 16) := by
  cases s with
  | on => rfl
  | done q fs => simp [doneOf] at h; subst h; rfl
  | bad => rfl

set_option maxRecDepth 100000 in
set_option maxHeartbeats 4000000 in
theorem request_no (O : Nat → Prop) (resp : Bool) (g : Nat) (s : St) (w : World) (h : Rdr w O resp g s) (hn : (doneOf s && resp == false) = false) :
    Calls Tryz.prog 13 #[.pointer (some ⟨g, 0, none⟩)] w (ReqPost (headOf resp (resp == false) s) w) := by
  rw [headOf_no hn]
  have HR := Lib.hid (h.below ((Below.refl w.heap.size w).alloc (Nat.le_refl _) (.cells #[.string ⟨#[]⟩, .string ⟨#[]⟩, .int .i64 0, .slice none 0 0] 25)))
  have HN := Lib.hid hn
  clear h hn
  go_enter Tryz.func13, Tryz.ntmps13
  go_wp2_with fail
  refine (untold_any O resp false g s _ HR.out).mono ?_
  rintro e w' ⟨rfl, rfl⟩
  rw [HN.out]
  go_wp2_with fail
  refine bodyPost_ret (results_pair rfl _ _ w.heap.size 25 _ (0, 0) _ rfl (new_block _ _) Tryz.underlying25 rfl infoReq) rfl ?_
  exact ⟨_, rfl, OwnF.nil _ _, (Below.refl _ _).alloc (Nat.le_refl _) _⟩
set_option maxRecDepth 100000 in
set_option maxHeartbeats 4000000 in
theorem request_yes (O : Nat → Prop) (g : Nat) (q : Parts) (fs : List Fl) (w : World) (h : Rdr w O false g (.done q fs)) (hl : fs.length ≤ 1048576) :
    Calls Tryz.prog 13 #[.pointer (some ⟨g, 0, none⟩)] w (ReqPost (q, fs, 0) w) := by
  have HR := Lib.hid (h.below ((Below.refl w.heap.size w).alloc (Nat.le_refl _) (.cells #[.string ⟨#[]⟩, .string ⟨#[]⟩, .int .i64 0, .slice none 0 0] 25)))
  have hB1 := (Below.refl w.heap.size w).alloc (Nat.le_refl _) (.cells #[.string ⟨#[]⟩, .string ⟨#[]⟩, .int .i64 0, .slice none 0 0] 25)
  have HK1 := Lib.hid (new_block w (.cells #[.string ⟨#[]⟩, .string ⟨#[]⟩, .int .i64 0, .slice none 0 0] 25))
  obtain ⟨w1, hw1⟩ : ∃ w1, w1 = w.alloc (.cells #[.string ⟨#[]⟩, .string ⟨#[]⟩, .int .i64 0, .slice none 0 0] 25) := ⟨_, rfl⟩
  have HW1 := Lib.hid hw1
  rw [← hw1] at HR hB1 HK1
  clear hw1 h
  obtain ⟨M, F, lv, n, fv, hF, hb, hf, _, _⟩ := HR.out
  have c7 := rc7 hb
  have c8 := rc8 hb
  have c9 := rc9 hb
  have c10 := rc10 hb
  have c15 := rc15 hb
  unfold qA at c7
  unfold qB at c8
  unfold qM at c9
  simp only [Bool.false_eq_true, if_false] at c7 c8 c9
  have HFF := Lib.hid hf
  have HBB := Lib.hid hb
  clear hb hf hF
  have HT := Lib.hid (new_block w1 (.cells #[.string q.a, .string q.b, .int .i64 q.m, .slice none 0 0] 25))
  have hB2 := hB1.alloc hB1.size (.cells #[.string q.a, .string q.b, .int .i64 q.m, .slice none 0 0] 25)
  have HK2 := Lib.hid ((old_block w1 (.cells #[.string q.a, .string q.b, .int .i64 q.m, .slice none 0 0] 25) (block_lt HK1.out)).trans HK1.out)
  have HF2 := Lib.hid (owns_kept HFF.out ((Below.refl _ w1).alloc (Nat.le_refl _) (.cells #[.string q.a, .string q.b, .int .i64 q.m, .slice none 0 0] 25)))
  have c15' : (w1.alloc (.cells #[.string q.a, .string q.b, .int .i64 q.m, .slice none 0 0] 25)).cell? ⟨g, 15, none⟩ = some fv := rc15 ((old_block w1 _ (block_lt HBB.out)).trans HBB.out)
  obtain ⟨T, hT⟩ : ∃ T, T = w1.heap.size := ⟨_, rfl⟩
  have HTT := Lib.hid hT
  have hTw : w.heap.size + 1 ≤ T := by rw [hT]; exact block_lt HK1.out
  rw [← hT] at HT
  clear hT
  go_enter Tryz.func13, Tryz.ntmps13
  go_wp2_with fail
  rw [← HW1.out]
  refine (untold_any O false false g _ _ HR.out).mono ?_
  rintro e w' ⟨rfl, rfl⟩
  rw [show (doneOf (.done q fs) && (false == false)) = true from rfl]
  go_wp2_with fail
  rw [← HTT.out]
  refine (clone_any fv fs _ HF2.out hl).mono ?_
  rintro e w3 ⟨v, rfl, hf3, hb3⟩
  have HB3 := Lib.hid (Bl.next hB2 hb3)
  have HK3 := Lib.hid (Bl.old hb3 (block_lt HK2.out) HK2.out)
  have hT3 := Bl.old hb3 (block_lt HT.out) HT.out
  have HO3 := Lib.hid hf3
  obtain ⟨va, vc, hv⟩ := OwnF.form hf3
  subst hv
  obtain ⟨t0, t1, t2, t3⟩ := four hT3
  have ft := free hT3 3
  obtain ⟨r0, r1, r2, r3⟩ := four HK3.out
  have f0 := free HK3.out 0
  have f1 := free HK3.out 1
  have f2 := free HK3.out 2
  have f3 := free HK3.out 3
  have hne : w.heap.size ≠ T := by omega
  have hen : T ≠ w.heap.size := by omega
  have HP := Lib.hid (put_far (a := ⟨T, 3, none⟩) (v := .slice va fs.length vc) HK3.out (by show w.heap.size ≠ T; exact hne))
  clear hf3 hb3 hT3 c7 c8 c9 c10 c15 c15' hB2
  go_wp2_with fail
  refine bodyPost_ret (results_pair rfl _ _ w.heap.size 25 _ (0, 0) _ rfl (put4 HP.out _ _ _ _) Tryz.underlying25 rfl infoReq) rfl ?_
  obtain ⟨c3, hc3⟩ : ∃ c3, c3 = w3.setCell ⟨T, 3, none⟩ (.slice va fs.length vc) := ⟨_, rfl⟩
  refine ⟨_, rfl, ?_, put4_below (HB3.out.setCell (p := ⟨T, 3, none⟩) (by show w.heap.size ≤ T; omega) _) (Nat.le_refl _) _ _ _ _⟩
  refine owns_mono (row_same HO3.out fun k hk => ?_) (by have := hB1.size; simp; omega)
  have hk3 := (World.ownsRow.lt HO3.out k hk).1
  have hkT : k ≠ T := by
    have : w1.heap.size + 1 ≤ k := by simpa using hk3
    have := HTT.out
    omega
  have hkw : k ≠ w.heap.size := by
    have : w1.heap.size + 1 ≤ k := by simpa using hk3
    have := hB1.size
    omega
  exact put_far (put_far (put_far (put_far (put_far rfl (by show k ≠ T; exact hkT)) (by show k ≠ w.heap.size; exact hkw)) (by show k ≠ w.heap.size; exact hkw)) (by show k ≠ w.heap.size; exact hkw)) (by show k ≠ w.heap.size; exact hkw)
set_option maxRecDepth 100000 in
set_option maxHeartbeats 4000000 in
theorem response_no (O : Nat → Prop) (resp : Bool) (g : Nat) (s : St) (w : World) (h : Rdr w O resp g s) (hn : (doneOf s && resp == true) = false) :
    Calls Tryz.prog 21 #[.pointer (some ⟨g, 0, none⟩)] w (ResPost (headOf resp (resp == true) s) w) := by
  rw [headOf_no hn]
  have HR := Lib.hid (h.below ((Below.refl w.heap.size w).alloc (Nat.le_refl _) (.cells #[.int .i64 0, .int .i64 0, .string ⟨#[]⟩, .slice none 0 0] 32)))
  have HN := Lib.hid hn
  clear h hn
  go_enter Tryz.func21, Tryz.ntmps21
  go_wp2_with fail
  refine (untold_any O resp true g s _ HR.out).mono ?_
  rintro e w' ⟨rfl, rfl⟩
  rw [HN.out]
  go_wp2_with fail
  refine bodyPost_ret (results_pair rfl _ _ w.heap.size 32 _ (0, 0) _ rfl (new_block _ _) Tryz.underlying32 rfl infoRes) rfl ?_
  exact ⟨_, rfl, OwnF.nil _ _, (Below.refl _ _).alloc (Nat.le_refl _) _⟩
set_option maxRecDepth 100000 in
set_option maxHeartbeats 4000000 in
theorem response_yes (O : Nat → Prop) (g : Nat) (q : Parts) (fs : List Fl) (w : World) (h : Rdr w O true g (.done q fs)) (hl : fs.length ≤ 1048576) :
    Calls Tryz.prog 21 #[.pointer (some ⟨g, 0, none⟩)] w (ResPost (q, fs, 0) w) := by
  have HR := Lib.hid (h.below ((Below.refl w.heap.size w).alloc (Nat.le_refl _) (.cells #[.int .i64 0, .int .i64 0, .string ⟨#[]⟩, .slice none 0 0] 32)))
  have hB1 := (Below.refl w.heap.size w).alloc (Nat.le_refl _) (.cells #[.int .i64 0, .int .i64 0, .string ⟨#[]⟩, .slice none 0 0] 32)
  have HK1 := Lib.hid (new_block w (.cells #[.int .i64 0, .int .i64 0, .string ⟨#[]⟩, .slice none 0 0] 32))
  obtain ⟨w1, hw1⟩ : ∃ w1, w1 = w.alloc (.cells #[.int .i64 0, .int .i64 0, .string ⟨#[]⟩, .slice none 0 0] 32) := ⟨_, rfl⟩
  have HW1 := Lib.hid hw1
  rw [← hw1] at HR hB1 HK1
  clear hw1 h
  obtain ⟨M, F, lv, n, fv, hF, hb, hf, _, _⟩ := HR.out
  have c7 := rc11 hb
  have c8 := rc12 hb
  have c9 := rc13 hb
  have c10 := rc14 hb
  have c15 := rc15 hb
  unfold sM at c7
  unfold sC at c8
  unfold sA at c9
  simp only [if_true] at c7 c8 c9
  have HFF := Lib.hid hf
  have HBB := Lib.hid hb
  clear hb hf hF
  have HT := Lib.hid (new_block w1 (.cells #[.int .i64 q.m, .int .i64 q.c, .string q.a, .slice none 0 0] 32))
  have hB2 := hB1.alloc hB1.size (.cells #[.int .i64 q.m, .int .i64 q.c, .string q.a, .slice none 0 0] 32)
  have HK2 := Lib.hid ((old_block w1 (.cells #[.int .i64 q.m, .int .i64 q.c, .string q.a, .slice none 0 0] 32) (block_lt HK1.out)).trans HK1.out)
  have HF2 := Lib.hid (owns_kept HFF.out ((Below.refl _ w1).alloc (Nat.le_refl _) (.cells #[.int .i64 q.m, .int .i64 q.c, .string q.a, .slice none 0 0] 32)))
  have c15' : (w1.alloc (.cells #[.int .i64 q.m, .int .i64 q.c, .string q.a, .slice none 0 0] 32)).cell? ⟨g, 15, none⟩ = some fv := rc15 ((old_block w1 _ (block_lt HBB.out)).trans HBB.out)
  obtain ⟨T, hT⟩ : ∃ T, T = w1.heap.size := ⟨_, rfl⟩
  have HTT := Lib.hid hT
  have hTw : w.heap.size + 1 ≤ T := by rw [hT]; exact block_lt HK1.out
  rw [← hT] at HT
  clear hT
  go_enter Tryz.func21, Tryz.ntmps21
  go_wp2_with fail
  rw [← HW1.out]
  refine (untold_any O true true g _ _ HR.out).mono ?_
  rintro e w' ⟨rfl, rfl⟩
  rw [show (doneOf (.done q fs) && (true == true)) = true from rfl]
  go_wp2_with fail
  rw [← HTT.out]
  refine (clone_any fv fs _ HF2.out hl).mono ?_
  rintro e w3 ⟨v, rfl, hf3, hb3⟩
  have HB3 := Lib.hid (Bl.next hB2 hb3)
  have HK3 := Lib.hid (Bl.old hb3 (block_lt HK2.out) HK2.out)
  have hT3 := Bl.old hb3 (block_lt HT.out) HT.out
  have HO3 := Lib.hid hf3
  obtain ⟨va, vc, hv⟩ := OwnF.form hf3
  subst hv
  obtain ⟨t0, t1, t2, t3⟩ := four hT3
  have ft := free hT3 3
  obtain ⟨r0, r1, r2, r3⟩ := four HK3.out
  have f0 := free HK3.out 0
  have f1 := free HK3.out 1
  have f2 := free HK3.out 2
  have f3 := free HK3.out 3
  have hne : w.heap.size ≠ T := by omega
  have hen : T ≠ w.heap.size := by omega
  have HP := Lib.hid (put_far (a := ⟨T, 3, none⟩) (v := .slice va fs.length vc) HK3.out (by show w.heap.size ≠ T; exact hne))
  clear hf3 hb3 hT3 c7 c8 c9 c10 c15 c15' hB2
  go_wp2_with fail
  refine bodyPost_ret (results_pair rfl _ _ w.heap.size 32 _ (0, 0) _ rfl (put4 HP.out _ _ _ _) Tryz.underlying32 rfl infoRes) rfl ?_
  obtain ⟨c3, hc3⟩ : ∃ c3, c3 = w3.setCell ⟨T, 3, none⟩ (.slice va fs.length vc) := ⟨_, rfl⟩
  refine ⟨_, rfl, ?_, put4_below (HB3.out.setCell (p := ⟨T, 3, none⟩) (by show w.heap.size ≤ T; omega) _) (Nat.le_refl _) _ _ _ _⟩
  refine owns_mono (row_same HO3.out fun k hk => ?_) (by have := hB1.size; simp; omega)
  have hk3 := (World.ownsRow.lt HO3.out k hk).1
  have hkT : k ≠ T := by
    have : w1.heap.size + 1 ≤ k := by simpa using hk3
    have := HTT.out
    omega
  have hkw : k ≠ w.heap.size := by
    have : w1.heap.size + 1 ≤ k := by simpa using hk3
    have := hB1.size
    omega
  exact put_far (put_far (put_far (put_far (put_far rfl (by show k ≠ T; exact hkT)) (by show k ≠ w.heap.size; exact hkw)) (by show k ≠ w.heap.size; exact hkw)) (by show k ≠ w.heap.size; exact hkw)) (by show k ≠ w.heap.size; exact hkw)
theorem request_any (O : Nat → Prop) (resp : Bool) (g : Nat) (s : St) (w : World) (h : Rdr w O resp g s) (hG : Good s) :
    Calls Tryz.prog 13 #[.pointer (some ⟨g, 0, none⟩)] w (ReqPost (headOf resp (resp == false) s) w) := by
  cases hn : (doneOf s && resp == false) with
  | false => exact request_no O resp g s w h hn
  | true =>
    cases s with
    | on => simp [doneOf] at hn
    | bad => simp [doneOf] at hn
    | done q fs =>
      have hr : resp = false := by cases resp <;> simp [doneOf] at hn ⊢
      subst hr
      exact request_yes O g q fs w h (by have := hG.1; omega)
theorem response_any (O : Nat → Prop) (resp : Bool) (g : Nat) (s : St) (w : World) (h : Rdr w O resp g s) (hG : Good s) :
    Calls Tryz.prog 21 #[.pointer (some ⟨g, 0, none⟩)] w (ResPost (headOf resp (resp == true) s) w) := by
  cases hn : (doneOf s && resp == true) with
  | false => exact response_no O resp g s w h hn
  | true =>
    cases s with
    | on => simp [doneOf] at hn
    | bad => simp [doneOf] at hn
    | done q fs =>
      have hr : resp = true := by cases resp <;> simp [doneOf] at hn ⊢
      subst hr
      exact response_yes O g q fs w h (by have := hG.1; omega)
end Go.Proofs.YtcolnidgembniaaGreatDoor.Hd
/-
  strings.Builder: copyCheck and WriteString walked, String by the library's contract at this translation. Condition: a text of at most 2^47 bytes.
-/
namespace Go.Proofs.YtcolnidgembniaaGreatDoor.Fd
open Go.Shelf Go.RowKit
def lays169_ren : Go.Shelf.Ren := ⟨fun | 169 => 72 | n => n, fun | 70 => 132 | 9 => 9 | 0 => 0 | 72 => 134 | 37 => 22 | 127 => 162 | 3 => 3 | 5 => 5 | n => n, fun | n => n⟩
theorem lays169 : Go.Proofs.Lays.n169 Tryz.prog lays169_ren := {
  mixed := by kernel_rfl
  f169 := Tryz.func72.trans (congrArg some (by kernel_rfl))
  t0 := Tryz.underlying0
  a0 := Tryz.isAgg0
  z0 := Tryz.sizeOf0
  v0 := Tryz.zeroValue0
  t3 := Tryz.underlying3
  a3 := Tryz.isAgg3
  z3 := Tryz.sizeOf3
  v3 := Tryz.zeroValue3
  t9 := Tryz.underlying9
  a9 := Tryz.isAgg9
  z9 := Tryz.sizeOf9
  v9 := Tryz.zeroValue9
  t37 := Tryz.underlying22
  a37 := Tryz.isAgg22
  z37 := Tryz.sizeOf22
  v37 := Tryz.zeroValue22
  t70 := Tryz.underlying132
  a70 := Tryz.isAgg132
  z70 := Tryz.sizeOf132
  v70 := Tryz.zeroValue132
  t72 := Tryz.underlying134
  a72 := Tryz.isAgg134
  z72 := Tryz.sizeOf134
  v72 := Tryz.zeroValue134
  t127 := Tryz.underlying162
  a127 := Tryz.isAgg162
  z127 := Tryz.sizeOf162
  v127 := Tryz.zeroValue162 }
theorem Builder_Extra_169 : Builder.Extra Tryz.prog lays169_ren := {
  sizeBuilder := by kernel_rfl
  liesBuilder := by kernel_rfl
  t5 := Tryz.underlying5
  a5 := Tryz.isAgg5
  z5 := Tryz.sizeOf5
  v5 := Tryz.zeroValue5
  infoByte := by kernel_rfl
  cellsByte := by kernel_rfl
  sizeByte := by kernel_rfl
  neB5 := by decide }

theorem builder_string (B b : Nat) (l : List UInt8) (w : World) (h : Lib.IsBuilderF 134 5 B b (Lib.byteCells l) w) (hBw : B ≤ w.heap.size) :
    Calls Tryz.prog 72 #[.pointer (some ⟨b, 0, none⟩)] w fun e w' => e = .returned (.string ⟨l.toArray⟩) ∧ Below B w w' :=
  (Any.Builder_String_any_k lays169 Builder_Extra_169 B b l w h hBw).mono fun _ _ ⟨he, _, hb, _⟩ => ⟨he, hb⟩

theorem sizeBuilder : (Tryz.prog.info? 134).map (·.size) = some 2 := by kernel_rfl
theorem liesBuilder : liesAt Tryz.prog Tryz.prog.depth 134 (2 / Tryz.prog.cellsOf 134) 0 134 1 = true := by kernel_rfl
theorem infoU8 : (Tryz.prog.info? 5).map (fun i => (i.zero, i.size, i.bytes)) = some (some (.int .u8 0), 1, 1) := by kernel_rfl
/-- The address handed through NoEscape. -/
theorem run_same (x : Value) (W : World) : (callFunc 124 #[x]).run Tryz.prog W = .ok (.value x) W := by
  rw [run_callFunc_extern Tryz.func124 (by kernel_rfl) (by kernel_rfl) (by kernel_rfl) (e := Extern.AbiNoEscape.same) (by kernel_rfl), Lib.run_noEscape]
  rfl
/-- What a writing call leaves: the builder marked with its own address and these bytes in it; below it, and beside it, all as it was. -/
def Wrote (B b : Nat) (bs : List Value) (w w' : World) : Prop :=
  Lib.BuilderAtF 134 5 B b (.pointer (some ⟨b, 0, none⟩)) bs w' ∧ Below B w w' ∧ Lib.OthersKept 5 (some b) w w'

set_option maxHeartbeats 1000000 in
set_option maxRecDepth 100000 in
theorem copyCheck_any (B b : Nat) (bs : List Value) (w : World) (h : Lib.IsBuilderF 134 5 B b bs w) :
    Calls Tryz.prog 106 #[.pointer (some ⟨b, 0, none⟩)] w fun e w' => e = .returned (.tuple #[]) ∧ Wrote B b bs w w' := by
  obtain ⟨j, hj, hjs⟩ := Option.map_eq_some_iff.1 sizeBuilder
  rcases h with h | h
  · have c0 := h.cell0
    have f0 := h.frozen0
    have r1 := Lib.run_to_unsafe w ⟨b, 0, none⟩ Tryz.underlying132 Tryz.underlying171 hj (by rw [hjs]; decide) h.shape (Nat.zero_lt_succ 1)
    have r2 := run_same (.pointer (some ⟨b, 0, none⟩)) w
    have r3 := Lib.run_from_unsafe w ⟨b, 0, none⟩ Tryz.underlying171 Tryz.underlying132 hj h.shape liesBuilder
    have HB := Lib.hid h
    clear h hj hjs
    go_enter Tryz.func106, Tryz.ntmps106
    go_wp2_with fail
    go_end0
    exact ⟨rfl, HB.out.used _, (Below.refl B w).setCell (p := ⟨b, 0, none⟩) HB.out.1 _, (Lib.OthersKept.refl _ _ w).setCell ⟨b, 0, none⟩ rfl _⟩
  · have c0 := h.cell0
    have r1 := Lib.run_neq_ptr_same w ⟨b, 0, none⟩ Tryz.underlying132 hj
    have HB := Lib.hid h
    clear h hj hjs
    go_enter Tryz.func106, Tryz.ntmps106
    go_wp2_with fail
    go_end0
    exact ⟨rfl, HB.out, Below.refl B _, Lib.OthersKept.refl _ _ _⟩
theorem slice_of {w : World} {B : Nat} {e : TypeId} {k : Nat} {v : Value} {n : Nat} {xs : List Value} (h : w.ownsRowF B e k v n xs) : ∃ a m c, v = .slice a m c := by
  rcases h.2 with ⟨h0, _⟩ | ⟨_, _, _, _, h0, _⟩ <;> exact ⟨_, _, _, h0⟩

set_option maxHeartbeats 2000000 in
set_option maxRecDepth 100000 in
theorem writeString_any (B b : Nat) (bs : List Value) (s : ByteArray) (w : World) (h : Lib.IsBuilderF 134 5 B b bs w) (hlen : bs.length + s.size ≤ 140737488355328) (hBw : B ≤ w.heap.size) :
    Calls Tryz.prog 71 #[.pointer (some ⟨b, 0, none⟩), .string s] w fun e w' => e = .returned (.tuple #[.int .i64 s.size, .nilIface]) ∧ Wrote B b (bs ++ Lib.strCells s) w w' := by
  obtain ⟨i0, hi, hz0, hz1, hz2⟩ := info_parts infoU8
  have HB := Lib.hid h
  clear h
  go_enter Tryz.func71, Tryz.ntmps71
  go_wp2_with fail
  refine (copyCheck_any B b bs _ HB.out).mono ?_
  rintro e x ⟨rfl, ⟨hb, v, hx, ho, hv⟩, hB, hK⟩
  have HO := Lib.hid ho
  have HX := Lib.hid hx
  have a0 := two0 hx
  have a1 := two1 hx
  have hsz := hB.size
  clear ho hx HB
  go_wp2_with (at_builtin; refine Lib.wpList_append_own_stringF _ rfl _ _ 22 9 rfl B 5 i0 Tryz.underlying22 Tryz.underlying9 hi hz0 hz1 hz2 _ _ _ rfl HO.out s rfl (by unfold maxLen; omega) (by omega) (by omega) ?_; intro u y hu hg hn; obtain ⟨ua, un, uc, hs⟩ := slice_of hu; have HY := Lib.hid ((hg.block b (block_lt HX.out) (fun e => hv e.symm)).trans HX.out); have b0 := two0 HY.out; have b1 := two1 HY.out; have f1 := free HY.out 1; rw [hs] at hu; rw [hs]; clear a0 a1 hn hs)
  go_ret2
  exact ⟨rfl, Lib.BuilderAtF.put hb HY.out (by rw [List.length_append, Lib.strCells_length]; exact hu) (by decide), (hB.grown hg (by omega) fun k hk => (HO.out.lt k hk).1).setCell (p := ⟨b, 1, none⟩) hb _, (hK.grown hg (Lib.ownsRowF_kind HO.out)).setCell ⟨b, 1, none⟩ rfl _⟩
end Go.Proofs.YtcolnidgembniaaGreatDoor.Fd
/-
  token.lowerByte, token.Lower and token.Same: what each returns. Conditions: none beyond the lengths that a string can have.
-/
namespace Go.Proofs.YtcolnidgembniaaGreatDoor.Tk
open Go.RowKit

theorem lowerByte_any (c : UInt8) (w : World) :
    Calls Tryz.prog 105 #[.int .u8 (c.toNat : Int)] w fun e w' => e = .returned (.int .u8 ((low c).toNat : Int)) ∧ w' = w := by
  have hc : c.toNat < 256 := c.toNat_lt
  by_cases h : 65 ≤ c.toNat ∧ c.toNat ≤ 90
  · have HL := Lib.hid (low_up h)
    have h1 : (65 : Int) ≤ (c.toNat : Int) := by omega
    have h2 : (c.toNat : Int) ≤ 90 := by omega
    clear h
    go_enter Tryz.func105, Tryz.ntmps105
    go_wp2
    go_ret
    exact ⟨by rw [HL.out]; rfl, rfl⟩
  · have HL := Lib.hid (low_id h)
    by_cases h1 : (65 : Int) ≤ (c.toNat : Int)
    · have h2 : ¬ (c.toNat : Int) ≤ 90 := by omega
      clear h
      go_enter Tryz.func105, Tryz.ntmps105
      go_wp2
      go_ret
      exact ⟨by rw [HL.out]; rfl, rfl⟩
    · clear h
      go_enter Tryz.func105, Tryz.ntmps105
      go_wp2
      go_ret
      exact ⟨by rw [HL.out]; rfl, rfl⟩

/-- The first k bytes small, the others as they were. -/
def mix (l : Bs) (k : Nat) : Bs := (l.take k).map low ++ l.drop k
theorem mix_length (l : Bs) (k : Nat) (hk : k ≤ l.length) : (mix l k).length = l.length := by simp [mix]; omega
theorem mix_zero (l : Bs) : mix l 0 = l := by simp [mix]
theorem mix_all (l : Bs) : mix l l.length = lower l := by simp [mix, lower]
theorem mix_at (l : Bs) (k : Nat) (hk : k < l.length) : (mix l k)[k]'(by rw [mix_length l k (by omega)]; exact hk) = l[k] := by
  unfold mix
  rw [List.getElem_append_right (by simp; exact Nat.min_le_left _ _)]
  simp [Nat.min_eq_left (Nat.le_of_lt hk)]
theorem mix_set (l : Bs) (k : Nat) (hk : k < l.length) : (mix l k).set k (low l[k]) = mix l (k + 1) := by
  unfold mix
  rw [List.set_append_right _ _ (by simp; exact Nat.min_le_left _ _)]
  have h1 : k - (List.map low (List.take k l)).length = 0 := by simp; omega
  rw [h1, List.drop_eq_getElem_cons hk, List.take_succ_eq_append_getElem hk, List.map_append, List.set_cons_zero, List.append_assoc]
  rfl

theorem Holds.at0 {w : World} {b : Nat} {l : Bs} (h : Holds w b 0 l) (j : Nat) (hj : j < l.length) : w.cell? ⟨b, j, none⟩ = some (.int .u8 (l[j].toNat : Int)) := by
  have := h j hj; rwa [Nat.zero_add] at this
theorem Holds.set {w : World} {b : Nat} {l : Bs} (h : Holds w b 0 l) (k : Nat) (hk : k < l.length) (c : UInt8) : Holds (w.setCell ⟨b, k, none⟩ (.int .u8 (c.toNat : Int))) b 0 (l.set k c) := by
  intro j hj
  have hj' : j < l.length := by simpa using hj
  rw [Nat.zero_add]
  by_cases e : j = k
  · subst e
    rw [World.cell?_setCell_same w _ _ (h.at0 j hj')]; simp
  · rw [World.cell?_setCell_other w _ _ _ (by intro hh; injection hh with _ h2; exact e h2.symm), h.at0 j hj']
    simp [List.getElem_set_ne (Ne.symm e)]

set_option maxHeartbeats 1000000 in
theorem lower_any (s : ByteArray) (w : World) (hs : s.size ≤ maxLen) :
    Calls Tryz.prog 107 #[.string s] w fun e w' => e = .returned (.string ⟨(lower s.data.toList).toArray⟩) ∧ Below w.heap.size w w' := by
  unfold maxLen at hs
  have hconv := fun W : World => run_bytes_of_string (P := Tryz.prog) W 9 22 5 s Tryz.underlying9 Tryz.underlying22 Tryz.underlying5
  have hcap := grownCap_ge w s.size 0 5
  have hlen : s.data.toList.length = s.size := by simp
  have HLEN := Lib.hid hlen
  clear hlen
  have HH := Lib.hid (holds_new w s (grownCap w s.size 0 5) 5 ((bytesRow s (grownCap w s.size 0 5)).size, (bytesRow s (grownCap w s.size 0 5)).size + 1))
  have HF : Hid (∀ j, j < s.size → (w.alloc (.cells (bytesRow s (grownCap w s.size 0 5)) 5 ((bytesRow s (grownCap w s.size 0 5)).size, (bytesRow s (grownCap w s.size 0 5)).size + 1))).frozen? ⟨w.heap.size, j, none⟩ = false) := by
    intro j hj
    rw [World.frozen?_alloc_mark]
    have : (bytesRow s (grownCap w s.size 0 5)).size = grownCap w s.size 0 5 := by
      have h2 : s.data.size = s.size := rfl
      simp [bytesRow]; omega
    rw [this]; simp; omega
  go_enter Tryz.func107, Tryz.ntmps107
  go_wp2_with fail
  clear hconv
  go_loopw [10] (fun i wr => ∃ k : Nat, k ≤ s.size ∧ i = .int .i64 k ∧ Holds wr w.heap.size 0 (mix s.data.toList k) ∧ (∀ j, j < s.size → wr.frozen? ⟨w.heap.size, j, none⟩ = false) ∧ Below w.heap.size w wr) (fun i _ => s.size - (intOf i).toNat)
  case atStart => exact ⟨0, Nat.zero_le _, rfl, by rw [mix_zero]; exact HH.out, HF.out, ((Below.refl _ _).alloc (Nat.le_refl _) _).drew⟩
  case round =>
    obtain ⟨k, hk, rfl, hh, hf, hb⟩ := hrel
    have HH2 := Lib.hid hh
    have HF2 := Lib.hid hf
    clear hh hf HH HF
    by_cases hlt : k < s.size
    · have hk' : k < s.data.toList.length := by rw [HLEN.out]; exact hlt
      have hcell : wr.cell? ⟨w.heap.size, k, none⟩ = some (.int .u8 (s.data.toList[k].toNat : Int)) := by
        have h1 := HH2.out.at0 k (by rw [mix_length _ _ (Nat.le_of_lt hk')]; exact hk')
        rwa [mix_at _ _ hk'] at h1
      have hfz := HF2.out k hlt
      obtain ⟨c, hc⟩ : ∃ c, c = s.data.toList[k] := ⟨_, rfl⟩
      rw [← hc] at hcell
      have HC := Lib.hid hc
      clear hc
      go_wp2_with (go_at_call 105; refine (lowerByte_any _ _).mono ?_; rintro e w' ⟨rfl, rfl⟩)
      go_roundw
      case rel =>
        have hk' : k < s.data.toList.length := by rw [HLEN.out]; exact hlt
        refine ⟨k + 1, by omega, by go_num, ?_, ?_, ?_⟩
        · rw [← mix_set _ _ hk', ← HC.out]
          exact HH2.out.set k (by rw [mix_length _ _ (Nat.le_of_lt hk')]; exact hk') _
        · intro j hj; rw [World.frozen?_setCell]; exact HF2.out j hj
        · exact hb.setCell (Nat.le_refl _) _
      case measure => simp [intOf]; omega
    · have hback := run_back (P := Tryz.prog) wr 22 9 5 w.heap.size 0 (grownCap w s.size 0 5) (lower s.data.toList) Tryz.underlying22 Tryz.underlying5 Tryz.underlying9 (by
        have h1 := HH2.out
        rw [show k = s.data.toList.length from by rw [HLEN.out]; omega, mix_all] at h1
        exact h1)
      rw [lower_length, HLEN.out] at hback
      go_wp2
      go_ret
      exact ⟨rfl, hb⟩

/-- Two texts are alike but for the size of letters. -/
def same (a b : Bs) : Bool := lower a == lower b
theorem same_no {a b : ByteArray} (h : a.size ≠ b.size) : same a.data.toList b.data.toList = false := by
  unfold same
  rw [beq_eq_false_iff_ne]
  intro e
  have := congrArg List.length e
  simp [lower_length] at this
  exact h this
theorem same_at (a b : ByteArray) (k : Nat) (ha : k < a.size) (hb : k < b.size) (h : low a[k] ≠ low b[k]) : same a.data.toList b.data.toList = false := by
  unfold same
  rw [beq_eq_false_iff_ne]
  intro e
  have h1 : (lower a.data.toList)[k]? = some (low a[k]) := by
    simp only [lower, List.getElem?_map]
    rw [List.getElem?_eq_getElem (by simpa using ha)]; rfl
  have h2 : (lower b.data.toList)[k]? = some (low b[k]) := by
    simp only [lower, List.getElem?_map]
    rw [List.getElem?_eq_getElem (by simpa using hb)]; rfl
  rw [e, h2] at h1
  injection h1 with h1
  exact h h1.symm
theorem same_yes (a b : ByteArray) (hab : a.size = b.size) (h : ∀ j (ha : j < a.size) (hb : j < b.size), low a[j] = low b[j]) : same a.data.toList b.data.toList = true := by
  unfold same
  rw [beq_iff_eq]
  apply List.ext_getElem
  · simp [lower_length]; exact hab
  · intro j h1 h2
    simp only [lower, List.getElem_map]
    exact h j (by simpa [lower] using h1) (by simpa [lower] using h2)
theorem low_ne {c d : UInt8} (h : low c ≠ low d) : (((low c).toNat : Int) != ((low d).toNat : Int)) = true := by
  rw [bne_iff_ne]; intro e; exact h (UInt8.toNat.inj (by omega))
theorem low_eq {c d : UInt8} (h : low c = low d) : (((low c).toNat : Int) != ((low d).toNat : Int)) = false := by
  rw [h]; simp

set_option maxHeartbeats 1000000 in
theorem same_any (a b : ByteArray) (w : World) (hs : a.size ≤ maxLen) :
    Calls Tryz.prog 70 #[.string a, .string b] w fun e w' => e = .returned (.bool (same a.data.toList b.data.toList)) ∧ ∃ n, w' = w.drewN n := by
  unfold maxLen at hs
  by_cases hab : a.size = b.size
  · have hne : ((a.size : Int) != (b.size : Int)) = false := by rw [hab]; simp
    have HAB := Lib.hid hab
    clear hab
    go_enter Tryz.func70, Tryz.ntmps70
    go_wp2_with fail
    go_loopw [13] (fun i wr => ∃ k : Nat, k ≤ a.size ∧ i = .int .i64 k ∧ (∃ n, wr = w.drewN n) ∧ ∀ j (ha : j < a.size) (hb : j < b.size), j < k → low a[j] = low b[j]) (fun i _ => a.size - (intOf i).toNat)
    case atStart => exact ⟨0, Nat.zero_le _, rfl, ⟨0, rfl⟩, fun j _ _ h => by omega⟩
    case round =>
      obtain ⟨k, hk, rfl, ⟨n, hw⟩, hall⟩ := hrel
      have HALL := Lib.hid hall
      have HW := Lib.hid hw
      clear hall hw
      by_cases hlt : k < a.size
      · have hlb : k < b.size := by have := HAB.out; omega
        by_cases he : low a[k] = low b[k]
        · have h1 := low_eq he
          have HE := Lib.hid he
          clear he
          go_wp2_with fail
          go_quiet ((go_at_call 105; exact Calls.quiet_of_same (lowerByte_any _ _)))
          go_wp2
          go_roundw
          case rel =>
            refine ⟨k + 1, by omega, by go_num, ⟨_, by rw [HW.out, World.drewN_drewN]⟩, fun j ha hb hj => ?_⟩
            by_cases e : j = k
            · subst e; exact HE.out
            · exact HALL.out j ha hb (by omega)
          case measure => simp [intOf]; omega
        · have h1 := low_ne he
          have HN := Lib.hid (same_at a b k hlt hlb he)
          clear he
          go_wp2_with fail
          go_quiet ((go_at_call 105; exact Calls.quiet_of_same (lowerByte_any _ _)))
          go_wp2
          go_ret
          exact ⟨by rw [HN.out]; rfl, _, by rw [HW.out, World.drewN_drewN]⟩
      · have HY := Lib.hid (same_yes a b HAB.out fun j ha hb => HALL.out j ha hb (by omega))
        go_wp2
        go_ret
        exact ⟨by rw [HY.out]; rfl, _, HW.out⟩
  · have hne : ((a.size : Int) != (b.size : Int)) = true := by rw [bne_iff_ne]; omega
    have HN := Lib.hid (same_no hab)
    clear hab
    go_enter Tryz.func70, Tryz.ntmps70
    go_wp2
    go_ret
    exact ⟨by rw [HN.out]; rfl, 0, rfl⟩
end Go.Proofs.YtcolnidgembniaaGreatDoor.Tk
/-
  field.Get: what it returns. Condition: fields of at most 2^20 bytes in all.
-/
namespace Go.Proofs.YtcolnidgembniaaGreatDoor.Fd
open Go.RowKit Tk
set_option linter.unusedVariables false

abbrev TB : TypeId := 134
abbrev TU : TypeId := 5
/-- What Get answers. -/
def getVal (fs : List Fl) (nm : Bs) : Value := .tuple #[.string ⟨(getT fs nm).toArray⟩, .int .i64 (getN fs nm : Int)]
theorem has_same (nm : ByteArray) (f : Fl) : same f.1.data.toList nm.data.toList = has nm.data.toList f := rfl
theorem isB_drewN {T e : TypeId} {B b : Nat} {bs : List Value} {w : World} (h : Lib.IsBuilderF T e B b bs w) (n : Nat) : Lib.IsBuilderF T e B b bs (w.drewN n) := h
theorem other_field {b : Nat} {w w' : World} (h : Lib.OthersKept 5 (some b) w w') {g : Nat} {cs : Array Value} (hg : w.heap[g]? = some (.cells cs 80 (0, 0))) (hb : g ≠ b) : w'.heap[g]? = some (.cells cs 80 (0, 0)) :=
  h g _ hg (by intro e; injection e with e; exact hb e) (fun c fz e => by injection e with _ e _; exact absurd e (by decide))
theorem builder_new (w : World) : Lib.IsBuilderF 134 5 w.heap.size w.heap.size (Lib.byteCells []) (w.alloc (.cells #[.pointer none, .slice none 0 0] 134)) := Lib.IsBuilderF.of (Lib.fresh_isBuilder _ _ w)
theorem cells_add (l : Bs) (s : ByteArray) : Lib.byteCells l ++ Lib.strCells s = Lib.byteCells (l ++ s.data.toList) := by rw [Lib.strCells_eq, Lib.byteCells_append]
theorem cells_len (l : Bs) : (Lib.byteCells l).length = l.length := Lib.byteCells_length l

set_option maxHeartbeats 4000000 in
theorem get_any (v : Value) (fs : List Fl) (nm : ByteArray) (w : World) (hf : Flds w v fs) (ht : tot fs ≤ 1048576) (hn : nm.size ≤ maxLen) :
    Calls Tryz.prog 44 #[v, .string nm] w fun e w' => e = .returned (getVal fs nm.data.toList) ∧ Below w.heap.size w w' := by
  rcases hf with ⟨rfl, a, cap, rfl⟩ | ⟨b, off, cap, rfl, hlt, hc⟩
  · go_enter Tryz.func44, Tryz.ntmps44
    go_wp2_with fail
    refine wp_loop_rounds 1 ?_
    rw [rounds_succ]
    go_wp2_with fail
    refine (builder_string w.heap.size w.heap.size [] _ (builder_new w) (by simp)).mono ?_
    rintro e w1 ⟨rfl, hb1⟩
    go_wp2_with fail
    go_ret2
    exact ⟨rfl, ((Below.refl _ _).alloc (Nat.le_refl _) _).trans hb1⟩
  · have HC := Lib.hid hc
    have hlen := tot_len fs
    have HB0 := Lib.hid (builder_new w)
    clear hc
    go_enter Tryz.func44, Tryz.ntmps44
    go_wp2_with fail
    go_loopw [7, 12] (fun m i wr => ∃ k : Nat, k ≤ fs.length ∧ i = .int .i64 (k : Int) ∧ m = .int .i64 (getN (fs.take k) nm.data.toList : Int) ∧
      Lib.IsBuilderF 134 5 w.heap.size w.heap.size (Lib.byteCells (getT (fs.take k) nm.data.toList)) wr ∧ Below w.heap.size w wr) (fun _ i _ => fs.length - (intOf i).toNat)
    case atStart => exact ⟨0, Nat.zero_le _, rfl, rfl, HB0.out, (Below.refl _ _).alloc (Nat.le_refl _) _⟩
    case round =>
      obtain ⟨k, hk, rfl, rfl, hI, hB⟩ := hrel
      have HI := Lib.hid hI
      clear hI HB0
      have hsz := hB.size
      have hltb : w.heap.size < wr.heap.size := by rcases HI.out with h | h <;> exact h.lt
      by_cases hlt2 : k < fs.length
      · have c1 : wr.cell? ⟨b, off + k * 2, none⟩ = some (.string fs[k].1) := (hB.cell (p := ⟨b, off + k * 2, none⟩) hlt).trans (HC.out k hlt2).1
        have c2 : wr.cell? ⟨b, off + k * 2 + 1, none⟩ = some (.string fs[k].2) := (hB.cell (p := ⟨b, off + k * 2 + 1, none⟩) hlt).trans (HC.out k hlt2).2
        have hx2 := tot_at fs k hlt2
        have hgl := getT_length (fs.take k) nm.data.toList
        have htk := tot_take fs k
        have hS := Lib.hid (has_same nm fs[k])
        cases hh : has nm.data.toList fs[k] with
        | false =>
          have HN := Lib.hid (get_next_no fs nm.data.toList k hlt2 hh)
          have HH := Lib.hid (hS.out.trans hh)
          obtain ⟨x, hx⟩ : ∃ x, x = fs[k].1 := ⟨_, rfl⟩
          obtain ⟨y, hy⟩ : ∃ y, y = fs[k].2 := ⟨_, rfl⟩
          rw [← hx] at c1 HH hx2
          rw [← hy] at c2 hx2
          clear hx hy hh hS
          go_wp2_with fail
          refine (same_any x nm _ (by unfold maxLen; omega)).mono ?_
          rintro e w1 ⟨rfl, n1, hw1⟩
          rw [HH.out]
          have hB1 := Bl.drewN' (hB.alloc hsz _) hw1
          have HI1 := Lib.hid (show Lib.IsBuilderF 134 5 w.heap.size w.heap.size (Lib.byteCells (getT (fs.take k) nm.data.toList)) w1 from by rw [hw1]; exact isB_drewN (HI.out.alloc _) n1)
          clear hw1
          go_wp2_with fail
          go_roundw
          case rel => exact ⟨k + 1, by omega, by go_num, by rw [HN.out.2], by rw [HN.out.1]; exact HI1.out, hB1⟩
          case measure => simp [intOf]; omega
        | true =>
          have HN := Lib.hid (getN_next_yes fs nm.data.toList k hlt2 hh)
          have HH := Lib.hid (hS.out.trans hh)
          have hle := getN_le (fs.take k) nm.data.toList
          have hlk : (fs.take k).length ≤ k := List.length_take_le _ _
          obtain ⟨n, hn'⟩ : ∃ n, n = getN (fs.take k) nm.data.toList := ⟨_, rfl⟩
          have hnk : n ≤ fs.length := by omega
          by_cases h0 : n = 0
          · have HT := Lib.hid (getT_next_first fs nm.data.toList k hlt2 hh (by rw [← hn', h0]))
            have HT0 := Lib.hid (show getT (fs.take k) nm.data.toList = [] from by
              have h : (sel (fs.take k) nm.data.toList).length = 0 := by show getN _ _ = 0; omega
              unfold getT; rw [List.length_eq_zero_iff.1 h]; rfl)
            have d0 : decide (0 < n) = false := by rw [decide_eq_false_iff_not]; omega
            rw [← hn'] at HN
            rw [← hn']
            obtain ⟨x, hx⟩ : ∃ x, x = fs[k].1 := ⟨_, rfl⟩
            obtain ⟨y, hy⟩ : ∃ y, y = fs[k].2 := ⟨_, rfl⟩
            rw [← hx] at c1 HH hx2
            rw [← hy] at c2 hx2 HT
            clear hx hy hh hS hn' h0 hle
            go_wp2_with fail
            refine (same_any x nm _ (by unfold maxLen; omega)).mono ?_
            rintro e w1 ⟨rfl, n1, hw1⟩
            rw [HH.out]
            have hB1 := Bl.drewN' (hB.alloc hsz (.cells #[.string x, .string y] 80)) hw1
            have HI1 := Lib.hid (show Lib.IsBuilderF 134 5 w.heap.size w.heap.size (Lib.byteCells []) w1 from by have h := HI.out; rw [HT0.out] at h; rw [hw1]; exact isB_drewN (h.alloc _) n1)
            have hr1 : w1.heap[wr.heap.size]? = some (.cells #[.string x, .string y] 80 (0, 0)) := by rw [hw1]; exact new_block _ _
            have e0 := two0 hr1
            have e1 := two1 hr1
            clear hw1
            go_wp2_with fail
            refine (writeString_any w.heap.size w.heap.size _ y _ HI1.out (by simp [Lib.byteCells]; omega) hB1.size).mono ?_
            rintro e w2 ⟨rfl, hI2, hb2, _⟩
            have hB2 := hB1.trans hb2
            rw [cells_add] at hI2
            have HI2 := Lib.hid hI2
            clear hI2 hb2 e0 e1 hr1
            go_wp2_with fail
            go_roundw
            case rel => exact ⟨k + 1, by omega, by go_num, by rw [HN.out]; go_num, by rw [HT.out]; exact .inr HI2.out, hB2⟩
            case measure => simp [intOf]; omega
          · have HT := Lib.hid (getT_next_more fs nm.data.toList k hlt2 hh (by rw [← hn']; exact h0))
            have d0 : decide (0 < n) = true := by rw [decide_eq_true_eq]; omega
            rw [← hn'] at HN
            rw [← hn']
            obtain ⟨x, hx⟩ : ∃ x, x = fs[k].1 := ⟨_, rfl⟩
            obtain ⟨y, hy⟩ : ∃ y, y = fs[k].2 := ⟨_, rfl⟩
            rw [← hx] at c1 HH hx2
            rw [← hy] at c2 hx2 HT
            clear hx hy hh hS hn' h0 hle
            go_wp2_with fail
            refine (same_any x nm _ (by unfold maxLen; omega)).mono ?_
            rintro e w1 ⟨rfl, n1, hw1⟩
            rw [HH.out]
            have hB1 := Bl.drewN' (hB.alloc hsz (.cells #[.string x, .string y] 80)) hw1
            have HI1 := Lib.hid (show Lib.IsBuilderF 134 5 w.heap.size w.heap.size (Lib.byteCells (getT (fs.take k) nm.data.toList)) w1 from by rw [hw1]; exact isB_drewN (HI.out.alloc _) n1)
            have hr1 : w1.heap[wr.heap.size]? = some (.cells #[.string x, .string y] 80 (0, 0)) := by rw [hw1]; exact new_block _ _
            clear hw1
            go_wp2_with fail
            refine (writeString_any w.heap.size w.heap.size _ ⟨#[44, 32]⟩ _ HI1.out (by rw [cells_len]; show _ + 2 ≤ _; omega) hB1.size).mono ?_
            rintro e w2 ⟨rfl, hI2, hb2, hk2⟩
            have hB2 := hB1.trans hb2
            rw [cells_add] at hI2
            have HI2 := Lib.hid hI2
            have hr2 := other_field hk2 hr1 (by omega)
            have e0 := two0 hr2
            have e1 := two1 hr2
            clear hI2 hb2 hr1 hk2
            go_wp2_with fail
            refine (writeString_any w.heap.size w.heap.size _ y _ (.inr HI2.out) (by rw [cells_len, List.length_append]; show _ + 2 + _ ≤ _; omega) hB2.size).mono ?_
            rintro e w3 ⟨rfl, hI3, hb3, _⟩
            have hB3 := hB2.trans hb3
            rw [cells_add] at hI3
            have HI3 := Lib.hid hI3
            clear hI3 hb3 e0 e1 hr2
            go_wp2_with fail
            go_roundw
            case rel => exact ⟨k + 1, by omega, by go_num, by rw [HN.out]; go_num, by rw [HT.out]; exact .inr HI3.out, hB3⟩
            case measure => simp [intOf]; omega
      · have HE := Lib.hid (show fs.take k = fs from List.take_of_length_le (by omega))
        rw [HE.out]
        rw [HE.out] at HI
        go_wp2_with fail
        refine (builder_string w.heap.size w.heap.size _ _ HI.out hsz).mono ?_
        rintro e w1 ⟨rfl, hb1⟩
        have hB1 := hB.trans hb1
        go_wp2_with fail
        go_ret2
        exact ⟨rfl, hB1⟩
end Go.Proofs.YtcolnidgembniaaGreatDoor.Fd
/-
  Slices of texts as the model has them. No condition.
-/
namespace Go.Proofs.YtcolnidgembniaaGreatDoor.Fd
open Go.RowKit Tk

/-- A text as the model has it. -/
def TS (x : Bs) : Value := .string ⟨x.toArray⟩
/-- A slice value that reads as these texts. -/
def Texts (w : World) (v : Value) (ls : List Bs) : Prop :=
  (ls = [] ∧ ∃ a cap, v = .slice a 0 cap) ∨ ∃ g off cap, v = .slice (some ⟨g, off, none⟩) ls.length cap ∧ ∀ j (hj : j < ls.length), w.cell? ⟨g, off + j, none⟩ = some (TS ls[j])
theorem Texts.of_owns {w : World} {base : Nat} {v : Value} {ls : List Bs} {n : Nat} {t : TypeId} (h : w.ownsRow base t 1 v n (ls.map TS)) (hn : n = ls.length) : Texts w v ls := by
  subst hn
  rcases h.2 with ⟨hv, h0⟩ | ⟨g, cap, cur, hv, _⟩
  · exact .inl ⟨List.length_eq_zero_iff.1 h0, none, 0, by rw [hv]⟩
  · refine .inr ⟨g, 0, cap, hv, fun j hj => ?_⟩
    rw [hv] at h
    rw [Nat.zero_add, h.cellAt j (by omega), List.getElem?_map, List.getElem?_eq_getElem hj]; rfl
theorem Texts.shape {w : World} {v : Value} {ls : List Bs} (h : Texts w v ls) : ∃ a cap, v = .slice a ls.length cap := by
  rcases h with ⟨rfl, a, cap, hv⟩ | ⟨g, off, cap, hv, _⟩
  · exact ⟨a, cap, hv⟩
  · exact ⟨_, cap, hv⟩

end Go.Proofs.YtcolnidgembniaaGreatDoor.Fd
/-
  token.quoteEnd, the closure of token.Split that ends an element, and token.Split: what each returns. Condition: a text of at most 2^32 bytes.
-/
namespace Go.Proofs.YtcolnidgembniaaGreatDoor.Tk
open Go.RowKit

/-- Where the quoted text that begins at a place ends; -1: nowhere. -/
def qEnd (l : Bs) (beg : Nat) : Int := match qe (l.drop (beg + 1)) with | none => -1 | some m => (beg : Int) + (m : Int)
theorem qEnd_none {l : Bs} {beg : Nat} (h : qe (l.drop (beg + 1)) = none) : qEnd l beg = -1 := by unfold qEnd; rw [h]
theorem qEnd_some {l : Bs} {beg m : Nat} (h : qe (l.drop (beg + 1)) = some m) : qEnd l beg = (beg : Int) + (m : Int) := by unfold qEnd; rw [h]
theorem qe_at_back (l : Bs) (i : Nat) (hi : i < l.length) (hc : l[i] = 92) : qe (l.drop i) = (qe (l.drop (i + 2))).map (· + 2) := by
  rw [drop_at l i hi, hc, qe_back, List.drop_drop]
theorem qe_at_other (l : Bs) (i : Nat) (hi : i < l.length) (h1 : l[i] ≠ 34) (h2 : l[i] ≠ 92) : qe (l.drop i) = (qe (l.drop (i + 1))).map (· + 1) := by
  rw [drop_at l i hi, qe_other _ h1 h2]
theorem qe_at_end (l : Bs) (i : Nat) (hi : i < l.length) (hc : l[i] = 34) : qe (l.drop i) = some 1 := by
  rw [drop_at l i hi, hc, qe_end]
theorem map_add (o : Option Nat) (a b : Nat) : (o.map (· + a)).map (· + b) = o.map (· + (a + b)) := by
  cases o <;> simp [Nat.add_assoc]
theorem byte_eq {c : UInt8} {n : Nat} (hn : n < 256) (h : c = UInt8.ofNat n) : ((c.toNat : Int) == (n : Int)) = true := by
  rw [h]; simp [Nat.mod_eq_of_lt hn]
theorem byte_ne {c : UInt8} {n : Nat} (hn : n < 256) (h : c ≠ UInt8.ofNat n) : ((c.toNat : Int) == (n : Int)) = false := by
  rw [beq_eq_false_iff_ne]; intro e; apply h; apply UInt8.toNat.inj; simp [Nat.mod_eq_of_lt hn]; omega
theorem is44 {c : UInt8} (h : c = 44) : ((c.toNat : Int) == 44) = true := byte_eq (n := 44) (by omega) h
theorem no44 {c : UInt8} (h : c ≠ 44) : ((c.toNat : Int) == 44) = false := byte_ne (n := 44) (by omega) h
theorem is34 {c : UInt8} (h : c = 34) : ((c.toNat : Int) == 34) = true := byte_eq (n := 34) (by omega) h
theorem no34 {c : UInt8} (h : c ≠ 34) : ((c.toNat : Int) == 34) = false := byte_ne (n := 34) (by omega) h
theorem is92 {c : UInt8} (h : c = 92) : ((c.toNat : Int) == 92) = true := byte_eq (n := 92) (by omega) h
theorem no92 {c : UInt8} (h : c ≠ 92) : ((c.toNat : Int) == 92) = false := byte_ne (n := 92) (by omega) h

set_option maxHeartbeats 1000000 in
theorem quoteEnd_any (b off n cap beg : Nat) (l : Bs) (w : World) (hn : l.length = n) (hl : n ≤ 4294967296) (hb : beg < n) (hc : Holds w b off l) :
    Calls Tryz.prog 110 #[.slice (some ⟨b, off, none⟩) n cap, .int .i64 (beg : Int)] w fun e w' => e = .returned (.int .i64 (qEnd l beg)) ∧ w = w' := by
  subst hn
  have HC := Lib.hid hc
  clear hc
  go_enter Tryz.func110, Tryz.ntmps110
  go_wp2_with fail
  go_loop [5] (fun v => ∃ i : Nat, beg + 1 ≤ i ∧ i ≤ l.length + 1 ∧ v = .int .i64 (i : Int) ∧ qe (l.drop (beg + 1)) = (qe (l.drop i)).map (· + (i - (beg + 1)))) (fun v => l.length + 2 - (intOf v).toNat)
  case atStart => exact ⟨beg + 1, Nat.le_refl _, by omega, by go_num, by simp⟩
  case round =>
    obtain ⟨i, hi1, hi2, rfl, hrel⟩ := hrel
    have HR := Lib.hid hrel
    clear hrel
    by_cases hlt : i < l.length
    · have hcell := HC.out i hlt
      by_cases h92 : l[i] = 92
      · have t1 := is92 h92
        have HR2 := Lib.hid (show qe (l.drop (beg + 1)) = (qe (l.drop (i + 2))).map (· + (i + 2 - (beg + 1))) from by
          rw [HR.out, qe_at_back l i hlt h92, map_add]; congr 2; funext x; omega)
        clear h92
        go_wp2_with fail
        go_round
        case rel => exact ⟨i + 2, by omega, by omega, by go_num, HR2.out⟩
        case measure => simp [intOf]; omega
      · have t1 := no92 h92
        by_cases h34 : l[i] = 34
        · have t2 := is34 h34
          have HV := Lib.hid (show qEnd l beg = (i : Int) from by
            rw [qEnd_some (m := i - beg) (by rw [HR.out, qe_at_end l i hlt h34]; simp; omega)]; omega)
          clear h92 h34
          go_wp2_with fail
          go_ret
          exact ⟨by rw [HV.out]; rfl, rfl⟩
        · have t2 := no34 h34
          have HR2 := Lib.hid (show qe (l.drop (beg + 1)) = (qe (l.drop (i + 1))).map (· + (i + 1 - (beg + 1))) from by
            rw [HR.out, qe_at_other l i hlt h34 h92, map_add]; congr 2; funext x; omega)
          clear h92 h34
          go_wp2_with fail
          go_round
          case rel => exact ⟨i + 1, by omega, by omega, by go_num, HR2.out⟩
          case measure => simp [intOf]; omega
    · have HV := Lib.hid (show qEnd l beg = -1 from by
        apply qEnd_none
        rw [HR.out, List.drop_eq_nil_of_le (by omega)]; rfl)
      go_wp2_with fail
      go_ret
      exact ⟨by rw [HV.out]; rfl, rfl⟩

/-- A text as the model has it. -/
def S (x : Bs) : Value := .string ⟨x.toArray⟩
/-- What the variables of token.Split hold: the text, the list so far, where the element begins. B: the block of the text's bytes. -/
structure Inv (w0 : World) (B : Nat) (l : Bs) (cap fr : Nat) (ls : List Bs) (C : Array Value) (w : World) : Prop where
  base : B = w0.heap.size
  text : w.heap[B]? = some (.cells C 5 (C.size, C.size + 1))
  bytes : ∀ j (hj : j < l.length), C[j]? = some (.int .u8 (l[j].toNat : Int))
  room : l.length ≤ cap
  vText : w.heap[B + 1]? = some (.cells #[.slice (some ⟨B, 0, none⟩) l.length cap] 22 (0, 0))
  vFrom : w.heap[B + 3]? = some (.cells #[.int .i64 (fr : Int)] 3 (0, 0))
  list : ∃ v, w.heap[B + 2]? = some (.cells #[v] 119 (0, 0)) ∧ w.ownsRow (B + 4) 9 1 v ls.length (ls.map S)
  few : ls.length ≤ fr
  below : Below B w0 w
theorem Inv.holds {w0 w : World} {B cap fr : Nat} {l : Bs} {ls : List Bs} {C : Array Value} (h : Inv w0 B l cap fr ls C w) : Holds w B 0 l := by
  intro j hj
  rw [Nat.zero_add]
  have : w.cell? ⟨B, j, none⟩ = C[j]? := by simp [World.cell?, h.text]
  rw [this, h.bytes j hj]
end Go.Proofs.YtcolnidgembniaaGreatDoor.Tk
/-
  The closure of token.Split that ends an element. Condition: a text of at most 2^32 bytes.
-/
namespace Go.Proofs.YtcolnidgembniaaGreatDoor.Tk
open Go.RowKit

theorem infoString : (Tryz.prog.info? 9).map (fun i => (i.zero, i.size, i.bytes)) = some (some (.string ⟨#[]⟩), 1, 16) := by kernel_rfl

/-- The part of the text that is handed til trim. -/
theorem part_holds {w : World} {B fr til : Nat} {l : Bs} (h : Holds w B 0 l) (htil : til ≤ l.length) : Holds w B fr ((l.take til).drop fr) := by
  have := h.part fr til htil
  rwa [Nat.zero_add] at this

/-- Only the place where the element begins has turned. -/
theorem Inv.moved {w0 w : World} {B cap fr til : Nat} {l : Bs} {ls : List Bs} {C : Array Value} (h : Inv w0 B l cap fr ls C w) (hf : fr ≤ til) :
    Inv w0 B l cap (til + 1) ls C (w.setCell ⟨B + 3, 0, none⟩ (.int .i64 ((til : Int) + 1))) := by
  obtain ⟨v, hv, hown⟩ := h.list
  have e : ((til : Int) + 1) = ((til + 1 : Nat) : Int) := by omega
  refine ⟨h.base, ?_, h.bytes, h.room, ?_, ?_, ⟨v, ?_, ?_⟩, ?_, h.below.setCell (by show B ≤ B + 3; omega) _⟩
  · rw [Below.heap_setCell _ _ _ _ (by show B ≠ B + 3; omega)]; exact h.text
  · rw [Below.heap_setCell _ _ _ _ (by show B + 1 ≠ B + 3; omega)]; exact h.vText
  · rw [e]; exact one_setCell h.vFrom
  · rw [Below.heap_setCell _ _ _ _ (by show B + 2 ≠ B + 3; omega)]; exact hv
  · exact ownsRow_setCell_below hown (by show B + 3 < B + 4; omega) _
  · have := h.few; omega

set_option maxHeartbeats 1000000 in
theorem end_none (w0 : World) (B cap fr til : Nat) (l : Bs) (ls : List Bs) (C : Array Value) (w : World) (h : Inv w0 B l cap fr ls C w) (hl : l.length ≤ 4294967296) (hf : fr ≤ til) (ht : til ≤ l.length) (hz : trim ((l.take til).drop fr) = []) :
    Calls Tryz.prog 108 #[.int .i64 (til : Int), .pointer (some ⟨B + 1, 0, none⟩), .pointer (some ⟨B + 3, 0, none⟩), .pointer (some ⟨B + 2, 0, none⟩)] w fun e w' => e = .returned (.tuple #[]) ∧ Inv w0 B l cap (til + 1) (fin ls ((l.take til).drop fr)) C w' := by
  have hH := part_holds (fr := fr) h.holds ht
  have cT := cell_of_one h.vText
  have cF := cell_of_one h.vFrom
  have fF := free_of_one h.vFrom
  have hroom := h.room
  have HH := Lib.hid hH
  have HL := Lib.hid (part_length l fr til ht)
  have HZ := Lib.hid hz
  have HI := Lib.hid (h.moved hf)
  have HE := Lib.hid (show fin ls ((l.take til).drop fr) = ls from by unfold fin; rw [if_pos hz])
  clear hH hz h
  by_cases he : fr < til
  · go_enter Tryz.func108, Tryz.ntmps108
    go_wp2_with fail
    refine (trimSlice_at B fr (til - fr) (til - fr) _ w HL.out (by unfold maxLen; omega) (Nat.le_refl _) HH.out).mono ?_
    rintro e w' ⟨⟨off', rfl, -⟩, rfl⟩
    rw [HZ.out]
    go_wp2_with fail
    go_end0
    exact ⟨rfl, by rw [HE.out]; exact HI.out⟩
  · obtain rfl : fr = til := by omega
    go_enter Tryz.func108, Tryz.ntmps108
    go_wp2_with fail
    refine (trimSlice_at B 0 0 0 [] w rfl (by unfold maxLen; omega) (Nat.le_refl _) (Holds.nil _ _ _)).mono ?_
    rintro e w' ⟨⟨off', rfl, -⟩, rfl⟩
    rw [show trim [] = [] from rfl]
    go_wp2_with fail
    go_end0
    exact ⟨rfl, by rw [HE.out]; exact HI.out⟩

/-- Behind the append, and the stores of the list and of the place. -/
theorem Inv.grown {w0 w w1 : World} {B cap fr til : Nat} {l : Bs} {ls : List Bs} {C : Array Value} {x : Bs} {v v' : Value} (h : Inv w0 B l cap fr ls C w) (hf : fr ≤ til)
    (hv : w.heap[B + 2]? = some (.cells #[v] 119 (0, 0))) (hown : w.ownsRow (B + 4) 9 1 v ls.length (ls.map S))
    (hown' : w1.ownsRow (B + 4) 9 1 v' (ls.length + 1) (ls.map S ++ [S x])) (hg : (w.alloc (.cells #[S x] 9)).grownBy w1 v.ownBlock) :
    (∃ u, w1.cell? ⟨B + 2, 0, none⟩ = some u) ∧ w1.frozen? ⟨B + 2, 0, none⟩ = false ∧ (w1.setCell ⟨B + 2, 0, none⟩ v').cell? ⟨B + 3, 0, none⟩ = some (.int .i64 (fr : Int)) ∧ (w1.setCell ⟨B + 2, 0, none⟩ v').frozen? ⟨B + 3, 0, none⟩ = false ∧
    Inv w0 B l cap (til + 1) (ls ++ [x]) C ((w1.setCell ⟨B + 2, 0, none⟩ v').setCell ⟨B + 3, 0, none⟩ (.int .i64 ((til : Int) + 1))) := by
  have hrow : ∀ k, k < B + 4 → some k ≠ v.ownBlock := fun k hk e => by have := (hown.lt k e.symm).1; omega
  have hlt : B + 3 < w.heap.size := lt_of_block h.vFrom
  have hb : ∀ k, k < B + 4 → w1.heap[k]? = w.heap[k]? := fun k hk => by
    rw [hg.block k (by rw [World.size_alloc]; omega) (hrow k hk), Below.heap_alloc _ _ _ (by omega)]
  have bl : Below B w0 w1 := (h.below.alloc (by omega) _).grown hg (by rw [World.size_alloc]; omega) (fun k hk => by have := (hown.lt k hk).1; omega)
  have v2 := (hb (B + 2) (by omega)).trans hv
  have v3 := (hb (B + 3) (by omega)).trans h.vFrom
  have v3' : (w1.setCell ⟨B + 2, 0, none⟩ v').heap[B + 3]? = some (.cells #[.int .i64 (fr : Int)] 3 (0, 0)) := by
    rw [Below.heap_setCell _ _ _ _ (by show B + 3 ≠ B + 2; omega)]; exact v3
  have hI : Inv w0 B l cap fr (ls ++ [x]) C (w1.setCell ⟨B + 2, 0, none⟩ v') → Inv w0 B l cap (til + 1) (ls ++ [x]) C ((w1.setCell ⟨B + 2, 0, none⟩ v').setCell ⟨B + 3, 0, none⟩ (.int .i64 ((til : Int) + 1))) := fun hh => hh.moved hf
  refine ⟨⟨_, cell_of_one v2⟩, free_of_one v2, cell_of_one v3', free_of_one v3', ?_⟩
  have e : ((til : Int) + 1) = ((til + 1 : Nat) : Int) := by omega
  refine ⟨h.base, ?_, h.bytes, h.room, ?_, ?_, ⟨v', ?_, ?_⟩, ?_, (bl.setCell (by show B ≤ B + 2; omega) _).setCell (by show B ≤ B + 3; omega) _⟩
  · rw [Below.heap_setCell _ _ _ _ (by show B ≠ B + 3; omega), Below.heap_setCell _ _ _ _ (by show B ≠ B + 2; omega), hb B (by omega)]; exact h.text
  · rw [Below.heap_setCell _ _ _ _ (by show B + 1 ≠ B + 3; omega), Below.heap_setCell _ _ _ _ (by show B + 1 ≠ B + 2; omega), hb (B + 1) (by omega)]; exact h.vText
  · rw [e]; exact one_setCell v3'
  · rw [Below.heap_setCell _ _ _ _ (by show B + 2 ≠ B + 3; omega)]; exact one_setCell v2
  · have := ownsRow_setCell_below (ownsRow_setCell_below hown' (a := ⟨B + 2, 0, none⟩) (by show B + 2 < B + 4; omega) v') (a := ⟨B + 3, 0, none⟩) (by show B + 3 < B + 4; omega) (.int .i64 ((til : Int) + 1))
    simpa using this
  · have := h.few; simp; omega

theorem owns_shape {w : World} {base : Nat} {e : TypeId} {size : Nat} {v : Value} {n : Nat} {xs : List Value} (h : w.ownsRow base e size v n xs) (hn : 0 < n) : ∃ g cap, v = .slice (some ⟨g, 0, none⟩) n cap := by
  rcases h.2 with ⟨_, h0⟩ | ⟨g, cap, _, hv, _⟩
  · omega
  · exact ⟨g, cap, hv⟩

set_option maxHeartbeats 1000000 in
theorem end_some (w0 : World) (B cap fr til : Nat) (l : Bs) (ls : List Bs) (C : Array Value) (w : World) (h : Inv w0 B l cap fr ls C w) (hl : l.length ≤ 4294967296) (hf : fr ≤ til) (ht : til ≤ l.length) (hz : trim ((l.take til).drop fr) ≠ []) :
    Calls Tryz.prog 108 #[.int .i64 (til : Int), .pointer (some ⟨B + 1, 0, none⟩), .pointer (some ⟨B + 3, 0, none⟩), .pointer (some ⟨B + 2, 0, none⟩)] w fun e w' => e = .returned (.tuple #[]) ∧ Inv w0 B l cap (til + 1) (fin ls ((l.take til).drop fr)) C w' := by
  have hH := part_holds (fr := fr) h.holds ht
  have cT := cell_of_one h.vText
  have cF := cell_of_one h.vFrom
  have fF := free_of_one h.vFrom
  have hroom := h.room
  obtain ⟨v, hv, hown⟩ := h.list
  have cL := cell_of_one hv
  have fL := free_of_one hv
  have hlt : B + 3 < w.heap.size := lt_of_block h.vFrom
  have hfew := h.few
  have HH := Lib.hid hH
  have HL := Lib.hid (part_length l fr til ht)
  have HI := Lib.hid h
  have HV := Lib.hid hv
  have HE := Lib.hid (show fin ls ((l.take til).drop fr) = ls ++ [trim ((l.take til).drop fr)] from by unfold fin; rw [if_neg hz])
  have hpos : 0 < (trim ((l.take til).drop fr)).length := List.length_pos_iff.2 hz
  have he : fr < til := by
    have h1 := trim_length ((l.take til).drop fr)
    rw [HL.out] at h1; omega
  clear hH hz h hv
  obtain ⟨x, hx⟩ : ∃ x, x = trim ((l.take til).drop fr) := ⟨_, rfl⟩
  rw [← hx] at hpos HE
  have HX := Lib.hid hx
  clear hx
  obtain ⟨i0, hi, hz0, hz1, hz2⟩ := info_parts infoString
  go_enter Tryz.func108, Tryz.ntmps108
  go_wp2_with fail
  refine (trimSlice_at B fr (til - fr) (til - fr) _ w HL.out (by unfold maxLen; omega) (Nat.le_refl _) HH.out).mono ?_
  rintro e w' ⟨⟨off', rfl, hh⟩, rfl⟩
  rw [← HX.out]
  rw [← HX.out] at hh
  have hback := run_back (P := Tryz.prog) w 22 9 5 B off' x.length x Tryz.underlying22 Tryz.underlying5 Tryz.underlying9 hh
  clear hh
  go_wp2_with (at_builtin; refine wpList_append_own _ rfl _ _ 119 rfl (B + 4) 9 i0 (.string ⟨#[]⟩) 1 16 Tryz.underlying119 hi hz0 hz1 hz2 rfl (by decide) _ _ _ rfl (hown.alloc _) ⟨w.heap.size, 0, none⟩ 1 1 [S x] rfl rfl ?c1 ?c2 ?c3 ?c4 ?c5 ?_)
  case c1 =>
    intro j u hj
    match j, hj with
    | 0, hj => simp at hj; subst hj; simp [Addr.add, S]
  case c2 => intro u hu; simp at hu; subst hu; rfl
  case c3 => unfold maxLen; omega
  case c4 => omega
  case c5 => simp; omega
  · intro v' w1 hown' hgrow _
    obtain ⟨⟨u, g1⟩, g2, g3, g4, g5⟩ := HI.out.grown hf HV.out hown hown' hgrow
    have HG := Lib.hid g5
    obtain ⟨g, cap', hv'⟩ := owns_shape hown' (by omega)
    clear g5 hown' hgrow
    rw [hv']
    rw [hv'] at g3 g4 HG
    clear hv'
    go_wp2_with fail
    go_end0
    exact ⟨rfl, by rw [HE.out]; exact HG.out⟩

/-- The closure, whatever the element. -/
theorem end_any (w0 : World) (B cap fr til : Nat) (l : Bs) (ls : List Bs) (C : Array Value) (w : World) (h : Inv w0 B l cap fr ls C w) (hl : l.length ≤ 4294967296) (hf : fr ≤ til) (ht : til ≤ l.length) :
    Calls Tryz.prog 108 #[.int .i64 (til : Int), .pointer (some ⟨B + 1, 0, none⟩), .pointer (some ⟨B + 3, 0, none⟩), .pointer (some ⟨B + 2, 0, none⟩)] w fun e w' => e = .returned (.tuple #[]) ∧ Inv w0 B l cap (til + 1) (fin ls ((l.take til).drop fr)) C w' := by
  by_cases hz : trim ((l.take til).drop fr) = []
  · exact end_none w0 B cap fr til l ls C w h hl hf ht hz
  · exact end_some w0 B cap fr til l ls C w h hl hf ht hz
end Go.Proofs.YtcolnidgembniaaGreatDoor.Tk
