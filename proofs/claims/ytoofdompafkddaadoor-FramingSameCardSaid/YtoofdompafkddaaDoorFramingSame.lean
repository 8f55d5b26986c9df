/-
  FramingSame: a length that is told several times is one, if it is the same; two unlike ones are none, nor one beside chunks.
  Conditions: the listed tables hold what the program's text lays (the card ties them).
-/
import Derived.Deep.DeepCutAuto
import Derived.Deep.RegionWith
import Derived.Test.YtoofdompafkddaaDoorTabs
import Derived.Test.YtoofdompafkddaaDoorFdOpen
import Derived.SizedLaws
import Derived.Carry
import Derived.Test.YtoofdompafkddaaDoorFrDec
import Derived.Test.YtoofdompafkddaaDoorHdMask
import Derived.Test.YtoofdompafkddaaDoorFrOf
import Derived.WideKeyPair
import Derived.Deep.DeepWitnessRowRef
namespace Go.Proofs.YtoofdompafkddaaDoor.framingSame
open Go.ChangeShapes Go.WideShapes Go.ChangeAt Go.RowKit
open Go.ChangeMaps (open_string shut_string)
set_option linter.unusedVariables false

open Go.Proofs.YtoofdompafkddaaDoor.Hd Go.Proofs.YtoofdompafkddaaDoor.Fd Go.Proofs.YtoofdompafkddaaDoor.Tk Go.Proofs.YtoofdompafkddaaDoor.Fr

def SameAt (w : World) (n m : Nat) (s7 : Value) (wx : World) : Prop := ∃ fs, SameF n m fs ∧ OwnF wx w.heap.size s7 fs ∧ Below w.heap.size w wx
theorem te_cells : ∀ u ∈ [Value.string ⟨#[84, 114, 97, 110, 115, 102, 101, 114, 45, 69, 110, 99, 111, 100, 105, 110, 103]⟩, Value.string ⟨#[99, 104, 117, 110, 107, 101, 100]⟩], u.oneCell' = true := by intro u hu; simp at hu; rcases hu with rfl | rfl <;> rfl
theorem TriPost.names {R : Int × Int × Int} {w : World} {e : Ending} {w' : World} (h : TriPost R w e w') : ∃ x y z, R = (x, y, z) ∧ e = .returned (.tuple #[.int .i64 x, .int .i64 y, .int .i64 z]) ∧ Below w.heap.size w w' := ⟨_, _, _, rfl, h⟩
theorem own_two (W : World) (base : Nat) (a b c d : ByteArray) (h : base ≤ W.heap.size) : OwnF (W.alloc (.cells #[.string a, .string b, .string c, .string d] 56)) base (.slice (some ⟨W.heap.size, 0, none⟩) 2 2) [(a, b), (c, d)] :=
  World.ownsRow_lit (base := base) (e := 56) (size := 2) W #[.string a, .string b, .string c, .string d] 2 h (by unfold maxLen; omega) rfl
theorem own_one (W : World) (base g : Nat) (a b : ByteArray) (h : base ≤ W.heap.size) (hg : W.heap.size = g) : OwnF (W.alloc (.cells #[.string a, .string b] 56)) base (.slice (some ⟨g, 0, none⟩) 1 1) [(a, b)] := by
  subst hg
  exact World.ownsRow_lit (base := base) (e := 56) (size := 2) W #[.string a, .string b] 1 h (by unfold maxLen; omega) rfl
set_option maxHeartbeats 16000000 in
set_option maxRecDepth 100000 in
theorem walk (a0 : Int) (w0 : (Lit.int .i64 a0).wf = true) (a1 : Int) (w1 : (Lit.int .i64 a1).wf = true) (a2 : Int) (w2 : (Lit.int .i64 a2).wf = true) (w : World) (hT : Tk.Tab w) :
    Calls Tryd.prog 13 #[.int .i64 a0, .int .i64 a1, .int .i64 a2] w fun e w' => e = .returned (.bool true) ∧ Below w.heap.size w w' := by
  obtain ⟨n, hn, hn2⟩ := mask_nat a0 2097151 (by omega)
  obtain ⟨m, hm, hm2⟩ := mask_nat a1 2097151 (by omega)
  obtain ⟨d, hd, hd2⟩ := mask_nat a2 1 (by omega)
  have hn' : bits BinOp.and IntKind.i64 a0 2097151 = (n : Int) := hn
  have hm' : bits BinOp.and IntKind.i64 a1 2097151 = (m : Int) := hm
  have hd' : bits BinOp.and IntKind.i64 a2 1 = (d : Int) := hd
  have HT := Lib.hid hT
  have htl := hT.lt
  obtain ⟨i0, hi, hz0, hz1, hz2⟩ := info_parts Fd.infoField
  obtain ⟨_, _, _, l1, _⟩ := decL_all 6 n (by omega)
  obtain ⟨_, _, _, l2, _⟩ := decL_all 6 m (by omega)
  have HE := Lib.hid (dec_text (decL n) [44, 32, 48])
  have HE2 := Lib.hid (dec_text (decL n ++ [44, 32, 48]) (decL m))
  have HS2 := Lib.hid (same_two (n := n) (m := m) (by omega) (by omega))
  have HS1 := Lib.hid (same_one (n := n) (m := m) (by omega) (by omega))
  have HNn := Lib.hid (fun W => number_any 6 n W (by omega) (by omega))
  have HNm := Lib.hid (fun W => number_any 6 m W (by omega) (by omega))
  unfold twoF at HS2
  unfold oneF at HS1
  obtain ⟨A, hA⟩ : ∃ A : ByteArray, A = ⟨(decL n).toArray⟩ := ⟨_, rfl⟩
  obtain ⟨B, hB⟩ : ∃ B : ByteArray, B = ⟨(decL m).toArray⟩ := ⟨_, rfl⟩
  have hAs : A.size ≤ 10 := by rw [hA, mk_size]; omega
  have hBs : B.size ≤ 10 := by rw [hB, mk_size]; omega
  have HQ := Lib.hid (show A ++ ⟨#[44, 32, 48]⟩ ++ B = ⟨(decL n ++ [44, 32, 48] ++ decL m).toArray⟩ from by rw [hA, hB, ← HE2.out, ← HE.out])
  rw [← HQ.out] at HS1
  rw [← hA, ← hB] at HS2
  rw [← hA] at HNn
  rw [← hB] at HNm
  clear HQ HE HE2 hA hB l1 l2 hn hm hd hT w0 w1 w2
  go_enter Tryd.func13, Tryd.ntmps13
  go_wp2_with fail
  refine (HNn.out _).mono ?_
  rintro e w1 ⟨rfl, rfl⟩
  go_wp2_with fail
  refine (HNm.out _).mono ?_
  rintro e w2 ⟨rfl, rfl⟩
  go_upto_if 27 with fail
  go_cut [7] (fun s7 wx => SameAt w n m s7 wx)
  case first =>
    by_cases hw : ((d : Int) = 1)
    · go_wp2_with fail
      refine (HNn.out _).mono ?_
      rintro e w1 ⟨rfl, rfl⟩
      go_wp2_with fail
      refine (HNm.out _).mono ?_
      rintro e w2 ⟨rfl, rfl⟩
      go_wp2_with fail
      go_meet
      refine ⟨_, HS1.out, own_one _ _ _ _ _ ?_ ?_, ((Below.refl _ _).alloc (Nat.le_refl _) _).alloc ?_ _⟩ <;> simp
    · go_wp2_with fail
      go_meet
      exact ⟨_, HS2.out, own_two _ _ _ _ _ _ (Nat.le_refl _), (Below.refl _ _).alloc (Nat.le_refl _) _⟩
  case rest =>
    obtain ⟨fs, hS, hO, hb⟩ := hcut
    obtain ⟨sa, sc, rfl⟩ := hO.form
    obtain ⟨hs1, hs2, hs3, hs4, hs5⟩ := hS
    have HO := Lib.hid hO
    have HB := Lib.hid hb
    have hsz : w.heap.size ≤ wc.heap.size := hb.size
    have H1 := Lib.hid hs1
    have H2 := Lib.hid hs2
    have hta := Lib.hid (Fd.tot_append fs [teF])
    have HL := Lib.hid (show (fs ++ [teF]).length = fs.length + 1 from by simp)
    have HTT := Lib.hid (show tot [teF] = 25 from by decide +kernel)
    clear hO hb hs1 hs2 hs5 HS1 HS2
    go_wp2_with fail
    refine (ofRequest_any ⟨#[]⟩ ⟨#[]⟩ 1 _ fs wc HO.out.flds (by omega) (HT.out.below HB.out htl)).mono ?_
    intro e x1 hp
    rw [H1.out] at hp
    obtain ⟨R1, R2, R3, hR, rfl, hb1⟩ := TriPost.names hp
    have HR := Lib.hid hR
    have HB1 := Lib.hid (HB.out.trans (hb1.mono hsz))
    have HO1 := Lib.hid (HO.out.kept hb1)
    have hsz1 : w.heap.size ≤ x1.heap.size := HB1.out.size
    clear hp hR hb1 HO HB H1
    have HNW := Lib.hid (Fd.news_at (Fd.new_block x1 (.cells #[.string ⟨#[84, 114, 97, 110, 115, 102, 101, 114, 45, 69, 110, 99, 111, 100, 105, 110, 103]⟩, .string ⟨#[99, 104, 117, 110, 107, 101, 100]⟩] 56)))
    have HBA := Lib.hid ((Below.refl x1.heap.size x1).alloc (Nat.le_refl _) (.cells #[.string ⟨#[84, 114, 97, 110, 115, 102, 101, 114, 45, 69, 110, 99, 111, 100, 105, 110, 103]⟩, .string ⟨#[99, 104, 117, 110, 107, 101, 100]⟩] 56))
    have HO2 := Lib.hid (Fd.owns_kept HO1.out HBA.out)
    have HB2 := Lib.hid (HB1.out.trans (HBA.out.mono hsz1))
    go_wp2_with (at_builtin; go_loud (refine wpList_append_own _ rfl _ _ 27 rfl w.heap.size 56 i0 (.agg #[.string ⟨#[]⟩, .string ⟨#[]⟩]) 2 32 Tryd.underlying27 hi hz0 hz1 hz2 rfl (by decide) _ _ _ rfl HO2.out ⟨x1.heap.size, 0, none⟩ 1 1 [.string ⟨#[84, 114, 97, 110, 115, 102, 101, 114, 45, 69, 110, 99, 111, 100, 105, 110, 103]⟩, .string ⟨#[99, 104, 117, 110, 107, 101, 100]⟩] rfl rfl HNW.out te_cells (by unfold maxLen; omega) (by omega) (by simp; omega) ?_; intro v1 w1 hown1 hgrow1 hnil1; have HO3 := Lib.hid (show Fd.OwnF w1 w.heap.size v1 (fs ++ [teF]) from by unfold Fd.OwnF; rw [show Fd.flat (fs ++ [teF]) = Fd.flat fs ++ [.string ⟨#[84, 114, 97, 110, 115, 102, 101, 114, 45, 69, 110, 99, 111, 100, 105, 110, 103]⟩, .string ⟨#[99, 104, 117, 110, 107, 101, 100]⟩] from Fd.flat_snoc fs teF, List.length_append]; exact hown1); have HB3 := Lib.hid (HB2.out.grown hgrow1 HB2.out.size (fun k hk => (World.ownsRow.lt HO2.out k hk).1)); clear hown1 hgrow1 hnil1; have hsz3 : w.heap.size ≤ w1.heap.size := HB3.out.size; obtain ⟨va, vc, hv⟩ := HO3.out.form; rw [HL.out] at hv; subst hv))
    refine (ofRequest_any ⟨#[]⟩ ⟨#[]⟩ 1 _ (fs ++ [teF]) _ HO3.out.flds (by rw [hta.out, HTT.out]; omega) (HT.out.below HB3.out htl)).mono ?_
    intro e x4 hp
    rw [H2.out] at hp
    obtain ⟨rfl, hb4⟩ := hp
    have HB4 := Lib.hid (HB3.out.trans (hb4.mono hsz3))
    clear hb4
    by_cases hnm : n = m
    · subst hnm
      by_cases hbg : 1048576 < n
      · have hX : R3 = 3 := by have h := HR.out; unfold lenS at h; rw [if_neg (fun h => h rfl), if_pos hbg] at h; injection h with _ h; injection h with _ h; exact h.symm
        subst hX
        go_wp2_with fail
        go_ret
        exact ⟨rfl, HB4.out⟩
      · have hR := HR.out
        unfold lenS at hR
        rw [if_neg (fun h => h rfl), if_neg hbg] at hR
        injection hR with h1 h2
        injection h2 with h2 h3
        subst h1 h2 h3
        have e1 : ((n : Int) == (n : Int)) = true := by simp
        clear HR
        go_wp2_with fail
        go_ret
        exact ⟨rfl, HB4.out⟩
    · have hX : R3 = 32 := by have h := HR.out; unfold lenS at h; rw [if_pos hnm] at h; injection h with _ h; injection h with _ h; exact h.symm
      subst hX
      have hne : ((n : Int) ≠ (m : Int)) := by omega
      go_wp2_with fail
      go_ret
      exact ⟨rfl, HB4.out⟩

set_option maxHeartbeats 2000000 in
set_option maxRecDepth 100000 in
theorem contract (H : Type) (enc : TypeId × Value → H) (W : World) (base : Nat) (args : Array Value) (ds gs : List (DataW H)) (before : List MemPlace)
    (hval : ∀ (j : Nat) t v, Tryd.f13.params[j]? = some t → args[j]? = some v → Value.okWide Tryd.prog W .any base t v)
    (hW : DataW.Whole enc Tryd.prog Tryd.f13.params.toList Rows.framingSameSpec.vars false W args.toList ds gs before) (ts : List TypeId) (hsz : (DataW.weightsEach Tryd.prog (Tryd.f13.params.toList ++ ts) (ds ++ gs)).all (· ≤ reachBytes) = true) (hL : laidMetH Tryd.prog Rows.framingSameRow.laid W) :
    Calls Tryd.prog 13 args W fun e W' => ∃ v, e = .returned v ∧ Rows.framingSameSpec.post enc Tryd.prog Tryd.f13 false true false false W args v W' := by
  have hW' := hW
  obtain ⟨p, q, hA0, hV, rfl, hfz, hnd⟩ := hW
  have hA : DataW.TrodAll enc Tryd.prog W 0 (fun _ => true) true Tryd.f13.params.toList args.toList ds p := hA0
  rw [Tryd.params13] at hA hval hsz
  obtain ⟨v0, vs0, d0, ds0, p0, q0, hargs, rfl, rfl, h0, r0⟩ := trodAll_cons hA
  obtain ⟨v1, vs1, d1, ds1, p1, q1, rfl, rfl, rfl, h1, r1⟩ := trodAll_cons r0
  obtain ⟨v2, vs2, d2, ds2, p2, q2, rfl, rfl, rfl, h2, r2⟩ := trodAll_cons r1
  obtain ⟨rfl, rfl, rfl⟩ := trodAll_nil r2
  obtain rfl : args = #[v0, v1, v2] := by cases args; simp_all
  obtain ⟨rfl, rfl⟩ := trodVars_none hV
  obtain ⟨a0, rfl, rfl, rfl, w0⟩ := open_int Tryd.underlying3 (hval 0 3 v0 rfl rfl) h0
  obtain ⟨a1, rfl, rfl, rfl, w1⟩ := open_int Tryd.underlying3 (hval 1 3 v1 rfl rfl) h1
  obtain ⟨a2, rfl, rfl, rfl, w2⟩ := open_int Tryd.underlying3 (hval 2 3 v2 rfl rfl) h2
  clear hA0
  simp only [List.append_nil] at hW'
  refine (walk a0 w0 a1 w1 a2 w2 W (Tb.tok_of_head hL)).mono fun e W' ⟨he, bel⟩ => ?_
  subst he
  exact ⟨_, rfl, _, _, _, [], _, [], hW', trodAll_mk1 (shut_bool Tryd.underlying4 _), (trodAll_cons_mk (shut_int Tryd.underlying3 w0) (trodAll_cons_mk (shut_int Tryd.underlying3 w1) (trodAll_cons_mk (shut_int Tryd.underlying3 w2) trodAll_mk0))), rfl, bel.frame _, fun h => by cases h⟩

theorem laid_met (os : Os) : laidMet Tryd.prog Rows.framingSameRow.laid ((Tb.laidWorld os).forCall (fun _ _ => 0) ⟨#[], #[.int .i64 0, .int .i64 0, .int .i64 0], []⟩).memory :=
  laidMet_of_run' 8 (by kernel_rfl) (by kernel_rfl)
theorem reads (os : Os) {H : Type} (enc : TypeId × Value → H) : ∃ places, DataW.whole enc Tryd.prog ((Tb.laidWorld os).forCall (fun _ _ => 0) ⟨#[], #[.int .i64 0, .int .i64 0, .int .i64 0], []⟩).memory Tryd.f13.params.toList Rows.framingSameSpec.vars false (#[.int .i64 0, .int .i64 0, .int .i64 0] : Array Value).toList 8 = some ([.lit (.int .i64 0), .lit (.int .i64 0), .lit (.int .i64 0)], [], places) :=
  ⟨[], by kernel_rfl⟩

set_option maxRecDepth 100000 in
theorem lifted (os : Os) (started : os.Started) (H : Type) (enc : TypeId × Value → H) (F : Stop.Interp) :
    ReturnsInHanded {} Tryd.checked os 13 .any ((OpenSpec.ofChange Rows.framingSameSpec).preRow enc Tryd.prog Tryd.f13 Rows.framingSameRow.domain false Rows.framingSameRow.laid) (((OpenSpec.ofChange Rows.framingSameSpec).at F).post enc Tryd.prog Tryd.f13 false true false false) := by
  obtain ⟨places, hx⟩ := reads os enc
  refine returnsInHanded_of_row (C := Tryd.checked) (s := OpenSpec.ofChange Rows.framingSameSpec) Tb.own started (by kernel_rfl) Tryd.func13
    (witness_row_atRef (enc := enc) (C := Tryd.checked) false (Tb.laidWorld os) #[.int .i64 0, .int .i64 0, .int .i64 0] rfl (by kernel_rfl) (by kernel_rfl) (by kernel_rfl)
      (OpenSpec.preRow_of_cond 8 hx (by kernel_rfl) (fun k hk => by cases hk) (by kernel_rfl) (laid_met os))) ?_
  intro W base args ds gs before hval hW _ _ hsz hL _ _
  exact contract H enc W base args ds gs before hval hW _ hsz hL

theorem said : Rows.FramingSameSaid :=
  OpenClaim.holds_of_cond 13 Tryd.f13 rfl rfl rfl rfl rfl rfl rfl ⟨rfl, rfl, rfl, rfl, rfl⟩ rfl rfl rfl rfl rfl (by kernel_rfl) Tryd.func13 (by kernel_rfl)
    (of_decide_eq_true (by kernel_rfl)) (by unfold Func.isWrapper; first | (rw [if_pos (by decide +kernel)]; kernel_rfl) | (rw [if_neg (by decide +kernel)]; exact ⟨rfl, rfl⟩))
    (fun os started H enc _ F => by rw [OpenClaim.pre_eq_preRow]; exact lifted os started H enc F)

set_option maxRecDepth 100000 in
theorem plain (f : FuncId) (fn : Func) (hf : Tryd.pinned.checked.prog.funcNamed "gatepost/gatepostlaw06.FramingSame" = some f) (hfn : Tryd.pinned.checked.prog.funcs[f]? = some fn) :
    true = Tryd.pinned.checked.prog.looks [] ∧ ∀ (j : Nat) t, fn.params[j]? = some t → Tryd.pinned.checked.prog.wantsStandIn t = false := by
  obtain rfl : f = 13 := Option.some.inj ((show Tryd.prog.funcNamed "gatepost/gatepostlaw06.FramingSame" = some 13 by kernel_rfl).symm.trans hf) |>.symm
  obtain rfl : fn = Tryd.f13 := (Option.some.inj (Tryd.func13.symm.trans hfn)).symm
  refine ⟨by kernel_rfl, fun j t ht => ?_⟩
  rw [Tryd.params13] at ht
  have hm := Array.mem_of_getElem? ht
  simp at hm
  subst hm
  exact (show Tryd.prog.wantsStandIn 3 = false by kernel_rfl)

theorem card : Rows.FramingSameCardSaid :=
  Claim7.holds_tied_plain_at .later [] _ _ _ _ said (fun _ h => by cases h) (by kernel_rfl) (fun _ h => by cases h) framingSame_row_tie rfl ⟨rfl, rfl⟩ (by kernel_rfl) rfl plain (by kernel_rfl)
end Go.Proofs.YtoofdompafkddaaDoor.framingSame
