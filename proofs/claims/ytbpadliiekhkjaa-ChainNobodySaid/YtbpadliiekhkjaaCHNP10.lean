/-
  Texts that the laws' proofs stand on, 3 of them in one file; each one's head says what it proves and under which condition.
-/
import Derived.Test.YtbpadliiekhkjaaCHNP9
import Derived.Test.YtbpadliiekhkjaaCHNP7
import Derived.Test.YtbpadliiekhkjaaCHNP8
import Derived.Deep.DeepCutAuto
import Derived.Deep.RegionWith
/-
  The program's Hold and Drop, the arena's blocks in a set. Condition: the arena and the plain one are related ahead.
-/
namespace Go.Proofs.Ytbpadliiekhkjaa.So
open Go.RowKit Go.Proofs.Ytbpadliiekhkjaa.Fd Go.Proofs.Ytbpadliiekhkjaa.Sl
set_option maxRecDepth 100000
set_option linter.unusedVariables false
set_option linter.unusedSimpArgs false

set_option maxHeartbeats 4000000 in
theorem phold_any {O : Nat → Prop} {p : Nat} {n : Nat → Nat} {A : Ar} {G : Nat} (c i g : Int) (w : World) (h : PRel w O p n A G) :
    Calls Try.prog 39 #[.pointer (some ⟨p, 0, none⟩), .agg #[.int .i64 c, .int .i64 i, .int .i64 g]] w (DoneP O p n (holdA A (c, i, g)) G w) := by
  obtain ⟨gs, Q, M, hP, hG⟩ := h.it
  have hB1 := (Below.refl w.heap.size w).alloc (Nat.le_refl _) (.cells #[.int .i64 c, .int .i64 i, .int .i64 g] 78)
  have HR := Lib.hid (pright_any c i g _ (hP.same hB1).toSl hG.aged h.few)
  rcases right_ways (A := A) gs c i g with ⟨h1, h2⟩ | ⟨c, i, b, rfl, rfl, c4, hb, hh, rfl, h1, h2⟩
  · have HV := Lib.hid (show holdA A (c, i, g) = (15, A) from by unfold holdA; rw [h1])
    have HH := Lib.hid h
    rw [h2] at HR
    clear h1 h2 hP hG h
    go_enter Try.func39, Try.ntmps39
    go_wp2_with fail
    refine HR.out.mono ?_
    rintro e w2 ⟨rfl, hb2⟩
    have HB := Lib.hid (Bl.next hB1 hb2)
    clear hb2 hB1 HR
    go_wp2_with fail
    go_ret
    exact ⟨by rw [HV.out]; rfl, by rw [HV.out]; exact HH.out.same HB.out, Tn.of_below HB.out⟩
  · obtain ⟨hsm1, hsm2⟩ := hG.small c i b c4 hb
    have hgl := hP.ltG c4
    rw [h2] at HR
    by_cases hbig : b.held = 1048576
    · have HV := Lib.hid (show holdA A ((c : Int), (i : Int), (b.gen : Int)) = (3, A) from by unfold holdA; rw [h1]; show (if _ then _ else _) = _; rw [if_pos hbig])
      have HH := Lib.hid h
      have d3 := (hP.cell c4 hb (t := 3) (by decide)).1
      replace d3 : w.cell? ⟨gs c, i * 5 + 3, none⟩ = some (.int .i64 (b.held : Int)) := d3
      have be : ((b.held : Int) == 1048576) = true := by rw [hbig]; rfl
      clear h1 h2 hP hG h hb hh hbig hsm1 hsm2
      go_enter Try.func39, Try.ntmps39
      go_wp2_with fail
      refine HR.out.mono ?_
      rintro e w2 ⟨rfl, hb2⟩
      have hB2 := Bl.next hB1 hb2
      replace d3 := (hB2.cell (p := ⟨gs c, i * 5 + 3, none⟩) hgl).trans d3
      have HB := Lib.hid hB2
      clear hb2 hB1 HR hB2
      go_wp2_with fail
      go_ret
      exact ⟨by rw [HV.out]; rfl, by rw [HV.out]; exact HH.out.same HB.out, Tn.of_below HB.out⟩
    · have HV := Lib.hid (show holdA A ((c : Int), (i : Int), (b.gen : Int)) = (0, upd A c ((A c).set i { b with held := b.held + 1 })) from by unfold holdA; rw [h1]; show (if _ then _ else _) = _; rw [if_neg hbig]; rfl)
      have HF := Lib.hid (show ∀ W : World, PAt W O p n gs Q M (upd A c ((A c).set i { b with held := b.held + 1 })) → PRel W O p n (upd A c ((A c).set i { b with held := b.held + 1 })) G from fun W hW =>
        ⟨⟨gs, Q, M, hW, hG.put (fun _ _ _ => rfl) (fun _ _ _ => rfl) (Nat.le_refl _) (fun _ => hG.busy c i b c4 hb hh) (fun q => absurd q (Nat.succ_ne_zero _)) ⟨hsm1, by show b.held + 1 ≤ _; omega⟩⟩, h.few, h.small⟩)
      have HP := Lib.hid hP
      have HHb := Lib.hid hb
      have be : ((b.held : Int) == 1048576) = false := by rw [beq_eq_false_iff_ne]; omega
      have bi : (b.held : Int) ≤ 1048575 := by omega
      clear h1 h2 hG h hb hh hbig hsm1 hsm2 hP
      go_enter Try.func39, Try.ntmps39
      go_wp2_with fail
      refine HR.out.mono ?_
      rintro e w2 ⟨rfl, hb2⟩
      have hB2 := Bl.next hB1 hb2
      have hP2 := HP.out.same hB2
      obtain ⟨d3, f3⟩ := hP2.cell c4 HHb.out (t := 3) (by decide)
      replace d3 : w2.cell? ⟨gs c, i * 5 + 3, none⟩ = some (.int .i64 (b.held : Int)) := d3
      have HS := Lib.hid (hP2.setHeld c4 HHb.out (b.held + 1))
      have HB := Lib.hid hB2
      clear hb2 hB1 HR hB2 hP2
      go_wp2_with fail
      go_ret
      exact ⟨by rw [HV.out]; rfl, by rw [HV.out]; exact HF.out _ HS.out.1, (Tn.of_below HB.out).trans HS.out.2⟩
set_option maxHeartbeats 4000000 in
theorem pdrop_any {O : Nat → Prop} {p : Nat} {n : Nat → Nat} {A : Ar} {G : Nat} (c i g : Int) (w : World) (h : PRel w O p n A G) :
    Calls Try.prog 51 #[.pointer (some ⟨p, 0, none⟩), .agg #[.int .i64 c, .int .i64 i, .int .i64 g]] w (DoneP O p n (dropA A (c, i, g)) G w) := by
  obtain ⟨gs, Q, M, hP, hG⟩ := h.it
  have hB1 := (Below.refl w.heap.size w).alloc (Nat.le_refl _) (.cells #[.int .i64 c, .int .i64 i, .int .i64 g] 78)
  have HR := Lib.hid (pright_any c i g _ (hP.same hB1).toSl hG.aged h.few)
  rcases right_ways (A := A) gs c i g with ⟨h1, h2⟩ | ⟨c, i, b, rfl, rfl, c4, hb, hh, rfl, h1, h2⟩
  · have HV := Lib.hid (show dropA A (c, i, g) = (15, A) from by unfold dropA; rw [h1])
    have HH := Lib.hid h
    rw [h2] at HR
    clear h1 h2 hP hG h
    go_enter Try.func51, Try.ntmps51
    go_wp2_with fail
    refine HR.out.mono ?_
    rintro e w2 ⟨rfl, hb2⟩
    have HB := Lib.hid (Bl.next hB1 hb2)
    clear hb2 hB1 HR
    go_wp2_with fail
    go_ret
    exact ⟨by rw [HV.out]; rfl, by rw [HV.out]; exact HH.out.same HB.out, Tn.of_below HB.out⟩
  · obtain ⟨hsm1, hsm2⟩ := hG.small c i b c4 hb
    have hgl := hP.ltG c4
    obtain ⟨hge, ⟨q, hq⟩, hmem⟩ := hG.busy c i b c4 hb hh
    rw [h2] at HR
    have HV := Lib.hid (show dropA A ((c : Int), (i : Int), (b.gen : Int)) = (0, upd A c ((A c).set i { b with held := b.held - 1 })) from by unfold dropA; rw [h1]; rfl)
    have HP := Lib.hid hP
    have HHb := Lib.hid hb
    have bi : 1 ≤ (b.held : Int) := by omega
    have bj : (b.held : Int) ≤ 1048576 := by omega
    have hsub : ((b.held - 1 : Nat) : Int) = (b.held : Int) - 1 := by omega
    by_cases hone : b.held = 1
    · have HF := Lib.hid (show ∀ W : World, PAt W O p n gs Q (updM M c i (List.replicate (sizeC c) 0)) (upd A c ((A c).set i { b with held := b.held - 1 })) → PRel W O p n (upd A c ((A c).set i { b with held := b.held - 1 })) G from fun W hW =>
        ⟨⟨gs, Q, _, hW, hG.put (fun _ _ _ => rfl) (fun d j hn => updM_other _ _ hn) (Nat.le_refl _) (fun q => absurd (show b.held - 1 = 0 by omega) q) (fun _ _ _ => updM_same _ _ _ _) ⟨hsm1, by show b.held - 1 ≤ _; omega⟩⟩, h.few, h.small⟩)
      have be : ((b.held : Int) - 1 == 0) = true := by rw [hone]; rfl
      obtain ⟨s, hs⟩ : ∃ s, sizeC c = s + 1 := by
        rcases (by omega : c = 0 ∨ c = 1 ∨ c = 2 ∨ c = 3) with rfl | rfl | rfl | rfl <;> exact ⟨_, rfl⟩
      have HHq := Lib.hid hq
      have HHs := Lib.hid hs
      clear h1 h2 hG h hb hh hone hsm1 hsm2 hP hge hmem hq hs
      go_enter Try.func51, Try.ntmps51
      go_wp2_with fail
      refine HR.out.mono ?_
      rintro e w2 ⟨rfl, hb2⟩
      have hB2 := Bl.next hB1 hb2
      have hP2 := HP.out.same hB2
      obtain ⟨d3, f3⟩ := hP2.cell c4 HHb.out (t := 3) (by decide)
      replace d3 : w2.cell? ⟨gs c, i * 5 + 3, none⟩ = some (.int .i64 (b.held : Int)) := d3
      have hS := hP2.setHeld c4 HHb.out (b.held - 1)
      rw [hsub] at hS
      have hA3 : ((upd A c ((A c).set i { b with held := b.held - 1 })) c)[i]? = some { b with held := b.held - 1 } := by
        rw [upd_same, List.getElem?_set_self (List.getElem?_eq_some_iff.1 HHb.out).1]
      have d4 := (hS.1.cell c4 hA3 (t := 4) (by decide)).1
      replace d4 : (w2.setCell ⟨gs c, i * 5 + 3, none⟩ (.int .i64 ((b.held : Int) - 1))).cell? ⟨gs c, i * 5 + 4, none⟩ = some (bytV c (Q c i)) := d4
      rw [HHq.out] at d4
      replace d4 : (w2.setCell ⟨gs c, i * 5 + 3, none⟩ (.int .i64 ((b.held : Int) - 1))).cell? ⟨gs c, i * 5 + 4, none⟩ = some (.slice (some ⟨q, 0, none⟩) (sizeC c) (sizeC c)) := d4
      obtain ⟨m1, m2⟩ := hS.1.mem c i q HHq.out
      rw [HHs.out] at d4 m2
      have hcl := run_clear _ 0 q s _ m1 m2
      have HE := Lib.hid (show PAt _ O p n gs Q (updM M c i (List.replicate (sizeC c) 0)) _ from hS.1.bytes (w' := (w2.setCell ⟨gs c, i * 5 + 3, none⟩ (.int .i64 ((b.held : Int) - 1))).setRow q (u8V (List.replicate (s + 1) 0))) HHq.out (by rw [HHs.out]; exact setRow_heap _ _ _ _ _ _ m1) (by simp) (fun k hk => setRow_other _ _ _ _ hk))
      have HT := Lib.hid (((Tn.of_below hB2).trans hS.2).trans (Tn.row (hS.1.memIs HHq.out).1 (hS.1.memIs HHq.out).2 (u8V (List.replicate (s + 1) 0))))
      clear hb2 hB1 HR hB2 hP2 hS m1 m2 hA3 hsub
      go_wp2_with fail
      go_ret
      exact ⟨by rw [HV.out]; rfl, by rw [HV.out]; exact HF.out _ HE.out, HT.out⟩
    · have HF := Lib.hid (show ∀ W : World, PAt W O p n gs Q M (upd A c ((A c).set i { b with held := b.held - 1 })) → PRel W O p n (upd A c ((A c).set i { b with held := b.held - 1 })) G from fun W hW =>
        ⟨⟨gs, Q, M, hW, hG.put (fun _ _ _ => rfl) (fun _ _ _ => rfl) (Nat.le_refl _) (fun _ => ⟨hge, ⟨q, hq⟩, hmem⟩) (fun z => by replace z : b.held - 1 = 0 := z; omega) ⟨hsm1, by show b.held - 1 ≤ _; omega⟩⟩, h.few, h.small⟩)
      have be : ((b.held : Int) - 1 == 0) = false := by rw [beq_eq_false_iff_ne]; omega
      clear h1 h2 hG h hb hh hone hsm1 hsm2 hP hge hmem hq
      go_enter Try.func51, Try.ntmps51
      go_wp2_with fail
      refine HR.out.mono ?_
      rintro e w2 ⟨rfl, hb2⟩
      have hB2 := Bl.next hB1 hb2
      have hP2 := HP.out.same hB2
      obtain ⟨d3, f3⟩ := hP2.cell c4 HHb.out (t := 3) (by decide)
      replace d3 : w2.cell? ⟨gs c, i * 5 + 3, none⟩ = some (.int .i64 (b.held : Int)) := d3
      have hS := hP2.setHeld c4 HHb.out (b.held - 1)
      rw [hsub] at hS
      have HS := Lib.hid hS
      have HB := Lib.hid hB2
      clear hb2 hB1 HR hB2 hP2 hS hsub
      go_wp2_with fail
      go_ret
      exact ⟨by rw [HV.out]; rfl, by rw [HV.out]; exact HF.out _ HS.out.1, (Tn.of_below HB.out).trans HS.out.2⟩
end Go.Proofs.Ytbpadliiekhkjaa.So
/-
  As RgVal: a region that draws its order and whose operations each leave a value that is told ahead, with one operation that stores: J false holds ahead of it, J true behind it. No condition.
-/
namespace Go.Proofs.Ytbpadliiekhkjaa.Rg
open Go.RowKit
set_option linter.unusedVariables false

theorem get_set {listed : Array Bool} {i k : Nat} (h : i < listed.size) : (listed.setIfInBounds i true).getD k false = if i = k then true else listed.getD k false := by
  by_cases e : i = k
  · subst e
    rw [if_pos rfl]; simp [h]
  · rw [if_neg e]; exact getD_set_ne false e
theorem get_false {listed : Array Bool} {i : Nat} (h : listed.getD i true = false) : listed.getD i false = false := by
  rcases Nat.lt_or_ge i listed.size with h2 | h2
  · simp [h2] at h ⊢; exact h
  · simp [h2]
section
variable {P : Program} {ops : Array Oper} {Q : Exit → Act → World → Prop} {F : Array Value} {ds : List Deferred} {J : Bool → World → Prop} {k0 : Nat}
/-- What holds whatever has come up. -/
structure SInv (ops : Array Oper) (F : Array Value) (ds : List Deferred) (J : Bool → World → Prop) (k0 : Nat) (listed : Array Bool) (a : Act) (W : World) : Prop where
  lsz : listed.size = ops.size
  tsz : a.tmps.size = F.size
  dfr : a.defers = ds
  held : J (listed.getD k0 false) W
  old : ∀ s, (∀ j, dstOf ops j ≠ some s) → a.tmps.getD s undef = F.getD s undef
  new : ∀ j s, listed.getD j false = true → dstOf ops j = some s → a.tmps.getD s undef = F.getD s undef
/-- What is asked of an operation: at the frame behind the region it leaves that frame, or it is not wanted there. -/
def StepS (P : Program) (ops : Array Oper) (Q : Exit → Act → World → Prop) (F : Array Value) (ds : List Deferred) (J : Bool → World → Prop) (k0 i : Nat) : Prop :=
  ∀ o, ops[i]? = some o → (Region.wanted o (yielded ops F) = false ∧ i ≠ k0 ∧ ∀ d, o.dst = some d → F.getD d undef = undef) ∨
    (Region.wanted o (yielded ops F) = true ∧ ∀ b W, (i = k0 → b = false) → J b W → o.wp P ⟨F, ds⟩ W (fun a' W' => a' = ⟨F, ds⟩ ∧ J (if i = k0 then true else b) W') (NoPanic Q))
theorem sto_step {n : Nat} {listed : Array Bool} {a : Act} {W : World} {i : Nat} (hn : F.size = n) (hf : fine ops n = true) (hS : StepS P ops Q F ds J k0 i) (I : SInv ops F ds J k0 listed a W) (hr : i ∈ Region.ready .any ops listed) :
    wpOp P ops (NoPanic Q) i (fun a' W' => SInv ops F ds J k0 (listed.setIfInBounds i true) a' W') a W := by
  obtain ⟨h0, o, ho, hw⟩ := mem_ready.1 hr
  have f1 := fine_at hf ho
  -- what it looks at is as it will be
  have he : ∀ x ∈ o.op.operands, a.eval x = (⟨F, ds⟩ : Act).eval x := by
    intro x hx
    cases x with
    | tmp s =>
      show a.tmps.getD s undef = F.getD s undef
      by_cases h : ∃ j, dstOf ops j = some s
      · obtain ⟨j, hj⟩ := h
        obtain ⟨e, he, e1, e2⟩ := f1.looks s hx j hj
        exact I.new j s (by rw [← e1]; exact hw e he e2) hj
      · exact I.old s (fun j hj => h ⟨j, hj⟩)
    | const v => rfl
    | global g => rfl
    | func f => rfl
  have hx : execOp a.eval o = execOp (⟨F, ds⟩ : Act).eval o := execOp_congr o f1.sel he
  have hwant : Region.wanted o (yielded ops a.tmps) = Region.wanted o (yielded ops F) := by
    unfold Region.wanted
    cases hg : o.guard with
    | none => rfl
    | some gb =>
      obtain ⟨g, b⟩ := gb
      obtain ⟨e, he, e1, e2⟩ := f1.guard g b hg
      have hl : listed.getD g false = true := by rw [← e1]; exact hw e he e2
      have hy : yielded ops a.tmps g = yielded ops F g := by
        unfold yielded
        cases hd : (ops[g]?).bind (·.dst) with
        | none => rfl
        | some d =>
          have e3 := I.new g d hl hd
          have e4 : a.tmps[d]? = F[d]? := by
            rcases Nat.lt_or_ge d F.size with h' | h'
            · have h2 : d < a.tmps.size := by rw [I.tsz]; exact h'
              rw [Array.getElem?_eq_getElem h', Array.getElem?_eq_getElem h2]
              simp [h', h2] at e3
              rw [e3]
            · rw [Array.getElem?_eq_none h', Array.getElem?_eq_none (by rw [I.tsz]; exact h')]
          simp only [Option.bind_some]
          rw [e4]
      show (yielded ops a.tmps g == some b) = (yielded ops F g == some b)
      rw [hy]
  have hput : ∀ (v : Value) (W' : World), (∀ d, o.dst = some d → F.getD d undef = v) → J (if i = k0 then true else listed.getD k0 false) W' → SInv ops F ds J k0 (listed.setIfInBounds i true) (a.put o.dst v) W' := by
    intro v W' hv hJ
    have hil : i < listed.size := by rw [I.lsz]; exact (Array.getElem?_eq_some_iff.1 ho).1
    rw [← get_set hil] at hJ
    have hd : dstOf ops i = o.dst := by unfold dstOf; rw [ho]; rfl
    cases hds : o.dst with
    | none =>
      refine ⟨by rw [Array.size_setIfInBounds]; exact I.lsz, I.tsz, I.dfr, hJ, I.old, ?_⟩
      intro j s hl hj
      have hne : j ≠ i := by rintro rfl; rw [hd, hds] at hj; cases hj
      exact I.new j s (set_old hl hne) hj
    | some d =>
      refine ⟨by rw [Array.size_setIfInBounds]; exact I.lsz, by rw [put_size]; exact I.tsz, I.dfr, hJ, ?_, ?_⟩
      · intro s hs
        have : s ≠ d := fun e => hs i (by rw [hd, hds, e])
        rw [put_other _ _ this]
        exact I.old s hs
      · intro j s hl hj
        by_cases e : j = i
        · subst e
          rw [hd, hds] at hj
          injection hj with hj
          subst hj
          rw [put_same _ _ _ (by rw [I.tsz, hn]; exact f1.lt d hds)]
          exact (hv d hds).symm
        · have : s ≠ d := by
            rintro rfl
            exact f1.one s hds j e hj
          rw [put_other _ _ this]
          exact I.new j s (set_old hl e) hj
  have hback : ∀ (v : Value), (⟨F, ds⟩ : Act).put o.dst v = ⟨F, ds⟩ → ∀ d, o.dst = some d → F.getD d undef = v := by
    intro v h d hd
    rw [hd] at h
    have h2 : F.setIfInBounds d v = F := by injection h
    have h3 : d < F.size := by rw [hn]; exact f1.lt d hd
    have h4 := congrArg (fun A : Array Value => A.getD d undef) h2
    simp [h3] at h4
    simp [h3]
    exact h4.symm
  unfold wpOp
  simp only [ho, hwant]
  rcases hS o ho with ⟨w1, w2⟩ | ⟨w1, w2⟩
  · rw [w1, if_neg (by simp)]
    exact hput undef W w2.2 (by rw [if_neg w2.1]; exact I.held)
  · rw [w1, if_pos rfl]
    left
    have h := w2 (listed.getD k0 false) W (fun e => by subst e; exact get_false h0) I.held
    unfold Oper.wp at h ⊢
    rw [hx]
    generalize (execOp (⟨F, ds⟩ : Act).eval o).run P W = r at h ⊢
    cases r with
    | ok nx w' =>
      cases nx <;> simp only [Oper.upon] at h ⊢
      case value v => exact hput v w' (hback v h.1) h.2
      case skip => exact hput undef w' (hback undef h.1) h.2
      case defer d =>
        exfalso
        have h2 := congrArg Act.defers h.1
        have h3 : d :: ds = ds := by
          cases hds : o.dst <;> simp [hds, Act.put] at h2
        have := congrArg List.length h3
        simp at this
      case enter f args =>
        refine Calls.mono h (fun e w'' he => ?_)
        cases e with
        | returned v => exact hput v w'' (hback v he.1) he.2
        | panicked c => exact (he : False).elim
        | outgrown => exact he
      case row row args => exact Rows.mono h (fun v w'' he => hput v w'' (hback v he.1) he.2)
      all_goals exact h.elim
    | halt x w' =>
      cases x <;> simp only [Oper.upon] at h ⊢
      all_goals exact (h : False).elim
theorem StepS.of {i : Nat} {o : Oper} (ho : ops[i]? = some o) (hk : i ≠ k0) (h : (Region.wanted o (yielded ops F) = false ∧ ∀ d, o.dst = some d → F.getD d undef = undef) ∨
    (Region.wanted o (yielded ops F) = true ∧ ∀ b W, J b W → ∀ K : Act → World → Prop, (∀ W', J b W' → K ⟨F, ds⟩ W') → o.wp P ⟨F, ds⟩ W K (NoPanic Q))) : StepS P ops Q F ds J k0 i := by
  intro o' ho'
  rw [ho] at ho'
  injection ho' with ho'
  subst ho'
  rcases h with h | ⟨h1, h2⟩
  · exact .inl ⟨h.1, hk, h.2⟩
  · exact .inr ⟨h1, fun b W _ hJ => h2 b W hJ _ (fun W' hJ' => ⟨rfl, by rw [if_neg hk]; exact hJ'⟩)⟩
theorem StepS.st {o : Oper} (ho : ops[k0]? = some o) (h1 : Region.wanted o (yielded ops F) = true) (h2 : ∀ W, J false W → ∀ K : Act → World → Prop, (∀ W', J true W' → K ⟨F, ds⟩ W') → o.wp P ⟨F, ds⟩ W K (NoPanic Q)) : StepS P ops Q F ds J k0 k0 := by
  intro o' ho'
  rw [ho] at ho'
  injection ho' with ho'
  subst ho'
  refine .inr ⟨h1, fun b W hb hJ => ?_⟩
  rw [hb rfl] at hJ
  exact h2 W hJ _ (fun W' hJ' => ⟨rfl, by rw [if_pos rfl]; exact hJ'⟩)
theorem sto_region {n id : Nat} {a0 : Array Value} {W : World} (L : List (Nat × Value)) (hn : a0.size = n) (hm : P.follows .mixedOrders = true) (hf : fine ops n = true) (hL : filled ops L = true)
    (hk0 : k0 < ops.size) (hJ : J false W.drew) (hS : ∀ F, F = fill a0 L → (∀ i, i < ops.size → StepS P ops Q F ds J k0 i) ∧ ∀ W', J true W' → Q .normal ⟨F, ds⟩ W') : (Code.region id ops true).wp P Q ⟨a0, ds⟩ W := by
  obtain ⟨F, hF⟩ : ∃ F, F = fill a0 L := ⟨_, rfl⟩
  obtain ⟨hS, hQ⟩ := hS F hF
  replace hn : F.size = n := by rw [hF, fill_size]; exact hn
  refine wp_region_noPanic (wp_region_any hm ?_)
  have hnl : ∀ i, (Array.replicate ops.size false).getD i false = false := fun i => by
    rcases Nat.lt_or_ge i ops.size with h | h
    · simp [h]
    · simp [h]
  refine any_inv (P := P) (ops := ops) (Q := NoPanic Q) (md := .any) (I := fun f listed a' w' => SInv ops F ds J k0 listed a' w')
    (fun f listed a' w' i hI hr => by
      obtain ⟨_, o, ho, _⟩ := mem_ready.1 hr
      exact sto_step hn hf (hS i (Array.getElem?_eq_some_iff.1 ho).1) hI hr)
    (fun f listed a' w' hI hr => ?_)
    ops.size (Array.replicate ops.size false) ⟨a0, ds⟩ W.drew (all_unlisted ops.size)
    ⟨by simp, by rw [hF, fill_size], rfl, by rw [hnl]; exact hJ, ?_, fun j s h _ => by rw [hnl] at h; cases h⟩
  · have h2 := all_listed2 (fun i o ho => (fine_at hf ho).fwd) hI.lsz hr
    have e : a' = ⟨F, ds⟩ := by
      obtain ⟨ts, df⟩ := a'
      have h3 : df = ds := hI.dfr
      subst h3
      congr 1
      have hsz : ts.size = F.size := hI.tsz
      apply Array.ext hsz
      intro s hs1 hs2
      have h4 : ts.getD s undef = F.getD s undef := by
        by_cases h : ∃ j, dstOf ops j = some s
        · obtain ⟨j, hj⟩ := h
          exact hI.new j s (h2 j (dst_lt hj)) hj
        · exact hI.old s (fun j hj => h ⟨j, hj⟩)
      simp [hs1, hs2] at h4
      exact h4
    rw [e]
    have h5 := hI.held
    rw [h2 k0 hk0] at h5
    exact NoPanic.normal (hQ w' h5)
  · intro s hs
    rw [hF]
    refine (fill_other L (fun p hp e => ?_) a0).symm
    have h3 := List.all_eq_true.1 hL p hp
    obtain ⟨j, _, h4⟩ := List.any_eq_true.1 h3
    rw [e] at h4
    exact hs j (by simpa using h4)
end
end Go.Proofs.Ytbpadliiekhkjaa.Rg
/-
  The program's New: what it returns. No condition but numbers of an int.
-/
namespace Go.Proofs.Ytbpadliiekhkjaa.Sl
open Go.RowKit Go.Proofs.Ytbpadliiekhkjaa.Fd
set_option maxRecDepth 100000
set_option linter.unusedVariables false
set_option linter.unusedSimpArgs false

theorem lowC_any (n : Int) (w : World) : Calls Try.prog 27 #[.int .i64 n] w fun e w' => e = .returned (.bool (decide (n < 0))) ∧ w = w' := by
  by_cases h : n < 0
  · have HR := Lib.hid (decide_eq_true h)
    go_enter Try.func27, Try.ntmps27
    go_wp2_with fail
    go_ret
    exact ⟨by rw [HR.out]; rfl, rfl⟩
  · have HR := Lib.hid (decide_eq_false h)
    go_enter Try.func27, Try.ntmps27
    go_wp2_with fail
    go_ret
    exact ⟨by rw [HR.out]; rfl, rfl⟩
set_option maxHeartbeats 4000000 in
theorem low_any (g : Nat) (bl : Nat → Int) (w : World) (hg : ∀ k, k < 4 → w.cell? ⟨g, k, none⟩ = some (.int .i64 (bl k))) (hgl : g < w.heap.size) :
    Calls Try.prog 26 #[.slice (some ⟨g, 0, none⟩) 4 4, .func (.func 27) #[] #[]] w fun e w' => w = w' ∧
      ((e = .returned (.int .i64 (-1)) ∧ ∀ k, k < 4 → ¬ (bl k < 0)) ∨ ∃ k : Nat, k < 4 ∧ e = .returned (.int .i64 (k : Int)) ∧ bl k < 0) := by
  have HC := Lib.hid hg
  clear hg
  go_enter Try.func26, Try.ntmps26
  go_wp2_with fail
  go_loop [9] (fun j => ∃ k : Nat, k ≤ 4 ∧ j = .int .i64 (k : Int) ∧ ∀ i, i < k → ¬ (bl i < 0)) (fun j => 4 - (intOf j).toNat)
  case atStart => exact ⟨0, Nat.zero_le _, rfl, fun i hi => by omega⟩
  case round =>
    obtain ⟨k, hk, rfl, hf⟩ := hrel
    by_cases hlt : k < 4
    · have d0 := HC.out k hlt
      by_cases h0 : bl k < 0
      · have HT := Lib.hid (decide_eq_true h0)
        have H0 := Lib.hid h0
        generalize hbk : bl k = x at *
        have HX := Lib.hid hbk
        clear h0 hf hbk
        go_wp2_with fail
        refine (lowC_any _ _).mono ?_
        rintro e w2 ⟨rfl, rfl⟩
        rw [HT.out]
        go_wp2_with fail
        go_ret
        exact ⟨rfl, .inr ⟨k, hlt, rfl, by rw [HX.out]; exact H0.out⟩⟩
      · have HI := Lib.hid (show ∀ i, i < k + 1 → ¬ (bl i < 0) from fun i hi => by
          by_cases e : i = k
          · subst e; exact h0
          · exact hf i (by omega))
        have HT := Lib.hid (decide_eq_false h0)
        generalize bl k = x at d0 HT h0
        clear h0 hf
        go_wp2_with fail
        refine (lowC_any _ _).mono ?_
        rintro e w2 ⟨rfl, rfl⟩
        rw [HT.out]
        go_wp2_with fail
        go_round
        case rel => exact ⟨k + 1, by omega, by go_num, fun i hi => by have := HI.out i hi; omega⟩
        case measure => simp [intOf]; omega
    · have HF := Lib.hid hf
      obtain rfl : k = 4 := by omega
      clear hf
      go_wp2_with fail
      go_ret
      exact ⟨rfl, .inl ⟨rfl, HF.out⟩⟩
theorem bigC_any (n : Int) (w : World) : Calls Try.prog 28 #[.int .i64 n] w fun e w' => e = .returned (.bool (decide (4096 < n))) ∧ w = w' := by
  by_cases h : 4096 < n
  · have HR := Lib.hid (decide_eq_true h)
    go_enter Try.func28, Try.ntmps28
    go_wp2_with fail
    go_ret
    exact ⟨by rw [HR.out]; rfl, rfl⟩
  · have HR := Lib.hid (decide_eq_false h)
    go_enter Try.func28, Try.ntmps28
    go_wp2_with fail
    go_ret
    exact ⟨by rw [HR.out]; rfl, rfl⟩
set_option maxHeartbeats 4000000 in
theorem big_any (g : Nat) (bl : Nat → Int) (w : World) (hg : ∀ k, k < 4 → w.cell? ⟨g, k, none⟩ = some (.int .i64 (bl k))) (hgl : g < w.heap.size) :
    Calls Try.prog 26 #[.slice (some ⟨g, 0, none⟩) 4 4, .func (.func 28) #[] #[]] w fun e w' => w = w' ∧
      ((e = .returned (.int .i64 (-1)) ∧ ∀ k, k < 4 → ¬ (4096 < bl k)) ∨ ∃ k : Nat, k < 4 ∧ e = .returned (.int .i64 (k : Int)) ∧ 4096 < bl k) := by
  have HC := Lib.hid hg
  clear hg
  go_enter Try.func26, Try.ntmps26
  go_wp2_with fail
  go_loop [9] (fun j => ∃ k : Nat, k ≤ 4 ∧ j = .int .i64 (k : Int) ∧ ∀ i, i < k → ¬ (4096 < bl i)) (fun j => 4 - (intOf j).toNat)
  case atStart => exact ⟨0, Nat.zero_le _, rfl, fun i hi => by omega⟩
  case round =>
    obtain ⟨k, hk, rfl, hf⟩ := hrel
    by_cases hlt : k < 4
    · have d0 := HC.out k hlt
      by_cases h0 : 4096 < bl k
      · have HT := Lib.hid (decide_eq_true h0)
        have H0 := Lib.hid h0
        generalize hbk : bl k = x at *
        have HX := Lib.hid hbk
        clear h0 hf hbk
        go_wp2_with fail
        refine (bigC_any _ _).mono ?_
        rintro e w2 ⟨rfl, rfl⟩
        rw [HT.out]
        go_wp2_with fail
        go_ret
        exact ⟨rfl, .inr ⟨k, hlt, rfl, by rw [HX.out]; exact H0.out⟩⟩
      · have HI := Lib.hid (show ∀ i, i < k + 1 → ¬ (4096 < bl i) from fun i hi => by
          by_cases e : i = k
          · subst e; exact h0
          · exact hf i (by omega))
        have HT := Lib.hid (decide_eq_false h0)
        generalize bl k = x at d0 HT h0
        clear h0 hf
        go_wp2_with fail
        refine (bigC_any _ _).mono ?_
        rintro e w2 ⟨rfl, rfl⟩
        rw [HT.out]
        go_wp2_with fail
        go_round
        case rel => exact ⟨k + 1, by omega, by go_num, fun i hi => by have := HI.out i hi; omega⟩
        case measure => simp [intOf]; omega
    · have HF := Lib.hid hf
      obtain rfl : k = 4 := by omega
      clear hf
      go_wp2_with fail
      go_ret
      exact ⟨rfl, .inl ⟨rfl, HF.out⟩⟩
def noB : Blk := ⟨0, 0, []⟩
theorem infoBlk : (Try.prog.info? 92).map (fun i => (i.zero, i.size, i.bytes)) = some (some (.agg #[.int .i64 0, .int .i64 0, .int .i64 0, .int .i64 0, .slice none 0 0]), 5, 56) := by kernel_rfl
theorem info_partsB {e : TypeId} {z : Value} {n b : Nat} (h : (Try.prog.info? e).map (fun i => (i.zero, i.size, i.bytes)) = some (some z, n, b)) : ∃ i, Try.prog.info? e = some i ∧ i.zero = some z ∧ i.size = n ∧ i.bytes = b := by
  cases hi : Try.prog.info? e with
  | none => rw [hi] at h; simp at h
  | some i =>
    rw [hi] at h
    simp at h
    exact ⟨i, rfl, h.1, h.2.1, h.2.2⟩
theorem made_row (N c : Nat) : RowP (madeCells (Value.agg #[.int .i64 0, .int .i64 0, .int .i64 0, .int .i64 0, .slice none 0 0]).cells (N * 5)) c (fun _ => none) (List.replicate N noB) := by
  refine ⟨by rw [size_madeCells, List.length_replicate], fun j b hb t ht => ?_⟩
  rw [List.getElem?_replicate] at hb
  split at hb
  · rename_i hj
    injection hb with hb
    subst hb
    have e : (j * 5 + t) % 5 = t := by omega
    have hlt : j * 5 + t < N * 5 := by omega
    unfold madeCells
    rw [Array.getElem?_map, Array.getElem?_range]
    simp only [hlt, if_true, Option.map_some]
    show some ((#[Value.int .i64 0, .int .i64 0, .int .i64 0, .int .i64 0, .slice none 0 0] : Array Value)[(j * 5 + t) % 5]!) = _
    rw [e]
    match t, ht with
    | 0, _ | 1, _ | 2, _ | 3, _ | 4, _ => rfl
  · cases hb
theorem make_blocks (W : World) (N : Nat) (hN : N ≤ 4096) : ∃ w', (Instr.makeSlice 61 (.int .i64 (N : Int)) (.int .i64 (N : Int))).run Try.prog W = .ok (.slice (some ⟨W.heap.size, 0, none⟩) N N) w' ∧
    (∃ cur, w'.heap[W.heap.size]? = some (.cells cur 92 (0, 0)) ∧ ∀ c, RowP cur c (fun _ => none) (List.replicate N noB)) ∧ Below W.heap.size W w' := by
  obtain ⟨i, hi, hz, hs, hb⟩ := info_partsB infoBlk
  have hr := run_makeSlice (P := Try.prog) W 61 92 i _ Try.underlying61 hi hz .i64 .i64 (N : Int) (N : Int) (by omega) (by omega) (by rw [hs]; simp; omega) (by rw [hb]; omega) (by omega)
  simp only [Int.toNat_natCast, hs] at hr
  exact ⟨_, hr, ⟨_, new_block W _, made_row N⟩, (Below.refl _ _).alloc (Nat.le_refl _) _⟩
/-- The arena whose first classes are laid. -/
def arenaK (gs n : Nat → Nat) (k : Nat) : Array Value := #[if 0 < k then .int .i64 64 else .int .i64 0, if 0 < k then rowV gs n 0 else .slice none 0 0, if 1 < k then .int .i64 256 else .int .i64 0, if 1 < k then rowV gs n 1 else .slice none 0 0,
  if 2 < k then .int .i64 1024 else .int .i64 0, if 2 < k then rowV gs n 2 else .slice none 0 0, if 3 < k then .int .i64 4096 else .int .i64 0, if 3 < k then rowV gs n 3 else .slice none 0 0]
structure PN (w : World) (bl : Nat → Int) (p k : Nat) (gs : Nat → Nat) (W : World) : Prop where
  bel : Below w.heap.size w W
  box : W.heap[w.heap.size]? = some (.cells #[.int .i64 (bl 0), .int .i64 (bl 1), .int .i64 (bl 2), .int .i64 (bl 3)] 22 (0, 0))
  arena : W.heap[p]? = some (.cells (arenaK gs (fun c => (bl c).toNat) k) 66 (0, 0))
  row : ∀ c, c < k → ∃ cur, W.heap[gs c]? = some (.cells cur 92 (0, 0)) ∧ RowP cur c (fun _ => none) (List.replicate (bl c).toNat noB)
  at' : w.heap.size < p
  far : ∀ c, c < k → p < gs c
  inj : ∀ c d, c < d → d < k → gs c < gs d
theorem PN.next {w : World} {bl : Nat → Int} {p k : Nat} {gs : Nat → Nat} {W V : World} (h : PN w bl p k gs W) (hb : Below W.heap.size W V) : PN w bl p k gs V := by
  refine ⟨Bl.next h.bel hb, Bl.old hb (block_lt h.box) h.box, Bl.old hb (block_lt h.arena) h.arena, fun c hc => ?_, h.at', h.far, h.inj⟩
  obtain ⟨cur, h1, h2⟩ := h.row c hc
  exact ⟨cur, Bl.old hb (block_lt h1) h1, h2⟩
theorem PN.done {w : World} {bl : Nat → Int} {p : Nat} {gs : Nat → Nat} {W : World} (h : PN w bl p 4 gs W) (hb : ∀ k, k < 4 → bl k ≤ 4096) : PRel W w.heap.size p (fun c => (bl c).toNat) (newA fun c => (bl c).toNat) 0 := by
  refine ⟨⟨gs, fun _ _ => none, fun _ _ => [], ⟨h.arena, fun c hc => ?_, fun c hc => by simp [newA], fun c i q hq => by (cases hq), Nat.le_of_lt h.at', fun c hc => ?_, fun c d hc hd e => ?_, fun c i q hq => by (cases hq), fun c i d j q hq => by (cases hq)⟩, ⟨fun c i b hc hb hh => ?_, fun c i b q hc hb hh hq => by (cases hq), fun c i b hc hb => ?_⟩⟩, fun c hc => by have := hb c hc; show (bl c).toNat ≤ _; omega, by decide⟩
  · exact h.row c hc
  · have h1 := h.far c hc
    have h2 := h.at'
    exact ⟨by omega, by omega⟩
  · rcases Nat.lt_trichotomy c d with h1 | h1 | h1
    · have := h.inj c d h1 hd; omega
    · exact h1
    · have := h.inj d c h1 hc; omega
  · unfold newA at hb
    rw [List.getElem?_replicate] at hb
    split at hb
    · injection hb with hb; subst hb; exact absurd rfl hh
    · cases hb
  · unfold newA at hb
    rw [List.getElem?_replicate] at hb
    split at hb
    · injection hb with hb; subst hb; exact ⟨Nat.le_refl _, by decide⟩
    · cases hb
/-- A class is laid. -/
theorem PN.lay {w : World} {bl : Nat → Int} {p k : Nat} {gs : Nat → Nat} {W V V' : World} (h : PN w bl p k gs W) (hk : k < 4) (hb : Below W.heap.size W V) (hr : ∃ cur, V.heap[W.heap.size]? = some (.cells cur 92 (0, 0)) ∧ ∀ c, RowP cur c (fun _ => none) (List.replicate (bl k).toNat noB))
    (hV : V' = (V.setCell ⟨p, k * 2, none⟩ (.int .i64 (sizeC k : Int))).setCell ⟨p, k * 2 + 1, none⟩ (.slice (some ⟨W.heap.size, 0, none⟩) (bl k).toNat (bl k).toNat)) : PN w bl p (k + 1) (fun c => if c = k then W.heap.size else gs c) V' := by
  have h2 := h.next hb
  have hpl := block_lt h.arena
  have hne : ∀ b, b ≠ p → V'.heap[b]? = V.heap[b]? := fun b hbp => by rw [hV, set_heap hbp, set_heap hbp]
  have h0 := h.at'
  obtain ⟨cur, hr1, hr2⟩ := hr
  refine ⟨?_, ?_, ?_, fun c hc => ?_, h.at', fun c hc => ?_, fun c d hcd hd => ?_⟩
  · rw [hV]; exact (h2.bel.setCell (p := ⟨p, k * 2, none⟩) (by show _ ≤ p; omega) _).setCell (p := ⟨p, k * 2 + 1, none⟩) (by show _ ≤ p; omega) _
  · rw [hne _ (by omega)]; exact h2.box
  · rw [hV]
    have h3 := heap_put (heap_put h2.arena (k * 2) (.int .i64 (sizeC k : Int))) (k * 2 + 1) (.slice (some ⟨W.heap.size, 0, none⟩) (bl k).toNat (bl k).toNat)
    rw [h3]
    rcases (by omega : k = 0 ∨ k = 1 ∨ k = 2 ∨ k = 3) with rfl | rfl | rfl | rfl <;> rfl
  · by_cases e : c = k
    · subst e
      refine ⟨cur, ?_, hr2 c⟩
      simp only [if_true]
      rw [hne _ (by omega)]; exact hr1
    · obtain ⟨cu, h3, h4⟩ := h2.row c (by omega)
      refine ⟨cu, ?_, h4⟩
      simp only [e, if_false]
      rw [hne _ (by have := h.far c (by omega); omega)]; exact h3
  · by_cases e : c = k
    · simp only [e, if_true]; exact hpl
    · simp only [e, if_false]; exact h.far c (by omega)
  · by_cases e : d = k
    · simp only [e, if_true]
      rw [if_neg (by omega)]
      obtain ⟨cu, h3, h4⟩ := h.row c (by omega)
      exact block_lt h3
    · rw [if_neg (by omega), if_neg e]
      exact h.inj c d hcd (by omega)
def NewP (bl : Nat → Int) (w : World) (e : Ending) (w' : World) : Prop :=
  Below w.heap.size w w' ∧
  (((∃ k, k < 4 ∧ bl k < 0) ∧ e = .returned (.tuple #[.pointer none, .int .i64 2])) ∨
   ((∀ k, k < 4 → 0 ≤ bl k) ∧ (∃ k, k < 4 ∧ 4096 < bl k) ∧ e = .returned (.tuple #[.pointer none, .int .i64 3])) ∨
   ((∀ k, k < 4 → 0 ≤ bl k ∧ bl k ≤ 4096) ∧ ∃ p, e = .returned (.tuple #[.pointer (some ⟨p, 0, none⟩), .int .i64 0]) ∧ PRel w' w.heap.size p (fun c => (bl c).toNat) (newA fun c => (bl c).toNat) 0))
set_option maxHeartbeats 8000000 in
theorem pnew_any (bl : Nat → Int) (w : World) : Calls Try.prog 7 #[.agg #[.int .i64 (bl 0), .int .i64 (bl 1), .int .i64 (bl 2), .int .i64 (bl 3)]] w (NewP bl w) := by
  obtain ⟨w1, hw1⟩ : ∃ w1, w1 = w.alloc (.cells #[.int .i64 (bl 0), .int .i64 (bl 1), .int .i64 (bl 2), .int .i64 (bl 3)] 22) := ⟨_, rfl⟩
  have hB1 : Below w.heap.size w w1 := by rw [hw1]; exact (Below.refl _ _).alloc (Nat.le_refl _) _
  have hbox : w1.heap[w.heap.size]? = some (.cells #[.int .i64 (bl 0), .int .i64 (bl 1), .int .i64 (bl 2), .int .i64 (bl 3)] 22 (0, 0)) := by rw [hw1]; exact new_block _ _
  have hcells : ∀ k, k < 4 → w1.cell? ⟨w.heap.size, k, none⟩ = some (.int .i64 (bl k)) := fun k hk => by
    rw [Lib.cell_of_heap hbox]
    rcases (by omega : k = 0 ∨ k = 1 ∨ k = 2 ∨ k = 3) with rfl | rfl | rfl | rfl <;> rfl
  have HL := Lib.hid (low_any w.heap.size bl w1 hcells (block_lt hbox))
  have HG := Lib.hid (big_any w.heap.size bl w1 hcells (block_lt hbox))
  have HB1 := Lib.hid hB1
  have HW1 := Lib.hid hw1
  have HBX := Lib.hid hbox
  clear hB1 hw1 hbox hcells
  go_enter Try.func7, Try.ntmps7
  go_wp2_with fail
  rw [← HW1.out]
  refine HL.out.mono ?_
  rintro e w2 ⟨hw, h2⟩
  subst hw
  rcases h2 with ⟨rfl, hl⟩ | ⟨k, hk, rfl, hl⟩
  · have HLo := Lib.hid hl
    clear hl
    go_wp2_with fail
    refine HG.out.mono ?_
    rintro e w2 ⟨hw, h2⟩
    subst hw
    rcases h2 with ⟨rfl, hg⟩ | ⟨k, hk, rfl, hg⟩
    · have HGo := Lib.hid hg
      have HP0 := Lib.hid (show PN w bl w1.heap.size 0 (fun _ => 0) (w1.alloc (.cells #[.int .i64 0, .slice none 0 0, .int .i64 0, .slice none 0 0, .int .i64 0, .slice none 0 0, .int .i64 0, .slice none 0 0] 66)) from
        ⟨HB1.out.alloc HB1.out.size _, (old_block _ _ (block_lt HBX.out)).trans HBX.out, new_block _ _, fun c hc => absurd hc (by omega), block_lt HBX.out, fun c hc => absurd hc (by omega), fun c d h1 h2 => absurd h2 (by omega)⟩)
      clear hg HL HG
      go_wp2_with fail
      refine (sizesV_any _).mono ?_
      rintro e w3 ⟨rfl, hb3⟩
      have HP1 := Lib.hid (HP0.out.next hb3)
      clear hb3
      unfold sizesV
      go_wp2_with fail
      obtain ⟨p, hp⟩ : ∃ p, p = w1.heap.size := ⟨_, rfl⟩
      rw [← hp] at HP1 ⊢
      clear hp HP0
      have x0 := idx0
      have x1 := idx1
      have x2 := idx2
      have x3 := idx3
      go_loopw [16] (fun j wr => ∃ (k : Nat) (gs : Nat → Nat), k ≤ 4 ∧ j = .int .i64 (k : Int) ∧ PN w bl p k gs wr) (fun j _ => 4 - (intOf j).toNat)
      case atStart => exact ⟨0, _, Nat.zero_le _, rfl, HP1.out⟩
      case round =>
        obtain ⟨k, gs, hk, rfl, hP⟩ := hrel
        by_cases hlt : k < 4
        · obtain ⟨N, hN⟩ : ∃ N : Nat, bl k = (N : Int) := ⟨(bl k).toNat, by have := HLo.out k hlt; omega⟩
          have hNN : (bl k).toNat = N := by omega
          have hN4 : N ≤ 4096 := by have := HGo.out k hlt; omega
          have hbx : wr.cell? ⟨w.heap.size, k, none⟩ = some (.int .i64 (N : Int)) := by
            rw [Lib.cell_of_heap hP.box, ← hN]
            rcases (by omega : k = 0 ∨ k = 1 ∨ k = 2 ∨ k = 3) with rfl | rfl | rfl | rfl <;> rfl
          have hPd := hP.next ((Below.refl _ _).drew)
          obtain ⟨w5, hmk, hrow5, hb5⟩ := make_blocks wr.drew N hN4
          have hP5 := hPd.next hb5
          obtain ⟨v0, v1, y0, y1⟩ : ∃ v0 v1, w5.cell? ⟨p, k * 2, none⟩ = some v0 ∧ w5.cell? ⟨p, k * 2 + 1, none⟩ = some v1 := by
            rw [Lib.cell_of_heap hP5.arena, Lib.cell_of_heap hP5.arena]
            rcases (by omega : k = 0 ∨ k = 1 ∨ k = 2 ∨ k = 3) with rfl | rfl | rfl | rfl <;> exact ⟨_, _, rfl, rfl⟩
          have z0 := free hP5.arena (k * 2)
          have z1 := free hP5.arena (k * 2 + 1)
          have HLy := Lib.hid (fun V' hV => hPd.lay (V := w5) (V' := V') hlt hb5 (by rw [hNN]; exact hrow5) hV)
          rw [hNN] at HLy
          have hq : w.heap.size ≠ p := by have := hP.at'; omega
          clear hP hPd hP5 hrow5 hb5 hN hNN HP1 HBX HB1 HW1
          rcases (by omega : k = 0 ∨ k = 1 ∨ k = 2 ∨ k = 3) with rfl | rfl | rfl | rfl
          all_goals
            go_upto_region 9 with fail
            go_region
            go_wp2_with fail
            go_roundw
            case rel => exact ⟨_, _, by omega, by go_num, HLy.out _ rfl⟩
            case measure => simp [intOf]
        · obtain rfl : k = 4 := by omega
          have HD := Lib.hid (hP.done (fun k hk => by have := HGo.out k hk; omega))
          have HB := Lib.hid hP.bel
          clear hP
          go_wp2_with fail
          go_ret2
          exact ⟨HB.out, .inr (.inr ⟨fun k hk => by have := HLo.out k hk; have := HGo.out k hk; omega, p, rfl, HD.out⟩)⟩
    · have HK := Lib.hid (show (∀ k, k < 4 → 0 ≤ bl k) ∧ ∃ k, k < 4 ∧ 4096 < bl k from ⟨fun k hk => by have := HLo.out k hk; omega, k, hk, hg⟩)
      have hne : ((k : Int) != -1) = true := by rw [bne_iff_ne]; omega
      clear hg HL HG
      go_wp2_with fail
      go_ret2
      exact ⟨HB1.out, .inr (.inl ⟨HK.out.1, HK.out.2, rfl⟩)⟩
  · have HK := Lib.hid (show ∃ k, k < 4 ∧ bl k < 0 from ⟨k, hk, hl⟩)
    have hne : ((k : Int) != -1) = true := by rw [bne_iff_ne]; omega
    clear hl HL HG
    go_wp2_with fail
    go_ret2
    exact ⟨HB1.out, .inl ⟨HK.out, rfl⟩⟩
end Go.Proofs.Ytbpadliiekhkjaa.Sl
