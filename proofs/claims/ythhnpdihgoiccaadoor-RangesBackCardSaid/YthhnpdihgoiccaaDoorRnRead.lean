/-
  ranges.reader and its two closures: what each returns. Condition: a text of at most 2^47 bytes.
-/
import Derived.Test.YthhnpdihgoiccaaDoorRnTold
import Derived.Test.YthhnpdihgoiccaaDoorRnCut
import Derived.Test.YthhnpdihgoiccaaDoorRgSto
import Derived.Deep.DeepCutAuto
namespace Go.Proofs.YthhnpdihgoiccaaDoor.Rn
open Go.RowKit Go.Proofs.YthhnpdihgoiccaaDoor.Fd Go.Proofs.YthhnpdihgoiccaaDoor.Sn Go.Proofs.YthhnpdihgoiccaaDoor.Rm
set_option maxRecDepth 100000
set_option linter.unusedVariables false
set_option linter.unusedSimpArgs false

/-- A variable of one int; one of a function. -/
def IVar (w : World) (b : Nat) (n : Int) : Prop := w.heap[b]? = some (.cells #[.int .i64 n] 3 (0, 0))
def cloE (b : Nat) : Value := .func (.func 30) #[] #[.pointer (some ⟨b, 0, none⟩)]
def cloR (c : Nat) : Value := .func (.func 31) #[] #[.pointer (some ⟨c, 0, none⟩)]
def FVar (w : World) (c b : Nat) : Prop := w.heap[c]? = some (.cells #[cloE b] 44 (0, 0))
/-- What reads with numbers of at most m. -/
def Reads (w : World) (c b : Nat) (m : Int) : Prop := FVar w c b ∧ IVar w b m
theorem Reads.more {w w' : World} {c b : Nat} {m : Int} (h : Reads w c b m) {B : Nat} (hb : Below B w w') (hc : c < B) (hl : b < B) : Reads w' c b m := ⟨Bl.old hb hc h.1, Bl.old hb hl h.2⟩
theorem Reads.lt {w : World} {c b : Nat} {m : Int} (h : Reads w c b m) : c < w.heap.size ∧ b < w.heap.size := ⟨block_lt h.1, block_lt h.2⟩
theorem reader_any (m : Int) (w : World) : Calls Tryd.prog 24 #[.int .i64 m] w fun e w' => e = .returned (cloR (w.heap.size + 1)) ∧ (w.alloc (.cells #[.int .i64 m] 3)).alloc (.cells #[cloE w.heap.size] 44) = w' := by
  unfold cloR cloE
  go_enter Tryd.func24, Tryd.ntmps24
  go_wp2_with fail
  go_ret
  exact ⟨rfl, rfl⟩
/-- A number at one end; -1: none. -/
def endV (m : Int) (s : ByteArray) : Int × Bool := if s.size = 0 then (-1, true) else Num.numOf s m
theorem endNum_any (s : ByteArray) (b : Nat) (m : Int) (w : World) (h : IVar w b m) (hs : s.size ≤ maxLen) (hm : m ≤ 9223372036854775807) :
    Calls Tryd.prog 30 #[.string s, .pointer (some ⟨b, 0, none⟩)] w fun e w' => e = .returned (.tuple #[.int .i64 (endV m s).1, .bool (endV m s).2]) ∧ w = w' := by
  have hc : w.cell? ⟨b, 0, none⟩ = some (.int .i64 m) := by rw [Lib.cell_of_heap h]; rfl
  clear h
  by_cases hz : s.size = 0
  · have HV := Lib.hid (show endV m s = (-1, true) from by rw [endV, if_pos hz])
    obtain rfl : s = ⟨#[]⟩ := ByteArray.ext (by cases s; simpa [ByteArray.size] using hz)
    go_enter Tryd.func30, Tryd.ntmps30
    go_wp2_with fail
    go_ret2
    exact ⟨by rw [HV.out]; rfl, rfl⟩
  · have HV := Lib.hid (show endV m s = Num.numOf s m from by rw [endV, if_neg hz])
    have hne : s.toList.isEmpty = false := by
      rw [ByteArray.toList_eq]
      cases he : s.data.toList with
      | nil => exfalso; apply hz; show s.data.size = 0; rw [← Array.length_toList, he]; rfl
      | cons c r => rfl
    clear hz
    go_enter Tryd.func30, Tryd.ntmps30
    go_wp2_with fail
    refine (Num.number_any s m _ hs hm).mono ?_
    rintro e w' ⟨rfl, rfl⟩
    go_wp2_with fail
    go_ret2
    exact ⟨by rw [HV.out]; rfl, rfl⟩
/-- What stands ahead of and behind the first '-', and whether there is one. -/
def cutL (s : ByteArray) : ByteArray := if ix 45 s.data.toList < s.size then s.extract 0 (ix 45 s.data.toList) else s
def cutR (s : ByteArray) : ByteArray := if ix 45 s.data.toList < s.size then s.extract (ix 45 s.data.toList + 1) s.size else ⟨#[]⟩
def cutB (s : ByteArray) : Bool := decide (ix 45 s.data.toList < s.size)
theorem cut_val (s : ByteArray) : Rc45.cutVal s = .tuple #[.string (cutL s), .string (cutR s), .bool (cutB s)] := by
  unfold Rc45.cutVal cutL cutR cutB
  split
  · rename_i h; rw [decide_eq_true h]
  · rename_i h; rw [decide_eq_false h]
theorem cutL_le (s : ByteArray) : (cutL s).size ≤ s.size := by unfold cutL; split <;> simp; omega
theorem cutR_le (s : ByteArray) : (cutR s).size ≤ s.size := by
  unfold cutR; split
  · simp
  · exact Nat.zero_le _
def readB (m : Int) (s : ByteArray) : Bool := cutB s && (endV m (cutL s)).2 && (endV m (cutR s)).2 && fine ((endV m (cutL s)).1, (endV m (cutR s)).1)
theorem infoWantSize (x y : Value) : (Tryd.prog.info? 32).map (·.size) = some #[x, y].size := by
  have h : (Tryd.prog.info? 32).map (·.size) = some 2 := by kernel_rfl
  exact h
theorem ret_want {fn : Func} {p u : Tmp} (h : fn.results = #[.cell p 32, .tmp u]) (tmps : Array Value) (w : World) (g : Nat) (x y : Value)
    (hp : tmps.getD p undef = .pointer (some ⟨g, 0, none⟩)) (hg : w.heap[g]? = some (.cells #[x, y] 32 (0, 0))) :
    (results fn tmps).run Tryd.prog w = .ok (.tuple #[.agg #[x, y], tmps.getD u undef]) w :=
  results_pair h _ _ g 32 _ (0, 0) _ hp hg Tryd.underlying32 rfl (infoWantSize x y)
theorem put2_old {w : World} {g a : Nat} {o : Obj} (h : w.heap[a]? = some o) (hne : g ≠ a) (x y : Value) : ((w.setCell ⟨g, 0, none⟩ x).setCell ⟨g, 1, none⟩ y).heap[a]? = some o := by
  simp [World.setCell, Array.getElem?_modify, h, hne]
/-- What holds ahead of and behind the store of the answer. -/
def JR (w : World) (g : Nat) (x y : Int) (b : Bool) (V : World) : Prop :=
  Below w.heap.size w V ∧ V.heap[g]? = some (.cells #[.int .i64 x, .int .i64 y] 32 (0, 0)) ∧
    V.heap[w.heap.size]? = some (.cells #[.int .i64 (if b then x else 0), .int .i64 (if b then y else 0)] 32 (0, 0))
theorem JR.c0 {w V : World} {g : Nat} {x y : Int} {b : Bool} (h : JR w g x y b V) : V.cell? ⟨g, 0, none⟩ = some (.int .i64 x) := two0 h.2.1
theorem JR.c1 {w V : World} {g : Nat} {x y : Int} {b : Bool} (h : JR w g x y b V) : V.cell? ⟨g, 1, none⟩ = some (.int .i64 y) := two1 h.2.1
theorem JR.r0 {w V : World} {g : Nat} {x y : Int} (h : JR w g x y false V) : V.cell? ⟨w.heap.size, 0, none⟩ = some (.int .i64 0) := two0 h.2.2
theorem JR.r1 {w V : World} {g : Nat} {x y : Int} (h : JR w g x y false V) : V.cell? ⟨w.heap.size, 1, none⟩ = some (.int .i64 0) := two1 h.2.2
theorem JR.f {w V : World} {g : Nat} {x y : Int} {b : Bool} (h : JR w g x y b V) (j : Nat) : V.frozen? ⟨w.heap.size, j, none⟩ = false := free h.2.2 j
theorem JR.drew {w V : World} {g : Nat} {x y : Int} {b : Bool} (h : JR w g x y b V) : JR w g x y b V.drew := ⟨Bl.drewN h.1 1, h.2.1, h.2.2⟩
theorem JR.next {w V V' : World} {g : Nat} {x y : Int} {b : Bool} (h : JR w g x y b V) (hb : Below V.heap.size V V') : JR w g x y b V' := ⟨Bl.next h.1 hb, Bl.old hb (block_lt h.2.1) h.2.1, Bl.old hb (block_lt h.2.2) h.2.2⟩
theorem JR.put {w V : World} {g : Nat} {x y : Int} (h : JR w g x y false V) (hg : w.heap.size < g) : JR w g x y true ((V.setCell ⟨w.heap.size, 0, none⟩ (.int .i64 x)).setCell ⟨w.heap.size, 1, none⟩ (.int .i64 y)) :=
  ⟨put2_below h.1 (Nat.le_refl _) _ _, put2_old h.2.1 (by omega) _ _, put2 h.2.2 _ _⟩
set_option maxHeartbeats 4000000 in
theorem read_any (s : ByteArray) (c b : Nat) (m : Int) (w : World) (h : Reads w c b m) (hs : s.size ≤ maxLen) (hm : m ≤ 9223372036854775807) :
    Calls Tryd.prog 31 #[.string s, .pointer (some ⟨c, 0, none⟩)] w fun e w' => e = .returned (.tuple #[SV ((endV m (cutL s)).1, (endV m (cutR s)).1), .bool (readB m s)]) ∧ Below w.heap.size w w' := by
  have hlt := h.lt
  obtain ⟨L, hL⟩ : ∃ L, cutL s = L := ⟨_, rfl⟩
  obtain ⟨R, hR⟩ : ∃ R, cutR s = R := ⟨_, rfl⟩
  obtain ⟨B, hB⟩ : ∃ B, cutB s = B := ⟨_, rfl⟩
  have HC := Lib.hid (show Rc45.cutVal s = .tuple #[.string L, .string R, .bool B] from by rw [cut_val, hL, hR, hB])
  have hLs : L.size ≤ maxLen := by rw [← hL]; exact Nat.le_trans (cutL_le s) hs
  have hRs : R.size ≤ maxLen := by rw [← hR]; exact Nat.le_trans (cutR_le s) hs
  have HRB := Lib.hid (show readB m s = (B && (endV m L).2 && (endV m R).2 && fine ((endV m L).1, (endV m R).1)) from by unfold readB; rw [hL, hR, hB])
  rw [hL, hR]
  clear hL hR hB
  obtain ⟨x, hx⟩ : ∃ x, (endV m L).1 = x := ⟨_, rfl⟩
  obtain ⟨y, hy⟩ : ∃ y, (endV m R).1 = y := ⟨_, rfl⟩
  obtain ⟨bl, hbl⟩ : ∃ y, (endV m L).2 = y := ⟨_, rfl⟩
  obtain ⟨br, hbr⟩ : ∃ y, (endV m R).2 = y := ⟨_, rfl⟩
  have HEL := Lib.hid (show ∀ W : World, IVar W b m → Calls Tryd.prog 30 #[.string L, .pointer (some ⟨b, 0, none⟩)] W fun e w' => e = .returned (.tuple #[.int .i64 x, .bool bl]) ∧ W = w' from fun W h => by rw [← hx, ← hbl]; exact endNum_any L b m W h hLs hm)
  have HER := Lib.hid (show ∀ W : World, IVar W b m → Calls Tryd.prog 30 #[.string R, .pointer (some ⟨b, 0, none⟩)] W fun e w' => e = .returned (.tuple #[.int .i64 y, .bool br]) ∧ W = w' from fun W h => by rw [← hy, ← hbr]; exact endNum_any R b m W h hRs hm)
  rw [hx, hy, hbl, hbr] at HRB
  rw [hx, hy]
  clear hx hy hbl hbr hLs hRs hm
  have HSZ := Lib.hid hs
  have hb0 := (Below.refl w.heap.size w).alloc (Nat.le_refl _) (.cells #[.int .i64 0, .int .i64 0] 32)
  have HRD := Lib.hid (h.more hb0 hlt.1 hlt.2)
  have hr := new_block w (.cells #[.int .i64 0, .int .i64 0] 32)
  have hlt1 : c < (w.alloc (.cells #[.int .i64 0, .int .i64 0] 32)).heap.size ∧ b < (w.alloc (.cells #[.int .i64 0, .int .i64 0] 32)).heap.size := by simp; omega
  clear h hs
  go_enter Tryd.func31, Tryd.ntmps31
  go_wp2_with fail
  refine (Rc45.cut_any s _ HSZ.out).mono ?_
  rintro e w1 ⟨rfl, n, hw⟩
  rw [HC.out]
  have hb1 := Bl.drewN' (Below.refl (w.alloc (.cells #[.int .i64 0, .int .i64 0] 32)).heap.size _) hw
  have HR1 := Lib.hid (HRD.out.more hb1 hlt1.1 hlt1.2)
  have hr1 := Bl.old hb1 (block_lt hr) hr
  have hB1 := Bl.next hb0 hb1
  have cf : w1.cell? ⟨c, 0, none⟩ = some (.func (.func 30) #[] #[.pointer (some ⟨b, 0, none⟩)]) := by rw [Lib.cell_of_heap HR1.out.1]; rfl
  have hz1 : w.heap.size < w1.heap.size := block_lt hr1
  clear hw hb1 HRD hr hb0 hlt1 hlt HC
  go_wp2_with fail
  refine (HEL.out _ HR1.out.2).mono ?_
  rintro e w' ⟨rfl, rfl⟩
  go_wp2_with fail
  refine (HER.out _ HR1.out.2).mono ?_
  rintro e w' ⟨rfl, rfl⟩
  go_upto_region 5 with fail
  have hk5 := new_block w1 (.cells #[.int .i64 x, .int .i64 y] 32)
  have hr5 : (w1.alloc (.cells #[.int .i64 x, .int .i64 y] 32)).heap[w.heap.size]? = some (.cells #[.int .i64 0, .int .i64 0] 32 (0, 0)) := by rw [old_block _ _ hz1]; exact hr1
  have hB5 := hB1.alloc (Nat.le_of_lt hz1) (.cells #[.int .i64 x, .int .i64 y] 32)
  clear cf hr1 hB1 HR1
  generalize hW : w1.alloc (.cells #[.int .i64 x, .int .i64 y] 32) = W at hk5 hr5 hB5 ⊢
  generalize w1.heap.size = g at hk5 hz1 ⊢
  clear hW HEL HER HSZ
  have HJ := Lib.hid (show JR w g x y false W from ⟨hB5, hk5, hr5⟩)
  clear hk5 hr5 hB5
  cases B with
  | false =>
    refine Rg.sto_region (n := 46) (J := JR w g x y) (k0 := 12) [(4, .bool false), (34, .agg #[.int .i64 x, .int .i64 y]), (35, .bool false), (36, .bool false), (37, undef), (38, .bool false), (39, .bool false), (40, undef), (41, .bool false), (42, .bool false), (43, undef), (44, undef), (45, .bool false)] (by kernel_rfl) (by kernel_rfl) (by kernel_rfl) (by kernel_rfl) (by decide) (HJ.out.drew) (fun F hF => ?_)
    simp only [Rg.fill, List.setIfInBounds_toArray, List.set_cons_zero, List.set_cons_succ] at hF
    subst hF
    refine ⟨?_, fun V hJ => ?_⟩
    · show ∀ i, i < 14 → _
      repeat' refine Rg.below_succ ?_ ?_
      all_goals first
        | exact Rg.below_zero
        | (refine Rg.StepS.of rfl (by decide) ?_
           first
           | (left; exact ⟨by kernel_rfl, fun d hd => by injection hd with hd; subst hd; rfl⟩)
           | (right
              refine ⟨by kernel_rfl, fun b V hJ K hK => ?_⟩
              have c0 := hJ.c0
              have c1 := hJ.c1
              have HJ := Lib.hid hJ
              clear hJ
              go_simp
              first
                | exact hK _ HJ.out
                | (refine (told_any x y _).mono ?_; rintro e w9 ⟨rfl, hb⟩; exact hK _ (HJ.out.next hb))))
        | (refine Rg.StepS.st rfl (by kernel_rfl) (fun V hJ K hK => ?_)
           have c0 := hJ.r0
           have c1 := hJ.r1
           have f0 := hJ.f 0
           have f1 := hJ.f 1
           have HJ := Lib.hid hJ
           clear hJ
           go_simp
           exact hK _ (HJ.out.put hz1))
    · have hr := Lib.hid hJ.2.2
      have hB := Lib.hid hJ.1
      clear hJ
      go_wp2_with fail
      refine bodyPost_ret (ret_want rfl _ _ w.heap.size _ _ rfl hr.out) rfl ?_
      exact ⟨by rw [HRB.out]; rfl, hB.out⟩
  | true =>
  cases bl with
  | false =>
    refine Rg.sto_region (n := 46) (J := JR w g x y) (k0 := 12) [(4, .bool false), (34, .agg #[.int .i64 x, .int .i64 y]), (35, .bool true), (36, .bool true), (37, .bool false), (38, .bool false), (39, .bool false), (40, undef), (41, .bool false), (42, .bool false), (43, undef), (44, undef), (45, .bool false)] (by kernel_rfl) (by kernel_rfl) (by kernel_rfl) (by kernel_rfl) (by decide) (HJ.out.drew) (fun F hF => ?_)
    simp only [Rg.fill, List.setIfInBounds_toArray, List.set_cons_zero, List.set_cons_succ] at hF
    subst hF
    refine ⟨?_, fun V hJ => ?_⟩
    · show ∀ i, i < 14 → _
      repeat' refine Rg.below_succ ?_ ?_
      all_goals first
        | exact Rg.below_zero
        | (refine Rg.StepS.of rfl (by decide) ?_
           first
           | (left; exact ⟨by kernel_rfl, fun d hd => by injection hd with hd; subst hd; rfl⟩)
           | (right
              refine ⟨by kernel_rfl, fun b V hJ K hK => ?_⟩
              have c0 := hJ.c0
              have c1 := hJ.c1
              have HJ := Lib.hid hJ
              clear hJ
              go_simp
              first
                | exact hK _ HJ.out
                | (refine (told_any x y _).mono ?_; rintro e w9 ⟨rfl, hb⟩; exact hK _ (HJ.out.next hb))))
        | (refine Rg.StepS.st rfl (by kernel_rfl) (fun V hJ K hK => ?_)
           have c0 := hJ.r0
           have c1 := hJ.r1
           have f0 := hJ.f 0
           have f1 := hJ.f 1
           have HJ := Lib.hid hJ
           clear hJ
           go_simp
           exact hK _ (HJ.out.put hz1))
    · have hr := Lib.hid hJ.2.2
      have hB := Lib.hid hJ.1
      clear hJ
      go_wp2_with fail
      refine bodyPost_ret (ret_want rfl _ _ w.heap.size _ _ rfl hr.out) rfl ?_
      exact ⟨by rw [HRB.out]; rfl, hB.out⟩
  | true =>
  cases br with
  | false =>
    refine Rg.sto_region (n := 46) (J := JR w g x y) (k0 := 12) [(4, .bool false), (34, .agg #[.int .i64 x, .int .i64 y]), (35, .bool true), (36, .bool true), (37, .bool true), (38, .bool true), (39, .bool true), (40, .bool false), (41, .bool false), (42, .bool false), (43, undef), (44, undef), (45, .bool false)] (by kernel_rfl) (by kernel_rfl) (by kernel_rfl) (by kernel_rfl) (by decide) (HJ.out.drew) (fun F hF => ?_)
    simp only [Rg.fill, List.setIfInBounds_toArray, List.set_cons_zero, List.set_cons_succ] at hF
    subst hF
    refine ⟨?_, fun V hJ => ?_⟩
    · show ∀ i, i < 14 → _
      repeat' refine Rg.below_succ ?_ ?_
      all_goals first
        | exact Rg.below_zero
        | (refine Rg.StepS.of rfl (by decide) ?_
           first
           | (left; exact ⟨by kernel_rfl, fun d hd => by injection hd with hd; subst hd; rfl⟩)
           | (right
              refine ⟨by kernel_rfl, fun b V hJ K hK => ?_⟩
              have c0 := hJ.c0
              have c1 := hJ.c1
              have HJ := Lib.hid hJ
              clear hJ
              go_simp
              first
                | exact hK _ HJ.out
                | (refine (told_any x y _).mono ?_; rintro e w9 ⟨rfl, hb⟩; exact hK _ (HJ.out.next hb))))
        | (refine Rg.StepS.st rfl (by kernel_rfl) (fun V hJ K hK => ?_)
           have c0 := hJ.r0
           have c1 := hJ.r1
           have f0 := hJ.f 0
           have f1 := hJ.f 1
           have HJ := Lib.hid hJ
           clear hJ
           go_simp
           exact hK _ (HJ.out.put hz1))
    · have hr := Lib.hid hJ.2.2
      have hB := Lib.hid hJ.1
      clear hJ
      go_wp2_with fail
      refine bodyPost_ret (ret_want rfl _ _ w.heap.size _ _ rfl hr.out) rfl ?_
      exact ⟨by rw [HRB.out]; rfl, hB.out⟩
  | true =>
    refine Rg.sto_region (n := 46) (J := JR w g x y) (k0 := 12) [(4, .bool (Rm.fine (x, y))), (34, .agg #[.int .i64 x, .int .i64 y]), (35, .bool true), (36, .bool true), (37, .bool true), (38, .bool true), (39, .bool true), (40, .bool true), (41, .bool true), (42, .bool true), (43, .agg #[.int .i64 x, .int .i64 y]), (44, .bool (Rm.fine (x, y))), (45, .bool (Rm.fine (x, y)))] (by kernel_rfl) (by kernel_rfl) (by kernel_rfl) (by kernel_rfl) (by decide) (HJ.out.drew) (fun F hF => ?_)
    simp only [Rg.fill, List.setIfInBounds_toArray, List.set_cons_zero, List.set_cons_succ] at hF
    subst hF
    refine ⟨?_, fun V hJ => ?_⟩
    · show ∀ i, i < 14 → _
      repeat' refine Rg.below_succ ?_ ?_
      all_goals first
        | exact Rg.below_zero
        | (refine Rg.StepS.of rfl (by decide) ?_
           first
           | (left; exact ⟨by kernel_rfl, fun d hd => by injection hd with hd; subst hd; rfl⟩)
           | (right
              refine ⟨by kernel_rfl, fun b V hJ K hK => ?_⟩
              have c0 := hJ.c0
              have c1 := hJ.c1
              have HJ := Lib.hid hJ
              clear hJ
              go_simp
              first
                | exact hK _ HJ.out
                | (refine (told_any x y _).mono ?_; rintro e w9 ⟨rfl, hb⟩; exact hK _ (HJ.out.next hb))))
        | (refine Rg.StepS.st rfl (by kernel_rfl) (fun V hJ K hK => ?_)
           have c0 := hJ.r0
           have c1 := hJ.r1
           have f0 := hJ.f 0
           have f1 := hJ.f 1
           have HJ := Lib.hid hJ
           clear hJ
           go_simp
           exact hK _ (HJ.out.put hz1))
    · have hr := Lib.hid hJ.2.2
      have hB := Lib.hid hJ.1
      clear hJ
      go_wp2_with fail
      refine bodyPost_ret (ret_want rfl _ _ w.heap.size _ _ rfl hr.out) rfl ?_
      exact ⟨by rw [HRB.out]; rfl, hB.out⟩
end Go.Proofs.YthhnpdihgoiccaaDoor.Rn
