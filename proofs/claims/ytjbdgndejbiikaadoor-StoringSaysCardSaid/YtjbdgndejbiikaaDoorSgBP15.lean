/-
  Texts that the laws' proofs stand on, 3 of them in one file; each one's head says what it proves and under which condition.
-/
import Derived.Test.YtjbdgndejbiikaaDoorSgBP14
import Derived.Laws.ResultCell
/-
  date.read: what it returns of any text, by any form whose letters are those of the forms. Conditions: the tables hold what the program's text lays; a text of at most a million bytes.
-/
namespace Go.Proofs.YtjbdgndejbiikaaDoor.Dp
open Go.RowKit Go.Proofs.YtjbdgndejbiikaaDoor.Dt
set_option linter.unusedVariables false

/-- What read has laid when its loop begins. -/
theorem finv_start (w : World) (s : Bs) (hs : s.length ≤ 1000000) : FInv w w.heap.size zeros s
    (((((((w.alloc (.cells #[.string (B s)] 9)).alloc (.cells (ints zeros) 102)).alloc (.cells (ints zeros) 102)).alloc (.cells #[.pointer (some ⟨w.heap.size + 2, 0, none⟩)] 121)).alloc (.cells #[.pointer (some ⟨w.heap.size, 0, none⟩)] 122)).alloc (.cells #[.func (.func 72) #[] #[.pointer (some ⟨w.heap.size + 4, 0, none⟩)]] 129)).alloc
        (.cells #[.func (.func 74) #[] #[.pointer (some ⟨w.heap.size + 4, 0, none⟩)]] 132)) := by
  have hb : ∀ (a : World) (o : Obj), Below w.heap.size w a → Below w.heap.size w (a.alloc o) := fun a o h => h.alloc h.size o
  refine ⟨rfl, rfl, hs, ?_, ?_, ?_, ?_, ?_, ?_, ?_, hb _ _ (hb _ _ (hb _ _ (hb _ _ (hb _ _ (hb _ _ (hb _ _ (Below.refl _ _)))))))⟩
  all_goals
    show (((((((w.heap.push _).push _).push _).push _).push _).push _).push _)[_]? = _
    simp only [Array.getElem?_push, Array.size_push]
    repeat first | rw [if_pos (by omega)] | rw [if_neg (by omega)]
    try rfl
theorem reads_at (w0 w : World) (b : Nat) (c l : UInt8) (R : List Int) (s : Bs) (e : c = l) (hc : l ∈ letters) (hE : Env w0) (h : FInv w0 b R s w) :
    Calls Tryd.prog 76 #[.int .u8 (c.toNat : Int), .pointer (some ⟨b + 3 + 3, 0, none⟩), .pointer (some ⟨b + 3, 0, none⟩), .pointer (some ⟨b + 3 + 2, 0, none⟩), .pointer (some ⟨b + 3 + 1, 0, none⟩)] w
      fun e w' => e = .returned (.bool (fieldF l R s).1) ∧ FInv w0 b (fieldF l R s).2.1 (fieldF l R s).2.2 w' := by
  subst e; exact reads_any w0 w b c R s hc hE h
/-- The cells of what is handed back. -/
theorem seven_cells {w : World} {g : Nat} {t : TypeId} {R : List Int} (h : w.heap[g]? = some (.cells (ints R) t (0, 0))) (hR : R.length = 7) : ∃ a0 a1 a2 a3 a4 a5 a6 : Int, R = [a0, a1, a2, a3, a4, a5, a6] ∧
    w.cell? ⟨g, 0, none⟩ = some (.int .i64 a0) ∧ w.cell? ⟨g, 1, none⟩ = some (.int .i64 a1) ∧ w.cell? ⟨g, 2, none⟩ = some (.int .i64 a2) ∧ w.cell? ⟨g, 3, none⟩ = some (.int .i64 a3) ∧ w.cell? ⟨g, 4, none⟩ = some (.int .i64 a4) ∧ w.cell? ⟨g, 5, none⟩ = some (.int .i64 a5) ∧ w.cell? ⟨g, 6, none⟩ = some (.int .i64 a6) := by
  match R, hR with
  | [a0, a1, a2, a3, a4, a5, a6], hR =>
    refine ⟨a0, a1, a2, a3, a4, a5, a6, rfl, ?_⟩
    have k := fun i hi => ints_at h i hi
    exact ⟨k 0 (by simp), k 1 (by simp), k 2 (by simp), k 3 (by simp), k 4 (by simp), k 5 (by simp), k 6 (by simp)⟩
theorem seven_free {w : World} {g : Nat} {t : TypeId} {R : List Int} (h : w.heap[g]? = some (.cells (ints R) t (0, 0))) :
    w.frozen? ⟨g, 0, none⟩ = false ∧ w.frozen? ⟨g, 1, none⟩ = false ∧ w.frozen? ⟨g, 2, none⟩ = false ∧ w.frozen? ⟨g, 3, none⟩ = false ∧ w.frozen? ⟨g, 4, none⟩ = false ∧ w.frozen? ⟨g, 5, none⟩ = false ∧ w.frozen? ⟨g, 6, none⟩ = false :=
  ⟨ints_free h 0, ints_free h 1, ints_free h 2, ints_free h 3, ints_free h 4, ints_free h 5, ints_free h 6⟩
theorem results_pair {P : Program} {fn : Func} {p u : Tmp} {ty : TypeId} (h : fn.results = #[.cell p ty, .tmp u]) (tmps : Array Value) (w : World) (g : Nat) (t : TypeId) (cs : Array Value) (fr : Nat × Nat) (d : TypeDesc)
    (hp : tmps.getD p undef = .pointer (some ⟨g, 0, none⟩)) (hg : w.heap[g]? = some (.cells cs t fr))
    (hu : P.underlying ty = some d) (hd : (match d with | .struct _ | .array _ _ => true | _ => false) = true) (hi : (P.info? ty).map (·.size) = some cs.size) :
    (results fn tmps).run P w = .ok (.tuple #[.agg cs, tmps.getD u undef]) w := by
  rw [results_cell_tmp h, hp]
  simp [asAddr, run_loadVar_row w g t ty cs fr d hg hu hd hi]
theorem infoReading : (Tryd.prog.info? 102).map (·.size) = some 7 := by kernel_rfl
def put7 (w : World) (g : Nat) (a0 a1 a2 a3 a4 a5 a6 : Int) : World :=
  ((((((w.setCell ⟨g, 0, none⟩ (.int .i64 a0)).setCell ⟨g, 1, none⟩ (.int .i64 a1)).setCell ⟨g, 2, none⟩ (.int .i64 a2)).setCell ⟨g, 3, none⟩ (.int .i64 a3)).setCell ⟨g, 4, none⟩ (.int .i64 a4)).setCell ⟨g, 5, none⟩ (.int .i64 a5)).setCell ⟨g, 6, none⟩ (.int .i64 a6)
theorem put7_at {w : World} {g : Nat} {t : TypeId} {R : List Int} (h : w.heap[g]? = some (.cells (ints R) t (0, 0))) (hR : R.length = 7) (a0 a1 a2 a3 a4 a5 a6 : Int) :
    (put7 w g a0 a1 a2 a3 a4 a5 a6).heap[g]? = some (.cells (ints [a0, a1, a2, a3, a4, a5, a6]) t (0, 0)) := by
  match R, hR with
  | [b0, b1, b2, b3, b4, b5, b6], _ =>
    unfold put7
    have k : ∀ {w : World} {R : List Int} (i : Nat) (a : Int), w.heap[g]? = some (.cells (ints R) t (0, 0)) → (w.setCell ⟨g, i, none⟩ (.int .i64 a)).heap[g]? = some (.cells (ints (R.set i a)) t (0, 0)) := fun i a hh => by
      rw [heap_setCell_same _ _ _ _ _ _ hh, ints_set]
    exact k 6 a6 (k 5 a5 (k 4 a4 (k 3 a3 (k 2 a2 (k 1 a1 (k 0 a0 h))))))
theorem put7_below {w0 w : World} {g C : Nat} (h : Below C w0 w) (hg : C ≤ g) (a0 a1 a2 a3 a4 a5 a6 : Int) : Below C w0 (put7 w g a0 a1 a2 a3 a4 a5 a6) :=
  ((((((h.setCell (p := ⟨g, 0, none⟩) hg _).setCell (p := ⟨g, 1, none⟩) hg _).setCell (p := ⟨g, 2, none⟩) hg _).setCell (p := ⟨g, 3, none⟩) hg _).setCell (p := ⟨g, 4, none⟩) hg _).setCell (p := ⟨g, 5, none⟩) hg _).setCell (p := ⟨g, 6, none⟩) hg _
set_option maxHeartbeats 2000000 in
theorem read_any (s form : Bs) (w : World) (hs : s.length ≤ 1000000) (hf : form.length ≤ 1000000) (hok : okForm form = true) (hE : Env w) :
    Calls Tryd.prog 53 #[.string (B s), .string (B form)] w fun e w' => e = .returned (.tuple #[.agg (ints (readF form zeros s).2), .bool (readF form zeros s).1]) ∧ Below w.heap.size w w' := by
  have HE := Lib.hid hE
  have HS := Lib.hid hs
  have HOK := Lib.hid hok
  obtain ⟨F, hF⟩ : ∃ F, F = B form := ⟨_, rfl⟩
  have hFs : F.size = form.length := by rw [hF, B_size]
  have hFl : F.data.toList = form := by rw [hF, B_list]
  rw [← hF]
  have HFl := Lib.hid hFl
  have HFs := Lib.hid hFs
  have hlim : F.size ≤ 1000000 := by omega
  clear hE hs hok hF hFs hFl hf
  go_enter Tryd.func53, Tryd.ntmps53
  go_wp2_with fail
  refine (fieldReader_at _ _ _ (w.heap.size + 3) (by simp)).mono ?_
  rintro e w' ⟨rfl, hw'⟩
  have hI : FInv w w.heap.size zeros s w' := by rw [hw']; exact finv_start w s HS.out
  clear hw'
  have HI0 := Lib.hid hI
  clear hI HS
  go_wp2_with fail
  go_loopw [8] (fun i wr => ∃ (j : Nat) (R : List Int) (t : Bs), j ≤ F.size ∧ i = .int .i64 (j : Int) ∧ Hid (FInv w w.heap.size R t wr) ∧ Hid (readF form zeros s = readF (form.drop j) R t) ∧ Hid (okForm (form.drop j) = true)) (fun i _ => F.size - (intOf i).toNat)
  case atStart => exact ⟨0, zeros, s, Nat.zero_le _, rfl, HI0, Lib.hid rfl, HOK⟩
  case round =>
    obtain ⟨j, R, t, hj, rfl, HI, HR, HO⟩ := hrel
    by_cases hlt : j < F.size
    · have hdrop : form.drop j = F[j] :: form.drop (j + 1) := by
        have h1 : j < form.length := by rw [← HFs.out]; exact hlt
        have h2 : form[j] = F[j] := by
          have e := HFl.out
          subst e; rfl
        rw [List.drop_eq_getElem_cons h1, h2]
      by_cases hc : F[j] = 37
      · have hok := HO.out
        rw [hdrop, hc] at hok
        obtain ⟨l, r, hl, hlet, hokr⟩ := okForm_field hok
        have h1 : j + 1 < form.length := by
          rcases Nat.lt_or_ge (j + 1) form.length with h | h
          · exact h
          · rw [List.drop_eq_nil_of_le h] at hl; cases hl
        have h2 : j + 1 < F.size := by rw [HFs.out]; exact h1
        have h3 : F[j + 1] = l := by
          have e : form.drop (j + 1) = form[j + 1] :: form.drop (j + 1 + 1) := List.drop_eq_getElem_cons h1
          rw [hl] at e
          injection e with e1 e2
          rw [e1]
          have e := HFl.out
          subst e; rfl
        have h4 : form.drop (j + 1 + 1) = r := by
          have e : form.drop (j + 1) = form[j + 1] :: form.drop (j + 1 + 1) := List.drop_eq_getElem_cons h1
          rw [hl] at e
          injection e with e1 e2
          exact e2.symm
        have hrd : readF form zeros s = if (fieldF l R t).1 = true then readF r (fieldF l R t).2.1 (fieldF l R t).2.2 else (false, zeros) := by
          rw [HR.out, hdrop, hc, hl, readF_field]
        have t37 : ((F[j].toNat : Int) == 37) = true := by rw [hc]; rfl
        have HL := Lib.hid hlet
        have HO2 := Lib.hid hokr
        have H4 := Lib.hid h4
        have H3 := Lib.hid h3
        cases hok1 : (fieldF l R t).1 with
        | true =>
          rw [hok1, if_pos rfl] at hrd
          have HRD := Lib.hid hrd
          have HK1 := Lib.hid hok1
          clear hok hl hlet hokr h1 h4 hrd hdrop hc hok1 HO HR h3
          go_wp2_with fail
          refine (reads_at w _ w.heap.size _ l R t H3.out HL.out HE.out HI.out).mono ?_
          rintro e w2 ⟨rfl, hI2⟩
          have HI2 := Lib.hid hI2
          clear hI2
          rw [HK1.out]
          go_wp2_with fail
          go_roundw
          case rel => exact ⟨j + 1 + 1, _, _, by omega, by go_num, HI2, by rw [H4.out]; exact HRD, by rw [H4.out]; exact HO2⟩
          case measure => simp [intOf]; omega
        | false =>
          rw [hok1, if_neg (by simp)] at hrd
          have HRD := Lib.hid hrd
          have HK1 := Lib.hid hok1
          clear hok hl hlet hokr h1 h4 hrd hdrop hc hok1 HO HR h3
          go_wp2_with fail
          refine (reads_at w _ w.heap.size _ l R t H3.out HL.out HE.out HI.out).mono ?_
          rintro e w2 ⟨rfl, hI2⟩
          obtain ⟨_, _, _, _, _, _, _, hz, z0, z1, z2, z3, z4, z5, z6⟩ := seven_cells hI2.vq rfl
          obtain ⟨g0, g1, g2, g3, g4, g5, g6⟩ := seven_free hI2.vq
          injection hz with e0 hz; injection hz with e1 hz; injection hz with e2 hz; injection hz with e3 hz; injection hz with e4 hz; injection hz with e5 hz; injection hz with e6 hz
          subst e0 e1 e2 e3 e4 e5 e6
          have HI2 := Lib.hid hI2
          clear hI2 hz
          rw [HK1.out]
          go_wp2_with fail
          refine bodyPost_ret (results_pair rfl _ _ (w.heap.size + 1) 102 (ints zeros) (0, 0) _ rfl (put7_at HI2.out.vq rfl 0 0 0 0 0 0 0) Tryd.underlying102 rfl infoReading) rfl ?_
          exact ⟨by rw [HRD.out]; rfl, put7_below HI2.out.below (by omega) 0 0 0 0 0 0 0⟩
      · have hokr := okForm_plain hc (by have h := HO.out; rwa [hdrop] at h)
        have t37 : ((F[j].toNat : Int) == 37) = false := beq_eq_false_iff_ne.2 (by intro e; apply hc; apply UInt8.toNat.inj; simpa using (by omega : F[j].toNat = 37))
        have c0 := cell_of_one HI.out.vs
        have f0 := free_of_one HI.out.vs
        have HO2 := Lib.hid hokr
        have HI2 := HI
        cases t with
        | nil =>
          have hrd : readF form zeros s = (false, zeros) := by rw [HR.out, hdrop, readF_none R hc]
          have HRD := Lib.hid hrd
          obtain ⟨S, hS⟩ : ∃ S, S = B [] := ⟨_, rfl⟩
          have he := text_empty (s := S) (by rw [hS, B_size]; rfl)
          have he' : (S.toList == []) = true := by rw [he]; rfl
          rw [← hS] at c0
          obtain ⟨_, _, _, _, _, _, _, hz, z0, z1, z2, z3, z4, z5, z6⟩ := seven_cells HI2.out.vq rfl
          obtain ⟨g0, g1, g2, g3, g4, g5, g6⟩ := seven_free HI2.out.vq
          injection hz with e0 hz; injection hz with e1 hz; injection hz with e2 hz; injection hz with e3 hz; injection hz with e4 hz; injection hz with e5 hz; injection hz with e6 hz
          subst e0 e1 e2 e3 e4 e5 e6
          clear hz
          clear hrd hokr hdrop hc hS HO HR
          go_wp2_with fail
          go_quiet (fail)
          go_wp2_with fail
          refine bodyPost_ret (results_pair rfl _ _ (w.heap.size + 1) 102 (ints zeros) (0, 0) _ rfl (put7_at (HI2.out.drawn (n := nq) rfl).vq rfl 0 0 0 0 0 0 0) Tryd.underlying102 rfl infoReading) rfl ?_
          exact ⟨by rw [HRD.out]; rfl, put7_below (HI2.out.drawn (n := nq) rfl).below (by omega) 0 0 0 0 0 0 0⟩
        | cons x t =>
          obtain ⟨S, hS⟩ : ∃ S, S = B (x :: t) := ⟨_, rfl⟩
          have hsz : S.size = t.length + 1 := by rw [hS, B_size]; rfl
          have he := text_full (s := S) (by omega)
          have h0 : S[0]'(by omega) = x := by subst hS; rfl
          have hpos : 0 < S.size := by omega
          rw [← hS] at c0
          by_cases hx : x = F[j]
          · have hrd : readF form zeros s = readF (form.drop (j + 1)) R t := by rw [HR.out, hdrop, hx, readF_hit R t hc]
            have HRD := Lib.hid hrd
            have tx : ((x.toNat : Int) != (F[j].toNat : Int)) = false := by rw [hx]; simp
            obtain ⟨T, hT⟩ : ∃ T, T = B t := ⟨_, rfl⟩
            have hxt : S.extract 1 S.size = T := by rw [B_drop, hS, B_list, hT]; rfl
            have hxt' : S.extract 1 (t.length + 1) = T := by rw [← hsz]; exact hxt
            have hpos1 : (1 : Int) ≤ (S.size : Int) := by omega
            have HJ := Lib.hid (HI.out.setS t (by simp))
            rw [← hT] at HJ
            clear hrd hokr hdrop hc hS HO HR hx hT HI2
            go_wp2_with fail
            go_quiet (fail)
            go_wp2_with fail
            go_roundw
            case rel => exact ⟨j + 1, R, t, by omega, by go_num, Lib.hid (HJ.out.drawn rfl), HRD, HO2⟩
            case measure => simp [intOf]; omega
          · have hrd : readF form zeros s = (false, zeros) := by rw [HR.out, hdrop, readF_miss R t hc hx]
            have HRD := Lib.hid hrd
            have tx : ((x.toNat : Int) != (F[j].toNat : Int)) = true := by
              rw [bne_iff_ne]; intro e; apply hx; apply UInt8.toNat.inj; omega
            obtain ⟨_, _, _, _, _, _, _, hz, z0, z1, z2, z3, z4, z5, z6⟩ := seven_cells HI2.out.vq rfl
            obtain ⟨g0, g1, g2, g3, g4, g5, g6⟩ := seven_free HI2.out.vq
            injection hz with e0 hz; injection hz with e1 hz; injection hz with e2 hz; injection hz with e3 hz; injection hz with e4 hz; injection hz with e5 hz; injection hz with e6 hz
            subst e0 e1 e2 e3 e4 e5 e6
            clear hz
            clear hrd hokr hdrop hc hS HO HR hx
            go_wp2_with fail
            go_quiet (fail)
            go_wp2_with fail
            refine bodyPost_ret (results_pair rfl _ _ (w.heap.size + 1) 102 (ints zeros) (0, 0) _ rfl (put7_at (HI2.out.drawn (n := nq) rfl).vq rfl 0 0 0 0 0 0 0) Tryd.underlying102 rfl infoReading) rfl ?_
            exact ⟨by rw [HRD.out]; rfl, put7_below (HI2.out.drawn (n := nq) rfl).below (by omega) 0 0 0 0 0 0 0⟩
    · have hrd : readF form zeros s = (t.isEmpty, R) := by
        rw [HR.out, List.drop_eq_nil_of_le (by rw [← HFs.out]; omega), readF]
      have HRD := Lib.hid hrd
      have c0 := cell_of_one HI.out.vs
      obtain ⟨S, hS⟩ : ∃ S, S = B t := ⟨_, rfl⟩
      have he : S.toList.isEmpty = t.isEmpty := by rw [hS, ByteArray.toList_eq, B_list]
      rw [← hS] at c0
      obtain ⟨_, _, _, _, _, _, _, hz, z0, z1, z2, z3, z4, z5, z6⟩ := seven_cells HI.out.vq rfl
      obtain ⟨g0, g1, g2, g3, g4, g5, g6⟩ := seven_free HI.out.vq
      injection hz with e0 hz; injection hz with e1 hz; injection hz with e2 hz; injection hz with e3 hz; injection hz with e4 hz; injection hz with e5 hz; injection hz with e6 hz
      subst e0 e1 e2 e3 e4 e5 e6
      have vr' : wr.heap[w.heap.size + 1 + 1]? = some (.cells (ints R) 102 (0, 0)) := HI.out.vr
      obtain ⟨a0, a1, a2, a3, a4, a5, a6, hRR, r0, r1, r2, r3, r4, r5, r6⟩ := seven_cells vr' HI.out.len
      have HRR := Lib.hid hRR
      clear hrd hS HO HR hz vr' hRR
      go_wp2_with fail
      have hg : (put7 wr (w.heap.size + 1) a0 a1 a2 a3 a4 a5 a6).drew.heap[w.heap.size + 1]? = some (.cells (ints [a0, a1, a2, a3, a4, a5, a6]) 102 (0, 0)) := by rw [heap_drew]; exact put7_at HI.out.vq rfl a0 a1 a2 a3 a4 a5 a6
      have hb := (put7_below HI.out.below (show w.heap.size ≤ w.heap.size + 1 by omega) a0 a1 a2 a3 a4 a5 a6).drew
      unfold put7 at hg hb
      have HG := Lib.hid hg
      have HB := Lib.hid hb
      clear hg hb
      go_region
      go_wp2_with fail
      refine bodyPost_ret (results_pair rfl _ _ (w.heap.size + 1) 102 (ints [a0, a1, a2, a3, a4, a5, a6]) (0, 0) _ rfl HG.out Tryd.underlying102 rfl infoReading) rfl ?_
      exact ⟨by rw [HRD.out, HRR.out]; rfl, HB.out⟩
end Go.Proofs.YtjbdgndejbiikaaDoor.Dp
/-
  date.reading.seconds of what there is, and date.Parse of a text that one of the forms reads so: what each returns. Conditions: the tables hold what the program's text lays; a text of at most a million bytes.
-/
namespace Go.Proofs.YtjbdgndejbiikaaDoor.Dp
open Go.RowKit Go.Proofs.YtjbdgndejbiikaaDoor.Dt
set_option linter.unusedVariables false

theorem below_drawn {C : Nat} {a w w' : World} {n : Nat} (h : Below C a w) (e : w' = w.drewN n) : Below C a w' := by
  subst e; exact ⟨h.os, h.tape, h.output, h.size, h.block⟩
set_option maxHeartbeats 2000000 in
theorem seconds_ok (wd y d h mi s : Int) (k : Nat) (w : World) (hE : Env w) (hv : Valid y k d) (hw : (dayOf y k d + 3) % 7 = wd) (h0 : 0 ≤ h) (h1 : h ≤ 23) (m0 : 0 ≤ mi) (m1 : mi ≤ 59) (s0 : 0 ≤ s) (s1 : s ≤ 59) :
    Calls Tryd.prog 54 #[.agg #[.int .i64 wd, .int .i64 y, .int .i64 ((k : Int) + 1), .int .i64 d, .int .i64 h, .int .i64 mi, .int .i64 s]] w
      fun e w' => e = .returned (.tuple #[.int .i64 (dayOf y k d * 86400 + h * 3600 + mi * 60 + s), .bool true]) ∧ Below w.heap.size w w' := by
  have hr := hv.range
  have HV := Lib.hid hv
  have hmin : min s 59 = s := by omega
  obtain ⟨D, hD⟩ : ∃ D, D = dayOf y k d := ⟨_, rfl⟩
  rw [← hD] at hr hw ⊢
  have HD := Lib.hid hD
  have HM := Lib.hid ((hE.below ((Below.refl w.heap.size w).alloc (Nat.le_refl _) (.cells #[.int .i64 wd, .int .i64 y, .int .i64 ((k : Int) + 1), .int .i64 d, .int .i64 h, .int .i64 mi, .int .i64 s] 102)) (Nat.le_refl _)).md)
  have hneg : decide (D < 0) = false := decide_eq_false (by omega)
  have hneg' : ¬ D < 0 := by omega
  have HW := Lib.hid hw
  have HQ := Lib.hid (fun w' : World => (weekday_any D w' (by omega) (by omega)).mono (R' := fun e w'' => e = .returned (.int .i64 ((D + 3) % 7)) ∧ w'' = w') fun _ _ h => ⟨h.1, h.2.symm⟩)
  have hbq : ((D + 3) % 7 != wd) = false := by rw [hw]; simp
  clear hE hv hD
  go_enter Tryd.func54, Tryd.ntmps54
  go_wp2_with fail
  refine (days_valid _ _ _ k _ rfl HV.out HM.out).mono ?_
  rintro e w' ⟨rfl, rfl⟩
  rw [← HD.out]
  generalize hwa : w.alloc (.cells #[.int .i64 wd, .int .i64 y, .int .i64 ((k : Int) + 1), .int .i64 d, .int .i64 h, .int .i64 mi, .int .i64 s] 102) = wa
  have hva : wa.heap[w.heap.size]? = some (.cells (ints [wd, y, (k : Int) + 1, d, h, mi, s]) 102 (0, 0)) := by rw [← hwa]; exact heap_alloc_new _ _
  have HBA := Lib.hid (show Below w.heap.size w wa from by rw [← hwa]; exact (Below.refl _ _).alloc (Nat.le_refl _) _)
  have a0 := ints_at hva 0 (by simp)
  have a4 := ints_at hva 4 (by simp)
  have a5 := ints_at hva 5 (by simp)
  have a6 := ints_at hva 6 (by simp)
  simp only [List.getD_cons_zero, List.getD_cons_succ] at a0 a4 a5 a6
  clear hwa hva HM
  go_wp2_with fail
  go_quiet ((go_at_call 65; exact Calls.quiet_of_same (HQ.out _)))
  go_wp2_with fail
  go_ret2
  exact ⟨rfl, below_drawn HBA.out rfl⟩
/-- A reading that there is a second of. -/
structure There (R : List Int) (y : Int) (k : Nat) (d : Int) (c : Int) : Prop where
  eq : R = [(dayOf y k d + 3) % 7, y, (k : Int) + 1, d, c / 3600, c / 60 % 60, c % 60]
  valid : Valid y k d
  c0 : 0 ≤ c
  c1 : c < 86400
theorem There.seconds {R : List Int} {y : Int} {k : Nat} {d c : Int} (h : There R y k d c) (w : World) (hE : Env w) :
    Calls Tryd.prog 54 #[.agg (ints R)] w fun e w' => e = .returned (.tuple #[.int .i64 (dayOf y k d * 86400 + c), .bool true]) ∧ Below w.heap.size w w' := by
  rw [h.eq]
  have c0 := h.c0
  have c1 := h.c1
  have := seconds_ok _ y d (c / 3600) (c / 60 % 60) (c % 60) k w hE h.valid rfl (by omega) (by omega) (by omega) (by omega) (by omega) (by omega)
  rw [show dayOf y k d * 86400 + c / 3600 * 3600 + c / 60 % 60 * 60 + c % 60 = dayOf y k d * 86400 + c by omega] at this
  exact this
theorem put_length (i : Nat) (R : List Int) (s : Bs) (r : Option (Int × Bs)) : (put i R s r).2.1.length = R.length := by
  cases r <;> simp [put]
theorem fieldF_length (c : UInt8) (R : List Int) (s : Bs) (h : R.length = 7) : (fieldF c R s).2.1.length = 7 := by
  have hn : ∀ i k s, (numF i k R s).2.1.length = 7 := fun i k s => (put_length i R s _).trans h
  have hm : ∀ i k s, (nameF i k R s).2.1.length = 7 := fun i k s => (put_length i R s _).trans h
  unfold fieldF
  repeat' split
  all_goals simp [hn, hm]
theorem readF_length : ∀ (f : Bs) (R : List Int) (s : Bs), R.length = 7 → (readF f R s).2.length = 7
  | [], R, s, h => by simp [readF, h]
  | [c], R, s, h => by
    unfold readF
    split
    · rfl
    · split
      · rfl
      · split
        · exact h
        · rfl
  | c :: l :: f, R, s, h => by
    unfold readF
    split
    · split
      · exact readF_length f _ _ (fieldF_length l R s h)
      · rfl
    · split
      · rfl
      · split
        · exact readF_length (l :: f) _ _ h
        · rfl
theorem seven (Q : List Int) (h : Q.length = 7) : ∃ q0 q1 q2 q3 q4 q5 q6, Q = [q0, q1, q2, q3, q4, q5, q6] := by
  match Q, h with
  | [q0, q1, q2, q3, q4, q5, q6], _ => exact ⟨q0, q1, q2, q3, q4, q5, q6, rfl⟩
theorem formTexts_ok (j : Nat) (hj : j < 3) : okForm (formTexts.getD j []) = true ∧ (formTexts.getD j []).length ≤ 1000000 := by
  match j, hj with
  | 0, _ | 1, _ | 2, _ => decide
set_option maxHeartbeats 2000000 in
theorem parse_ok (s : Bs) (i : Nat) (R : List Int) (y : Int) (k : Nat) (d c : Int) (w : World) (hs : s.length ≤ 1000000) (hE : Env w) (hF : FM w) (hi : i < 3)
    (hbad : ∀ j, j < i → (readF (formTexts.getD j []) zeros s).1 = false) (hgood : readF (formTexts.getD i []) zeros s = (true, R)) (hR : There R y k d c) :
    Calls Tryd.prog 39 #[.string (B s)] w fun e w' => e = .returned (.tuple #[.int .i64 (dayOf y k d * 86400 + c), .bool true]) ∧ Below w.heap.size w w' := by
  have HE := Lib.hid hE
  have HF := Lib.hid hF
  have HS := Lib.hid hs
  have HBAD := Lib.hid hbad
  have HGOOD := Lib.hid hgood
  have HR := Lib.hid hR
  obtain ⟨S, hS⟩ : ∃ S, S = B s := ⟨_, rfl⟩
  rw [← hS]
  have HSE := Lib.hid hS
  clear hE hF hs hbad hgood hR hS
  go_enter Tryd.func39, Tryd.ntmps39
  go_wp2_with fail
  go_loopw [7] (fun v wr => ∃ j : Nat, j ≤ i ∧ v = .int .i64 (j : Int) ∧ Hid (Below w.heap.size w wr)) (fun v _ => i + 1 - (intOf v).toNat)
  case atStart => exact ⟨0, Nat.zero_le _, rfl, Lib.hid (Below.refl _ _)⟩
  case round =>
    obtain ⟨j, hj, rfl, HB⟩ := hrel
    have hj3 : j < 3 := by omega
    obtain ⟨T, hT⟩ : ∃ T, T = formTexts.getD j [] := ⟨_, rfl⟩
    have hcell : wr.cell? ⟨1, j, none⟩ = some (.string (B T)) := by rw [hT]; exact (HF.out.below HB.out (Nat.le_refl _)) j hj3
    have hok := formTexts_ok j hj3
    rw [← hT] at hok
    have HCALL := Lib.hid (show Calls Tryd.prog 53 #[.string S, .string (B T)] wr (fun e w' => e = .returned (.tuple #[.agg (ints (readF T zeros s).2), .bool (readF T zeros s).1]) ∧ Below wr.heap.size wr w') from by
      rw [HSE.out]; exact read_any s T wr HS.out hok.2 hok.1 (HE.out.below HB.out (Nat.le_refl _)))
    obtain ⟨X, hX⟩ : ∃ X, X = B T := ⟨_, rfl⟩
    rw [← hX] at hcell HCALL
    clear hok
    by_cases hlt : j < i
    · have HK := Lib.hid (show (readF T zeros s).1 = false from by rw [hT]; exact HBAD.out j hlt)
      obtain ⟨q0, q1, q2, q3, q4, q5, q6, hQ⟩ := seven _ (readF_length T zeros s rfl)
      have HQ := Lib.hid hQ
      clear hT hX hQ
      go_wp2_with fail
      refine HCALL.out.mono ?_
      rintro e w2 ⟨rfl, hb2⟩
      rw [HK.out, HQ.out, show ints [q0, q1, q2, q3, q4, q5, q6] = #[.int .i64 q0, .int .i64 q1, .int .i64 q2, .int .i64 q3, .int .i64 q4, .int .i64 q5, .int .i64 q6] from rfl]
      have HB2 := Lib.hid (HB.out.trans (hb2.mono HB.out.size))
      clear hb2
      go_wp2_with fail
      go_roundw
      case rel => exact ⟨j + 1, by omega, by go_num, Lib.hid (HB2.out.alloc HB2.out.size _)⟩
      case measure => simp [intOf]; omega
    · obtain rfl : j = i := by omega
      have HK := Lib.hid (show readF T zeros s = (true, R) from by rw [hT]; exact HGOOD.out)
      obtain ⟨q0, q1, q2, q3, q4, q5, q6, hQ⟩ := seven R (by rw [HR.out.eq]; rfl)
      have HQ := Lib.hid (show ints R = #[.int .i64 q0, .int .i64 q1, .int .i64 q2, .int .i64 q3, .int .i64 q4, .int .i64 q5, .int .i64 q6] from by rw [hQ]; rfl)
      have HSEC := Lib.hid (fun (w' : World) (h : Env w') => HR.out.seconds w' h)
      rw [HQ.out] at HSEC
      clear hT hX hQ
      go_wp2_with fail
      refine HCALL.out.mono ?_
      rintro e w2 ⟨rfl, hb2⟩
      rw [HK.out]
      simp only [HQ.out]
      have HB2 := Lib.hid (HB.out.trans (hb2.mono HB.out.size))
      have HE2 := Lib.hid (HE.out.below HB2.out (Nat.le_refl _))
      clear hb2
      go_wp2_with fail
      refine (HSEC.out _ (HE2.out.below ((Below.refl w2.heap.size w2).alloc (Nat.le_refl _) _) (Nat.le_refl _))).mono ?_
      rintro e w3 ⟨rfl, hb3⟩
      have HB3 := Lib.hid ((HB2.out.alloc HB2.out.size _).trans (hb3.mono (HB2.out.alloc HB2.out.size _).size))
      clear hb3
      go_wp2_with fail
      go_ret2
      exact ⟨rfl, HB3.out⟩
end Go.Proofs.YtjbdgndejbiikaaDoor.Dp
/-
  date.Days and date.reading.seconds of whatever was read: what each returns. Conditions: the tables hold what the program's text lays; numbers from 0 to 20000.
-/
namespace Go.Proofs.YtjbdgndejbiikaaDoor.Dp
open Go.RowKit Go.Proofs.YtjbdgndejbiikaaDoor.Dt
set_option linter.unusedVariables false

/-- The day of a date; -1: there is none. -/
def dayV (y m d : Int) : Int := if 1970 ≤ y ∧ y ≤ 9999 ∧ 1 ≤ m ∧ m ≤ 12 ∧ 1 ≤ d ∧ d ≤ mlen y (m - 1).toNat then dayOf y (m - 1).toNat d else -1
theorem dayV_bd (y m d : Int) : -1 ≤ dayV y m d ∧ dayV y m d ≤ 2932896 := by
  unfold dayV
  split
  · rename_i h
    have := Valid.range (y := y) (k := (m - 1).toNat) (d := d) ⟨h.1, h.2.1, by omega, h.2.2.2.2.1, h.2.2.2.2.2⟩
    omega
  · omega
set_option maxHeartbeats 2000000 in
theorem days_early (y m d : Int) (w : World) (h1 : y < 1970) :
    Calls Tryd.prog 64 #[.int .i64 y, .int .i64 m, .int .i64 d] w fun e w' => e = .returned (.int .i64 (-1)) ∧ w = w' := by
  go_enter Tryd.func64, Tryd.ntmps64
  go_wp2_with fail
  go_ret
  exact ⟨rfl, rfl⟩
set_option maxHeartbeats 2000000 in
theorem days_no_month (y m d : Int) (w : World) (h0 : 1970 ≤ y) (h1 : y ≤ 9999) (hm : m < 1) :
    Calls Tryd.prog 64 #[.int .i64 y, .int .i64 m, .int .i64 d] w fun e w' => e = .returned (.int .i64 (-1)) ∧ w = w' := by
  go_enter Tryd.func64, Tryd.ntmps64
  go_wp2_with fail
  go_ret
  exact ⟨rfl, rfl⟩
set_option maxHeartbeats 2000000 in
theorem days_no_day (y m d : Int) (w : World) (h0 : 1970 ≤ y) (h1 : y ≤ 9999) (hm : 1 ≤ m) (hm2 : m ≤ 12) (hd : d < 1) :
    Calls Tryd.prog 64 #[.int .i64 y, .int .i64 m, .int .i64 d] w fun e w' => e = .returned (.int .i64 (-1)) ∧ w = w' := by
  go_enter Tryd.func64, Tryd.ntmps64
  go_wp2_with fail
  go_ret
  exact ⟨rfl, rfl⟩
theorem days_any (y m d : Int) (w : World) (hT : MD w) :
    Calls Tryd.prog 64 #[.int .i64 y, .int .i64 m, .int .i64 d] w fun e w' => e = .returned (.int .i64 (dayV y m d)) ∧ w = w' := by
  have hno : ∀ {x : Int}, x = -1 → (Calls Tryd.prog 64 #[.int .i64 y, .int .i64 m, .int .i64 d] w fun e w' => e = .returned (.int .i64 (-1)) ∧ w = w') → Calls Tryd.prog 64 #[.int .i64 y, .int .i64 m, .int .i64 d] w fun e w' => e = .returned (.int .i64 x) ∧ w = w' := fun e h => by rw [e]; exact h
  by_cases h1 : y < 1970
  · exact hno (by unfold dayV; rw [if_neg (by omega)]) (days_early y m d w h1)
  · by_cases h2 : 9999 < y
    · exact hno (by unfold dayV; rw [if_neg (by omega)]) (days_late y m d w h2)
    · by_cases h3 : m < 1
      · exact hno (by unfold dayV; rw [if_neg (by omega)]) (days_no_month y m d w (by omega) (by omega) h3)
      · by_cases h4 : 12 < m
        · exact hno (by unfold dayV; rw [if_neg (by omega)]) (days_month y m d w (by omega) (by omega) h4)
        · by_cases h5 : d < 1
          · exact hno (by unfold dayV; rw [if_neg (by omega)]) (days_no_day y m d w (by omega) (by omega) (by omega) (by omega) h5)
          · have hm : m = (((m - 1).toNat : Nat) : Int) + 1 := by omega
            by_cases h6 : d ≤ mlen y (m - 1).toNat
            · have := days_valid y m d (m - 1).toNat w hm ⟨by omega, by omega, by omega, by omega, h6⟩ hT
              unfold dayV
              rw [if_pos ⟨by omega, by omega, by omega, by omega, by omega, h6⟩]
              exact this
            · have := days_long y d (m - 1).toNat w (by omega) (by omega) (by omega) (by omega) hT
              rw [← hm] at this
              exact hno (by unfold dayV; rw [if_neg (fun k => h6 k.2.2.2.2.2)]) this

/-- The second of a reading; false: there is none. -/
def secV (wd y m d h mi s : Int) : Int × Bool :=
  if dayV y m d < 0 ∨ (dayV y m d + 3) % 7 ≠ wd ∨ 23 < h ∨ 59 < mi ∨ 60 < s then (0, false) else (dayV y m d * 86400 + h * 3600 + mi * 60 + min s 59, true)
set_option maxHeartbeats 4000000 in
theorem seconds_any (wd y m d h mi s : Int) (w : World) (hE : Env w) (h0 : 0 ≤ h) (h1 : h ≤ 20000) (m0 : 0 ≤ mi) (m1 : mi ≤ 20000) (s0 : 0 ≤ s) (s1 : s ≤ 20000) :
    Calls Tryd.prog 54 #[.agg #[.int .i64 wd, .int .i64 y, .int .i64 m, .int .i64 d, .int .i64 h, .int .i64 mi, .int .i64 s]] w
      fun e w' => e = .returned (.tuple #[.int .i64 (secV wd y m d h mi s).1, .bool (secV wd y m d h mi s).2]) ∧ Below w.heap.size w w' := by
  have hr := dayV_bd y m d
  obtain ⟨D, hD⟩ : ∃ D, dayV y m d = D := ⟨_, rfl⟩
  rw [hD] at hr
  have HD := Lib.hid hD
  have HM := Lib.hid ((hE.below ((Below.refl w.heap.size w).alloc (Nat.le_refl _) (.cells #[.int .i64 wd, .int .i64 y, .int .i64 m, .int .i64 d, .int .i64 h, .int .i64 mi, .int .i64 s] 102)) (Nat.le_refl _)).md)
  obtain ⟨X, hX⟩ : ∃ X, (secV wd y m d h mi s).1 = X := ⟨_, rfl⟩
  obtain ⟨Y, hY⟩ : ∃ Y, (secV wd y m d h mi s).2 = Y := ⟨_, rfl⟩
  have HNO := Lib.hid (show (D < 0 ∨ (D + 3) % 7 ≠ wd ∨ 23 < h ∨ 59 < mi ∨ 60 < s) → X = 0 ∧ Y = false from fun k => by rw [← hX, ← hY]; unfold secV; rw [hD, if_pos k]; exact ⟨rfl, rfl⟩)
  have HYES := Lib.hid (show ¬ (D < 0 ∨ (D + 3) % 7 ≠ wd ∨ 23 < h ∨ 59 < mi ∨ 60 < s) → X = D * 86400 + h * 3600 + mi * 60 + min s 59 ∧ Y = true from fun k => by rw [← hX, ← hY]; unfold secV; rw [hD, if_neg k]; exact ⟨rfl, rfl⟩)
  rw [hX, hY]
  clear hE hD hX hY
  go_enter Tryd.func54, Tryd.ntmps54
  go_wp2_with fail
  refine (days_any _ _ _ _ HM.out).mono ?_
  rintro e w' ⟨rfl, rfl⟩
  rw [HD.out]
  generalize hwa : w.alloc (.cells #[.int .i64 wd, .int .i64 y, .int .i64 m, .int .i64 d, .int .i64 h, .int .i64 mi, .int .i64 s] 102) = wa
  have hva : wa.heap[w.heap.size]? = some (.cells (ints [wd, y, m, d, h, mi, s]) 102 (0, 0)) := by rw [← hwa]; exact heap_alloc_new _ _
  have HBA := Lib.hid (show Below w.heap.size w wa from by rw [← hwa]; exact (Below.refl _ _).alloc (Nat.le_refl _) _)
  have a0 := ints_at hva 0 (by simp)
  have a4 := ints_at hva 4 (by simp)
  have a5 := ints_at hva 5 (by simp)
  have a6 := ints_at hva 6 (by simp)
  simp only [List.getD_cons_zero, List.getD_cons_succ] at a0 a4 a5 a6
  clear hwa hva HM
  by_cases d0 : D < 0
  · have hneg : decide (D < 0) = true := decide_eq_true d0
    obtain ⟨rfl, rfl⟩ := HNO.out (.inl d0)
    clear HYES HNO
    go_wp2_with fail
    go_quiet (fail)
    go_wp2_with fail
    go_ret2
    exact ⟨rfl, below_drawn HBA.out rfl⟩
  · have hneg : decide (D < 0) = false := decide_eq_false d0
    have HQ := Lib.hid (fun w' : World => (weekday_any D w' (by omega) (by omega)).mono (R' := fun e w'' => e = .returned (.int .i64 ((D + 3) % 7)) ∧ w'' = w') fun _ _ h => ⟨h.1, h.2.symm⟩)
    by_cases dw : (D + 3) % 7 = wd
    · have hbq : ((D + 3) % 7 != wd) = false := by rw [dw]; simp
      by_cases dh : 23 < h
      · obtain ⟨rfl, rfl⟩ := HNO.out (.inr (.inr (.inl dh)))
        clear HYES HNO dw
        go_wp2_with fail
        go_quiet ((go_at_call 65; exact Calls.quiet_of_same (HQ.out _)))
        go_wp2_with fail
        go_ret2
        exact ⟨rfl, below_drawn HBA.out rfl⟩
      · by_cases dm : 59 < mi
        · obtain ⟨rfl, rfl⟩ := HNO.out (.inr (.inr (.inr (.inl dm))))
          clear HYES HNO dw
          go_wp2_with fail
          go_quiet ((go_at_call 65; exact Calls.quiet_of_same (HQ.out _)))
          go_wp2_with fail
          go_ret2
          exact ⟨rfl, below_drawn HBA.out rfl⟩
        · by_cases ds : 60 < s
          · obtain ⟨rfl, rfl⟩ := HNO.out (.inr (.inr (.inr (.inr ds))))
            clear HYES HNO dw
            go_wp2_with fail
            go_quiet ((go_at_call 65; exact Calls.quiet_of_same (HQ.out _)))
            go_wp2_with fail
            go_ret2
            exact ⟨rfl, below_drawn HBA.out rfl⟩
          · obtain ⟨hXe, rfl⟩ := HYES.out (by omega)
            have HXE := Lib.hid hXe
            clear HYES HNO dw hXe
            go_wp2_with fail
            go_quiet ((go_at_call 65; exact Calls.quiet_of_same (HQ.out _)))
            go_wp2_with fail
            go_ret2
            exact ⟨by rw [HXE.out]; rfl, below_drawn HBA.out rfl⟩
    · have hbq : ((D + 3) % 7 != wd) = true := by simp [dw]
      obtain ⟨rfl, rfl⟩ := HNO.out (.inr (.inl dw))
      clear HYES HNO dw
      go_wp2_with fail
      go_quiet ((go_at_call 65; exact Calls.quiet_of_same (HQ.out _)))
      go_wp2_with fail
      go_ret2
      exact ⟨rfl, below_drawn HBA.out rfl⟩
end Go.Proofs.YtjbdgndejbiikaaDoor.Dp
