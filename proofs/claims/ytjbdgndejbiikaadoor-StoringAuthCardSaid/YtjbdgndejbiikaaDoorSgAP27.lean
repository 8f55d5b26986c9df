/-
  Texts that the laws' proofs stand on, 2 of them in one file; each one's head says what it proves and under which condition.
-/
import Derived.Test.YtjbdgndejbiikaaDoorSgAP26
import Derived.Test.YtjbdgndejbiikaaDoorSgAP16
import Derived.Deep.SlicePairs
import Derived.Lib.SmallJoins
import Derived.SizedLaws
import Derived.ProofKit
import Derived.ChangeArms
/-
  storing.May: what it returns. Conditions: fields of at most 200000 bytes in all; the tables hold what the program's text lays.
-/
namespace Go.Proofs.YtjbdgndejbiikaaDoor.Sg
open Go.RowKit Go.Proofs.YtjbdgndejbiikaaDoor.Tk Go.Proofs.YtjbdgndejbiikaaDoor.Fd Go.Proofs.YtjbdgndejbiikaaDoor.Ct Go.Proofs.YtjbdgndejbiikaaDoor.Fh
set_option maxRecDepth 100000
set_option linter.unusedVariables false

/-- The request, the response and what is known of it, in blocks. -/
structure Ma (w : World) (meth tgt : ByteArray) (mi : Int) (vq : Value) (mj code : Int) (rsn : ByteArray) (vr : Value) (g : Nat) (M : Mta) (W : World) : Prop where
  req : W.heap[w.heap.size]? = some (.cells #[.string meth, .string tgt, .int .i64 mi, vq] 25 (0, 0))
  res : W.heap[w.heap.size + 1]? = some (.cells #[.int .i64 mj, .int .i64 code, .string rsn, vr] 29 (0, 0))
  met : MetAt W g M
  bel : Below w.heap.size w W
section
variable {w : World} {meth tgt rsn : ByteArray} {mi mj code : Int} {vq vr : Value} {g : Nat} {M : Mta} {W W' : World}
theorem Ma.more (h : Ma w meth tgt mi vq mj code rsn vr g M W) (hb : Below W.heap.size W W') : Ma w meth tgt mi vq mj code rsn vr g M W' :=
  ⟨Bl.old hb (block_lt h.req) h.req, Bl.old hb (block_lt h.res) h.res, h.met.more hb h.met.lt, Bl.next h.bel hb⟩
theorem Ma.c0 (h : Ma w meth tgt mi vq mj code rsn vr g M W) : W.cell? ⟨w.heap.size, 0, none⟩ = some (.string meth) := by rw [Lib.cell_of_heap h.req]; rfl
theorem Ma.c3 (h : Ma w meth tgt mi vq mj code rsn vr g M W) : W.cell? ⟨w.heap.size, 3, none⟩ = some vq := by rw [Lib.cell_of_heap h.req]; rfl
theorem Ma.d3 (h : Ma w meth tgt mi vq mj code rsn vr g M W) : W.cell? ⟨w.heap.size + 1, 3, none⟩ = some vr := by rw [Lib.cell_of_heap h.res]; rfl
theorem Ma.ns (h : Ma w meth tgt mi vq mj code rsn vr g M W) : W.cell? ⟨g, 1, none⟩ = some (.bool M.con.ns) := h.met.at rfl
theorem Ma.pr (h : Ma w meth tgt mi vq mj code rsn vr g M W) : W.cell? ⟨g, 3, none⟩ = some (.bool M.con.pr) := h.met.at rfl
theorem Ma.flds {v : Value} {fs : List Fl} (h : Ma w meth tgt mi vq mj code rsn vr g M W) (hf : Flds w v fs) : Flds W v fs := hf.below h.bel (Nat.le_refl _)
end
theorem sec_ge (fs : List Fl) (nm : Bs) : -1 ≤ secOf fs nm 0 := by
  unfold secOf
  have := (Dp.parseD_bd (getT fs nm)).1
  repeat' split
  all_goals omega
theorem conLit (c : Con) : Value.agg (cells c) = .agg #[.bool c.ns, .bool c.nc, .bool c.pr, .bool c.pu, .bool c.mu, .bool c.px, .bool c.oc, .int .i64 c.ag, .int .i64 c.sh, .int .i64 c.wh, .int .i64 c.ie, .int .i64 c.mf, .int .i64 c.ms] := rfl
theorem con_ns (c : Con) (W : World) : (Instr.field 33 (.agg #[.bool c.ns, .bool c.nc, .bool c.pr, .bool c.pu, .bool c.mu, .bool c.px, .bool c.oc, .int .i64 c.ag, .int .i64 c.sh, .int .i64 c.wh, .int .i64 c.ie, .int .i64 c.mf, .int .i64 c.ms]) 0).run Tryd.prog W = .ok (.bool c.ns) W := by kernel_rfl

set_option maxHeartbeats 2000000 in
theorem may_lit (meth tgt : ByteArray) (mi : Int) (p1 : Option Addr) (n1 k1 : Nat) (rq : List Fl) (mj code : Int) (rsn : ByteArray) (p2 : Option Addr) (n2 k2 : Nat) (rs : List Fl) (w : World) (hq : Flds w (.slice p1 n1 k1) rq) (hr : Flds w (.slice p2 n2 k2) rs) (htq : tot rq ≤ 200000) (htr : tot rs ≤ 200000) (hT : Tab w) (hE : Dp.Env w) (hF : Dp.FM w) (hC : Codes w) :
    Calls Tryd.prog 7 #[.agg #[.string meth, .string tgt, .int .i64 mi, .slice p1 n1 k1], .agg #[.int .i64 mj, .int .i64 code, .string rsn, .slice p2 n2 k2]] w fun e w' => e = .returned (.bool (mayOf meth.data.toList rq code rs)) ∧ Below w.heap.size w w' := by
  have hb2 : Below w.heap.size w ((w.alloc (.cells #[.string meth, .string tgt, .int .i64 mi, .slice p1 n1 k1] 25)).alloc (.cells #[.int .i64 mj, .int .i64 code, .string rsn, .slice p2 n2 k2] 29)) := ((Below.refl _ _).alloc (Nat.le_refl _) _).alloc (by simp) _
  have hrq : ((w.alloc (.cells #[.string meth, .string tgt, .int .i64 mi, .slice p1 n1 k1] 25)).alloc (.cells #[.int .i64 mj, .int .i64 code, .string rsn, .slice p2 n2 k2] 29)).heap[w.heap.size]? = some (.cells #[.string meth, .string tgt, .int .i64 mi, .slice p1 n1 k1] 25 (0, 0)) := (old_block _ _ (by simp)).trans (new_block _ _)
  have hrs : ((w.alloc (.cells #[.string meth, .string tgt, .int .i64 mi, .slice p1 n1 k1] 25)).alloc (.cells #[.int .i64 mj, .int .i64 code, .string rsn, .slice p2 n2 k2] 29)).heap[w.heap.size + 1]? = some (.cells #[.int .i64 mj, .int .i64 code, .string rsn, .slice p2 n2 k2] 29 (0, 0)) := new_block' _ _ (by simp)
  have HB2 := Lib.hid hb2
  have HRQ := Lib.hid hrq
  have HRS := Lib.hid hrs
  have HQ := Lib.hid hq
  have HF := Lib.hid hr
  have HT := Lib.hid hT
  have HE := Lib.hid hE
  have HM := Lib.hid hF
  have HC := Lib.hid hC
  obtain ⟨b, hb⟩ : ∃ b, b = (meth.data.toList == getM) := ⟨_, rfl⟩
  have hbt : (meth.toList == [71, 69, 84]) = b := by rw [hb, ByteArray.toList_eq]; rfl
  obtain ⟨C, hCq⟩ : ∃ C, C = ofOf rq := ⟨_, rfl⟩
  obtain ⟨M, hMd⟩ : ∃ M, M = metOf code rs (-1) (-1) := ⟨_, rfl⟩
  have HMd := Lib.hid hMd
  have hMc : M.code = code := by rw [hMd]; rfl
  have HMc := Lib.hid hMc
  obtain ⟨wh, hwh⟩ : ∃ x, x = wholeB rq code := ⟨_, rfl⟩
  obtain ⟨al, hal⟩ : ∃ x, x = varyOk rs := ⟨_, rfl⟩
  obtain ⟨op, hop⟩ : ∃ x, x = openB rq M.con := ⟨_, rfl⟩
  obtain ⟨la, hla⟩ : ∃ x, x = lastB M.exp M.con M.code := ⟨_, rfl⟩
  obtain ⟨fi, hfi⟩ : ∃ x, x = finalB code := ⟨_, rfl⟩
  have HR := Lib.hid (show mayOf meth.data.toList rq code rs = ((b && !C.ns) && bareB M.con && fi && wh && al && op && la) from by
    rw [may_prog, hb, hCq, hfi, hwh, hal, hop, hla, hMd]; rfl)
  have hfine := fine_of rs
  have L1 : -1 ≤ M.con.ag := by rw [hMd]; exact hfine.ag
  have L2 : -1 ≤ M.con.sh := by rw [hMd]; exact hfine.sh
  have L3 : -1 ≤ M.exp := by rw [hMd]; exact sec_ge rs expN
  have HCq := Lib.hid hCq
  have Hwh := Lib.hid hwh
  have Hal := Lib.hid hal
  have Hop := Lib.hid hop
  have Hla := Lib.hid hla
  have Hfi := Lib.hid hfi
  clear hb hCq hMd hMc hwh hal hop hla hfi hfine hb2 hrq hrs hq hr hT hE hF hC
  go_enter Tryd.func7, Tryd.ntmps7
  go_wp2_with fail
  refine (known_lit mj code rsn p2 n2 k2 rs (-1) (-1) _ (HF.out.below HB2.out (Nat.le_refl _)) htr (HT.out.below HB2.out HT.out.lt) (HE.out.below HB2.out (Nat.le_refl _)) (HM.out.below HB2.out (Nat.le_refl _))).mono ?_
  rintro e w1 ⟨rfl, hb1⟩
  rw [← HMd.out]
  have h1 := Bl.old hb1 (block_lt HRQ.out) HRQ.out
  have h2 := Bl.old hb1 (block_lt HRS.out) HRS.out
  have hbw := HB2.out.trans (hb1.mono (by simp; omega))
  have hal1 : Below w1.heap.size w1 (w1.alloc (.cells (mcells M) 35)) := (Below.refl _ _).alloc (Nat.le_refl _) _
  have H := Lib.hid (show Ma w meth tgt mi (.slice p1 n1 k1) mj code rsn (.slice p2 n2 k2) w1.heap.size M (w1.alloc (.cells (mcells M) 35)) from
    ⟨Bl.old hal1 (block_lt h1) h1, Bl.old hal1 (block_lt h2) h2, new_block _ _, hbw.alloc hbw.size _⟩)
  have P1 := put_last w1 w1.heap.size rfl #[.int .i64 0, .bool false, .bool false, .bool false, .bool false, .bool false, .bool false, .bool false, .int .i64 0, .int .i64 0, .int .i64 0, .int .i64 0, .int .i64 0, .int .i64 0, .int .i64 0, .int .i64 0, .int .i64 0, .int .i64 0, .int .i64 0, .int .i64 0, .string ⟨#[]⟩] rfl M
  obtain ⟨Z, N, hZ⟩ := size_met
  have z1 := hZ.is
  have z2 := hZ.run
  have HN := Lib.hid hZ.num
  have n2' : (mcells M).size = N := hZ.num ▸ rfl
  have y5 : ¬ N = 0 := by rw [hZ.num]; decide
  obtain ⟨Z', N', hZ'⟩ := size_con
  have x1 := hZ'.is
  have x2 := hZ'.run
  have HN' := Lib.hid hZ'.num
  have x5 : ¬ N' = 0 := by rw [hZ'.num]; decide
  clear hZ hZ' hb1 h1 h2 hbw hal1 HB2 HRQ HRS
  go_upto_region 2 with fail
  generalize w1.alloc (.cells (mcells M) 35) = W1 at H ⊢
  obtain ⟨g, hg⟩ : ∃ g, g = w1.heap.size := ⟨_, rfl⟩
  rw [← hg] at H
  rw [← hg]
  clear hg P1 n2'
  have c0 := H.out.c0
  have c3 := H.out.c3
  go_cut [6] (fun s wx => s = .bool (b && !C.ns) ∧ Ma w meth tgt mi (.slice p1 n1 k1) mj code rsn (.slice p2 n2 k2) g M wx)
  case first =>
    cases b with
    | false =>
      go_wp2_with fail
      go_meet
      exact ⟨rfl, H.out⟩
    | true =>
      go_wp2_with fail
      refine (of_any _ rq _ (H.out.flds HQ.out) (by omega) (HT.out.below H.out.bel HT.out.lt)).mono ?_
      rintro e w2 ⟨rfl, hb2⟩
      rw [← HCq.out, conLit]
      have H2 := Lib.hid (H.out.more hb2)
      clear hb2
      go_wp2_with fail
      rw [con_ns]
      simp only [Result.andThen]
      rw [Oper.upon_value]
      go_wp2_with fail
      go_meet
      exact ⟨rfl, H2.out⟩
  case rest =>
  obtain ⟨rfl, H0⟩ := hcut
  obtain ⟨b1, hb1⟩ : ∃ b1, b1 = (b && !C.ns) := ⟨_, rfl⟩
  rw [← hb1]
  rw [← hb1] at HR
  have H1 := Lib.hid H0
  clear hb1 H0 H c0 c3 hbt
  go_upto_region 3 with fail
  have c1 := H1.out.ns
  have c3 := H1.out.pr
  go_cut [7] (fun s wx => s = .bool (bareB M.con) ∧ Ma w meth tgt mi (.slice p1 n1 k1) mj code rsn (.slice p2 n2 k2) g M wx)
  case first =>
    obtain ⟨ns, hns⟩ : ∃ x, x = M.con.ns := ⟨_, rfl⟩
    have HBB := Lib.hid (show bareB M.con = (!ns && !M.con.pr) from by unfold bareB; rw [hns])
    rw [← hns] at c1
    clear hns
    cases ns
    all_goals
      go_wp2_with fail
      go_meet
      exact ⟨by rw [HBB.out]; rfl, H1.out⟩
  case rest =>
  obtain ⟨rfl, H0⟩ := hcut
  obtain ⟨b2, hb2⟩ : ∃ x, x = bareB M.con := ⟨_, rfl⟩
  rw [← hb2]
  rw [← hb2] at HR
  have H2 := Lib.hid H0
  clear hb2 H0 H1 c1 c3
  go_upto_region 4 with fail
  cases b1 with
  | false =>
    go_wp2_with fail
    go_ret
    exact ⟨by rw [HR.out]; rfl, H2.out.bel⟩
  | true =>
  cases b2 with
  | false =>
    go_wp2_with fail
    go_ret
    exact ⟨by rw [HR.out]; rfl, H2.out.bel⟩
  | true =>
  have k0 := H2.out.met.code
  rw [HMc.out] at k0
  have q3 := H2.out.c3
  have r3 := H2.out.d3
  go_wp2_with fail
  refine (final_any code _).mono ?_
  rintro e w3 ⟨rfl, rfl⟩
  rw [← Hfi.out]
  cases fi with
  | false =>
    go_wp2_with fail
    go_ret
    exact ⟨by rw [HR.out]; rfl, H2.out.bel⟩
  | true =>
  go_wp2_with fail
  refine (whole_any _ rq code _ (H2.out.flds HQ.out) htq).mono ?_
  rintro e w4 ⟨rfl, hb4⟩
  rw [← Hwh.out]
  have H4 := Lib.hid (H2.out.more hb4)
  clear hb4 k0 q3 r3
  have r3 := H4.out.d3
  cases wh with
  | false =>
    go_wp2_with fail
    go_ret
    exact ⟨by rw [HR.out]; rfl, H4.out.bel⟩
  | true =>
  go_wp2_with fail
  refine (alike_any _ rs _ (H4.out.flds HF.out) htr).mono ?_
  rintro e w5 ⟨rfl, hb5⟩
  rw [← Hal.out]
  have H5 := Lib.hid (H4.out.more hb5)
  clear hb5 r3
  have q3 := H5.out.c3
  have l3 := H5.out.met.loadCon HN'.out
  cases al with
  | false =>
    go_wp2_with fail
    go_ret
    exact ⟨by rw [HR.out]; rfl, H5.out.bel⟩
  | true =>
  go_wp2_with fail
  refine (open_any _ rq M.con _ (H5.out.flds HQ.out) htq).mono ?_
  rintro e w6 ⟨rfl, hb6⟩
  rw [← Hop.out]
  have H6 := Lib.hid (H5.out.more hb6)
  clear hb6 q3 l3
  have l4 := H6.out.met.load HN.out
  cases op with
  | false =>
    go_wp2_with fail
    go_ret
    exact ⟨by rw [HR.out]; rfl, H6.out.bel⟩
  | true =>
  go_wp2_with fail
  refine (lasting_any M L1 L2 L3 _ (HT.out.below H6.out.bel HT.out.lt) (HE.out.below H6.out.bel (Nat.le_refl _)) (HM.out.below H6.out.bel (Nat.le_refl _)) (HC.out.below H6.out.bel HC.out.lt)).mono ?_
  rintro e w7 ⟨rfl, hb7⟩
  rw [← Hla.out]
  have H7 := Lib.hid (H6.out.more hb7)
  clear hb7 l4
  go_wp2_with fail
  go_ret
  exact ⟨by rw [HR.out]; rfl, H7.out.bel⟩
end Go.Proofs.YtjbdgndejbiikaaDoor.Sg
/-
  Arguments that are fields and lists of fields, read as texts. Condition: what the form says of what is read.
-/
namespace Go.Proofs.YtjbdgndejbiikaaDoor.Fd
open Go.RowKit Tk Go.ChangeShapes Go.WideShapes Go.Deep Go.Joins
set_option linter.unusedVariables false

def strOf : Value → ByteArray
  | .string s => s
  | _ => ByteArray.empty
theorem strOf_eq {v : Value} {s : ByteArray} (h : v = .string s) : v = .string (strOf v) := by subst h; rfl

theorem hone : oneCellFields Tryd.prog #[{ name := "Name", type := 9, offset := 0, embedded := false, tag := "", pkgPath := "", byteOffset := 0 }, { name := "Value", type := 9, offset := 1, embedded := false, tag := "", pkgPath := "", byteOffset := 16 }] = true := by kernel_rfl
theorem cellsText : Tryd.prog.cellsOf 9 = 1 := by kernel_rfl

theorem agg_weights {H : Type} (x y : List UInt8) {n : Nat} (h : n = x.length ∨ n = y.length) : n ∈ (DataW.agg [.lit (.string x), .lit (.string y)] : DataW H).weights Tryd.prog 27 := by
  rw [DataW.weights, Tryd.underlying27]
  rcases h with rfl | rfl <;> simp [DataW.weightsEach, DataW.weights]

theorem weights_in {H : Type} {P : Program} {e : TypeId} : ∀ {l : List (DataW H)} {d : DataW H}, d ∈ l → ∀ n ∈ d.weights P e, n ∈ DataW.weightsAll P e l
  | x :: r, d, hd, n, hn => by
    rw [DataW.weightsAll, List.mem_append]
    rw [List.mem_cons] at hd
    rcases hd with rfl | hd
    · exact .inl hn
    · exact .inr (weights_in hd n hn)

set_option maxRecDepth 100000 in
theorem open_field {H : Type} {enc : TypeId × Value → H} {W : World} {base : Nat} {v : Value} {d : DataW H} {p : List MemPlace} (hv : Value.okWide Tryd.prog W .any base 27 v)
    (h : DataW.Trod enc Tryd.prog W 0 (fun _ => true) true 27 v d p) (hw : ∀ n ∈ d.weights Tryd.prog 27, n ≤ reachBytes) :
    ∃ a b : ByteArray, v = .agg #[.string a, .string b] ∧ a.size ≤ reachBytes ∧ b.size ≤ reachBytes := by
  obtain ⟨v0, v1, y0, y1, n, rfl, rfl, rfl, g0, g1⟩ := open_agg2 Tryd.underlying27 hone cellsField hv h
  obtain ⟨a, e0, rfl, _⟩ := DataW.trod_string Tryd.underlying9 g0
  obtain ⟨b, e1, rfl, _⟩ := DataW.trod_string Tryd.underlying9 g1
  injection e0 with e0
  injection e1 with e1
  subst e0 e1
  have ha := hw _ (agg_weights a.data.toList b.data.toList (.inl rfl))
  have hb := hw _ (agg_weights a.data.toList b.data.toList (.inr rfl))
  exact ⟨a, b, rfl, by simpa using ha, by simpa using hb⟩

set_option maxRecDepth 100000 in
theorem open_flds {H : Type} {enc : TypeId × Value → H} {W : World} {base : Nat} {v : Value} {d : DataW H} {p : List MemPlace} (hv : Value.okWide Tryd.prog W .any base 22 v)
    (h : DataW.Trod enc Tryd.prog W 0 (fun _ => true) true 22 v d p) (hw : ∀ n ∈ d.weights Tryd.prog 22, n ≤ reachBytes) :
    ∃ fs : List Fl, Flds W v fs ∧ fs.length ≤ 140737488355328 ∧ ∀ f ∈ fs, f.1.size ≤ 140737488355328 ∧ f.2.size ≤ 140737488355328 := by
  obtain ⟨a0, len0, cap0, rfl⟩ := okWide_slice Tryd.underlying22 hv
  obtain ⟨fuel, hf⟩ := h
  rcases open_slice_pairs Tryd.underlying22 Tryd.underlying27 cellsField rfl rfl cellsText cellsText hf with ⟨hcs, _⟩ | ⟨a, len, cap, m, n, V0, V1, D0, D1, P0, P1, hcs, _, hl, hm, hmm, hx, hat⟩
  · simp [Value.cells] at hcs
    obtain ⟨rfl, rfl, rfl⟩ := hcs
    exact ⟨[], .inl ⟨rfl, _, _, rfl⟩, by simp, fun _ hf => by simp at hf⟩
  · simp [Value.cells] at hcs
    obtain ⟨rfl, rfl, rfl⟩ := hcs
    have hmc : m = cap0 := by simpa using hmm
    subst hmc
    have hd : d = _ := congrArg Prod.fst hx
    have each : ∀ i, i < len0 → V0 i = .string (strOf (V0 i)) ∧ V1 i = .string (strOf (V1 i)) ∧ (strOf (V0 i)).size ≤ reachBytes ∧ (strOf (V1 i)).size ≤ reachBytes := by
      intro i hi
      obtain ⟨_, _, t0, t1⟩ := hat i (by omega)
      obtain ⟨s0, e0, x0, _⟩ := DataW.trod_string Tryd.underlying9 t0
      obtain ⟨s1, e1, x1, _⟩ := DataW.trod_string Tryd.underlying9 t1
      injection e0 with e0
      injection e1 with e1
      have hin : ∀ k ∈ (DataW.agg [D0 i, D1 i] : DataW H).weights Tryd.prog 27, k ≤ reachBytes := fun k hk => by
        apply hw
        rw [hd, DataW.weights, Tryd.underlying22]
        simp only [List.mem_cons, List.mem_append]
        exact .inr (.inl (weights_in (List.mem_map.2 ⟨i, List.mem_range.2 hi, rfl⟩) k hk))
      have y0 : D0 i = .lit (.string s0.data.toList) := congrArg Prod.fst x0
      have y1 : D1 i = .lit (.string s1.data.toList) := congrArg Prod.fst x1
      rw [y0, y1] at hin
      have z0 := hin _ (agg_weights s0.data.toList s1.data.toList (.inl rfl))
      have z1 := hin _ (agg_weights s0.data.toList s1.data.toList (.inr rfl))
      rw [e0, e1]
      exact ⟨rfl, rfl, by simpa [strOf] using z0, by simpa [strOf] using z1⟩
    have hlen : len0 * 32 ≤ reachBytes := by
      have : (len0 + (m - len0)) * Tryd.prog.bytesOf 27 ∈ d.weights Tryd.prog 22 := by
        rw [hd, DataW.weights, Tryd.underlying22]
        simp
      have h2 := hw _ this
      have h3 : Tryd.prog.bytesOf 27 = 32 := by kernel_rfl
      rw [h3] at h2
      exact Nat.le_trans (Nat.mul_le_mul_right _ (by omega)) h2
    unfold reachBytes at each hlen
    refine ⟨(List.range len0).map fun i => (strOf (V0 i), strOf (V1 i)), ?_, by simp; omega, fun f hf => ?_⟩
    · by_cases h0 : len0 = 0
      · subst h0; exact .inl ⟨rfl, _, _, rfl⟩
      · obtain ⟨b, off, spot⟩ := a
        have hc0 := (hat 0 (by omega)).1
        have hs : spot = none := by simpa [Addr.add] using World.cell?_spot hc0
        subst hs
        refine .inr ⟨b, off, m, by simp, ?_, fun j hj => ?_⟩
        · rw [Addr.add_lit] at hc0
          exact World.block_lt_of_cell? W _ hc0
        · have hj' : j < len0 := by simpa using hj
          obtain ⟨c0, c1, _, _⟩ := hat j (by omega)
          rw [Addr.add_lit] at c0 c1
          obtain ⟨q0, q1, _⟩ := each j hj'
          simp only [List.getElem_map, List.getElem_range]
          rw [c0, q0, Nat.add_assoc, c1, q1]
          exact ⟨by simp [strOf], by simp [strOf]⟩
    · obtain ⟨i, hi, rfl⟩ := List.mem_map.1 hf
      obtain ⟨_, _, q0, q1⟩ := each i (List.mem_range.1 hi)
      exact ⟨by show (strOf (V0 i)).size ≤ _; omega, by show (strOf (V1 i)).size ≤ _; omega⟩
end Go.Proofs.YtjbdgndejbiikaaDoor.Fd
