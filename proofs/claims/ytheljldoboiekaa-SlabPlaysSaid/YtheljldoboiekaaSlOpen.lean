/-
  Arguments that are handles, arrays of four ints, and lists of acts, as they read. Condition: what the form says of what is read.
-/
import Derived.Test.YtheljldoboiekaaSlBk
import Derived.Deep.SlicePairs
import Derived.Lib.SmallJoins
import Derived.SizedLaws
import Derived.ProofKit
import Derived.ChangeArms
import Derived.WideKeyArr2
namespace Go.Proofs.Ytheljldoboiekaa.Sl
open Go.RowKit Go.ChangeShapes Go.WideShapes Go.Deep Go.Joins Go.Proofs.Ytheljldoboiekaa.Fd
set_option linter.unusedVariables false
set_option linter.unusedSimpArgs false
set_option maxRecDepth 100000

theorem cellsI : Try.prog.cellsOf 3 = 1 := by kernel_rfl
theorem cellsH : Try.prog.cellsOf 34 = 3 := by kernel_rfl
theorem cellsB : Try.prog.cellsOf 4 = 1 := by kernel_rfl
theorem cellsBs : Try.prog.cellsOf 35 = 1 := by kernel_rfl
theorem cellsU : Try.prog.cellsOf 5 = 1 := by kernel_rfl
theorem int_range {z : Int} (h : (Lit.int .i64 z).wf = true) : -9223372036854775808 ≤ z ∧ z ≤ 9223372036854775807 := by
  have e1 : IntKind.i64.min = -9223372036854775808 := rfl
  have e2 : IntKind.i64.max = 9223372036854775807 := rfl
  simp [Lit.wf, e1, e2] at h
  omega
theorem trod_hd {H : Type} {enc : TypeId × Value → H} {W : World} {n : Nat} {cs : List Value} {x : DataW H × List MemPlace} (h : DataW.trod enc Try.prog W 0 (fun _ => true) true n 34 cs = some x) :
    ∃ a b c : Int, cs = [.int .i64 a, .int .i64 b, .int .i64 c] := by
  obtain ⟨xs, m, _, _, hl, hxl, hf⟩ := DataW.trod_struct Try.underlying34 h
  rw [cellsH] at hl
  match xs, hxl, cs, hl with
  | [y0, y1, y2], _, [v0, v1, v2], _ =>
    have g0 := hf 0 _ rfl
    have g1 := hf 1 _ rfl
    have g2 := hf 2 _ rfl
    simp [cellsI] at g0 g1 g2
    obtain ⟨a, e0, _⟩ := DataW.trod_int Try.underlying3 g0
    obtain ⟨b, e1, _⟩ := DataW.trod_int Try.underlying3 g1
    obtain ⟨c, e2, _⟩ := DataW.trod_int Try.underlying3 g2
    injection e0 with e0
    injection e1 with e1
    injection e2 with e2
    exact ⟨a, b, c, by rw [e0, e1, e2]⟩
theorem open_hd {H : Type} {enc : TypeId × Value → H} {W : World} {base : Nat} {v : Value} {d : DataW H} {p : List MemPlace} (hv : Value.okWide Try.prog W .any base 34 v)
    (h : DataW.Trod enc Try.prog W 0 (fun _ => true) true 34 v d p) : ∃ h : Hd, v = .agg #[.int .i64 h.1, .int .i64 h.2.1, .int .i64 h.2.2] := by
  obtain ⟨cs, rfl, hsz⟩ := okWide_struct Try.underlying34 hv
  obtain ⟨fuel, hf⟩ := h
  obtain ⟨a, b, c, e⟩ := trod_hd hf
  refine ⟨(a, b, c), ?_⟩
  have e2 : cs = #[.int .i64 a, .int .i64 b, .int .i64 c] := by
    apply Array.toList_inj.1
    simpa [Value.cells] using e
  rw [e2]
theorem arr4 : WideMaps.ArrKey Try.prog 22 3 4 := ⟨Try.underlying22, by kernel_rfl, by kernel_rfl, by kernel_rfl⟩
theorem open_arr4 {H : Type} {enc : TypeId × Value → H} {W : World} {base : Nat} {v : Value} {d : DataW H} {p : List MemPlace} (hv : Value.okWide Try.prog W .any base 22 v)
    (h : DataW.Trod enc Try.prog W 0 (fun _ => true) true 22 v d p) : ∃ bl : Nat → Int, v = .agg #[.int .i64 (bl 0), .int .i64 (bl 1), .int .i64 (bl 2), .int .i64 (bl 3)] := by
  obtain ⟨xs, rfl, hsz⟩ := WideMaps.okWide_arr arr4 hv
  obtain ⟨fuel, hf⟩ := h
  cases fuel with
  | zero => simp [DataW.trod] at hf
  | succ m =>
    rw [DataW.trod_step] at hf
    unfold DataW.trodStep at hf
    simp only [Try.underlying22, Value.cells] at hf
    rw [if_pos (by rw [arr4.size]; simpa using hsz)] at hf
    simp only [Option.map_eq_some_iff] at hf
    obtain ⟨ys, hy, _⟩ := hf
    obtain ⟨l, rfl⟩ : ∃ l : List Value, xs = l.toArray := ⟨xs.toList, by simp⟩
    have hl : l.length = 4 := by simpa using hsz
    match l, hl with
    | [v0, v1, v2, v3], _ =>
      rw [show List.range 4 = [0, 1, 2, 3] from rfl] at hy
      simp only [List.mapM_cons, List.mapM_nil, bind, Option.bind_eq_some_iff, cellsI] at hy
      obtain ⟨y0, g0, _, ⟨y1, g1, _, ⟨y2, g2, _, ⟨y3, g3, _⟩, _⟩, _⟩, _⟩ := hy
      simp at g0 g1 g2 g3
      obtain ⟨a, e0, _⟩ := DataW.trod_int Try.underlying3 g0
      obtain ⟨b, e1, _⟩ := DataW.trod_int Try.underlying3 g1
      obtain ⟨c, e2, _⟩ := DataW.trod_int Try.underlying3 g2
      obtain ⟨d, e3, _⟩ := DataW.trod_int Try.underlying3 g3
      injection e0 with e0
      injection e1 with e1
      injection e2 with e2
      injection e3 with e3
      refine ⟨fun k => if k = 0 then a else if k = 1 then b else if k = 2 then c else d, ?_⟩
      rw [e0, e1, e2, e3]; rfl
theorem bytes_of {H : Type} {enc : TypeId × Value → H} {W : World} {n : Nat} {v : Value} {x : DataW H × List MemPlace} (h : DataW.trod enc Try.prog W 0 (fun _ => true) true n 35 [v] = some x) :
    ∃ l : Tk.Bs, Hd.Byts W v l ∧ l.length ≤ maxLen := by
  rcases open_ints Try.underlying35 Try.underlying5 cellsU h with ⟨hcs, _⟩ | ⟨a, len, cap, zs, hcs, _, hl, hm, hz, hx, hcell, hwz⟩
  · injection hcs with hcs
    exact ⟨[], .inl ⟨rfl, _, _, hcs⟩, by simp⟩
  · injection hcs with hcs
    subst hcs
    simp only [if_true] at hz
    by_cases h0 : len = 0
    · subst h0; exact ⟨[], .inl ⟨rfl, _, _, rfl⟩, by simp⟩
    · obtain ⟨b, off, spot⟩ := a
      have hc0 := hcell 0 (by omega)
      have hspot : spot = none := by simpa [Addr.add] using World.cell?_spot hc0
      subst hspot
      have hlen : ((zs.take len).map fun n => UInt8.ofNat n.toNat).length = len := by simp; omega
      refine ⟨(zs.take len).map fun n => UInt8.ofNat n.toNat, .inr ⟨b, off, cap, by rw [hlen], by rw [hlen]; exact hl, hm, ?_, fun j hj => ?_⟩, by rw [hlen]; omega⟩
      · rw [Addr.add_lit] at hc0
        exact World.block_lt_of_cell? W _ hc0
      · rw [hlen] at hj
        have hcj := hcell j (by omega)
        rw [Addr.add_lit] at hcj
        have hjz : j < zs.length := by omega
        have hw := hwz zs[j] (List.getElem_mem hjz)
        have e : zs.getD j 0 = zs[j] := by simp [List.getD, List.getElem?_eq_getElem hjz]
        rw [hcj, e]
        simp only [List.getElem_map, List.getElem_take]
        rw [Hd.byte_back hw]
/-- An act, as it came in. -/
structure ActD where
  kind : Int
  n : Int
  k : Int
  at' : Int
  h : Hd
  own : Bool
  bv : Value
  bs : Tk.Bs
instance : Inhabited ActD := ⟨⟨0, 0, 0, 0, (0, 0, 0), false, .bool false, []⟩⟩
def actC (x : ActD) : List Value := [.int .i64 x.kind, .int .i64 x.n, .int .i64 x.k, .int .i64 x.at', .int .i64 x.h.1, .int .i64 x.h.2.1, .int .i64 x.h.2.2, .bool x.own, x.bv]
def GoodAct (W : World) (x : ActD) : Prop := Hd.Byts W x.bv x.bs ∧ x.bs.length ≤ maxLen ∧ -9223372036854775808 ≤ x.at' ∧ x.at' ≤ 9223372036854775807
def Acts (W : World) (v : Value) (l : List ActD) : Prop :=
  (l = [] ∧ ∃ a cap, v = .slice a 0 cap) ∨ ∃ b off cap, v = .slice (some ⟨b, off, none⟩) l.length cap ∧ b < W.heap.size ∧ ∀ j (hj : j < l.length), (∀ t, t < 9 → W.cell? ⟨b, off + j * 9 + t, none⟩ = (actC l[j])[t]?) ∧ GoodAct W l[j]
theorem cellsA : Try.prog.cellsOf 37 = 9 := by kernel_rfl
theorem trod_act {H : Type} {enc : TypeId × Value → H} {W : World} {n : Nat} {cs : List Value} {x : DataW H × List MemPlace} (h : DataW.trod enc Try.prog W 0 (fun _ => true) true n 37 cs = some x) :
    ∃ y : ActD, cs = actC y ∧ GoodAct W y := by
  obtain ⟨xs, m, _, _, hl, hxl, hf⟩ := DataW.trod_struct Try.underlying37 h
  rw [cellsA] at hl
  match xs, hxl, cs, hl with
  | [y0, y1, y2, y3, y4, y5, y6], _, [v0, v1, v2, v3, v4, v5, v6, v7, v8], _ =>
    have g0 := hf 0 _ rfl
    have g1 := hf 1 _ rfl
    have g2 := hf 2 _ rfl
    have g3 := hf 3 _ rfl
    have g4 := hf 4 _ rfl
    have g5 := hf 5 _ rfl
    have g6 := hf 6 _ rfl
    simp [cellsI, cellsH, cellsB, cellsBs] at g0 g1 g2 g3 g4 g5 g6
    obtain ⟨a, e0, _⟩ := DataW.trod_int Try.underlying3 g0
    obtain ⟨b, e1, _⟩ := DataW.trod_int Try.underlying3 g1
    obtain ⟨c, e2, _⟩ := DataW.trod_int Try.underlying3 g2
    obtain ⟨d, e3, _, wd⟩ := DataW.trod_int Try.underlying3 g3
    obtain ⟨p, q, r, e4⟩ := trod_hd g4
    obtain ⟨o, e5, _⟩ := DataW.trod_bool Try.underlying4 g5
    obtain ⟨bs, hb1, hb2⟩ := bytes_of g6
    injection e0 with e0
    injection e1 with e1
    injection e2 with e2
    injection e3 with e3
    injection e4 with e4 e4'
    injection e4' with e4' e4''
    injection e4'' with e4''
    injection e5 with e5
    refine ⟨⟨a, b, c, d, (p, q, r), o, v8, bs⟩, ?_, hb1, hb2, int_range wd⟩
    rw [e0, e1, e2, e3, e4, e4', e4'', e5]; rfl
theorem open_acts {H : Type} {enc : TypeId × Value → H} {W : World} {base : Nat} {v : Value} {d : DataW H} {p : List MemPlace} (hv : Value.okWide Try.prog W .any base 23 v)
    (h : DataW.Trod enc Try.prog W 0 (fun _ => true) true 23 v d p) : ∃ l : List ActD, Acts W v l ∧ l.length ≤ maxLen := by
  obtain ⟨a0, len0, cap0, rfl⟩ := okWide_slice Try.underlying23 hv
  obtain ⟨fuel, hf⟩ := h
  rcases open_slice Try.underlying23 hf with ⟨hcs, _⟩ | ⟨a, len, cap, m, n, D, Pl, hcs, _, hl, hm, hmm, _, hx⟩
  · simp [Value.cells] at hcs
    obtain ⟨rfl, rfl, rfl⟩ := hcs
    exact ⟨[], .inl ⟨rfl, _, _, rfl⟩, by simp⟩
  · simp [Value.cells] at hcs
    obtain ⟨rfl, rfl, rfl⟩ := hcs
    have hlm : len0 ≤ m := by rw [hmm]; simp; exact hl
    rw [cellsA] at hx
    have each : ∀ i, i < len0 → ∃ y : ActD, (∀ t, t < 9 → W.cell? (a.add (i * 9 + t)) = (actC y)[t]?) ∧ GoodAct W y := by
      intro i hi
      obtain ⟨cs', h1, h2⟩ := hx i (by omega)
      obtain ⟨_, hlen, hcell⟩ := World.cells?_some h1
      obtain ⟨y, rfl, hy⟩ := trod_act h2
      refine ⟨y, fun t ht => ?_, hy⟩
      have e := hcell t ht
      rw [add_add] at e
      exact e
    by_cases h0 : len0 = 0
    · subst h0; exact ⟨[], .inl ⟨rfl, _, _, rfl⟩, by simp⟩
    · obtain ⟨f, hf2⟩ := choose_lt each
      obtain ⟨b, off, spot⟩ := a
      have hc0 := (hf2 0 (by omega)).1 0 (by decide)
      have hspot : spot = none := by
        have h9 : (actC (f 0))[0]? = some (.int .i64 (f 0).kind) := rfl
        rw [h9] at hc0
        simpa [Addr.add] using World.cell?_spot hc0
      subst hspot
      refine ⟨(List.range len0).map f, .inr ⟨b, off, cap0, by simp, ?_, fun j hj => ?_⟩, by simp; omega⟩
      · have h9 : (actC (f 0))[0]? = some (.int .i64 (f 0).kind) := rfl
        rw [h9, Addr.add_lit] at hc0
        exact World.block_lt_of_cell? W _ hc0
      · have hj2 : j < len0 := by simpa using hj
        obtain ⟨h1, h2⟩ := hf2 j hj2
        simp only [List.getElem_map, List.getElem_range]
        refine ⟨fun t ht => ?_, h2⟩
        have h3 := h1 t ht
        rw [Addr.add_lit, ← Nat.add_assoc] at h3
        exact h3
end Go.Proofs.Ytheljldoboiekaa.Sl
