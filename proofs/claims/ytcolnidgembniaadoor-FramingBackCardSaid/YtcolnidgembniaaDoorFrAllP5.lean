/-
  Texts that the laws' proofs stand on, 10 of them in one file; each one's head says what it proves and under which condition.
-/
import Derived.Test.YtcolnidgembniaaDoorCards
import Derived.Test.YtcolnidgembniaaDoorTie
import Derived.Test.YtcolnidgembniaaDoorFrAllP1
import Derived.Test.YtcolnidgembniaaDoorFrAllP4
import Derived.LaidLaws
import Derived.Lib.LaidTab
import Derived.Lib.ItoaNum
import Derived.ProofKit
import Derived.OpenShut
import Derived.ShutString
import Derived.Deep.DeepHandedRow
import Derived.Test.YtcolnidgembniaaDoorFrAllP2
import Derived.Deep.SlicePairs
import Derived.Lib.SmallJoins
import Derived.SizedLaws
import Derived.ChangeArms
import Derived.RegionTactic
import Derived.Deep.DeepCutAuto
import Derived.Test.YtcolnidgembniaaDoorFrAllP3
import Derived.Lib.SlBytesConst
import Derived.Laws.EntriesVeiled
import Derived.Deep.WholeRow
import Derived.Deep.RegionWith
/-
  What the rows' lists give of the listed variables, and a world that holds them. No condition.
-/
namespace Go.Proofs.YtcolnidgembniaaDoor.Tb
open Go.ChangeShapes Go.WideShapes Go.ChangeAt Go.RowKit

theorem own : ownKnob Tryd.prog.godebug = none := by kernel_rfl
theorem laidOut : laidOutB Tryd.prog = true := by kernel_rfl
/-- A list's part behind its head. -/
theorem tail {P : Program} {x : String × DataW Unit} {r : List (String × DataW Unit)} {w : World} (h : laidMet P (x :: r) w) : laidMet P r w := by
  obtain ⟨ps, ⟨g, t, cs, fuel, p, q, hg, ht, hv, hd, hr, rfl⟩, hn, hall⟩ := h
  exact ⟨q, hr, (List.nodup_append.1 hn).2.1, fun b off hb => hall b off (List.mem_append_right _ hb)⟩

theorem gTab : Tryd.prog.globalNamed "gatepost/token.tokenByte" = some 2 := by kernel_rfl
theorem gTabType : (Tryd.prog.globals[2]?).map (·.type) = some 138 := by kernel_rfl
theorem cellsBool : Tryd.prog.cellsOf 4 = 1 := by kernel_rfl
/-- The table of token bytes: of each byte whether it may stand in a token. -/
def tabBools : List Bool := (List.range 128).map fun n => Tk.tchar (UInt8.ofNat n)
theorem tab_at (n : Nat) (hn : n < 128) : tabBools[n]? = some (Tk.tchar (UInt8.ofNat n)) := by simp [tabBools, hn]
theorem tab_eq : (Rows.laid_gatepost_token_tokenByte : DataW Unit) = .agg (tabBools.map fun b => .lit (.bool b)) := by kernel_rfl
theorem tok_of_head {W : World} {rest : List (String × DataW Unit)} (h : laidMet Tryd.prog (("gatepost/token.tokenByte", Rows.laid_gatepost_token_tokenByte) :: rest) W) : Tk.Tab W := by
  obtain ⟨ps, ⟨g', t', cs, fuel, p, q, hg', ht', hvar, hd, _, _⟩, _⟩ := h
  obtain rfl := Option.some.inj (gTab.symm.trans hg')
  obtain rfl := Option.some.inj (gTabType.symm.trans ht')
  obtain ⟨xs, m, _, hx, _, hxl, hat⟩ := DataW.trod_array Tryd.underlying138 hd
  intro n hn
  have h1 := hat n hn
  rw [cellsBool, Nat.mul_one, List.getElem?_eq_getElem (by omega)] at h1
  obtain ⟨b, hcs, hxb⟩ := DataW.trod_bool Tryd.underlying4 h1
  have hdat : (DataW.agg (tabBools.map fun b => .lit (.bool b)) : DataW Unit) = .agg (xs.map (·.1)) := tab_eq.symm.trans (congrArg Prod.fst hx)
  have hlist : (tabBools.map fun b => (DataW.lit (.bool b) : DataW Unit)) = xs.map (·.1) := by injection hdat
  have h2 : (tabBools.map fun b => (DataW.lit (.bool b) : DataW Unit))[n]? = some (.lit (.bool b)) := by
    rw [hlist, List.getElem?_map, List.getElem?_eq_getElem (by omega), Option.map_some, hxb]
  rw [List.getElem?_map, tab_at n hn, Option.map_some] at h2
  have hb : Tk.tchar (UInt8.ofNat n) = b := by
    injection h2 with h2; injection h2 with h2; injection h2
  rw [World.var?_cell gTab hvar n, hb]
  have h3 : (cs.toList.drop n).take 1 = [.bool b] := hcs
  have h4 : ((cs.toList.drop n).take 1)[0]? = some (.bool b) := by rw [h3]; rfl
  simpa [List.getElem?_take, List.getElem?_drop] using h4

theorem gD64 : Tryd.prog.globalNamed "math/bits.deBruijn64tab" = some 4 := by kernel_rfl
theorem gD64t : (Tryd.prog.globals[4]?).map (·.type) = some 155 := by kernel_rfl
theorem cU8 : Tryd.prog.cellsOf 5 = 1 := by kernel_rfl
theorem cD64 : Tryd.prog.cellsOf 155 = 64 := by kernel_rfl
def d64List : List Int := [0, 1, 56, 2, 57, 49, 28, 3, 61, 58, 42, 50, 38, 29, 17, 4, 62, 47, 59, 36, 45, 43, 51, 22, 53, 39, 33, 30, 24, 18, 12, 5, 63, 55, 48, 27, 60, 41, 37, 16, 46, 35, 44, 21, 52, 32, 23, 11, 54, 26, 40, 15, 34, 20, 31, 10, 25, 14, 19, 9, 13, 8, 7, 6]
theorem d64_eq : (Rows.laid_math_bits_deBruijn64tab : DataW Unit) = Lib.tabData .u8 d64List := by kernel_rfl
theorem d64_of_head {W : World} {rest : List (String × DataW Unit)} (h : laidMet Tryd.prog (("math/bits.deBruijn64tab", Rows.laid_math_bits_deBruijn64tab) :: rest) W) : Fr.D64 W := by
  rw [d64_eq] at h
  have h2 := Lib.tabIs_of_head gD64 gD64t Tryd.underlying155 Tryd.underlying5 cU8 cD64 h
  exact Lib.TabIs.cell h2 gD64 15 (by decide)

theorem gPT : Tryd.prog.globalNamed "internal/strconv.uint64pow10" = some 1 := by kernel_rfl
theorem gPTt : (Tryd.prog.globals[1]?).map (·.type) = some 130 := by kernel_rfl
theorem cU64 : Tryd.prog.cellsOf 112 = 1 := by kernel_rfl
theorem cPT : Tryd.prog.cellsOf 130 = 20 := by kernel_rfl
abbrev P10 (w : World) : Prop := Lib.TabIs Tryd.prog w "internal/strconv.uint64pow10" .u64 Lib.pow10Tab
theorem pow_eq : (Rows.laid_internal_strconv_uint64pow10 : DataW Unit) = Lib.tabData .u64 Lib.pow10Tab := by kernel_rfl
theorem p10_of_head {W : World} {rest : List (String × DataW Unit)} (h : laidMet Tryd.prog (("internal/strconv.uint64pow10", Rows.laid_internal_strconv_uint64pow10) :: rest) W) : P10 W := by
  rw [pow_eq] at h
  exact Lib.tabIs_of_head gPT gPTt Tryd.underlying130 Tryd.underlying112 cU64 cPT h

theorem gErr : Tryd.prog.globalNamed "strconv.ErrSyntax" = some 5 := by kernel_rfl
theorem gErrT : (Tryd.prog.globals[5]?).map (·.type) = some 98 := by kernel_rfl
theorem err_of_head {W : World} {rest : List (String × DataW Unit)} (h : laidMet Tryd.prog (("strconv.ErrSyntax", Rows.laid_strconv_ErrSyntax) :: rest) W) : Fr.ErrV W := by
  obtain ⟨ps, ⟨g', t', cs, fuel, p, q, hg', ht', hvar, hd, _, _⟩, _⟩ := h
  obtain rfl := Option.some.inj (gErr.symm.trans hg')
  obtain rfl := Option.some.inj (gErrT.symm.trans ht')
  unfold Rows.laid_strconv_ErrSyntax at hd
  obtain ⟨f1, u, v, hcs, _, _⟩ := iface_of_trod Tryd.underlying98 hd
  obtain rfl : cs = #[.iface u v] := by cases cs; simpa using hcs
  exact ⟨u, v, by rw [World.var?_cell gErr hvar 0]; rfl⟩

/-- The settled world, each listed variable's block holding what its initialiser lays. -/
def litCell : DataW Unit → List Value
  | .lit (.int k z) => [Value.int k z]
  | .lit (.bool b) => [Value.bool b]
  | .lit (.string b) => [Value.string ⟨b.toArray⟩]
  | _ => [undef]
def dataCells (d : DataW Unit) : Array Value := match d with
  | .agg ds => (ds.flatMap fun
    | .agg es => es.flatMap litCell
    | x => litCell x).toArray
  | _ => #[]
def lay (g : Nat) (cs : Array Value) (h : Array Obj) : Array Obj := h.modify g fun
  | .cells _ t frozen => .cells cs t frozen
  | o => o
noncomputable def laidWorld (os : Os) : World :=
  { World.holding Tryd.prog os ⟨#[], #[], []⟩ with heap := let h := lay 2 (dataCells Rows.laid_gatepost_token_tokenByte) (lay 3 (dataCells Rows.laid_math_bits_deBruijn32tab) (lay 4 (dataCells Rows.laid_math_bits_deBruijn64tab) (lay 1 (dataCells Rows.laid_internal_strconv_uint64pow10) (lay 8 (dataCells Rows.laid_unicode_utf8_acceptRanges) (lay 7 (dataCells Rows.laid_unicode_utf8_first) ((World.holding Tryd.prog os ⟨#[], #[], []⟩).heap))))))
    ((lay 5 #[.iface 172 (.pointer (some ⟨h.size + 1, 0, none⟩))] (lay 6 #[.iface 172 (.pointer (some ⟨h.size + 0, 0, none⟩))] (h))).push (.cells #[.string ⟨#[118, 97, 108, 117, 101, 32, 111, 117, 116, 32, 111, 102, 32, 114, 97, 110, 103, 101]⟩] 174 (0, 0))).push (.cells #[.string ⟨#[105, 110, 118, 97, 108, 105, 100, 32, 115, 121, 110, 116, 97, 120]⟩] 174 (0, 0)) }
end Go.Proofs.YtcolnidgembniaaDoor.Tb
/-
  Arguments that are fields and lists of fields, read as texts. Condition: what the form says of what is read.
-/
namespace Go.Proofs.YtcolnidgembniaaDoor.Fd
open Go.RowKit Tk Go.ChangeShapes Go.WideShapes Go.Deep Go.Joins
set_option linter.unusedVariables false

def strOf : Value → ByteArray
  | .string s => s
  | _ => ByteArray.empty
theorem strOf_eq {v : Value} {s : ByteArray} (h : v = .string s) : v = .string (strOf v) := by subst h; rfl

theorem hone : oneCellFields Tryd.prog #[{ name := "Name", type := 9, offset := 0, embedded := false, tag := "", pkgPath := "", byteOffset := 0 }, { name := "Value", type := 9, offset := 1, embedded := false, tag := "", pkgPath := "", byteOffset := 16 }] = true := by kernel_rfl
theorem cellsText : Tryd.prog.cellsOf 9 = 1 := by kernel_rfl

theorem agg_weights {H : Type} (x y : List UInt8) {n : Nat} (h : n = x.length ∨ n = y.length) : n ∈ (DataW.agg [.lit (.string x), .lit (.string y)] : DataW H).weights Tryd.prog 36 := by
  rw [DataW.weights, Tryd.underlying36]
  rcases h with rfl | rfl <;> simp [DataW.weightsEach, DataW.weights]

theorem weights_in {H : Type} {P : Program} {e : TypeId} : ∀ {l : List (DataW H)} {d : DataW H}, d ∈ l → ∀ n ∈ d.weights P e, n ∈ DataW.weightsAll P e l
  | x :: r, d, hd, n, hn => by
    rw [DataW.weightsAll, List.mem_append]
    rw [List.mem_cons] at hd
    rcases hd with rfl | hd
    · exact .inl hn
    · exact .inr (weights_in hd n hn)

set_option maxRecDepth 100000 in
theorem open_field {H : Type} {enc : TypeId × Value → H} {W : World} {base : Nat} {v : Value} {d : DataW H} {p : List MemPlace} (hv : Value.okWide Tryd.prog W .any base 36 v)
    (h : DataW.Trod enc Tryd.prog W 0 (fun _ => true) true 36 v d p) (hw : ∀ n ∈ d.weights Tryd.prog 36, n ≤ reachBytes) :
    ∃ a b : ByteArray, v = .agg #[.string a, .string b] ∧ a.size ≤ reachBytes ∧ b.size ≤ reachBytes := by
  obtain ⟨v0, v1, y0, y1, n, rfl, rfl, rfl, g0, g1⟩ := open_agg2 Tryd.underlying36 hone cellsField hv h
  obtain ⟨a, e0, rfl, _⟩ := DataW.trod_string Tryd.underlying9 g0
  obtain ⟨b, e1, rfl, _⟩ := DataW.trod_string Tryd.underlying9 g1
  injection e0 with e0
  injection e1 with e1
  subst e0 e1
  have ha := hw _ (agg_weights a.data.toList b.data.toList (.inl rfl))
  have hb := hw _ (agg_weights a.data.toList b.data.toList (.inr rfl))
  exact ⟨a, b, rfl, by simpa using ha, by simpa using hb⟩

set_option maxRecDepth 100000 in
theorem open_flds {H : Type} {enc : TypeId × Value → H} {W : World} {base : Nat} {v : Value} {d : DataW H} {p : List MemPlace} (hv : Value.okWide Tryd.prog W .any base 22 v)
    (h : DataW.Trod enc Tryd.prog W 0 (fun _ => true) true 22 v d p) (hw : ∀ n ∈ d.weights Tryd.prog 22, n ≤ reachBytes) :
    ∃ fs : List Fl, Flds W v fs ∧ fs.length ≤ 140737488355328 ∧ ∀ f ∈ fs, f.1.size ≤ 140737488355328 ∧ f.2.size ≤ 140737488355328 := by
  obtain ⟨a0, len0, cap0, rfl⟩ := okWide_slice Tryd.underlying22 hv
  obtain ⟨fuel, hf⟩ := h
  rcases open_slice_pairs Tryd.underlying22 Tryd.underlying36 cellsField rfl rfl cellsText cellsText hf with ⟨hcs, _⟩ | ⟨a, len, cap, m, n, V0, V1, D0, D1, P0, P1, hcs, _, hl, hm, hmm, hx, hat⟩
  · simp [Value.cells] at hcs
    obtain ⟨rfl, rfl, rfl⟩ := hcs
    exact ⟨[], .inl ⟨rfl, _, _, rfl⟩, by simp, fun _ hf => by simp at hf⟩
  · simp [Value.cells] at hcs
    obtain ⟨rfl, rfl, rfl⟩ := hcs
    have hmc : m = cap0 := by simpa using hmm
    subst hmc
    have hd : d = _ := congrArg Prod.fst hx
    have each : ∀ i, i < len0 → V0 i = .string (strOf (V0 i)) ∧ V1 i = .string (strOf (V1 i)) ∧ (strOf (V0 i)).size ≤ reachBytes ∧ (strOf (V1 i)).size ≤ reachBytes := by
      intro i hi
      obtain ⟨_, _, t0, t1⟩ := hat i (by omega)
      obtain ⟨s0, e0, x0, _⟩ := DataW.trod_string Tryd.underlying9 t0
      obtain ⟨s1, e1, x1, _⟩ := DataW.trod_string Tryd.underlying9 t1
      injection e0 with e0
      injection e1 with e1
      have hin : ∀ k ∈ (DataW.agg [D0 i, D1 i] : DataW H).weights Tryd.prog 36, k ≤ reachBytes := fun k hk => by
        apply hw
        rw [hd, DataW.weights, Tryd.underlying22]
        simp only [List.mem_cons, List.mem_append]
        exact .inr (.inl (weights_in (List.mem_map.2 ⟨i, List.mem_range.2 hi, rfl⟩) k hk))
      have y0 : D0 i = .lit (.string s0.data.toList) := congrArg Prod.fst x0
      have y1 : D1 i = .lit (.string s1.data.toList) := congrArg Prod.fst x1
      rw [y0, y1] at hin
      have z0 := hin _ (agg_weights s0.data.toList s1.data.toList (.inl rfl))
      have z1 := hin _ (agg_weights s0.data.toList s1.data.toList (.inr rfl))
      rw [e0, e1]
      exact ⟨rfl, rfl, by simpa [strOf] using z0, by simpa [strOf] using z1⟩
    have hlen : len0 * 32 ≤ reachBytes := by
      have : (len0 + (m - len0)) * Tryd.prog.bytesOf 36 ∈ d.weights Tryd.prog 22 := by
        rw [hd, DataW.weights, Tryd.underlying22]
        simp
      have h2 := hw _ this
      have h3 : Tryd.prog.bytesOf 36 = 32 := by kernel_rfl
      rw [h3] at h2
      exact Nat.le_trans (Nat.mul_le_mul_right _ (by omega)) h2
    unfold reachBytes at each hlen
    refine ⟨(List.range len0).map fun i => (strOf (V0 i), strOf (V1 i)), ?_, by simp; omega, fun f hf => ?_⟩
    · by_cases h0 : len0 = 0
      · subst h0; exact .inl ⟨rfl, _, _, rfl⟩
      · obtain ⟨b, off, spot⟩ := a
        have hc0 := (hat 0 (by omega)).1
        have hs : spot = none := by simpa [Addr.add] using World.cell?_spot hc0
        subst hs
        refine .inr ⟨b, off, m, by simp, ?_, fun j hj => ?_⟩
        · rw [Addr.add_lit] at hc0
          exact World.block_lt_of_cell? W _ hc0
        · have hj' : j < len0 := by simpa using hj
          obtain ⟨c0, c1, _, _⟩ := hat j (by omega)
          rw [Addr.add_lit] at c0 c1
          obtain ⟨q0, q1, _⟩ := each j hj'
          simp only [List.getElem_map, List.getElem_range]
          rw [c0, q0, Nat.add_assoc, c1, q1]
          exact ⟨by simp [strOf], by simp [strOf]⟩
    · obtain ⟨i, hi, rfl⟩ := List.mem_map.1 hf
      obtain ⟨_, _, q0, q1⟩ := each i (List.mem_range.1 hi)
      exact ⟨by show (strOf (V0 i)).size ≤ _; omega, by show (strOf (V1 i)).size ≤ _; omega⟩
end Go.Proofs.YtcolnidgembniaaDoor.Fd
/-
  A decoder's size: what it returns and leaves. Conditions: strconv.ErrSyntax holds an error; a text below 2^32 bytes.
-/
namespace Go.Proofs.YtcolnidgembniaaDoor.Fr
open Go.RowKit Go.Proofs.YtcolnidgembniaaDoor.Tk Go.Proofs.YtcolnidgembniaaDoor.Fd Go.Proofs.YtcolnidgembniaaDoor.Hd
set_option linter.unusedVariables false

theorem At.below {w w' : World} {O : Nat → Prop} {g : Nat} {v : Value} {s : St} (h : At w O g v s) (hb : Below w.heap.size w w') : At w' O g v s :=
  ⟨Bl.old hb (block_lt h.blk) h.blk, row_chg h.own (Chg.of_below (O := fun _ => False) hb) h.ov (fun _ _ hf => hf), h.non, h.og, h.ov⟩
set_option maxRecDepth 100000 in
set_option maxHeartbeats 4000000 in
theorem size_any (O : Nat → Prop) (g m : Nat) (v : Value) (t : Bs) (w : World) (h : At w O g v (.size m [])) (hm : m ≤ 1048576) (ht : t.length ≤ 4294967280) (hE : ErrV w) :
    Calls Tryd.prog 65 #[.pointer (some ⟨g, 0, none⟩), .string (txt t)] w (LinePost O g (.size m []) v t w) := by
  have HS := Lib.hid (chunkSize_any t w ht hE)
  have HZ := Lib.hid (show ended (.size m []) t = sizeSt m (sizeOf t) from rfl)
  have HA := Lib.hid h
  have hgl := block_lt h.blk
  obtain ⟨T, hT⟩ : ∃ T, T = txt t := ⟨_, rfl⟩
  rw [← hT] at HS ⊢
  clear hT h hE ht
  go_enter Tryd.func65, Tryd.ntmps65
  go_wp2_with fail
  refine HS.out.mono ?_
  rintro e w1 ⟨hb, hr⟩
  have HA1 := Lib.hid (HA.out.below hb)
  have HB1 := Lib.hid (show Chg (New O w) w w1 from Chg.of_below hb)
  have HK := Lib.hid (show w1.heap[g]? = w.heap[g]? from hb.block g hgl)
  clear hb
  have c2 : w1.cell? ⟨g, 2, none⟩ = some (.int .i64 (m : Int)) := dc2 HA1.out.blk
  rcases hr with ⟨hn, rfl⟩ | ⟨n, hn, hn4, rfl⟩
  · have HN := Lib.hid (show ended (.size m []) t = .bad 32 from by rw [HZ.out, hn]; rfl)
    clear hn c2
    go_wp2_with fail
    go_ret
    exact ⟨32, rfl, HB1.out, fun h => by omega, fun _ => ⟨HN.out, HK.out⟩⟩
  · have c0 := dc0 HA1.out.blk
    have c1 := dc1 HA1.out.blk
    have f0 := free HA1.out.blk 0
    have f1 := free HA1.out.blk 1
    have f2 := free HA1.out.blk 2
    by_cases hmn : m < n
    · have HN := Lib.hid (show ended (.size m []) t = .bad 3 from by rw [HZ.out, hn]; show (if n = 0 then St.trail m [] else if m < n then .bad 3 else .chunk (m - n) n) = _; rw [if_neg (by omega), if_pos hmn])
      clear hn c0 c1 f0 f1 f2
      go_wp2_with fail
      go_ret
      exact ⟨3, rfl, HB1.out, fun h => by omega, fun _ => ⟨HN.out, HK.out⟩⟩
    · by_cases h0 : n = 0
      · subst h0
        have HN := Lib.hid (show ended (.size m []) t = .trail m [] from by rw [HZ.out, hn]; rfl)
        have hb := dc_put0 HA1.out.blk 6
        have hc : ∀ x, Chg (fun k => k = g) w1 (w1.setCell ⟨g, 0, none⟩ x) := fun x => (Chg.refl (fun k => k = g) w1).put ⟨g, 0, none⟩ x (.inl rfl)
        have HD := Lib.hid (dec_next (s' := .trail m []) HA1.out (hc _) hb rfl rfl)
        have HC := Lib.hid (fun x => HB1.out.trans (hc x) (fun k hk => .inl (.inl (by subst hk; exact HA1.out.og))))
        clear hn c1 f1 f2 hb hc hmn hn4
        go_wp2_with fail
        go_ret
        exact ⟨0, rfl, HC.out _, fun _ => by rw [HN.out]; exact HD.out, fun h => (h rfl).elim⟩
      · have HN := Lib.hid (show ended (.size m []) t = .chunk (m - n) n from by rw [HZ.out, hn]; show (if n = 0 then St.trail m [] else if m < n then .bad 3 else .chunk (m - n) n) = _; rw [if_neg h0, if_neg hmn])
        obtain ⟨x1, hx1⟩ : ∃ x1, x1 = (w1.setCell ⟨g, 0, none⟩ (.int .i64 4)).setCell ⟨g, 1, none⟩ (.int .i64 (n : Int)) := ⟨_, rfl⟩
        have hb1 : x1.heap[g]? = some (.cells (dc 4 n m v 0) 59 (0, 0)) := by rw [hx1]; exact dc_put1 (dc_put0 HA1.out.blk 4) n
        have e1 := dc1 hb1
        have e2 := dc2 hb1
        have g2 := free hb1 2
        have hc1 : Chg (fun k => k = g) w1 x1 := by rw [hx1]; exact ((Chg.refl (fun k => k = g) w1).put ⟨g, 0, none⟩ _ (.inl rfl)).put ⟨g, 1, none⟩ _ (.inl rfl)
        have hcast : ((m - n : Nat) : Int) = (m : Int) - (n : Int) := by omega
        have hb2 := dc_put2 hb1 (m - n)
        have hc2 := (hc1.put ⟨g, 2, none⟩ (.int .i64 ((m - n : Nat) : Int)) (.inl rfl)).drew
        have hb2d : (x1.setCell ⟨g, 2, none⟩ (.int .i64 ((m - n : Nat) : Int))).drew.heap[g]? = some (.cells (dc 4 n (m - n) v 0) 59 (0, 0)) := hb2
        have HD := Lib.hid (dec_next (s' := .chunk (m - n) n) HA1.out hc2 hb2d rfl rfl)
        have HC := Lib.hid (HB1.out.trans hc2 (fun k hk => .inl (.inl (by subst hk; exact HA1.out.og))))
        rw [hcast] at HD HC
        have HX1 := Lib.hid hx1
        have hn0 : 0 < n := by omega
        have hnm : n ≤ m := by omega
        clear hn hmn h0 hcast hb1 hb2 hc1 hc2 hb2d hx1
        go_upto_region 10 with fail
        rw [← HX1.out]
        clear c0 c1 c2 f0 f1 f2
        go_region
        go_wp2_with fail
        go_ret
        exact ⟨0, rfl, HC.out, fun _ => by rw [HN.out]; exact HD.out, fun h => (h rfl).elim⟩
end Go.Proofs.YtcolnidgembniaaDoor.Fr
/-
  bytes.TrimSuffix at a suffix of one byte; bytes.IndexByte at a byte 10: what each returns. No condition but what a slice can have.
-/
namespace Go.Proofs.YtcolnidgembniaaDoor.Hd
open Go.RowKit Go.Proofs.YtcolnidgembniaaDoor.Tk Go.Proofs.YtcolnidgembniaaDoor.Fd
set_option linter.unusedVariables false

theorem bytesOf_map (l : Bs) : Lib.bytesOf (l.map fun c => (c.toNat : Int)) = l := by
  induction l with
  | nil => rfl
  | cons c r ih => simp [Lib.bytesOf] at ih ⊢; exact ih
/-- Bytes without a byte at their end. -/
def cutEnd (c : UInt8) (l : Bs) : Bs := if l.getLast? = some c then l.dropLast else l
theorem cutEnd_own (l : Bs) : cutEnd 13 l = own l := rfl
theorem cutEnd_snoc (c : UInt8) (l : Bs) : cutEnd c (l ++ [c]) = l := by unfold cutEnd; simp
theorem cutEnd_take (c : UInt8) (l : Bs) : cutEnd c l = l.take (cutEnd c l).length := by
  unfold cutEnd; split
  · rw [List.length_dropLast, List.dropLast_eq_take]
  · rw [List.take_length]
theorem cutEnd_le (c : UInt8) (l : Bs) : (cutEnd c l).length ≤ l.length := by
  unfold cutEnd; split
  · rw [List.length_dropLast]; omega
  · exact Nat.le_refl _
theorem suffix_one (l : Bs) (c : UInt8) : Lib.hasSuffix l [c] = decide (l.getLast? = some c) := by
  rw [Bool.eq_iff_iff, decide_eq_true_eq]
  unfold Lib.hasSuffix
  rw [List.isSuffixOf_iff_suffix]
  constructor
  · rintro ⟨t, rfl⟩; simp
  · intro h
    rcases snoc_cases l with rfl | ⟨i, d, rfl⟩
    · simp at h
    · simp at h; subst h; exact ⟨i, rfl⟩
theorem Holds_take {w : World} {b off : Nat} {l : Bs} (h : Holds w b off l) (k : Nat) : Holds w b off (l.take k) := by
  intro j hj
  have hj' : j < l.length := by rw [List.length_take] at hj; omega
  rw [h j hj', List.getElem_take]

theorem trimsuf_any (b off cap : Nat) (l : Bs) (q : Nat) (c : UInt8) (w : World) (hc : l.length ≤ cap) (hm : cap ≤ maxLen) (h : Holds w b off l) (hq : w.cell? ⟨q, 0, none⟩ = some (.int .u8 (c.toNat : Int))) :
    Calls Tryd.prog 68 #[.slice (some ⟨b, off, none⟩) l.length cap, .slice (some ⟨q, 0, none⟩) 1 1] w fun e w' => e = .returned (.slice (some ⟨b, off, none⟩) (cutEnd c l).length cap) ∧ w = w' := by
  refine (Ln.bytes_TrimSuffix_all (some ⟨b, off, none⟩) (some ⟨q, 0, none⟩) l.length cap 1 1 (l.map fun c => (c.toNat : Int)) [(c.toNat : Int)] w (by simp) rfl hc (by unfold maxLen at hm; omega)
    (.of_cells fun i hi => ?_) (.of_cells fun i hi => ?_)).mono ?_
  · rw [Addr.add_lit, h i hi]; simp [hi]
  · have : i = 0 := by omega
    subst this; rw [Addr.add_lit]; simpa using hq
  · rintro e w' ⟨rfl, rfl⟩
    refine ⟨?_, rfl⟩
    have e1 : Lib.bytesOf [(c.toNat : Int)] = [c] := bytesOf_map [c]
    show Ending.returned (Lib.bytesTrimSuffix b off l.length cap _ _) = _
    unfold Lib.bytesTrimSuffix
    rw [bytesOf_map, e1, suffix_one]
    unfold cutEnd Lib.sliceTo
    by_cases hl : l.getLast? = some c
    · simp [hl]
    · simp [hl]

/-- Where the first byte 10 stands; the length, if there is none. -/
def nl : Bs → Nat
  | [] => 0
  | c :: r => if c = 10 then 0 else nl r + 1
theorem nl_le (l : Bs) : nl l ≤ l.length := by
  induction l with
  | nil => exact Nat.le_refl _
  | cons c r ih => unfold nl; split <;> simp; omega
theorem nl_at (l : Bs) (h : nl l < l.length) : l[nl l] = 10 := by
  induction l with
  | nil => simp at h
  | cons c r ih =>
    by_cases hc : c = 10
    · simp [nl, hc]
    · have h' : nl r < r.length := by simp [nl, hc] at h; omega
      simp [nl, hc, ih h']
theorem nl_before (l : Bs) : ∀ c ∈ l.take (nl l), c ≠ 10 := by
  induction l with
  | nil => simp
  | cons c r ih =>
    by_cases hc : c = 10
    · simp [nl, hc]
    · simp only [nl, hc, if_false, List.take_succ_cons]
      intro d hd
      rcases List.mem_cons.1 hd with rfl | hd
      · exact hc
      · exact ih d hd
theorem nl_index (l : Bs) : Lib.indexByte l 10 = if nl l < l.length then (nl l : Int) else -1 := by
  induction l with
  | nil => simp [Lib.indexByte, nl]
  | cons c r ih =>
    unfold Lib.indexByte nl
    by_cases hc : c = 10
    · simp [hc]
    · have hb : (c == 10) = false := by simpa using hc
      rw [if_neg hc, hb, ih, List.length_cons]
      by_cases h : nl r < r.length
      · have h2 : nl r + 1 < r.length + 1 := by omega
        have h3 : ((nl r : Int) == -1) = false := by rw [beq_eq_false_iff_ne]; omega
        rw [if_pos h, if_pos h2, h3]; simp
      · have h2 : ¬ nl r + 1 < r.length + 1 := by omega
        rw [if_neg h, if_neg h2]; rfl
theorem nl_none {l : Bs} (h : ¬ nl l < l.length) : ∀ c ∈ l, c ≠ 10 := by
  have := nl_before l
  rwa [List.take_of_length_le (by omega)] at this
/-- The first byte 10 of a beginning, in the whole. -/
theorem nl_split {b : Bs} {m : Nat} (h : nl (b.take m) < (b.take m).length) :
    b = b.take (nl (b.take m)) ++ 10 :: b.drop (nl (b.take m) + 1) ∧ (∀ c ∈ b.take (nl (b.take m)), c ≠ 10) ∧ nl (b.take m) < m ∧ nl (b.take m) < b.length := by
  have h1 := nl_at _ h
  have h2 := nl_before (b.take m)
  have hl : (b.take m).length = min m b.length := List.length_take
  have hb : nl (b.take m) < b.length := by omega
  rw [List.getElem_take] at h1
  rw [List.take_take, Nat.min_eq_left (by omega)] at h2
  refine ⟨?_, h2, by omega, hb⟩
  rw [← h1, List.getElem_cons_drop]
  exact (List.take_append_drop _ _).symm

theorem idx10_any (b off cap : Nat) (l : Bs) (w : World) (h : Holds w b off l) :
    Calls Tryd.prog 46 #[.slice (some ⟨b, off, none⟩) l.length cap, .int .u8 10] w fun e w' => e = .returned (.int .i64 (Lib.indexByte l 10)) ∧ w = w' := by
  refine (Ln.bytes_IndexByte b off l.length cap (l.map fun c => (c.toNat : Int)) 10 w (by simp) ?_).mono ?_
  · intro i hi
    rw [h i hi]
    simp [hi]
  · rintro e w' ⟨rfl, rfl⟩
    rw [bytesOf_map]
    exact ⟨rfl, rfl⟩

end Go.Proofs.YtcolnidgembniaaDoor.Hd
/-
  A decoder's end: what it leaves. Conditions: a line of at most 1025 bytes; the tables.
-/
namespace Go.Proofs.YtcolnidgembniaaDoor.Fr
open Go.RowKit Go.Proofs.YtcolnidgembniaaDoor.Tk Go.Proofs.YtcolnidgembniaaDoor.Fd Go.Proofs.YtcolnidgembniaaDoor.Hd
set_option linter.unusedVariables false

def emptied : St → St
  | .size m _ => .size m []
  | .gap m _ => .gap m []
  | .trail m _ => .trail m []
  | s => s
theorem ended_emptied (s : St) (t : Bs) : ended (emptied s) t = ended s t := by cases s <;> rfl
theorem own_take (l : Bs) : own l = l.take (own l).length := cutEnd_take 13 l
theorem row_cut {w : World} {q n C : Nat} {l : Bs} (h : OwnB w (.slice (some ⟨q, 0, none⟩) n C) l) : OwnB w (.slice (some ⟨q, 0, none⟩) 0 C) [] := by
  refine ⟨by simp [bys], .inr ?_⟩
  rcases h.2 with ⟨hv, _⟩ | ⟨g, cap, cur, hv, hg, hh, hlc, hcm, hcs, htk⟩
  · cases hv
  · injection hv with h1 h2 h3
    injection h1 with h1
    injection h1 with h1
    subst h1 h3
    exact ⟨q, C, cur, rfl, hg, hh, Nat.zero_le _, hcm, hcs, by simp [bys]⟩
theorem num_emptied {s : St} {l : Bs} (h : lineOf s = some l) : num1 (emptied s) = num1 s ∧ num2 (emptied s) = 0 ∧ num2 s = 0 ∧ num3 (emptied s) = num3 s ∧ errOf (emptied s) = 0 ∧ errOf s = 0 ∧ text (emptied s) = [] ∧ text s = l ∧ lined (emptied s) = true := by
  cases s <;> first | (injection h with h; subst h; exact ⟨rfl, rfl, rfl, rfl, rfl, rfl, rfl, rfl, rfl⟩) | cases h
theorem At.cut {w : World} {O : Nat → Prop} {g q m C : Nat} {s : St} {l : Bs} (h : At w O g (.slice (some ⟨q, 0, none⟩) m C) s) (hl : lineOf s = some l) :
    At (w.setCell ⟨g, 3, none⟩ (.slice (some ⟨q, 0, none⟩) 0 C)) O g (.slice (some ⟨q, 0, none⟩) 0 C) (emptied s) := by
  obtain ⟨e1, e2, e2', e3, e4, e4', e5, e6, e7⟩ := num_emptied hl
  have hb := h.blk
  rw [e2', e4'] at hb
  refine ⟨(by rw [e1, e2, e3, e4]; exact dc_put3 hb _), ?_, fun hf => (by rw [e7] at hf; cases hf), h.og, h.ov⟩
  rw [e5]
  refine row_same (row_cut h.own) fun k hk => ?_
  obtain ⟨cu, hcu⟩ := row_type h.own (k := k) hk
  exact put_far rfl (by show k ≠ g; exact apart_of hcu h.blk (by decide))
theorem At.same {w : World} {O : Nat → Prop} {g : Nat} {s : St} (h : At w O g (.slice none 0 0) s) (hl : lineOf s = some []) : emptied s = s := by
  cases s <;> first | (injection hl with hl; subst hl; rfl) | cases hl
def EndLPost (O : Nat → Prop) (g : Nat) (st : St) (w : World) (e : Ending) (w' : World) : Prop := e = .returned (.tuple #[]) ∧ Dec w' (New O w) g st ∧ Chg O w w'
theorem new_size {O : Nat → Prop} {a b : World} (hs : a.heap.size ≤ b.heap.size) (k : Nat) (h : New O b k) : New O a k := by
  rcases h with h | h
  · exact .inl h
  · exact .inr (by omega)
theorem tab_chg {O : Nat → Prop} {w w' : World} (h : Tab w) (hc : Chg O w w') (ho : ¬ O 2) : Tab w' := fun n hn => by
  rw [World.cell?_of_block (w := w) (hc.block 2 h.lt ho)]; exact h n hn
/-- The functions of a line's end, by the state's number. -/
def LineFn (S : Nat) (F : FuncId) : Prop := (S = 3 ∧ F = 65) ∨ (S = 5 ∧ F = 66) ∨ (S = 6 ∧ F = 67)
def lineFn : St → FuncId
  | .size _ _ => 65
  | .gap _ _ => 66
  | _ => 67
theorem lineFn_is {s : St} {l : Bs} (h : lineOf s = some l) : LineFn (num1 s) (lineFn s) := by
  cases s with
  | size m k => exact .inl ⟨rfl, rfl⟩
  | gap m k => exact .inr (.inl ⟨rfl, rfl⟩)
  | trail m k => exact .inr (.inr ⟨rfl, rfl⟩)
  | _ => cases h
/-- What is done with a line, whichever. -/
theorem line_fn (O : Nat → Prop) (g : Nat) (v : Value) (s : St) (l t : Bs) (w : World) (h : At w O g v (emptied s)) (hl : lineOf s = some l) (hG : Good s) (ht : t.length ≤ 1025) (hT : Tab w) (hE : ErrV w) :
    Calls Tryd.prog (lineFn s) #[.pointer (some ⟨g, 0, none⟩), .string (txt t)] w (LinePost O g (emptied s) v t w) := by
  cases s with
  | size m k => exact size_any O g m v t w h hG.1 (by omega) hE
  | gap m k => exact gap_any O g m v t w h
  | trail m k => exact trailer_any O g m v t w h (by omega) hT
  | _ => cases hl
def fns (g : Nat) : Array Value := #[.nilFunc, .nilFunc, .nilFunc, .func (.func 65) #[.pointer (some ⟨g, 0, none⟩)] #[], .nilFunc, .func (.func 66) #[.pointer (some ⟨g, 0, none⟩)] #[], .func (.func 67) #[.pointer (some ⟨g, 0, none⟩)] #[], .nilFunc]
set_option maxRecDepth 100000 in
set_option maxHeartbeats 4000000 in
theorem lend_row (O : Nat → Prop) (g q C S : Nat) (F : FuncId) (s : St) (l : Bs) (w : World) (h : At w O g (.slice (some ⟨q, 0, none⟩) l.length C) s) (hl : lineOf s = some l) (hG : Good s) (hS : num1 s = S) (hF : lineFn s = F) (hSF : LineFn S F)
    (hT : Tab w) (hE : ErrV w) (ho : ¬ O 2) (ho2 : ¬ O 5) :
    Calls Tryd.prog 47 #[.pointer (some ⟨g, 0, none⟩)] w (EndLPost O g (ended s (own l)) w) := by
  obtain ⟨e1, e2, e2', e3, e4, e4', e5, e6, e7⟩ := num_emptied hl
  have hown := h.own
  rw [e6] at hown
  rcases hown.2 with ⟨hv, _⟩ | ⟨q', C', cur, hv, _, hh, hlc, hcm, hcs, htk⟩
  · cases hv
  injection hv with i1 i2 i3
  injection i1 with i1
  injection i1 with i1
  subst i1 i3
  have hl25 : l.length ≤ 1025 := by cases s <;> first | (injection hl with hl; subst hl; exact hG.2) | cases hl
  have hblk := h.blk
  have hqg : q ≠ g := apart_of hh hblk (by decide)
  have hLh : Holds w q 0 l := OwnB.holds hown rfl
  have hqw := block_lt hh
  have hgw := block_lt hblk
  have hol := own_length l
  obtain ⟨N3, hN3⟩ : ∃ N3, N3 = num3 s := ⟨_, rfl⟩
  rw [hS, e2', e4', ← hN3] at hblk
  have kc := fun (w : World) (C : Array Value) (n c : Nat) => Lib.run_convert_bytes_const (P := Tryd.prog) w 39 5 C n c Tryd.underlying39 Tryd.underlying5
  obtain ⟨w1, hw1⟩ : ∃ w1, w1 = w.alloc (.cells (fns g) 109) := ⟨_, rfl⟩
  have hb1 : Below w.heap.size w w1 := by rw [hw1]; exact (Below.refl _ _).alloc (Nat.le_refl _) _
  have hs1 : w1.heap.size = w.heap.size + 1 := by rw [hw1]; simp
  obtain ⟨w2, hw2⟩ : ∃ w2, w2 = w1.alloc (.cells #[.int .u8 13] 5 (1, 2)) := ⟨_, rfl⟩
  have hb2 : Below w1.heap.size w1 w2 := by rw [hw2]; exact (Below.refl _ _).alloc (Nat.le_refl _) _
  have hN1 : w1.heap[w.heap.size]? = some (.cells (fns g) 109 (0, 0)) := by rw [hw1]; exact new_block _ _
  have HN2 := Lib.hid (show w2.heap[w1.heap.size]? = some (.cells #[.int .u8 13] 5 (1, 2)) from by rw [hw2]; exact new_block _ _)
  have HX2 := Lib.hid (holds_below (holds_below hLh hb1 hqw) hb2 (by omega))
  have HBB := Bl.next hb1 hb2
  have hbk1 := Bl.old hb1 hgw hblk
  have hbk2 := Bl.old HBB hgw hblk
  have HA2 := Lib.hid ((h.below HBB).cut hl)
  have HC2 := Lib.hid ((Chg.of_below (O := O) HBB).put ⟨g, 3, none⟩ (.slice (some ⟨q, 0, none⟩) 0 C) (.inl h.og))
  have HB0 := Lib.hid HA2.out.blk
  have c1 : w1.cell? ⟨g, 3, none⟩ = some (.slice (some ⟨q, 0, none⟩) l.length C) := dc3 hbk1
  have d3 : w2.cell? ⟨g, 3, none⟩ = some (.slice (some ⟨q, 0, none⟩) l.length C) := dc3 hbk2
  have f3 := free hbk2 3
  obtain ⟨w3, hw3⟩ : ∃ w3, w3 = w2.setCell ⟨g, 3, none⟩ (.slice (some ⟨q, 0, none⟩) 0 C) := ⟨_, rfl⟩
  rw [← hw3] at HA2 HC2 HB0
  have k0 : w3.cell? ⟨g, 0, none⟩ = some (.int .i64 (S : Int)) := by rw [hw3]; exact dc0 (dc_put3 hbk2 _)
  have hN3b : w3.heap[w.heap.size]? = some (.cells (fns g) 109 (0, 0)) := by
    rw [hw3]; exact put_far (Bl.old hb2 (by omega) hN1) (by show w.heap.size ≠ g; omega)
  have kF : w3.cell? ⟨w.heap.size, S, none⟩ = some (.func (.func F) #[.pointer (some ⟨g, 0, none⟩)] #[]) := by
    rw [Lib.cell_of_heap hN3b]
    rcases hSF with ⟨rfl, rfl⟩ | ⟨rfl, rfl⟩ | ⟨rfl, rfl⟩ <;> rfl
  have HFn := Lib.hid (line_fn O g _ s l (own l) w3 HA2.out hl hG (by omega) (tab_chg hT HC2.out ho) (hE.chg HC2.out ho2))
  rw [hF] at HFn
  have HCV := Lib.hid (Tk.run_back (P := Tryd.prog) w2 39 9 5 q 0 C (own l) Tryd.underlying39 Tryd.underlying5 Tryd.underlying9 (by rw [own_take]; exact Holds_take (l := l) HX2.out _))
  have HTr := Lib.hid (trimsuf_any q 0 C l w1.heap.size 13 w2 hlc hcm HX2.out (by rw [Lib.cell_of_heap HN2.out]; rfl))
  have HO2 := Lib.hid (show (cutEnd 13 l) = own l from rfl)
  rw [HO2.out] at HTr
  have hs3 : w.heap.size ≤ w3.heap.size := HC2.out.size
  have hog := h.og
  have HES := Lib.hid (ended_emptied s (own l))
  have hw1u := hw1
  unfold fns at hw1u
  have HW1 := Lib.hid hw1u
  clear hw1u
  have HW2 := Lib.hid hw2
  have HW3 := Lib.hid hw3
  have HSz := Lib.hid hs1
  obtain ⟨E1, hE1⟩ : ∃ E1, E1 = num1 (emptied s) := ⟨_, rfl⟩
  obtain ⟨E2, hE2⟩ : ∃ E2, E2 = num2 (emptied s) := ⟨_, rfl⟩
  obtain ⟨E3, hE3⟩ : ∃ E3, E3 = num3 (emptied s) := ⟨_, rfl⟩
  obtain ⟨E4, hE4⟩ : ∃ E4, E4 = errOf (emptied s) := ⟨_, rfl⟩
  rw [← hE1, ← hE2, ← hE3, ← hE4] at HB0
  obtain ⟨N, hN⟩ : ∃ N, N = l.length := ⟨_, rfl⟩
  rw [← hN] at c1 d3 HTr
  obtain ⟨M, hM⟩ : ∃ M, M = (own l).length := ⟨_, rfl⟩
  rw [← hM] at HTr HCV
  have hNC : N ≤ C := by omega
  unfold maxLen at hcm
  clear e1 e2 e2' e3 e4 e4' e5 e6 e7 hown hh hcs htk hblk hqg hLh hol hN3 hw1 hw2 hw3 hb1 hb2 hN1 HBB hbk1 hbk2 hN3b hs1 hl hG hS hF hT hE h hE1 hE2 hE3 hE4 hN hM hlc hl25
  rcases hSF with ⟨rfl, rfl⟩ | ⟨rfl, rfl⟩ | ⟨rfl, rfl⟩
  all_goals
    go_enter Tryd.func47, Tryd.ntmps47
    go_upto_region 1 with fail
    rw [← HW1.out]
    go_wp2_with fail
    rw [← HW2.out]
    refine HTr.out.mono ?_
    rintro e x2 ⟨rfl, rfl⟩
    have hcv := HCV.out
    go_upto_region 3 with fail
    rw [← HW3.out]
    clear hcv c1 d3 f3
    go_wp2_with fail
    refine HFn.out.mono ?_
    rintro e w4 ⟨E, rfl, hc4, h0, h1⟩
    have HC4 := Lib.hid (HC2.out.trans hc4 (fun k hk => new_size hs3 k hk))
    by_cases hE : E = 0
    · subst hE
      have HD := Lib.hid ((h0 rfl).mono (O' := New O w) (fun k hk => .inl hk))
      rw [HES.out] at HD
      clear hc4 h0 h1 k0 kF
      go_wp2_with fail
      go_end0
      exact ⟨rfl, HD.out, HC4.out⟩
    · obtain ⟨h2, h3⟩ := h1 hE
      rw [HES.out] at h2
      have HST := Lib.hid h2
      rw [HB0.out] at h3
      have HFl := Lib.hid (fail_any g E1 E2 E3 _ E4 E w4 h3)
      have hne : ((E : Int) != 0) = true := by rw [bne_iff_ne]; omega
      clear hc4 h0 h1 h2 h3 k0 kF
      go_wp2_with fail
      refine HFl.out.mono ?_
      rintro e w5 ⟨rfl, hb5, hc5⟩
      have HD := Lib.hid (show Dec w5 (New O w) g (.bad E) from dec_over rfl (.inl hog) hb5)
      have HC5 := Lib.hid (HC4.out.trans hc5 (fun k hk => .inl (by subst hk; exact hog)))
      clear hb5 hc5
      go_wp2_with fail
      go_end0
      exact ⟨rfl, by rw [HST.out]; exact HD.out, HC5.out⟩
end Go.Proofs.YtcolnidgembniaaDoor.Fr
/-
  A decoder's end at a line with no memory yet, and at any line. Conditions: a line of at most 1025 bytes; the tables.
-/
namespace Go.Proofs.YtcolnidgembniaaDoor.Fr
open Go.RowKit Go.Proofs.YtcolnidgembniaaDoor.Tk Go.Proofs.YtcolnidgembniaaDoor.Fd Go.Proofs.YtcolnidgembniaaDoor.Hd
set_option linter.unusedVariables false

theorem trim_none (q : Nat) (w : World) (hq : w.cell? ⟨q, 0, none⟩ = some (.int .u8 13)) :
    Calls Tryd.prog 68 #[.slice none 0 0, .slice (some ⟨q, 0, none⟩) 1 1] w fun e w' => e = .returned (.slice none 0 0) ∧ w = w' := by
  refine (Ln.bytes_TrimSuffix_all none (some ⟨q, 0, none⟩) 0 0 1 1 [] [13] w rfl rfl (Nat.le_refl _) (by omega) (Lib.BytesIn.nil _ _ _) (.of_cells fun i hi => ?_)).mono ?_
  · have : i = 0 := by omega
    subst this; rw [Addr.add_lit]; simpa using hq
  · rintro e w' ⟨rfl, rfl⟩
    exact ⟨rfl, rfl⟩
theorem At.cutNil {w : World} {O : Nat → Prop} {g : Nat} {s : St} (h : At w O g (.slice none 0 0) s) (hl : lineOf s = some []) :
    At (w.setCell ⟨g, 3, none⟩ (.slice none 0 0)) O g (.slice none 0 0) (emptied s) := by
  obtain ⟨e1, e2, e2', e3, e4, e4', e5, e6, e7⟩ := num_emptied hl
  have hb := h.blk
  rw [e2', e4'] at hb
  refine ⟨(by rw [e1, e2, e3, e4]; exact dc_put3 hb _), (by rw [e5]; exact OwnB.nil _), fun hf => rfl, h.og, fun k hk => by cases hk⟩
set_option maxRecDepth 100000 in
set_option maxHeartbeats 4000000 in
theorem lend_nil (O : Nat → Prop) (g S : Nat) (F : FuncId) (s : St) (w : World) (h : At w O g (.slice none 0 0) s) (hl : lineOf s = some []) (hG : Good s) (hS : num1 s = S) (hF : lineFn s = F) (hSF : LineFn S F)
    (hT : Tab w) (hE : ErrV w) (ho : ¬ O 2) (ho2 : ¬ O 5) :
    Calls Tryd.prog 47 #[.pointer (some ⟨g, 0, none⟩)] w (EndLPost O g (ended s []) w) := by
  obtain ⟨e1, e2, e2', e3, e4, e4', e5, e6, e7⟩ := num_emptied hl
  have hblk := h.blk
  have hgw := block_lt hblk
  obtain ⟨N3, hN3⟩ : ∃ N3, N3 = num3 s := ⟨_, rfl⟩
  rw [hS, e2', e4', ← hN3] at hblk
  have kc := fun (w : World) (C : Array Value) (n c : Nat) => Lib.run_convert_bytes_const (P := Tryd.prog) w 39 5 C n c Tryd.underlying39 Tryd.underlying5
  obtain ⟨w1, hw1⟩ : ∃ w1, w1 = w.alloc (.cells (fns g) 109) := ⟨_, rfl⟩
  have hb1 : Below w.heap.size w w1 := by rw [hw1]; exact (Below.refl _ _).alloc (Nat.le_refl _) _
  have hs1 : w1.heap.size = w.heap.size + 1 := by rw [hw1]; simp
  obtain ⟨w2, hw2⟩ : ∃ w2, w2 = w1.alloc (.cells #[.int .u8 13] 5 (1, 2)) := ⟨_, rfl⟩
  have hb2 : Below w1.heap.size w1 w2 := by rw [hw2]; exact (Below.refl _ _).alloc (Nat.le_refl _) _
  have hN1 : w1.heap[w.heap.size]? = some (.cells (fns g) 109 (0, 0)) := by rw [hw1]; exact new_block _ _
  have HN2 := Lib.hid (show w2.heap[w1.heap.size]? = some (.cells #[.int .u8 13] 5 (1, 2)) from by rw [hw2]; exact new_block _ _)
  have HBB := Bl.next hb1 hb2
  have hbk1 := Bl.old hb1 hgw hblk
  have hbk2 := Bl.old HBB hgw hblk
  have HA2 := Lib.hid ((h.below HBB).cutNil hl)
  have HC2 := Lib.hid ((Chg.of_below (O := O) HBB).put ⟨g, 3, none⟩ (.slice none 0 0) (.inl h.og))
  have HB0 := Lib.hid HA2.out.blk
  have c1 : w1.cell? ⟨g, 3, none⟩ = some (.slice none 0 0) := dc3 hbk1
  have d3 : w2.cell? ⟨g, 3, none⟩ = some (.slice none 0 0) := dc3 hbk2
  have f3 := free hbk2 3
  obtain ⟨w3, hw3⟩ : ∃ w3, w3 = w2.setCell ⟨g, 3, none⟩ (.slice none 0 0) := ⟨_, rfl⟩
  rw [← hw3] at HA2 HC2 HB0
  have k0 : w3.cell? ⟨g, 0, none⟩ = some (.int .i64 (S : Int)) := by rw [hw3]; exact dc0 (dc_put3 hbk2 _)
  have hN3b : w3.heap[w.heap.size]? = some (.cells (fns g) 109 (0, 0)) := by
    rw [hw3]; exact put_far (Bl.old hb2 (by omega) hN1) (by show w.heap.size ≠ g; omega)
  have kF : w3.cell? ⟨w.heap.size, S, none⟩ = some (.func (.func F) #[.pointer (some ⟨g, 0, none⟩)] #[]) := by
    rw [Lib.cell_of_heap hN3b]
    rcases hSF with ⟨rfl, rfl⟩ | ⟨rfl, rfl⟩ | ⟨rfl, rfl⟩ <;> rfl
  have HFn := Lib.hid (line_fn O g _ s [] [] w3 HA2.out hl hG (by simp) (tab_chg hT HC2.out ho) (hE.chg HC2.out ho2))
  rw [hF, txt_nil] at HFn
  have HTr := Lib.hid (trim_none w1.heap.size w2 (by rw [Lib.cell_of_heap HN2.out]; rfl))
  have hs3 : w.heap.size ≤ w3.heap.size := HC2.out.size
  have hog := h.og
  have HES := Lib.hid (ended_emptied s [])
  have hw1u := hw1
  unfold fns at hw1u
  have HW1 := Lib.hid hw1u
  clear hw1u
  have HW2 := Lib.hid hw2
  have HW3 := Lib.hid hw3
  obtain ⟨E1, hE1⟩ : ∃ E1, E1 = num1 (emptied s) := ⟨_, rfl⟩
  obtain ⟨E2, hE2⟩ : ∃ E2, E2 = num2 (emptied s) := ⟨_, rfl⟩
  obtain ⟨E3, hE3⟩ : ∃ E3, E3 = num3 (emptied s) := ⟨_, rfl⟩
  obtain ⟨E4, hE4⟩ : ∃ E4, E4 = errOf (emptied s) := ⟨_, rfl⟩
  rw [← hE1, ← hE2, ← hE3, ← hE4] at HB0
  clear e1 e2 e2' e3 e4 e4' e5 e6 e7 hblk hN3 hw1 hw2 hw3 hb1 hb2 hN1 HBB hbk1 hbk2 hN3b hs1 hl hG hS hF hT hE h hE1 hE2 hE3 hE4
  rcases hSF with ⟨rfl, rfl⟩ | ⟨rfl, rfl⟩ | ⟨rfl, rfl⟩
  all_goals
    go_enter Tryd.func47, Tryd.ntmps47
    go_upto_region 1 with fail
    rw [← HW1.out]
    go_wp2_with fail
    rw [← HW2.out]
    refine HTr.out.mono ?_
    rintro e x2 ⟨rfl, rfl⟩
    have hcv : (convert 39 9 (.slice none 0 0)).run Tryd.prog w2 = .ok (.string ⟨#[]⟩) w2 := run_convert_bytes_nil w2 39 5 Tryd.underlying39 Tryd.underlying5 0 0 9 Tryd.underlying9
    go_upto_region 3 with fail
    rw [← HW3.out]
    clear hcv c1 d3 f3
    go_wp2_with fail
    refine HFn.out.mono ?_
    rintro e w4 ⟨E, rfl, hc4, h0, h1⟩
    have HC4 := Lib.hid (HC2.out.trans hc4 (fun k hk => new_size hs3 k hk))
    by_cases hE : E = 0
    · subst hE
      have HD := Lib.hid ((h0 rfl).mono (O' := New O w) (fun k hk => .inl hk))
      rw [HES.out] at HD
      clear hc4 h0 h1 k0 kF
      go_wp2_with fail
      go_end0
      exact ⟨rfl, HD.out, HC4.out⟩
    · obtain ⟨h2, h3⟩ := h1 hE
      rw [HES.out] at h2
      have HST := Lib.hid h2
      rw [HB0.out] at h3
      have HFl := Lib.hid (fail_any g E1 E2 E3 _ E4 E w4 h3)
      have hne : ((E : Int) != 0) = true := by rw [bne_iff_ne]; omega
      clear hc4 h0 h1 h2 h3 k0 kF
      go_wp2_with fail
      refine HFl.out.mono ?_
      rintro e w5 ⟨rfl, hb5, hc5⟩
      have HD := Lib.hid (show Dec w5 (New O w) g (.bad E) from dec_over rfl (.inl hog) hb5)
      have HC5 := Lib.hid (HC4.out.trans hc5 (fun k hk => .inl (by subst hk; exact hog)))
      clear hb5 hc5
      go_wp2_with fail
      go_end0
      exact ⟨rfl, by rw [HST.out]; exact HD.out, HC5.out⟩
theorem lend_any (O : Nat → Prop) (g : Nat) (v : Value) (s : St) (l : Bs) (w : World) (h : At w O g v s) (hl : lineOf s = some l) (hG : Good s)
    (hT : Tab w) (hE : ErrV w) (ho : ¬ O 2) (ho2 : ¬ O 5) :
    Calls Tryd.prog 47 #[.pointer (some ⟨g, 0, none⟩)] w (EndLPost O g (ended s (own l)) w) := by
  have e6 := (num_emptied hl).2.2.2.2.2.2.2.1
  have hown := h.own
  rw [e6] at hown
  rcases hown.2 with ⟨hv, h0⟩ | ⟨q, C, cur, hv, _, hh, hlc, hcm, hcs, htk⟩
  · obtain rfl : l = [] := List.length_eq_zero_iff.1 h0
    subst hv
    exact lend_nil O g _ _ s w h hl hG rfl rfl (lineFn_is hl) hT hE ho ho2
  · subst hv
    exact lend_row O g q C _ _ s l w h hl hG rfl rfl (lineFn_is hl) hT hE ho ho2
end Go.Proofs.YtcolnidgembniaaDoor.Fr
/-
  A piece of bytes. No condition but what a slice can have.
-/
namespace Go.Proofs.YtcolnidgembniaaDoor.Fr
open Go.RowKit Go.Proofs.YtcolnidgembniaaDoor.Tk Go.Proofs.YtcolnidgembniaaDoor.Hd
set_option linter.unusedVariables false

theorem byts_cut {w : World} {B off cap k d : Nat} {b : Bs} (h : Byts w (.slice (some ⟨B, off, none⟩) b.length cap) b) (hb : B < w.heap.size) (hcap : b.length ≤ cap) (hcm : cap ≤ maxLen) (hk : k + d ≤ b.length) :
    Byts w (.slice (some ⟨B, off + k, none⟩) d (cap - k)) ((b.drop k).take d) := by
  have hl : ((b.drop k).take d).length = d := by rw [List.length_take, List.length_drop]; omega
  rcases h with ⟨h0, _⟩ | ⟨B', off', cap', hv, _, _, _, hh⟩
  · subst h0
    simp at hk
    obtain ⟨rfl, rfl⟩ := hk
    exact .inl ⟨by simp, _, _, rfl⟩
  · injection hv with e1 _ e3
    injection e1 with e1
    injection e1 with e1 e2
    subst e1 e2 e3
    refine .inr ⟨B, off + k, cap - k, by rw [hl], by rw [hl]; omega, by omega, hb, fun j hj => ?_⟩
    rw [hl] at hj
    have := hh (k + j) (by omega)
    rw [← Nat.add_assoc] at this
    rw [this]
    simp [List.getElem_take, List.getElem_drop]
end Go.Proofs.YtcolnidgembniaaDoor.Fr
/-
  A decoder's line: what it returns and leaves. Conditions: a line of at most 1025 bytes so far; the tables.
-/
namespace Go.Proofs.YtcolnidgembniaaDoor.Fr
open Go.RowKit Go.Proofs.YtcolnidgembniaaDoor.Tk Go.Proofs.YtcolnidgembniaaDoor.Fd Go.Proofs.YtcolnidgembniaaDoor.Hd
set_option linter.unusedVariables false

theorem num_onto {s : St} {l : Bs} (h : lineOf s = some l) (x : Bs) : num1 (onto s x) = num1 s ∧ num2 (onto s x) = 0 ∧ num2 s = 0 ∧ num3 (onto s x) = num3 s ∧ errOf (onto s x) = 0 ∧ errOf s = 0 ∧ text (onto s x) = l ++ x ∧ text s = l ∧ lined (onto s x) = true := by
  cases s <;> first | (injection h with h; subst h; exact ⟨rfl, rfl, rfl, rfl, rfl, rfl, rfl, rfl, rfl⟩) | cases h
theorem good_onto {s : St} {l : Bs} (h : lineOf s = some l) (hG : Good s) {x : Bs} (hx : l.length + x.length ≤ 1025) : Good (onto s x) := by
  cases s <;> first | (injection h with h; subst h; exact ⟨hG.1, by rw [List.length_append]; exact hx⟩) | cases h
theorem At.drewN {w : World} {O : Nat → Prop} {g : Nat} {v : Value} {s : St} (h : At w O g v s) (n : Nat) : At (w.drewN n) O g v s := h.below (below_drewN (Below.refl _ _) n)
/-- What put leaves, stored. -/
theorem at_put {w w1 : World} {O : Nat → Prop} {g : Nat} {u lv : Value} {s : St} {l x : Bs} (h : At w O g u s) (hl : lineOf s = some l) (hown : OwnB w1 lv (l ++ x)) (hc : Chg (fun k => u.ownBlock = some k) w w1) (hn : ∀ k, lv.ownBlock = some k → u.ownBlock = some k ∨ w.heap.size ≤ k) :
    At (w1.setCell ⟨g, 3, none⟩ lv) (New O w) g lv (onto s x) ∧ Chg O w (w1.setCell ⟨g, 3, none⟩ lv) ∧ w1.cell? ⟨g, 3, none⟩ = some u ∧ w1.frozen? ⟨g, 3, none⟩ = false := by
  obtain ⟨e1, e2, e2', e3, e4, e4', e5, e6, e7⟩ := num_onto hl x
  have hug : u.ownBlock ≠ some g := fun hk => by
    obtain ⟨cur, hcur⟩ := row_type h.own hk
    exact apart_of hcur h.blk (by decide) rfl
  have hb := hc.old (k := g) hug h.blk
  refine ⟨⟨?_, ?_, fun hf => (by rw [e7] at hf; cases hf), .inl h.og, fun k hk => ?_⟩, ?_, dc3 hb, free hb 3⟩
  · rw [e2', e4'] at hb
    rw [e1, e2, e3, e4]; exact dc_put3 hb _
  · rw [e5]
    refine row_same hown fun k hk => ?_
    obtain ⟨cu, hcu⟩ := row_type hown (k := k) hk
    exact put_far rfl (by show k ≠ g; exact apart_of hcu hb (by decide))
  · rcases hn k hk with h1 | h1
    · exact .inl (h.ov k h1)
    · exact .inr h1
  · exact (show Chg O w w1 from ⟨hc.os, hc.tape, hc.output, hc.size, fun k hk hno => hc.block k hk (fun e => hno (h.ov k e))⟩).put _ _ (.inl h.og)
theorem took_line {s : St} {l b : Bs} {m : Nat} (h : lineOf s = some l) (hm : m = min b.length (1025 - l.length)) (hn : nl (b.take m) < m) (hl : l.length ≤ 1025) :
    Took s b 0 (nl (b.take m) + 1) (ended s (own (l ++ b.take (nl (b.take m))))) := by
  have htl : (b.take m).length = m := by rw [List.length_take]; omega
  obtain ⟨h1, h2, h3, h4⟩ := nl_split (b := b) (m := m) (by rw [htl]; exact hn)
  refine ⟨by omega, by omega, by omega, ?_, fun hG => good_ended hG h⟩
  have h5 := run_line (r := b.drop (nl (b.take m) + 1)) h h2 (by rw [List.length_take]; omega)
  rw [← h1, List.length_take, Nat.min_eq_left (by omega)] at h5
  rw [h5]; simp
theorem took_big {s : St} {l b : Bs} {m : Nat} (h : lineOf s = some l) (hm : m = min b.length (1025 - l.length)) (hn : ¬ nl (b.take m) < m) (hl : l.length ≤ 1025) (hb : 1025 - l.length < b.length) :
    Took s b 0 (1025 - l.length + 1) (.bad 3) := by
  have e : m = 1025 - l.length := by omega
  refine ⟨by omega, by omega, by omega, ?_, fun _ => .inl rfl⟩
  rw [run_big h hl (by rw [← e]; refine nl_none ?_; rw [List.length_take]; omega) hb, run_over (s := .bad 3) rfl]
  simp
theorem took_part {s : St} {l b : Bs} {m : Nat} (h : lineOf s = some l) (hm : m = min b.length (1025 - l.length)) (hn : ¬ nl (b.take m) < m) (hb : ¬ 1025 - l.length < b.length) (h0 : 0 < b.length) (hl : l.length ≤ 1025) :
    Took s b 0 b.length (onto s b) := by
  have e : m = b.length := by omega
  subst e
  rw [List.take_length] at hn
  refine ⟨by omega, by omega, by omega, ?_, fun hG => good_onto h hG (by omega)⟩
  rw [run_part h (nl_none hn) (by omega), List.drop_length, run_nil]
  simp
/-- What is fed, where it lies. -/
structure Fed (w : World) (B off cap : Nat) (b : Bs) : Prop where
  le : b.length ≤ cap
  max : cap ≤ maxLen
  lt : B < w.heap.size
  holds : Holds w B off b
theorem Fed.byts {w : World} {B off cap : Nat} {b : Bs} (h : Fed w B off cap b) {k : Nat} (hk : k ≤ b.length) : Byts w (.slice (some ⟨B, off, none⟩) k cap) (b.take k) := by
  have e : (b.take k).length = k := by rw [List.length_take]; omega
  refine .inr ⟨B, off, cap, by rw [e], by rw [e]; exact Nat.le_trans hk h.le, h.max, h.lt, Holds_take h.holds k⟩
theorem idx_at {w : World} {B off cap : Nat} {b : Bs} (h : Holds w B off b) {m : Nat} (hm : m ≤ b.length) :
    Calls Tryd.prog 46 #[.slice (some ⟨B, off, none⟩) m cap, .int .u8 10] w fun e w' => e = .returned (.int .i64 (if nl (b.take m) < m then ((nl (b.take m) : Nat) : Int) else -1)) ∧ w = w' := by
  have e : (b.take m).length = m := by rw [List.length_take]; omega
  have h1 := idx10_any B off cap (b.take m) w (Holds_take h m)
  rw [nl_index, e] at h1
  exact h1
set_option maxRecDepth 100000 in
set_option maxHeartbeats 4000000 in
theorem line_big (O : Nat → Prop) (g B off cap m : Nat) (s : St) (l b : Bs) (w : World) (h : Dec w O g s) (hl : lineOf s = some l) (hG : Good s) (hF : Fed w B off cap b) (hm : m = min b.length (1025 - l.length)) (hn : ¬ nl (b.take m) < m) (hb : 1025 - l.length < b.length) :
    Calls Tryd.prog 32 #[.pointer (some ⟨g, 0, none⟩), .slice (some ⟨B, off, none⟩) b.length cap] w (StepPost O g s b w) := by
  obtain ⟨u, h⟩ := h
  have hl25 : l.length ≤ 1025 := by cases s <;> first | (injection hl with hl; subst hl; exact hG.2) | cases hl
  have HTk := Lib.hid (took_big hl hm hn hl25 hb)
  have HI := Lib.hid (idx_at (cap := cap) hF.holds (m := m) (by omega))
  rw [if_neg hn] at HI
  have hown := h.own
  rw [(num_onto hl []).2.2.2.2.2.2.2.1] at hown
  obtain ⟨a, c, hu⟩ := hown.shape
  subst hu
  have c3 := dc3 h.blk
  have HFl := Lib.hid (fail_any g _ _ _ _ _ 3 w h.blk)
  have hog := h.og
  have hcap := hF.le
  have hmx := hF.max
  unfold maxLen at hmx
  obtain ⟨N, hN⟩ : ∃ N, N = b.length := ⟨_, rfl⟩
  obtain ⟨Ll, hLl⟩ : ∃ Ll, Ll = l.length := ⟨_, rfl⟩
  obtain ⟨R, hR⟩ : ∃ R, R = 1025 - Ll := ⟨_, rfl⟩
  have hmR : m = R := by omega
  have HTk2 := Lib.hid (show Took s b 0 (R + 1) (.bad 3) from by rw [hR, hLl]; exact HTk.out)
  subst hmR
  have hRI : (1025 : Int) - (Ll : Int) = (m : Int) := by omega
  have hmn : m < N := by omega
  have hmin : min (N : Int) (m : Int) = (m : Int) := by omega
  have hLl6 : Ll ≤ 1025 := by omega
  rw [← hN] at hcap ⊢
  rw [← hLl] at c3
  clear h hown hl hG hF hm hn hb hN hLl hR HTk hl25
  go_enter Tryd.func32, Tryd.ntmps32
  go_wp2_with fail
  refine HI.out.mono ?_
  rintro e w1 ⟨rfl, rfl⟩
  go_wp2_with fail
  refine HFl.out.mono ?_
  rintro e w2 ⟨rfl, hB, hC⟩
  have HD := Lib.hid (show Dec w2 (New O w) g (.bad 3) from dec_over rfl (.inl hog) hB)
  have HC2 := Lib.hid (chg_one hC hog)
  clear hB hC
  go_wp2_with fail
  go_ret2
  exact ⟨0, m + 1, _, rfl, HTk2.out, HD.out, HC2.out⟩
set_option maxRecDepth 100000 in
set_option maxHeartbeats 4000000 in
theorem line_part (O : Nat → Prop) (g B off cap m : Nat) (s : St) (l b : Bs) (w : World) (h : Dec w O g s) (hl : lineOf s = some l) (hG : Good s) (hF : Fed w B off cap b) (hOB : ¬ O B) (hm : m = min b.length (1025 - l.length)) (hn : ¬ nl (b.take m) < m) (hb : ¬ 1025 - l.length < b.length) (h0 : 0 < b.length) :
    Calls Tryd.prog 32 #[.pointer (some ⟨g, 0, none⟩), .slice (some ⟨B, off, none⟩) b.length cap] w (StepPost O g s b w) := by
  obtain ⟨u, h⟩ := h
  have hl25 : l.length ≤ 1025 := by cases s <;> first | (injection hl with hl; subst hl; exact hG.2) | cases hl
  have HTk := Lib.hid (took_part hl hm hn hb h0 hl25)
  have HI := Lib.hid (idx_at (cap := cap) hF.holds (m := m) (by omega))
  rw [if_neg hn] at HI
  have hown := h.own
  rw [(num_onto hl []).2.2.2.2.2.2.2.1] at hown
  obtain ⟨a, c, hu⟩ := hown.shape
  have c3 := dc3 h.blk
  have hby := hF.byts (Nat.le_refl b.length)
  rw [List.take_length] at hby
  have HPut := Lib.hid (put_any u _ l b w hown hby (fun k hk e => hOB (by injection e with e; subst e; exact h.ov _ hk)) (by omega))
  have HAP := Lib.hid (fun (lv : Value) (w1 : World) (ho : OwnB w1 lv (l ++ b)) (hc : Chg (fun k => u.ownBlock = some k) w w1) (hn : ∀ k, lv.ownBlock = some k → u.ownBlock = some k ∨ w.heap.size ≤ k) => at_put h hl ho hc hn)
  have hcap := hF.le
  have hmx := hF.max
  unfold maxLen at hmx
  have hmb : m = b.length := by omega
  obtain ⟨Ll, hLl⟩ : ∃ Ll, Ll = l.length := ⟨_, rfl⟩
  obtain ⟨R, hR⟩ : ∃ R, R = 1025 - Ll := ⟨_, rfl⟩
  have hRI : (1025 : Int) - (Ll : Int) = (R : Int) := by omega
  have hbR : b.length ≤ R := by omega
  obtain ⟨N, hN⟩ : ∃ N, N = b.length := ⟨_, rfl⟩
  rw [hmb, ← hN] at HI
  rw [← hN] at hbR hcap HPut HTk h0 ⊢
  have hmin : min (N : Int) (R : Int) = (N : Int) := by omega
  have hLl6 : Ll ≤ 1025 := by omega
  rw [hu, ← hLl] at c3
  rw [hu, ← hLl] at HPut
  rw [hu, ← hLl] at HAP
  clear h hown hl hG hF hm hn hb hLl hR hl25 hu hby hmb hN
  go_enter Tryd.func32, Tryd.ntmps32
  go_wp2_with fail
  refine HI.out.mono ?_
  rintro e w1 ⟨rfl, rfl⟩
  go_wp2_with fail
  refine HPut.out.mono ?_
  rintro e w2 ⟨lv, rfl, ho, hc, hnb⟩
  obtain ⟨hA, hC, d3, f3⟩ := HAP.out lv w2 ho hc hnb
  obtain ⟨la, lc, hlv⟩ := ho.shape
  obtain ⟨K, hK⟩ : ∃ K, K = (l ++ b).length := ⟨_, rfl⟩
  rw [← hK] at hlv
  subst hlv
  clear hK
  have HA := Lib.hid hA
  have HC := Lib.hid hC
  clear hA hC ho hc hnb c3
  go_wp2_with fail
  go_ret2
  exact ⟨0, N, _, rfl, HTk.out, ⟨_, HA.out⟩, HC.out⟩
set_option maxRecDepth 100000 in
set_option maxHeartbeats 4000000 in
theorem line_found (O : Nat → Prop) (g B off cap m : Nat) (s : St) (l b : Bs) (w : World) (h : Dec w O g s) (hl : lineOf s = some l) (hG : Good s) (hF : Fed w B off cap b) (hOB : ¬ O B) (hm : m = min b.length (1025 - l.length)) (hn : nl (b.take m) < m)
    (hT : Tab w) (hE : ErrV w) (ho : ¬ O 2) (ho2 : ¬ O 5) :
    Calls Tryd.prog 32 #[.pointer (some ⟨g, 0, none⟩), .slice (some ⟨B, off, none⟩) b.length cap] w (StepPost O g s b w) := by
  obtain ⟨u, h⟩ := h
  have hl25 : l.length ≤ 1025 := by cases s <;> first | (injection hl with hl; subst hl; exact hG.2) | cases hl
  have HTk := Lib.hid (took_line hl hm hn hl25)
  have HI := Lib.hid (idx_at (cap := cap) hF.holds (m := m) (by omega))
  rw [if_pos hn] at HI
  obtain ⟨J, hJ⟩ : ∃ J, J = nl (b.take m) := ⟨_, rfl⟩
  rw [← hJ] at hn HTk HI
  have hJb : J < b.length := by omega
  have hown := h.own
  rw [(num_onto hl []).2.2.2.2.2.2.2.1] at hown
  obtain ⟨a, c, hu⟩ := hown.shape
  have c3 := dc3 h.blk
  have hby := hF.byts (Nat.le_of_lt hJb)
  have hJt : (b.take J).length = J := by rw [List.length_take]; omega
  have HPut := Lib.hid (put_any u _ l (b.take J) w.drew (row_same hown (fun _ _ => rfl)) (hby.below (Below.refl w.heap.size w).drew (Nat.le_refl _)) (fun k hk e => hOB (by injection e with e; subst e; exact h.ov _ hk)) (by omega))
  have htl := hT.lt
  have hel := hE.lt
  have HAP := Lib.hid (fun (lv : Value) (w1 : World) (hown1 : OwnB w1 lv (l ++ b.take J)) (hc : Chg (fun k => u.ownBlock = some k) w.drew w1) (hn : ∀ k, lv.ownBlock = some k → u.ownBlock = some k ∨ w.drew.heap.size ≤ k) =>
    (show w1.cell? ⟨g, 3, none⟩ = some u ∧ w1.frozen? ⟨g, 3, none⟩ = false ∧ ∀ w2, w2 = w1.setCell ⟨g, 3, none⟩ lv → Calls Tryd.prog 47 #[.pointer (some ⟨g, 0, none⟩)] w2 fun e w3 => e = .returned (.tuple #[]) ∧ Dec w3 (New O w) g (ended s (own (l ++ b.take J))) ∧ Chg O w w3 from by
      obtain ⟨hA, hC, d3, f3⟩ := at_put h hl hown1 ((Chg.refl (fun k => u.ownBlock = some k) w).drew.trans hc (fun i hi => .inl hi)) hn
      refine ⟨d3, f3, ?_⟩
      rintro w2 rfl
      have hNT : ¬ New O w 2 := fun hk => by rcases hk with hk | hk; exact ho hk; omega
      have hNE : ¬ New O w 5 := fun hk => by rcases hk with hk | hk; exact ho2 hk; omega
      have hlo : lineOf (onto s (b.take J)) = some (l ++ b.take J) := line_onto hl _
      refine (lend_any (New O w) g lv _ _ _ hA hlo (good_onto hl hG (by omega)) (tab_chg hT hC ho) (hE.chg hC ho2) hNT hNE).mono ?_
      rintro e w3 ⟨rfl, hD, hC3⟩
      rw [ended_onto] at hD
      exact ⟨rfl, hD.mono (new_new hC.size), hC.again hC3⟩))
  have hcap := hF.le
  have hmx := hF.max
  unfold maxLen at hmx
  obtain ⟨Ll, hLl⟩ : ∃ Ll, Ll = l.length := ⟨_, rfl⟩
  obtain ⟨R, hR⟩ : ∃ R, R = 1025 - Ll := ⟨_, rfl⟩
  have hRI : (1025 : Int) - (Ll : Int) = (R : Int) := by omega
  obtain ⟨N, hN⟩ : ∃ N, N = b.length := ⟨_, rfl⟩
  have hmN : m ≤ N := by omega
  have hmR : m ≤ R := by omega
  have hmm : min (N : Int) (R : Int) = (m : Int) := by omega
  rw [← hN] at hcap hJb ⊢
  have hLl6 : Ll ≤ 1025 := by omega
  rw [hu, ← hLl] at c3
  rw [hu, ← hLl] at HPut
  rw [hu, ← hLl] at HAP
  clear h hown hl hG hF hm hLl hR hl25 hu hby hN hJ hT hE hJt htl hel
  go_enter Tryd.func32, Tryd.ntmps32
  go_wp2_with fail
  refine HI.out.mono ?_
  rintro e w1 ⟨rfl, rfl⟩
  go_upto_region 4 with fail
  go_region_with (go_at_call 34; refine HPut.out.mono ?_; rintro e w2 ⟨lv, rfl, hown1, hc, hnb⟩; obtain ⟨d3, f3, hnx⟩ := HAP.out lv w2 hown1 hc hnb; have HNX := Lib.hid hnx; obtain ⟨la, lc, hlv⟩ := hown1.shape; obtain ⟨K, hK⟩ : ∃ K, K = (l ++ b.take J).length := ⟨_, rfl⟩; rw [← hK] at hlv; subst hlv; clear hK hnx hown1 hc hnb)
  all_goals go_wp2_with fail
  all_goals
    refine (HNX.out _ rfl).mono ?_
    rintro e w3 ⟨rfl, hD, hC⟩
    have HD := Lib.hid hD
    have HC := Lib.hid hC
    clear hD hC
    go_wp2_with fail
    go_ret2
    exact ⟨0, J + 1, _, by first | rfl | go_num, HTk.out, HD.out, HC.out⟩
theorem line_any (O : Nat → Prop) (g B off cap : Nat) (s : St) (l b : Bs) (w : World) (h : Dec w O g s) (hl : lineOf s = some l) (hG : Good s) (hF : Fed w B off cap b) (hOB : ¬ O B) (h0 : 0 < b.length)
    (hT : Tab w) (hE : ErrV w) (ho : ¬ O 2) (ho2 : ¬ O 5) :
    Calls Tryd.prog 32 #[.pointer (some ⟨g, 0, none⟩), .slice (some ⟨B, off, none⟩) b.length cap] w (StepPost O g s b w) := by
  by_cases hn : nl (b.take (min b.length (1025 - l.length))) < min b.length (1025 - l.length)
  · exact line_found O g B off cap _ s l b w h hl hG hF hOB rfl hn hT hE ho ho2
  · by_cases hb : 1025 - l.length < b.length
    · exact line_big O g B off cap _ s l b w h hl hG hF rfl hn hb
    · exact line_part O g B off cap _ s l b w h hl hG hF hOB rfl hn hb h0
end Go.Proofs.YtcolnidgembniaaDoor.Fr
/-
  A decoder that is nil, or that no call made: what its methods return. No condition.
-/
namespace Go.Proofs.YtcolnidgembniaaDoor.Fr
open Go.RowKit Go.Proofs.YtcolnidgembniaaDoor.Fd
set_option linter.unusedVariables false

theorem four_results {fn : Func} {a b c d : Tmp} (h : fn.results = #[.tmp a, .tmp b, .tmp c, .tmp d]) (tmps : Array Value) (P : Program) (w : World) :
    (results fn tmps).run P w = .ok (.tuple #[tmps.getD a undef, tmps.getD b undef, tmps.getD c undef, tmps.getD d undef]) w := by
  simp [results, h]
/-- A decoder that no call made: nil, or a plain one. -/
def NoDec (w : World) (p : Option Addr) : Prop := p = none ∨ ∃ g, p = some ⟨g, 0, none⟩ ∧ w.cell? ⟨g, 0, none⟩ = some (Value.int .i64 0)
set_option maxHeartbeats 1000000 in
theorem made_none (w : World) : Calls Tryd.prog 29 #[.pointer none] w fun e w' => e = .returned (.bool false) ∧ w = w' := by
  go_enter Tryd.func29, Tryd.ntmps29
  go_wp2_with fail
  go_ret
  exact ⟨rfl, rfl⟩
set_option maxHeartbeats 1000000 in
theorem made_plain (g : Nat) (w : World) (h : w.cell? ⟨g, 0, none⟩ = some (Value.int .i64 0)) : Calls Tryd.prog 29 #[.pointer (some ⟨g, 0, none⟩)] w fun e w' => e = .returned (.bool false) ∧ w = w' := by
  go_enter Tryd.func29, Tryd.ntmps29
  go_wp2_with fail
  go_ret
  exact ⟨rfl, rfl⟩
theorem made_no (p : Option Addr) (w : World) (h : NoDec w p) : Calls Tryd.prog 29 #[.pointer p] w fun e w' => e = .returned (.bool false) ∧ w = w' := by
  rcases h with rfl | ⟨g, rfl, h⟩
  · exact made_none w
  · exact made_plain g w h
set_option maxHeartbeats 1000000 in
theorem feed_no (p : Option Addr) (v : Value) (w : World) (h : NoDec w p) : Calls Tryd.prog 18 #[.pointer p, v] w fun e w' => e = .returned (.tuple #[.slice none 0 0, .int .i64 0, .bool false, .int .i64 1]) ∧ w = w' := by
  go_enter Tryd.func18, Tryd.ntmps18
  go_wp2_with fail
  refine (made_no p _ h).mono ?_
  rintro e w' ⟨rfl, rfl⟩
  go_wp2_with fail
  refine bodyPost_ret (four_results rfl _ _ _) rfl ?_
  exact ⟨rfl, rfl⟩
set_option maxHeartbeats 1000000 in
theorem end_no (p : Option Addr) (w : World) (h : NoDec w p) : Calls Tryd.prog 20 #[.pointer p] w fun e w' => e = .returned (.tuple #[.bool false, .int .i64 1]) ∧ w = w' := by
  go_enter Tryd.func20, Tryd.ntmps20
  go_wp2_with fail
  refine (made_no p _ h).mono ?_
  rintro e w' ⟨rfl, rfl⟩
  go_wp2_with fail
  go_ret2
  exact ⟨rfl, rfl⟩
end Go.Proofs.YtcolnidgembniaaDoor.Fr
/-
  A decoder's Feed, step by step: where it stands at its loop's head, and what a step leaves. No condition.
-/
namespace Go.Proofs.YtcolnidgembniaaDoor.Fr
open Go.RowKit Go.Proofs.YtcolnidgembniaaDoor.Tk Go.Proofs.YtcolnidgembniaaDoor.Fd Go.Proofs.YtcolnidgembniaaDoor.Hd
set_option linter.unusedVariables false

def stepFn : St → FuncId
  | .len _ => 30
  | .opn _ => 31
  | .chunk _ _ => 33
  | _ => 32
def StepFn (S : Nat) (F : FuncId) : Prop := (S = 1 ∧ F = 30) ∨ (S = 2 ∧ F = 31) ∨ (S = 3 ∧ F = 32) ∨ (S = 4 ∧ F = 33) ∨ (S = 5 ∧ F = 32) ∨ (S = 6 ∧ F = 32)
theorem stepFn_is {s : St} (h : over s = false) : StepFn (num1 s) (stepFn s) := by
  cases s with
  | len n => exact .inl ⟨rfl, rfl⟩
  | opn n => exact .inr (.inl ⟨rfl, rfl⟩)
  | size m k => exact .inr (.inr (.inl ⟨rfl, rfl⟩))
  | chunk m n => exact .inr (.inr (.inr (.inl ⟨rfl, rfl⟩)))
  | gap m k => exact .inr (.inr (.inr (.inr (.inl ⟨rfl, rfl⟩))))
  | trail m k => exact .inr (.inr (.inr (.inr (.inr ⟨rfl, rfl⟩))))
  | done => cases h
  | bad e => cases h
def stepFns (g : Nat) : Array Value := #[.nilFunc, .func (.func 30) #[.pointer (some ⟨g, 0, none⟩)] #[], .func (.func 31) #[.pointer (some ⟨g, 0, none⟩)] #[], .func (.func 32) #[.pointer (some ⟨g, 0, none⟩)] #[], .func (.func 33) #[.pointer (some ⟨g, 0, none⟩)] #[], .func (.func 32) #[.pointer (some ⟨g, 0, none⟩)] #[], .func (.func 32) #[.pointer (some ⟨g, 0, none⟩)] #[], .nilFunc]
/-- A step, whichever. -/
theorem step_fn (O : Nat → Prop) (g B off cap : Nat) (s : St) (b : Bs) (w : World) (h : Dec w O g s) (hs : over s = false) (hG : Good s) (hF : Fed w B off cap b) (hOB : ¬ O B) (h0 : 0 < b.length)
    (hT : Tab w) (hE : ErrV w) (ho : ¬ O 2) (ho2 : ¬ O 5) :
    Calls Tryd.prog (stepFn s) #[.pointer (some ⟨g, 0, none⟩), .slice (some ⟨B, off, none⟩) b.length cap] w (StepPost O g s b w) := by
  cases s with
  | len n => exact known_any O g n _ b w h hG ⟨_, _, rfl⟩ h0
  | opn n => exact open_any O g n _ b w h hG ⟨_, _, rfl⟩ h0
  | chunk m n => exact dchunk_any O g m n _ b w h hG ⟨_, _, rfl⟩ h0
  | size m l => exact line_any O g B off cap _ l b w h rfl hG hF hOB h0 hT hE ho ho2
  | gap m l => exact line_any O g B off cap _ l b w h rfl hG hF hOB h0 hT hE ho ho2
  | trail m l => exact line_any O g B off cap _ l b w h rfl hG hF hOB h0 hT hE ho ho2
  | done => cases hs
  | bad e => cases hs
/-- Where a Feed stands at its loop's head. -/
structure FeedAt (O : Nat → Prop) (g : Nat) (s : St) (b : Bs) (w : World) (k : Nat) (acc : Bs) (st : St) (ov : Value) (wr : World) : Prop where
  le : k ≤ b.length
  eq : run s b = (acc ++ (run st (b.drop k)).1, k + (run st (b.drop k)).2.1, (run st (b.drop k)).2.2)
  good : Good st
  accLe : acc.length ≤ k
  own : OwnB wr ov acc
  new : ∀ j, ov.ownBlock = some j → w.heap.size ≤ j
  dec : Dec wr (fun j => New O w j ∧ ov.ownBlock ≠ some j) g st
  chg : Chg O w wr
theorem FeedAt.start {O : Nat → Prop} {g : Nat} {s : St} {b : Bs} {w : World} (h : Dec w O g s) (hG : Good s) : FeedAt O g s b w 0 [] s (.slice none 0 0) w :=
  ⟨Nat.zero_le _, by simp, hG, Nat.le_refl _, OwnB.nil _, fun j hj => (by cases hj), h.mono (fun k hk => ⟨.inl hk, fun e => (by cases e)⟩), Chg.refl _ _⟩
theorem FeedAt.ends {O : Nat → Prop} {g : Nat} {s : St} {b : Bs} {w : World} {k : Nat} {acc : Bs} {st : St} {ov : Value} {wr : World} (h : FeedAt O g s b w k acc st ov wr) (ho : over st = true ∨ k = b.length) : run s b = (acc, k, st) := by
  rw [h.eq]
  rcases ho with ho | ho
  · rw [run_over ho]; simp
  · rw [ho, List.drop_length, run_nil]; simp
theorem FeedAt.step {O : Nat → Prop} {g : Nat} {s : St} {b : Bs} {w : World} {k : Nat} {acc : Bs} {st : St} {ov : Value} {wr : World} (h : FeedAt O g s b w k acc st ov wr)
    {body taken : Nat} {st' : St} {w' w2 : World} {ov' : Value} (ht : Took st (b.drop k) body taken st') (hD : Dec w' (New (fun j => New O w j ∧ ov.ownBlock ≠ some j) wr) g st') (hC : Chg (fun j => New O w j ∧ ov.ownBlock ≠ some j) wr w')
    (hown : OwnB w2 ov' (acc ++ (b.drop k).take body)) (hC2 : Chg (fun j => ov.ownBlock = some j) w' w2) (hn : ∀ j, ov'.ownBlock = some j → ov.ownBlock = some j ∨ w'.heap.size ≤ j) :
    FeedAt O g s b w (k + taken) (acc ++ (b.drop k).take body) st' ov' w2 := by
  obtain ⟨h1, h2, h3, h4, h5⟩ := ht
  rw [List.length_drop] at h3
  have hle := h.le
  have hovl : ∀ j, ov.ownBlock = some j → j < wr.heap.size := fun j hj => (World.ownsRow.lt h.own j hj).2
  refine ⟨by omega, ?_, h5 h.good, ?_, hown, fun j hj => ?_, ?_, ?_⟩
  · rw [h.eq, h4, List.drop_drop]
    simp only [List.append_assoc, Prod.mk.injEq, true_and, and_true]
    omega
  · rw [List.length_append, List.length_take]; have := h.accLe; omega
  · rcases hn j hj with hj | hj
    · exact h.new j hj
    · have := h.chg.size; have := hC.size; omega
  · have hb := hD.bound
    have hk := hb.kept hC2 (fun j hj hov => by
      rcases hj.1 with hx | hx
      · exact hx.2 hov
      · have := hovl j hov; omega)
    refine hk.mono (fun j hj => ⟨?_, fun hov' => ?_⟩)
    · rcases hj.1 with hx | hx
      · exact hx.1
      · exact .inr (Nat.le_trans h.chg.size hx)
    · rcases hn j hov' with hov | hx
      · rcases hj.1 with hy | hy
        · exact hy.2 hov
        · have := hovl j hov; omega
      · have := hj.2; omega
  · refine (h.chg.trans hC (fun j hj => hj.1)).trans hC2 (fun j hj => .inr (h.new j hj))
/-- The decoder's numbers. -/
theorem Dec.nums {w : World} {O : Nat → Prop} {g : Nat} {s : St} (h : Dec w O g s) : w.cell? ⟨g, 0, none⟩ = some (.int .i64 (num1 s : Nat)) ∧ w.cell? ⟨g, 4, none⟩ = some (.int .i64 (errOf s : Nat)) := by
  obtain ⟨v, h⟩ := h; exact ⟨dc0 h.blk, dc4 h.blk⟩
theorem whole_eq {s : St} (hG : Good s) : decide (num1 s = 7 ∧ errOf s = 0) = doneOf s := by
  cases s <;> first | rfl | skip
  rename_i e
  show decide (7 = 7 ∧ e = 0) = false
  have : e ≠ 0 := by rcases hG with h | h | h | h <;> omega
  simp [this]
theorem over_num {s : St} (h : num1 s = 7) : over s = true := by cases s <;> first | rfl | (simp [num1] at h)
theorem num_pos (s : St) : 0 < num1 s := by cases s <;> simp [num1]
theorem not_over {s : St} (h : num1 s ≠ 7) : over s = false := by cases s <;> first | rfl | exact (h rfl).elim
def FeedPost (O : Nat → Prop) (g : Nat) (s : St) (b : Bs) (w : World) (e : Ending) (w' : World) : Prop :=
  ∃ ov, e = .returned (.tuple #[ov, .int .i64 ((run s b).2.1 : Nat), .bool (doneOf (run s b).2.2), .int .i64 (errOf (run s b).2.2 : Nat)]) ∧ OwnB w' ov (run s b).1 ∧ (∀ j, ov.ownBlock = some j → w.heap.size ≤ j) ∧
    Dec w' (fun j => New O w j ∧ ov.ownBlock ≠ some j) g (run s b).2.2 ∧ Chg O w w'
end Go.Proofs.YtcolnidgembniaaDoor.Fr
