/-
  Texts that the laws' proofs stand on, 10 of them in one file; each one's head says what it proves and under which condition.
-/
import Derived.Test.YtcolnidgembniaaGreatDoorCards
import Derived.Test.YtcolnidgembniaaGreatDoorTie
import Derived.Test.YtcolnidgembniaaGreatDoorMsAllP1
import Derived.Test.YtcolnidgembniaaGreatDoorMsAllP4
import Derived.LaidLaws
import Derived.Lib.LaidTab
import Derived.Lib.ItoaNum
import Derived.ProofKit
import Derived.OpenShut
import Derived.ShutString
import Derived.Deep.DeepHandedRow
import Derived.Test.YtcolnidgembniaaGreatDoorMsAllP2
import Derived.Deep.SlicePairs
import Derived.Lib.SmallJoins
import Derived.SizedLaws
import Derived.ChangeArms
import Derived.Lib.Bytealg
import Derived.Test.YtcolnidgembniaaGreatDoorRows
import Derived.WalkKit
import Derived.WalkLawsBesides
import Derived.Outline
import Derived.Lib.Hide
/-
  What the rows' lists give of the listed variables, and a world that holds them. No condition.
-/
namespace Go.Proofs.YtcolnidgembniaaGreatDoor.Tb
open Go.ChangeShapes Go.WideShapes Go.ChangeAt Go.RowKit

theorem own : ownKnob Tryz.prog.godebug = none := by kernel_rfl
theorem laidOut : laidOutB Tryz.prog = true := by kernel_rfl
/-- A list's part behind its head. -/
theorem tail {P : Program} {x : String × DataW Unit} {r : List (String × DataW Unit)} {w : World} (h : laidMet P (x :: r) w) : laidMet P r w := by
  obtain ⟨ps, ⟨g, t, cs, fuel, p, q, hg, ht, hv, hd, hr, rfl⟩, hn, hall⟩ := h
  exact ⟨q, hr, (List.nodup_append.1 hn).2.1, fun b off hb => hall b off (List.mem_append_right _ hb)⟩

theorem gD64 : Tryz.prog.globalNamed "math/bits.deBruijn64tab" = some 6 := by kernel_rfl
theorem gD64t : (Tryz.prog.globals[6]?).map (·.type) = some 219 := by kernel_rfl
theorem cU8 : Tryz.prog.cellsOf 5 = 1 := by kernel_rfl
theorem cD64 : Tryz.prog.cellsOf 219 = 64 := by kernel_rfl
def d64List : List Int := [0, 1, 56, 2, 57, 49, 28, 3, 61, 58, 42, 50, 38, 29, 17, 4, 62, 47, 59, 36, 45, 43, 51, 22, 53, 39, 33, 30, 24, 18, 12, 5, 63, 55, 48, 27, 60, 41, 37, 16, 46, 35, 44, 21, 52, 32, 23, 11, 54, 26, 40, 15, 34, 20, 31, 10, 25, 14, 19, 9, 13, 8, 7, 6]
theorem d64_eq : (Rows.laid_math_bits_deBruijn64tab : DataW Unit) = Lib.tabData .u8 d64List := by kernel_rfl
theorem d64_of_head {W : World} {rest : List (String × DataW Unit)} (h : laidMet Tryz.prog (("math/bits.deBruijn64tab", Rows.laid_math_bits_deBruijn64tab) :: rest) W) : Fr.D64 W := by
  rw [d64_eq] at h
  have h2 := Lib.tabIs_of_head gD64 gD64t Tryz.underlying219 Tryz.underlying5 cU8 cD64 h
  exact Lib.TabIs.cell h2 gD64 15 (by decide)

theorem gPT : Tryz.prog.globalNamed "internal/strconv.uint64pow10" = some 2 := by kernel_rfl
theorem gPTt : (Tryz.prog.globals[2]?).map (·.type) = some 203 := by kernel_rfl
theorem cU64 : Tryz.prog.cellsOf 176 = 1 := by kernel_rfl
theorem cPT : Tryz.prog.cellsOf 203 = 20 := by kernel_rfl
abbrev P10 (w : World) : Prop := Lib.TabIs Tryz.prog w "internal/strconv.uint64pow10" .u64 Lib.pow10Tab
theorem pow_eq : (Rows.laid_internal_strconv_uint64pow10 : DataW Unit) = Lib.tabData .u64 Lib.pow10Tab := by kernel_rfl
theorem p10_of_head {W : World} {rest : List (String × DataW Unit)} (h : laidMet Tryz.prog (("internal/strconv.uint64pow10", Rows.laid_internal_strconv_uint64pow10) :: rest) W) : P10 W := by
  rw [pow_eq] at h
  exact Lib.tabIs_of_head gPT gPTt Tryz.underlying203 Tryz.underlying176 cU64 cPT h

theorem gErr : Tryz.prog.globalNamed "strconv.ErrSyntax" = some 3 := by kernel_rfl
theorem gErrT : (Tryz.prog.globals[3]?).map (·.type) = some 137 := by kernel_rfl
theorem err_of_head {W : World} {rest : List (String × DataW Unit)} (h : laidMet Tryz.prog (("strconv.ErrSyntax", Rows.laid_strconv_ErrSyntax) :: rest) W) : Fr.ErrV W := by
  obtain ⟨ps, ⟨g', t', cs, fuel, p, q, hg', ht', hvar, hd, _, _⟩, _⟩ := h
  obtain rfl := Option.some.inj (gErr.symm.trans hg')
  obtain rfl := Option.some.inj (gErrT.symm.trans ht')
  unfold Rows.laid_strconv_ErrSyntax at hd
  obtain ⟨f1, u, v, hcs, _, _⟩ := iface_of_trod Tryz.underlying137 hd
  obtain rfl : cs = #[.iface u v] := by cases cs; simpa using hcs
  exact ⟨u, v, by rw [World.var?_cell gErr hvar 0]; rfl⟩

theorem gTab : Tryz.prog.globalNamed "gatepost/token.tokenByte" = some 0 := by kernel_rfl
theorem gTabType : (Tryz.prog.globals[0]?).map (·.type) = some 157 := by kernel_rfl
theorem cellsBool : Tryz.prog.cellsOf 4 = 1 := by kernel_rfl
/-- The table of token bytes: of each byte whether it may stand in a token. -/
def tabBools : List Bool := (List.range 128).map fun n => Tk.tchar (UInt8.ofNat n)
theorem tab_at (n : Nat) (hn : n < 128) : tabBools[n]? = some (Tk.tchar (UInt8.ofNat n)) := by simp [tabBools, hn]
theorem tab_eq : (Rows.laid_gatepost_token_tokenByte : DataW Unit) = .agg (tabBools.map fun b => .lit (.bool b)) := by kernel_rfl
theorem tok_of_head {W : World} {rest : List (String × DataW Unit)} (h : laidMet Tryz.prog (("gatepost/token.tokenByte", Rows.laid_gatepost_token_tokenByte) :: rest) W) : Tk.Tab W := by
  obtain ⟨ps, ⟨g', t', cs, fuel, p, q, hg', ht', hvar, hd, _, _⟩, _⟩ := h
  obtain rfl := Option.some.inj (gTab.symm.trans hg')
  obtain rfl := Option.some.inj (gTabType.symm.trans ht')
  obtain ⟨xs, m, _, hx, _, hxl, hat⟩ := DataW.trod_array Tryz.underlying157 hd
  intro n hn
  have h1 := hat n hn
  rw [cellsBool, Nat.mul_one, List.getElem?_eq_getElem (by omega)] at h1
  obtain ⟨b, hcs, hxb⟩ := DataW.trod_bool Tryz.underlying4 h1
  have hdat : (DataW.agg (tabBools.map fun b => .lit (.bool b)) : DataW Unit) = .agg (xs.map (·.1)) := tab_eq.symm.trans (congrArg Prod.fst hx)
  have hlist : (tabBools.map fun b => (DataW.lit (.bool b) : DataW Unit)) = xs.map (·.1) := by injection hdat
  have h2 : (tabBools.map fun b => (DataW.lit (.bool b) : DataW Unit))[n]? = some (.lit (.bool b)) := by
    rw [hlist, List.getElem?_map, List.getElem?_eq_getElem (by omega), Option.map_some, hxb]
  rw [List.getElem?_map, tab_at n hn, Option.map_some] at h2
  have hb : Tk.tchar (UInt8.ofNat n) = b := by
    injection h2 with h2; injection h2 with h2; injection h2
  rw [World.var?_cell gTab hvar n, hb]
  have h3 : (cs.toList.drop n).take 1 = [.bool b] := hcs
  have h4 : ((cs.toList.drop n).take 1)[0]? = some (.bool b) := by rw [h3]; rfl
  simpa [List.getElem?_take, List.getElem?_drop] using h4

/-- The settled world, each listed variable's block holding what its initialiser lays. -/
def litCell : DataW Unit → List Value
  | .lit (.int k z) => [Value.int k z]
  | .lit (.bool b) => [Value.bool b]
  | .lit (.string b) => [Value.string ⟨b.toArray⟩]
  | _ => [undef]
def dataCells (d : DataW Unit) : Array Value := match d with
  | .agg ds => (ds.flatMap fun
    | .agg es => es.flatMap litCell
    | x => litCell x).toArray
  | _ => #[]
def lay (g : Nat) (cs : Array Value) (h : Array Obj) : Array Obj := h.modify g fun
  | .cells _ t frozen => .cells cs t frozen
  | o => o
noncomputable def laidWorld (os : Os) : World :=
  { World.holding Tryz.prog os ⟨#[], #[], []⟩ with heap := let h := lay 5 (dataCells Rows.laid_math_bits_deBruijn32tab) (lay 6 (dataCells Rows.laid_math_bits_deBruijn64tab) (lay 2 (dataCells Rows.laid_internal_strconv_uint64pow10) (lay 8 (dataCells Rows.laid_unicode_utf8_acceptRanges) (lay 0 (dataCells Rows.laid_gatepost_token_tokenByte) (lay 7 (dataCells Rows.laid_unicode_utf8_first) ((World.holding Tryz.prog os ⟨#[], #[], []⟩).heap))))))
    ((lay 3 #[.iface 221 (.pointer (some ⟨h.size + 1, 0, none⟩))] (lay 4 #[.iface 221 (.pointer (some ⟨h.size + 0, 0, none⟩))] (h))).push (.cells #[.string ⟨#[118, 97, 108, 117, 101, 32, 111, 117, 116, 32, 111, 102, 32, 114, 97, 110, 103, 101]⟩] 223 (0, 0))).push (.cells #[.string ⟨#[105, 110, 118, 97, 108, 105, 100, 32, 115, 121, 110, 116, 97, 120]⟩] 223 (0, 0)) }
end Go.Proofs.YtcolnidgembniaaGreatDoor.Tb
/-
  Arguments that are fields and lists of fields, read as texts. Condition: what the form says of what is read.
-/
namespace Go.Proofs.YtcolnidgembniaaGreatDoor.Fd
open Go.RowKit Tk Go.ChangeShapes Go.WideShapes Go.Deep Go.Joins
set_option linter.unusedVariables false

def strOf : Value → ByteArray
  | .string s => s
  | _ => ByteArray.empty
theorem strOf_eq {v : Value} {s : ByteArray} (h : v = .string s) : v = .string (strOf v) := by subst h; rfl

theorem hone : oneCellFields Tryz.prog #[{ name := "Name", type := 9, offset := 0, embedded := false, tag := "", pkgPath := "", byteOffset := 0 }, { name := "Value", type := 9, offset := 1, embedded := false, tag := "", pkgPath := "", byteOffset := 16 }] = true := by kernel_rfl
theorem cellsText : Tryz.prog.cellsOf 9 = 1 := by kernel_rfl

theorem agg_weights {H : Type} (x y : List UInt8) {n : Nat} (h : n = x.length ∨ n = y.length) : n ∈ (DataW.agg [.lit (.string x), .lit (.string y)] : DataW H).weights Tryz.prog 80 := by
  rw [DataW.weights, Tryz.underlying80]
  rcases h with rfl | rfl <;> simp [DataW.weightsEach, DataW.weights]

theorem weights_in {H : Type} {P : Program} {e : TypeId} : ∀ {l : List (DataW H)} {d : DataW H}, d ∈ l → ∀ n ∈ d.weights P e, n ∈ DataW.weightsAll P e l
  | x :: r, d, hd, n, hn => by
    rw [DataW.weightsAll, List.mem_append]
    rw [List.mem_cons] at hd
    rcases hd with rfl | hd
    · exact .inl hn
    · exact .inr (weights_in hd n hn)

set_option maxRecDepth 100000 in
theorem open_field {H : Type} {enc : TypeId × Value → H} {W : World} {base : Nat} {v : Value} {d : DataW H} {p : List MemPlace} (hv : Value.okWide Tryz.prog W .any base 80 v)
    (h : DataW.Trod enc Tryz.prog W 0 (fun _ => true) true 80 v d p) (hw : ∀ n ∈ d.weights Tryz.prog 80, n ≤ reachBytes) :
    ∃ a b : ByteArray, v = .agg #[.string a, .string b] ∧ a.size ≤ reachBytes ∧ b.size ≤ reachBytes := by
  obtain ⟨v0, v1, y0, y1, n, rfl, rfl, rfl, g0, g1⟩ := open_agg2 Tryz.underlying80 hone cellsField hv h
  obtain ⟨a, e0, rfl, _⟩ := DataW.trod_string Tryz.underlying9 g0
  obtain ⟨b, e1, rfl, _⟩ := DataW.trod_string Tryz.underlying9 g1
  injection e0 with e0
  injection e1 with e1
  subst e0 e1
  have ha := hw _ (agg_weights a.data.toList b.data.toList (.inl rfl))
  have hb := hw _ (agg_weights a.data.toList b.data.toList (.inr rfl))
  exact ⟨a, b, rfl, by simpa using ha, by simpa using hb⟩

set_option maxRecDepth 100000 in
theorem open_flds {H : Type} {enc : TypeId × Value → H} {W : World} {base : Nat} {v : Value} {d : DataW H} {p : List MemPlace} (hv : Value.okWide Tryz.prog W .any base 23 v)
    (h : DataW.Trod enc Tryz.prog W 0 (fun _ => true) true 23 v d p) (hw : ∀ n ∈ d.weights Tryz.prog 23, n ≤ reachBytes) :
    ∃ fs : List Fl, Flds W v fs ∧ fs.length ≤ 140737488355328 ∧ ∀ f ∈ fs, f.1.size ≤ 140737488355328 ∧ f.2.size ≤ 140737488355328 := by
  obtain ⟨a0, len0, cap0, rfl⟩ := okWide_slice Tryz.underlying23 hv
  obtain ⟨fuel, hf⟩ := h
  rcases open_slice_pairs Tryz.underlying23 Tryz.underlying80 cellsField rfl rfl cellsText cellsText hf with ⟨hcs, _⟩ | ⟨a, len, cap, m, n, V0, V1, D0, D1, P0, P1, hcs, _, hl, hm, hmm, hx, hat⟩
  · simp [Value.cells] at hcs
    obtain ⟨rfl, rfl, rfl⟩ := hcs
    exact ⟨[], .inl ⟨rfl, _, _, rfl⟩, by simp, fun _ hf => by simp at hf⟩
  · simp [Value.cells] at hcs
    obtain ⟨rfl, rfl, rfl⟩ := hcs
    have hmc : m = cap0 := by simpa using hmm
    subst hmc
    have hd : d = _ := congrArg Prod.fst hx
    have each : ∀ i, i < len0 → V0 i = .string (strOf (V0 i)) ∧ V1 i = .string (strOf (V1 i)) ∧ (strOf (V0 i)).size ≤ reachBytes ∧ (strOf (V1 i)).size ≤ reachBytes := by
      intro i hi
      obtain ⟨_, _, t0, t1⟩ := hat i (by omega)
      obtain ⟨s0, e0, x0, _⟩ := DataW.trod_string Tryz.underlying9 t0
      obtain ⟨s1, e1, x1, _⟩ := DataW.trod_string Tryz.underlying9 t1
      injection e0 with e0
      injection e1 with e1
      have hin : ∀ k ∈ (DataW.agg [D0 i, D1 i] : DataW H).weights Tryz.prog 80, k ≤ reachBytes := fun k hk => by
        apply hw
        rw [hd, DataW.weights, Tryz.underlying23]
        simp only [List.mem_cons, List.mem_append]
        exact .inr (.inl (weights_in (List.mem_map.2 ⟨i, List.mem_range.2 hi, rfl⟩) k hk))
      have y0 : D0 i = .lit (.string s0.data.toList) := congrArg Prod.fst x0
      have y1 : D1 i = .lit (.string s1.data.toList) := congrArg Prod.fst x1
      rw [y0, y1] at hin
      have z0 := hin _ (agg_weights s0.data.toList s1.data.toList (.inl rfl))
      have z1 := hin _ (agg_weights s0.data.toList s1.data.toList (.inr rfl))
      rw [e0, e1]
      exact ⟨rfl, rfl, by simpa [strOf] using z0, by simpa [strOf] using z1⟩
    have hlen : len0 * 32 ≤ reachBytes := by
      have : (len0 + (m - len0)) * Tryz.prog.bytesOf 80 ∈ d.weights Tryz.prog 23 := by
        rw [hd, DataW.weights, Tryz.underlying23]
        simp
      have h2 := hw _ this
      have h3 : Tryz.prog.bytesOf 80 = 32 := by kernel_rfl
      rw [h3] at h2
      exact Nat.le_trans (Nat.mul_le_mul_right _ (by omega)) h2
    unfold reachBytes at each hlen
    refine ⟨(List.range len0).map fun i => (strOf (V0 i), strOf (V1 i)), ?_, by simp; omega, fun f hf => ?_⟩
    · by_cases h0 : len0 = 0
      · subst h0; exact .inl ⟨rfl, _, _, rfl⟩
      · obtain ⟨b, off, spot⟩ := a
        have hc0 := (hat 0 (by omega)).1
        have hs : spot = none := by simpa [Addr.add] using World.cell?_spot hc0
        subst hs
        refine .inr ⟨b, off, m, by simp, ?_, fun j hj => ?_⟩
        · rw [Addr.add_lit] at hc0
          exact World.block_lt_of_cell? W _ hc0
        · have hj' : j < len0 := by simpa using hj
          obtain ⟨c0, c1, _, _⟩ := hat j (by omega)
          rw [Addr.add_lit] at c0 c1
          obtain ⟨q0, q1, _⟩ := each j hj'
          simp only [List.getElem_map, List.getElem_range]
          rw [c0, q0, Nat.add_assoc, c1, q1]
          exact ⟨by simp [strOf], by simp [strOf]⟩
    · obtain ⟨i, hi, rfl⟩ := List.mem_map.1 hf
      obtain ⟨_, _, q0, q1⟩ := each i (List.mem_range.1 hi)
      exact ⟨by show (strOf (V0 i)).size ≤ _; omega, by show (strOf (V1 i)).size ≤ _; omega⟩
end Go.Proofs.YtcolnidgembniaaGreatDoor.Fd
/-
  The parts of a line: plain functions on bytes. No program, no condition.
-/
namespace Go.Proofs.YtcolnidgembniaaGreatDoor.Ln
open Go.Proofs.YtcolnidgembniaaGreatDoor.Tk

/-- May a byte stand in a target; in a reason? -/
def tg (c : UInt8) : Bool := 33 ≤ c.toNat && c.toNat ≤ 126
def rs (c : UInt8) : Bool := (c.toNat == 9 || 32 ≤ c.toNat) && c.toNat != 127
def isTgt (l : Bs) : Bool := !l.isEmpty && l.all tg
def isRsn (l : Bs) : Bool := l.all rs
def ver0 : Bs := [72, 84, 84, 80, 47, 49, 46, 48]
def ver1 : Bs := [72, 84, 84, 80, 47, 49, 46, 49]
def minorOf (l : Bs) : Int := if l = ver0 then 0 else if l = ver1 then 1 else -1
def isMin (n : Int) : Bool := n == 0 || n == 1
def isCod (n : Int) : Bool := decide (100 ≤ n) && decide (n ≤ 599)
def dgt (c : UInt8) : Bool := 48 ≤ c.toNat && c.toNat ≤ 57
/-- The number of three digits; -1: they are none. -/
def codeOf : Bs → Int
  | [a, b, c] => if dgt a && dgt b && dgt c then ((a.toNat : Int) - 48) * 100 + ((b.toNat : Int) - 48) * 10 + ((c.toNat : Int) - 48) else -1
  | _ => -1
/-- The place of the first byte 32, or the end. -/
def idx : Bs → Nat
  | [] => 0
  | c :: r => if c = 32 then 0 else idx r + 1
def fst (l : Bs) : Bs := l.take (idx l)
def rst (l : Bs) : Bs := l.drop (idx l + 1)

theorem idx_le (l : Bs) : idx l ≤ l.length := by
  induction l with
  | nil => exact Nat.le_refl _
  | cons c r ih => unfold idx; split <;> simp; omega
theorem idx_at (l : Bs) (h : idx l < l.length) : l[idx l] = 32 := by
  induction l with
  | nil => simp at h
  | cons c r ih =>
    by_cases hc : c = 32
    · simp [idx, hc]
    · have h' : idx r < r.length := by simp [idx, hc] at h; omega
      simp [idx, hc, ih h']
theorem idx_before (l : Bs) (j : Nat) (hj : j < idx l) : l[j]'(by have := idx_le l; omega) ≠ 32 := by
  induction l generalizing j with
  | nil => simp [idx] at hj
  | cons c r ih =>
    by_cases hc : c = 32
    · simp [idx, hc] at hj
    · cases j with
      | zero => simpa using hc
      | succ j => simp only [idx, hc, if_false] at hj; simpa using ih j (by omega)
theorem indexByte_eq (l : Bs) : Lib.indexByte l 32 = if idx l < l.length then (idx l : Int) else -1 := by
  induction l with
  | nil => simp [Lib.indexByte, idx]
  | cons c r ih =>
    unfold Lib.indexByte idx
    by_cases hc : c = 32
    · simp [hc]
    · have hb : (c == 32) = false := by simpa using hc
      rw [if_neg hc, hb, ih, List.length_cons]
      by_cases h : idx r < r.length
      · have h2 : idx r + 1 < r.length + 1 := by omega
        have h3 : ((idx r : Int) == -1) = false := by rw [beq_eq_false_iff_ne]; omega
        rw [if_pos h, if_pos h2, h3]; simp
      · have h2 : ¬ idx r + 1 < r.length + 1 := by omega
        rw [if_neg h, if_neg h2]; rfl
theorem fst_full {l : Bs} (h : ¬ idx l < l.length) : fst l = l := by unfold fst; exact List.take_of_length_le (by omega)
theorem rst_full {l : Bs} (h : ¬ idx l < l.length) : rst l = [] := by unfold rst; exact List.drop_eq_nil_of_le (by omega)
theorem fst_len (l : Bs) : (fst l).length = idx l := by unfold fst; rw [List.length_take]; have := idx_le l; omega
theorem rst_len (l : Bs) : (rst l).length = l.length - (idx l + 1) := by unfold rst; rw [List.length_drop]
theorem fst_le (l : Bs) : (fst l).length ≤ l.length := by rw [fst_len]; exact idx_le l
theorem rst_le (l : Bs) : (rst l).length ≤ l.length := by rw [rst_len]; omega
theorem split_at {l : Bs} (h : idx l < l.length) : l = fst l ++ 32 :: rst l := by
  unfold fst rst
  conv => lhs; rw [← List.take_append_drop (idx l) l]
  rw [List.drop_eq_getElem_cons h, idx_at l h]
/-- A text without a byte 32, a byte 32, and whatever else. -/
theorem idx_mk {a b : Bs} (ha : ∀ c ∈ a, c ≠ 32) : idx (a ++ 32 :: b) = a.length := by
  induction a with
  | nil => rfl
  | cons c r ih => simp only [List.cons_append, idx, ha c (by simp), if_false, List.length_cons]; rw [ih fun c hc => ha c (by simp [hc])]
theorem idx_none {a : Bs} (ha : ∀ c ∈ a, c ≠ 32) : idx a = a.length := by
  induction a with
  | nil => rfl
  | cons c r ih => simp only [idx, ha c (by simp), if_false, List.length_cons]; rw [ih fun c hc => ha c (by simp [hc])]
theorem fst_mk {a b : Bs} (ha : ∀ c ∈ a, c ≠ 32) : fst (a ++ 32 :: b) = a := by unfold fst; rw [idx_mk ha, List.take_left]
theorem rst_mk {a b : Bs} (ha : ∀ c ∈ a, c ≠ 32) : rst (a ++ 32 :: b) = b := by
  unfold rst; rw [idx_mk ha, ← List.drop_drop, List.drop_left]; rfl
theorem fst_none {a : Bs} (ha : ∀ c ∈ a, c ≠ 32) : fst a = a := by unfold fst; rw [idx_none ha, List.take_length]
theorem rst_none {a : Bs} (ha : ∀ c ∈ a, c ≠ 32) : rst a = [] := by unfold rst; rw [idx_none ha]; exact List.drop_eq_nil_of_le (by omega)
theorem fst_no (l : Bs) : ∀ c ∈ fst l, c ≠ 32 := by
  intro c hc
  have hc' : c ∈ l.take (idx l) := hc
  obtain ⟨j, hj, rfl⟩ := List.getElem_of_mem hc'
  have h1 : j < idx l := by rw [← fst_len l]; exact hj
  rw [List.getElem_take]; exact idx_before l j h1

theorem tok_no {l : Bs} (h : isTok l = true) : ∀ c ∈ l, c ≠ 32 := by
  intro c hc e
  simp [isTok] at h
  have := h.2 c hc
  rw [e] at this
  exact absurd this (by decide)
theorem tgt_no {l : Bs} (h : isTgt l = true) : ∀ c ∈ l, c ≠ 32 := by
  intro c hc e
  simp [isTgt] at h
  have := h.2 c hc
  rw [e] at this
  exact absurd this (by decide)
theorem tg_yes {c : UInt8} (h : tg c = true) : 33 ≤ (c.toNat : Int) ∧ (c.toNat : Int) ≤ 126 := by simp [tg] at h; omega
theorem tg_no {c : UInt8} (h : tg c = false) : (c.toNat : Int) < 33 ∨ (33 ≤ (c.toNat : Int) ∧ 126 < (c.toNat : Int)) := by simp [tg] at h; omega
theorem rs_yes {c : UInt8} (h : rs c = true) : (c.toNat : Int) = 9 ∨ (32 ≤ (c.toNat : Int) ∧ (c.toNat : Int) ≠ 127) := by simp [rs] at h; omega
theorem rs_no {c : UInt8} (h : rs c = false) : ((c.toNat : Int) < 32 ∧ (c.toNat : Int) ≠ 9) ∨ (c.toNat : Int) = 127 := by simp [rs] at h; omega
theorem isTgt_nil {s : ByteArray} (h : s.size = 0) : isTgt s.data.toList = false := by rw [nil_of_size h]; rfl
theorem isTgt_no (s : ByteArray) (k : Nat) (h : k < s.size) (hd : tg s[k] = false) : isTgt s.data.toList = false := by
  unfold isTgt; rw [not_all tg s k h hd]; simp
theorem isTgt_yes {s : ByteArray} (h : 0 < s.size) (ha : (s.data.toList.take s.size).all tg = true) : isTgt s.data.toList = true := by
  unfold isTgt; rw [cons_of_size h, all_of_take ha]; rfl
theorem isRsn_no (s : ByteArray) (k : Nat) (h : k < s.size) (hd : rs s[k] = false) : isRsn s.data.toList = false := not_all rs s k h hd
theorem isRsn_yes {s : ByteArray} (ha : (s.data.toList.take s.size).all rs = true) : isRsn s.data.toList = true := all_of_take ha

/-- Is it a request's line; a status line? -/
def reqOk (l : Bs) : Bool := isTok (fst l) && isTgt (fst (rst l)) && isMin (minorOf (rst (rst l)))
def stOk (l : Bs) : Bool := isMin (minorOf (fst l)) && isCod (codeOf (fst (rst l))) && isRsn (rst (rst l))
theorem minor_cases (l : Bs) : minorOf l = 0 ∨ minorOf l = 1 ∨ minorOf l = -1 := by
  unfold minorOf; split
  · exact .inl rfl
  · split
    · exact .inr (.inl rfl)
    · exact .inr (.inr rfl)
theorem minor_bd (l : Bs) : -1 ≤ minorOf l ∧ minorOf l ≤ 1 := by rcases minor_cases l with h | h | h <;> omega
theorem isMin_minor (l : Bs) : isMin (minorOf l) = decide (0 ≤ minorOf l) := by rcases minor_cases l with h | h | h <;> rw [h] <;> rfl
theorem ver_no {l : Bs} (h : isMin (minorOf l) = true) : ∀ c ∈ l, c ≠ 32 := by
  unfold minorOf at h
  split at h
  · rename_i e; rw [e]; decide
  · split at h
    · rename_i e; rw [e]; decide
    · exact absurd h (by decide)
theorem code_bd (l : Bs) : -1 ≤ codeOf l ∧ codeOf l ≤ 999 := by
  unfold codeOf
  split
  · split
    · rename_i h; simp [dgt] at h; omega
    · omega
  · omega
end Go.Proofs.YtcolnidgembniaaGreatDoor.Ln
/-
  What line's functions answer, as values. No condition.
-/
namespace Go.Proofs.YtcolnidgembniaaGreatDoor.Ln

/-- What Request answers. -/
def reqVal (s : ByteArray) : Value :=
  if 1024 < s.size then .tuple #[.string ⟨#[]⟩, .string ⟨#[]⟩, .int .i64 0, .int .i64 3]
  else if reqOk s.data.toList then .tuple #[.string ⟨(fst s.data.toList).toArray⟩, .string ⟨(fst (rst s.data.toList)).toArray⟩, .int .i64 (minorOf (rst (rst s.data.toList))), .int .i64 0]
  else .tuple #[.string ⟨#[]⟩, .string ⟨#[]⟩, .int .i64 0, .int .i64 30]
/-- What Status answers. -/
def stVal (s : ByteArray) : Value :=
  if 1024 < s.size then .tuple #[.int .i64 0, .int .i64 0, .string ⟨#[]⟩, .int .i64 3]
  else if stOk s.data.toList then .tuple #[.int .i64 (minorOf (fst s.data.toList)), .int .i64 (codeOf (fst (rst s.data.toList))), .string ⟨(rst (rst s.data.toList)).toArray⟩, .int .i64 0]
  else .tuple #[.int .i64 0, .int .i64 0, .string ⟨#[]⟩, .int .i64 30]
end Go.Proofs.YtcolnidgembniaaGreatDoor.Ln
/-
  A head, byte by byte: what a reader comes to, as plain functions on bytes. No program, no condition.
-/
namespace Go.Proofs.YtcolnidgembniaaGreatDoor.Hd
open Go.Proofs.YtcolnidgembniaaGreatDoor.Tk Go.Proofs.YtcolnidgembniaaGreatDoor.Fd Go.Proofs.YtcolnidgembniaaGreatDoor.Ln
set_option linter.unusedVariables false

/-- The parts of a first line: a request's method, target and minor, or a response's minor, code and reason. -/
structure Parts where
  m : Int
  c : Int
  a : ByteArray
  b : ByteArray
def Parts.none : Parts := ⟨0, 0, ⟨#[]⟩, ⟨#[]⟩⟩
/-- A first line's parts and its error. -/
def reqOf (s : ByteArray) : Parts × Nat :=
  if 1024 < s.size then (.none, 3)
  else if reqOk s.data.toList then (⟨minorOf (rst (rst s.data.toList)), 0, ⟨(fst s.data.toList).toArray⟩, ⟨(fst (rst s.data.toList)).toArray⟩⟩, 0)
  else (.none, 30)
def stOf (s : ByteArray) : Parts × Nat :=
  if 1024 < s.size then (.none, 3)
  else if stOk s.data.toList then (⟨minorOf (fst s.data.toList), codeOf (fst (rst s.data.toList)), ⟨(rst (rst s.data.toList)).toArray⟩, ⟨#[]⟩⟩, 0)
  else (.none, 30)
def firstOf (resp : Bool) (s : ByteArray) : Parts × Nat := if resp then stOf s else reqOf s
theorem reqVal_of (s : ByteArray) : reqVal s = .tuple #[.string (reqOf s).1.a, .string (reqOf s).1.b, .int .i64 (reqOf s).1.m, .int .i64 ((reqOf s).2 : Nat)] := by
  unfold reqVal reqOf
  split
  · rfl
  · split <;> rfl
theorem stVal_of (s : ByteArray) : stVal s = .tuple #[.int .i64 (stOf s).1.m, .int .i64 (stOf s).1.c, .string (stOf s).1.a, .int .i64 ((stOf s).2 : Nat)] := by
  unfold stVal stOf
  split
  · rfl
  · split <;> rfl
/-- Where a reader stands: reading (the first line's parts, if it was there; what was fed of a line; how many bytes; the fields), done, or failed. -/
inductive St where
  | on (p : Option Parts) (l : Bs) (n : Nat) (fs : List Fl)
  | done (p : Parts) (fs : List Fl)
  | bad (e : Nat)
def over : St → Bool
  | .on .. => false
  | _ => true
/-- A line that ended. -/
def ended (resp : Bool) (p : Option Parts) (n : Nat) (fs : List Fl) (t : Bs) : St :=
  match p with
  | none => if t = [] then .on none [] n fs else if (firstOf resp (txt t)).2 = 0 then .on (some (firstOf resp (txt t)).1) [] n fs else .bad (firstOf resp (txt t)).2
  | some q => if t = [] then .done q fs else if fs.length = 64 then .bad 3 else if (fldOf (txt t)).2 = 0 then .on (some q) [] n (fs ++ [(fldOf (txt t)).1]) else .bad (fldOf (txt t)).2
/-- How many bytes the line may have more. -/
def most (p : Option Parts) : Nat := if p.isNone then 1026 else 8192
def room (p : Option Parts) (l : Bs) (n : Nat) : Nat := min (8192 - n) (most p - l.length)
def step (resp : Bool) : St → UInt8 → St
  | .on p l n fs, c => if room p l n = 0 then .bad 3 else if c = 10 then ended resp p (n + 1) fs (own l) else .on p (l ++ [c]) (n + 1) fs
  | s, _ => s
/-- How many bytes are taken, and where the reader stands then. -/
def run (resp : Bool) : St → Bs → Nat × St
  | s, [] => (0, s)
  | s, c :: r => if over s then (0, s) else ((run resp (step resp s c) r).1 + 1, (run resp (step resp s c) r).2)

/-- What a reader keeps to. -/
def Good : St → Prop
  | .on p l n fs => l.length ≤ n ∧ n ≤ 8192 ∧ l.length ≤ most p ∧ fs.length ≤ 64 ∧ tot fs + l.length ≤ n ∧ (p = none → fs = [])
  | .done p fs => fs.length ≤ 64 ∧ tot fs ≤ 8192
  | .bad e => e = 3 ∨ e = 30 ∨ e = 31

theorem firstOf_err (resp : Bool) (s : ByteArray) : (firstOf resp s).2 = 0 ∨ (firstOf resp s).2 = 3 ∨ (firstOf resp s).2 = 30 := by
  unfold firstOf reqOf stOf
  split
  · split
    · exact .inr (.inl rfl)
    · split
      · exact .inl rfl
      · exact .inr (.inr rfl)
  · split
    · exact .inr (.inl rfl)
    · split
      · exact .inl rfl
      · exact .inr (.inr rfl)
theorem good_ended {resp : Bool} {p : Option Parts} {l : Bs} {n : Nat} {fs : List Fl} (h : Good (.on p l n fs)) (hr : room p l n ≠ 0) : Good (ended resp p (n + 1) fs (own l)) := by
  obtain ⟨h1, h2, h3, h4, h5, h6⟩ := h
  have hl := own_length l
  unfold room at hr
  have hn : n + 1 ≤ 8192 := by omega
  cases p with
  | none =>
    have hfs := h6 rfl
    subst hfs
    show Good (if own l = [] then _ else _)
    split
    · exact ⟨by simp, hn, by simp, by simp, by simp [tot], fun _ => rfl⟩
    · rcases firstOf_err resp (txt (own l)) with e | e
      · rw [if_pos e]; exact ⟨by simp, hn, by simp, by simp, by simp [tot], fun e => by cases e⟩
      · rw [if_neg (by omega)]
        rcases e with e | e
        · exact .inl e
        · exact .inr (.inl e)
  | some q =>
    show Good (if own l = [] then _ else _)
    split
    · exact ⟨h4, by omega⟩
    · by_cases h64 : fs.length = 64
      · rw [if_pos h64]; exact .inl rfl
      · rw [if_neg h64]
        rcases fldOf_err (txt (own l)) with e | e
        · rw [if_pos e]
          have hz := fldOf_size _ e
          rw [txt_size] at hz
          have ht : tot [(fldOf (txt (own l))).1] = (fldOf (txt (own l))).1.1.size + (fldOf (txt (own l))).1.2.size + 1 := by simp [tot]
          refine ⟨by simp, hn, by simp, by simp; omega, ?_, fun e => by cases e⟩
          rw [tot_append, ht]; simp only [List.length_nil]; omega
        · rw [if_neg (by omega)]; exact .inr (.inr e)
theorem good_step (resp : Bool) {s : St} (h : Good s) (c : UInt8) : Good (step resp s c) := by
  cases s with
  | on p l n fs =>
    show Good (if room p l n = 0 then _ else _)
    by_cases hr : room p l n = 0
    · rw [if_pos hr]; exact .inl rfl
    · rw [if_neg hr]
      split
      · exact good_ended h hr
      · obtain ⟨h1, h2, h3, h4, h5, h6⟩ := h
        unfold room at hr
        refine ⟨by simp; omega, by omega, by simp; omega, h4, by simp; omega, h6⟩
  | done => exact h
  | bad => exact h
theorem run_over {resp : Bool} {s : St} (h : over s = true) (b : Bs) : run resp s b = (0, s) := by
  cases b with
  | nil => rfl
  | cons c r => unfold run; rw [if_pos h]
theorem run_cons {resp : Bool} {s : St} (h : over s = false) (c : UInt8) (b : Bs) : run resp s (c :: b) = ((run resp (step resp s c) b).1 + 1, (run resp (step resp s c) b).2) := by
  conv => lhs; unfold run
  rw [if_neg (by rw [h]; simp)]
theorem good_run (resp : Bool) (b : Bs) {s : St} (h : Good s) : Good (run resp s b).2 := by
  induction b generalizing s with
  | nil => exact h
  | cons c r ih =>
    cases ho : over s with
    | true => rw [run_over ho]; exact h
    | false => rw [run_cons ho]; exact ih (good_step resp h c)
theorem run_le (resp : Bool) (b : Bs) (s : St) : (run resp s b).1 ≤ b.length := by
  induction b generalizing s with
  | nil => exact Nat.le_refl _
  | cons c r ih =>
    cases ho : over s with
    | true => rw [run_over ho]; simp
    | false => rw [run_cons ho]; have := ih (step resp s c); simp only [List.length_cons]; omega
/-- A piece that did not end the reading was taken whole. -/
theorem run_all {resp : Bool} (b : Bs) {s : St} (h : over (run resp s b).2 = false) : (run resp s b).1 = b.length := by
  induction b generalizing s with
  | nil => rfl
  | cons c r ih =>
    cases ho : over s with
    | true => rw [run_over ho] at h; rw [ho] at h; cases h
    | false => rw [run_cons ho] at h ⊢; have := ih h; simp only [List.length_cons]; omega
theorem run_nil (resp : Bool) (s : St) : run resp s [] = (0, s) := rfl
/-- Two pieces, one behind the other. -/
theorem run_append (resp : Bool) (a b : Bs) (s : St) : run resp s (a ++ b) = if over (run resp s a).2 then run resp s a else (a.length + (run resp (run resp s a).2 b).1, (run resp (run resp s a).2 b).2) := by
  induction a generalizing s with
  | nil =>
    rw [List.nil_append, run_nil]
    cases ho : over s with
    | true => rw [run_over ho]; simp
    | false => simp
  | cons c r ih =>
    rw [List.cons_append]
    cases ho : over s with
    | true => rw [run_over ho, run_over ho]; simp [ho]
    | false =>
      rw [run_cons ho, run_cons ho, ih]
      by_cases h : over (run resp (step resp s c) r).2 = true
      · simp [h]
      · simp [h]; omega

/-! A whole chunk of a line. -/
theorem step_on (resp : Bool) (p : Option Parts) (l : Bs) (n : Nat) (fs : List Fl) (c : UInt8) : step resp (.on p l n fs) c = if room p l n = 0 then .bad 3 else if c = 10 then ended resp p (n + 1) fs (own l) else .on p (l ++ [c]) (n + 1) fs := rfl
theorem room_next (p : Option Parts) (l : Bs) (n : Nat) (c : UInt8) : room p (l ++ [c]) (n + 1) = room p l n - 1 := by
  unfold room; rw [List.length_append, List.length_singleton]; omega
/-- Bytes of a line's midst, as many as there is room for. -/
theorem run_mid (resp : Bool) (b : Bs) (r : Bs) (p : Option Parts) (l : Bs) (n : Nat) (fs : List Fl) (h10 : ∀ c ∈ b, c ≠ 10) (hr : b.length ≤ room p l n) :
    run resp (.on p l n fs) (b ++ r) = (b.length + (run resp (.on p (l ++ b) (n + b.length) fs) r).1, (run resp (.on p (l ++ b) (n + b.length) fs) r).2) := by
  induction b generalizing l n with
  | nil => simp
  | cons c t ih =>
    have hc : c ≠ 10 := h10 c (by simp)
    rw [List.length_cons] at hr
    rw [List.cons_append, run_cons rfl, step_on, if_neg (by omega), if_neg hc, ih (l ++ [c]) (n + 1) (fun d hd => h10 d (by simp [hd])) (by rw [room_next]; omega)]
    simp only [List.append_assoc, List.singleton_append, List.length_cons]
    rw [show n + 1 + t.length = n + (t.length + 1) from by omega]
    congr 1
    omega
/-- The chunk ends the line. -/
theorem run_line {resp : Bool} {b : Bs} {r : Bs} {p : Option Parts} {l : Bs} {n : Nat} {fs : List Fl} (h10 : ∀ c ∈ b, c ≠ 10) (hr : b.length < room p l n) :
    run resp (.on p l n fs) (b ++ 10 :: r) = (b.length + 1 + (run resp (ended resp p (n + b.length + 1) fs (own (l ++ b))) r).1, (run resp (ended resp p (n + b.length + 1) fs (own (l ++ b))) r).2) := by
  have hrm : room p (l ++ b) (n + b.length) ≠ 0 := by unfold room at hr ⊢; rw [List.length_append]; omega
  rw [run_mid resp b (10 :: r) p l n fs h10 (by omega), run_cons rfl, step_on, if_neg hrm, if_pos rfl]
  simp only [Prod.mk.injEq, and_true]
  omega
theorem room_full (p : Option Parts) (l x : Bs) (n : Nat) (h : x.length = room p l n) : room p (l ++ x) (n + room p l n) = 0 := by
  have e : room p (l ++ x) (n + room p l n) = min (8192 - (n + room p l n)) (most p - (l.length + room p l n)) := by
    show min _ _ = _; rw [List.length_append, h]
  rw [e]; unfold room; omega
/-- The chunk is too long. -/
theorem run_big {resp : Bool} {b : Bs} {p : Option Parts} {l : Bs} {n : Nat} {fs : List Fl} (h10 : ∀ c ∈ b.take (room p l n), c ≠ 10) (hr : room p l n < b.length) :
    run resp (.on p l n fs) b = (room p l n + 1, .bad 3) := by
  have e : b = b.take (room p l n) ++ (b[room p l n] :: b.drop (room p l n + 1)) := by rw [List.getElem_cons_drop]; exact (List.take_append_drop _ _).symm
  have hl : (b.take (room p l n)).length = room p l n := by rw [List.length_take]; omega
  have h := run_mid resp (b.take (room p l n)) (b[room p l n] :: b.drop (room p l n + 1)) p l n fs h10 (by omega)
  rw [← e, hl] at h
  have h0 := room_full p l (b.take (room p l n)) n hl
  rw [h, run_cons rfl, step_on, if_pos h0, run_over rfl]
/-- The chunk lies in the line's midst. -/
theorem run_part {resp : Bool} {b : Bs} {p : Option Parts} {l : Bs} {n : Nat} {fs : List Fl} (h10 : ∀ c ∈ b, c ≠ 10) (hr : b.length ≤ room p l n) :
    run resp (.on p l n fs) b = (b.length, .on p (l ++ b) (n + b.length) fs) := by
  have := run_mid resp b [] p l n fs h10 hr
  rw [List.append_nil, run_nil] at this
  simpa using this

/-! What a reader answers. -/
def errOf : St → Nat
  | .bad e => e
  | _ => 0
def doneOf : St → Bool
  | .done .. => true
  | _ => false
/-- The head that is told: its parts and fields, and the error. -/
def headOf (resp same : Bool) : St → Parts × List Fl × Nat
  | .done p fs => if same then (p, fs, 0) else (.none, [], 16)
  | _ => (.none, [], 16)
def start : St := .on none [] 0 []
theorem good_start : Good start := ⟨by simp, by omega, by simp [most], by simp, by simp [tot], fun _ => rfl⟩
end Go.Proofs.YtcolnidgembniaaGreatDoor.Hd
/-
  What Set and Del leave, asked by Get: plain functions. No program, no condition.
-/
namespace Go.Proofs.YtcolnidgembniaaGreatDoor.Fd
open Tk

/-- The fields behind Set. -/
def setF (fs : List Fl) (nm val : ByteArray) : List Fl := del fs nm.data.toList ++ [(nm, val)]
theorem alike_refl (a : Bs) : alike a a = true := by unfold alike; simp
theorem has_other {nm other : Bs} (h : alike nm other = false) {f : Fl} (hf : has nm f = true) : has other f = false := by
  unfold has alike at *
  rw [beq_iff_eq] at hf
  rw [hf]; exact h
theorem sel_del (fs : List Fl) (nm : Bs) : sel (del fs nm) nm = [] := by
  unfold sel del
  rw [List.filter_filter]
  have e : (fs.filter fun a => has nm a && !has nm a) = [] := by
    rw [List.filter_eq_nil_iff]; intro a _; cases has nm a <;> simp
  rw [e]; rfl
theorem sel_del_other (fs : List Fl) {nm other : Bs} (h : alike nm other = false) : sel (del fs nm) other = sel fs other := by
  unfold sel del
  rw [List.filter_filter]
  congr 1
  apply List.filter_congr
  intro a _
  cases ha : has nm a with
  | false => simp
  | true => rw [has_other h ha]; rfl
theorem sel_set (fs : List Fl) (nm val : ByteArray) : sel (setF fs nm val) nm.data.toList = [val.data.toList] := by
  have h := sel_del fs nm.data.toList
  unfold setF
  unfold sel at h ⊢
  rw [List.filter_append, List.map_append, h]
  have e : has nm.data.toList (nm, val) = true := alike_refl _
  simp [e]
theorem sel_set_other (fs : List Fl) (nm val : ByteArray) {other : Bs} (h : alike nm.data.toList other = false) : sel (setF fs nm val) other = sel fs other := by
  have h2 := sel_del_other fs h
  unfold setF
  unfold sel at h2 ⊢
  rw [List.filter_append, List.map_append, h2]
  have e : has other (nm, val) = false := h
  simp [e]
theorem del_del (fs : List Fl) (nm : Bs) : del (del fs nm) nm = del fs nm := by
  unfold del; rw [List.filter_filter]; congr 1; funext a; simp
theorem del_set (fs : List Fl) (nm val : ByteArray) : del (setF fs nm val) nm.data.toList = del fs nm.data.toList := by
  have h := del_del fs nm.data.toList
  unfold setF
  unfold del at h ⊢
  rw [List.filter_append, h]
  have e : has nm.data.toList (nm, val) = true := alike_refl _
  simp [e]
theorem tot_del (fs : List Fl) (nm : Bs) : tot (del fs nm) ≤ tot fs := tot_filter _ fs
theorem tot_set (fs : List Fl) (nm val : ByteArray) : tot (setF fs nm val) ≤ tot fs + nm.size + val.size + 1 := by
  unfold setF; rw [tot_append]
  have := tot_del fs nm.data.toList
  have e : tot [(nm, val)] = nm.size + val.size + 1 := by simp [tot]
  omega
theorem get_set (fs : List Fl) (nm val : ByteArray) : getT (setF fs nm val) nm.data.toList = val.data.toList ∧ getN (setF fs nm val) nm.data.toList = 1 := by
  unfold getT getN; rw [sel_set]; exact ⟨rfl, rfl⟩
theorem get_del (fs : List Fl) (nm : Bs) : getT (del fs nm) nm = [] ∧ getN (del fs nm) nm = 0 := by
  unfold getT getN; rw [sel_del]; exact ⟨rfl, rfl⟩
theorem get_set_other (fs : List Fl) (nm val : ByteArray) {other : Bs} (h : alike nm.data.toList other = false) : getT (setF fs nm val) other = getT fs other ∧ getN (setF fs nm val) other = getN fs other := by
  unfold getT getN; rw [sel_set_other fs nm val h]; exact ⟨rfl, rfl⟩
theorem get_del_other (fs : List Fl) {nm other : Bs} (h : alike nm other = false) : getT (del fs nm) other = getT fs other ∧ getN (del fs nm) other = getN fs other := by
  unfold getT getN; rw [sel_del_other fs h]; exact ⟨rfl, rfl⟩
end Go.Proofs.YtcolnidgembniaaGreatDoor.Fd
/-
  The names that a text lists, and what Strip takes away: plain functions. No program, no condition.
-/
namespace Go.Proofs.YtcolnidgembniaaGreatDoor.Fd
open Tk

theorem put_piece {own : Bs} {rest : List Bs} {n : Nat} (h1 : own.length ≤ n) (h2 : ∀ x ∈ rest, x.length ≤ n) : ∀ x ∈ put own rest, x.length ≤ n := by
  unfold put
  split
  · exact h2
  · intro x hx
    rw [List.mem_cons] at hx
    rcases hx with rfl | hx
    · exact Nat.le_trans (trim_length own) h1
    · exact h2 x hx
/-- No element is longer than the text. -/
theorem sp_piece : ∀ (n : Nat) (r : Bs), r.length ≤ n → ∀ q own ls, sp q own r = some ls → ∀ x ∈ ls, x.length ≤ own.length + r.length
  | 0, r, h, q, own, ls, hs => by
    have : r = [] := List.length_eq_zero_iff.1 (by omega)
    subst this
    cases q with
    | true => rw [sp_nil_q] at hs; cases hs
    | false => rw [sp_nil] at hs; injection hs with hs; subst hs; exact put_piece (by simp) (by simp)
  | n + 1, r, h, q, own, ls, hs => by
    match r with
    | [] =>
      cases q with
      | true => rw [sp_nil_q] at hs; cases hs
      | false => rw [sp_nil] at hs; injection hs with hs; subst hs; exact put_piece (by simp) (by simp)
    | c :: r =>
      have hr : r.length ≤ n := by simp at h; omega
      cases q with
      | false =>
        by_cases h44 : c = 44
        · subst h44
          rw [sp_comma, Option.map_eq_some_iff] at hs
          obtain ⟨x, hx, rfl⟩ := hs
          have h1 := sp_piece n r hr _ _ _ hx
          refine put_piece (by simp) (fun y hy => ?_)
          have := h1 y hy
          simp at this ⊢; omega
        · by_cases h34 : c = 34
          · subst h34; rw [sp_open] at hs
            intro y hy; have := sp_piece n r hr _ _ _ hs y hy; simp at this ⊢; omega
          · rw [sp_other _ _ h44 h34] at hs
            intro y hy; have := sp_piece n r hr _ _ _ hs y hy; simp at this ⊢; omega
      | true =>
        by_cases h34 : c = 34
        · subst h34; rw [sp_q_close] at hs
          intro y hy; have := sp_piece n r hr _ _ _ hs y hy; simp at this ⊢; omega
        · by_cases h92 : c = 92
          · subst h92
            match r with
            | [] => rw [sp_q_last] at hs; cases hs
            | d :: r' =>
              rw [sp_q_back] at hs
              intro y hy; have := sp_piece n r' (by simp at h; omega) _ _ _ hs y hy; simp at this ⊢; omega
          · rw [sp_q_other _ _ h34 h92] at hs
            intro y hy; have := sp_piece n r hr _ _ _ hs y hy; simp at this ⊢; omega
theorem split_piece {l : Bs} {ls : List Bs} (h : splitOf l = some ls) : ∀ x ∈ ls, x.length ≤ l.length := by
  intro x hx; have := sp_piece _ l (Nat.le_refl _) _ _ _ h x hx; simpa using this

/-- The names that a text lists: its elements in small letters; none, if one is no token. -/
def namesOf (t : Bs) : Option (List Bs) := match splitOf t with
  | none => none
  | some ls => if ls.all isTok then some (ls.map lower) else none
theorem names_none {t : Bs} (h : splitOf t = none) : namesOf t = none := by unfold namesOf; rw [h]
theorem names_bad {t : Bs} {ls : List Bs} (h : splitOf t = some ls) (j : Nat) (hj : j < ls.length) (hb : isTok ls[j] = false) : namesOf t = none := by
  unfold namesOf; rw [h]
  have : ls.all isTok = false := by rw [List.all_eq_false]; exact ⟨ls[j], List.getElem_mem hj, by simp [hb]⟩
  simp [this]
theorem names_good {t : Bs} {ls : List Bs} (h : splitOf t = some ls) (hb : ls.all isTok = true) : namesOf t = some (ls.map lower) := by
  unfold namesOf; rw [h]; simp [hb]
theorem names_length {t : Bs} {ls : List Bs} (h : namesOf t = some ls) : ls.length ≤ t.length + 1 := by
  unfold namesOf at h
  split at h
  · cases h
  · rename_i ms hs
    split at h
    · injection h with h; subst h; rw [List.length_map]; exact split_length hs
    · cases h
theorem names_piece {t : Bs} {ls : List Bs} (h : namesOf t = some ls) : ∀ x ∈ ls, x.length ≤ t.length := by
  unfold namesOf at h
  split at h
  · cases h
  · rename_i ms hs
    split at h
    · injection h with h; subst h
      intro x hx
      obtain ⟨y, hy, rfl⟩ := List.mem_map.1 hx
      rw [lower_length]; exact split_piece hs y hy
    · cases h
theorem all_next (ls : List Bs) (k : Nat) (h : k < ls.length) (h1 : (ls.take k).all isTok = true) (h2 : isTok ls[k] = true) : (ls.take (k + 1)).all isTok = true := by
  rw [take_next ls k h, List.all_append, h1]; simp [h2]
/-- A list whose first k elements stand in small letters. -/
def half (ls : List Bs) (k : Nat) : List Bs := (ls.take k).map lower ++ ls.drop k
theorem half_zero (ls : List Bs) : half ls 0 = ls := by simp [half]
theorem half_all (ls : List Bs) : half ls ls.length = ls.map lower := by simp [half]
theorem half_length (ls : List Bs) (k : Nat) (h : k ≤ ls.length) : (half ls k).length = ls.length := by simp [half]; omega
theorem half_len (ls : List Bs) (k : Nat) (h : k < ls.length) : ((ls.take k).map lower).length = k := by rw [List.length_map, List.length_take]; omega
theorem half_at (ls : List Bs) (k : Nat) (h : k < ls.length) : (half ls k)[k]? = some ls[k] := by
  have e := half_len ls k h
  unfold half
  rw [List.getElem?_append_right (by omega), e, Nat.sub_self, List.getElem?_drop, Nat.add_zero, List.getElem?_eq_getElem h]
theorem half_set (ls : List Bs) (k : Nat) (h : k < ls.length) : (half ls k).set k (lower ls[k]) = half ls (k + 1) := by
  have e := half_len ls k h
  unfold half
  rw [List.set_append_right _ _ (by omega), e, Nat.sub_self, List.drop_eq_getElem_cons h, List.set_cons_zero, take_next ls k h, List.map_append, List.map_cons, List.map_nil, List.append_assoc]
  rfl
end Go.Proofs.YtcolnidgembniaaGreatDoor.Fd
/-
  token.appendDigit, token.Number and gatepostref01.Number: what each returns, for every text and every bound.
  Conditions: none beyond the lengths that a string can have.
-/
namespace Go.Proofs.YtcolnidgembniaaGreatDoor.Num
open Go.RowKit

/-- A digit's byte. -/
def dg (c : UInt8) : Bool := 48 ≤ c.toNat && c.toNat ≤ 57
/-- One digit more, at most 'most'. -/
def step (most n d : Int) : Int := if most < n * 10 + d then most else n * 10 + d
def num (most n : Int) (l : List UInt8) : Int := l.foldl (fun n c => step most n ((c.toNat : Int) - 48)) n

theorem step_bd (most n d : Int) (hm : 0 ≤ most) (hn : 0 ≤ n) (hd : 0 ≤ d) : 0 ≤ step most n d ∧ step most n d ≤ most := by
  unfold step; split <;> omega
theorem dg_bd {c : UInt8} (h : dg c = true) : 48 ≤ (c.toNat : Int) ∧ (c.toNat : Int) ≤ 57 := by
  simp [dg] at h; omega
theorem num_bd (most : Int) (hm : 0 ≤ most) (l : List UInt8) : ∀ (n : Int), 0 ≤ n → n ≤ most → l.all dg = true → 0 ≤ num most n l ∧ num most n l ≤ most := by
  induction l with
  | nil => intro n h0 h1 _; exact ⟨h0, h1⟩
  | cons c l ih =>
    intro n h0 h1 ha
    simp only [List.all_cons, Bool.and_eq_true] at ha
    have hb := dg_bd ha.1
    have hs := step_bd most n ((c.toNat : Int) - 48) hm h0 (by omega)
    exact ih _ hs.1 hs.2 ha.2
theorem num_stay (most : Int) (hm : 0 ≤ most) (l : List UInt8) : l.all dg = true → num most most l = most := by
  induction l with
  | nil => intro _; rfl
  | cons c l ih =>
    intro ha
    simp only [List.all_cons, Bool.and_eq_true] at ha
    have hb := dg_bd ha.1
    have hs : step most most ((c.toNat : Int) - 48) = most := by unfold step; split <;> omega
    show num most (step most most ((c.toNat : Int) - 48)) l = most
    rw [hs]; exact ih ha.2
theorem num_snoc (most n : Int) (l : List UInt8) (c : UInt8) : num most n (l ++ [c]) = step most (num most n l) ((c.toNat : Int) - 48) := by
  simp [num, List.foldl_append]
theorem num_append (most n : Int) (l k : List UInt8) : num most n (l ++ k) = num most (num most n l) k := by
  simp [num, List.foldl_append]
theorem take_snoc (s : ByteArray) (k : Nat) (h : k < s.size) : s.data.toList.take (k + 1) = s.data.toList.take k ++ [s[k]] := by
  rw [List.take_succ_eq_append_getElem (by simpa using h)]; rfl
theorem all_snoc (s : ByteArray) (k : Nat) (h : k < s.size) : (s.data.toList.take (k + 1)).all dg = ((s.data.toList.take k).all dg && dg s[k]) := by
  rw [take_snoc s k h, List.all_append]; simp
theorem all_take (l : List UInt8) (k : Nat) (h : l.all dg = true) : (l.take k).all dg = true := by
  rw [List.all_eq_true] at h ⊢
  intro x hx; exact h x (List.mem_of_mem_take hx)
theorem not_all (s : ByteArray) (k : Nat) (h : k < s.size) (hd : dg s[k] = false) : s.data.toList.all dg = false := by
  rw [List.all_eq_false]
  exact ⟨s[k], by show s.data[k] ∈ _; simp, by simp [hd]⟩

/-- What Number answers. -/
def numOf (s : ByteArray) (most : Int) : Int × Bool := if s.size = 0 ∨ most < 0 ∨ s.data.toList.all dg = false then (0, false) else (num most 0 s.data.toList, true)

set_option maxHeartbeats 400000 in
theorem digit_any (n d most : Int) (w : World) (h0 : 0 ≤ n) (h1 : n ≤ most) (h2 : 0 ≤ d) (h3 : d ≤ 9) (h4 : most ≤ 9223372036854775807) :
    Calls Tryz.prog 111 #[.int .i64 n, .int .i64 d, .int .i64 most] w fun e w' => e = .returned (.int .i64 (step most n d)) ∧ w = w' := by
  by_cases ha : most / 10 < n
  · have HS := Lib.hid (show step most n d = most from by unfold step; rw [if_pos (by omega)])
    go_enter Tryz.func111, Tryz.ntmps111
    go_wp2
    go_ret
    exact ⟨by rw [HS.out]; rfl, rfl⟩
  · by_cases hb : most - n * 10 < d
    · have HS := Lib.hid (show step most n d = most from by unfold step; rw [if_pos (by omega)])
      go_enter Tryz.func111, Tryz.ntmps111
      go_wp2
      go_ret
      exact ⟨by rw [HS.out]; rfl, rfl⟩
    · have HS := Lib.hid (show step most n d = n * 10 + d from by unfold step; rw [if_neg (by omega)])
      go_enter Tryz.func111, Tryz.ntmps111
      go_wp2
      go_ret
      exact ⟨by rw [HS.out]; rfl, rfl⟩

theorem numOf_none {s : ByteArray} {most : Int} (h : s.size = 0 ∨ most < 0 ∨ s.data.toList.all dg = false) : numOf s most = (0, false) := by
  unfold numOf; rw [if_pos h]
theorem numOf_some {s : ByteArray} {most : Int} (h0 : 0 < s.size) (hm : 0 ≤ most) (h : s.data.toList.all dg = true) : numOf s most = (num most 0 s.data.toList, true) := by
  unfold numOf; rw [if_neg (by rw [h]; intro hh; rcases hh with hh | hh | hh <;> first | omega | simp at hh)]
/-- Two results as the walk leaves them. -/
theorem ret2 {a b : Int} {x y : Bool} {p : Int × Bool} (h : p = (b, y)) (h1 : a = b) (h2 : x = y) : Ending.returned (.tuple #[.int .i64 a, .bool x]) = .returned (.tuple #[.int .i64 p.1, .bool p.2]) := by
  rw [h, h1, h2]
theorem empty_of {s : ByteArray} (h : s.size = 0) : s.toList = [] := by
  rw [ByteArray.toList_eq, ← List.length_eq_zero_iff]; simpa using h
theorem full_of {s : ByteArray} (h : 0 < s.size) : s.toList.isEmpty = false := by
  rw [ByteArray.toList_eq]
  cases hl : s.data.toList with
  | nil => have h1 : s.data.toList.length = 0 := by rw [hl]; rfl
           rw [Array.length_toList] at h1
           have h2 : s.size = s.data.size := rfl
           omega
  | cons => rfl
theorem all_of_take {s : ByteArray} (h : (s.data.toList.take s.size).all dg = true) : s.data.toList.all dg = true := by
  rwa [List.take_of_length_le (by simp)] at h
theorem num_of_take (s : ByteArray) (most : Int) : num most 0 (s.data.toList.take s.size) = num most 0 s.data.toList := by
  rw [List.take_of_length_le (by simp)]

set_option maxHeartbeats 1000000 in
theorem number_any (s : ByteArray) (most : Int) (w : World) (hs : s.size ≤ maxLen) (h4 : most ≤ 9223372036854775807) :
    Calls Tryz.prog 76 #[.string s, .int .i64 most] w fun e w' => e = .returned (.tuple #[.int .i64 (numOf s most).1, .bool (numOf s most).2]) ∧ w = w' := by
  unfold maxLen at hs
  by_cases hz : s.size = 0
  · have HN := Lib.hid (numOf_none (most := most) (.inl hz))
    have he := empty_of hz
    clear hz
    go_enter Tryz.func76, Tryz.ntmps76
    go_wp2
    go_ret2
    exact ⟨ret2 HN.out rfl rfl, rfl⟩
  · have he := full_of (s := s) (by omega)
    by_cases hm : most < 0
    · have HN := Lib.hid (numOf_none (s := s) (.inr (.inl hm)))
      go_enter Tryz.func76, Tryz.ntmps76
      go_wp2
      go_ret2
      exact ⟨ret2 HN.out rfl rfl, rfl⟩
    · have hm' : 0 ≤ most := by omega
      go_enter Tryz.func76, Tryz.ntmps76
      go_wp2
      go_loop [6, 16] (fun n i => ∃ k : Nat, k ≤ s.size ∧ i = .int .i64 k ∧ (s.data.toList.take k).all dg = true ∧ n = .int .i64 (num most 0 (s.data.toList.take k))) (fun _ i => s.size - (intOf i).toNat)
      case atStart => exact ⟨0, Nat.zero_le _, rfl, rfl, rfl⟩
      case round =>
        obtain ⟨k, hk, rfl, hal, rfl⟩ := hrel
        have hb := num_bd most hm' (s.data.toList.take k) 0 (by omega) hm' hal
        have HAL := Lib.hid hal
        clear hal
        by_cases hlt : k < s.size
        · by_cases hd : dg s[k] = true
          · have hc := dg_bd hd
            have HS := Lib.hid (show num most 0 (s.data.toList.take (k + 1)) = step most (num most 0 (s.data.toList.take k)) ((s[k].toNat : Int) - 48) from by rw [take_snoc s k hlt, num_snoc])
            have HA := Lib.hid (show (s.data.toList.take (k + 1)).all dg = true from by rw [all_snoc s k hlt, HAL.out, hd]; rfl)
            clear hd
            go_wp2_with (go_at_call 111; refine (digit_any _ _ _ _ (by omega) (by omega) (by omega) (by omega) (by omega)).mono ?_; rintro e w' ⟨rfl, rfl⟩)
            go_round
            case rel => exact ⟨k + 1, by omega, by go_num, HA.out, by rw [HS.out]⟩
            case measure => simp [intOf]; omega
          · have HN := Lib.hid (numOf_none (s := s) (most := most) (.inr (.inr (not_all s k hlt (by simpa using hd)))))
            have hc : (s[k].toNat : Int) < 48 ∨ 57 < (s[k].toNat : Int) := by
              simp [dg] at hd; omega
            clear hd
            rcases hc with hc | hc
            all_goals
              go_wp2
              go_ret2
              exact ⟨ret2 HN.out rfl rfl, rfl⟩
        · obtain rfl : k = s.size := by omega
          have HN := Lib.hid (numOf_some (by omega) hm' (all_of_take HAL.out))
          go_wp2
          go_ret2
          exact ⟨ret2 HN.out (num_of_take _ _) rfl, rfl⟩

theorem early (s : ByteArray) (most : Int) (k : Nat) (hk : k < s.size) (hm : 0 ≤ most) (ha : s.data.toList.all dg = true) (hs : most < num most 0 (s.data.toList.take k) * 10 + ((s[k].toNat : Int) - 48)) :
    num most 0 s.data.toList = most := by
  have h1 : num most 0 (s.data.toList.take (k + 1)) = most := by
    rw [take_snoc s k hk, num_snoc]; unfold step; rw [if_pos hs]
  have h2 : num most 0 s.data.toList = num most 0 (s.data.toList.take (k + 1) ++ s.data.toList.drop (k + 1)) := by rw [List.take_append_drop]
  rw [h2, num_append, h1]
  refine num_stay most hm _ ?_
  rw [List.all_eq_true] at ha ⊢
  intro x hx; exact ha x (List.mem_of_mem_drop hx)
theorem get_dg (s : ByteArray) (k : Nat) (hk : k < s.size) (ha : s.data.toList.all dg = true) : dg s[k] = true := by
  rw [List.all_eq_true] at ha
  exact ha _ (by show s.data[k] ∈ _; simp)

set_option maxHeartbeats 2000000 in
theorem refNumber_any (s : ByteArray) (most : Int) (w : World) (hs : s.size ≤ maxLen) (h4 : most ≤ 9223372036854775807) (h5 : -9223372036854775808 ≤ most) :
    Calls Tryz.prog 90 #[.string s, .int .i64 most] w fun e w' => e = .returned (.tuple #[.int .i64 (numOf s most).1, .bool (numOf s most).2]) ∧ w = w' := by
  unfold maxLen at hs
  by_cases hm : most < 0
  · have HN := Lib.hid (numOf_none (s := s) (.inr (.inl hm)))
    go_enter Tryz.func90, Tryz.ntmps90
    go_wp2
    go_ret2
    exact ⟨ret2 HN.out rfl rfl, rfl⟩
  · have hm' : 0 ≤ most := by omega
    by_cases hz : s.size = 0
    · have HN := Lib.hid (numOf_none (most := most) (.inl hz))
      have he : ((s.size : Int) == 0) = true := by simp [hz]
      clear hz
      go_enter Tryz.func90, Tryz.ntmps90
      go_wp2
      go_ret2
      exact ⟨ret2 HN.out rfl rfl, rfl⟩
    · have he : ((s.size : Int) == 0) = false := beq_eq_false_iff_ne.2 (by omega)
      have hp : 0 < s.size := by omega
      clear hz
      go_enter Tryz.func90, Tryz.ntmps90
      go_wp2
      go_loop [7] (fun i => ∃ k : Nat, k ≤ s.size ∧ i = .int .i64 k ∧ (s.data.toList.take k).all dg = true) (fun i => s.size - (intOf i).toNat)
      case atStart => exact ⟨0, Nat.zero_le _, rfl, rfl⟩
      case round =>
        obtain ⟨k, hk, rfl, hal⟩ := hrel
        have HAL := Lib.hid hal
        clear hal
        by_cases hlt : k < s.size
        · by_cases hd : dg s[k] = true
          · have hc := dg_bd hd
            have HA := Lib.hid (show (s.data.toList.take (k + 1)).all dg = true from by rw [all_snoc s k hlt, HAL.out, hd]; rfl)
            clear hd
            go_wp2
            go_round
            case rel => exact ⟨k + 1, by omega, by go_num, HA.out⟩
            case measure => simp [intOf]; omega
          · have HN := Lib.hid (numOf_none (s := s) (most := most) (.inr (.inr (not_all s k hlt (by simpa using hd)))))
            have hc : (s[k].toNat : Int) < 48 ∨ 57 < (s[k].toNat : Int) := by
              simp [dg] at hd; omega
            clear hd
            rcases hc with hc | hc
            all_goals
              go_wp2
              go_ret2
              exact ⟨ret2 HN.out rfl rfl, rfl⟩
        · obtain rfl : k = s.size := by omega
          have HAA := Lib.hid (all_of_take HAL.out)
          have HN := Lib.hid (numOf_some (by omega) hm' HAA.out)
          clear HAL hk hlt
          go_wp2
          go_loop [6, 8] (fun n i => ∃ k : Nat, k ≤ s.size ∧ i = .int .i64 k ∧ n = .int .i64 (num most 0 (s.data.toList.take k))) (fun _ i => s.size - (intOf i).toNat)
          case atStart => exact ⟨0, Nat.zero_le _, rfl, rfl⟩
          case round =>
            obtain ⟨k, hk, rfl, rfl⟩ := hrel
            have hb := num_bd most hm' (s.data.toList.take k) 0 (by omega) hm' (all_take _ _ HAA.out)
            by_cases hlt : k < s.size
            · have hc := dg_bd (get_dg s k hlt HAA.out)
              have HS := Lib.hid (show num most 0 (s.data.toList.take (k + 1)) = step most (num most 0 (s.data.toList.take k)) ((s[k].toNat : Int) - 48) from by rw [take_snoc s k hlt, num_snoc])
              have HE := Lib.hid (early s most k hlt hm' HAA.out)
              by_cases h1 : most < (s[k].toNat : Int) - 48
              · have ht : (most - ((s[k].toNat : Int) - 48)).tdiv 10 = 0 := by
                  have e : (most - ((s[k].toNat : Int) - 48)) = -(((s[k].toNat : Int) - 48) - most) := by omega
                  rw [e, Int.neg_tdiv, Int.tdiv_eq_ediv_of_nonneg (by omega)]; omega
                have HX := Lib.hid (HE.out (by omega))
                clear HE
                by_cases h2 : 0 < num most 0 (s.data.toList.take k)
                all_goals
                  go_wp2
                  go_ret2
                  exact ⟨ret2 HN.out HX.out.symm rfl, rfl⟩
              · by_cases h2 : (most - ((s[k].toNat : Int) - 48)) / 10 < num most 0 (s.data.toList.take k)
                · have HX := Lib.hid (HE.out (by omega))
                  clear HE
                  go_wp2
                  go_ret2
                  exact ⟨ret2 HN.out HX.out.symm rfl, rfl⟩
                · have HX := Lib.hid (show step most (num most 0 (s.data.toList.take k)) ((s[k].toNat : Int) - 48) = num most 0 (s.data.toList.take k) * 10 + ((s[k].toNat : Int) - 48) from by unfold step; rw [if_neg (by omega)])
                  clear HE
                  go_wp2
                  go_round
                  case rel => exact ⟨k + 1, by omega, by go_num, by rw [HS.out, HX.out]⟩
                  case measure => simp [intOf]; omega
            · obtain rfl : k = s.size := by omega
              go_wp2
              go_ret2
              exact ⟨ret2 HN.out (num_of_take _ _) rfl, rfl⟩
end Go.Proofs.YtcolnidgembniaaGreatDoor.Num
/-
  How a message's body is framed, as plain functions on fields. No program, no condition.
-/
namespace Go.Proofs.YtcolnidgembniaaGreatDoor.Fr
open Go.Proofs.YtcolnidgembniaaGreatDoor.Tk Go.Proofs.YtcolnidgembniaaGreatDoor.Fd
set_option linter.unusedVariables false

def trE : Bs := [84, 114, 97, 110, 115, 102, 101, 114, 45, 69, 110, 99, 111, 100, 105, 110, 103]
def coL : Bs := [67, 111, 110, 116, 101, 110, 116, 45, 76, 101, 110, 103, 116, 104]
def trE' : Bs := [116, 114, 97, 110, 115, 102, 101, 114, 45, 101, 110, 99, 111, 100, 105, 110, 103]
def coL' : Bs := [99, 111, 110, 116, 101, 110, 116, 45, 108, 101, 110, 103, 116, 104]
def chk : Bs := [99, 104, 117, 110, 107, 101, 100]
theorem has_alike {a b : Bs} (h : lower a = lower b) (f : Fl) : has a f = has b f := by unfold has alike; rw [h]
theorem sel_alike {a b : Bs} (h : lower a = lower b) (fs : List Fl) : sel fs a = sel fs b := by
  unfold sel
  have : has a = has b := funext (has_alike h)
  rw [this]
theorem getT_alike {a b : Bs} (h : lower a = lower b) (fs : List Fl) : getT fs a = getT fs b := by unfold getT; rw [sel_alike h]
theorem getN_alike {a b : Bs} (h : lower a = lower b) (fs : List Fl) : getN fs a = getN fs b := by unfold getN; rw [sel_alike h]
theorem trE_low : lower trE' = lower trE := by decide
theorem coL_low : lower coL' = lower coL := by decide

/-- A text as a number. -/
def numT (x : Bs) : Int × Bool := Num.numOf ⟨x.toArray⟩ 1099511627776
/-- The one number that all texts are, behind some that were one. -/
def oneNum : Nat → Int → List Bs → Option Int
  | _, n, [] => some n
  | i, n, x :: r => if (numT x).2 = false ∨ (0 < i ∧ (numT x).1 ≠ n) then none else oneNum (i + 1) (numT x).1 r
/-- What the lengths' text tells. -/
def lenVal (t : Bs) : Int × Int :=
  match splitOf t with
  | none => (0, 32)
  | some ls => if ls = [] then (0, 32) else match oneNum 0 0 ls with
    | none => (0, 32)
    | some n => if 1048576 < n then (0, 3) else (n, 0)
def justC (fs : List Fl) : Bool := match namesOf (getT fs trE) with
  | none => false
  | some ls => ls == [chk]
/-- The kind, the length and the error. -/
def toldVal (m : Int) (fs : List Fl) (silent : Int) : Int × Int × Int :=
  if 0 < getN fs trE then
    (if m = 0 ∨ 0 < getN fs coL ∨ justC fs = false then (0, 0, 32) else (2, 0, 0))
  else if getN fs coL = 0 then (silent, 0, 0)
  else if (lenVal (getT fs coL)).2 = 0 then (1, (lenVal (getT fs coL)).1, 0) else (0, 0, (lenVal (getT fs coL)).2)
def three (v : Int × Int × Int) : List Int := [v.1, v.2.1, v.2.2]
/-- A step of the look at the numbers. -/
theorem oneNum_bad {i : Nat} {n : Int} {x : Bs} {r : List Bs} (h : (numT x).2 = false ∨ (0 < i ∧ (numT x).1 ≠ n)) : oneNum i n (x :: r) = none := if_pos h
theorem oneNum_next {i : Nat} {n : Int} {x : Bs} {r : List Bs} (h : ¬ ((numT x).2 = false ∨ (0 < i ∧ (numT x).1 ≠ n))) : oneNum i n (x :: r) = oneNum (i + 1) (numT x).1 r := if_neg h
theorem lenVal_none {t : Bs} (h : splitOf t = none) : lenVal t = (0, 32) := by unfold lenVal; rw [h]
theorem lenVal_empty {t : Bs} (h : splitOf t = some []) : lenVal t = (0, 32) := by unfold lenVal; rw [h]; rfl
theorem lenVal_bad {t : Bs} {ls : List Bs} (h : splitOf t = some ls) (hn : oneNum 0 0 ls = none) : lenVal t = (0, 32) := by
  unfold lenVal; rw [h]
  by_cases h0 : ls = []
  · show (if ls = [] then _ else _) = _; rw [if_pos h0]
  · show (if ls = [] then _ else _) = _; rw [if_neg h0, hn]
theorem lenVal_big {t : Bs} {ls : List Bs} {n : Int} (h : splitOf t = some ls) (h0 : ls ≠ []) (hn : oneNum 0 0 ls = some n) (hb : 1048576 < n) : lenVal t = (0, 3) := by
  unfold lenVal; rw [h]
  show (if ls = [] then _ else _) = _; rw [if_neg h0, hn]
  show (if 1048576 < n then _ else _) = _; rw [if_pos hb]
theorem lenVal_ok {t : Bs} {ls : List Bs} {n : Int} (h : splitOf t = some ls) (h0 : ls ≠ []) (hn : oneNum 0 0 ls = some n) (hb : ¬ 1048576 < n) : lenVal t = (n, 0) := by
  unfold lenVal; rw [h]
  show (if ls = [] then _ else _) = _; rw [if_neg h0, hn]
  show (if 1048576 < n then _ else _) = _; rw [if_neg hb]
end Go.Proofs.YtcolnidgembniaaGreatDoor.Fr
/-
  What reading a message comes to, as plain functions on bytes. No program, no condition.
-/
namespace Go.Proofs.YtcolnidgembniaaGreatDoor.Ms
open Go.Proofs.YtcolnidgembniaaGreatDoor.Tk Go.Proofs.YtcolnidgembniaaGreatDoor.Fd
set_option linter.unusedVariables false

/-- Where a body's reading stands at the end: no more bytes come where fin says so. -/
def lastOf (fin : Bool) (st : Fr.St) : Fr.St := if fin then (if Fr.doneOf st || Fr.errOf st != 0 then st else Fr.closed st) else st
/-- The error it comes to: its own, or that it is not whole. -/
def endErr (st : Fr.St) : Nat := if Fr.errOf st ≠ 0 then Fr.errOf st else if Fr.doneOf st then 0 else 11
/-- The body of a kind and a length behind a head: the error, the bytes, how many were taken. -/
def bodyOf (k n : Int) (b : Bs) (fin : Bool) : Nat × Bs × Nat :=
  match Fr.made k n with
  | none => (Fr.madeErr k n, [], 0)
  | some s => (endErr (lastOf fin (Fr.run s b).2.2), (Fr.run s b).1, (Fr.run s b).2.1)
theorem bodyOf_none {k n : Int} (h : Fr.made k n = none) (b : Bs) (fin : Bool) : bodyOf k n b fin = (Fr.madeErr k n, [], 0) := by unfold bodyOf; rw [h]
theorem bodyOf_some {k n : Int} {s : Fr.St} (h : Fr.made k n = some s) (b : Bs) (fin : Bool) : bodyOf k n b fin = (endErr (lastOf fin (Fr.run s b).2.2), (Fr.run s b).1, (Fr.run s b).2.1) := by unfold bodyOf; rw [h]
theorem body_le (k n : Int) (b : Bs) (fin : Bool) : (bodyOf k n b fin).2.2 ≤ b.length := by
  cases h : Fr.made k n with
  | none => rw [bodyOf_none h]; exact Nat.zero_le _
  | some s => rw [bodyOf_some h]; exact Fr.run_le b s
/-- A message: the error, the head's parts and fields, the body, how many bytes both have. -/
structure Msg where
  e : Int
  q : Hd.Parts
  fs : List Fl
  x : Bs
  n : Nat
def failed (e : Int) : Msg := ⟨e, .none, [], [], 0⟩
/-- What reading tells of a whole head's parts and fields (the body's kind, length, error), and of what is behind. -/
def behindHead (T : Int × Int × Int) (q : Hd.Parts) (fs : List Fl) (N : Nat) (b : Bs) (fin : Bool) : Msg :=
  if T.2.2 ≠ 0 then failed T.2.2
  else if (bodyOf T.1 T.2.1 (b.drop N) fin).1 ≠ 0 then failed (bodyOf T.1 T.2.1 (b.drop N) fin).1
  else ⟨0, q, fs, (bodyOf T.1 T.2.1 (b.drop N) fin).2.1, N + (bodyOf T.1 T.2.1 (b.drop N) fin).2.2⟩
def msgOf (resp : Bool) (T : Hd.Parts → List Fl → Int × Int × Int) (b : Bs) (fin : Bool) : Msg :=
  match (Hd.run resp Hd.start b).2 with
  | .bad e => failed e
  | .done q fs => behindHead (T q fs) q fs (Hd.run resp Hd.start b).1 b fin
  | _ => failed 11
end Go.Proofs.YtcolnidgembniaaGreatDoor.Ms
