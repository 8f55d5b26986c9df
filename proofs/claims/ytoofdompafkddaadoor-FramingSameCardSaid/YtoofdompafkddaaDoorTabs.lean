/-
  What the rows' lists give of the listed variables, and a world that holds them. No condition.
-/
import Derived.Test.YtoofdompafkddaaDoorCards
import Derived.Test.YtoofdompafkddaaDoorTie
import Derived.Test.YtoofdompafkddaaDoorTokIs
import Derived.Test.YtoofdompafkddaaDoorFrD64
import Derived.Lib.LaidTab
import Derived.Lib.ItoaNum
import Derived.ProofKit
import Derived.OpenShut
import Derived.ShutString
import Derived.Deep.DeepHandedRow
namespace Go.Proofs.YtoofdompafkddaaDoor.Tb
open Go.ChangeShapes Go.WideShapes Go.ChangeAt Go.RowKit

theorem own : ownKnob Tryd.prog.godebug = none := by kernel_rfl
theorem laidOut : laidOutB Tryd.prog = true := by kernel_rfl
/-- A list's part behind its head. -/
theorem tail {P : Program} {x : String × DataW Unit} {r : List (String × DataW Unit)} {w : World} (h : laidMet P (x :: r) w) : laidMet P r w := by
  obtain ⟨ps, ⟨g, t, cs, fuel, p, q, hg, ht, hv, hd, hr, rfl⟩, hn, hall⟩ := h
  exact ⟨q, hr, (List.nodup_append.1 hn).2.1, fun b off hb => hall b off (List.mem_append_right _ hb)⟩

theorem gD64 : Tryd.prog.globalNamed "math/bits.deBruijn64tab" = some 4 := by kernel_rfl
theorem gD64t : (Tryd.prog.globals[4]?).map (·.type) = some 199 := by kernel_rfl
theorem cU8 : Tryd.prog.cellsOf 5 = 1 := by kernel_rfl
theorem cD64 : Tryd.prog.cellsOf 199 = 64 := by kernel_rfl
def d64List : List Int := [0, 1, 56, 2, 57, 49, 28, 3, 61, 58, 42, 50, 38, 29, 17, 4, 62, 47, 59, 36, 45, 43, 51, 22, 53, 39, 33, 30, 24, 18, 12, 5, 63, 55, 48, 27, 60, 41, 37, 16, 46, 35, 44, 21, 52, 32, 23, 11, 54, 26, 40, 15, 34, 20, 31, 10, 25, 14, 19, 9, 13, 8, 7, 6]
theorem d64_eq : (Rows.laid_math_bits_deBruijn64tab : DataW Unit) = Lib.tabData .u8 d64List := by kernel_rfl
theorem d64_of_head {W : World} {rest : List (String × DataW Unit)} (h : laidMet Tryd.prog (("math/bits.deBruijn64tab", Rows.laid_math_bits_deBruijn64tab) :: rest) W) : Fr.D64 W := by
  rw [d64_eq] at h
  have h2 := Lib.tabIs_of_head gD64 gD64t Tryd.underlying199 Tryd.underlying5 cU8 cD64 h
  exact Lib.TabIs.cell h2 gD64 15 (by decide)

theorem gPT : Tryd.prog.globalNamed "internal/strconv.uint64pow10" = some 2 := by kernel_rfl
theorem gPTt : (Tryd.prog.globals[2]?).map (·.type) = some 178 := by kernel_rfl
theorem cU64 : Tryd.prog.cellsOf 159 = 1 := by kernel_rfl
theorem cPT : Tryd.prog.cellsOf 178 = 20 := by kernel_rfl
abbrev P10 (w : World) : Prop := Lib.TabIs Tryd.prog w "internal/strconv.uint64pow10" .u64 Lib.pow10Tab
theorem pow_eq : (Rows.laid_internal_strconv_uint64pow10 : DataW Unit) = Lib.tabData .u64 Lib.pow10Tab := by kernel_rfl
theorem p10_of_head {W : World} {rest : List (String × DataW Unit)} (h : laidMet Tryd.prog (("internal/strconv.uint64pow10", Rows.laid_internal_strconv_uint64pow10) :: rest) W) : P10 W := by
  rw [pow_eq] at h
  exact Lib.tabIs_of_head gPT gPTt Tryd.underlying178 Tryd.underlying159 cU64 cPT h

theorem gTab : Tryd.prog.globalNamed "gatepost/token.tokenByte" = some 0 := by kernel_rfl
theorem gTabType : (Tryd.prog.globals[0]?).map (·.type) = some 164 := by kernel_rfl
theorem cellsBool : Tryd.prog.cellsOf 4 = 1 := by kernel_rfl
/-- The table of token bytes: of each byte whether it may stand in a token. -/
def tabBools : List Bool := (List.range 128).map fun n => Tk.tchar (UInt8.ofNat n)
theorem tab_at (n : Nat) (hn : n < 128) : tabBools[n]? = some (Tk.tchar (UInt8.ofNat n)) := by simp [tabBools, hn]
theorem tab_eq : (Rows.laid_gatepost_token_tokenByte : DataW Unit) = .agg (tabBools.map fun b => .lit (.bool b)) := by kernel_rfl
theorem tok_of_head {W : World} {rest : List (String × DataW Unit)} (h : laidMet Tryd.prog (("gatepost/token.tokenByte", Rows.laid_gatepost_token_tokenByte) :: rest) W) : Tk.Tab W := by
  obtain ⟨ps, ⟨g', t', cs, fuel, p, q, hg', ht', hvar, hd, _, _⟩, _⟩ := h
  obtain rfl := Option.some.inj (gTab.symm.trans hg')
  obtain rfl := Option.some.inj (gTabType.symm.trans ht')
  obtain ⟨xs, m, _, hx, _, hxl, hat⟩ := DataW.trod_array Tryd.underlying164 hd
  intro n hn
  have h1 := hat n hn
  rw [cellsBool, Nat.mul_one, List.getElem?_eq_getElem (by omega)] at h1
  obtain ⟨b, hcs, hxb⟩ := DataW.trod_bool Tryd.underlying4 h1
  have hdat : (DataW.agg (tabBools.map fun b => .lit (.bool b)) : DataW Unit) = .agg (xs.map (·.1)) := tab_eq.symm.trans (congrArg Prod.fst hx)
  have hlist : (tabBools.map fun b => (DataW.lit (.bool b) : DataW Unit)) = xs.map (·.1) := by injection hdat
  have h2 : (tabBools.map fun b => (DataW.lit (.bool b) : DataW Unit))[n]? = some (.lit (.bool b)) := by
    rw [hlist, List.getElem?_map, List.getElem?_eq_getElem (by omega), Option.map_some, hxb]
  rw [List.getElem?_map, tab_at n hn, Option.map_some] at h2
  have hb : Tk.tchar (UInt8.ofNat n) = b := by
    injection h2 with h2; injection h2 with h2; injection h2
  rw [World.var?_cell gTab hvar n, hb]
  have h3 : (cs.toList.drop n).take 1 = [.bool b] := hcs
  have h4 : ((cs.toList.drop n).take 1)[0]? = some (.bool b) := by rw [h3]; rfl
  simpa [List.getElem?_take, List.getElem?_drop] using h4

/-- The settled world, each listed variable's block holding what its initialiser lays. -/
def litCell : DataW Unit → List Value
  | .lit (.int k z) => [Value.int k z]
  | .lit (.bool b) => [Value.bool b]
  | .lit (.string b) => [Value.string ⟨b.toArray⟩]
  | _ => [undef]
def dataCells (d : DataW Unit) : Array Value := match d with
  | .agg ds => (ds.flatMap fun
    | .agg es => es.flatMap litCell
    | x => litCell x).toArray
  | _ => #[]
def lay (g : Nat) (cs : Array Value) (h : Array Obj) : Array Obj := h.modify g fun
  | .cells _ t frozen => .cells cs t frozen
  | o => o
noncomputable def laidWorld (os : Os) : World :=
  { World.holding Tryd.prog os ⟨#[], #[], []⟩ with heap := let h := lay 3 (dataCells Rows.laid_math_bits_deBruijn32tab) (lay 4 (dataCells Rows.laid_math_bits_deBruijn64tab) (lay 2 (dataCells Rows.laid_internal_strconv_uint64pow10) (lay 0 (dataCells Rows.laid_gatepost_token_tokenByte) (lay 8 (dataCells Rows.laid_unicode_utf8_acceptRanges) (lay 7 (dataCells Rows.laid_unicode_utf8_first) ((World.holding Tryd.prog os ⟨#[], #[], []⟩).heap))))))
    ((lay 5 #[.iface 215 (.pointer (some ⟨h.size + 1, 0, none⟩))] (lay 6 #[.iface 215 (.pointer (some ⟨h.size + 0, 0, none⟩))] (h))).push (.cells #[.string ⟨#[118, 97, 108, 117, 101, 32, 111, 117, 116, 32, 111, 102, 32, 114, 97, 110, 103, 101]⟩] 217 (0, 0))).push (.cells #[.string ⟨#[105, 110, 118, 97, 108, 105, 100, 32, 115, 121, 110, 116, 97, 120]⟩] 217 (0, 0)) }
end Go.Proofs.YtoofdompafkddaaDoor.Tb
