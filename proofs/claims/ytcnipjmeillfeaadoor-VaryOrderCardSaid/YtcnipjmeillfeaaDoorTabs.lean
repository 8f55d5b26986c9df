/-
  What the rows' lists give of the listed variables, and a world that holds them. No condition.
-/
import Derived.Test.YtcnipjmeillfeaaDoorCards
import Derived.Test.YtcnipjmeillfeaaDoorTie
import Derived.Test.YtcnipjmeillfeaaDoorTokIs
import Derived.LaidLaws
import Derived.Lib.LaidTab
import Derived.Lib.ItoaNum
import Derived.ProofKit
import Derived.OpenShut
import Derived.ShutString
import Derived.Deep.DeepHandedRow
namespace Go.Proofs.YtcnipjmeillfeaaDoor.Tb
open Go.ChangeShapes Go.WideShapes Go.ChangeAt Go.RowKit

theorem own : ownKnob Tryd.prog.godebug = none := by kernel_rfl
theorem laidOut : laidOutB Tryd.prog = true := by kernel_rfl
/-- A list's part behind its head. -/
theorem tail {P : Program} {x : String × DataW Unit} {r : List (String × DataW Unit)} {w : World} (h : laidMet P (x :: r) w) : laidMet P r w := by
  obtain ⟨ps, ⟨g, t, cs, fuel, p, q, hg, ht, hv, hd, hr, rfl⟩, hn, hall⟩ := h
  exact ⟨q, hr, (List.nodup_append.1 hn).2.1, fun b off hb => hall b off (List.mem_append_right _ hb)⟩

theorem gPT : Tryd.prog.globalNamed "internal/strconv.uint64pow10" = some 1 := by kernel_rfl
theorem gPTt : (Tryd.prog.globals[1]?).map (·.type) = some 100 := by kernel_rfl
theorem cU64 : Tryd.prog.cellsOf 87 = 1 := by kernel_rfl
theorem cPT : Tryd.prog.cellsOf 100 = 20 := by kernel_rfl
abbrev P10 (w : World) : Prop := Lib.TabIs Tryd.prog w "internal/strconv.uint64pow10" .u64 Lib.pow10Tab
theorem pow_eq : (Rows.laid_internal_strconv_uint64pow10 : DataW Unit) = Lib.tabData .u64 Lib.pow10Tab := by kernel_rfl
theorem p10_of_head {W : World} {rest : List (String × DataW Unit)} (h : laidMet Tryd.prog (("internal/strconv.uint64pow10", Rows.laid_internal_strconv_uint64pow10) :: rest) W) : P10 W := by
  rw [pow_eq] at h
  exact Lib.tabIs_of_head gPT gPTt Tryd.underlying100 Tryd.underlying87 cU64 cPT h

theorem gTab : Tryd.prog.globalNamed "gatepost/token.tokenByte" = some 0 := by kernel_rfl
theorem gTabType : (Tryd.prog.globals[0]?).map (·.type) = some 67 := by kernel_rfl
theorem cellsBool : Tryd.prog.cellsOf 4 = 1 := by kernel_rfl
/-- The table of token bytes: of each byte whether it may stand in a token. -/
def tabBools : List Bool := (List.range 128).map fun n => Tk.tchar (UInt8.ofNat n)
theorem tab_at (n : Nat) (hn : n < 128) : tabBools[n]? = some (Tk.tchar (UInt8.ofNat n)) := by simp [tabBools, hn]
theorem tab_eq : (Rows.laid_gatepost_token_tokenByte : DataW Unit) = .agg (tabBools.map fun b => .lit (.bool b)) := by kernel_rfl
theorem tok_of_head {W : World} {rest : List (String × DataW Unit)} (h : laidMet Tryd.prog (("gatepost/token.tokenByte", Rows.laid_gatepost_token_tokenByte) :: rest) W) : Tk.Tab W := by
  obtain ⟨ps, ⟨g', t', cs, fuel, p, q, hg', ht', hvar, hd, _, _⟩, _⟩ := h
  obtain rfl := Option.some.inj (gTab.symm.trans hg')
  obtain rfl := Option.some.inj (gTabType.symm.trans ht')
  obtain ⟨xs, m, _, hx, _, hxl, hat⟩ := DataW.trod_array Tryd.underlying67 hd
  intro n hn
  have h1 := hat n hn
  rw [cellsBool, Nat.mul_one, List.getElem?_eq_getElem (by omega)] at h1
  obtain ⟨b, hcs, hxb⟩ := DataW.trod_bool Tryd.underlying4 h1
  have hdat : (DataW.agg (tabBools.map fun b => .lit (.bool b)) : DataW Unit) = .agg (xs.map (·.1)) := tab_eq.symm.trans (congrArg Prod.fst hx)
  have hlist : (tabBools.map fun b => (DataW.lit (.bool b) : DataW Unit)) = xs.map (·.1) := by injection hdat
  have h2 : (tabBools.map fun b => (DataW.lit (.bool b) : DataW Unit))[n]? = some (.lit (.bool b)) := by
    rw [hlist, List.getElem?_map, List.getElem?_eq_getElem (by omega), Option.map_some, hxb]
  rw [List.getElem?_map, tab_at n hn, Option.map_some] at h2
  have hb : Tk.tchar (UInt8.ofNat n) = b := by
    injection h2 with h2; injection h2 with h2; injection h2
  rw [World.var?_cell gTab hvar n, hb]
  have h3 : (cs.toList.drop n).take 1 = [.bool b] := hcs
  have h4 : ((cs.toList.drop n).take 1)[0]? = some (.bool b) := by rw [h3]; rfl
  simpa [List.getElem?_take, List.getElem?_drop] using h4

/-- The settled world, each listed variable's block holding what its initialiser lays. -/
def litCell : DataW Unit → List Value
  | .lit (.int k z) => [Value.int k z]
  | .lit (.bool b) => [Value.bool b]
  | .lit (.string b) => [Value.string ⟨b.toArray⟩]
  | _ => [undef]
def dataCells (d : DataW Unit) : Array Value := match d with
  | .agg ds => (ds.flatMap fun
    | .agg es => es.flatMap litCell
    | x => litCell x).toArray
  | _ => #[]
def lay (g : Nat) (cs : Array Value) (h : Array Obj) : Array Obj := h.modify g fun
  | .cells _ t frozen => .cells cs t frozen
  | o => o
noncomputable def laidWorld (os : Os) : World :=
  { World.holding Tryd.prog os ⟨#[], #[], []⟩ with heap := lay 2 (dataCells Rows.laid_math_bits_deBruijn32tab) (lay 3 (dataCells Rows.laid_math_bits_deBruijn64tab) (lay 1 (dataCells Rows.laid_internal_strconv_uint64pow10) (lay 0 (dataCells Rows.laid_gatepost_token_tokenByte) ((World.holding Tryd.prog os ⟨#[], #[], []⟩).heap)))) }
end Go.Proofs.YtcnipjmeillfeaaDoor.Tb
