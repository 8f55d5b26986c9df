/-
  What the rows' lists give of the tables that package date and strconv read, a world that holds them, and what a mask leaves of a number. No condition.
-/
import Derived.Test.YtipooddkpbkfhaaDoorCards
import Derived.Test.YtipooddkpbkfhaaDoorTie
import Derived.Test.YtipooddkpbkfhaaDoorCal
import Derived.Lib.LaidTab
import Derived.Lib.ItoaNum
import Derived.ProofKit
import Derived.OpenShut
import Derived.ShutString
import Derived.Deep.DeepHandedRow
namespace Go.Proofs.YtipooddkpbkfhaaDoor.Dt
open Go.ChangeShapes Go.WideShapes Go.ChangeAt Go.RowKit

theorem own : ownKnob Tryd.prog.godebug = none := by kernel_rfl
theorem laidOut : laidOutB Tryd.prog = true := by kernel_rfl

theorem mask (a : Int) (m : Nat) (hm : m < 9223372036854775808) : 0 ≤ bits .and .i64 a (m : Int) ∧ bits .and .i64 a (m : Int) ≤ (m : Int) := by
  have h1 : (BitVec.ofInt 64 a &&& BitVec.ofInt 64 (m : Int)).toNat ≤ m := by
    rw [BitVec.toNat_and, BitVec.ofInt_natCast, BitVec.toNat_ofNat]
    exact Nat.le_trans Nat.and_le_right (Nat.mod_le _ _)
  have h2 : bits .and .i64 a (m : Int) = IntKind.i64.wrap ((BitVec.ofInt 64 a &&& BitVec.ofInt 64 (m : Int)).toNat : Int) := rfl
  rw [h2, IntKind.wrap_i64]
  omega

/-- A list's part behind its head. -/
theorem tail {P : Program} {x : String × DataW Unit} {r : List (String × DataW Unit)} {w : World} (h : laidMet P (x :: r) w) : laidMet P r w := by
  obtain ⟨ps, ⟨g, t, cs, fuel, p, q, hg, ht, hv, hd, hr, rfl⟩, hn, hall⟩ := h
  exact ⟨q, hr, (List.nodup_append.1 hn).2.1, fun b off hb => hall b off (List.mem_append_right _ hb)⟩

/-- An array of texts that a list's head names. -/
theorem texts_of_head {P : Program} {W : World} {name : String} {ls : List (List UInt8)} {rest : List (String × DataW Unit)} {g : Nat} {t e : TypeId} {n : Nat}
    (hg : P.globalNamed name = some g) (hty : (P.globals[g]?).map (·.type) = some t) (ht : P.underlying t = some (.array n e)) (he : P.underlying e = some .string) (hce : P.cellsOf e = 1)
    (h : laidMet P ((name, .agg (ls.map fun b => .lit (.string b))) :: rest) W) : ∀ k, k < n → W.cell? ⟨g, k, none⟩ = some (.string ⟨(ls.getD k []).toArray⟩) := by
  obtain ⟨ps, ⟨g', t', cs, fuel, p, q, hg', ht', hvar, hd, _, _⟩, _⟩ := h
  obtain rfl := Option.some.inj (hg.symm.trans hg')
  obtain rfl := Option.some.inj (hty.symm.trans ht')
  obtain ⟨xs, m, _, hx, _, hxl, hat⟩ := DataW.trod_array ht hd
  intro k hk
  have h1 := hat k hk
  rw [hce, Nat.mul_one, List.getElem?_eq_getElem (by omega)] at h1
  obtain ⟨s, hcs, hxs, _⟩ := DataW.trod_string he h1
  have hdat : (DataW.agg (ls.map fun b => .lit (.string b)) : DataW Unit) = .agg (xs.map (·.1)) := congrArg Prod.fst hx
  have hlist : (ls.map fun b => (DataW.lit (.string b) : DataW Unit)) = xs.map (·.1) := by injection hdat
  have hlen : ls.length = n := by have := congrArg List.length hlist; simp at this; omega
  have h2 : (ls.map fun b => (DataW.lit (.string b) : DataW Unit))[k]? = some (.lit (.string s.data.toList)) := by
    rw [hlist, List.getElem?_map, List.getElem?_eq_getElem (by omega), Option.map_some, hxs]
  rw [List.getElem?_map, List.getElem?_eq_getElem (by omega), Option.map_some] at h2
  have hb : ls[k]'(by omega) = s.data.toList := by
    injection h2 with h2; injection h2 with h2; injection h2
  rw [World.var?_cell hg hvar k, show ls.getD k [] = s.data.toList from by rw [List.getD, List.getElem?_eq_getElem (by omega)]; exact hb]
  have h3 : (cs.toList.drop k).take 1 = [.string s] := hcs
  have h4 : ((cs.toList.drop k).take 1)[0]? = some (.string s) := by rw [h3]; rfl
  simpa [List.getElem?_take, List.getElem?_drop] using h4

def longNames : List (List UInt8) := [[77, 111, 110, 100, 97, 121], [84, 117, 101, 115, 100, 97, 121], [87, 101, 100, 110, 101, 115, 100, 97, 121], [84, 104, 117, 114, 115, 100, 97, 121], [70, 114, 105, 100, 97, 121], [83, 97, 116, 117, 114, 100, 97, 121], [83, 117, 110, 100, 97, 121]]
def monNames : List (List UInt8) := [[74, 97, 110], [70, 101, 98], [77, 97, 114], [65, 112, 114], [77, 97, 121], [74, 117, 110], [74, 117, 108], [65, 117, 103], [83, 101, 112], [79, 99, 116], [78, 111, 118], [68, 101, 99]]
def formTexts : List (List UInt8) := [[37, 97, 44, 32, 37, 100, 32, 37, 98, 32, 37, 89, 32, 37, 104, 58, 37, 109, 58, 37, 115, 32, 71, 77, 84], [37, 65, 44, 32, 37, 100, 45, 37, 98, 45, 37, 121, 32, 37, 104, 58, 37, 109, 58, 37, 115, 32, 71, 77, 84], [37, 97, 32, 37, 98, 32, 37, 101, 32, 37, 104, 58, 37, 109, 58, 37, 115, 32, 37, 89]]
/-- The long names of the days; the months' names; the forms, as their initialisers lay them. -/
def WD (w : World) : Prop := ∀ k : Nat, k < 7 → w.cell? ⟨2, k, none⟩ = some (.string ⟨(longNames.getD k []).toArray⟩)
def MN (w : World) : Prop := ∀ k : Nat, k < 12 → w.cell? ⟨3, k, none⟩ = some (.string ⟨(monNames.getD k []).toArray⟩)
def FM (w : World) : Prop := ∀ k : Nat, k < 3 → w.cell? ⟨0, k, none⟩ = some (.string ⟨(formTexts.getD k []).toArray⟩)
abbrev P10 (w : World) : Prop := Lib.TabIs Tryd.prog w "internal/strconv.uint64pow10" .u64 Lib.pow10Tab

theorem gMD : Tryd.prog.globalNamed "gatepost/date.monthDays" = some 1 := by kernel_rfl
theorem gMDt : (Tryd.prog.globals[1]?).map (·.type) = some 49 := by kernel_rfl
theorem gWD : Tryd.prog.globalNamed "gatepost/date.weekdays" = some 2 := by kernel_rfl
theorem gWDt : (Tryd.prog.globals[2]?).map (·.type) = some 51 := by kernel_rfl
theorem gMN : Tryd.prog.globalNamed "gatepost/date.months" = some 3 := by kernel_rfl
theorem gMNt : (Tryd.prog.globals[3]?).map (·.type) = some 52 := by kernel_rfl
theorem gFM : Tryd.prog.globalNamed "gatepost/date.forms" = some 0 := by kernel_rfl
theorem gFMt : (Tryd.prog.globals[0]?).map (·.type) = some 37 := by kernel_rfl
theorem gPT : Tryd.prog.globalNamed "internal/strconv.uint64pow10" = some 4 := by kernel_rfl
theorem gPTt : (Tryd.prog.globals[4]?).map (·.type) = some 69 := by kernel_rfl
theorem cInt : Tryd.prog.cellsOf 3 = 1 := by kernel_rfl
theorem cU64 : Tryd.prog.cellsOf 63 = 1 := by kernel_rfl
theorem cStr : Tryd.prog.cellsOf 9 = 1 := by kernel_rfl
theorem cMD : Tryd.prog.cellsOf 49 = 12 := by kernel_rfl
theorem cPT : Tryd.prog.cellsOf 69 = 20 := by kernel_rfl

theorem md_of_head {W : World} {rest : List (String × DataW Unit)} (h : laidMet Tryd.prog (("gatepost/date.monthDays", Rows.laid_gatepost_date_monthDays) :: rest) W) : MD W := by
  have h1 : laidMet Tryd.prog (("gatepost/date.monthDays", Lib.tabData .i64 mtab) :: rest) W := h
  have h2 := Lib.tabIs_of_head gMD gMDt Tryd.underlying49 Tryd.underlying3 cInt cMD h1
  intro k hk
  exact h2.cell gMD k hk
theorem wd_of_head {W : World} {rest : List (String × DataW Unit)} (h : laidMet Tryd.prog (("gatepost/date.weekdays", Rows.laid_gatepost_date_weekdays) :: rest) W) : WD W :=
  texts_of_head (ls := longNames) gWD gWDt Tryd.underlying51 Tryd.underlying9 cStr h
theorem mn_of_head {W : World} {rest : List (String × DataW Unit)} (h : laidMet Tryd.prog (("gatepost/date.months", Rows.laid_gatepost_date_months) :: rest) W) : MN W :=
  texts_of_head (ls := monNames) gMN gMNt Tryd.underlying52 Tryd.underlying9 cStr h
theorem fm_of_head {W : World} {rest : List (String × DataW Unit)} (h : laidMet Tryd.prog (("gatepost/date.forms", Rows.laid_gatepost_date_forms) :: rest) W) : FM W :=
  texts_of_head (ls := formTexts) gFM gFMt Tryd.underlying37 Tryd.underlying9 cStr h
theorem pow_eq : (Rows.laid_internal_strconv_uint64pow10 : DataW Unit) = Lib.tabData .u64 Lib.pow10Tab := by kernel_rfl
theorem p10_of_head {W : World} {rest : List (String × DataW Unit)} (h : laidMet Tryd.prog (("internal/strconv.uint64pow10", Rows.laid_internal_strconv_uint64pow10) :: rest) W) : P10 W := by
  rw [pow_eq] at h
  exact Lib.tabIs_of_head gPT gPTt Tryd.underlying69 Tryd.underlying63 cU64 cPT h

/-- The settled world, each table's block holding what its initialiser lays. -/
def tabCells (ls : List (List UInt8)) : Array Value := (ls.map fun b => Value.string ⟨b.toArray⟩).toArray
def u8Cells (d : DataW Unit) : Array Value := match d with
  | .agg ds => (ds.map fun
    | .lit (.int k z) => Value.int k z
    | _ => undef).toArray
  | _ => #[]
def lay (g : Nat) (cs : Array Value) (h : Array Obj) : Array Obj := h.modify g fun
  | .cells _ t frozen => .cells cs t frozen
  | o => o
noncomputable def laidWorld (os : Os) : World :=
  { World.holding Tryd.prog os ⟨#[], #[], []⟩ with heap := lay 1 (u8Cells Rows.laid_gatepost_date_monthDays) (lay 2 (tabCells longNames) (lay 3 (tabCells monNames) (lay 0 (tabCells formTexts)
      (lay 4 (u8Cells Rows.laid_internal_strconv_uint64pow10) (lay 5 (u8Cells Rows.laid_math_bits_deBruijn32tab) (lay 6 (u8Cells Rows.laid_math_bits_deBruijn64tab) (World.holding Tryd.prog os ⟨#[], #[], []⟩).heap)))))) }

/-- What the calls read. -/
structure Env (w : World) : Prop where
  md : MD w
  wd : WD w
  mn : MN w
  p10 : P10 w

theorem tabLeaps {W : World} (h : laidMet Tryd.prog Rows.dateLeapsRow.laid W) : MD W := md_of_head h
theorem tabWeeks {W : World} (h : laidMet Tryd.prog Rows.dateWeeksRow.laid W) : Env W := by
  have h3 := tail (tail h)
  have h4 := tail h3
  have h5 := tail h4
  have h6 := tail h5
  exact ⟨md_of_head h6, wd_of_head h4, mn_of_head h5, p10_of_head h3⟩
theorem tabAll {W : World} (h : laidMet Tryd.prog Rows.dateBackRow.laid W) : Env W ∧ FM W := by
  have h3 := tail (tail h)
  have h4 := tail h3
  have h5 := tail h4
  have h6 := tail h5
  exact ⟨⟨md_of_head h6, wd_of_head h4, mn_of_head h5, p10_of_head h3⟩, fm_of_head (tail h6)⟩
end Go.Proofs.YtipooddkpbkfhaaDoor.Dt
