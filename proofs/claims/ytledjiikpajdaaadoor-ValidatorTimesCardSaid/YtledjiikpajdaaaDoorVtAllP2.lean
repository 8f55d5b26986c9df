/-
  Texts that the laws' proofs stand on, 3 of them in one file; each one's head says what it proves and under which condition.
-/
import Derived.Test.YtledjiikpajdaaaDoorVtAllP1
import Derived.LaidLaws
import Derived.ProofKit
import Derived.OpenShut
import Derived.ShutString
import Derived.Test.YtledjiikpajdaaaDoorCards
import Derived.Test.YtledjiikpajdaaaDoorTie
import Derived.Lib.LaidTab
import Derived.Lib.ItoaNum
import Derived.Deep.DeepHandedRow
/-
  What date.Parse reads of the tables; the names' callees. Condition: the tables hold what the program's text lays.
-/
namespace Go.Proofs.YtledjiikpajdaaaDoor.Dp
open Go.RowKit Go.Proofs.YtledjiikpajdaaaDoor.Dt
set_option linter.unusedVariables false

/-- An array of texts that a list's head names. -/
theorem texts_of_head {P : Program} {W : World} {name : String} {ls : List (List UInt8)} {rest : List (String × DataW Unit)} {g : Nat} {t e : TypeId} {n : Nat}
    (hg : P.globalNamed name = some g) (hty : (P.globals[g]?).map (·.type) = some t) (ht : P.underlying t = some (.array n e)) (he : P.underlying e = some .string) (hce : P.cellsOf e = 1)
    (h : laidMet P ((name, .agg (ls.map fun b => .lit (.string b))) :: rest) W) : ∀ k, k < n → W.cell? ⟨g, k, none⟩ = some (.string ⟨(ls.getD k []).toArray⟩) := by
  obtain ⟨ps, ⟨g', t', cs, fuel, p, q, hg', ht', hvar, hd, _, _⟩, _⟩ := h
  obtain rfl := Option.some.inj (hg.symm.trans hg')
  obtain rfl := Option.some.inj (hty.symm.trans ht')
  obtain ⟨xs, m, _, hx, _, hxl, hat⟩ := DataW.trod_array ht hd
  intro k hk
  have h1 := hat k hk
  rw [hce, Nat.mul_one, List.getElem?_eq_getElem (by omega)] at h1
  obtain ⟨s, hcs, hxs, _⟩ := DataW.trod_string he h1
  have hdat : (DataW.agg (ls.map fun b => .lit (.string b)) : DataW Unit) = .agg (xs.map (·.1)) := congrArg Prod.fst hx
  have hlist : (ls.map fun b => (DataW.lit (.string b) : DataW Unit)) = xs.map (·.1) := by injection hdat
  have hlen : ls.length = n := by have := congrArg List.length hlist; simp at this; omega
  have h2 : (ls.map fun b => (DataW.lit (.string b) : DataW Unit))[k]? = some (.lit (.string s.data.toList)) := by
    rw [hlist, List.getElem?_map, List.getElem?_eq_getElem (by omega), Option.map_some, hxs]
  rw [List.getElem?_map, List.getElem?_eq_getElem (by omega), Option.map_some] at h2
  have hb : ls[k]'(by omega) = s.data.toList := by
    injection h2 with h2; injection h2 with h2; injection h2
  rw [World.var?_cell hg hvar k, show ls.getD k [] = s.data.toList from by rw [List.getD, List.getElem?_eq_getElem (by omega)]; exact hb]
  have h3 : (cs.toList.drop k).take 1 = [.string s] := hcs
  have h4 : ((cs.toList.drop k).take 1)[0]? = some (.string s) := by rw [h3]; rfl
  simpa [List.getElem?_take, List.getElem?_drop] using h4
def longNames : List (List UInt8) := [[77, 111, 110, 100, 97, 121], [84, 117, 101, 115, 100, 97, 121], [87, 101, 100, 110, 101, 115, 100, 97, 121], [84, 104, 117, 114, 115, 100, 97, 121], [70, 114, 105, 100, 97, 121], [83, 97, 116, 117, 114, 100, 97, 121], [83, 117, 110, 100, 97, 121]]
def monNames : List (List UInt8) := [[74, 97, 110], [70, 101, 98], [77, 97, 114], [65, 112, 114], [77, 97, 121], [74, 117, 110], [74, 117, 108], [65, 117, 103], [83, 101, 112], [79, 99, 116], [78, 111, 118], [68, 101, 99]]
def formTexts : List (List UInt8) := [[37, 97, 44, 32, 37, 100, 32, 37, 98, 32, 37, 89, 32, 37, 104, 58, 37, 109, 58, 37, 115, 32, 71, 77, 84], [37, 65, 44, 32, 37, 100, 45, 37, 98, 45, 37, 121, 32, 37, 104, 58, 37, 109, 58, 37, 115, 32, 71, 77, 84], [37, 97, 32, 37, 98, 32, 37, 101, 32, 37, 104, 58, 37, 109, 58, 37, 115, 32, 37, 89]]
/-- The long names of the days; the months' names; the forms, as their initialisers lay them. -/
def WD (w : World) : Prop := ∀ k : Nat, k < 7 → w.cell? ⟨1, k, none⟩ = some (.string ⟨(longNames.getD k []).toArray⟩)
def MN (w : World) : Prop := ∀ k : Nat, k < 12 → w.cell? ⟨2, k, none⟩ = some (.string ⟨(monNames.getD k []).toArray⟩)
def FM (w : World) : Prop := ∀ k : Nat, k < 3 → w.cell? ⟨0, k, none⟩ = some (.string ⟨(formTexts.getD k []).toArray⟩)
/-- What the calls read. -/
structure Env (w : World) : Prop where
  md : MD w
  wd : WD w
  mn : MN w
abbrev Bs := List UInt8
def short (k : Nat) : Bs := (longNames.getD k []).take 3
theorem weekday_any (d : Int) (w : World) (h0 : 0 ≤ d) (h1 : d ≤ 3000000) :
    Calls Tryd.prog 57 #[.int .i64 d] w fun e w' => e = .returned (.int .i64 ((d + 3) % 7)) ∧ w = w' := by
  go_enter Tryd.func57, Tryd.ntmps57
  go_wp2_with fail
  go_ret
  exact ⟨rfl, rfl⟩
theorem monthName_any (k : Nat) (w : World) (hk : k < 12) (hM : MN w) :
    Calls Tryd.prog 58 #[.int .i64 (k : Int)] w fun e w' => e = .returned (.string ⟨(monNames.getD k []).toArray⟩) ∧ w = w' := by
  have hc := hM k hk
  clear hM
  go_enter Tryd.func58, Tryd.ntmps58
  go_wp2_with fail
  go_ret
  exact ⟨rfl, rfl⟩
theorem longWeekday_any (k : Nat) (w : World) (hk : k < 7) (hM : WD w) :
    Calls Tryd.prog 82 #[.int .i64 (k : Int)] w fun e w' => e = .returned (.string ⟨(longNames.getD k []).toArray⟩) ∧ w = w' := by
  have hc := hM k hk
  clear hM
  go_enter Tryd.func82, Tryd.ntmps82
  go_wp2_with fail
  go_ret
  exact ⟨rfl, rfl⟩
theorem shortWeekday_any (k : Nat) (w : World) (hk : k < 7) (hM : WD w) :
    Calls Tryd.prog 56 #[.int .i64 (k : Int)] w fun e w' => e = .returned (.string ⟨(short k).toArray⟩) ∧ w = w' := by
  have hc := hM k hk
  clear hM
  match k, hk, hc with
  | 0, _, hc | 1, _, hc | 2, _, hc | 3, _, hc | 4, _, hc | 5, _, hc | 6, _, hc =>
    simp only [longNames, List.getD_cons_zero, List.getD_cons_succ] at hc
    go_enter Tryd.func56, Tryd.ntmps56
    go_wp2_with fail
    go_ret
    exact ⟨rfl, rfl⟩
/-- A text of these bytes. -/
def B (l : Bs) : ByteArray := ⟨l.toArray⟩
theorem B_size (l : Bs) : (B l).size = l.length := by unfold B; simp [ByteArray.size]
theorem B_append (a b : Bs) : B a ++ B b = B (a ++ b) := by unfold B; apply ByteArray.ext; simp
theorem B_list (l : Bs) : (B l).data.toList = l := by unfold B; simp
theorem B_of (s : ByteArray) : B s.data.toList = s := by unfold B; apply ByteArray.ext; simp
theorem WD.lt {w : World} (h : WD w) : 1 < w.heap.size := World.block_lt_of_cell? w _ (h 0 (by omega))
theorem MN.lt {w : World} (h : MN w) : 2 < w.heap.size := World.block_lt_of_cell? w _ (h 0 (by omega))
theorem FM.lt {w : World} (h : FM w) : 0 < w.heap.size := World.block_lt_of_cell? w _ (h 0 (by omega))
/-- What was there when the calls began stays. -/
theorem FM.below {C : Nat} {w w' : World} (h : FM w) (hb : Below C w w') (hC : w.heap.size ≤ C) : FM w' := fun n hn => (hb.cell (p := ⟨0, n, none⟩) (Nat.lt_of_lt_of_le h.lt hC)).trans (h n hn)
theorem Env.below {C : Nat} {w w' : World} (h : Env w) (hb : Below C w w') (hC : w.heap.size ≤ C) : Env w' where
  md := h.md.below hb (Nat.lt_of_lt_of_le h.md.lt hC)
  wd := fun n hn => (hb.cell (p := ⟨1, n, none⟩) (Nat.lt_of_lt_of_le h.wd.lt hC)).trans (h.wd n hn)
  mn := fun n hn => (hb.cell (p := ⟨2, n, none⟩) (Nat.lt_of_lt_of_le h.mn.lt hC)).trans (h.mn n hn)
/-- One call behind another. -/
theorem below_then {a b c : World} (h : Below a.heap.size a b) (k : Below b.heap.size b c) : Below a.heap.size a c := h.trans (k.mono h.size)
theorem short_length (k : Nat) (hk : k < 7) : (short k).length = 3 := by
  match k, hk with
  | 0, _ | 1, _ | 2, _ | 3, _ | 4, _ | 5, _ | 6, _ => rfl
theorem mon_length (k : Nat) (hk : k < 12) : (monNames.getD k []).length = 3 := by
  match k, hk with
  | 0, _ | 1, _ | 2, _ | 3, _ | 4, _ | 5, _ | 6, _ | 7, _ | 8, _ | 9, _ | 10, _ | 11, _ => rfl
theorem B_extract (l : Bs) (a b : Nat) : (B l).extract a b = B ((l.drop a).take (b - a)) := by
  unfold B; apply ByteArray.ext; simp [ByteArray.data_extract, List.take_drop]
/-- A part of a text that lies between others. -/
theorem part_mid (x m z : Bs) (i n : Nat) (h1 : x.length = i) (h2 : m.length = n) : ((x ++ m ++ z).drop i).take n = m := by
  subst h1 h2
  rw [List.append_assoc, List.drop_left, List.take_left]
theorem B_inj {a b : Bs} (h : B a = B b) : a = b := by
  have := congrArg (fun s : ByteArray => s.data.toList) h
  simpa [B_list] using this
end Go.Proofs.YtledjiikpajdaaaDoor.Dp
/-
  What the rows' lists give of the listed variables, and a world that holds them. No condition.
-/
namespace Go.Proofs.YtledjiikpajdaaaDoor.Tb
open Go.ChangeShapes Go.WideShapes Go.ChangeAt Go.RowKit

theorem own : ownKnob Tryd.prog.godebug = none := by kernel_rfl
theorem laidOut : laidOutB Tryd.prog = true := by kernel_rfl
/-- A list's part behind its head. -/
theorem tail {P : Program} {x : String × DataW Unit} {r : List (String × DataW Unit)} {w : World} (h : laidMet P (x :: r) w) : laidMet P r w := by
  obtain ⟨ps, ⟨g, t, cs, fuel, p, q, hg, ht, hv, hd, hr, rfl⟩, hn, hall⟩ := h
  exact ⟨q, hr, (List.nodup_append.1 hn).2.1, fun b off hb => hall b off (List.mem_append_right _ hb)⟩

theorem gPT : Tryd.prog.globalNamed "internal/strconv.uint64pow10" = some 4 := by kernel_rfl
theorem gPTt : (Tryd.prog.globals[4]?).map (·.type) = some 114 := by kernel_rfl
theorem cU64 : Tryd.prog.cellsOf 108 = 1 := by kernel_rfl
theorem cPT : Tryd.prog.cellsOf 114 = 20 := by kernel_rfl
abbrev P10 (w : World) : Prop := Lib.TabIs Tryd.prog w "internal/strconv.uint64pow10" .u64 Lib.pow10Tab
theorem pow_eq : (Rows.laid_internal_strconv_uint64pow10 : DataW Unit) = Lib.tabData .u64 Lib.pow10Tab := by kernel_rfl
theorem p10_of_head {W : World} {rest : List (String × DataW Unit)} (h : laidMet Tryd.prog (("internal/strconv.uint64pow10", Rows.laid_internal_strconv_uint64pow10) :: rest) W) : P10 W := by
  rw [pow_eq] at h
  exact Lib.tabIs_of_head gPT gPTt Tryd.underlying114 Tryd.underlying108 cU64 cPT h

theorem gWD : Tryd.prog.globalNamed "gatepost/date.weekdays" = some 1 := by kernel_rfl
theorem gWDt : (Tryd.prog.globals[1]?).map (·.type) = some 95 := by kernel_rfl
theorem cWD : Tryd.prog.cellsOf 9 = 1 := by kernel_rfl
theorem wd_of_head {W : World} {rest : List (String × DataW Unit)} (h : laidMet Tryd.prog (("gatepost/date.weekdays", Rows.laid_gatepost_date_weekdays) :: rest) W) : Dp.WD W :=
  Dp.texts_of_head (ls := Dp.longNames) gWD gWDt Tryd.underlying95 Tryd.underlying9 cWD h

theorem gMN : Tryd.prog.globalNamed "gatepost/date.months" = some 2 := by kernel_rfl
theorem gMNt : (Tryd.prog.globals[2]?).map (·.type) = some 96 := by kernel_rfl
theorem cMN : Tryd.prog.cellsOf 9 = 1 := by kernel_rfl
theorem mn_of_head {W : World} {rest : List (String × DataW Unit)} (h : laidMet Tryd.prog (("gatepost/date.months", Rows.laid_gatepost_date_months) :: rest) W) : Dp.MN W :=
  Dp.texts_of_head (ls := Dp.monNames) gMN gMNt Tryd.underlying96 Tryd.underlying9 cMN h

theorem gMD : Tryd.prog.globalNamed "gatepost/date.monthDays" = some 3 := by kernel_rfl
theorem gMDt : (Tryd.prog.globals[3]?).map (·.type) = some 106 := by kernel_rfl
theorem cMDi : Tryd.prog.cellsOf 3 = 1 := by kernel_rfl
theorem cMD : Tryd.prog.cellsOf 106 = 12 := by kernel_rfl
theorem md_of_head {W : World} {rest : List (String × DataW Unit)} (h : laidMet Tryd.prog (("gatepost/date.monthDays", Rows.laid_gatepost_date_monthDays) :: rest) W) : Dp.MD W := by
  have h1 : laidMet Tryd.prog (("gatepost/date.monthDays", Lib.tabData .i64 Dt.mtab) :: rest) W := h
  have h2 := Lib.tabIs_of_head gMD gMDt Tryd.underlying106 Tryd.underlying3 cMDi cMD h1
  intro k hk
  exact h2.cell gMD k hk

theorem gFM : Tryd.prog.globalNamed "gatepost/date.forms" = some 0 := by kernel_rfl
theorem gFMt : (Tryd.prog.globals[0]?).map (·.type) = some 82 := by kernel_rfl
theorem cFM : Tryd.prog.cellsOf 9 = 1 := by kernel_rfl
theorem fm_of_head {W : World} {rest : List (String × DataW Unit)} (h : laidMet Tryd.prog (("gatepost/date.forms", Rows.laid_gatepost_date_forms) :: rest) W) : Dp.FM W :=
  Dp.texts_of_head (ls := Dp.formTexts) gFM gFMt Tryd.underlying82 Tryd.underlying9 cFM h

/-- The settled world, each listed variable's block holding what its initialiser lays. -/
def litCell : DataW Unit → List Value
  | .lit (.int k z) => [Value.int k z]
  | .lit (.bool b) => [Value.bool b]
  | .lit (.string b) => [Value.string ⟨b.toArray⟩]
  | _ => [undef]
def dataCells (d : DataW Unit) : Array Value := match d with
  | .agg ds => (ds.flatMap fun
    | .agg es => es.flatMap litCell
    | x => litCell x).toArray
  | _ => #[]
def lay (g : Nat) (cs : Array Value) (h : Array Obj) : Array Obj := h.modify g fun
  | .cells _ t frozen => .cells cs t frozen
  | o => o
noncomputable def laidWorld (os : Os) : World :=
  { World.holding Tryd.prog os ⟨#[], #[], []⟩ with heap := lay 5 (dataCells Rows.laid_math_bits_deBruijn32tab) (lay 6 (dataCells Rows.laid_math_bits_deBruijn64tab) (lay 4 (dataCells Rows.laid_internal_strconv_uint64pow10) (lay 1 (dataCells Rows.laid_gatepost_date_weekdays) (lay 2 (dataCells Rows.laid_gatepost_date_months) (lay 3 (dataCells Rows.laid_gatepost_date_monthDays) (lay 0 (dataCells Rows.laid_gatepost_date_forms) ((World.holding Tryd.prog os ⟨#[], #[], []⟩).heap))))))) }
end Go.Proofs.YtledjiikpajdaaaDoor.Tb
/-
  Numbers and names at a text's beginning, and how a text of a date's form is read: plain functions on bytes. No program, no condition.
-/
namespace Go.Proofs.YtledjiikpajdaaaDoor.Dp
open Go.RowKit Go.Proofs.YtledjiikpajdaaaDoor.Dt
set_option linter.unusedVariables false

def dgt (c : UInt8) : Bool := 48 ≤ c.toNat && c.toNat ≤ 57
def numv (l : Bs) : Int := l.foldl (fun n c => n * 10 + ((c.toNat : Int) - 48)) 0
/-- The number of k digits that a text begins with, and what is behind it. -/
def cutN (l : Bs) (k : Nat) : Option (Int × Bs) := if l.length < k then none else if (l.take k).all dgt = true then some (numv (l.take k), l.drop k) else none
/-- Which of the names a text begins with, and what is behind it. -/
def pick (s : Bs) : List Bs → Option (Nat × Bs)
  | [] => none
  | n :: r => if Lib.hasPrefix s n = true then some (0, Lib.trimPrefix s n) else (pick s r).map fun x => (x.1 + 1, x.2)
theorem numv_snoc (l : Bs) (c : UInt8) : numv (l ++ [c]) = numv l * 10 + ((c.toNat : Int) - 48) := by simp [numv, List.foldl_append]
theorem dgt_bd {c : UInt8} (h : dgt c = true) : 48 ≤ (c.toNat : Int) ∧ (c.toNat : Int) ≤ 57 := by simp [dgt] at h; omega
theorem dgt_no {c : UInt8} (h : dgt c = false) : (c.toNat : Int) < 48 ∨ (48 ≤ (c.toNat : Int) ∧ 57 < (c.toNat : Int)) := by simp [dgt] at h; omega
theorem numv_bd (l : Bs) (h : l.all dgt = true) (hl : l.length ≤ 4) : 0 ≤ numv l ∧ numv l ≤ 9999 := by
  simp only [List.all_eq_true] at h
  have hb : ∀ c ∈ l, 48 ≤ (c.toNat : Int) ∧ (c.toNat : Int) ≤ 57 := fun c hc => dgt_bd (h c hc)
  match l, hl, hb with
  | [], _, _ => simp [numv]
  | [a], _, hb => have := hb a (by simp); simp [numv]; omega
  | [a, b], _, hb => have := hb a (by simp); have := hb b (by simp); simp [numv]; omega
  | [a, b, c], _, hb => have := hb a (by simp); have := hb b (by simp); have := hb c (by simp); simp [numv]; omega
  | [a, b, c, d], _, hb => have := hb a (by simp); have := hb b (by simp); have := hb c (by simp); have := hb d (by simp); simp [numv]; omega
  | a :: b :: c :: d :: e :: r, hl, _ => simp at hl
theorem take_snoc (s : ByteArray) (k : Nat) (h : k < s.size) : s.data.toList.take (k + 1) = s.data.toList.take k ++ [s[k]] := by
  rw [List.take_succ_eq_append_getElem (by simpa using h)]; rfl
theorem all_snoc (s : ByteArray) (k : Nat) (h : k < s.size) : (s.data.toList.take (k + 1)).all dgt = ((s.data.toList.take k).all dgt && dgt s[k]) := by
  rw [take_snoc s k h, List.all_append]; simp
theorem cutN_short {l : Bs} {k : Nat} (h : l.length < k) : cutN l k = none := by unfold cutN; rw [if_pos h]
theorem cutN_bad {s : ByteArray} {k j : Nat} (hk : k ≤ s.size) (hj : j < k) (hd : dgt (s[j]'(by omega)) = false) : cutN s.data.toList k = none := by
  unfold cutN
  rw [if_neg (by simp; exact hk), if_neg]
  intro h
  rw [List.all_eq_true] at h
  have hm : s[j]'(by omega) ∈ s.data.toList.take k := by
    rw [List.mem_take_iff_getElem]
    exact ⟨j, by rw [Array.length_toList]; have : s.data.size = s.size := rfl; omega, rfl⟩
  rw [h _ hm] at hd
  cases hd
theorem cutN_good {s : ByteArray} {k : Nat} (hk : k ≤ s.size) (h : (s.data.toList.take k).all dgt = true) : cutN s.data.toList k = some (numv (s.data.toList.take k), s.data.toList.drop k) := by
  unfold cutN; rw [if_neg (by simp; exact hk), if_pos h]
/-- Three results of a cut. -/
def cutRes (s : Bs) (r : Option (Int × Bs)) : Value := match r with
  | some (n, t) => .tuple #[.int .i64 n, .string (B t), .bool true]
  | none => .tuple #[.int .i64 0, .string (B s), .bool false]
def nameRes (s : Bs) (r : Option (Nat × Bs)) : Value := cutRes s (r.map fun x => ((x.1 : Int), x.2))
theorem pick_yes {s n : Bs} {r : List Bs} (h : Lib.hasPrefix s n = true) : pick s (n :: r) = some (0, Lib.trimPrefix s n) := by simp [pick, h]
theorem pick_no {s n : Bs} {r : List Bs} (h : Lib.hasPrefix s n = false) : pick s (n :: r) = (pick s r).map fun x => (x.1 + 1, x.2) := by simp [pick, h]
theorem shift_shift {j : Nat} (o : Option (Nat × Bs)) : (o.map fun x => (x.1 + 1, x.2)).map (fun x => (x.1 + j, x.2)) = o.map fun x => (x.1 + (j + 1), x.2) := by
  cases o <;> simp; omega
end Go.Proofs.YtledjiikpajdaaaDoor.Dp
