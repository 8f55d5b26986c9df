/-
  Texts that the laws' proofs stand on, 3 of them in one file; each one's head says what it proves and under which condition.
-/
import Derived.Test.YtjbdgndejbiikaaDoorSgBP3
import Derived.LaidLaws
import Derived.ProofKit
import Derived.OpenShut
import Derived.ShutString
import Derived.WalkKit
/-
  What date.Parse reads of the tables; the names' callees. Condition: the tables hold what the program's text lays.
-/
namespace Go.Proofs.YtjbdgndejbiikaaDoor.Dp
open Go.RowKit Go.Proofs.YtjbdgndejbiikaaDoor.Dt
set_option linter.unusedVariables false

/-- An array of texts that a list's head names. -/
theorem texts_of_head {P : Program} {W : World} {name : String} {ls : List (List UInt8)} {rest : List (String × DataW Unit)} {g : Nat} {t e : TypeId} {n : Nat}
    (hg : P.globalNamed name = some g) (hty : (P.globals[g]?).map (·.type) = some t) (ht : P.underlying t = some (.array n e)) (he : P.underlying e = some .string) (hce : P.cellsOf e = 1)
    (h : laidMet P ((name, .agg (ls.map fun b => .lit (.string b))) :: rest) W) : ∀ k, k < n → W.cell? ⟨g, k, none⟩ = some (.string ⟨(ls.getD k []).toArray⟩) := by
  obtain ⟨ps, ⟨g', t', cs, fuel, p, q, hg', ht', hvar, hd, _, _⟩, _⟩ := h
  obtain rfl := Option.some.inj (hg.symm.trans hg')
  obtain rfl := Option.some.inj (hty.symm.trans ht')
  obtain ⟨xs, m, _, hx, _, hxl, hat⟩ := DataW.trod_array ht hd
  intro k hk
  have h1 := hat k hk
  rw [hce, Nat.mul_one, List.getElem?_eq_getElem (by omega)] at h1
  obtain ⟨s, hcs, hxs, _⟩ := DataW.trod_string he h1
  have hdat : (DataW.agg (ls.map fun b => .lit (.string b)) : DataW Unit) = .agg (xs.map (·.1)) := congrArg Prod.fst hx
  have hlist : (ls.map fun b => (DataW.lit (.string b) : DataW Unit)) = xs.map (·.1) := by injection hdat
  have hlen : ls.length = n := by have := congrArg List.length hlist; simp at this; omega
  have h2 : (ls.map fun b => (DataW.lit (.string b) : DataW Unit))[k]? = some (.lit (.string s.data.toList)) := by
    rw [hlist, List.getElem?_map, List.getElem?_eq_getElem (by omega), Option.map_some, hxs]
  rw [List.getElem?_map, List.getElem?_eq_getElem (by omega), Option.map_some] at h2
  have hb : ls[k]'(by omega) = s.data.toList := by
    injection h2 with h2; injection h2 with h2; injection h2
  rw [World.var?_cell hg hvar k, show ls.getD k [] = s.data.toList from by rw [List.getD, List.getElem?_eq_getElem (by omega)]; exact hb]
  have h3 : (cs.toList.drop k).take 1 = [.string s] := hcs
  have h4 : ((cs.toList.drop k).take 1)[0]? = some (.string s) := by rw [h3]; rfl
  simpa [List.getElem?_take, List.getElem?_drop] using h4
def longNames : List (List UInt8) := [[77, 111, 110, 100, 97, 121], [84, 117, 101, 115, 100, 97, 121], [87, 101, 100, 110, 101, 115, 100, 97, 121], [84, 104, 117, 114, 115, 100, 97, 121], [70, 114, 105, 100, 97, 121], [83, 97, 116, 117, 114, 100, 97, 121], [83, 117, 110, 100, 97, 121]]
def monNames : List (List UInt8) := [[74, 97, 110], [70, 101, 98], [77, 97, 114], [65, 112, 114], [77, 97, 121], [74, 117, 110], [74, 117, 108], [65, 117, 103], [83, 101, 112], [79, 99, 116], [78, 111, 118], [68, 101, 99]]
def formTexts : List (List UInt8) := [[37, 97, 44, 32, 37, 100, 32, 37, 98, 32, 37, 89, 32, 37, 104, 58, 37, 109, 58, 37, 115, 32, 71, 77, 84], [37, 65, 44, 32, 37, 100, 45, 37, 98, 45, 37, 121, 32, 37, 104, 58, 37, 109, 58, 37, 115, 32, 71, 77, 84], [37, 97, 32, 37, 98, 32, 37, 101, 32, 37, 104, 58, 37, 109, 58, 37, 115, 32, 37, 89]]
/-- The long names of the days; the months' names; the forms, as their initialisers lay them. -/
def WD (w : World) : Prop := ∀ k : Nat, k < 7 → w.cell? ⟨3, k, none⟩ = some (.string ⟨(longNames.getD k []).toArray⟩)
def MN (w : World) : Prop := ∀ k : Nat, k < 12 → w.cell? ⟨4, k, none⟩ = some (.string ⟨(monNames.getD k []).toArray⟩)
def FM (w : World) : Prop := ∀ k : Nat, k < 3 → w.cell? ⟨1, k, none⟩ = some (.string ⟨(formTexts.getD k []).toArray⟩)
/-- What the calls read. -/
structure Env (w : World) : Prop where
  md : MD w
  wd : WD w
  mn : MN w
abbrev Bs := List UInt8
def short (k : Nat) : Bs := (longNames.getD k []).take 3
theorem weekday_any (d : Int) (w : World) (h0 : 0 ≤ d) (h1 : d ≤ 3000000) :
    Calls Tryd.prog 65 #[.int .i64 d] w fun e w' => e = .returned (.int .i64 ((d + 3) % 7)) ∧ w = w' := by
  go_enter Tryd.func65, Tryd.ntmps65
  go_wp2_with fail
  go_ret
  exact ⟨rfl, rfl⟩
theorem monthName_any (k : Nat) (w : World) (hk : k < 12) (hM : MN w) :
    Calls Tryd.prog 79 #[.int .i64 (k : Int)] w fun e w' => e = .returned (.string ⟨(monNames.getD k []).toArray⟩) ∧ w = w' := by
  have hc := hM k hk
  clear hM
  go_enter Tryd.func79, Tryd.ntmps79
  go_wp2_with fail
  go_ret
  exact ⟨rfl, rfl⟩
theorem longWeekday_any (k : Nat) (w : World) (hk : k < 7) (hM : WD w) :
    Calls Tryd.prog 78 #[.int .i64 (k : Int)] w fun e w' => e = .returned (.string ⟨(longNames.getD k []).toArray⟩) ∧ w = w' := by
  have hc := hM k hk
  clear hM
  go_enter Tryd.func78, Tryd.ntmps78
  go_wp2_with fail
  go_ret
  exact ⟨rfl, rfl⟩
theorem shortWeekday_any (k : Nat) (w : World) (hk : k < 7) (hM : WD w) :
    Calls Tryd.prog 77 #[.int .i64 (k : Int)] w fun e w' => e = .returned (.string ⟨(short k).toArray⟩) ∧ w = w' := by
  have hc := hM k hk
  clear hM
  match k, hk, hc with
  | 0, _, hc | 1, _, hc | 2, _, hc | 3, _, hc | 4, _, hc | 5, _, hc | 6, _, hc =>
    simp only [longNames, List.getD_cons_zero, List.getD_cons_succ] at hc
    go_enter Tryd.func77, Tryd.ntmps77
    go_wp2_with fail
    go_ret
    exact ⟨rfl, rfl⟩
/-- A text of these bytes. -/
def B (l : Bs) : ByteArray := ⟨l.toArray⟩
theorem B_size (l : Bs) : (B l).size = l.length := by unfold B; simp [ByteArray.size]
theorem B_append (a b : Bs) : B a ++ B b = B (a ++ b) := by unfold B; apply ByteArray.ext; simp
theorem B_list (l : Bs) : (B l).data.toList = l := by unfold B; simp
theorem B_of (s : ByteArray) : B s.data.toList = s := by unfold B; apply ByteArray.ext; simp
theorem WD.lt {w : World} (h : WD w) : 3 < w.heap.size := World.block_lt_of_cell? w _ (h 0 (by omega))
theorem MN.lt {w : World} (h : MN w) : 4 < w.heap.size := World.block_lt_of_cell? w _ (h 0 (by omega))
theorem FM.lt {w : World} (h : FM w) : 1 < w.heap.size := World.block_lt_of_cell? w _ (h 0 (by omega))
/-- What was there when the calls began stays. -/
theorem FM.below {C : Nat} {w w' : World} (h : FM w) (hb : Below C w w') (hC : w.heap.size ≤ C) : FM w' := fun n hn => (hb.cell (p := ⟨1, n, none⟩) (Nat.lt_of_lt_of_le h.lt hC)).trans (h n hn)
theorem Env.below {C : Nat} {w w' : World} (h : Env w) (hb : Below C w w') (hC : w.heap.size ≤ C) : Env w' where
  md := h.md.below hb (Nat.lt_of_lt_of_le h.md.lt hC)
  wd := fun n hn => (hb.cell (p := ⟨3, n, none⟩) (Nat.lt_of_lt_of_le h.wd.lt hC)).trans (h.wd n hn)
  mn := fun n hn => (hb.cell (p := ⟨4, n, none⟩) (Nat.lt_of_lt_of_le h.mn.lt hC)).trans (h.mn n hn)
/-- One call behind another. -/
theorem below_then {a b c : World} (h : Below a.heap.size a b) (k : Below b.heap.size b c) : Below a.heap.size a c := h.trans (k.mono h.size)
theorem short_length (k : Nat) (hk : k < 7) : (short k).length = 3 := by
  match k, hk with
  | 0, _ | 1, _ | 2, _ | 3, _ | 4, _ | 5, _ | 6, _ => rfl
theorem mon_length (k : Nat) (hk : k < 12) : (monNames.getD k []).length = 3 := by
  match k, hk with
  | 0, _ | 1, _ | 2, _ | 3, _ | 4, _ | 5, _ | 6, _ | 7, _ | 8, _ | 9, _ | 10, _ | 11, _ => rfl
theorem B_extract (l : Bs) (a b : Nat) : (B l).extract a b = B ((l.drop a).take (b - a)) := by
  unfold B; apply ByteArray.ext; simp [ByteArray.data_extract, List.take_drop]
/-- A part of a text that lies between others. -/
theorem part_mid (x m z : Bs) (i n : Nat) (h1 : x.length = i) (h2 : m.length = n) : ((x ++ m ++ z).drop i).take n = m := by
  subst h1 h2
  rw [List.append_assoc, List.drop_left, List.take_left]
theorem B_inj {a b : Bs} (h : B a = B b) : a = b := by
  have := congrArg (fun s : ByteArray => s.data.toList) h
  simpa [B_list] using this
end Go.Proofs.YtjbdgndejbiikaaDoor.Dp
/-
  What a Cache-Control says, and what is known of a response, as plain structures. No program, no condition.
-/
namespace Go.Proofs.YtjbdgndejbiikaaDoor.Ct

/-- What is said: seven flags, six numbers (-1: nothing). -/
structure Con where
  (ns nc pr pu mu px oc : Bool)
  (ag sh wh ie mf ms : Int)
def Con.zero : Con := ⟨false, false, false, false, false, false, false, -1, -1, -1, -1, -1, -1⟩
/-- What is known of a response. -/
structure Mta where
  code : Int
  con : Con
  date : Int
  exp : Int
  mod : Int
  age : Int
  ask : Int
  got : Int
  tag : ByteArray
end Go.Proofs.YtjbdgndejbiikaaDoor.Ct
/-
  Ages and lifetimes of responses, as plain functions, and what the laws of layer 9 say of them. No program, no condition.
-/
namespace Go.Proofs.YtjbdgndejbiikaaDoor.Fh
open Go.Proofs.YtjbdgndejbiikaaDoor.Ct
set_option linter.unusedVariables false

def mostA : Int := 2147483648
def mostT : Int := 1099511627776
def cutT (n : Int) : Int := if mostT < n then mostT else n
/-- The time from b to a, where both are told and it is above 0. -/
def lessT (a b : Int) : Int := if a < 0 ∨ b < 0 ∨ cutT a < cutT b then 0 else cutT a - cutT b
def atMost (n m : Int) : Int := if m < n then m else n
def toldT (n : Int) : Int := if 0 < n then cutT n else 0
def ageOf (m : Mta) (now : Int) : Int :=
  atMost ((if toldT m.age + lessT m.got m.ask < lessT m.got m.date then lessT m.got m.date else toldT m.age + lessT m.got m.ask) + lessT now m.got) mostA
def codes : List Int := [200, 203, 204, 206, 300, 301, 308, 404, 405, 410, 414, 501]
def heurOf (c : Int) : Bool := codes.contains c
def fromT (m : Mta) : Int := if m.date < 0 then (if m.got < 0 then 0 else m.got) else m.date
def lifeOf (m : Mta) : Int :=
  if 0 ≤ m.con.sh then atMost m.con.sh mostA
  else if 0 ≤ m.con.ag then atMost m.con.ag mostA
  else if 0 ≤ m.exp then atMost (lessT m.exp (fromT m)) mostA
  else if heurOf m.code = true ∧ 0 ≤ m.mod ∧ 0 ≤ m.date then atMost (lessT m.date m.mod / 10) 86400
  else 0
/-- Fresh 0, soon 1, stale 2, of an age and a lifetime. -/
def stateT (c r : Con) (age life : Int) : Int :=
  if r.nc = true ∨ c.nc = true ∨ (0 ≤ r.ag ∧ r.ag < age) then 2
  else if age < life then (if 0 ≤ r.mf ∧ life - age < r.mf then 2 else 0)
  else if c.mu = true ∨ c.px = true ∨ 0 ≤ c.sh then 2
  else if 0 ≤ r.ms ∧ age - life ≤ r.ms then 0
  else if 0 ≤ c.wh ∧ age - life < c.wh ∧ r.mf ≤ 0 then 1
  else 2
def stateOf (m : Mta) (r : Con) (now : Int) : Int := stateT m.con r (ageOf m now) (lifeOf m)

theorem cutT_bd {n : Int} (h : 0 ≤ n) : 0 ≤ cutT n ∧ cutT n ≤ mostT := by unfold cutT mostT; split <;> omega
theorem lessT_bd (a b : Int) : 0 ≤ lessT a b ∧ lessT a b ≤ mostT := by
  unfold lessT
  split
  · exact ⟨by omega, by decide⟩
  · rename_i h
    have h1 := cutT_bd (n := a) (by omega)
    have h2 := cutT_bd (n := b) (by omega)
    omega
theorem toldT_bd (n : Int) : 0 ≤ toldT n ∧ toldT n ≤ mostT := by
  unfold toldT
  split
  · exact cutT_bd (by omega)
  · exact ⟨by omega, by decide⟩
theorem ageOf_bd (m : Mta) (now : Int) : 0 ≤ ageOf m now ∧ ageOf m now ≤ mostA := by
  have h1 := lessT_bd m.got m.ask
  have h2 := lessT_bd m.got m.date
  have h3 := lessT_bd now m.got
  have h4 := toldT_bd m.age
  have h5 : mostA = 2147483648 := rfl
  unfold ageOf atMost
  split <;> split <;> omega
theorem lifeOf_bd (m : Mta) : 0 ≤ lifeOf m ∧ lifeOf m ≤ mostA := by
  have h1 := lessT_bd m.exp (fromT m)
  have h2 := lessT_bd m.date m.mod
  have h5 : mostA = 2147483648 := rfl
  unfold lifeOf atMost
  repeat' split
  all_goals omega
/-- A small second. -/
theorem cutT_small {n : Int} (h : n ≤ mostT) : cutT n = n := by unfold cutT; rw [if_neg (by omega)]
theorem lessT_small {a b : Int} (ha : 0 ≤ a) (hb : 0 ≤ b) (ha2 : a ≤ mostT) (h : b ≤ a) : lessT a b = a - b := by
  unfold lessT
  rw [cutT_small ha2, cutT_small (by omega), if_neg (by omega)]
theorem lessT_le {a : Int} (b : Int) (ha : 0 ≤ a) (ha2 : a ≤ mostT) : lessT a b ≤ a := by
  unfold lessT
  split
  · exact ha
  · rename_i h
    rw [cutT_small ha2]
    have := cutT_bd (n := b) (by omega)
    omega
/-- A second older each second. -/
theorem age_grows (m : Mta) (hg : 0 ≤ m.got) (hg2 : m.got ≤ 1073741824) (ha : m.age ≤ 536870912) (a b : Int) (a0 : 0 ≤ a) (a1 : a ≤ 1048575) (b0 : 0 ≤ b) (b1 : b ≤ 1048575) : ageOf m (m.got + a + b) = ageOf m (m.got + a) + b := by
  have h1 := lessT_le m.ask hg (by unfold mostT; omega)
  have h2 := lessT_le m.date hg (by unfold mostT; omega)
  have h1b := lessT_bd m.got m.ask
  have h2b := lessT_bd m.got m.date
  have h3 : toldT m.age ≤ 536870912 := by
    unfold toldT
    split
    · rw [cutT_small (by unfold mostT; omega)]; exact ha
    · omega
  have h3b := toldT_bd m.age
  have e1 : lessT (m.got + a + b) m.got = a + b := by rw [lessT_small (by omega) hg (by unfold mostT; omega) (by omega)]; omega
  have e2 : lessT (m.got + a) m.got = a := by rw [lessT_small (by omega) hg (by unfold mostT; omega) (by omega)]; omega
  unfold ageOf atMost mostA
  rw [e1, e2]
  split <;> (rw [if_neg (by omega), if_neg (by omega)]; omega)
/-- What asks for nothing. -/
structure Plain (r : Con) : Prop where
  nc : r.nc = false
  ag : r.ag = -1
  mf : r.mf = -1
  ms : r.ms = -1
theorem state_older {c r : Con} (hr : Plain r) {x y l : Int} (h : x ≤ y) : stateT c r x l ≤ stateT c r y l := by
  obtain ⟨h1, h2, h3, h4⟩ := hr
  unfold stateT
  rw [h1, h2, h3, h4]
  simp only [Bool.false_eq_true, false_or]
  repeat' split
  all_goals first | omega | (simp_all; done) | (simp_all; omega)
theorem state_fresh {c r : Con} (hr : Plain r) (x l : Int) (hn : c.nc = false) : stateT c r x l = 0 ↔ x < l := by
  obtain ⟨h1, h2, h3, h4⟩ := hr
  unfold stateT
  rw [h1, h2, h3, h4, hn]
  simp only [Bool.false_eq_true, false_or]
  repeat' split
  all_goals omega
theorem state_strict {c p r : Con} (hp : Plain p) (hr : r.ms = -1) (x l : Int) : stateT c p x l ≤ stateT c r x l := by
  obtain ⟨h1, h2, h3, h4⟩ := hp
  unfold stateT
  rw [h1, h2, h3, h4, hr]
  simp only [Bool.false_eq_true, false_or]
  repeat' split
  all_goals first | omega | (simp_all; try omega)
theorem state_bd (c r : Con) (x l : Int) : 0 ≤ stateT c r x l ∧ stateT c r x l ≤ 2 := by
  unfold stateT
  repeat' split
  all_goals omega
theorem state_none {c r : Con} (hr : r.nc = true) (x l : Int) : stateT c r x l = 2 := by unfold stateT; rw [if_pos (.inl hr)]
theorem state_zero {c r : Con} (hr : r.ag = 0) (x l : Int) (hx : 0 ≤ x) : stateT c r x l = 2 ∨ x = 0 := by
  by_cases h : x = 0
  · exact .inr h
  · left; unfold stateT; rw [if_pos (.inr (.inr ⟨by omega, by omega⟩))]
theorem state_any {c r : Con} (hr : r.nc = false) (h2 : r.ag = -1) (h3 : r.mf = -1) (h4 : r.ms = mostA) (x l : Int) (hx : x ≤ mostA) (hl : 0 ≤ l) : stateT c r x l = 0 ∨ stateT c r x l = 2 := by
  unfold stateT
  rw [hr, h2, h3, h4]
  have h5 : mostA = 2147483648 := rfl
  repeat' split
  all_goals omega
theorem state_longer {c c' r : Con} (hr : Plain r) (h1 : c'.nc = c.nc) (h2 : c'.mu = c.mu) (h3 : c'.px = c.px) (h4 : c'.sh = c.sh) (h5 : c'.wh = c.wh) {x l l' : Int} (h : l ≤ l') : stateT c' r x l' ≤ stateT c r x l := by
  obtain ⟨g1, g2, g3, g4⟩ := hr
  unfold stateT
  rw [g1, g2, g3, g4, h1, h2, h3, h4, h5]
  simp only [Bool.false_eq_true, false_or]
  repeat' split
  all_goals omega
theorem life_longer (m : Mta) (a b : Int) (a0 : 0 ≤ a) (hab : a ≤ b) : lifeOf { m with con := { m.con with ag := a } } ≤ lifeOf { m with con := { m.con with ag := b } } := by
  unfold lifeOf atMost
  simp only
  repeat' split
  all_goals omega
theorem life_sh (m : Mta) (h0 : 0 ≤ m.con.sh) (h1 : m.con.sh ≤ mostA) : lifeOf m = m.con.sh := by unfold lifeOf atMost; rw [if_pos h0, if_neg (by omega)]
theorem life_ag (m : Mta) (h : m.con.sh = -1) (h0 : 0 ≤ m.con.ag) (h1 : m.con.ag ≤ mostA) : lifeOf m = m.con.ag := by unfold lifeOf atMost; rw [if_neg (by omega), if_pos h0, if_neg (by omega)]
theorem life_exp (m : Mta) (h : m.con.sh = -1) (h2 : m.con.ag = -1) (hd : m.date = 100) (a : Int) (a0 : 0 ≤ a) (a1 : a ≤ 65535) (he : m.exp = 100 + a) : lifeOf m = a := by
  have h5 : mostA = 2147483648 := rfl
  unfold lifeOf fromT
  rw [if_neg (by omega), if_neg (by omega), if_pos (by omega), hd, if_neg (by omega), he, lessT_small (by omega) (by omega) (by unfold mostT; omega) (by omega)]
  unfold atMost
  rw [if_neg (by omega)]
  omega
theorem cutT_mono {a b : Int} (h : a ≤ b) : cutT a ≤ cutT b := by unfold cutT; repeat' split; all_goals omega
theorem toldT_mono {a b : Int} (h : a ≤ b) : toldT a ≤ toldT b := by
  have := cutT_mono h
  have h2 := toldT_bd b
  unfold toldT at *
  repeat' split
  all_goals (first | omega | (rename_i h3 h4; rw [if_neg h4] at h2; omega) | skip)
  all_goals (have := cutT_bd (n := b) (by omega); omega)
theorem age_more (m : Mta) (x y now : Int) (h : x ≤ y) : ageOf { m with age := x } now ≤ ageOf { m with age := y } now := by
  have h1 := toldT_mono h
  unfold ageOf atMost
  simp only
  repeat' split
  all_goals omega
end Go.Proofs.YtjbdgndejbiikaaDoor.Fh
