/-
  Ages and lifetimes of responses, as plain functions, and what the laws of layer 9 say of them. No program, no condition.
-/
import Derived.Test.YtbignmccpbccoaaDoorApMath
namespace Go.Proofs.YtbignmccpbccoaaDoor.Fh
open Go.Proofs.YtbignmccpbccoaaDoor.Ct
set_option linter.unusedVariables false

def mostA : Int := 2147483648
def mostT : Int := 1099511627776
def cutT (n : Int) : Int := if mostT < n then mostT else n
/-- The time from b to a, where both are told and it is above 0. -/
def lessT (a b : Int) : Int := if a < 0 ∨ b < 0 ∨ cutT a < cutT b then 0 else cutT a - cutT b
def atMost (n m : Int) : Int := if m < n then m else n
def toldT (n : Int) : Int := if 0 < n then cutT n else 0
def ageOf (m : Mta) (now : Int) : Int :=
  atMost ((if toldT m.age + lessT m.got m.ask < lessT m.got m.date then lessT m.got m.date else toldT m.age + lessT m.got m.ask) + lessT now m.got) mostA
def codes : List Int := [200, 203, 204, 206, 300, 301, 308, 404, 405, 410, 414, 501]
def heurOf (c : Int) : Bool := codes.contains c
def fromT (m : Mta) : Int := if m.date < 0 then (if m.got < 0 then 0 else m.got) else m.date
def lifeOf (m : Mta) : Int :=
  if 0 ≤ m.con.sh then atMost m.con.sh mostA
  else if 0 ≤ m.con.ag then atMost m.con.ag mostA
  else if 0 ≤ m.exp then atMost (lessT m.exp (fromT m)) mostA
  else if heurOf m.code = true ∧ 0 ≤ m.mod ∧ 0 ≤ m.date then atMost (lessT m.date m.mod / 10) 86400
  else 0
/-- Fresh 0, soon 1, stale 2, of an age and a lifetime. -/
def stateT (c r : Con) (age life : Int) : Int :=
  if r.nc = true ∨ c.nc = true ∨ (0 ≤ r.ag ∧ r.ag < age) then 2
  else if age < life then (if 0 ≤ r.mf ∧ life - age < r.mf then 2 else 0)
  else if c.mu = true ∨ c.px = true ∨ 0 ≤ c.sh then 2
  else if 0 ≤ r.ms ∧ age - life ≤ r.ms then 0
  else if 0 ≤ c.wh ∧ age - life < c.wh ∧ r.mf ≤ 0 then 1
  else 2
def stateOf (m : Mta) (r : Con) (now : Int) : Int := stateT m.con r (ageOf m now) (lifeOf m)

theorem cutT_bd {n : Int} (h : 0 ≤ n) : 0 ≤ cutT n ∧ cutT n ≤ mostT := by unfold cutT mostT; split <;> omega
theorem lessT_bd (a b : Int) : 0 ≤ lessT a b ∧ lessT a b ≤ mostT := by
  unfold lessT
  split
  · exact ⟨by omega, by decide⟩
  · rename_i h
    have h1 := cutT_bd (n := a) (by omega)
    have h2 := cutT_bd (n := b) (by omega)
    omega
theorem toldT_bd (n : Int) : 0 ≤ toldT n ∧ toldT n ≤ mostT := by
  unfold toldT
  split
  · exact cutT_bd (by omega)
  · exact ⟨by omega, by decide⟩
theorem ageOf_bd (m : Mta) (now : Int) : 0 ≤ ageOf m now ∧ ageOf m now ≤ mostA := by
  have h1 := lessT_bd m.got m.ask
  have h2 := lessT_bd m.got m.date
  have h3 := lessT_bd now m.got
  have h4 := toldT_bd m.age
  have h5 : mostA = 2147483648 := rfl
  unfold ageOf atMost
  split <;> split <;> omega
theorem lifeOf_bd (m : Mta) : 0 ≤ lifeOf m ∧ lifeOf m ≤ mostA := by
  have h1 := lessT_bd m.exp (fromT m)
  have h2 := lessT_bd m.date m.mod
  have h5 : mostA = 2147483648 := rfl
  unfold lifeOf atMost
  repeat' split
  all_goals omega
/-- A small second. -/
theorem cutT_small {n : Int} (h : n ≤ mostT) : cutT n = n := by unfold cutT; rw [if_neg (by omega)]
theorem lessT_small {a b : Int} (ha : 0 ≤ a) (hb : 0 ≤ b) (ha2 : a ≤ mostT) (h : b ≤ a) : lessT a b = a - b := by
  unfold lessT
  rw [cutT_small ha2, cutT_small (by omega), if_neg (by omega)]
theorem lessT_le {a : Int} (b : Int) (ha : 0 ≤ a) (ha2 : a ≤ mostT) : lessT a b ≤ a := by
  unfold lessT
  split
  · exact ha
  · rename_i h
    rw [cutT_small ha2]
    have := cutT_bd (n := b) (by omega)
    omega
/-- A second older each second. -/
theorem age_grows (m : Mta) (hg : 0 ≤ m.got) (hg2 : m.got ≤ 1073741824) (ha : m.age ≤ 536870912) (a b : Int) (a0 : 0 ≤ a) (a1 : a ≤ 1048575) (b0 : 0 ≤ b) (b1 : b ≤ 1048575) : ageOf m (m.got + a + b) = ageOf m (m.got + a) + b := by
  have h1 := lessT_le m.ask hg (by unfold mostT; omega)
  have h2 := lessT_le m.date hg (by unfold mostT; omega)
  have h1b := lessT_bd m.got m.ask
  have h2b := lessT_bd m.got m.date
  have h3 : toldT m.age ≤ 536870912 := by
    unfold toldT
    split
    · rw [cutT_small (by unfold mostT; omega)]; exact ha
    · omega
  have h3b := toldT_bd m.age
  have e1 : lessT (m.got + a + b) m.got = a + b := by rw [lessT_small (by omega) hg (by unfold mostT; omega) (by omega)]; omega
  have e2 : lessT (m.got + a) m.got = a := by rw [lessT_small (by omega) hg (by unfold mostT; omega) (by omega)]; omega
  unfold ageOf atMost mostA
  rw [e1, e2]
  split <;> (rw [if_neg (by omega), if_neg (by omega)]; omega)
/-- What asks for nothing. -/
structure Plain (r : Con) : Prop where
  nc : r.nc = false
  ag : r.ag = -1
  mf : r.mf = -1
  ms : r.ms = -1
theorem state_older {c r : Con} (hr : Plain r) {x y l : Int} (h : x ≤ y) : stateT c r x l ≤ stateT c r y l := by
  obtain ⟨h1, h2, h3, h4⟩ := hr
  unfold stateT
  rw [h1, h2, h3, h4]
  simp only [Bool.false_eq_true, false_or]
  repeat' split
  all_goals first | omega | (simp_all; done) | (simp_all; omega)
theorem state_fresh {c r : Con} (hr : Plain r) (x l : Int) (hn : c.nc = false) : stateT c r x l = 0 ↔ x < l := by
  obtain ⟨h1, h2, h3, h4⟩ := hr
  unfold stateT
  rw [h1, h2, h3, h4, hn]
  simp only [Bool.false_eq_true, false_or]
  repeat' split
  all_goals omega
theorem state_strict {c p r : Con} (hp : Plain p) (hr : r.ms = -1) (x l : Int) : stateT c p x l ≤ stateT c r x l := by
  obtain ⟨h1, h2, h3, h4⟩ := hp
  unfold stateT
  rw [h1, h2, h3, h4, hr]
  simp only [Bool.false_eq_true, false_or]
  repeat' split
  all_goals first | omega | (simp_all; try omega)
theorem state_bd (c r : Con) (x l : Int) : 0 ≤ stateT c r x l ∧ stateT c r x l ≤ 2 := by
  unfold stateT
  repeat' split
  all_goals omega
theorem state_none {c r : Con} (hr : r.nc = true) (x l : Int) : stateT c r x l = 2 := by unfold stateT; rw [if_pos (.inl hr)]
theorem state_zero {c r : Con} (hr : r.ag = 0) (x l : Int) (hx : 0 ≤ x) : stateT c r x l = 2 ∨ x = 0 := by
  by_cases h : x = 0
  · exact .inr h
  · left; unfold stateT; rw [if_pos (.inr (.inr ⟨by omega, by omega⟩))]
theorem state_any {c r : Con} (hr : r.nc = false) (h2 : r.ag = -1) (h3 : r.mf = -1) (h4 : r.ms = mostA) (x l : Int) (hx : x ≤ mostA) (hl : 0 ≤ l) : stateT c r x l = 0 ∨ stateT c r x l = 2 := by
  unfold stateT
  rw [hr, h2, h3, h4]
  have h5 : mostA = 2147483648 := rfl
  repeat' split
  all_goals omega
theorem state_longer {c c' r : Con} (hr : Plain r) (h1 : c'.nc = c.nc) (h2 : c'.mu = c.mu) (h3 : c'.px = c.px) (h4 : c'.sh = c.sh) (h5 : c'.wh = c.wh) {x l l' : Int} (h : l ≤ l') : stateT c' r x l' ≤ stateT c r x l := by
  obtain ⟨g1, g2, g3, g4⟩ := hr
  unfold stateT
  rw [g1, g2, g3, g4, h1, h2, h3, h4, h5]
  simp only [Bool.false_eq_true, false_or]
  repeat' split
  all_goals omega
theorem life_longer (m : Mta) (a b : Int) (a0 : 0 ≤ a) (hab : a ≤ b) : lifeOf { m with con := { m.con with ag := a } } ≤ lifeOf { m with con := { m.con with ag := b } } := by
  unfold lifeOf atMost
  simp only
  repeat' split
  all_goals omega
theorem life_sh (m : Mta) (h0 : 0 ≤ m.con.sh) (h1 : m.con.sh ≤ mostA) : lifeOf m = m.con.sh := by unfold lifeOf atMost; rw [if_pos h0, if_neg (by omega)]
theorem life_ag (m : Mta) (h : m.con.sh = -1) (h0 : 0 ≤ m.con.ag) (h1 : m.con.ag ≤ mostA) : lifeOf m = m.con.ag := by unfold lifeOf atMost; rw [if_neg (by omega), if_pos h0, if_neg (by omega)]
theorem life_exp (m : Mta) (h : m.con.sh = -1) (h2 : m.con.ag = -1) (hd : m.date = 100) (a : Int) (a0 : 0 ≤ a) (a1 : a ≤ 65535) (he : m.exp = 100 + a) : lifeOf m = a := by
  have h5 : mostA = 2147483648 := rfl
  unfold lifeOf fromT
  rw [if_neg (by omega), if_neg (by omega), if_pos (by omega), hd, if_neg (by omega), he, lessT_small (by omega) (by omega) (by unfold mostT; omega) (by omega)]
  unfold atMost
  rw [if_neg (by omega)]
  omega
theorem cutT_mono {a b : Int} (h : a ≤ b) : cutT a ≤ cutT b := by unfold cutT; repeat' split; all_goals omega
theorem toldT_mono {a b : Int} (h : a ≤ b) : toldT a ≤ toldT b := by
  have := cutT_mono h
  have h2 := toldT_bd b
  unfold toldT at *
  repeat' split
  all_goals (first | omega | (rename_i h3 h4; rw [if_neg h4] at h2; omega) | skip)
  all_goals (have := cutT_bd (n := b) (by omega); omega)
theorem age_more (m : Mta) (x y now : Int) (h : x ≤ y) : ageOf { m with age := x } now ≤ ageOf { m with age := y } now := by
  have h1 := toldT_mono h
  unfold ageOf atMost
  simp only
  repeat' split
  all_goals omega
end Go.Proofs.YtbignmccpbccoaaDoor.Fh
