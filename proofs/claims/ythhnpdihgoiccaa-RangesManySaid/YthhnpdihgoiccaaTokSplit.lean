/-
  token.quoteEnd, the closure of token.Split that ends an element, and token.Split: what each returns. Condition: a text of at most 2^32 bytes.
-/
import Derived.Test.YthhnpdihgoiccaaRows
import Derived.Test.YthhnpdihgoiccaaTokTrim
import Derived.Test.YthhnpdihgoiccaaTokSplitMath
import Derived.WalkKit
import Derived.WalkLawsBesides
import Derived.Outline
import Derived.Lib.Hide
namespace Go.Proofs.Ythhnpdihgoiccaa.Tk
open Go.RowKit

/-- Where the quoted text that begins at a place ends; -1: nowhere. -/
def qEnd (l : Bs) (beg : Nat) : Int := match qe (l.drop (beg + 1)) with | none => -1 | some m => (beg : Int) + (m : Int)
theorem qEnd_none {l : Bs} {beg : Nat} (h : qe (l.drop (beg + 1)) = none) : qEnd l beg = -1 := by unfold qEnd; rw [h]
theorem qEnd_some {l : Bs} {beg m : Nat} (h : qe (l.drop (beg + 1)) = some m) : qEnd l beg = (beg : Int) + (m : Int) := by unfold qEnd; rw [h]
theorem qe_at_back (l : Bs) (i : Nat) (hi : i < l.length) (hc : l[i] = 92) : qe (l.drop i) = (qe (l.drop (i + 2))).map (· + 2) := by
  rw [drop_at l i hi, hc, qe_back, List.drop_drop]
theorem qe_at_other (l : Bs) (i : Nat) (hi : i < l.length) (h1 : l[i] ≠ 34) (h2 : l[i] ≠ 92) : qe (l.drop i) = (qe (l.drop (i + 1))).map (· + 1) := by
  rw [drop_at l i hi, qe_other _ h1 h2]
theorem qe_at_end (l : Bs) (i : Nat) (hi : i < l.length) (hc : l[i] = 34) : qe (l.drop i) = some 1 := by
  rw [drop_at l i hi, hc, qe_end]
theorem map_add (o : Option Nat) (a b : Nat) : (o.map (· + a)).map (· + b) = o.map (· + (a + b)) := by
  cases o <;> simp [Nat.add_assoc]
theorem byte_eq {c : UInt8} {n : Nat} (hn : n < 256) (h : c = UInt8.ofNat n) : ((c.toNat : Int) == (n : Int)) = true := by
  rw [h]; simp [Nat.mod_eq_of_lt hn]
theorem byte_ne {c : UInt8} {n : Nat} (hn : n < 256) (h : c ≠ UInt8.ofNat n) : ((c.toNat : Int) == (n : Int)) = false := by
  rw [beq_eq_false_iff_ne]; intro e; apply h; apply UInt8.toNat.inj; simp [Nat.mod_eq_of_lt hn]; omega
theorem is44 {c : UInt8} (h : c = 44) : ((c.toNat : Int) == 44) = true := byte_eq (n := 44) (by omega) h
theorem no44 {c : UInt8} (h : c ≠ 44) : ((c.toNat : Int) == 44) = false := byte_ne (n := 44) (by omega) h
theorem is34 {c : UInt8} (h : c = 34) : ((c.toNat : Int) == 34) = true := byte_eq (n := 34) (by omega) h
theorem no34 {c : UInt8} (h : c ≠ 34) : ((c.toNat : Int) == 34) = false := byte_ne (n := 34) (by omega) h
theorem is92 {c : UInt8} (h : c = 92) : ((c.toNat : Int) == 92) = true := byte_eq (n := 92) (by omega) h
theorem no92 {c : UInt8} (h : c ≠ 92) : ((c.toNat : Int) == 92) = false := byte_ne (n := 92) (by omega) h

set_option maxHeartbeats 1000000 in
theorem quoteEnd_any (b off n cap beg : Nat) (l : Bs) (w : World) (hn : l.length = n) (hl : n ≤ 4294967296) (hb : beg < n) (hc : Holds w b off l) :
    Calls Try.prog 24 #[.slice (some ⟨b, off, none⟩) n cap, .int .i64 (beg : Int)] w fun e w' => e = .returned (.int .i64 (qEnd l beg)) ∧ w = w' := by
  subst hn
  have HC := Lib.hid hc
  clear hc
  go_enter Try.func24, Try.ntmps24
  go_wp2_with fail
  go_loop [5] (fun v => ∃ i : Nat, beg + 1 ≤ i ∧ i ≤ l.length + 1 ∧ v = .int .i64 (i : Int) ∧ qe (l.drop (beg + 1)) = (qe (l.drop i)).map (· + (i - (beg + 1)))) (fun v => l.length + 2 - (intOf v).toNat)
  case atStart => exact ⟨beg + 1, Nat.le_refl _, by omega, by go_num, by simp⟩
  case round =>
    obtain ⟨i, hi1, hi2, rfl, hrel⟩ := hrel
    have HR := Lib.hid hrel
    clear hrel
    by_cases hlt : i < l.length
    · have hcell := HC.out i hlt
      by_cases h92 : l[i] = 92
      · have t1 := is92 h92
        have HR2 := Lib.hid (show qe (l.drop (beg + 1)) = (qe (l.drop (i + 2))).map (· + (i + 2 - (beg + 1))) from by
          rw [HR.out, qe_at_back l i hlt h92, map_add]; congr 2; funext x; omega)
        clear h92
        go_wp2_with fail
        go_round
        case rel => exact ⟨i + 2, by omega, by omega, by go_num, HR2.out⟩
        case measure => simp [intOf]; omega
      · have t1 := no92 h92
        by_cases h34 : l[i] = 34
        · have t2 := is34 h34
          have HV := Lib.hid (show qEnd l beg = (i : Int) from by
            rw [qEnd_some (m := i - beg) (by rw [HR.out, qe_at_end l i hlt h34]; simp; omega)]; omega)
          clear h92 h34
          go_wp2_with fail
          go_ret
          exact ⟨by rw [HV.out]; rfl, rfl⟩
        · have t2 := no34 h34
          have HR2 := Lib.hid (show qe (l.drop (beg + 1)) = (qe (l.drop (i + 1))).map (· + (i + 1 - (beg + 1))) from by
            rw [HR.out, qe_at_other l i hlt h34 h92, map_add]; congr 2; funext x; omega)
          clear h92 h34
          go_wp2_with fail
          go_round
          case rel => exact ⟨i + 1, by omega, by omega, by go_num, HR2.out⟩
          case measure => simp [intOf]; omega
    · have HV := Lib.hid (show qEnd l beg = -1 from by
        apply qEnd_none
        rw [HR.out, List.drop_eq_nil_of_le (by omega)]; rfl)
      go_wp2_with fail
      go_ret
      exact ⟨by rw [HV.out]; rfl, rfl⟩

/-- A text as the model has it. -/
def S (x : Bs) : Value := .string ⟨x.toArray⟩
/-- What the variables of token.Split hold: the text, the list so far, where the element begins. B: the block of the text's bytes. -/
structure Inv (w0 : World) (B : Nat) (l : Bs) (cap fr : Nat) (ls : List Bs) (C : Array Value) (w : World) : Prop where
  base : B = w0.heap.size
  text : w.heap[B]? = some (.cells C 5 (C.size, C.size + 1))
  bytes : ∀ j (hj : j < l.length), C[j]? = some (.int .u8 (l[j].toNat : Int))
  room : l.length ≤ cap
  vText : w.heap[B + 1]? = some (.cells #[.slice (some ⟨B, 0, none⟩) l.length cap] 55 (0, 0))
  vFrom : w.heap[B + 3]? = some (.cells #[.int .i64 (fr : Int)] 3 (0, 0))
  list : ∃ v, w.heap[B + 2]? = some (.cells #[v] 42 (0, 0)) ∧ w.ownsRow (B + 4) 9 1 v ls.length (ls.map S)
  few : ls.length ≤ fr
  below : Below B w0 w
theorem Inv.holds {w0 w : World} {B cap fr : Nat} {l : Bs} {ls : List Bs} {C : Array Value} (h : Inv w0 B l cap fr ls C w) : Holds w B 0 l := by
  intro j hj
  rw [Nat.zero_add]
  have : w.cell? ⟨B, j, none⟩ = C[j]? := by simp [World.cell?, h.text]
  rw [this, h.bytes j hj]
end Go.Proofs.Ythhnpdihgoiccaa.Tk
