/-
  Texts that the laws' proofs stand on, 3 of them in one file; each one's head says what it proves and under which condition.
-/
import Derived.Test.YtledjiikpajdaaaDoorRows
import Derived.Test.YtledjiikpajdaaaDoorVtAllP8
import Derived.WalkKit
import Derived.WalkLawsBesides
import Derived.Outline
import Derived.Lib.Hide
import Derived.Deep.QuietTactic
import Derived.BigQuiet
import Derived.Test.YtledjiikpajdaaaDoorVtAllP9
/-
  Bytes in memory: what holds of them. No condition.
-/
namespace Go.Proofs.YtledjiikpajdaaaDoor.Tk
open Go.RowKit

/-- The cells of block b from off on hold these bytes. -/
def Holds (w : World) (b off : Nat) (l : Bs) : Prop := ∀ j (hj : j < l.length), w.cell? ⟨b, off + j, none⟩ = some (.int .u8 (l[j].toNat : Int))
theorem Holds.part {w : World} {b off : Nat} {l : Bs} (h : Holds w b off l) (k m : Nat) (hm : m ≤ l.length) : Holds w b (off + k) ((l.take m).drop k) := by
  intro j hj
  have hj' := hj
  rw [part_length l k m hm] at hj'
  rw [part_get l k m j hm hj, Nat.add_assoc]
  exact h (k + j) (by omega)
theorem Holds.nil (w : World) (b off : Nat) : Holds w b off [] := fun _ hj => by simp at hj

/-- What '[]byte(s)' lays holds the bytes of s, and below it all is as it was. -/
theorem holds_new (w : World) (s : ByteArray) (cap : Nat) (t : TypeId) (fr : Nat × Nat) : Holds (w.alloc (.cells (bytesRow s cap) t fr)) w.heap.size 0 s.data.toList := by
  intro j hj
  rw [Nat.zero_add, World.cell?_alloc_mark, bytesRow_at s cap j (by simpa using hj)]
  simp
theorem holds_drew {w : World} {b off : Nat} {l : Bs} (h : Holds w b off l) : Holds w.drew b off l := h
/-- 'string(b)' of bytes that lie so. -/
theorem run_back {P : Program} (w : World) (src dst e : TypeId) (b off cap : Nat) (l : Bs) (hs : P.underlying src = some (.slice e)) (he : P.underlying e = some (.int .u8)) (hd : P.underlying dst = some .string)
    (hc : Holds w b off l) : (convert src dst (.slice (some ⟨b, off, none⟩) l.length cap)).run P w = .ok (.string ⟨l.toArray⟩) w :=
  run_convert_bytes_back w src dst e ⟨b, off, none⟩ cap l hs he hd fun j hj => by
    have := hc j hj
    by_cases h0 : j = 0
    · subst h0; simpa [Addr.add] using this
    · simpa [Addr.add, h0] using this
end Go.Proofs.YtledjiikpajdaaaDoor.Tk
/-
  token.lowerByte, token.Lower and token.Same: what each returns. Conditions: none beyond the lengths that a string can have.
-/
-- cut by strips.py
namespace Go.Proofs.YtledjiikpajdaaaDoor.Tk
open Go.RowKit

theorem lowerByte_any (c : UInt8) (w : World) :
    Calls Tryd.prog 62 #[.int .u8 (c.toNat : Int)] w fun e w' => e = .returned (.int .u8 ((low c).toNat : Int)) ∧ w' = w := by
  have hc : c.toNat < 256 := c.toNat_lt
  by_cases h : 65 ≤ c.toNat ∧ c.toNat ≤ 90
  · have HL := Lib.hid (low_up h)
    have h1 : (65 : Int) ≤ (c.toNat : Int) := by omega
    have h2 : (c.toNat : Int) ≤ 90 := by omega
    clear h
    go_enter Tryd.func62, Tryd.ntmps62
    go_wp2
    go_ret
    exact ⟨by rw [HL.out]; rfl, rfl⟩
  · have HL := Lib.hid (low_id h)
    by_cases h1 : (65 : Int) ≤ (c.toNat : Int)
    · have h2 : ¬ (c.toNat : Int) ≤ 90 := by omega
      clear h
      go_enter Tryd.func62, Tryd.ntmps62
      go_wp2
      go_ret
      exact ⟨by rw [HL.out]; rfl, rfl⟩
    · clear h
      go_enter Tryd.func62, Tryd.ntmps62
      go_wp2
      go_ret
      exact ⟨by rw [HL.out]; rfl, rfl⟩

/-- The first k bytes small, the others as they were. -/
def mix (l : Bs) (k : Nat) : Bs := (l.take k).map low ++ l.drop k
theorem mix_length (l : Bs) (k : Nat) (hk : k ≤ l.length) : (mix l k).length = l.length := by simp [mix]; omega
theorem mix_zero (l : Bs) : mix l 0 = l := by simp [mix]
theorem mix_all (l : Bs) : mix l l.length = lower l := by simp [mix, lower]
theorem mix_at (l : Bs) (k : Nat) (hk : k < l.length) : (mix l k)[k]'(by rw [mix_length l k (by omega)]; exact hk) = l[k] := by
  unfold mix
  rw [List.getElem_append_right (by simp; exact Nat.min_le_left _ _)]
  simp [Nat.min_eq_left (Nat.le_of_lt hk)]
theorem mix_set (l : Bs) (k : Nat) (hk : k < l.length) : (mix l k).set k (low l[k]) = mix l (k + 1) := by
  unfold mix
  rw [List.set_append_right _ _ (by simp; exact Nat.min_le_left _ _)]
  have h1 : k - (List.map low (List.take k l)).length = 0 := by simp; omega
  rw [h1, List.drop_eq_getElem_cons hk, List.take_succ_eq_append_getElem hk, List.map_append, List.set_cons_zero, List.append_assoc]
  rfl

theorem Holds.at0 {w : World} {b : Nat} {l : Bs} (h : Holds w b 0 l) (j : Nat) (hj : j < l.length) : w.cell? ⟨b, j, none⟩ = some (.int .u8 (l[j].toNat : Int)) := by
  have := h j hj; rwa [Nat.zero_add] at this
theorem Holds.set {w : World} {b : Nat} {l : Bs} (h : Holds w b 0 l) (k : Nat) (hk : k < l.length) (c : UInt8) : Holds (w.setCell ⟨b, k, none⟩ (.int .u8 (c.toNat : Int))) b 0 (l.set k c) := by
  intro j hj
  have hj' : j < l.length := by simpa using hj
  rw [Nat.zero_add]
  by_cases e : j = k
  · subst e
    rw [World.cell?_setCell_same w _ _ (h.at0 j hj')]; simp
  · rw [World.cell?_setCell_other w _ _ _ (by intro hh; injection hh with _ h2; exact e h2.symm), h.at0 j hj']
    simp [List.getElem_set_ne (Ne.symm e)]

/-- Two texts are alike but for the size of letters. -/
def same (a b : Bs) : Bool := lower a == lower b
theorem same_no {a b : ByteArray} (h : a.size ≠ b.size) : same a.data.toList b.data.toList = false := by
  unfold same
  rw [beq_eq_false_iff_ne]
  intro e
  have := congrArg List.length e
  simp [lower_length] at this
  exact h this
theorem same_at (a b : ByteArray) (k : Nat) (ha : k < a.size) (hb : k < b.size) (h : low a[k] ≠ low b[k]) : same a.data.toList b.data.toList = false := by
  unfold same
  rw [beq_eq_false_iff_ne]
  intro e
  have h1 : (lower a.data.toList)[k]? = some (low a[k]) := by
    simp only [lower, List.getElem?_map]
    rw [List.getElem?_eq_getElem (by simpa using ha)]; rfl
  have h2 : (lower b.data.toList)[k]? = some (low b[k]) := by
    simp only [lower, List.getElem?_map]
    rw [List.getElem?_eq_getElem (by simpa using hb)]; rfl
  rw [e, h2] at h1
  injection h1 with h1
  exact h h1.symm
theorem same_yes (a b : ByteArray) (hab : a.size = b.size) (h : ∀ j (ha : j < a.size) (hb : j < b.size), low a[j] = low b[j]) : same a.data.toList b.data.toList = true := by
  unfold same
  rw [beq_iff_eq]
  apply List.ext_getElem
  · simp [lower_length]; exact hab
  · intro j h1 h2
    simp only [lower, List.getElem_map]
    exact h j (by simpa [lower] using h1) (by simpa [lower] using h2)
theorem low_ne {c d : UInt8} (h : low c ≠ low d) : (((low c).toNat : Int) != ((low d).toNat : Int)) = true := by
  rw [bne_iff_ne]; intro e; exact h (UInt8.toNat.inj (by omega))
theorem low_eq {c d : UInt8} (h : low c = low d) : (((low c).toNat : Int) != ((low d).toNat : Int)) = false := by
  rw [h]; simp

set_option maxHeartbeats 1000000 in
theorem same_any (a b : ByteArray) (w : World) (hs : a.size ≤ maxLen) :
    Calls Tryd.prog 34 #[.string a, .string b] w fun e w' => e = .returned (.bool (same a.data.toList b.data.toList)) ∧ ∃ n, w' = w.drewN n := by
  unfold maxLen at hs
  by_cases hab : a.size = b.size
  · have hne : ((a.size : Int) != (b.size : Int)) = false := by rw [hab]; simp
    have HAB := Lib.hid hab
    clear hab
    go_enter Tryd.func34, Tryd.ntmps34
    go_wp2_with fail
    go_loopw [13] (fun i wr => ∃ k : Nat, k ≤ a.size ∧ i = .int .i64 k ∧ (∃ n, wr = w.drewN n) ∧ ∀ j (ha : j < a.size) (hb : j < b.size), j < k → low a[j] = low b[j]) (fun i _ => a.size - (intOf i).toNat)
    case atStart => exact ⟨0, Nat.zero_le _, rfl, ⟨0, rfl⟩, fun j _ _ h => by omega⟩
    case round =>
      obtain ⟨k, hk, rfl, ⟨n, hw⟩, hall⟩ := hrel
      have HALL := Lib.hid hall
      have HW := Lib.hid hw
      clear hall hw
      by_cases hlt : k < a.size
      · have hlb : k < b.size := by have := HAB.out; omega
        by_cases he : low a[k] = low b[k]
        · have h1 := low_eq he
          have HE := Lib.hid he
          clear he
          go_wp2_with fail
          go_quiet ((go_at_call 62; exact Calls.quiet_of_same (lowerByte_any _ _)))
          go_wp2
          go_roundw
          case rel =>
            refine ⟨k + 1, by omega, by go_num, ⟨_, by rw [HW.out, World.drewN_drewN]⟩, fun j ha hb hj => ?_⟩
            by_cases e : j = k
            · subst e; exact HE.out
            · exact HALL.out j ha hb (by omega)
          case measure => simp [intOf]; omega
        · have h1 := low_ne he
          have HN := Lib.hid (same_at a b k hlt hlb he)
          clear he
          go_wp2_with fail
          go_quiet ((go_at_call 62; exact Calls.quiet_of_same (lowerByte_any _ _)))
          go_wp2
          go_ret
          exact ⟨by rw [HN.out]; rfl, _, by rw [HW.out, World.drewN_drewN]⟩
      · have HY := Lib.hid (same_yes a b HAB.out fun j ha hb => HALL.out j ha hb (by omega))
        go_wp2
        go_ret
        exact ⟨by rw [HY.out]; rfl, _, HW.out⟩
  · have hne : ((a.size : Int) != (b.size : Int)) = true := by rw [bne_iff_ne]; omega
    have HN := Lib.hid (same_no hab)
    clear hab
    go_enter Tryd.func34, Tryd.ntmps34
    go_wp2
    go_ret
    exact ⟨by rw [HN.out]; rfl, 0, rfl⟩
end Go.Proofs.YtledjiikpajdaaaDoor.Tk
/-
  field.Get: what it returns. Condition: fields of at most 2^20 bytes in all.
-/
namespace Go.Proofs.YtledjiikpajdaaaDoor.Fd
open Go.RowKit Tk
set_option linter.unusedVariables false

abbrev TB : TypeId := 64
abbrev TU : TypeId := 5
/-- What Get answers. -/
def getVal (fs : List Fl) (nm : Bs) : Value := .tuple #[.string ⟨(getT fs nm).toArray⟩, .int .i64 (getN fs nm : Int)]
theorem has_same (nm : ByteArray) (f : Fl) : same f.1.data.toList nm.data.toList = has nm.data.toList f := rfl
theorem isB_drewN {T e : TypeId} {B b : Nat} {bs : List Value} {w : World} (h : Lib.IsBuilderF T e B b bs w) (n : Nat) : Lib.IsBuilderF T e B b bs (w.drewN n) := h
theorem other_field {b : Nat} {w w' : World} (h : Lib.OthersKept 5 (some b) w w') {g : Nat} {cs : Array Value} (hg : w.heap[g]? = some (.cells cs 35 (0, 0))) (hb : g ≠ b) : w'.heap[g]? = some (.cells cs 35 (0, 0)) :=
  h g _ hg (by intro e; injection e with e; exact hb e) (fun c fz e => by injection e with _ e _; exact absurd e (by decide))
theorem builder_new (w : World) : Lib.IsBuilderF 64 5 w.heap.size w.heap.size (Lib.byteCells []) (w.alloc (.cells #[.pointer none, .slice none 0 0] 64)) := Lib.IsBuilderF.of (Lib.fresh_isBuilder _ _ w)
theorem cells_add (l : Bs) (s : ByteArray) : Lib.byteCells l ++ Lib.strCells s = Lib.byteCells (l ++ s.data.toList) := by rw [Lib.strCells_eq, Lib.byteCells_append]
theorem cells_len (l : Bs) : (Lib.byteCells l).length = l.length := Lib.byteCells_length l

set_option maxHeartbeats 4000000 in
theorem get_any (v : Value) (fs : List Fl) (nm : ByteArray) (w : World) (hf : Flds w v fs) (ht : tot fs ≤ 1048576) (hn : nm.size ≤ maxLen) :
    Calls Tryd.prog 14 #[v, .string nm] w fun e w' => e = .returned (getVal fs nm.data.toList) ∧ Below w.heap.size w w' := by
  rcases hf with ⟨rfl, a, cap, rfl⟩ | ⟨b, off, cap, rfl, hlt, hc⟩
  · go_enter Tryd.func14, Tryd.ntmps14
    go_wp2_with fail
    refine wp_loop_rounds 1 ?_
    rw [rounds_succ]
    go_wp2_with fail
    refine (builder_string w.heap.size w.heap.size [] _ (builder_new w) (by simp)).mono ?_
    rintro e w1 ⟨rfl, hb1⟩
    go_wp2_with fail
    go_ret2
    exact ⟨rfl, ((Below.refl _ _).alloc (Nat.le_refl _) _).trans hb1⟩
  · have HC := Lib.hid hc
    have hlen := tot_len fs
    have HB0 := Lib.hid (builder_new w)
    clear hc
    go_enter Tryd.func14, Tryd.ntmps14
    go_wp2_with fail
    go_loopw [7, 12] (fun m i wr => ∃ k : Nat, k ≤ fs.length ∧ i = .int .i64 (k : Int) ∧ m = .int .i64 (getN (fs.take k) nm.data.toList : Int) ∧
      Lib.IsBuilderF 64 5 w.heap.size w.heap.size (Lib.byteCells (getT (fs.take k) nm.data.toList)) wr ∧ Below w.heap.size w wr) (fun _ i _ => fs.length - (intOf i).toNat)
    case atStart => exact ⟨0, Nat.zero_le _, rfl, rfl, HB0.out, (Below.refl _ _).alloc (Nat.le_refl _) _⟩
    case round =>
      obtain ⟨k, hk, rfl, rfl, hI, hB⟩ := hrel
      have HI := Lib.hid hI
      clear hI HB0
      have hsz := hB.size
      have hltb : w.heap.size < wr.heap.size := by rcases HI.out with h | h <;> exact h.lt
      by_cases hlt2 : k < fs.length
      · have c1 : wr.cell? ⟨b, off + k * 2, none⟩ = some (.string fs[k].1) := (hB.cell (p := ⟨b, off + k * 2, none⟩) hlt).trans (HC.out k hlt2).1
        have c2 : wr.cell? ⟨b, off + k * 2 + 1, none⟩ = some (.string fs[k].2) := (hB.cell (p := ⟨b, off + k * 2 + 1, none⟩) hlt).trans (HC.out k hlt2).2
        have hx2 := tot_at fs k hlt2
        have hgl := getT_length (fs.take k) nm.data.toList
        have htk := tot_take fs k
        have hS := Lib.hid (has_same nm fs[k])
        cases hh : has nm.data.toList fs[k] with
        | false =>
          have HN := Lib.hid (get_next_no fs nm.data.toList k hlt2 hh)
          have HH := Lib.hid (hS.out.trans hh)
          obtain ⟨x, hx⟩ : ∃ x, x = fs[k].1 := ⟨_, rfl⟩
          obtain ⟨y, hy⟩ : ∃ y, y = fs[k].2 := ⟨_, rfl⟩
          rw [← hx] at c1 HH hx2
          rw [← hy] at c2 hx2
          clear hx hy hh hS
          go_wp2_with fail
          refine (same_any x nm _ (by unfold maxLen; omega)).mono ?_
          rintro e w1 ⟨rfl, n1, hw1⟩
          rw [HH.out]
          have hB1 := Bl.drewN' (hB.alloc hsz _) hw1
          have HI1 := Lib.hid (show Lib.IsBuilderF 64 5 w.heap.size w.heap.size (Lib.byteCells (getT (fs.take k) nm.data.toList)) w1 from by rw [hw1]; exact isB_drewN (HI.out.alloc _) n1)
          clear hw1
          go_wp2_with fail
          go_roundw
          case rel => exact ⟨k + 1, by omega, by go_num, by rw [HN.out.2], by rw [HN.out.1]; exact HI1.out, hB1⟩
          case measure => simp [intOf]; omega
        | true =>
          have HN := Lib.hid (getN_next_yes fs nm.data.toList k hlt2 hh)
          have HH := Lib.hid (hS.out.trans hh)
          have hle := getN_le (fs.take k) nm.data.toList
          have hlk : (fs.take k).length ≤ k := List.length_take_le _ _
          obtain ⟨n, hn'⟩ : ∃ n, n = getN (fs.take k) nm.data.toList := ⟨_, rfl⟩
          have hnk : n ≤ fs.length := by omega
          by_cases h0 : n = 0
          · have HT := Lib.hid (getT_next_first fs nm.data.toList k hlt2 hh (by rw [← hn', h0]))
            have HT0 := Lib.hid (show getT (fs.take k) nm.data.toList = [] from by
              have h : (sel (fs.take k) nm.data.toList).length = 0 := by show getN _ _ = 0; omega
              unfold getT; rw [List.length_eq_zero_iff.1 h]; rfl)
            have d0 : decide (0 < n) = false := by rw [decide_eq_false_iff_not]; omega
            rw [← hn'] at HN
            rw [← hn']
            obtain ⟨x, hx⟩ : ∃ x, x = fs[k].1 := ⟨_, rfl⟩
            obtain ⟨y, hy⟩ : ∃ y, y = fs[k].2 := ⟨_, rfl⟩
            rw [← hx] at c1 HH hx2
            rw [← hy] at c2 hx2 HT
            clear hx hy hh hS hn' h0 hle
            go_wp2_with fail
            refine (same_any x nm _ (by unfold maxLen; omega)).mono ?_
            rintro e w1 ⟨rfl, n1, hw1⟩
            rw [HH.out]
            have hB1 := Bl.drewN' (hB.alloc hsz (.cells #[.string x, .string y] 35)) hw1
            have HI1 := Lib.hid (show Lib.IsBuilderF 64 5 w.heap.size w.heap.size (Lib.byteCells []) w1 from by have h := HI.out; rw [HT0.out] at h; rw [hw1]; exact isB_drewN (h.alloc _) n1)
            have hr1 : w1.heap[wr.heap.size]? = some (.cells #[.string x, .string y] 35 (0, 0)) := by rw [hw1]; exact new_block _ _
            have e0 := two0 hr1
            have e1 := two1 hr1
            clear hw1
            go_wp2_with fail
            refine (writeString_any w.heap.size w.heap.size _ y _ HI1.out (by simp [Lib.byteCells]; omega) hB1.size).mono ?_
            rintro e w2 ⟨rfl, hI2, hb2, _⟩
            have hB2 := hB1.trans hb2
            rw [cells_add] at hI2
            have HI2 := Lib.hid hI2
            clear hI2 hb2 e0 e1 hr1
            go_wp2_with fail
            go_roundw
            case rel => exact ⟨k + 1, by omega, by go_num, by rw [HN.out]; go_num, by rw [HT.out]; exact .inr HI2.out, hB2⟩
            case measure => simp [intOf]; omega
          · have HT := Lib.hid (getT_next_more fs nm.data.toList k hlt2 hh (by rw [← hn']; exact h0))
            have d0 : decide (0 < n) = true := by rw [decide_eq_true_eq]; omega
            rw [← hn'] at HN
            rw [← hn']
            obtain ⟨x, hx⟩ : ∃ x, x = fs[k].1 := ⟨_, rfl⟩
            obtain ⟨y, hy⟩ : ∃ y, y = fs[k].2 := ⟨_, rfl⟩
            rw [← hx] at c1 HH hx2
            rw [← hy] at c2 hx2 HT
            clear hx hy hh hS hn' h0 hle
            go_wp2_with fail
            refine (same_any x nm _ (by unfold maxLen; omega)).mono ?_
            rintro e w1 ⟨rfl, n1, hw1⟩
            rw [HH.out]
            have hB1 := Bl.drewN' (hB.alloc hsz (.cells #[.string x, .string y] 35)) hw1
            have HI1 := Lib.hid (show Lib.IsBuilderF 64 5 w.heap.size w.heap.size (Lib.byteCells (getT (fs.take k) nm.data.toList)) w1 from by rw [hw1]; exact isB_drewN (HI.out.alloc _) n1)
            have hr1 : w1.heap[wr.heap.size]? = some (.cells #[.string x, .string y] 35 (0, 0)) := by rw [hw1]; exact new_block _ _
            clear hw1
            go_wp2_with fail
            refine (writeString_any w.heap.size w.heap.size _ ⟨#[44, 32]⟩ _ HI1.out (by rw [cells_len]; show _ + 2 ≤ _; omega) hB1.size).mono ?_
            rintro e w2 ⟨rfl, hI2, hb2, hk2⟩
            have hB2 := hB1.trans hb2
            rw [cells_add] at hI2
            have HI2 := Lib.hid hI2
            have hr2 := other_field hk2 hr1 (by omega)
            have e0 := two0 hr2
            have e1 := two1 hr2
            clear hI2 hb2 hr1 hk2
            go_wp2_with fail
            refine (writeString_any w.heap.size w.heap.size _ y _ (.inr HI2.out) (by rw [cells_len, List.length_append]; show _ + 2 + _ ≤ _; omega) hB2.size).mono ?_
            rintro e w3 ⟨rfl, hI3, hb3, _⟩
            have hB3 := hB2.trans hb3
            rw [cells_add] at hI3
            have HI3 := Lib.hid hI3
            clear hI3 hb3 e0 e1 hr2
            go_wp2_with fail
            go_roundw
            case rel => exact ⟨k + 1, by omega, by go_num, by rw [HN.out]; go_num, by rw [HT.out]; exact .inr HI3.out, hB3⟩
            case measure => simp [intOf]; omega
      · have HE := Lib.hid (show fs.take k = fs from List.take_of_length_le (by omega))
        rw [HE.out]
        rw [HE.out] at HI
        go_wp2_with fail
        refine (builder_string w.heap.size w.heap.size _ _ HI.out hsz).mono ?_
        rintro e w1 ⟨rfl, hb1⟩
        have hB1 := hB.trans hb1
        go_wp2_with fail
        go_ret2
        exact ⟨rfl, hB1⟩
end Go.Proofs.YtledjiikpajdaaaDoor.Fd
