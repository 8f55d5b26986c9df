/-
  Texts that the laws' proofs stand on, 3 of them in one file; each one's head says what it proves and under which condition.
-/
import Derived.Test.YtjbdgndejbiikaaDoorSgBP8
import Derived.Deep.QuietTactic
import Derived.BigQuiet
import Derived.Test.YtjbdgndejbiikaaDoorSgBP27
import Derived.Deep.DeepCutAuto
import Derived.Test.YtjbdgndejbiikaaDoorSgBP26
/-
  gatepostlaw10.few: what it returns. Conditions: none beyond the lengths that slices and texts can have.
-/
namespace Go.Proofs.YtjbdgndejbiikaaDoor.Sg
open Go.RowKit Go.Proofs.YtjbdgndejbiikaaDoor.Tk Go.Proofs.YtjbdgndejbiikaaDoor.Fd
set_option maxRecDepth 100000
set_option linter.unusedVariables false

def fewL (fs : List Fl) : Bool := decide (tot fs + 19 * fs.length < 3000)
theorem few_less (fs : List Fl) (k n : Nat) (hk : k ≤ fs.length) (h : n + k = 20 * fs.length + tot (fs.take k)) : n ≤ tot fs + 19 * fs.length := by
  have h1 := tot_append (fs.take k) (fs.drop k)
  rw [List.take_append_drop] at h1
  have h2 := tot_len (fs.drop k)
  rw [List.length_drop] at h2
  omega
theorem fewL_tot {fs : List Fl} (h : fewL fs = true) : tot fs < 3000 := by
  unfold fewL at h
  have := of_decide_eq_true h
  omega

set_option maxHeartbeats 2000000 in
theorem fewL_any (v : Value) (fs : List Fl) (w : World) (hf : Flds w v fs) (hl : fs.length ≤ 140737488355328) (hz : ∀ f ∈ fs, f.1.size ≤ 140737488355328 ∧ f.2.size ≤ 140737488355328) :
    Calls Tryd.prog 6 #[v] w fun e w' => e = .returned (.bool (fewL fs)) ∧ ∃ n, w' = w.drewN n := by
  rcases hf with ⟨rfl, a, cap, rfl⟩ | ⟨b, off, cap, rfl, hlt, hc⟩
  · go_enter Tryd.func6, Tryd.ntmps6
    go_wp2_with fail
    refine wp_loop_rounds 1 ?_
    rw [rounds_succ]
    go_wp2_with fail
    go_ret
    exact ⟨rfl, 0, rfl⟩
  · have HC := Lib.hid hc
    have HZ := Lib.hid hz
    clear hc hz
    go_enter Tryd.func6, Tryd.ntmps6
    go_wp2_with fail
    go_loopw [3, 4] (fun m i wr => ∃ k n : Nat, k ≤ fs.length ∧ n ≤ 3377699720527872 ∧ i = .int .i64 (k : Int) ∧ m = .int .i64 (n : Int) ∧ n + k = 20 * fs.length + tot (fs.take k) ∧ ∃ q, wr = w.drewN q) (fun _ i _ => fs.length - (intOf i).toNat)
    case atStart => exact ⟨0, 20 * fs.length, Nat.zero_le _, by omega, rfl, by go_num, by simp [tot], 0, rfl⟩
    case round =>
      obtain ⟨k, n, hk, hn, rfl, rfl, hsum, q, hw⟩ := hrel
      have HS := Lib.hid hsum
      have HW := Lib.hid hw
      clear hsum
      by_cases h4 : n < 3000
      · have d4 : decide ((n : Int) < 3000) = true := by simpa using (by omega : (n : Int) < 3000)
        by_cases hlt2 : k < fs.length
        · have hnx := HZ.out fs[k] (List.getElem_mem hlt2)
          have c1 : wr.cell? ⟨b, off + k * 2, none⟩ = some (.string fs[k].1) := by rw [hw]; exact (HC.out k hlt2).1
          have c2 : wr.cell? ⟨b, off + k * 2 + 1, none⟩ = some (.string fs[k].2) := by rw [hw]; exact (HC.out k hlt2).2
          have HT := Lib.hid (show tot (fs.take (k + 1)) = tot (fs.take k) + (fs[k].1.size + fs[k].2.size + 1) from by rw [take_next fs k hlt2, tot_append]; simp [tot])
          obtain ⟨x, hx⟩ : ∃ x, x = fs[k].1 := ⟨_, rfl⟩
          obtain ⟨y, hy⟩ : ∃ y, y = fs[k].2 := ⟨_, rfl⟩
          rw [← hx] at c1 hnx HT
          rw [← hy] at c2 hnx HT
          obtain ⟨hx1, hy1⟩ := hnx
          have w1 : IntKind.i64.wrap ((n : Int) + (x.size : Int)) = (n : Int) + (x.size : Int) := IntWalk.i64_in _ (by omega)
          have w2 : IntKind.i64.wrap ((n : Int) + (x.size : Int) + (y.size : Int)) = (n : Int) + (x.size : Int) + (y.size : Int) := IntWalk.i64_in _ (by omega)
          clear hx hy hw
          go_wp2_with fail
          go_quiet (fail)
          clear w1 w2
          go_wp2_with fail
          go_roundw
          case rel => exact ⟨k + 1, n + x.size + y.size, by omega, by omega, by go_num, by go_num, by rw [HT.out]; have := HS.out; omega, _, by rw [HW.out, World.drewN_drewN]⟩
          case measure => simp [intOf]; omega
        · have HV := Lib.hid (show fewL fs = true from by
            have h := HS.out
            rw [show k = fs.length from by omega, List.take_length] at h
            unfold fewL; rw [decide_eq_true_eq]; omega)
          clear hw
          go_wp2_with fail
          go_ret
          exact ⟨by rw [HV.out]; rfl, _, HW.out⟩
      · have HV := Lib.hid (show fewL fs = false from by
          have h := few_less fs k n hk HS.out
          unfold fewL; rw [decide_eq_false_iff_not]; omega)
        have d4 : decide ((n : Int) < 3000) = false := by rw [decide_eq_false_iff_not]; omega
        clear hw
        by_cases hlt2 : k < fs.length
        all_goals
          go_wp2_with fail
          go_ret
          exact ⟨by rw [HV.out]; rfl, _, HW.out⟩
end Go.Proofs.YtjbdgndejbiikaaDoor.Sg
/-
  A list of fields that came in: nil, or at an address; its cells. Condition: what the form says of what is read.
-/
namespace Go.Proofs.YtjbdgndejbiikaaDoor.Fd
open Go.RowKit Tk Go.ChangeShapes Go.WideShapes Go.Deep Go.Joins
set_option maxRecDepth 100000
set_option linter.unusedVariables false

def Shape (v : Value) : Prop := v = .slice none 0 0 ∨ ∃ a n c, v = .slice (some a) n c
theorem open_shape {H : Type} {enc : TypeId × Value → H} {W : World} {base : Nat} {v : Value} {d : DataW H} {p : List MemPlace} (hv : Value.okWide Tryd.prog W .any base 22 v)
    (h : DataW.Trod enc Tryd.prog W 0 (fun _ => true) true 22 v d p) : Shape v := by
  obtain ⟨a0, len0, cap0, rfl⟩ := okWide_slice Tryd.underlying22 hv
  cases a0 with
  | some a => exact .inr ⟨a, len0, cap0, rfl⟩
  | none =>
    obtain ⟨fuel, hf⟩ := h
    rcases open_slice_pairs Tryd.underlying22 Tryd.underlying27 cellsField rfl rfl cellsText cellsText hf with ⟨hcs, _⟩ | ⟨a, len, cap, m, n, V0, V1, D0, D1, P0, P1, hcs, _⟩
    · simp [Value.cells] at hcs
      obtain ⟨rfl, rfl⟩ := hcs
      exact .inl rfl
    · simp [Value.cells] at hcs
theorem flds_len {w : World} {a : Option Addr} {n c : Nat} {fs : List Fl} (h : Flds w (.slice a n c) fs) : n = fs.length := by
  obtain ⟨a', cap, e⟩ := h.shape
  injection e
theorem flds_news {w : World} {a : Addr} {n c : Nat} {fs : List Fl} (h : Flds w (.slice (some a) n c) fs) : ∀ j u, (flat fs)[j]? = some u → w.cell? (a.add j) = some u := by
  rcases h with ⟨rfl, _⟩ | ⟨b, off, cap, hv, _, hc⟩
  · intro j u hu; simp [flat] at hu
  · injection hv with ha hn hcap
    injection ha with ha
    subst ha
    intro j u hu
    have hj : j < (flat fs).length := (List.getElem?_eq_some_iff.1 hu).1
    rw [flat_length] at hj
    rw [Addr.add_lit]
    obtain ⟨e0, e1⟩ := flat_at fs (j / 2) (by omega)
    obtain ⟨c0, c1⟩ := hc (j / 2) (by omega)
    rcases Nat.mod_two_eq_zero_or_one j with hm | hm
    · have ej : j / 2 * 2 = j := by omega
      rw [ej] at e0 c0
      rw [e0] at hu
      rw [c0, ← hu]
    · have ej : j / 2 * 2 + 1 = j := by omega
      rw [ej] at e1
      rw [Nat.add_assoc, ej] at c1
      rw [e1] at hu
      rw [c1, ← hu]
end Go.Proofs.YtjbdgndejbiikaaDoor.Fd
/-
  Two Metas compared, of which one knows nothing. No condition but that numbers are at least -1.
-/
namespace Go.Proofs.YtjbdgndejbiikaaDoor.Sg
open Go.RowKit Go.Proofs.YtjbdgndejbiikaaDoor.Tk Go.Proofs.YtjbdgndejbiikaaDoor.Fd Go.Proofs.YtjbdgndejbiikaaDoor.Ct Go.Proofs.YtjbdgndejbiikaaDoor.Fh
set_option maxRecDepth 100000
set_option linter.unusedVariables false

/-- A Meta that tells just what lets a response be kept. -/
def saidM (pu : Bool) (ag sh ex : Int) : Mta := ⟨0, ⟨false, false, false, pu, false, false, false, ag, sh, -1, -1, -1, -1⟩, -1, ex, -1, -1, -1, -1, ⟨#[]⟩⟩
def EqIs (a b : Mta) (r : Bool) : Prop := ∀ W : World, (Op.equal 35 (.agg (mcells a)) (.agg (mcells b))).run Tryd.prog W = .ok r W
theorem eq_pu (ag sh ex : Int) : EqIs (saidM true ag sh ex) umet false := fun W => by kernel_rfl
theorem eq_ag (n : Nat) (sh ex : Int) : EqIs (saidM false (Int.ofNat n) sh ex) umet false := fun W => by kernel_rfl
theorem eq_sh (n : Nat) (ex : Int) : EqIs (saidM false (-1) (Int.ofNat n) ex) umet false := fun W => by kernel_rfl
theorem eq_ex (n : Nat) : EqIs (saidM false (-1) (-1) (Int.ofNat n)) umet false := fun W => by kernel_rfl
theorem eq_all : EqIs (saidM false (-1) (-1) (-1)) umet true := fun W => by kernel_rfl
theorem nat_or {n : Int} (h : -1 ≤ n) : n = -1 ∨ ∃ k : Nat, n = Int.ofNat k := by
  by_cases h1 : n = -1
  · exact .inl h1
  · exact .inr ⟨n.toNat, by rw [Int.ofNat_eq_natCast]; omega⟩
theorem met_eq (pu : Bool) {ag sh ex : Int} (ha : -1 ≤ ag) (hs : -1 ≤ sh) (hx : -1 ≤ ex) : EqIs (saidM pu ag sh ex) umet (decide (ex = -1) && !pu && decide (ag = -1) && decide (sh = -1)) := by
  cases pu with
  | true => simpa using eq_pu ag sh ex
  | false =>
    rcases nat_or ha with rfl | ⟨k, rfl⟩
    · rcases nat_or hs with rfl | ⟨k, rfl⟩
      · rcases nat_or hx with rfl | ⟨k, rfl⟩
        · exact eq_all
        · have h := eq_ex k
          have e : decide (Int.ofNat k = -1) = false := by simp
          rw [e]; exact h
      · have h := eq_sh k ex
        have e : decide (Int.ofNat k = -1) = false := by simp
        rw [e, Bool.and_false]; exact h
    · have h := eq_ag k sh ex
      have e : decide (Int.ofNat k = -1) = false := by simp
      rw [e, Bool.and_false, Bool.false_and]; exact h
end Go.Proofs.YtjbdgndejbiikaaDoor.Sg
