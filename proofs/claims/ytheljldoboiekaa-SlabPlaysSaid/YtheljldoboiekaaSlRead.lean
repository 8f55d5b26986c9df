/-
  The reference's Read beside the plain arena. Condition: they are related ahead.
-/
import Derived.Test.YtheljldoboiekaaSlOps
namespace Go.Proofs.Ytheljldoboiekaa.Sl
open Go.RowKit Go.Proofs.Ytheljldoboiekaa.Fd
set_option maxRecDepth 100000
set_option linter.unusedVariables false
set_option linter.unusedSimpArgs false

def intL (m : Tk.Bs) : List Value := m.map fun b => Value.int .i64 (b.toNat : Int)
/-- A slice of ints that a call made. -/
def IntsR (w : World) (base : Nat) (v : Value) (m : Tk.Bs) : Prop := w.ownsRow base 3 1 v m.length (intL m)
theorem IntsR.nil (w : World) (base : Nat) : IntsR w base (.slice none 0 0) [] := World.ownsRow_nil _ _ _ _
theorem IntsR.form {w : World} {base : Nat} {v : Value} {m : Tk.Bs} (h : IntsR w base v m) : ∃ a cap, v = .slice a m.length cap := by
  rcases h.2 with ⟨h1, h2⟩ | ⟨g, cap, cur, h1, _⟩
  · exact ⟨none, 0, by rw [h1, h2]⟩
  · exact ⟨_, _, h1⟩
theorem IntsR.kept {w w' : World} {base : Nat} {v : Value} {m : Tk.Bs} (h : IntsR w base v m) (hb : Below w.heap.size w w') : IntsR w' base v m := by
  refine ⟨h.1, ?_⟩
  rcases h.2 with ⟨h1, h2⟩ | ⟨g, cap, cur, h1, h2, h3, h4⟩
  · exact .inl ⟨h1, h2⟩
  · exact .inr ⟨g, cap, cur, h1, h2, Bl.old hb (block_lt h3) h3, h4⟩
def ReadR (r : Tk.Bs × Int) (w : World) (e : Ending) (w' : World) : Prop := ∃ v, e = .returned (.tuple #[v, .int .i64 r.2]) ∧ IntsR w' w.heap.size v r.1 ∧ Below w.heap.size w w'
theorem infoI : (Try.prog.info? 3).map (fun i => (i.zero, i.size, i.bytes)) = some (some (.int .i64 0), 1, 8) := by kernel_rfl
theorem info_parts {e : TypeId} {z : Value} {n b : Nat} (h : (Try.prog.info? e).map (fun i => (i.zero, i.size, i.bytes)) = some (some z, n, b)) : ∃ i, Try.prog.info? e = some i ∧ i.zero = some z ∧ i.size = n ∧ i.bytes = b := by
  cases hi : Try.prog.info? e with
  | none => rw [hi] at h; simp at h
  | some i =>
    rw [hi] at h
    simp at h
    exact ⟨i, rfl, h.1, h.2.1, h.2.2⟩
theorem fits_iff {c i n : Int} : fitsI c i n = true ↔ 0 ≤ i ∧ i ≤ sizesI c ∧ 0 ≤ n ∧ n ≤ sizesI c - i := by unfold fitsI; rw [decide_eq_true_iff]
theorem sizes_le (c : Int) : 0 ≤ sizesI c ∧ sizesI c ≤ 4096 := by
  unfold sizesI
  split
  · rename_i h
    rcases (by omega : c = 0 ∨ c = 1 ∨ c = 2 ∨ c = 3) with rfl | rfl | rfl | rfl <;> decide
  · decide
theorem take_next {m : Tk.Bs} {i k : Nat} (h : i + k < m.length) : (m.drop i).take (k + 1) = (m.drop i).take k ++ [m[i + k]] := by
  have hl : k < (m.drop i).length := by rw [List.length_drop]; omega
  rw [List.take_succ_eq_append_getElem hl, List.getElem_drop]
theorem ints_snoc {w : World} {base : Nat} {v : Value} {M : Tk.Bs} {y : UInt8} (h : w.ownsRow base 3 1 v (M.length + 1) (intL M ++ [.int .i64 (y.toNat : Int)])) : IntsR w base v (M ++ [y]) := by
  unfold IntsR
  rw [List.length_append, show intL (M ++ [y]) = intL M ++ [.int .i64 (y.toNat : Int)] from by simp [intL]]
  exact h
set_option maxHeartbeats 8000000 in
theorem read_any {base p : Nat} {n : Nat → Nat} {A : Ar} {G : Nat} (c i g at' m : Int) (w : World) (h : RRel w base p n A G) (hat : -9223372036854775808 ≤ at' ∧ at' ≤ 9223372036854775807) :
    Calls Try.prog 20 #[.pointer (some ⟨p, 0, none⟩), .int .i64 c, .int .i64 i, .int .i64 g, .int .i64 at', .int .i64 m] w (ReadR (readA A (c, i, g) at' m) w) := by
  obtain ⟨i0, hi, hz0, hz1, hz2⟩ := info_parts infoI
  obtain ⟨L, v, hA, hR, hlen, hbd⟩ := h.it
  obtain ⟨a, cap, hv⟩ := hA.form
  have hc4 := hA.arenaV
  have hp := hA.lt
  rw [hv] at hc4
  have HF := Lib.hid (right_any c i g w hA (Nat.le_trans hlen h.small))
  rcases right_rel hR c i g with ⟨h1, h2⟩ | ⟨b, hlt, h1, h2, h3, h4, h5, h6, h7, c0, cc4, i0', hb⟩
  · have HV := Lib.hid (show readA A (c, i, g) at' m = ([], 15) from by unfold readA; rw [h1])
    rw [h2] at HF
    clear h1 h2 hA hR hv h hbd
    go_enter Try.func20, Try.ntmps20
    go_wp2_with fail
    refine HF.out.mono ?_
    rintro e w1 ⟨rfl, rfl⟩
    go_wp2_with fail
    go_ret2
    exact ⟨_, by rw [HV.out]; rfl, by rw [HV.out]; exact IntsR.nil _ _, Below.refl _ _⟩
  · obtain ⟨gg, cap', hv', hgl, _, hcell, _⟩ := hA.entry hlt
    rw [hv] at hv'
    injection hv' with e1 e2 e3
    subst e1 e3
    have d4 := hcell 4 (by decide)
    obtain ⟨hm1, hm2⟩ := hA.mem _ (List.getElem_mem hlt)
    rw [h2] at HF
    have hkey : (L[findR c i (rbs L)].1.c : Int) = c := by
      have hr : (rbs L)[findR c i (rbs L)]? = some L[findR c i (rbs L)].1 := by
        rw [List.getElem?_eq_getElem (by rw [rbs_length]; exact hlt), rbs_at L _ hlt]
      exact (of_decide_eq_true (findR_key hr)).1
    generalize findR c i (rbs L) = k at hlt hcell HF h3 h4 h5 d4 hm1 hm2 hkey
    replace d4 : w.cell? ⟨gg, k * 5 + 4, none⟩ = some (.slice (some ⟨L[k].2, 0, none⟩) (sizeC L[k].1.c) (sizeC L[k].1.c)) := d4
    rw [h5] at hm1 hm2
    generalize L[k].1.c = C at d4 hm2 hkey
    generalize L[k].2 = q at d4 hm1
    have hq := block_lt hm1
    have hS : sizesI c = (sizeC C : Int) := by unfold sizesI; rw [if_pos (by omega), ← hkey, Int.toNat_natCast]
    have hSl := sizes_le c
    rw [hS] at hSl
    have HM := Lib.hid (show ∀ j (hj : j < b.mem.length), w.cell? ⟨q, j, none⟩ = some (.int .i64 (b.mem[j].toNat : Int)) from fun j hj => by
      rw [Lib.cell_of_heap hm1]; unfold memV; simp [hj])
    have HRd := Lib.hid (show readA A (c, i, g) at' m = if fitsI c at' m then ((b.mem.drop at'.toNat).take m.toNat, 0) else ([], 2) from by unfold readA; rw [h1])
    have hkl : k < L.length := hlt
    have HSz := Lib.hid (fun V => (show Calls Try.prog 26 #[.int .i64 c] V fun e w' => e = .returned (.int .i64 (sizeC C : Int)) ∧ Below V.heap.size V w' from by rw [← hS]; exact sizes_any c V))
    have hfit := fits_iff (c := c) (i := at') (n := m)
    rw [hS] at hfit
    have HMl := Lib.hid hm2
    clear h1 h2 hA hR hv h hbd hcell h3 h4 h5 hm1 hb hkey hS
    by_cases hbad1 : at' < 0 ∨ m < 0
    · have HV := Lib.hid (show readA A (c, i, g) at' m = ([], 2) from by rw [HRd.out, if_neg (by rw [hfit]; omega)])
      go_enter Try.func20, Try.ntmps20
      go_wp2_with fail
      refine HF.out.mono ?_
      rintro e w1 ⟨rfl, rfl⟩
      by_cases hat0 : at' < 0
      · go_wp2_with fail
        go_ret2
        exact ⟨_, by rw [HV.out]; rfl, by rw [HV.out]; exact IntsR.nil _ _, Below.refl _ _⟩
      · have hm0 : m < 0 := by omega
        go_wp2_with fail
        go_ret2
        exact ⟨_, by rw [HV.out]; rfl, by rw [HV.out]; exact IntsR.nil _ _, Below.refl _ _⟩
    · have hat0 : ¬ at' < 0 := fun q => hbad1 (.inl q)
      have hm0 : ¬ m < 0 := fun q => hbad1 (.inr q)
      clear hbad1
      go_enter Try.func20, Try.ntmps20
      go_wp2_with fail
      refine HF.out.mono ?_
      rintro e w1 ⟨rfl, hw1⟩
      rw [← hw1]
      clear hw1
      go_wp2_with fail
      refine (HSz.out _).mono ?_
      rintro e w2 ⟨rfl, hb2⟩
      by_cases hbig : (sizeC C : Int) < at'
      · have HV := Lib.hid (show readA A (c, i, g) at' m = ([], 2) from by rw [HRd.out, if_neg (by rw [hfit]; omega)])
        go_wp2_with fail
        go_ret2
        exact ⟨_, by rw [HV.out]; rfl, by rw [HV.out]; exact IntsR.nil _ _, hb2⟩
      · go_wp2_with fail
        refine (HSz.out _).mono ?_
        rintro e w3 ⟨rfl, hb3⟩
        have hB3 := Bl.next hb2 hb3
        clear hb2 hb3 HSz
        by_cases hbig2 : (sizeC C : Int) - at' < m
        · have HV := Lib.hid (show readA A (c, i, g) at' m = ([], 2) from by rw [HRd.out, if_neg (by rw [hfit]; omega)])
          go_wp2_with fail
          go_ret2
          exact ⟨_, by rw [HV.out]; rfl, by rw [HV.out]; exact IntsR.nil _ _, hB3⟩
        · obtain ⟨an, rfl⟩ : ∃ x : Nat, at' = x := ⟨at'.toNat, by omega⟩
          obtain ⟨mn, rfl⟩ : ∃ x : Nat, m = x := ⟨m.toNat, by omega⟩
          have HV := Lib.hid (show readA A (c, i, g) an mn = ((b.mem.drop an).take mn, 0) from by rw [HRd.out, if_pos (by rw [hfit]; omega)]; rfl)
          clear HRd hfit
          have k1 : ¬ sizeC C < an := by omega
          have k2 : ¬ (sizeC C : Int) - (an : Int) < (mn : Int) := by omega
          have k3 : ¬ (an : Int) < 0 := by omega
          have k4 : ¬ (mn : Int) < 0 := by omega
          go_wp2_with fail
          go_loopw [15, 16] (fun o j wr => ∃ t : Nat, t ≤ mn ∧ j = .int .i64 (t : Int) ∧ IntsR wr w.heap.size o ((b.mem.drop an).take t) ∧ Below w.heap.size w wr) (fun _ j _ => mn - (intOf j).toNat)
          case atStart => exact ⟨0, Nat.zero_le _, rfl, by rw [List.take_zero]; exact IntsR.nil _ _, hB3⟩
          case round =>
            obtain ⟨t, ht, rfl, hO, hB⟩ := hrel
            obtain ⟨oa, oc, rfl⟩ := hO.form
            have HO := Lib.hid hO
            clear hO hB3
            have hol : ((b.mem.drop an).take t).length = t := by rw [List.length_take, List.length_drop]; have := HMl.out; omega
            by_cases hlt2 : t < mn
            · have hml : an + t < b.mem.length := by have := HMl.out; omega
              have x4 := (hB.cell (p := ⟨p, 4, none⟩) hp).trans hc4
              have y4 := (hB.cell (p := ⟨gg, k * 5 + 4, none⟩) hgl).trans d4
              have z4 := (hB.cell (p := ⟨q, an + t, none⟩) hq).trans (HM.out (an + t) hml)
              have HT := Lib.hid (take_next (m := b.mem) (i := an) (k := t) hml)
              have hsum : IntKind.i64.wrap ((an : Int) + (t : Int)) = ((an + t : Nat) : Int) := by rw [IntWalk.i64_in _ (by omega)]; omega
              have hsz : (an : Int) + (t : Int) < (sizeC C : Int) := by omega
              have HN := Lib.hid (show IntsR (wr.alloc (.cells #[.int .i64 (b.mem[an + t].toNat : Int)] 3)) w.heap.size (.slice oa ((b.mem.drop an).take t).length oc) ((b.mem.drop an).take t) from HO.out.kept ((Below.refl _ _).alloc (Nat.le_refl _) _))
              have HB4 := Lib.hid (hB.alloc hB.size (.cells #[.int .i64 (b.mem[an + t].toNat : Int)] 3))
              have hnw := new_block wr (.cells #[.int .i64 (b.mem[an + t].toNat : Int)] 3)
              have HNW := Lib.hid (show ∀ j u, [Value.int .i64 (b.mem[an + t].toNat : Int)][j]? = some u → (wr.alloc (.cells #[.int .i64 (b.mem[an + t].toNat : Int)] 3)).cell? ((⟨wr.heap.size, 0, none⟩ : Addr).add j) = some u from fun j u hj => by
                match j, hj with
                | 0, hj => rw [← hj]; show World.cell? _ ⟨wr.heap.size, 0, none⟩ = _; rw [Lib.cell_of_heap hnw]; rfl)
              generalize b.mem[an + t] = y at z4 HT HN HB4 HNW
              generalize (b.mem.drop an).take t = M at HO HT HN hol ⊢
              have HOL := Lib.hid hol
              have hmn : mn ≤ 4096 := by omega
              have H1 := Lib.hid (show ∀ u ∈ [Value.int .i64 (y.toNat : Int)], u.oneCell' = true from fun u hu => by simp at hu; subst hu; rfl)
              have H63 := Lib.hid (show M.length + 1 ≤ maxLen from by unfold maxLen; omega)
              have H64 := Lib.hid (show (M.length + 1) * 8 ≤ 140737488355328 from by omega)
              clear hnw hol
              go_wp2_with (at_builtin; refine wpList_append_own _ rfl _ _ 48 rfl w.heap.size 3 i0 (.int .i64 0) 1 8 Try.underlying48 hi hz0 hz1 hz2 rfl (by decide) (.slice oa M.length oc) M.length (intL M) rfl HN.out ⟨wr.heap.size, 0, none⟩ 1 1 [.int .i64 (y.toNat : Int)] rfl rfl HNW.out H1.out H63.out H64.out HB4.out.size ?_; intro v' w8 happ hgr _; have HAP := Lib.hid happ; have HB8 := Lib.hid (HB4.out.grown hgr HB4.out.size (fun k hk => (World.ownsRow.lt HN.out k hk).1)); clear happ hgr)
              go_roundw
              case rel => exact ⟨t + 1, by omega, by go_num, by rw [HT.out]; exact ints_snoc HAP.out, HB8.out⟩
              case measure => simp [intOf]; omega
            · have HP := Lib.hid (show (b.mem.drop an).take t = (b.mem.drop an).take mn from by rw [show t = mn from by omega])
              have HBB := Lib.hid hB
              clear hB
              go_wp2_with fail
              go_ret2
              exact ⟨_, by rw [HV.out]; rfl, by rw [HV.out, ← HP.out]; exact HO.out, HBB.out⟩
end Go.Proofs.Ytheljldoboiekaa.Sl
