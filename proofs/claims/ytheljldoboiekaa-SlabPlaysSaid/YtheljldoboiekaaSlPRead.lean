/-
  The program's Read beside the plain arena. Condition: they are related ahead.
-/
import Derived.Test.YtheljldoboiekaaSlPPart
import Derived.Laws.AppendOwnNone
import Derived.WalkSpells
import Derived.Lib.LazyBuf
namespace Go.Proofs.Ytheljldoboiekaa.Sl
open Go.RowKit Go.Proofs.Ytheljldoboiekaa.Fd
set_option maxRecDepth 100000
set_option linter.unusedVariables false
set_option linter.unusedSimpArgs false

def u8l (m : Tk.Bs) : List Value := m.map fun b => Value.int .u8 (b.toNat : Int)
theorem u8l_length (m : Tk.Bs) : (u8l m).length = m.length := by simp [u8l]
theorem u8l_one (m : Tk.Bs) : ∀ v ∈ u8l m, v.oneCell' = true := by
  intro v hv; obtain ⟨c, _, rfl⟩ := List.mem_map.1 hv; rfl
theorem infoB : (Try.prog.info? 5).map (fun i => (i.zero, i.size, i.bytes)) = some (some (.int .u8 0), 1, 1) := by kernel_rfl
/-- A slice of bytes that a call made. -/
def BytesP (w : World) (base : Nat) (v : Value) (m : Tk.Bs) : Prop := w.ownsRow base 5 1 v m.length (u8l m)
theorem BytesP.nil (w : World) (base : Nat) : BytesP w base (.slice none 0 0) [] := World.ownsRow_nil _ _ _ _
theorem BytesP.form {w : World} {base : Nat} {v : Value} {m : Tk.Bs} (h : BytesP w base v m) : ∃ a cap, v = .slice a m.length cap := by
  rcases h.2 with ⟨h1, h2⟩ | ⟨g, cap, cur, h1, _⟩
  · exact ⟨none, 0, by rw [h1, h2]⟩
  · exact ⟨_, _, h1⟩
theorem BytesP.kept {w w' : World} {base : Nat} {v : Value} {m : Tk.Bs} (h : BytesP w base v m) (hb : Below w.heap.size w w') : BytesP w' base v m := by
  refine ⟨h.1, ?_⟩
  rcases h.2 with ⟨h1, h2⟩ | ⟨g, cap, cur, h1, h2, h3, h4⟩
  · exact .inl ⟨h1, h2⟩
  · exact .inr ⟨g, cap, cur, h1, h2, Bl.old hb (block_lt h3) h3, h4⟩
def CloneP (m : Tk.Bs) (w : World) (e : Ending) (w' : World) : Prop := ∃ v, e = .returned v ∧ BytesP w' w.heap.size v m ∧ Below w.heap.size w w'
set_option maxHeartbeats 4000000 in
theorem cloneB_any (ad : Addr) (cap : Nat) (m : Tk.Bs) (w : World) (hc : ∀ j (hj : j < m.length), w.cell? (ad.add j) = some (.int .u8 (m[j].toNat : Int))) (hal : 0 < m.length → ad.block < w.heap.size) (hl : m.length ≤ 1048576) (hcap : m.length ≤ cap) :
    Calls Try.prog 41 #[.slice (some ad) m.length cap] w (CloneP m w) := by
  have hq := fun (w : World) (a : Option Addr) (n c : Nat) => Lib.run_eql_slice_nil (P := Try.prog) w 35 5 a n c 0 0 Try.underlying35
  obtain ⟨i0, hi, hz0, hz1, hz2⟩ := info_parts infoB
  have HW := Lib.hid (show (w.alloc (.cells #[] 5)).ownsRow w.heap.size 5 1 (.slice (some ⟨w.heap.size, 0, none⟩) 0 0) 0 [] from ⟨rfl, .inr ⟨w.heap.size, 0, _, rfl, Nat.le_refl _, new_block w _, Nat.le_refl _, by unfold maxLen; omega, rfl, rfl⟩⟩)
  have hB1 := (Below.refl w.heap.size w).alloc (Nat.le_refl _) (.cells #[] 5)
  have HN := Lib.hid (show ∀ j v, (u8l m)[j]? = some v → (w.alloc (.cells #[] 5)).cell? (ad.add j) = some v from fun j v hv => by
    obtain ⟨hj, hv⟩ := List.getElem?_eq_some_iff.1 hv
    rw [u8l_length] at hj
    have hbl : (ad.add j).block < w.heap.size := by
      have : (ad.add j).block = ad.block := by unfold Addr.add; split <;> rfl
      rw [this]; exact hal (by omega)
    rw [hB1.cell hbl, hc j hj, ← hv]
    simp [u8l])
  clear hc
  go_enter Try.func41, Try.ntmps41
  go_wp2_with (at_builtin; refine wpList_append_own _ rfl _ _ 35 rfl w.heap.size 5 i0 (.int .u8 0) 1 1 Try.underlying35 hi hz0 hz1 hz2 rfl (by decide) _ _ _ rfl HW.out ad m.length cap (u8l m) rfl (by rw [u8l_length]; simp) HN.out (fun y hy => u8l_one _ y hy) (by unfold maxLen; omega) (by omega) hB1.size ?_; intro v' w6 hown' hgrow hnil)
  have HB6 := Lib.hid (hB1.grown hgrow hB1.size (fun k hk => by injection hk with hk; subst hk; exact Nat.le_refl _))
  have HO6 := Lib.hid (show BytesP w6 w.heap.size v' m from by unfold BytesP; rw [Nat.zero_add, List.nil_append] at hown'; exact hown')
  clear hown' hgrow hnil
  go_wp2_with fail
  go_ret
  exact ⟨_, rfl, HO6.out, HB6.out⟩
set_option maxHeartbeats 4000000 in
theorem cloneB_nil (w : World) : Calls Try.prog 41 #[.slice none 0 0] w (CloneP [] w) := by
  have hq := fun (w : World) (a : Option Addr) (n c : Nat) => Lib.run_eql_slice_nil (P := Try.prog) w 35 5 a n c 0 0 Try.underlying35
  go_enter Try.func41, Try.ntmps41
  go_wp2_with fail
  go_ret
  exact ⟨_, rfl, BytesP.nil _ _, Below.refl _ _⟩
def ReadP (r : Tk.Bs × Int) (w : World) (e : Ending) (w' : World) : Prop := ∃ v, e = .returned (.tuple #[v, .int .i64 r.2]) ∧ BytesP w' w.heap.size v r.1 ∧ Below w.heap.size w w'
theorem BytesP.mono {w : World} {base base' : Nat} {v : Value} {m : Tk.Bs} (h : BytesP w base v m) (hb : base' ≤ base) : BytesP w base' v m := by
  refine ⟨h.1, ?_⟩
  rcases h.2 with ⟨h1, h2⟩ | ⟨g, cap, cur, h1, h2, h3, h4⟩
  · exact .inl ⟨h1, h2⟩
  · exact .inr ⟨g, cap, cur, h1, Nat.le_trans hb h2, h3, h4⟩
set_option maxHeartbeats 4000000 in
theorem pread_any {base p : Nat} {n : Nat → Nat} {A : Ar} {G : Nat} (c i g at' m : Int) (w : World) (h : PRel w base p n A G) (hm : m ≤ 9223372036854775807) :
    Calls Try.prog 19 #[.pointer (some ⟨p, 0, none⟩), .agg #[.int .i64 c, .int .i64 i, .int .i64 g], .int .i64 at', .int .i64 m] w (ReadP (readA A (c, i, g) at' m) w) := by
  obtain ⟨gs, Q, M, hP, hG⟩ := h.it
  have hB1 := (Below.refl w.heap.size w).alloc (Nat.le_refl _) (.cells #[.int .i64 c, .int .i64 i, .int .i64 g] 34)
  have HR := Lib.hid (part_any c i g at' m _ (hP.same hB1) hG h.few hm)
  have HP := Lib.hid hP
  have HG := Lib.hid hG
  clear h hP hG
  go_enter Try.func19, Try.ntmps19
  go_wp2_with fail
  refine HR.out.mono ?_
  rintro e w2 ⟨hb2, h2⟩
  have HB := Lib.hid (Bl.next hB1 hb2)
  clear hb2 hB1 HR
  rcases h2 with ⟨h1, rfl⟩ | ⟨b, h1, hf, rfl⟩ | ⟨c, i, q, an, mn, cap, b, ad, rfl, rfl, rfl, rfl, c4, hb, hh, rfl, h1, hf, hq, hle, hcap, had, rfl⟩
  · have HV := Lib.hid (show readA A (c, i, g) at' m = ([], 15) from by unfold readA; rw [h1])
    clear h1
    go_wp2_with fail
    refine (cloneB_nil _).mono ?_
    rintro e w3 ⟨v, rfl, hv, hb3⟩
    have HB3 := Lib.hid (Bl.next HB.out hb3)
    have HBP := Lib.hid (hv.mono HB.out.size)
    clear hb3 hv
    go_wp2_with fail
    go_ret2
    exact ⟨_, by rw [HV.out]; rfl, by rw [HV.out]; exact HBP.out, HB3.out⟩
  · have HV := Lib.hid (show readA A (c, i, g) at' m = ([], 2) from by unfold readA; rw [h1, hf]; rfl)
    clear h1 hf
    go_wp2_with fail
    refine (cloneB_nil _).mono ?_
    rintro e w3 ⟨v, rfl, hv, hb3⟩
    have HB3 := Lib.hid (Bl.next HB.out hb3)
    have HBP := Lib.hid (hv.mono HB.out.size)
    clear hb3 hv
    go_wp2_with fail
    go_ret2
    exact ⟨_, by rw [HV.out]; rfl, by rw [HV.out]; exact HBP.out, HB3.out⟩
  · have HV := Lib.hid (show readA A ((c : Int), (i : Int), (b.gen : Int)) an mn = ((b.mem.drop an).take mn, 0) from by unfold readA; rw [h1, hf]; rfl)
    have hP2 := HP.out.same HB.out
    obtain ⟨hge, _, hmem⟩ := HG.out.busy c i b c4 hb hh
    obtain ⟨m1, m2⟩ := hP2.mem c i q hq
    rw [hmem] at m1 m2
    have hS : sizeC c ≤ 4096 := by
      rcases (by omega : c = 0 ∨ c = 1 ∨ c = 2 ∨ c = 3) with rfl | rfl | rfl | rfl <;> decide
    have hlen : ((b.mem.drop an).take mn).length = mn := by rw [List.length_take, List.length_drop]; omega
    have HC := Lib.hid (cloneB_any ad cap ((b.mem.drop an).take mn) w2 (fun j hj => by
      rw [had (by omega), Addr.add_lit, Lib.cell_of_heap m1]
      unfold u8V
      rw [hlen] at hj
      simp [List.getElem?_map]
      exact ⟨b.mem[an + j], by rw [List.getElem?_eq_getElem (by omega)], by simp⟩) (fun hj => by rw [had (by omega)]; exact block_lt m1) (by omega) (by omega))
    rw [hlen] at HC
    clear h1 hf hP2 m1 m2 hmem hge had hb hh
    generalize (b.mem.drop an).take mn = R at *
    go_wp2_with fail
    refine HC.out.mono ?_
    rintro e w3 ⟨v, rfl, hv, hb3⟩
    have HB3 := Lib.hid (Bl.next HB.out hb3)
    have HBP := Lib.hid (hv.mono HB.out.size)
    clear hb3 hv
    go_wp2_with fail
    go_ret2
    exact ⟨_, by rw [HV.out]; rfl, by rw [HV.out]; exact HBP.out, HB3.out⟩
end Go.Proofs.Ytheljldoboiekaa.Sl
