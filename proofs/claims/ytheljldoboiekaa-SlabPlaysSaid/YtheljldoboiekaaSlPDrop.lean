/-
  The program's Drop beside the plain arena. Condition: they are related ahead.
-/
import Derived.Test.YtheljldoboiekaaSlPRel
namespace Go.Proofs.Ytheljldoboiekaa.Sl
open Go.RowKit Go.Proofs.Ytheljldoboiekaa.Fd
set_option maxRecDepth 100000
set_option linter.unusedVariables false
set_option linter.unusedSimpArgs false

theorem infoU8 : (Try.prog.info? 5).map (fun i => (i.zero, i.size, i.bytes)) = some (some (.int .u8 0), 1, 1) := by kernel_rfl
theorem info_parts8 {e : TypeId} {z : Value} {n b : Nat} (h : (Try.prog.info? e).map (fun i => (i.zero, i.size, i.bytes)) = some (some z, n, b)) : ∃ i, Try.prog.info? e = some i ∧ i.zero = some z ∧ i.size = n ∧ i.bytes = b := by
  cases hi : Try.prog.info? e with
  | none => rw [hi] at h; simp at h
  | some i =>
    rw [hi] at h
    simp at h
    exact ⟨i, rfl, h.1, h.2.1, h.2.2⟩
theorem zero_bytes (n : Nat) : Builtin.zeroCells (Value.int .u8 0).cells n = u8V (List.replicate n 0) := by
  unfold Builtin.zeroCells u8V
  apply Array.ext
  · simp [Value.cells]
  · intro i h1 h2
    simp [Value.cells, Nat.mod_one]
theorem run_clear (w : World) (ty : TypeId) (q s : Nat) (m : Tk.Bs) (hg : w.heap[q]? = some (.cells (u8V m) 5 (0, 0))) (hm : m.length = s + 1) :
    (Builtin.clear_ #[35] ty #[.slice (some ⟨q, 0, none⟩) (s + 1) (s + 1)]).run Try.prog w = .ok (.tuple #[]) (w.setRow q (u8V (List.replicate (s + 1) 0))) := by
  obtain ⟨i0, hi, hz0, hz1, hz2⟩ := info_parts8 infoU8
  have hl : (u8V (List.replicate (s + 1) 0)).toList.length = s + 1 := by simp [u8V]
  have hst := run_storeCells_at Try.prog q 0 5 (u8V (List.replicate (s + 1) 0)).toList 0 (u8V m) w hg (by rw [hl, u8V_size]; omega) (by
    intro v hv
    simp [u8V] at hv
    obtain ⟨_, rfl⟩ := hv
    rfl)
  rw [hl] at hst
  have e : ((u8V m).toList.take (0 + 0) ++ (u8V (List.replicate (s + 1) 0)).toList ++ (u8V m).toList.drop (0 + 0 + (s + 1))).toArray = u8V (List.replicate (s + 1) 0) := by
    rw [List.drop_of_length_le (by rw [Array.length_toList, u8V_size]; omega)]
    simp
  rw [e] at hst
  simp [Builtin.clear_, run_underlying Try.underlying35, zeroValue, typeInfo, hi, hz0, zero_bytes, hst]
set_option maxHeartbeats 4000000 in
theorem pdrop_any {base p : Nat} {n : Nat → Nat} {A : Ar} {G : Nat} (c i g : Int) (w : World) (h : PRel w base p n A G) :
    Calls Try.prog 15 #[.pointer (some ⟨p, 0, none⟩), .agg #[.int .i64 c, .int .i64 i, .int .i64 g]] w (DoneP base p n (dropA A (c, i, g)) G w) := by
  obtain ⟨gs, Q, M, hP, hG⟩ := h.it
  have hB1 := (Below.refl w.heap.size w).alloc (Nat.le_refl _) (.cells #[.int .i64 c, .int .i64 i, .int .i64 g] 34)
  have HR := Lib.hid (pright_any c i g _ (hP.same hB1) hG.aged h.few)
  rcases right_ways (A := A) gs c i g with ⟨h1, h2⟩ | ⟨c, i, b, rfl, rfl, c4, hb, hh, rfl, h1, h2⟩
  · have HV := Lib.hid (show dropA A (c, i, g) = (15, A) from by unfold dropA; rw [h1])
    have HH := Lib.hid h
    rw [h2] at HR
    clear h1 h2 hP hG h
    go_enter Try.func15, Try.ntmps15
    go_wp2_with fail
    refine HR.out.mono ?_
    rintro e w2 ⟨rfl, hb2⟩
    have HB := Lib.hid (Bl.next hB1 hb2)
    clear hb2 hB1 HR
    go_wp2_with fail
    go_ret
    exact ⟨by rw [HV.out]; rfl, by rw [HV.out]; exact HH.out.same HB.out, Tn.of_below HB.out⟩
  · obtain ⟨hsm1, hsm2⟩ := hG.small c i b c4 hb
    have hgl := hP.ltG c4
    obtain ⟨hge, ⟨q, hq⟩, hmem⟩ := hG.busy c i b c4 hb hh
    rw [h2] at HR
    have HV := Lib.hid (show dropA A ((c : Int), (i : Int), (b.gen : Int)) = (0, upd A c ((A c).set i { b with held := b.held - 1 })) from by unfold dropA; rw [h1]; rfl)
    have HP := Lib.hid hP
    have HHb := Lib.hid hb
    have bi : 1 ≤ (b.held : Int) := by omega
    have bj : (b.held : Int) ≤ 1048576 := by omega
    have hsub : ((b.held - 1 : Nat) : Int) = (b.held : Int) - 1 := by omega
    by_cases hone : b.held = 1
    · have HF := Lib.hid (show ∀ W : World, PAt W base p n gs Q (updM M c i (List.replicate (sizeC c) 0)) (upd A c ((A c).set i { b with held := b.held - 1 })) → PRel W base p n (upd A c ((A c).set i { b with held := b.held - 1 })) G from fun W hW =>
        ⟨⟨gs, Q, _, hW, hG.put (fun _ _ _ => rfl) (fun d j hn => updM_other _ _ hn) (Nat.le_refl _) (fun q => absurd (show b.held - 1 = 0 by omega) q) (fun _ _ _ => updM_same _ _ _ _) ⟨hsm1, by show b.held - 1 ≤ _; omega⟩⟩, h.few, h.small⟩)
      have be : ((b.held : Int) - 1 == 0) = true := by rw [hone]; rfl
      obtain ⟨s, hs⟩ : ∃ s, sizeC c = s + 1 := by
        rcases (by omega : c = 0 ∨ c = 1 ∨ c = 2 ∨ c = 3) with rfl | rfl | rfl | rfl <;> exact ⟨_, rfl⟩
      have HHq := Lib.hid hq
      have HHs := Lib.hid hs
      clear h1 h2 hG h hb hh hone hsm1 hsm2 hP hge hmem hq hs
      go_enter Try.func15, Try.ntmps15
      go_wp2_with fail
      refine HR.out.mono ?_
      rintro e w2 ⟨rfl, hb2⟩
      have hB2 := Bl.next hB1 hb2
      have hP2 := HP.out.same hB2
      obtain ⟨d3, f3⟩ := hP2.cell c4 HHb.out (t := 3) (by decide)
      replace d3 : w2.cell? ⟨gs c, i * 5 + 3, none⟩ = some (.int .i64 (b.held : Int)) := d3
      have hS := hP2.setHeld c4 HHb.out (b.held - 1)
      rw [hsub] at hS
      have hA3 : ((upd A c ((A c).set i { b with held := b.held - 1 })) c)[i]? = some { b with held := b.held - 1 } := by
        rw [upd_same, List.getElem?_set_self (List.getElem?_eq_some_iff.1 HHb.out).1]
      have d4 := (hS.1.cell c4 hA3 (t := 4) (by decide)).1
      replace d4 : (w2.setCell ⟨gs c, i * 5 + 3, none⟩ (.int .i64 ((b.held : Int) - 1))).cell? ⟨gs c, i * 5 + 4, none⟩ = some (bytV c (Q c i)) := d4
      rw [HHq.out] at d4
      replace d4 : (w2.setCell ⟨gs c, i * 5 + 3, none⟩ (.int .i64 ((b.held : Int) - 1))).cell? ⟨gs c, i * 5 + 4, none⟩ = some (.slice (some ⟨q, 0, none⟩) (sizeC c) (sizeC c)) := d4
      obtain ⟨m1, m2⟩ := hS.1.mem c i q HHq.out
      rw [HHs.out] at d4 m2
      have hcl := run_clear _ 0 q s _ m1 m2
      have HE := Lib.hid (show PAt _ base p n gs Q (updM M c i (List.replicate (sizeC c) 0)) _ from hS.1.bytes (w' := (w2.setCell ⟨gs c, i * 5 + 3, none⟩ (.int .i64 ((b.held : Int) - 1))).setRow q (u8V (List.replicate (s + 1) 0))) HHq.out (by rw [HHs.out]; exact setRow_heap _ _ _ _ _ _ m1) (by simp) (fun k hk => setRow_other _ _ _ _ hk))
      have HT := Lib.hid (((Tn.of_below hB2).trans hS.2).trans (Tn.row (hS.1.memIs HHq.out).1 (hS.1.memIs HHq.out).2 (u8V (List.replicate (s + 1) 0))))
      clear hb2 hB1 HR hB2 hP2 hS m1 m2 hA3 hsub
      go_wp2_with fail
      go_ret
      exact ⟨by rw [HV.out]; rfl, by rw [HV.out]; exact HF.out _ HE.out, HT.out⟩
    · have HF := Lib.hid (show ∀ W : World, PAt W base p n gs Q M (upd A c ((A c).set i { b with held := b.held - 1 })) → PRel W base p n (upd A c ((A c).set i { b with held := b.held - 1 })) G from fun W hW =>
        ⟨⟨gs, Q, M, hW, hG.put (fun _ _ _ => rfl) (fun _ _ _ => rfl) (Nat.le_refl _) (fun _ => ⟨hge, ⟨q, hq⟩, hmem⟩) (fun z => by replace z : b.held - 1 = 0 := z; omega) ⟨hsm1, by show b.held - 1 ≤ _; omega⟩⟩, h.few, h.small⟩)
      have be : ((b.held : Int) - 1 == 0) = false := by rw [beq_eq_false_iff_ne]; omega
      clear h1 h2 hG h hb hh hone hsm1 hsm2 hP hge hmem hq
      go_enter Try.func15, Try.ntmps15
      go_wp2_with fail
      refine HR.out.mono ?_
      rintro e w2 ⟨rfl, hb2⟩
      have hB2 := Bl.next hB1 hb2
      have hP2 := HP.out.same hB2
      obtain ⟨d3, f3⟩ := hP2.cell c4 HHb.out (t := 3) (by decide)
      replace d3 : w2.cell? ⟨gs c, i * 5 + 3, none⟩ = some (.int .i64 (b.held : Int)) := d3
      have hS := hP2.setHeld c4 HHb.out (b.held - 1)
      rw [hsub] at hS
      have HS := Lib.hid hS
      have HB := Lib.hid hB2
      clear hb2 hB1 HR hB2 hP2 hS hsub
      go_wp2_with fail
      go_ret
      exact ⟨by rw [HV.out]; rfl, by rw [HV.out]; exact HF.out _ HS.out.1, (Tn.of_below HB.out).trans HS.out.2⟩
end Go.Proofs.Ytheljldoboiekaa.Sl
