/-
  The program's Held, Hold and Drop beside the plain arena. Condition: they are related ahead.
-/
import Derived.Test.YtheljldoboiekaaSlPRel
namespace Go.Proofs.Ytheljldoboiekaa.Sl
open Go.RowKit Go.Proofs.Ytheljldoboiekaa.Fd
set_option maxRecDepth 100000
set_option linter.unusedVariables false
set_option linter.unusedSimpArgs false

theorem pheld_any {base p : Nat} {n : Nat → Nat} {A : Ar} {G : Nat} (c i g : Int) (w : World) (h : PRel w base p n A G) :
    Calls Try.prog 22 #[.pointer (some ⟨p, 0, none⟩), .agg #[.int .i64 c, .int .i64 i, .int .i64 g]] w fun e w' => e = .returned (.int .i64 (heldA A (c, i, g))) ∧ Below w.heap.size w w' := by
  obtain ⟨gs, Q, M, hP, hG⟩ := h.it
  have hB1 := (Below.refl w.heap.size w).alloc (Nat.le_refl _) (.cells #[.int .i64 c, .int .i64 i, .int .i64 g] 34)
  have HR := Lib.hid (pright_any c i g _ (hP.same hB1) hG.aged h.few)
  rcases right_ways (A := A) gs c i g with ⟨h1, h2⟩ | ⟨c, i, b, rfl, rfl, c4, hb, hh, rfl, h1, h2⟩
  · have HV := Lib.hid (show heldA A (c, i, g) = 0 from by unfold heldA; rw [h1])
    rw [h2] at HR
    clear h1 h2 hP hG h
    go_enter Try.func22, Try.ntmps22
    go_wp2_with fail
    refine HR.out.mono ?_
    rintro e w2 ⟨rfl, hb2⟩
    have HB := Lib.hid (Bl.next hB1 hb2)
    clear hb2 hB1 HR
    go_wp2_with fail
    go_ret
    exact ⟨by rw [HV.out]; rfl, HB.out⟩
  · have HV := Lib.hid (show heldA A ((c : Int), (i : Int), (b.gen : Int)) = b.held from by unfold heldA; rw [h1])
    have d3 := (hP.cell c4 hb (t := 3) (by decide)).1
    replace d3 : w.cell? ⟨gs c, i * 5 + 3, none⟩ = some (.int .i64 (b.held : Int)) := d3
    have hgl := hP.ltG c4
    rw [h2] at HR
    clear h1 h2 hP hG h hb hh
    go_enter Try.func22, Try.ntmps22
    go_wp2_with fail
    refine HR.out.mono ?_
    rintro e w2 ⟨rfl, hb2⟩
    have hB2 := Bl.next hB1 hb2
    replace d3 := (hB2.cell (p := ⟨gs c, i * 5 + 3, none⟩) hgl).trans d3
    have HB := Lib.hid hB2
    clear hb2 hB1 HR hB2
    go_wp2_with fail
    go_ret
    exact ⟨by rw [HV.out]; rfl, HB.out⟩
set_option maxHeartbeats 4000000 in
theorem phold_any {base p : Nat} {n : Nat → Nat} {A : Ar} {G : Nat} (c i g : Int) (w : World) (h : PRel w base p n A G) :
    Calls Try.prog 13 #[.pointer (some ⟨p, 0, none⟩), .agg #[.int .i64 c, .int .i64 i, .int .i64 g]] w (DoneP base p n (holdA A (c, i, g)) G w) := by
  obtain ⟨gs, Q, M, hP, hG⟩ := h.it
  have hB1 := (Below.refl w.heap.size w).alloc (Nat.le_refl _) (.cells #[.int .i64 c, .int .i64 i, .int .i64 g] 34)
  have HR := Lib.hid (pright_any c i g _ (hP.same hB1) hG.aged h.few)
  rcases right_ways (A := A) gs c i g with ⟨h1, h2⟩ | ⟨c, i, b, rfl, rfl, c4, hb, hh, rfl, h1, h2⟩
  · have HV := Lib.hid (show holdA A (c, i, g) = (15, A) from by unfold holdA; rw [h1])
    have HH := Lib.hid h
    rw [h2] at HR
    clear h1 h2 hP hG h
    go_enter Try.func13, Try.ntmps13
    go_wp2_with fail
    refine HR.out.mono ?_
    rintro e w2 ⟨rfl, hb2⟩
    have HB := Lib.hid (Bl.next hB1 hb2)
    clear hb2 hB1 HR
    go_wp2_with fail
    go_ret
    exact ⟨by rw [HV.out]; rfl, by rw [HV.out]; exact HH.out.same HB.out, Tn.of_below HB.out⟩
  · obtain ⟨hsm1, hsm2⟩ := hG.small c i b c4 hb
    have hgl := hP.ltG c4
    rw [h2] at HR
    by_cases hbig : b.held = 1048576
    · have HV := Lib.hid (show holdA A ((c : Int), (i : Int), (b.gen : Int)) = (3, A) from by unfold holdA; rw [h1]; show (if _ then _ else _) = _; rw [if_pos hbig])
      have HH := Lib.hid h
      have d3 := (hP.cell c4 hb (t := 3) (by decide)).1
      replace d3 : w.cell? ⟨gs c, i * 5 + 3, none⟩ = some (.int .i64 (b.held : Int)) := d3
      have be : ((b.held : Int) == 1048576) = true := by rw [hbig]; rfl
      clear h1 h2 hP hG h hb hh hbig hsm1 hsm2
      go_enter Try.func13, Try.ntmps13
      go_wp2_with fail
      refine HR.out.mono ?_
      rintro e w2 ⟨rfl, hb2⟩
      have hB2 := Bl.next hB1 hb2
      replace d3 := (hB2.cell (p := ⟨gs c, i * 5 + 3, none⟩) hgl).trans d3
      have HB := Lib.hid hB2
      clear hb2 hB1 HR hB2
      go_wp2_with fail
      go_ret
      exact ⟨by rw [HV.out]; rfl, by rw [HV.out]; exact HH.out.same HB.out, Tn.of_below HB.out⟩
    · have HV := Lib.hid (show holdA A ((c : Int), (i : Int), (b.gen : Int)) = (0, upd A c ((A c).set i { b with held := b.held + 1 })) from by unfold holdA; rw [h1]; show (if _ then _ else _) = _; rw [if_neg hbig]; rfl)
      have HF := Lib.hid (show ∀ W : World, PAt W base p n gs Q M (upd A c ((A c).set i { b with held := b.held + 1 })) → PRel W base p n (upd A c ((A c).set i { b with held := b.held + 1 })) G from fun W hW =>
        ⟨⟨gs, Q, M, hW, hG.put (fun _ _ _ => rfl) (fun _ _ _ => rfl) (Nat.le_refl _) (fun _ => hG.busy c i b c4 hb hh) (fun q => absurd q (Nat.succ_ne_zero _)) ⟨hsm1, by show b.held + 1 ≤ _; omega⟩⟩, h.few, h.small⟩)
      have HP := Lib.hid hP
      have HHb := Lib.hid hb
      have be : ((b.held : Int) == 1048576) = false := by rw [beq_eq_false_iff_ne]; omega
      have bi : (b.held : Int) ≤ 1048575 := by omega
      clear h1 h2 hG h hb hh hbig hsm1 hsm2 hP
      go_enter Try.func13, Try.ntmps13
      go_wp2_with fail
      refine HR.out.mono ?_
      rintro e w2 ⟨rfl, hb2⟩
      have hB2 := Bl.next hB1 hb2
      have hP2 := HP.out.same hB2
      obtain ⟨d3, f3⟩ := hP2.cell c4 HHb.out (t := 3) (by decide)
      replace d3 : w2.cell? ⟨gs c, i * 5 + 3, none⟩ = some (.int .i64 (b.held : Int)) := d3
      have HS := Lib.hid (hP2.setHeld c4 HHb.out (b.held + 1))
      have HB := Lib.hid hB2
      clear hb2 hB1 HR hB2 hP2
      go_wp2_with fail
      go_ret
      exact ⟨by rw [HV.out]; rfl, by rw [HV.out]; exact HF.out _ HS.out.1, (Tn.of_below HB.out).trans HS.out.2⟩
end Go.Proofs.Ytheljldoboiekaa.Sl
