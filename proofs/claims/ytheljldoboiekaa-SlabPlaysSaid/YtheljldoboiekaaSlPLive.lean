/-
  The program's Live beside the plain arena. Condition: they are related ahead.
-/
import Derived.Test.YtheljldoboiekaaSlPRel
namespace Go.Proofs.Ytheljldoboiekaa.Sl
open Go.RowKit Go.Proofs.Ytheljldoboiekaa.Fd
set_option maxRecDepth 100000
set_option linter.unusedVariables false
set_option linter.unusedSimpArgs false

theorem heldP_step (l : List Blk) (k : Nat) (h : k < l.length) : (l.take (k + 1)).countP heldP = (l.take k).countP heldP + if l[k].held = 0 then 0 else 1 := by
  rw [List.take_succ_eq_append_getElem h, List.countP_append, List.countP_cons, List.countP_nil, Nat.zero_add]
  congr 1
  unfold heldP
  by_cases h0 : l[k].held = 0
  · simp [h0]
  · simp [h0]
theorem heldP_le (l : List Blk) (k : Nat) : (l.take k).countP heldP ≤ l.length := by
  have h1 := List.countP_le_length (p := heldP) (l := l.take k)
  rw [List.length_take] at h1
  omega
set_option maxHeartbeats 4000000 in
theorem plive_any {base p : Nat} {n : Nat → Nat} {A : Ar} {G : Nat} (c : Int) (w : World) (h : PRel w base p n A G) :
    Calls Try.prog 24 #[.pointer (some ⟨p, 0, none⟩), .int .i64 c] w fun e w' => e = .returned (.int .i64 (liveA A c)) ∧ Below w.heap.size w w' := by
  obtain ⟨gs, Q, M, hP, hG⟩ := h.it
  have HM := Lib.hid (made_yes p w (show w.cell? ⟨p, 0, none⟩ = some (.int .i64 64) from hP.size (c := 0) (by decide)))
  have HI := Lib.hid (show ∀ W : World, Calls Try.prog 31 #[.int .i64 c] W fun e w' => e = .returned (.bool (inB c)) ∧ W = w' from fun W => isClass_any c W)
  by_cases hc : 0 ≤ c ∧ c ≤ 3
  · have hib : inB c = true := by unfold inB; rw [decide_eq_true hc]
    rw [hib] at HI
    obtain ⟨c, rfl⟩ : ∃ cn : Nat, c = cn := ⟨c.toNat, by omega⟩
    have c4 : c < 4 := by omega
    have q4 : (c : Int) < 4 := by omega
    have hbl := hP.blocks c4
    replace hbl : w.cell? ⟨p, c * 2 + 1, none⟩ = some (.slice (some ⟨gs c, 0, none⟩) (n c) (n c)) := hbl
    have hlen := hP.len c c4
    have hfew := h.few c c4
    have HL := Lib.hid (show liveA A (c : Int) = (((A c).countP heldP : Nat) : Int) from by unfold liveA; rw [if_pos (by omega)]; rfl)
    have HC := Lib.hid (show ∀ (k : Nat) (b : Blk), (A c)[k]? = some b → ∀ t, t < 5 → w.cell? ⟨gs c, k * 5 + t, none⟩ = (cellsP c k b (Q c k))[t]? from fun k b hb t ht => (hP.cell c4 hb ht).1)
    have hgl := hP.ltG c4
    clear hP hG h hib
    generalize A c = l at *
    generalize gs c = g at *
    generalize hN : n c = N at *
    subst hlen
    generalize Q c = qf at *
    go_enter Try.func24, Try.ntmps24
    go_wp2_with fail
    refine HM.out.mono ?_
    rintro e w1 ⟨rfl, rfl⟩
    go_wp2_with fail
    refine (HI.out _).mono ?_
    rintro e w1 ⟨rfl, rfl⟩
    go_wp2_with fail
    go_loopw [5, 24] (fun m v wr => ∃ k : Nat, k ≤ l.length ∧ v = .int .i64 (k : Int) ∧ m = .int .i64 (((l.take k).countP heldP : Nat) : Int) ∧ Below w.heap.size w wr) (fun _ v _ => l.length - (intOf v).toNat)
    case atStart => exact ⟨0, Nat.zero_le _, rfl, rfl, Below.refl _ _⟩
    case round =>
      obtain ⟨k, hk, rfl, rfl, hB⟩ := hrel
      have hle := heldP_le l k
      by_cases hlt : k < l.length
      · obtain ⟨b, hb⟩ : ∃ b, l[k] = b := ⟨_, rfl⟩
        have hb2 : l[k]? = some b := by rw [List.getElem?_eq_getElem hlt, hb]
        have hd := fun t ht => (hB.cell (p := ⟨g, k * 5 + t, none⟩) hgl).trans (HC.out k b hb2 t ht)
        have d0 := hd 0 (by decide)
        have d1 := hd 1 (by decide)
        have d2 := hd 2 (by decide)
        have d3 := hd 3 (by decide)
        have d4 := hd 4 (by decide)
        replace d0 : wr.cell? ⟨g, k * 5, none⟩ = some (.int .i64 (ownI c b.gen)) := d0
        replace d1 : wr.cell? ⟨g, k * 5 + 1, none⟩ = some (.int .i64 (ownI k b.gen)) := d1
        replace d2 : wr.cell? ⟨g, k * 5 + 2, none⟩ = some (.int .i64 (b.gen : Int)) := d2
        replace d3 : wr.cell? ⟨g, k * 5 + 3, none⟩ = some (.int .i64 (b.held : Int)) := d3
        replace d4 : wr.cell? ⟨g, k * 5 + 4, none⟩ = some (bytV c (qf k)) := d4
        clear hd
        generalize ownI c b.gen = x0 at d0
        generalize ownI k b.gen = x1 at d1
        obtain ⟨a4, n4, hv4⟩ : ∃ a n, bytV c (qf k) = .slice a n n := by
          cases qf k with
          | none => exact ⟨_, _, rfl⟩
          | some z => exact ⟨_, _, rfl⟩
        rw [hv4] at d4
        have HBn := Lib.hid (hB.alloc hB.size (.cells #[.int .i64 x0, .int .i64 x1, .int .i64 (b.gen : Int), .int .i64 (b.held : Int), .slice a4 n4 n4] 77))
        have HS := Lib.hid (heldP_step l k hlt)
        rw [hb] at HS
        clear hv4 hb hb2
        by_cases h0 : b.held = 0
        · have HN := Lib.hid (show (l.take (k + 1)).countP heldP = (l.take k).countP heldP from by rw [HS.out, if_pos h0]; rfl)
          have t0 : ¬ (0 : Int) < (b.held : Int) := by omega
          clear h0 HS
          generalize (l.take k).countP heldP = N at *
          go_wp2_with fail
          go_roundw
          case rel => exact ⟨k + 1, by omega, by go_num, by rw [HN.out], HBn.out⟩
          case measure => simp [intOf]; omega
        · have HN := Lib.hid (show (l.take (k + 1)).countP heldP = (l.take k).countP heldP + 1 from by rw [HS.out, if_neg h0])
          have t0 : (0 : Int) < (b.held : Int) := by omega
          clear h0 HS
          generalize (l.take k).countP heldP = N at *
          go_wp2_with fail
          go_roundw
          case rel => exact ⟨k + 1, by omega, by go_num, by rw [HN.out]; go_num, HBn.out⟩
          case measure => simp [intOf]; omega
      · have HP := Lib.hid (show liveA A (c : Int) = (((l.take k).countP heldP : Nat) : Int) from by rw [HL.out, List.take_of_length_le (by omega)])
        go_wp2_with fail
        go_ret
        exact ⟨by rw [HP.out]; rfl, hB⟩
  · have hib : inB c = false := by unfold inB; rw [decide_eq_false hc]
    rw [hib] at HI
    have HL := Lib.hid (show liveA A c = 0 from by unfold liveA; rw [if_neg hc])
    clear hP hG h hib
    go_enter Try.func24, Try.ntmps24
    go_wp2_with fail
    refine HM.out.mono ?_
    rintro e w1 ⟨rfl, rfl⟩
    go_wp2_with fail
    refine (HI.out _).mono ?_
    rintro e w1 ⟨rfl, rfl⟩
    go_wp2_with fail
    go_ret
    exact ⟨by rw [HL.out]; rfl, Below.refl _ _⟩
end Go.Proofs.Ytheljldoboiekaa.Sl
