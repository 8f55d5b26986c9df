/-
  framing.OfRequest and OfResponse: what they return. Conditions: fields of at most 2^19 bytes; the table of token bytes.
-/
import Derived.Test.YtoofdompafkddaaDoorFrTold
namespace Go.Proofs.YtoofdompafkddaaDoor.Fr
open Go.RowKit Go.Proofs.YtoofdompafkddaaDoor.Tk Go.Proofs.YtoofdompafkddaaDoor.Fd
set_option linter.unusedVariables false

theorem four_cells {w : World} {g : Nat} {a b c d : Value} {t : TypeId} {fr : Nat × Nat} (h : w.heap[g]? = some (.cells #[a, b, c, d] t fr)) : w.cell? ⟨g, 0, none⟩ = some a ∧ w.cell? ⟨g, 1, none⟩ = some b ∧ w.cell? ⟨g, 2, none⟩ = some c ∧ w.cell? ⟨g, 3, none⟩ = some d := by
  refine ⟨?_, ?_, ?_, ?_⟩ <;> (rw [Lib.cell_of_heap h]; rfl)
theorem TriPost.at {R : Int × Int × Int} {w w0 : World} {e : Ending} {w' : World} (h : TriPost R w e w') (hb : Below w0.heap.size w0 w) : TriPost R w0 e w' := ⟨h.1, hb.trans (h.2.mono hb.size)⟩
set_option maxRecDepth 100000 in
set_option maxHeartbeats 4000000 in
theorem ofRequest_any (a b : ByteArray) (m : Int) (v : Value) (fs : List Fl) (w : World) (hf : Flds w v fs) (ht : tot fs ≤ 524288) (hT : Tab w) :
    Calls Tryd.prog 27 #[.agg #[.string a, .string b, .int .i64 m, v]] w (TriPost (toldVal m fs 0) w) := by
  have hb := (Below.refl w.heap.size w).alloc (Nat.le_refl _) (.cells #[.string a, .string b, .int .i64 m, v] 29)
  have HB := Lib.hid hb
  have HC := Lib.hid (told_any m 0 v fs _ (hf.below hb (Nat.le_refl _)) ht (hT.below hb hT.lt))
  obtain ⟨va, vc, hv⟩ := hf.shape
  subst hv
  obtain ⟨_, _, c2, c3⟩ := four_cells (new_block w (.cells #[.string a, .string b, .int .i64 m, .slice va fs.length vc] 29))
  clear hf hT hb
  go_enter Tryd.func27, Tryd.ntmps27
  go_wp2_with fail
  refine HC.out.mono ?_
  intro e w1 hp
  have HP := Lib.hid (hp.at HB.out)
  obtain ⟨rfl, _⟩ := hp
  go_wp2_with fail
  go_ret3
  exact HP.out
/-- What a response's framing is. -/
def resVal (m c : Int) (fs : List Fl) (method : ByteArray) : Int × Int × Int :=
  if method.toList = [72, 69, 65, 68] ∨ c < 200 ∨ c = 204 ∨ c = 304 then (0, 0, 0) else toldVal m fs 3
theorem resVal_none {m c : Int} {fs : List Fl} {k : ByteArray} (h : k.toList = [72, 69, 65, 68] ∨ c < 200 ∨ c = 204 ∨ c = 304) : resVal m c fs k = (0, 0, 0) := if_pos h
theorem resVal_some {m c : Int} {fs : List Fl} {k : ByteArray} (h : ¬ (k.toList = [72, 69, 65, 68] ∨ c < 200 ∨ c = 204 ∨ c = 304)) : resVal m c fs k = toldVal m fs 3 := if_neg h
set_option maxRecDepth 100000 in
set_option maxHeartbeats 4000000 in
theorem ofResponse_any (m c : Int) (r : ByteArray) (v : Value) (fs : List Fl) (k : ByteArray) (w : World) (hf : Flds w v fs) (ht : tot fs ≤ 524288) (hT : Tab w) :
    Calls Tryd.prog 29 #[.agg #[.int .i64 m, .int .i64 c, .string r, v], .string k] w (TriPost (resVal m c fs k) w) := by
  have hb := (Below.refl w.heap.size w).alloc (Nat.le_refl _) (.cells #[.int .i64 m, .int .i64 c, .string r, v] 31)
  have HB := Lib.hid hb
  have HC := Lib.hid (told_any m 3 v fs _ (hf.below hb (Nat.le_refl _)) ht (hT.below hb hT.lt))
  obtain ⟨va, vc, hv⟩ := hf.shape
  subst hv
  obtain ⟨c0, c1, _, c3⟩ := four_cells (new_block w (.cells #[.int .i64 m, .int .i64 c, .string r, .slice va fs.length vc] 31))
  clear hf hT hb
  by_cases h1 : k.toList = [72, 69, 65, 68] ∨ c < 200 ∨ c = 204 ∨ c = 304
  · have HP := Lib.hid (tri_post (w := w) (resVal_none (m := m) (fs := fs) h1) HB.out)
    by_cases k1 : k.toList = [72, 69, 65, 68]
    · have hk1 : (k.toList == [72, 69, 65, 68]) = true := by rw [beq_iff_eq]; exact k1
      clear h1 k1
      go_enter Tryd.func29, Tryd.ntmps29
      go_wp2_with fail
      go_ret3
      exact HP.out
    · have hk1 : (k.toList == [72, 69, 65, 68]) = false := by rw [beq_eq_false_iff_ne]; exact k1
      by_cases c200 : c < 200
      · clear h1 k1
        go_enter Tryd.func29, Tryd.ntmps29
        go_wp2_with fail
        go_ret3
        exact HP.out
      · by_cases c204 : c = 204
        · have d1 : (c == 204) = true := by rw [beq_iff_eq]; exact c204
          clear h1 k1 c204
          go_enter Tryd.func29, Tryd.ntmps29
          go_wp2_with fail
          go_ret3
          exact HP.out
        · have d1 : (c == 204) = false := by rw [beq_eq_false_iff_ne]; exact c204
          have d2 : (c == 304) = true := by
            rw [beq_iff_eq]
            rcases h1 with h | h | h | h
            · exact absurd h k1
            · exact absurd h c200
            · exact absurd h c204
            · exact h
          clear h1 k1 c204
          go_enter Tryd.func29, Tryd.ntmps29
          go_wp2_with fail
          go_ret3
          exact HP.out
  · have hk1 : (k.toList == [72, 69, 65, 68]) = false := by rw [beq_eq_false_iff_ne]; exact fun h => h1 (.inl h)
    have c200 : ¬ c < 200 := fun h => h1 (.inr (.inl h))
    have d1 : (c == 204) = false := by rw [beq_eq_false_iff_ne]; exact fun h => h1 (.inr (.inr (.inl h)))
    have d2 : (c == 304) = false := by rw [beq_eq_false_iff_ne]; exact fun h => h1 (.inr (.inr (.inr h)))
    have HR := Lib.hid (resVal_some (m := m) (fs := fs) h1)
    clear h1
    go_enter Tryd.func29, Tryd.ntmps29
    go_wp2_with fail
    refine HC.out.mono ?_
    intro e w1 hp
    have HP := Lib.hid (show TriPost (resVal m c fs k) w e w1 from by rw [HR.out]; exact hp.at HB.out)
    obtain ⟨rfl, _⟩ := hp
    rw [← HR.out]
    rw [← HR.out] at HP
    go_wp2_with fail
    go_ret3
    exact HP.out
end Go.Proofs.YtoofdompafkddaaDoor.Fr
