/-
  Requests and responses that came in, read as texts, numbers and fields. Condition: what the form says of what is read.
-/
import Derived.Test.YtoofdompafkddaaDoorFdOpen
namespace Go.Proofs.YtoofdompafkddaaDoor.Fd
open Go.RowKit Tk Go.ChangeShapes Go.WideShapes Go.Deep Go.Joins
set_option linter.unusedVariables false

set_option maxRecDepth 100000 in
theorem open_flds_in {H : Type} {enc : TypeId × Value → H} {W : World} {v : Value} {d : DataW H} {p : List MemPlace} {fuel : Nat}
    (hf : DataW.trod enc Tryd.prog W 0 (fun _ => true) true fuel 27 [v] = some (d, p)) (hw : ∀ n ∈ d.weights Tryd.prog 27, n ≤ reachBytes) :
    ∃ fs : List Fl, Flds W v fs ∧ fs.length ≤ 140737488355328 ∧ ∀ f ∈ fs, f.1.size ≤ 140737488355328 ∧ f.2.size ≤ 140737488355328 := by
  rcases open_slice_pairs Tryd.underlying27 Tryd.underlying56 cellsField rfl rfl cellsText cellsText hf with ⟨hcs, _⟩ | ⟨a, len, cap, m, n, V0, V1, D0, D1, P0, P1, hcs, _, hl, hm, hmm, hx, hat⟩
  · simp at hcs
    subst hcs
    exact ⟨[], .inl ⟨rfl, _, _, rfl⟩, by simp, fun _ hf => by simp at hf⟩
  · simp at hcs
    subst hcs
    obtain ⟨len0, hlen0⟩ : ∃ l, l = len := ⟨_, rfl⟩
    subst hlen0
    have hmc : m = cap := by simpa using hmm
    subst hmc
    have hd : d = _ := congrArg Prod.fst hx
    have each : ∀ i, i < len0 → V0 i = .string (strOf (V0 i)) ∧ V1 i = .string (strOf (V1 i)) ∧ (strOf (V0 i)).size ≤ reachBytes ∧ (strOf (V1 i)).size ≤ reachBytes := by
      intro i hi
      obtain ⟨_, _, t0, t1⟩ := hat i (by omega)
      obtain ⟨s0, e0, x0, _⟩ := DataW.trod_string Tryd.underlying9 t0
      obtain ⟨s1, e1, x1, _⟩ := DataW.trod_string Tryd.underlying9 t1
      injection e0 with e0
      injection e1 with e1
      have hin : ∀ k ∈ (DataW.agg [D0 i, D1 i] : DataW H).weights Tryd.prog 56, k ≤ reachBytes := fun k hk => by
        apply hw
        rw [hd, DataW.weights, Tryd.underlying27]
        simp only [List.mem_cons, List.mem_append]
        exact .inr (.inl (weights_in (List.mem_map.2 ⟨i, List.mem_range.2 hi, rfl⟩) k hk))
      have y0 : D0 i = .lit (.string s0.data.toList) := congrArg Prod.fst x0
      have y1 : D1 i = .lit (.string s1.data.toList) := congrArg Prod.fst x1
      rw [y0, y1] at hin
      have z0 := hin _ (agg_weights s0.data.toList s1.data.toList (.inl rfl))
      have z1 := hin _ (agg_weights s0.data.toList s1.data.toList (.inr rfl))
      rw [e0, e1]
      exact ⟨rfl, rfl, by simpa [strOf] using z0, by simpa [strOf] using z1⟩
    have hlen : len0 * 32 ≤ reachBytes := by
      have : (len0 + (m - len0)) * Tryd.prog.bytesOf 56 ∈ d.weights Tryd.prog 27 := by
        rw [hd, DataW.weights, Tryd.underlying27]
        simp
      have h2 := hw _ this
      have h3 : Tryd.prog.bytesOf 56 = 32 := by kernel_rfl
      rw [h3] at h2
      exact Nat.le_trans (Nat.mul_le_mul_right _ (by omega)) h2
    unfold reachBytes at each hlen
    refine ⟨(List.range len0).map fun i => (strOf (V0 i), strOf (V1 i)), ?_, by simp; omega, fun f hf => ?_⟩
    · by_cases h0 : len0 = 0
      · subst h0; exact .inl ⟨rfl, _, _, rfl⟩
      · obtain ⟨b, off, spot⟩ := a
        have hc0 := (hat 0 (by omega)).1
        have hs : spot = none := by simpa [Addr.add] using World.cell?_spot hc0
        subst hs
        refine .inr ⟨b, off, m, by simp, ?_, fun j hj => ?_⟩
        · rw [Addr.add_lit] at hc0
          exact World.block_lt_of_cell? W _ hc0
        · have hj' : j < len0 := by simpa using hj
          obtain ⟨c0, c1, _, _⟩ := hat j (by omega)
          rw [Addr.add_lit] at c0 c1
          obtain ⟨q0, q1, _⟩ := each j hj'
          simp only [List.getElem_map, List.getElem_range]
          rw [c0, q0, Nat.add_assoc, c1, q1]
          exact ⟨by simp [strOf], by simp [strOf]⟩
    · obtain ⟨i, hi, rfl⟩ := List.mem_map.1 hf
      obtain ⟨_, _, q0, q1⟩ := each i (List.mem_range.1 hi)
      exact ⟨by show (strOf (V0 i)).size ≤ _; omega, by show (strOf (V1 i)).size ≤ _; omega⟩
set_option maxRecDepth 100000 in
theorem open_req {H : Type} {enc : TypeId × Value → H} {W : World} {base : Nat} {v : Value} {d : DataW H} {p : List MemPlace} (hv : Value.okWide Tryd.prog W .any base 29 v)
    (h : DataW.Trod enc Tryd.prog W 0 (fun _ => true) true 29 v d p) (hw : ∀ n ∈ d.weights Tryd.prog 29, n ≤ reachBytes) :
    ∃ (a b : ByteArray) (m : Int) (u : Value) (fs : List Fl), v = .agg #[.string a, .string b, .int .i64 m, u] ∧ Flds W u fs ∧ fs.length ≤ 140737488355328 ∧ ∀ f ∈ fs, f.1.size ≤ 140737488355328 ∧ f.2.size ≤ 140737488355328 := by
  obtain ⟨v0, v1, v2, v3, y0, y1, y2, y3, n, rfl, rfl, rfl, g0, g1, g2, g3⟩ := open_agg4 Tryd.underlying29 (by kernel_rfl) (by kernel_rfl) hv h
  obtain ⟨a, e0, _, _⟩ := DataW.trod_string Tryd.underlying9 g0
  obtain ⟨b, e1, _, _⟩ := DataW.trod_string Tryd.underlying9 g1
  obtain ⟨m, e2, _, _⟩ := DataW.trod_int Tryd.underlying3 g2
  injection e0 with e0
  injection e1 with e1
  injection e2 with e2
  subst e0 e1 e2
  obtain ⟨D, Q⟩ := y3
  obtain ⟨fs, h1, h2, h3⟩ := open_flds_in g3 (fun k hk => hw k (by
    rw [DataW.weights, Tryd.underlying29]
    exact DataW.weights_mem_each (j := 3) (t := 27) (d := D) rfl rfl _ hk))
  exact ⟨a, b, m, v3, fs, rfl, h1, h2, h3⟩
set_option maxRecDepth 100000 in
theorem open_res {H : Type} {enc : TypeId × Value → H} {W : World} {base : Nat} {v : Value} {d : DataW H} {p : List MemPlace} (hv : Value.okWide Tryd.prog W .any base 31 v)
    (h : DataW.Trod enc Tryd.prog W 0 (fun _ => true) true 31 v d p) (hw : ∀ n ∈ d.weights Tryd.prog 31, n ≤ reachBytes) :
    ∃ (m c : Int) (r : ByteArray) (u : Value) (fs : List Fl), v = .agg #[.int .i64 m, .int .i64 c, .string r, u] ∧ Flds W u fs ∧ fs.length ≤ 140737488355328 ∧ ∀ f ∈ fs, f.1.size ≤ 140737488355328 ∧ f.2.size ≤ 140737488355328 := by
  obtain ⟨v0, v1, v2, v3, y0, y1, y2, y3, n, rfl, rfl, rfl, g0, g1, g2, g3⟩ := open_agg4 Tryd.underlying31 (by kernel_rfl) (by kernel_rfl) hv h
  obtain ⟨m, e0, _, _⟩ := DataW.trod_int Tryd.underlying3 g0
  obtain ⟨c, e1, _, _⟩ := DataW.trod_int Tryd.underlying3 g1
  obtain ⟨r, e2, _, _⟩ := DataW.trod_string Tryd.underlying9 g2
  injection e0 with e0
  injection e1 with e1
  injection e2 with e2
  subst e0 e1 e2
  obtain ⟨D, Q⟩ := y3
  obtain ⟨fs, h1, h2, h3⟩ := open_flds_in g3 (fun k hk => hw k (by
    rw [DataW.weights, Tryd.underlying31]
    exact DataW.weights_mem_each (j := 3) (t := 27) (d := D) rfl rfl _ hk))
  exact ⟨m, c, r, v3, fs, rfl, h1, h2, h3⟩
end Go.Proofs.YtoofdompafkddaaDoor.Fd
