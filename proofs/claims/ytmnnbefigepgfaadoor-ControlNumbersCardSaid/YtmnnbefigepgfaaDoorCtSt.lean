/-
  A loop over elements: what lies where; lengths of an element's parts. No condition.
-/
import Derived.Test.YtmnnbefigepgfaaDoorCtAct
import Derived.Test.YtmnnbefigepgfaaDoorFdNamesMath
import Derived.Test.YtmnnbefigepgfaaDoorFdTextsDef
import Derived.Test.YtmnnbefigepgfaaDoorTokSplitAll
namespace Go.Proofs.YtmnnbefigepgfaaDoor.Ct
open Go.RowKit Go.Proofs.YtmnnbefigepgfaaDoor.Tk Go.Proofs.YtmnnbefigepgfaaDoor.Fd Go.Proofs.YtmnnbefigepgfaaDoor.Hd
set_option linter.unusedVariables false

theorem unqGo_len : ∀ (n : Nat) (r : Bs), r.length ≤ n → ∀ u, unqGo r = some u → u.length ≤ r.length
  | 0, r, h, u, hu => by
    obtain rfl : r = [] := List.length_eq_zero_iff.1 (by omega)
    rw [unqGo_nil] at hu; cases hu
  | n + 1, [], h, u, hu => by rw [unqGo_nil] at hu; cases hu
  | n + 1, c :: r, h, u, hu => by
    have hr : r.length ≤ n := by simp at h; omega
    rw [unqGo.eq_def] at hu
    simp only at hu
    split at hu
    · split at hu
      · injection hu with hu; subst hu; simp
      · cases hu
    · split at hu
      · match r, hr, hu with
        | [], hr, hu => cases hu
        | d :: r', hr, hu =>
          simp only at hu
          split at hu
          · rw [Option.map_eq_some_iff] at hu
            obtain ⟨y, hy, rfl⟩ := hu
            have := unqGo_len n r' (by simp at hr; omega) y hy
            simp; omega
          · cases hu
      · split at hu
        · rw [Option.map_eq_some_iff] at hu
          obtain ⟨y, hy, rfl⟩ := hu
          have := unqGo_len n r hr y hy
          simp; omega
        · cases hu
theorem unq_len {q u : Bs} (h : unq q = some u) : u.length ≤ q.length := by
  cases q with
  | nil => cases h
  | cons c r =>
    unfold unq at h
    simp only at h
    split at h
    · have := unqGo_len _ r (Nat.le_refl _) u h
      simp; omega
    · cases h
theorem pair_sizes {x a : Bs} {v : Option Bs} (h : pairOf x = some (a, v)) : a.length ≤ x.length ∧ (valB v).size ≤ x.length := by
  have hz : (valB none).size ≤ x.length := Nat.zero_le _
  have hs : ∀ y : Bs, (valB (some y)).size = y.length := fun y => by show y.toArray.size = _; rw [List.size_toArray]
  unfold pairOf at h
  split at h
  · cases h
  · split at h
    · injection h with h; injection h with h1 h2; subst h1 h2; exact ⟨Nat.le_refl _, hz⟩
    · split at h
      · injection h with h; injection h with h1 h2; subst h1 h2
        refine ⟨by rw [List.length_take]; omega, ?_⟩
        rw [hs, List.length_drop]; omega
      · rw [Option.map_eq_some_iff] at h
        obtain ⟨u, hu, h⟩ := h
        injection h with h1 h2; subst h1 h2
        refine ⟨by rw [List.length_take]; omega, ?_⟩
        have := unq_len hu
        rw [List.length_drop] at this
        rw [hs]; omega
/-- What lies where while elements are gone over: the result's box, what is said so far, the map, the list. -/
structure St (w : World) (r g M : Nat) (lv : Value) (ls : List Bs) (c : Con) (W : World) : Prop where
  bel : Below w.heap.size w W
  res : W.heap[r]? = some (.cells blank13 26 (0, 0))
  con : ConAt W g c
  kn : Known W g M table
  row : W.ownsRow (g + 1) 9 1 lv ls.length (ls.map TS)
section
variable {w : World} {r g M : Nat} {lv : Value} {ls : List Bs} {c c' : Con} {W W' : World}
theorem St.more (h : St w r g M lv ls c W) (hM : g < M) (hb : Below W.heap.size W W') : St w r g M lv ls c W' :=
  ⟨Bl.next h.bel hb, Bl.old hb (block_lt h.res) h.res, Bl.old hb (block_lt h.con) h.con, h.kn.more hM hb, Fd.owns_kept h.row hb⟩
theorem St.put (h : St w r g M lv ls c W) (hM : g < M) (hr : r ≠ g) (hg : w.heap.size ≤ g) {i : Nat} {x : Value} (hp : PutAt W W' ⟨g, i, none⟩ x) (hc : ConAt W' g c') : St w r g M lv ls c' W' :=
  ⟨hp.below h.bel hg, (hp.far hr).trans h.res, hc, h.kn.put hM hp, row_same h.row fun k hk => hp.far (by
    have := (World.ownsRow.lt h.row k hk).1
    show k ≠ g; omega)⟩
theorem St.cell (h : St w r g M lv ls c W) {b cap : Nat} (hv : lv = .slice (some ⟨b, 0, none⟩) ls.length cap) (k : Nat) (hk : k < ls.length) : W.cell? ⟨b, k, none⟩ = some (.string ⟨ls[k].toArray⟩) := by
  have h1 := h.row
  rw [hv] at h1
  rw [h1.cellAt k (by omega), List.getElem?_map, List.getElem?_eq_getElem hk]; rfl
theorem St.shape (h : St w r g M lv ls c W) : ∃ a cap, lv = .slice a ls.length cap ∧ (0 < ls.length → ∃ b, a = some ⟨b, 0, none⟩) := by
  rcases h.row.2 with ⟨hv, h0⟩ | ⟨b, cap, cur, hv, _⟩
  · exact ⟨none, 0, by rw [hv, h0], fun h => by omega⟩
  · exact ⟨_, cap, hv, fun _ => ⟨b, rfl⟩⟩
end
theorem foldl_next (ls : List Bs) (k : Nat) (hk : k < ls.length) : (ls.take (k + 1)).foldl elem .zero = elem ((ls.take k).foldl elem .zero) ls[k] := by
  rw [List.take_succ_eq_append_getElem hk, List.foldl_append]; rfl
end Go.Proofs.YtmnnbefigepgfaaDoor.Ct
