/-
  slices.Grow at bytes: what it leaves. Condition: at most 2^40 bytes.
-/
import Derived.Test.YtoofdompafkddaaDoorHdChg
import Derived.Test.YtoofdompafkddaaDoorLnShelf
namespace Go.Proofs.YtoofdompafkddaaDoor.Hd
open Go.RowKit Go.Proofs.YtoofdompafkddaaDoor.Tk Go.Proofs.YtoofdompafkddaaDoor.Fd
set_option linter.unusedVariables false

theorem infoByte : (Tryd.prog.info? 5).map (·.size) = some 1 := by kernel_rfl
theorem infoByte3 : (Tryd.prog.info? 5).map (fun i => (i.zero, i.size, i.bytes)) = some (some (.int .u8 0), 1, 1) := by kernel_rfl
/-- A row with room: its block, its cells. -/
structure RowB (w : World) (q C : Nat) (cur : Array Value) (l : Bs) (m : Nat) : Prop where
  blk : w.heap[q]? = some (.cells cur 5 (0, 0))
  size : cur.size = C
  cap : C ≤ maxLen
  room : l.length + m ≤ C
  here : cur.toList.take l.length = bys l
def GrowPost (w : World) (lv : Value) (l : Bs) (m : Nat) (e : Ending) (w' : World) : Prop :=
  ∃ q C cur, e = .returned (.slice (some ⟨q, 0, none⟩) l.length C) ∧ RowB w' q C cur l m ∧ Below w.heap.size w w' ∧ (lv.ownBlock = some q ∨ q = w.heap.size)
theorem grown_size (w : World) (cs : List Value) (l n c : Nat) (t : TypeId) (z : Array Value) (hz : z.size = 1) (hc : cs.length = c) (h : c < l + n) :
    (cs.toArray ++ Builtin.zeroCells z (l + n - c) ++ Builtin.zeroCells z (grownCap w (l + n) c t - (l + n))).size = grownCap w (l + n) c t := by
  have hg := grownCap_ge w (l + n) c t
  simp only [Array.size_append, List.size_toArray, size_zeroCells, hz, hc]
  omega
set_option maxRecDepth 100000 in
theorem grow_any (lv : Value) (l : Bs) (m : Nat) (w : World) (h : OwnB w lv l) (hm : 0 < m) (hb : l.length + m ≤ 1099511627776) :
    Calls Tryd.prog 84 #[lv, .int .i64 (m : Int)] w (GrowPost w lv l m) := by
  obtain ⟨i0, hi, hz0, hz1, hz2⟩ := info_parts infoByte3
  rcases h.2 with ⟨rfl, h0⟩ | ⟨q, C, cur, hv, _, hh, hlc, hcm, hcs, htk⟩
  · have hl : l = [] := List.length_eq_zero_iff.1 h0
    subst hl
    refine (Any8.slices_Grow_grow Ln.laysGrow i0 _ hi hz0 (by rw [hz1]; omega) none 0 0 m [] w (Nat.le_refl _) (by omega) (by rw [hz2]; simp at hb ⊢; omega) (by simp at hb ⊢; omega) (by simp) (fun _ => rfl) (fun a ha => by cases ha)).mono ?_
    rintro e w' ⟨rfl, rfl⟩
    refine ⟨_, _, _, rfl, ⟨new_block' _ _ rfl, grown_size w [] 0 m 0 _ _ rfl rfl (by omega), ?_, ?_, by simp [bys]⟩, (Below.refl _ _).drew.alloc (Nat.le_refl _) _, .inr rfl⟩
    · exact grownCap_le_maxLen w (0 + m) 0 _ (by unfold maxLen; simp at hb; omega)
    · exact grownCap_ge w (0 + m) 0 _
  · subst hv
    by_cases hr : l.length + m ≤ C
    · refine (Ln.slices_Grow_room _ l.length C m w hlc (by unfold maxLen at hcm; omega) (by omega) hr).mono ?_
      rintro e w' ⟨rfl, rfl⟩
      exact ⟨q, C, cur, rfl, ⟨hh, by omega, hcm, hr, by simpa using htk⟩, Below.refl _ _, .inl rfl⟩
    · refine (Any8.slices_Grow_grow Ln.laysGrow i0 _ hi hz0 (by rw [hz1]; omega) (some ⟨q, 0, none⟩) l.length C m cur.toList w hlc (by omega) (by rw [hz2]; omega) (by omega) (by rw [hz1]; simpa using hcs) (fun h => by cases h)
        (fun a ha j v hj => by injection ha with ha; subst ha; exact World.news_of_block hh j v hj)).mono ?_
      rintro e w' ⟨rfl, rfl⟩
      have hcl : cur.toList.length = C := by simpa using hcs
      refine ⟨_, _, _, rfl, ⟨new_block' _ _ rfl, grown_size w cur.toList l.length m C _ _ rfl hcl (by omega), ?_, ?_, ?_⟩, (Below.refl _ _).drew.alloc (Nat.le_refl _) _, .inr rfl⟩
      · exact grownCap_le_maxLen w (l.length + m) C _ (by unfold maxLen; omega)
      · exact grownCap_ge w (l.length + m) C _
      · rw [Array.toList_append, Array.toList_append, List.append_assoc, List.take_append_of_le_length (by simp; omega)]
        simpa using htk

theorem RowB.owns {w : World} {q C : Nat} {cur : Array Value} {l b : Bs} (h : RowB w q C cur l b.length) :
    OwnB (w.setRow q (cur.toList.take l.length ++ (bys b ++ cur.toList.drop (l.length + (bys b).length))).toArray) (.slice (some ⟨q, 0, none⟩) (l ++ b).length C) (l ++ b) := by
  have hr := h.room
  have hs : cur.toList.length = C := by simpa using h.size
  have hlt : l.length ≤ cur.toList.length := by omega
  refine ⟨by rw [bys_length, Nat.mul_one], .inr ⟨q, C, _, rfl, Nat.zero_le _, setRow_heap w q cur _ _ _ h.blk, by simpa using hr, h.cap, ?_, ?_⟩⟩
  · simp only [List.size_toArray, List.length_append, List.length_take, List.length_drop, bys_length]; omega
  · rw [bys_append, ← h.here, List.length_append]
    have e1 : (cur.toList.take l.length).length = l.length := by rw [List.length_take]; omega
    show (cur.toList.take l.length ++ (bys b ++ _)).take _ = _
    rw [← List.append_assoc, Nat.mul_one, List.take_append_of_le_length (by rw [List.length_append, e1, bys_length]; omega), List.take_of_length_le (by rw [List.length_append, e1, bys_length]; omega)]

end Go.Proofs.YtoofdompafkddaaDoor.Hd
