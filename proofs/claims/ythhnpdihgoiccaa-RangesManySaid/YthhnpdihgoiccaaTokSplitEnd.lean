/-
  The closure of token.Split that ends an element. Condition: a text of at most 2^32 bytes.
-/
import Derived.Test.YthhnpdihgoiccaaTokSplit
namespace Go.Proofs.Ythhnpdihgoiccaa.Tk
open Go.RowKit

theorem infoString : (Try.prog.info? 9).map (fun i => (i.zero, i.size, i.bytes)) = some (some (.string ⟨#[]⟩), 1, 16) := by kernel_rfl

/-- The part of the text that is handed to trim. -/
theorem part_holds {w : World} {B fr til : Nat} {l : Bs} (h : Holds w B 0 l) (htil : til ≤ l.length) : Holds w B fr ((l.take til).drop fr) := by
  have := h.part fr til htil
  rwa [Nat.zero_add] at this

/-- Only the place where the element begins has turned. -/
theorem Inv.moved {w0 w : World} {B cap fr til : Nat} {l : Bs} {ls : List Bs} {C : Array Value} (h : Inv w0 B l cap fr ls C w) (hf : fr ≤ til) :
    Inv w0 B l cap (til + 1) ls C (w.setCell ⟨B + 3, 0, none⟩ (.int .i64 ((til : Int) + 1))) := by
  obtain ⟨v, hv, hown⟩ := h.list
  have e : ((til : Int) + 1) = ((til + 1 : Nat) : Int) := by omega
  refine ⟨h.base, ?_, h.bytes, h.room, ?_, ?_, ⟨v, ?_, ?_⟩, ?_, h.below.setCell (by show B ≤ B + 3; omega) _⟩
  · rw [Below.heap_setCell _ _ _ _ (by show B ≠ B + 3; omega)]; exact h.text
  · rw [Below.heap_setCell _ _ _ _ (by show B + 1 ≠ B + 3; omega)]; exact h.vText
  · rw [e]; exact one_setCell h.vFrom
  · rw [Below.heap_setCell _ _ _ _ (by show B + 2 ≠ B + 3; omega)]; exact hv
  · exact ownsRow_setCell_below hown (by show B + 3 < B + 4; omega) _
  · have := h.few; omega

set_option maxHeartbeats 1000000 in
theorem end_none (w0 : World) (B cap fr til : Nat) (l : Bs) (ls : List Bs) (C : Array Value) (w : World) (h : Inv w0 B l cap fr ls C w) (hl : l.length ≤ 4294967296) (hf : fr ≤ til) (ht : til ≤ l.length) (hz : trim ((l.take til).drop fr) = []) :
    Calls Try.prog 22 #[.int .i64 (til : Int), .pointer (some ⟨B + 1, 0, none⟩), .pointer (some ⟨B + 3, 0, none⟩), .pointer (some ⟨B + 2, 0, none⟩)] w fun e w' => e = .returned (.tuple #[]) ∧ Inv w0 B l cap (til + 1) (fin ls ((l.take til).drop fr)) C w' := by
  have hH := part_holds (fr := fr) h.holds ht
  have cT := cell_of_one h.vText
  have cF := cell_of_one h.vFrom
  have fF := free_of_one h.vFrom
  have hroom := h.room
  have HH := Lib.hid hH
  have HL := Lib.hid (part_length l fr til ht)
  have HZ := Lib.hid hz
  have HI := Lib.hid (h.moved hf)
  have HE := Lib.hid (show fin ls ((l.take til).drop fr) = ls from by unfold fin; rw [if_pos hz])
  clear hH hz h
  by_cases he : fr < til
  · go_enter Try.func22, Try.ntmps22
    go_wp2_with fail
    refine (trimSlice_at B fr (til - fr) (til - fr) _ w HL.out (by unfold maxLen; omega) (Nat.le_refl _) HH.out).mono ?_
    rintro e w' ⟨⟨off', rfl, -⟩, rfl⟩
    rw [HZ.out]
    go_wp2_with fail
    go_end0
    exact ⟨rfl, by rw [HE.out]; exact HI.out⟩
  · obtain rfl : fr = til := by omega
    go_enter Try.func22, Try.ntmps22
    go_wp2_with fail
    refine (trimSlice_at B 0 0 0 [] w rfl (by unfold maxLen; omega) (Nat.le_refl _) (Holds.nil _ _ _)).mono ?_
    rintro e w' ⟨⟨off', rfl, -⟩, rfl⟩
    rw [show trim [] = [] from rfl]
    go_wp2_with fail
    go_end0
    exact ⟨rfl, by rw [HE.out]; exact HI.out⟩

/-- Behind the append, and the stores of the list and of the place. -/
theorem Inv.grown {w0 w w1 : World} {B cap fr til : Nat} {l : Bs} {ls : List Bs} {C : Array Value} {x : Bs} {v v' : Value} (h : Inv w0 B l cap fr ls C w) (hf : fr ≤ til)
    (hv : w.heap[B + 2]? = some (.cells #[v] 42 (0, 0))) (hown : w.ownsRow (B + 4) 9 1 v ls.length (ls.map S))
    (hown' : w1.ownsRow (B + 4) 9 1 v' (ls.length + 1) (ls.map S ++ [S x])) (hg : (w.alloc (.cells #[S x] 9)).grownBy w1 v.ownBlock) :
    (∃ u, w1.cell? ⟨B + 2, 0, none⟩ = some u) ∧ w1.frozen? ⟨B + 2, 0, none⟩ = false ∧ (w1.setCell ⟨B + 2, 0, none⟩ v').cell? ⟨B + 3, 0, none⟩ = some (.int .i64 (fr : Int)) ∧ (w1.setCell ⟨B + 2, 0, none⟩ v').frozen? ⟨B + 3, 0, none⟩ = false ∧
    Inv w0 B l cap (til + 1) (ls ++ [x]) C ((w1.setCell ⟨B + 2, 0, none⟩ v').setCell ⟨B + 3, 0, none⟩ (.int .i64 ((til : Int) + 1))) := by
  have hrow : ∀ k, k < B + 4 → some k ≠ v.ownBlock := fun k hk e => by have := (hown.lt k e.symm).1; omega
  have hlt : B + 3 < w.heap.size := lt_of_block h.vFrom
  have hb : ∀ k, k < B + 4 → w1.heap[k]? = w.heap[k]? := fun k hk => by
    rw [hg.block k (by rw [World.size_alloc]; omega) (hrow k hk), Below.heap_alloc _ _ _ (by omega)]
  have bl : Below B w0 w1 := (h.below.alloc (by omega) _).grown hg (by rw [World.size_alloc]; omega) (fun k hk => by have := (hown.lt k hk).1; omega)
  have v2 := (hb (B + 2) (by omega)).trans hv
  have v3 := (hb (B + 3) (by omega)).trans h.vFrom
  have v3' : (w1.setCell ⟨B + 2, 0, none⟩ v').heap[B + 3]? = some (.cells #[.int .i64 (fr : Int)] 3 (0, 0)) := by
    rw [Below.heap_setCell _ _ _ _ (by show B + 3 ≠ B + 2; omega)]; exact v3
  have hI : Inv w0 B l cap fr (ls ++ [x]) C (w1.setCell ⟨B + 2, 0, none⟩ v') → Inv w0 B l cap (til + 1) (ls ++ [x]) C ((w1.setCell ⟨B + 2, 0, none⟩ v').setCell ⟨B + 3, 0, none⟩ (.int .i64 ((til : Int) + 1))) := fun hh => hh.moved hf
  refine ⟨⟨_, cell_of_one v2⟩, free_of_one v2, cell_of_one v3', free_of_one v3', ?_⟩
  have e : ((til : Int) + 1) = ((til + 1 : Nat) : Int) := by omega
  refine ⟨h.base, ?_, h.bytes, h.room, ?_, ?_, ⟨v', ?_, ?_⟩, ?_, (bl.setCell (by show B ≤ B + 2; omega) _).setCell (by show B ≤ B + 3; omega) _⟩
  · rw [Below.heap_setCell _ _ _ _ (by show B ≠ B + 3; omega), Below.heap_setCell _ _ _ _ (by show B ≠ B + 2; omega), hb B (by omega)]; exact h.text
  · rw [Below.heap_setCell _ _ _ _ (by show B + 1 ≠ B + 3; omega), Below.heap_setCell _ _ _ _ (by show B + 1 ≠ B + 2; omega), hb (B + 1) (by omega)]; exact h.vText
  · rw [e]; exact one_setCell v3'
  · rw [Below.heap_setCell _ _ _ _ (by show B + 2 ≠ B + 3; omega)]; exact one_setCell v2
  · have := ownsRow_setCell_below (ownsRow_setCell_below hown' (a := ⟨B + 2, 0, none⟩) (by show B + 2 < B + 4; omega) v') (a := ⟨B + 3, 0, none⟩) (by show B + 3 < B + 4; omega) (.int .i64 ((til : Int) + 1))
    simpa using this
  · have := h.few; simp; omega

theorem owns_shape {w : World} {base : Nat} {e : TypeId} {size : Nat} {v : Value} {n : Nat} {xs : List Value} (h : w.ownsRow base e size v n xs) (hn : 0 < n) : ∃ g cap, v = .slice (some ⟨g, 0, none⟩) n cap := by
  rcases h.2 with ⟨_, h0⟩ | ⟨g, cap, _, hv, _⟩
  · omega
  · exact ⟨g, cap, hv⟩

set_option maxHeartbeats 1000000 in
theorem end_some (w0 : World) (B cap fr til : Nat) (l : Bs) (ls : List Bs) (C : Array Value) (w : World) (h : Inv w0 B l cap fr ls C w) (hl : l.length ≤ 4294967296) (hf : fr ≤ til) (ht : til ≤ l.length) (hz : trim ((l.take til).drop fr) ≠ []) :
    Calls Try.prog 22 #[.int .i64 (til : Int), .pointer (some ⟨B + 1, 0, none⟩), .pointer (some ⟨B + 3, 0, none⟩), .pointer (some ⟨B + 2, 0, none⟩)] w fun e w' => e = .returned (.tuple #[]) ∧ Inv w0 B l cap (til + 1) (fin ls ((l.take til).drop fr)) C w' := by
  have hH := part_holds (fr := fr) h.holds ht
  have cT := cell_of_one h.vText
  have cF := cell_of_one h.vFrom
  have fF := free_of_one h.vFrom
  have hroom := h.room
  obtain ⟨v, hv, hown⟩ := h.list
  have cL := cell_of_one hv
  have fL := free_of_one hv
  have hlt : B + 3 < w.heap.size := lt_of_block h.vFrom
  have hfew := h.few
  have HH := Lib.hid hH
  have HL := Lib.hid (part_length l fr til ht)
  have HI := Lib.hid h
  have HV := Lib.hid hv
  have HE := Lib.hid (show fin ls ((l.take til).drop fr) = ls ++ [trim ((l.take til).drop fr)] from by unfold fin; rw [if_neg hz])
  have hpos : 0 < (trim ((l.take til).drop fr)).length := List.length_pos_iff.2 hz
  have he : fr < til := by
    have h1 := trim_length ((l.take til).drop fr)
    rw [HL.out] at h1; omega
  clear hH hz h hv
  obtain ⟨x, hx⟩ : ∃ x, x = trim ((l.take til).drop fr) := ⟨_, rfl⟩
  rw [← hx] at hpos HE
  have HX := Lib.hid hx
  clear hx
  obtain ⟨i0, hi, hz0, hz1, hz2⟩ := info_parts infoString
  go_enter Try.func22, Try.ntmps22
  go_wp2_with fail
  refine (trimSlice_at B fr (til - fr) (til - fr) _ w HL.out (by unfold maxLen; omega) (Nat.le_refl _) HH.out).mono ?_
  rintro e w' ⟨⟨off', rfl, hh⟩, rfl⟩
  rw [← HX.out]
  rw [← HX.out] at hh
  have hback := run_back (P := Try.prog) w 55 9 5 B off' x.length x Try.underlying55 Try.underlying5 Try.underlying9 hh
  clear hh
  go_wp2_with (at_builtin; refine wpList_append_own _ rfl _ _ 42 rfl (B + 4) 9 i0 (.string ⟨#[]⟩) 1 16 Try.underlying42 hi hz0 hz1 hz2 rfl (by decide) _ _ _ rfl (hown.alloc _) ⟨w.heap.size, 0, none⟩ 1 1 [S x] rfl rfl ?c1 ?c2 ?c3 ?c4 ?c5 ?_)
  case c1 =>
    intro j u hj
    match j, hj with
    | 0, hj => simp at hj; subst hj; simp [Addr.add, S]
  case c2 => intro u hu; simp at hu; subst hu; rfl
  case c3 => unfold maxLen; omega
  case c4 => omega
  case c5 => simp; omega
  · intro v' w1 hown' hgrow _
    obtain ⟨⟨u, g1⟩, g2, g3, g4, g5⟩ := HI.out.grown hf HV.out hown hown' hgrow
    have HG := Lib.hid g5
    obtain ⟨g, cap', hv'⟩ := owns_shape hown' (by omega)
    clear g5 hown' hgrow
    rw [hv']
    rw [hv'] at g3 g4 HG
    clear hv'
    go_wp2_with fail
    go_end0
    exact ⟨rfl, by rw [HE.out]; exact HG.out⟩

/-- The closure, whatever the element. -/
theorem end_any (w0 : World) (B cap fr til : Nat) (l : Bs) (ls : List Bs) (C : Array Value) (w : World) (h : Inv w0 B l cap fr ls C w) (hl : l.length ≤ 4294967296) (hf : fr ≤ til) (ht : til ≤ l.length) :
    Calls Try.prog 22 #[.int .i64 (til : Int), .pointer (some ⟨B + 1, 0, none⟩), .pointer (some ⟨B + 3, 0, none⟩), .pointer (some ⟨B + 2, 0, none⟩)] w fun e w' => e = .returned (.tuple #[]) ∧ Inv w0 B l cap (til + 1) (fin ls ((l.take til).drop fr)) C w' := by
  by_cases hz : trim ((l.take til).drop fr) = []
  · exact end_none w0 B cap fr til l ls C w h hl hf ht hz
  · exact end_some w0 B cap fr til l ls C w h hl hf ht hz
end Go.Proofs.Ythhnpdihgoiccaa.Tk
