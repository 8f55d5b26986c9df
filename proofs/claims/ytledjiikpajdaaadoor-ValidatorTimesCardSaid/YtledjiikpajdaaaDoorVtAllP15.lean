/-
  Texts that the laws' proofs stand on, 3 of them in one file; each one's head says what it proves and under which condition.
-/
import Derived.Test.YtledjiikpajdaaaDoorVtAllP14
import Derived.WalkKit
/-
  The closure of token.Split that ends an element. Condition: a text of at most 2^32 bytes.
-/
namespace Go.Proofs.YtledjiikpajdaaaDoor.Tk
open Go.RowKit

theorem infoString : (Tryd.prog.info? 9).map (fun i => (i.zero, i.size, i.bytes)) = some (some (.string ⟨#[]⟩), 1, 16) := by kernel_rfl

/-- The part of the text that is handed to trim. -/
theorem part_holds {w : World} {B fr til : Nat} {l : Bs} (h : Holds w B 0 l) (htil : til ≤ l.length) : Holds w B fr ((l.take til).drop fr) := by
  have := h.part fr til htil
  rwa [Nat.zero_add] at this

/-- Only the place where the element begins has turned. -/
theorem Inv.moved {w0 w : World} {B cap fr til : Nat} {l : Bs} {ls : List Bs} {C : Array Value} (h : Inv w0 B l cap fr ls C w) (hf : fr ≤ til) :
    Inv w0 B l cap (til + 1) ls C (w.setCell ⟨B + 3, 0, none⟩ (.int .i64 ((til : Int) + 1))) := by
  obtain ⟨v, hv, hown⟩ := h.list
  have e : ((til : Int) + 1) = ((til + 1 : Nat) : Int) := by omega
  refine ⟨h.base, ?_, h.bytes, h.room, ?_, ?_, ⟨v, ?_, ?_⟩, ?_, h.below.setCell (by show B ≤ B + 3; omega) _⟩
  · rw [Below.heap_setCell _ _ _ _ (by show B ≠ B + 3; omega)]; exact h.text
  · rw [Below.heap_setCell _ _ _ _ (by show B + 1 ≠ B + 3; omega)]; exact h.vText
  · rw [e]; exact one_setCell h.vFrom
  · rw [Below.heap_setCell _ _ _ _ (by show B + 2 ≠ B + 3; omega)]; exact hv
  · exact ownsRow_setCell_below hown (by show B + 3 < B + 4; omega) _
  · have := h.few; omega

set_option maxHeartbeats 1000000 in
theorem end_none (w0 : World) (B cap fr til : Nat) (l : Bs) (ls : List Bs) (C : Array Value) (w : World) (h : Inv w0 B l cap fr ls C w) (hl : l.length ≤ 4294967296) (hf : fr ≤ til) (ht : til ≤ l.length) (hz : trim ((l.take til).drop fr) = []) :
    Calls Tryd.prog 37 #[.int .i64 (til : Int), .pointer (some ⟨B + 1, 0, none⟩), .pointer (some ⟨B + 3, 0, none⟩), .pointer (some ⟨B + 2, 0, none⟩)] w fun e w' => e = .returned (.tuple #[]) ∧ Inv w0 B l cap (til + 1) (fin ls ((l.take til).drop fr)) C w' := by
  have hH := part_holds (fr := fr) h.holds ht
  have cT := cell_of_one h.vText
  have cF := cell_of_one h.vFrom
  have fF := free_of_one h.vFrom
  have hroom := h.room
  have HH := Lib.hid hH
  have HL := Lib.hid (part_length l fr til ht)
  have HZ := Lib.hid hz
  have HI := Lib.hid (h.moved hf)
  have HE := Lib.hid (show fin ls ((l.take til).drop fr) = ls from by unfold fin; rw [if_pos hz])
  clear hH hz h
  by_cases he : fr < til
  · go_enter Tryd.func37, Tryd.ntmps37
    go_wp2_with fail
    refine (trimSlice_at B fr (til - fr) (til - fr) _ w HL.out (by unfold maxLen; omega) (Nat.le_refl _) HH.out).mono ?_
    rintro e w' ⟨⟨off', rfl, -⟩, rfl⟩
    rw [HZ.out]
    go_wp2_with fail
    go_end0
    exact ⟨rfl, by rw [HE.out]; exact HI.out⟩
  · obtain rfl : fr = til := by omega
    go_enter Tryd.func37, Tryd.ntmps37
    go_wp2_with fail
    refine (trimSlice_at B 0 0 0 [] w rfl (by unfold maxLen; omega) (Nat.le_refl _) (Holds.nil _ _ _)).mono ?_
    rintro e w' ⟨⟨off', rfl, -⟩, rfl⟩
    rw [show trim [] = [] from rfl]
    go_wp2_with fail
    go_end0
    exact ⟨rfl, by rw [HE.out]; exact HI.out⟩

/-- Behind the append, and the stores of the list and of the place. -/
theorem Inv.grown {w0 w w1 : World} {B cap fr til : Nat} {l : Bs} {ls : List Bs} {C : Array Value} {x : Bs} {v v' : Value} (h : Inv w0 B l cap fr ls C w) (hf : fr ≤ til)
    (hv : w.heap[B + 2]? = some (.cells #[v] 40 (0, 0))) (hown : w.ownsRow (B + 4) 9 1 v ls.length (ls.map S))
    (hown' : w1.ownsRow (B + 4) 9 1 v' (ls.length + 1) (ls.map S ++ [S x])) (hg : (w.alloc (.cells #[S x] 9)).grownBy w1 v.ownBlock) :
    (∃ u, w1.cell? ⟨B + 2, 0, none⟩ = some u) ∧ w1.frozen? ⟨B + 2, 0, none⟩ = false ∧ (w1.setCell ⟨B + 2, 0, none⟩ v').cell? ⟨B + 3, 0, none⟩ = some (.int .i64 (fr : Int)) ∧ (w1.setCell ⟨B + 2, 0, none⟩ v').frozen? ⟨B + 3, 0, none⟩ = false ∧
    Inv w0 B l cap (til + 1) (ls ++ [x]) C ((w1.setCell ⟨B + 2, 0, none⟩ v').setCell ⟨B + 3, 0, none⟩ (.int .i64 ((til : Int) + 1))) := by
  have hrow : ∀ k, k < B + 4 → some k ≠ v.ownBlock := fun k hk e => by have := (hown.lt k e.symm).1; omega
  have hlt : B + 3 < w.heap.size := lt_of_block h.vFrom
  have hb : ∀ k, k < B + 4 → w1.heap[k]? = w.heap[k]? := fun k hk => by
    rw [hg.block k (by rw [World.size_alloc]; omega) (hrow k hk), Below.heap_alloc _ _ _ (by omega)]
  have bl : Below B w0 w1 := (h.below.alloc (by omega) _).grown hg (by rw [World.size_alloc]; omega) (fun k hk => by have := (hown.lt k hk).1; omega)
  have v2 := (hb (B + 2) (by omega)).trans hv
  have v3 := (hb (B + 3) (by omega)).trans h.vFrom
  have v3' : (w1.setCell ⟨B + 2, 0, none⟩ v').heap[B + 3]? = some (.cells #[.int .i64 (fr : Int)] 3 (0, 0)) := by
    rw [Below.heap_setCell _ _ _ _ (by show B + 3 ≠ B + 2; omega)]; exact v3
  have hI : Inv w0 B l cap fr (ls ++ [x]) C (w1.setCell ⟨B + 2, 0, none⟩ v') → Inv w0 B l cap (til + 1) (ls ++ [x]) C ((w1.setCell ⟨B + 2, 0, none⟩ v').setCell ⟨B + 3, 0, none⟩ (.int .i64 ((til : Int) + 1))) := fun hh => hh.moved hf
  refine ⟨⟨_, cell_of_one v2⟩, free_of_one v2, cell_of_one v3', free_of_one v3', ?_⟩
  have e : ((til : Int) + 1) = ((til + 1 : Nat) : Int) := by omega
  refine ⟨h.base, ?_, h.bytes, h.room, ?_, ?_, ⟨v', ?_, ?_⟩, ?_, (bl.setCell (by show B ≤ B + 2; omega) _).setCell (by show B ≤ B + 3; omega) _⟩
  · rw [Below.heap_setCell _ _ _ _ (by show B ≠ B + 3; omega), Below.heap_setCell _ _ _ _ (by show B ≠ B + 2; omega), hb B (by omega)]; exact h.text
  · rw [Below.heap_setCell _ _ _ _ (by show B + 1 ≠ B + 3; omega), Below.heap_setCell _ _ _ _ (by show B + 1 ≠ B + 2; omega), hb (B + 1) (by omega)]; exact h.vText
  · rw [e]; exact one_setCell v3'
  · rw [Below.heap_setCell _ _ _ _ (by show B + 2 ≠ B + 3; omega)]; exact one_setCell v2
  · have := ownsRow_setCell_below (ownsRow_setCell_below hown' (a := ⟨B + 2, 0, none⟩) (by show B + 2 < B + 4; omega) v') (a := ⟨B + 3, 0, none⟩) (by show B + 3 < B + 4; omega) (.int .i64 ((til : Int) + 1))
    simpa using this
  · have := h.few; simp; omega

theorem owns_shape {w : World} {base : Nat} {e : TypeId} {size : Nat} {v : Value} {n : Nat} {xs : List Value} (h : w.ownsRow base e size v n xs) (hn : 0 < n) : ∃ g cap, v = .slice (some ⟨g, 0, none⟩) n cap := by
  rcases h.2 with ⟨_, h0⟩ | ⟨g, cap, _, hv, _⟩
  · omega
  · exact ⟨g, cap, hv⟩

set_option maxHeartbeats 1000000 in
theorem end_some (w0 : World) (B cap fr til : Nat) (l : Bs) (ls : List Bs) (C : Array Value) (w : World) (h : Inv w0 B l cap fr ls C w) (hl : l.length ≤ 4294967296) (hf : fr ≤ til) (ht : til ≤ l.length) (hz : trim ((l.take til).drop fr) ≠ []) :
    Calls Tryd.prog 37 #[.int .i64 (til : Int), .pointer (some ⟨B + 1, 0, none⟩), .pointer (some ⟨B + 3, 0, none⟩), .pointer (some ⟨B + 2, 0, none⟩)] w fun e w' => e = .returned (.tuple #[]) ∧ Inv w0 B l cap (til + 1) (fin ls ((l.take til).drop fr)) C w' := by
  have hH := part_holds (fr := fr) h.holds ht
  have cT := cell_of_one h.vText
  have cF := cell_of_one h.vFrom
  have fF := free_of_one h.vFrom
  have hroom := h.room
  obtain ⟨v, hv, hown⟩ := h.list
  have cL := cell_of_one hv
  have fL := free_of_one hv
  have hlt : B + 3 < w.heap.size := lt_of_block h.vFrom
  have hfew := h.few
  have HH := Lib.hid hH
  have HL := Lib.hid (part_length l fr til ht)
  have HI := Lib.hid h
  have HV := Lib.hid hv
  have HE := Lib.hid (show fin ls ((l.take til).drop fr) = ls ++ [trim ((l.take til).drop fr)] from by unfold fin; rw [if_neg hz])
  have hpos : 0 < (trim ((l.take til).drop fr)).length := List.length_pos_iff.2 hz
  have he : fr < til := by
    have h1 := trim_length ((l.take til).drop fr)
    rw [HL.out] at h1; omega
  clear hH hz h hv
  obtain ⟨x, hx⟩ : ∃ x, x = trim ((l.take til).drop fr) := ⟨_, rfl⟩
  rw [← hx] at hpos HE
  have HX := Lib.hid hx
  clear hx
  obtain ⟨i0, hi, hz0, hz1, hz2⟩ := info_parts infoString
  go_enter Tryd.func37, Tryd.ntmps37
  go_wp2_with fail
  refine (trimSlice_at B fr (til - fr) (til - fr) _ w HL.out (by unfold maxLen; omega) (Nat.le_refl _) HH.out).mono ?_
  rintro e w' ⟨⟨off', rfl, hh⟩, rfl⟩
  rw [← HX.out]
  rw [← HX.out] at hh
  have hback := run_back (P := Tryd.prog) w 62 9 5 B off' x.length x Tryd.underlying62 Tryd.underlying5 Tryd.underlying9 hh
  clear hh
  go_wp2_with (at_builtin; refine wpList_append_own _ rfl _ _ 40 rfl (B + 4) 9 i0 (.string ⟨#[]⟩) 1 16 Tryd.underlying40 hi hz0 hz1 hz2 rfl (by decide) _ _ _ rfl (hown.alloc _) ⟨w.heap.size, 0, none⟩ 1 1 [S x] rfl rfl ?c1 ?c2 ?c3 ?c4 ?c5 ?_)
  case c1 =>
    intro j u hj
    match j, hj with
    | 0, hj => simp at hj; subst hj; simp [Addr.add, S]
  case c2 => intro u hu; simp at hu; subst hu; rfl
  case c3 => unfold maxLen; omega
  case c4 => omega
  case c5 => simp; omega
  · intro v' w1 hown' hgrow _
    obtain ⟨⟨u, g1⟩, g2, g3, g4, g5⟩ := HI.out.grown hf HV.out hown hown' hgrow
    have HG := Lib.hid g5
    obtain ⟨g, cap', hv'⟩ := owns_shape hown' (by omega)
    clear g5 hown' hgrow
    rw [hv']
    rw [hv'] at g3 g4 HG
    clear hv'
    go_wp2_with fail
    go_end0
    exact ⟨rfl, by rw [HE.out]; exact HG.out⟩

/-- The closure, whatever the element. -/
theorem end_any (w0 : World) (B cap fr til : Nat) (l : Bs) (ls : List Bs) (C : Array Value) (w : World) (h : Inv w0 B l cap fr ls C w) (hl : l.length ≤ 4294967296) (hf : fr ≤ til) (ht : til ≤ l.length) :
    Calls Tryd.prog 37 #[.int .i64 (til : Int), .pointer (some ⟨B + 1, 0, none⟩), .pointer (some ⟨B + 3, 0, none⟩), .pointer (some ⟨B + 2, 0, none⟩)] w fun e w' => e = .returned (.tuple #[]) ∧ Inv w0 B l cap (til + 1) (fin ls ((l.take til).drop fr)) C w' := by
  by_cases hz : trim ((l.take til).drop fr) = []
  · exact end_none w0 B cap fr til l ls C w h hl hf ht hz
  · exact end_some w0 B cap fr til l ls C w h hl hf ht hz
end Go.Proofs.YtledjiikpajdaaaDoor.Tk
/-
  token.Split: what it returns. Condition: a text of at most 2^32 bytes.
-/
namespace Go.Proofs.YtledjiikpajdaaaDoor.Tk
open Go.RowKit

/-- What a call of Split answers: the elements, in memory of its own; or nothing and false. -/
def SplitPost (l : Bs) (w : World) (e : Ending) (w' : World) : Prop :=
  Below w.heap.size w w' ∧ ((splitOf l = none ∧ e = .returned (.tuple #[.slice none 0 0, .bool false])) ∨
    ∃ ls v, splitOf l = some ls ∧ e = .returned (.tuple #[v, .bool true]) ∧ w'.ownsRow w.heap.size 9 1 v ls.length (ls.map S))

theorem heap_new (w : World) (o : Obj) : (w.alloc o).heap[w.heap.size]? = some o := by
  show (w.heap.push o)[w.heap.size]? = _; simp
theorem len_eq (s : ByteArray) : s.data.toList.length = s.size := by simp

theorem Inv.start (w : World) (s : ByteArray) (cap : Nat) (hcap : s.size ≤ cap) :
    Inv w w.heap.size s.data.toList cap 0 [] (bytesRow s cap) ((((w.alloc (.cells (bytesRow s cap) 5 ((bytesRow s cap).size, (bytesRow s cap).size + 1))).alloc
      (.cells #[.slice (some ⟨w.heap.size, 0, none⟩) s.size cap] 62)).alloc (.cells #[.slice none 0 0] 40)).alloc (.cells #[.int .i64 0] 3)).drew := by
  refine ⟨rfl, ?_, ?_, by rw [len_eq]; exact hcap, ?_, ?_, ⟨.slice none 0 0, ?_, World.ownsRow_nil _ _ _ _⟩, Nat.zero_le _, ?_⟩
  · show (World.alloc _ _).heap[w.heap.size]? = _
    rw [Below.heap_alloc _ _ _ (by simp; omega), Below.heap_alloc _ _ _ (by simp; omega), Below.heap_alloc _ _ _ (by simp)]
    exact heap_new _ _
  · intro j hj
    rw [bytesRow_at s cap j (by simpa using hj)]; simp
  · show (World.alloc _ _).heap[w.heap.size + 1]? = _
    rw [Below.heap_alloc _ _ _ (by simp), Below.heap_alloc _ _ _ (by simp), len_eq]
    have := heap_new (w.alloc (.cells (bytesRow s cap) 5 ((bytesRow s cap).size, (bytesRow s cap).size + 1))) (.cells #[.slice (some ⟨w.heap.size, 0, none⟩) s.size cap] 62)
    rwa [World.size_alloc] at this
  · have := heap_new (((w.alloc (.cells (bytesRow s cap) 5 ((bytesRow s cap).size, (bytesRow s cap).size + 1))).alloc (.cells #[.slice (some ⟨w.heap.size, 0, none⟩) s.size cap] 62)).alloc (.cells #[.slice none 0 0] 40)) (.cells #[.int .i64 0] 3)
    rw [World.size_alloc, World.size_alloc, World.size_alloc] at this
    exact this
  · show (World.alloc _ _).heap[w.heap.size + 2]? = _
    rw [Below.heap_alloc _ _ _ (by simp)]
    have := heap_new ((w.alloc (.cells (bytesRow s cap) 5 ((bytesRow s cap).size, (bytesRow s cap).size + 1))).alloc (.cells #[.slice (some ⟨w.heap.size, 0, none⟩) s.size cap] 62)) (.cells #[.slice none 0 0] 40)
    rw [World.size_alloc, World.size_alloc] at this
    exact this
  · exact (((((Below.refl _ _).alloc (Nat.le_refl _) _).alloc (by simp) _).alloc (by simp; omega) _).alloc (by simp; omega) _).drew

theorem owns_mono {w : World} {base base' : Nat} {e : TypeId} {size : Nat} {v : Value} {n : Nat} {xs : List Value} (h : w.ownsRow base e size v n xs) (hb : base' ≤ base) : w.ownsRow base' e size v n xs := by
  refine ⟨h.1, ?_⟩
  rcases h.2 with h2 | ⟨g, cap, cur, hv, hg, r⟩
  · exact .inl h2
  · exact .inr ⟨g, cap, cur, hv, by omega, r⟩

set_option maxHeartbeats 2000000 in
theorem split_any (s : ByteArray) (w : World) (hs : s.size ≤ 4294967296) :
    Calls Tryd.prog 16 #[.string s] w (SplitPost s.data.toList w) := by
  have hconv := fun W : World => run_bytes_of_string (P := Tryd.prog) W 9 62 5 s Tryd.underlying9 Tryd.underlying62 Tryd.underlying5
  have HST := Lib.hid (Inv.start w s (grownCap w s.size 0 5) (grownCap_ge w s.size 0 5))
  have HLEN := Lib.hid (len_eq s)
  go_enter Tryd.func16, Tryd.ntmps16
  go_wp2_with fail
  clear hconv
  rw [show w.heap.size + 1 + 1 + 1 = w.heap.size + 3 from rfl, show w.heap.size + 1 + 1 = w.heap.size + 2 from rfl]
  obtain ⟨cap, hcap⟩ : ∃ c, c = grownCap w s.size 0 5 := ⟨_, rfl⟩
  rw [← hcap]
  rw [← hcap] at HST
  clear hcap
  go_loopw [8] (fun v wr => ∃ k fr ls, v = .int .i64 ((k : Nat) : Int) ∧ fr ≤ k ∧ k ≤ s.size ∧ Inv w w.heap.size s.data.toList cap fr ls (bytesRow s cap) wr ∧ Left s.data.toList ls false ((s.data.toList.take k).drop fr) k) (fun v _ => s.size - (intOf v).toNat)
  case atStart => exact ⟨0, 0, [], rfl, Nat.le_refl _, Nat.zero_le _, HST.out, by simpa using Left.start s.data.toList⟩
  case round =>
    obtain ⟨k, fr, ls, rfl, hfk, hk, hI, hL⟩ := hrel
    have cT := cell_of_one hI.vText
    rw [HLEN.out] at cT
    have HI := Lib.hid hI
    have HL := Lib.hid hL
    clear hI hL HST
    by_cases hlt : k < s.size
    · have hk' : k < s.data.toList.length := by rw [HLEN.out]; exact hlt
      have hcell := HI.out.holds k hk'
      rw [Nat.zero_add] at hcell
      have hroom := HI.out.room
      rw [HLEN.out] at hroom
      obtain ⟨c, hc⟩ : ∃ c, c = s.data.toList[k] := ⟨_, rfl⟩
      rw [← hc] at hcell
      have HC := Lib.hid hc
      clear hc
      by_cases h44 : c = 44
      · have t1 := is44 h44
        have HL2 := Lib.hid (HL.out.commaPart hk' (HC.out.symm.trans h44))
        clear h44 hroom
        go_wp2_with (go_at_call 37; refine (end_any w w.heap.size cap fr k s.data.toList ls (bytesRow s cap) _ HI.out (by rw [HLEN.out]; exact hs) hfk (by omega)).mono ?_; rintro e w' ⟨rfl, hI'⟩)
        go_roundw
        case rel => exact ⟨k + 1, k + 1, _, by go_num, Nat.le_refl _, by omega, by assumption, HL2.out⟩
        case measure => simp [intOf]; omega
      · have t1 := no44 h44
        by_cases h34 : c = 34
        · have t2 := is34 h34
          cases hq : qe (s.data.toList.drop (k + 1)) with
          | none =>
            have HN := Lib.hid (HL.out.quoteNone hk' (HC.out.symm.trans h34) hq)
            have HQ := Lib.hid (qEnd_none hq)
            clear h44 h34 hq
            go_wp2_with (go_at_call 39; refine (quoteEnd_any w.heap.size 0 s.size cap k s.data.toList _ HLEN.out hs hlt HI.out.holds).mono ?_; rintro e w' ⟨rfl, rfl⟩; rw [HQ.out])
            go_ret2
            exact ⟨HI.out.below, .inl ⟨HN.out, rfl⟩⟩
          | some m =>
            have hm := qe_le _ _ (Nat.le_refl _) _ hq
            have hm2 : k + m < s.size := by
              have h1 : (s.data.toList.drop (k + 1)).length = s.size - (k + 1) := by rw [List.length_drop, HLEN.out]
              omega
            have HL2 := Lib.hid (HL.out.quoteSome hfk hk' (HC.out.symm.trans h34) hq)
            have HQ := Lib.hid (qEnd_some hq)
            have hm1 := hm.1
            clear h44 h34 hq hm
            go_wp2_with (go_at_call 39; refine (quoteEnd_any w.heap.size 0 s.size cap k s.data.toList _ HLEN.out hs hlt HI.out.holds).mono ?_; rintro e w' ⟨rfl, rfl⟩; rw [HQ.out])
            go_roundw
            case rel => exact ⟨k + m + 1, fr, ls, by go_num, by omega, by omega, HI.out, HL2.out⟩
            case measure => simp [intOf]; omega
        · have t2 := no34 h34
          have HL2 := Lib.hid (HL.out.otherPart hfk hk' (by rw [← HC.out]; exact h44) (by rw [← HC.out]; exact h34))
          clear h44 h34
          go_wp2_with fail
          go_roundw
          case rel => exact ⟨k + 1, fr, ls, by go_num, by omega, by omega, HI.out, HL2.out⟩
          case measure => simp [intOf]; omega
    · obtain rfl : k = s.size := by omega
      have HS := Lib.hid (HL.out.stop (by rw [HLEN.out]; exact Nat.le_refl _))
      go_wp2_with fail
      refine (end_any w w.heap.size cap fr s.size s.data.toList ls (bytesRow s cap) _ HI.out (by rw [HLEN.out]; exact hs) hfk (by rw [HLEN.out]; exact Nat.le_refl _)).mono ?_
      rintro e w' ⟨rfl, hI'⟩
      obtain ⟨v, hv, hown⟩ := hI'.list
      have cV := cell_of_one hv
      have HI2 := Lib.hid hI'
      clear hI' hv
      go_wp2_with fail
      go_ret2
      exact ⟨HI2.out.below, .inr ⟨_, v, HS.out, rfl, owns_mono hown (by omega)⟩⟩
end Go.Proofs.YtledjiikpajdaaaDoor.Tk
/-
  What a Cache-Control says, and what is known of a response, as plain structures. No program, no condition.
-/
namespace Go.Proofs.YtledjiikpajdaaaDoor.Ct

/-- What is said: seven flags, six numbers (-1: nothing). -/
structure Con where
  (ns nc pr pu mu px oc : Bool)
  (ag sh wh ie mf ms : Int)
def Con.zero : Con := ⟨false, false, false, false, false, false, false, -1, -1, -1, -1, -1, -1⟩
/-- What is known of a response. -/
structure Mta where
  code : Int
  con : Con
  date : Int
  exp : Int
  mod : Int
  age : Int
  ask : Int
  got : Int
  tag : ByteArray
end Go.Proofs.YtledjiikpajdaaaDoor.Ct
