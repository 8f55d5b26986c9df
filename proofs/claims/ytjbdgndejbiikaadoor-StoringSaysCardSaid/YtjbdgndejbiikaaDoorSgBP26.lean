/-
  Texts that the laws' proofs stand on, 3 of them in one file; each one's head says what it proves and under which condition.
-/
import Derived.Test.YtjbdgndejbiikaaDoorSgBP7
import Derived.Test.YtjbdgndejbiikaaDoorSgBP19
import Derived.Deep.RegionHeld3
import Derived.Test.YtjbdgndejbiikaaDoorSgBP25
import Derived.Test.YtjbdgndejbiikaaDoorSgBP24
import Derived.Test.YtjbdgndejbiikaaDoorSgBP16
import Derived.Test.YtjbdgndejbiikaaDoorSgBP21
import Derived.Test.YtjbdgndejbiikaaDoorSgBP11
import Derived.Test.YtjbdgndejbiikaaDoorSgBP22
import Derived.Test.YtjbdgndejbiikaaDoorSgBP2
/-
  field.clone: what it returns. Condition: texts of at most 2^47 bytes.
-/
namespace Go.Proofs.YtjbdgndejbiikaaDoor.Fd
open Go.RowKit Tk
set_option linter.unusedVariables false

/-- What a cell holds. -/
def valAt (W : World) (a : Addr) : Value := (W.cell? a).getD undef
theorem valAt_of {W : World} {a : Addr} {x : Value} (h : W.cell? a = some x) : W.cell? a = some (valAt W a) := by unfold valAt; rw [h]; rfl
/-- The parameter's box, and the result's, behind a call's start. -/
structure KC (w : World) (n v : ByteArray) (W : World) : Prop where
  box : W.heap[w.heap.size]? = some (.cells #[.string n, .string v] 27 (0, 0))
  res : ∃ x y, W.heap[w.heap.size + 1]? = some (.cells #[x, y] 27 (0, 0))
  bel : Below w.heap.size w W
theorem KC.more {w : World} {n v : ByteArray} {W W' : World} (h : KC w n v W) (hb : Below W.heap.size W W') : KC w n v W' := by
  obtain ⟨x, y, hr⟩ := h.res
  exact ⟨Bl.old hb (block_lt h.box) h.box, ⟨x, y, Bl.old hb (block_lt hr) hr⟩, Bl.next h.bel hb⟩
theorem KC.drew {w : World} {n v : ByteArray} {W : World} (h : KC w n v W) : KC w n v W.drew := ⟨h.box, h.res, h.bel.drew⟩
theorem heap_far (w : World) (a : Addr) (u : Value) {k : Nat} (h : k ≠ a.block) : (w.setCell a u).heap[k]? = w.heap[k]? := Below.heap_setCell w a u k h
theorem KC.put {w : World} {n v : ByteArray} {W : World} (h : KC w n v W) (x y : Value) : KC w n v ((W.setCell ⟨w.heap.size + 1, 0, none⟩ x).setCell ⟨w.heap.size + 1, 1, none⟩ y) := by
  obtain ⟨a, b, hr⟩ := h.res
  refine ⟨?_, ⟨x, y, put2 hr x y⟩, put2_below h.bel (by omega) _ _⟩
  rw [heap_far _ _ _ (by show w.heap.size ≠ w.heap.size + 1; omega), heap_far _ _ _ (by show w.heap.size ≠ w.heap.size + 1; omega)]
  exact h.box
theorem kc_new (w : World) (n v : ByteArray) : KC w n v ((w.alloc (.cells #[.string n, .string v] 27)).alloc (.cells #[.string ⟨#[]⟩, .string ⟨#[]⟩] 27)) :=
  ⟨(old_block _ _ (by simp)).trans (new_block _ _), ⟨_, _, new_block' _ _ (by simp)⟩, ((Below.refl _ _).alloc (Nat.le_refl _) _).alloc (by simp) _⟩
/-- What the region's loads and its store ask. -/
def SC (w : World) (n v : ByteArray) (W : World) : Prop :=
  W.cell? ⟨w.heap.size, 0, none⟩ = some (.string n) ∧ W.cell? ⟨w.heap.size, 1, none⟩ = some (.string v) ∧ W.cell? ⟨w.heap.size + 1, 0, none⟩ = some (valAt W ⟨w.heap.size + 1, 0, none⟩) ∧ W.cell? ⟨w.heap.size + 1, 1, none⟩ = some (valAt W ⟨w.heap.size + 1, 1, none⟩) ∧
    W.frozen? ⟨w.heap.size + 1, 0, none⟩ = false ∧ W.frozen? ⟨w.heap.size + 1, 1, none⟩ = false ∧ KC w n v W
theorem KC.facts {w : World} {n v : ByteArray} {W : World} (h : KC w n v W) : SC w n v W := by
  obtain ⟨x, y, hr⟩ := h.res
  exact ⟨two0 h.box, two1 h.box, valAt_of (two0 hr), valAt_of (two1 hr), free hr 0, free hr 1, h⟩
theorem KC.done {w : World} {n v : ByteArray} {W : World} (h : KC w n v W) (x y : Value) : ((W.setCell ⟨w.heap.size + 1, 0, none⟩ x).setCell ⟨w.heap.size + 1, 1, none⟩ y).heap[w.heap.size + 1]? = some (.cells #[x, y] 27 (0, 0)) := by
  obtain ⟨a, b, hr⟩ := h.res
  exact put2 hr x y

set_option maxHeartbeats 4000000 in
theorem cloneF_any (n v : ByteArray) (w : World) (hn : n.size ≤ 140737488355328) (hv : v.size ≤ 140737488355328) :
    Calls Tryd.prog 62 #[.agg #[.string n, .string v]] w fun e w' => e = .returned (.agg #[.string n, .string v]) ∧ Below w.heap.size w w' := by
  have HK := Lib.hid (kc_new w n v)
  go_enter Tryd.func62, Tryd.ntmps62
  go_wp2_with fail
  go_region_held3 (fun W => W.cell? ⟨w.heap.size, 0, none⟩ = some (.string n) ∧ W.cell? ⟨w.heap.size, 1, none⟩ = some (.string v) ∧ W.cell? ⟨w.heap.size + 1, 0, none⟩ = some (valAt W ⟨w.heap.size + 1, 0, none⟩) ∧ W.cell? ⟨w.heap.size + 1, 1, none⟩ = some (valAt W ⟨w.heap.size + 1, 1, none⟩) ∧
    W.frozen? ⟨w.heap.size + 1, 0, none⟩ = false ∧ W.frozen? ⟨w.heap.size + 1, 1, none⟩ = false ∧ KC w n v W)
    (first | exact HK.out.drew.facts | exact (HK.out.drew.more hba).facts | exact (HK.out.drew.more hbb).facts | exact ((HK.out.drew.more hba).more hbb).facts | exact ((HK.out.drew.more hbb).more hba).facts | exact (((HK.out.drew.more hba).more hbb).put _ _).facts | exact (((HK.out.drew.more hbb).more hba).put _ _).facts) (first
    | (go_at_call_of 37 (Value.string n); refine (clone_any n _ hn).mono ?_; rintro e wa ⟨rfl, hba⟩)
    | (go_at_call_of 37 (Value.string v); refine (clone_any v _ hv).mono ?_; rintro e wb ⟨rfl, hbb⟩))
  go_wp2_with fail
  refine bodyPost_ret (results_one rfl _ _ (w.heap.size + 1) 27 _ (0, 0) _ rfl (((HK.out.drew.more hba).more hbb).done _ _) Tryd.underlying27 rfl infoFieldSize) rfl ?_
  exact ⟨rfl, (((HK.out.drew.more hba).more hbb).put _ _).bel⟩
end Go.Proofs.YtjbdgndejbiikaaDoor.Fd
/-
  storing.unknown, lasting: what each returns. Conditions: the tables hold what the program's text lays; numbers that are told are not below 0.
-/
namespace Go.Proofs.YtjbdgndejbiikaaDoor.Sg
open Go.RowKit Go.Proofs.YtjbdgndejbiikaaDoor.Tk Go.Proofs.YtjbdgndejbiikaaDoor.Fd Go.Proofs.YtjbdgndejbiikaaDoor.Ct Go.Proofs.YtjbdgndejbiikaaDoor.Fh
set_option maxRecDepth 100000
set_option linter.unusedVariables false

/-- A Meta of which nothing is known. -/
def umet : Mta := ⟨0, ⟨false, false, false, false, false, false, false, -1, -1, -1, -1, -1, -1⟩, -1, -1, -1, -1, -1, -1, ⟨#[]⟩⟩
theorem umet_is : metOf 0 [] (-1) (-1) = umet := by kernel_rfl
theorem zmet_at (W : World) : MetAt (W.alloc (.cells (mcells zmet) 35)) W.heap.size zmet := new_block _ _
set_option maxHeartbeats 800000 in
theorem unknown_any (w : World) (hT : Tab w) (hE : Dp.Env w) (hF : Dp.FM w) :
    Calls Tryd.prog 31 #[] w fun e w' => e = .returned (.agg (mcells umet)) ∧ Below w.heap.size w w' := by
  have hb0 : Below w.heap.size w (w.alloc (.cells (mcells zmet) 35)) := (Below.refl _ _).alloc (Nat.le_refl _) _
  have HT := Lib.hid (hT.below hb0 hT.lt)
  have HE := Lib.hid (hE.below hb0 (Nat.le_refl _))
  have HF := Lib.hid (hF.below hb0 (Nat.le_refl _))
  have HZ := Lib.hid (zmet_at w)
  have HB0 := Lib.hid hb0
  clear hT hE hF hb0
  go_enter Tryd.func31, Tryd.ntmps31
  go_wp2_with fail
  refine (known_lit 0 0 ⟨#[]⟩ none 0 0 [] (-1) (-1) _ (.inl ⟨rfl, _, _, rfl⟩) (by decide) HT.out HE.out HF.out).mono ?_
  rintro e w1 ⟨rfl, hb1⟩
  rw [umet_is]
  have hm : MetAt w1 w.heap.size zmet := HZ.out.more hb1 HZ.out.lt
  have p1 := put_any hm umet
  have HM := Lib.hid (show MetAt (w1.setRow w.heap.size (mcells umet)) w.heap.size umet from setRow_heap w1 _ _ _ _ _ hm)
  have HB := Lib.hid (show Below w.heap.size w (w1.setRow w.heap.size (mcells umet)) from (HB0.out.trans (hb1.mono (by simp))).trans ⟨rfl, rfl, rfl, by simp [World.setRow], fun k hk => setRow_other w1 _ _ _ (by omega)⟩)
  obtain ⟨Z, N, hZ⟩ := size_met
  have z1 := hZ.is
  have z2 := hZ.run
  have n2 : (mcells umet).size = N := hZ.num ▸ rfl
  clear hZ hm hb1
  go_wp2_with fail
  refine bodyPost_ret (results_one rfl _ _ w.heap.size 35 _ (0, 0) _ rfl HM.out Tryd.underlying35 rfl infoMet') rfl ?_
  exact ⟨rfl, HB.out⟩

/-- A Meta stored into the block that was made last. -/
theorem put_last (W : World) (g : Nat) (hg : g = W.heap.size) (c : Array Value) (hc : c.size = 21) (m : Mta) : (storeCells ⟨g, 0, none⟩ (mcells m).toList).run Tryd.prog (W.alloc (.cells c 35)) = .ok () (W.alloc (.cells (mcells m) 35)) := by
  subst hg; exact run_storeCells_new W _ c _ infoMet' hc (one_met' m)
/-- One Meta in a block, another one in another. -/
structure La (w : World) (m : Mta) (g : Nat) (s : Mta) (W : World) : Prop where
  src : MetAt W w.heap.size m
  dst : MetAt W g s
  far : w.heap.size < g
  bel : Below w.heap.size w W
section
variable {w : World} {m s : Mta} {g : Nat} {W W' : World}
theorem La.more (h : La w m g s W) (hb : Below W.heap.size W W') : La w m g s W' := ⟨h.src.more hb h.src.lt, h.dst.more hb h.dst.lt, h.far, Bl.next h.bel hb⟩
theorem La.drew (h : La w m g s W) : La w m g s W.drew := ⟨h.src, h.dst, h.far, Bl.drewN h.bel 1⟩
theorem La.put (h : La w m g s W) {i : Nat} {v : Value} {s' : Mta} (e : (mcells s).setIfInBounds i v = mcells s') : La w m g s' (W.setCell ⟨g, i, none⟩ v) := by
  have hf := h.far
  refine ⟨(heap_setCell_other W ⟨g, i, none⟩ _ v (by show w.heap.size ≠ g; omega)).trans h.src, ?_, h.far, h.bel.setCell (p := ⟨g, i, none⟩) (by show w.heap.size ≤ g; omega) v⟩
  have h1 := heap_put h.dst i v
  rw [e] at h1
  exact h1
theorem La.put4 (h : La w m g s W) (b : Bool) : La w m g { s with con := { s.con with pu := b } } (W.setCell ⟨g, 4, none⟩ (.bool b)) := h.put rfl
theorem La.put8 (h : La w m g s W) (n : Int) : La w m g { s with con := { s.con with ag := n } } (W.setCell ⟨g, 8, none⟩ (.int .i64 n)) := h.put rfl
theorem La.put9 (h : La w m g s W) (n : Int) : La w m g { s with con := { s.con with sh := n } } (W.setCell ⟨g, 9, none⟩ (.int .i64 n)) := h.put rfl
theorem La.put15 (h : La w m g s W) (n : Int) : La w m g { s with exp := n } (W.setCell ⟨g, 15, none⟩ (.int .i64 n)) := h.put rfl
theorem La.facts (h : La w m g s W) : W.cell? ⟨w.heap.size, 4, none⟩ = some (.bool m.con.pu) ∧ W.cell? ⟨w.heap.size, 8, none⟩ = some (.int .i64 m.con.ag) ∧ W.cell? ⟨w.heap.size, 9, none⟩ = some (.int .i64 m.con.sh) ∧
    W.cell? ⟨g, 4, none⟩ = some (valAt W ⟨g, 4, none⟩) ∧ W.cell? ⟨g, 8, none⟩ = some (valAt W ⟨g, 8, none⟩) ∧ W.cell? ⟨g, 9, none⟩ = some (valAt W ⟨g, 9, none⟩) ∧
    W.frozen? ⟨g, 4, none⟩ = false ∧ W.frozen? ⟨g, 8, none⟩ = false ∧ W.frozen? ⟨g, 9, none⟩ = false ∧ ∃ s', La w m g s' W :=
  ⟨h.src.at rfl, h.src.at rfl, h.src.at rfl, valAt_of (h.dst.at (i := 4) rfl), valAt_of (h.dst.at (i := 8) rfl), valAt_of (h.dst.at (i := 9) rfl), free h.dst 4, free h.dst 8, free h.dst 9, s, h⟩
end
end Go.Proofs.YtjbdgndejbiikaaDoor.Sg
/-
  field.Names: what it returns. Conditions: fields of at most 2^20 bytes in all; the table of token bytes.
-/
namespace Go.Proofs.YtjbdgndejbiikaaDoor.Fd
open Go.RowKit Tk
set_option linter.unusedVariables false

/-- What Names answers of a text: nothing and false, or the names in memory of its own and true. -/
def NamesPost (t : Bs) (w : World) (e : Ending) (w' : World) : Prop :=
  Below w.heap.size w w' ∧ ((namesOf t = none ∧ e = .returned (.tuple #[.slice none 0 0, .bool false])) ∨
    ∃ ls v, namesOf t = some ls ∧ e = .returned (.tuple #[v, .bool true]) ∧ w'.ownsRow w.heap.size 9 1 v ls.length (ls.map TS))

theorem row_at {w : World} {base g n cap : Nat} {ls : List Bs} (h : w.ownsRow base 9 1 (.slice (some ⟨g, 0, none⟩) n cap) n (ls.map TS)) (k : Nat) (hk : k < n) {x : Bs} (hx : ls[k]? = some x) : w.cell? ⟨g, k, none⟩ = some (.string ⟨x.toArray⟩) := by
  rw [h.cellAt k (by omega), List.getElem?_map, hx]; rfl
theorem row_put {w : World} {base g n cap : Nat} {ls : List Bs} (h : w.ownsRow base 9 1 (.slice (some ⟨g, 0, none⟩) n cap) n (ls.map TS)) (k : Nat) (x : Bs) :
    (w.setCell ⟨g, k, none⟩ (.string ⟨x.toArray⟩)).ownsRow base 9 1 (.slice (some ⟨g, 0, none⟩) n cap) n ((ls.set k x).map TS) := by
  have h2 := (h.stored k (TS x)).1
  rw [List.map_set]; exact h2

set_option maxHeartbeats 4000000 in
theorem names_any (v : Value) (fs : List Fl) (nm : ByteArray) (w : World) (hf : Flds w v fs) (ht : tot fs ≤ 1048576) (hn : nm.size ≤ maxLen) (hT : Tab w) :
    Calls Tryd.prog 34 #[v, .string nm] w (NamesPost (getT fs nm.data.toList) w) := by
  have hgl := getT_length fs nm.data.toList
  have hg := hT.lt
  have HT := Lib.hid hT
  obtain ⟨G, hG⟩ : ∃ G : Bs, G = getT fs nm.data.toList := ⟨_, rfl⟩
  have HGV := Lib.hid (show getVal fs nm.data.toList = .tuple #[.string ⟨G.toArray⟩, .int .i64 (getN fs nm.data.toList : Int)] from by rw [hG]; rfl)
  rw [← hG] at hgl
  rw [← hG]
  have hGs : (⟨G.toArray⟩ : ByteArray).size ≤ 2097152 := by rw [show (⟨G.toArray⟩ : ByteArray).size = G.length from by show G.toArray.size = _; rw [List.size_toArray]]; omega
  have HGD := Lib.hid (show (⟨G.toArray⟩ : ByteArray).data.toList = G from rfl)
  obtain ⟨X, hX⟩ : ∃ X : ByteArray, X = ⟨G.toArray⟩ := ⟨_, rfl⟩
  rw [← hX] at HGV hGs HGD
  clear hG hX hT
  go_enter Tryd.func34, Tryd.ntmps34
  go_wp2_with fail
  refine (get_any v fs nm _ hf ht hn).mono ?_
  rintro e w1 ⟨rfl, hb1⟩
  rw [HGV.out]
  go_wp2_with fail
  refine (split_any X _ (by omega)).mono ?_
  rintro e w2 ⟨hb2, h2⟩
  have hB2 := Bl.next hb1 hb2
  rw [HGD.out] at h2
  rcases h2 with ⟨h2, rfl⟩ | ⟨ls, u, hs, rfl, ho⟩
  · have HN := Lib.hid (names_none h2)
    clear h2 hb1 hb2
    go_wp2_with fail
    go_ret2
    exact ⟨hB2, .inl ⟨HN.out, rfl⟩⟩
  · have hll := split_length hs
    have HP := Lib.hid (split_piece hs)
    have HS := Lib.hid hs
    have ho' := owns_mono ho hb1.size
    have HO := Lib.hid (show w2.ownsRow w.heap.size 9 1 u ls.length ((half ls 0).map TS) from by rw [half_zero]; exact ho')
    by_cases h0 : ls.length = 0
    · obtain rfl : ls = [] := List.length_eq_zero_iff.1 h0
      obtain ⟨a, cap, hu⟩ : ∃ a cap, u = .slice a 0 cap := by
        rcases ho.2 with ⟨hv, _⟩ | ⟨g, cap, cur, hv, _⟩
        · exact ⟨none, 0, hv⟩
        · exact ⟨_, cap, hv⟩
      rw [hu] at HO
      rw [hu]
      clear hu ho ho' hs hb1 hb2 h0
      go_wp2_with fail
      refine wp_loop_rounds 1 ?_
      rw [rounds_succ]
      go_wp2_with fail
      go_ret2
      exact ⟨hB2, .inr ⟨[], _, names_good HS.out rfl, rfl, HO.out⟩⟩
    · obtain ⟨g, cap, hu, hgb⟩ : ∃ g cap, u = .slice (some ⟨g, 0, none⟩) ls.length cap ∧ w.heap.size ≤ g := by
        rcases ho'.2 with ⟨_, h⟩ | ⟨g, cap, cur, hv, hb, _⟩
        · exact absurd h h0
        · exact ⟨g, cap, hv, hb⟩
      rw [hu] at HO
      rw [hu]
      clear hu ho ho' hs hb1 hb2 h0
      go_wp2_with fail
      go_loopw [27] (fun i wr => ∃ k : Nat, k ≤ ls.length ∧ i = .int .i64 (k : Int) ∧ (ls.take k).all isTok = true ∧ wr.ownsRow w.heap.size 9 1 (.slice (some ⟨g, 0, none⟩) ls.length cap) ls.length ((half ls k).map TS) ∧ Below w.heap.size w wr) (fun i _ => ls.length - (intOf i).toNat)
      case atStart => exact ⟨0, Nat.zero_le _, rfl, rfl, HO.out, hB2⟩
      case round =>
        obtain ⟨k, hk, rfl, hal, hO, hB⟩ := hrel
        have HAL := Lib.hid hal
        have HOk := Lib.hid hO
        clear hal hO HO
        have hsz := hB.size
        by_cases hlt2 : k < ls.length
        · have hxz := HP.out ls[k] (List.getElem_mem hlt2)
          have c1 := row_at HOk.out k hlt2 (half_at ls k hlt2)
          obtain ⟨x, hx⟩ : ∃ x : ByteArray, x = ⟨ls[k].toArray⟩ := ⟨_, rfl⟩
          have HX := Lib.hid (show x.data.toList = ls[k] from by rw [hx])
          have hxs : x.size ≤ maxLen := by rw [hx]; show ls[k].toArray.size ≤ _; rw [List.size_toArray]; unfold maxLen; omega
          rw [← hx] at c1
          have HTr := Lib.hid (HT.out.below hB hg)
          cases hh : isTok ls[k] with
          | false =>
            have HN := Lib.hid (names_bad HS.out k hlt2 hh)
            have HH := Lib.hid (show isTok x.data.toList = false from by rw [HX.out]; exact hh)
            clear hh hx hxz
            go_wp2_with fail
            refine (is_any x _ hxs HTr.out).mono ?_
            rintro e w3 ⟨rfl, rfl⟩
            rw [HH.out]
            go_wp2_with fail
            go_ret2
            exact ⟨hB, .inl ⟨HN.out, rfl⟩⟩
          | true =>
            have HN := Lib.hid (all_next ls k hlt2 HAL.out hh)
            have HH := Lib.hid (show isTok x.data.toList = true from by rw [HX.out]; exact hh)
            have HSET := Lib.hid (half_set ls k hlt2)
            clear hh hx hxz
            go_wp2_with fail
            refine (is_any x _ hxs HTr.out).mono ?_
            rintro e w3 ⟨rfl, rfl⟩
            rw [HH.out]
            go_wp2_with fail
            refine (lower_any x _ hxs).mono ?_
            rintro e w4 ⟨rfl, hb4⟩
            have hB4 := Bl.next hB hb4
            have HO4 := Lib.hid (owns_kept HOk.out hb4)
            have f4 := HO4.out.frozenAt k
            have c4 := row_at HO4.out k hlt2 (half_at ls k hlt2)
            obtain ⟨L, hL⟩ : ∃ L : ByteArray, L = ⟨(lower x.data.toList).toArray⟩ := ⟨_, rfl⟩
            have HL := Lib.hid hL
            rw [← hL]
            clear hL c1 hb4 HOk hB
            go_wp2_with fail
            go_roundw
            case rel => exact ⟨k + 1, by omega, by go_num, HN.out, by
              rw [← HSET.out, HL.out, HX.out]; exact row_put HO4.out k _, hB4.setCell hgb _⟩
            case measure => simp [intOf]; omega
        · have HE := Lib.hid (show k = ls.length from by omega)
          have HAL2 := Lib.hid (show ls.all isTok = true from by have h := HAL.out; rwa [HE.out, List.take_length] at h)
          have HO2 := Lib.hid (show wr.ownsRow w.heap.size 9 1 (.slice (some ⟨g, 0, none⟩) ls.length cap) (ls.map lower).length ((ls.map lower).map TS) from by have h := HOk.out; rw [HE.out, half_all] at h; rw [List.length_map]; exact h)
          clear HE HAL HOk
          go_wp2_with fail
          go_ret2
          exact ⟨hB, .inr ⟨_, _, names_good HS.out HAL2.out, rfl, HO2.out⟩⟩
end Go.Proofs.YtjbdgndejbiikaaDoor.Fd
