/-
  VaryOrder: in which order Vary names fields, how often, and in which letters, does not matter.
  Conditions: the listed tables hold what the program's text lays (the card ties them).
-/
import Derived.Deep.DeepCutAuto
import Derived.Deep.RegionWith
import Derived.Test.YtcnipjmeillfeaaDoorTabs
import Derived.Test.YtcnipjmeillfeaaDoorFdOpen
import Derived.SizedLaws
import Derived.Carry
import Derived.Test.YtcnipjmeillfeaaDoorVrRefNames
import Derived.Test.YtcnipjmeillfeaaDoorVrKey
import Derived.Test.YtcnipjmeillfeaaDoorVrSame
import Derived.Test.YtcnipjmeillfeaaDoorHdNums
import Derived.WideKeyPair
namespace Go.Proofs.YtcnipjmeillfeaaDoor.varyOrder
open Go.ChangeShapes Go.WideShapes Go.ChangeAt Go.RowKit
open Go.ChangeMaps (open_string shut_string)
set_option linter.unusedVariables false

open Go.Proofs.YtcnipjmeillfeaaDoor.Tk Go.Proofs.YtcnipjmeillfeaaDoor.Fd Go.Proofs.YtcnipjmeillfeaaDoor.Hd Go.Proofs.YtcnipjmeillfeaaDoor.Vr
theorem vnames_caseO {fs : List Fl} {ls : List Bs} {w : World} {e : Ending} {w' : World} (h : VNamesPost fs w e w') (hn : namesV fs = some ls) :
    Below w.heap.size w w' ∧ ∃ u, e = .returned (.tuple #[u, .bool true]) ∧ w'.ownsRow w.heap.size 9 1 u ls.length (ls.map TS) := by
  obtain ⟨hb, ⟨h1, rfl⟩ | ⟨ls', v, h1, rfl, ho⟩⟩ := h
  · rw [h1] at hn; cases hn
  · rw [h1] at hn; injection hn with hn; subst hn; exact ⟨hb, v, rfl, ho⟩
theorem idxT (a : Int) : ∃ j : Nat, j < 3 ∧ -2 ≤ a.tmod 3 ∧ a.tmod 3 ≤ 2 ∧ (a.tmod 3 + 3) % 3 = (j : Int) := by
  have h1 : -2 ≤ a.tmod 3 ∧ a.tmod 3 ≤ 2 := by
    have h2 := Int.tmod_lt_of_pos a (b := 3) (by omega)
    have h3 := Int.lt_tmod_of_pos a (b := 3) (by omega)
    omega
  exact ⟨((a.tmod 3 + 3) % 3).toNat, by omega, h1.1, h1.2, by omega⟩
abbrev loA : Array Value := #[.string ⟨#[97, 99, 99, 101, 112, 116]⟩, .string ⟨#[98]⟩, .string ⟨#[120, 45, 121]⟩]
abbrev upA : Array Value := #[.string ⟨#[65, 67, 67, 69, 80, 84]⟩, .string ⟨#[66]⟩, .string ⟨#[88, 45, 89]⟩]
def sn (os : List (Nat × Bool)) (k : Nat) : Bool := os.any fun p => p.1 == k
def snA (os : List (Nat × Bool)) : Array Value := #[.bool (sn os 0), .bool (sn os 1), .bool (sn os 2)]
theorem sn_next (os : List (Nat × Bool)) (j : Nat) (u : Bool) (hj : j < 3) : (snA os).setIfInBounds j (.bool true) = snA (os ++ [(j, u)]) := by
  unfold snA sn
  rcases (by omega : j = 0 ∨ j = 1 ∨ j = 2) with rfl | rfl | rfl <;> simp
/-- What the first loop keeps. -/
structure OL (w : World) (os : List (Nat × Bool)) (T : ByteArray) (W : World) : Prop where
  txt : T = ⟨(ordT os).toArray⟩
  len : T.size ≤ 8 * os.length
  lt : ∀ p ∈ os, p.1 < 3
  nm : W.heap[w.heap.size]? = some (.cells loA 9 (0, 0))
  seen : W.heap[w.heap.size + 1]? = some (.cells (snA os) 35 (0, 0))
  bel : Below w.heap.size w W
theorem ord_next (os : List (Nat × Bool)) (p : Nat × Bool) : ordT (os ++ [p]) = ordT os ++ (nmP p ++ [32, 44]) := by unfold ordT; rw [List.flatMap_append]; simp
theorem nmP_lo (j : Nat) (hj : j < 3) : loA[j]? = some (.string ⟨(nmP (j, false)).toArray⟩) := by
  rcases (by omega : j = 0 ∨ j = 1 ∨ j = 2) with rfl | rfl | rfl <;> rfl
theorem ol_seen {w : World} {os : List (Nat × Bool)} {T : ByteArray} {W : World} (h : OL w os T W) (k : Nat) (hk : k < 3) : W.cell? ⟨w.heap.size + 1, k, none⟩ = some (.bool (sn os k)) := by
  rw [Lib.cell_of_heap h.seen]
  rcases (by omega : k = 0 ∨ k = 1 ∨ k = 2) with rfl | rfl | rfl <;> rfl
theorem ol_name {w : World} {os : List (Nat × Bool)} {T : ByteArray} {W : World} (h : OL w os T W) (k : Nat) (hk : k < 3) : W.cell? ⟨w.heap.size, k, none⟩ = some (TS (nmK k)) := by
  rw [Lib.cell_of_heap h.nm]
  rcases (by omega : k = 0 ∨ k = 1 ∨ k = 2) with rfl | rfl | rfl <;> rfl
theorem nmP_lo' (j : Nat) : nmK j = nmP (j, false) := rfl
theorem nm_size (j : Nat) (u : Bool) (hj : j < 3) : (nmP (j, u)).length ≤ 6 := by
  rcases (by omega : j = 0 ∨ j = 1 ∨ j = 2) with rfl | rfl | rfl <;> cases u <;> decide
theorem up_at {W : World} {g : Nat} (h : W.heap[g]? = some (.cells upA 9 (0, 0))) (j : Nat) (hj : j < 3) : W.cell? ⟨g, j, none⟩ = some (TS (nmP (j, true))) := by
  rw [Lib.cell_of_heap h]
  rcases (by omega : j = 0 ∨ j = 1 ∨ j = 2) with rfl | rfl | rfl <;> rfl
theorem cat_list (T x : ByteArray) (l : Bs) (hx : x.data.toList = l) : (T ++ x ++ ⟨#[32, 44]⟩).data.toList = T.data.toList ++ (l ++ [32, 44]) := by
  rw [← hx]; simp
theorem ol_step {w : World} {os : List (Nat × Bool)} {T : ByteArray} {W W' : World} (h : OL w os T W) (j : Nat) (hj : j < 3) (u : Bool) (T' : ByteArray) (hT : T'.data.toList = T.data.toList ++ (nmP (j, u) ++ [32, 44]))
    (hb : Below W.heap.size (W.setCell ⟨w.heap.size + 1, j, none⟩ (.bool true)) W') : OL w (os ++ [(j, u)]) T' W' := by
  have h1 : T' = ⟨(ordT (os ++ [(j, u)])).toArray⟩ := by
    rw [ord_next]
    have e : T.data.toList = ordT os := by rw [h.txt]
    rw [e] at hT
    exact ByteArray.ext (by rw [← hT])
  have hl : (nmP (j, u)).length ≤ 6 := by
    rcases (by omega : j = 0 ∨ j = 1 ∨ j = 2) with rfl | rfl | rfl <;> cases u <;> decide
  have e2 : (W.setCell ⟨w.heap.size + 1, j, none⟩ (.bool true)).heap.size = W.heap.size := by simp [World.setCell]
  refine ⟨h1, ?_, ?_, ?_, ?_, ?_⟩
  · have h3 : T'.size = T'.data.toList.length := by rw [Array.length_toList]; rfl
    have h4 : T.size = T.data.toList.length := by rw [Array.length_toList]; rfl
    rw [h3, hT, List.length_append, List.length_append, ← h4, List.length_append]
    have := h.len
    simp; omega
  · intro p hp
    rcases List.mem_append.1 hp with hp | hp
    · exact h.lt p hp
    · rw [List.mem_singleton.1 hp]; exact hj
  · rw [hb.block _ (block_lt h.nm)]
    exact (Below.heap_setCell _ _ _ _ (by show w.heap.size ≠ w.heap.size + 1; omega)).trans h.nm
  · rw [hb.block _ (block_lt h.seen), heap_put h.seen j _, sn_next os j u hj]
  · exact (h.bel.setCell (p := ⟨w.heap.size + 1, j, none⟩) (by show w.heap.size ≤ w.heap.size + 1; omega) _).trans (hb.mono h.bel.size)
theorem tot_vary (T : ByteArray) : tot [((⟨#[118, 97, 114, 121]⟩ : ByteArray), T)] = 4 + T.size + 1 := by simp [tot]; rfl
def wk (s : Nat → Bool) (k : Nat) : List Bs := (([0, 1, 2].take k).filter s).map nmK
theorem wk_next (s : Nat → Bool) (k : Nat) (hk : k < 3) : wk s (k + 1) = wk s k ++ (if s k then [nmK k] else []) := by
  unfold wk
  have e : [0, 1, 2].take (k + 1) = [0, 1, 2].take k ++ [k] := by
    rcases (by omega : k = 0 ∨ k = 1 ∨ k = 2) with rfl | rfl | rfl <;> rfl
  rw [e, List.filter_append, List.map_append]
  congr 1
  cases h : s k <;> simp [h]
theorem wk_len (s : Nat → Bool) (k : Nat) : (wk s k).length ≤ 3 := by
  unfold wk
  rw [List.length_map]
  exact Nat.le_trans (List.length_filter_le _ _) (by rw [List.length_take]; simp; omega)
theorem own_addrO {w : World} {base : Nat} {a : Option Addr} {n c : Nat} {ls : List Bs} (h : w.ownsRow base 9 1 (.slice a n c) n (ls.map TS)) (h0 : 0 < n) : ∃ g, a = some ⟨g, 0, none⟩ := by
  rcases h.2 with ⟨_, h1⟩ | ⟨g, cap, cur, hv, _⟩
  · omega
  · injection hv with h1 _ _; exact ⟨g, h1⟩
set_option maxHeartbeats 8000000 in
set_option maxRecDepth 100000 in
theorem walk (v0 : Value) (ls0 : Nat) (a1 : Bool) (w : World) (hT : Tk.Tab w) (hP : Tb.P10 w) (f0 : Ints w v0 ls0) (l0 : ls0 ≤ maxLen) :
    Calls Tryd.prog 5 #[v0, .bool a1] w fun e w' => e = .returned (.bool true) ∧ Below w.heap.size w w' := by
  have HT := Lib.hid hT
  have HP := Lib.hid hP
  have HF := Lib.hid f0
  obtain ⟨i0, hi, hz0, hz1, hz2⟩ := info_parts infoText
  unfold maxLen at l0
  obtain ⟨va, vc, hv⟩ := f0.shape
  rw [hv] at HF ⊢
  clear hT hP f0 hv
  have HOL0 := Lib.hid (show OL w [] ⟨#[]⟩ ((w.alloc (.cells loA 9)).alloc (.cells (snA []) 35)) from
    ⟨rfl, by decide, by simp, (old_block _ _ (block_lt (new_block w (.cells loA 9)))).trans (new_block _ _), new_block' _ _ (by simp), ((Below.refl _ _).alloc (Nat.le_refl _) _).alloc (by simp) _⟩)
  go_enter Tryd.func5, Tryd.ntmps5
  go_wp2_with fail
  go_loopw [6, 8] (fun s i wr => ∃ (os : List (Nat × Bool)) (T : ByteArray), os.length ≤ 12 ∧ os.length ≤ ls0 ∧ i = .int .i64 (os.length : Int) ∧ s = .string T ∧ OL w os T wr) (fun _ i _ => 12 - (intOf i).toNat)
  case atStart => exact ⟨[], ⟨#[]⟩, by simp, by simp, rfl, rfl, HOL0.out⟩
  case round =>
    obtain ⟨os, T, h12, hls, rfl, rfl, hol⟩ := hrel
    have HO := Lib.hid hol
    have hB := hol.bel
    have hsz := hB.size
    have hTs := hol.len
    obtain ⟨i, hiL⟩ : ∃ i, i = os.length := ⟨_, rfl⟩
    rw [← hiL] at h12 hls hTs ⊢
    have HI := Lib.hid hiL
    clear hol hiL HOL0
    by_cases hlt1 : i < ls0
    · by_cases hlt2 : i < 12
      · obtain ⟨b, off, rfl, hlt, hc⟩ : ∃ b off, va = some ⟨b, off, none⟩ ∧ b < w.heap.size ∧ ∀ j, j < ls0 → ∃ z : Int, w.cell? ⟨b, off + j, none⟩ = some (.int .i64 z) := by
          rcases HF.out with ⟨h, _⟩ | ⟨b, off, cap, hv, h1, h2⟩
          · omega
          · injection hv with h3 _ _; exact ⟨b, off, h3, h1, h2⟩
        obtain ⟨a, ha⟩ := hc i hlt1
        have c1 : wr.cell? ⟨b, off + i, none⟩ = some (.int .i64 a) := (hB.cell (p := ⟨b, off + i, none⟩) hlt).trans ha
        obtain ⟨j, hj, ht1, ht2, hj2⟩ := idxT a
        obtain ⟨t, ht⟩ : ∃ t, t = a.tmod 3 := ⟨_, rfl⟩
        rw [← ht] at ht1 ht2 hj2
        have ht' := ht.symm
        have d4 : decide ((i : Int) < 12) = true := by rw [decide_eq_true_eq]; omega
        clear ha hc ht
        go_upto_region 8 with fail
        rw [hj2]
        have s1 := ol_seen HO.out j hj
        have s2 := free HO.out.seen j
        obtain ⟨y, hy⟩ : ∃ y : ByteArray, y = ⟨(nmP (j, false)).toArray⟩ := ⟨_, rfl⟩
        have n1 : (wr.setCell ⟨w.heap.size + 1, j, none⟩ (.bool true)).cell? ⟨w.heap.size, j, none⟩ = some (.string y) := by
          rw [hy, Lib.cell_of_heap ((Below.heap_setCell _ _ _ _ (by show w.heap.size ≠ w.heap.size + 1; omega)).trans HO.out.nm)]
          exact nmP_lo j hj
        have hys : y.size ≤ 6 := by rw [hy]; show (nmP (j, false)).toArray.size ≤ 6; rw [List.size_toArray]; exact nm_size j false hj
        have HYD := Lib.hid (show y.data.toList = nmP (j, false) from by rw [hy])
        clear hy hj2 ht1 ht2 ht'
        cases a1 with
        | false =>
          obtain ⟨x, hx⟩ : ∃ x, x = y := ⟨_, rfl⟩
          subst hx
          have HXD := HYD
          go_wp2_with fail
          go_roundw
          case rel => exact ⟨os ++ [(j, false)], T ++ x ++ ⟨#[32, 44]⟩, by rw [List.length_append, ← HI.out]; simp; omega, by rw [List.length_append, ← HI.out]; simp; omega, by rw [List.length_append, ← HI.out]; go_num, rfl, ol_step HO.out j hj false _ (cat_list T x _ HXD.out) (Below.refl _ _)⟩
          case measure => simp [intOf]; omega
        | true =>
          cases hev : decide (i % 2 = 0) with
          | false =>
            obtain ⟨x, hx⟩ : ∃ x, x = y := ⟨_, rfl⟩
            subst hx
            have HXD := HYD
            have e2 : ((i : Int) % 2 == 0) = false := by
              have := of_decide_eq_false hev
              rw [beq_eq_false_iff_ne]; omega
            clear hev
            go_wp2_with fail
            go_roundw
            case rel => exact ⟨os ++ [(j, false)], T ++ x ++ ⟨#[32, 44]⟩, by rw [List.length_append, ← HI.out]; simp; omega, by rw [List.length_append, ← HI.out]; simp; omega, by rw [List.length_append, ← HI.out]; go_num, rfl, ol_step HO.out j hj false _ (cat_list T x _ HXD.out) (Below.refl _ _)⟩
            case measure => simp [intOf]; omega
          | true =>
            have e2 : ((i : Int) % 2 == 0) = true := by
              have := of_decide_eq_true hev
              rw [beq_iff_eq]; omega
            obtain ⟨x, hx⟩ : ∃ x : ByteArray, x = ⟨(nmP (j, true)).toArray⟩ := ⟨_, rfl⟩
            have hxs : x.size ≤ 6 := by rw [hx]; show (nmP (j, true)).toArray.size ≤ 6; rw [List.size_toArray]; exact nm_size j true hj
            have n2 : ((wr.setCell ⟨w.heap.size + 1, j, none⟩ (.bool true)).alloc (.cells upA 9)).cell? ⟨wr.heap.size, j, none⟩ = some (.string x) := by
              have h := up_at (new_block' (wr.setCell ⟨w.heap.size + 1, j, none⟩ (.bool true)) (.cells upA 9) (g := wr.heap.size) (by simp [World.setCell])) j hj
              rw [hx]; exact h
            have HXD := Lib.hid (show x.data.toList = nmP (j, true) from by rw [hx])
            clear hev hx
            go_wp2_with fail
            go_roundw
            case rel => exact ⟨os ++ [(j, true)], T ++ x ++ ⟨#[32, 44]⟩, by rw [List.length_append, ← HI.out]; simp; omega, by rw [List.length_append, ← HI.out]; simp; omega, by rw [List.length_append, ← HI.out]; go_num, rfl, ol_step HO.out j hj true _ (cat_list T x _ HXD.out) ((Below.refl _ _).alloc (by simp [World.setCell]) _)⟩
            case measure => simp [intOf]; omega
      · have d4 : decide ((i : Int) < 12) = false := by rw [decide_eq_false_iff_not]; omega
        have HTd := Lib.hid HO.out.txt
        have HNV := Lib.hid (show namesV [((⟨#[118, 97, 114, 121]⟩ : ByteArray), T)] = some (wk (sn os) 3) from by rw [HTd.out]; exact order_one os HO.out.lt)
        have HB1 := Lib.hid (hB.alloc hsz (.cells #[.string ⟨#[118, 97, 114, 121]⟩, .string T] 37))
        have HNa := Lib.hid (show ∀ W, Below wr.heap.size wr W → W.heap[w.heap.size]? = some (.cells loA 9 (0, 0)) from fun W h => (h.block _ (block_lt HO.out.nm)).trans HO.out.nm)
        have HSa := Lib.hid (show ∀ W, Below wr.heap.size wr W → W.heap[w.heap.size + 1]? = some (.cells (snA os) 35 (0, 0)) from fun W h => (h.block _ (block_lt HO.out.seen)).trans HO.out.seen)
        have HOB := Lib.hid ((Below.refl wr.heap.size wr).alloc (Nat.le_refl _) (.cells #[.string ⟨#[118, 97, 114, 121]⟩, .string T] 37))
        have HNm := Lib.hid (vnames_any (.slice (some ⟨wr.heap.size, 0, none⟩) 1 1) [(⟨#[118, 97, 114, 121]⟩, T)] (wr.alloc (.cells #[.string ⟨#[118, 97, 114, 121]⟩, .string T] 37)) (flds_one (new_block wr _)) (by rw [tot_vary]; omega) (HT.out.below HB1.out HT.out.lt))
        clear HO HTd
        go_wp2_with fail
        refine HNm.out.mono ?_
        rintro e x2 hp2
        obtain ⟨hb2, u, rfl, ho2⟩ := vnames_caseO hp2 HNV.out
        have HB2 := Lib.hid (HB1.out.trans (hb2.mono HB1.out.size))
        have HN2 := Lib.hid (HNa.out x2 (HOB.out.trans (hb2.mono HOB.out.size)))
        have HS2 := Lib.hid (HSa.out x2 (HOB.out.trans (hb2.mono HOB.out.size)))
        have HX2 := Lib.hid ho2
        obtain ⟨a2, c2, hu2⟩ := own_shape HX2.out
        rw [hu2] at HX2
        rw [hu2]
        obtain ⟨s, hs⟩ : ∃ s, s = sn os := ⟨_, rfl⟩
        have HSN := Lib.hid (show ∀ W, Below x2.heap.size x2 W → ∀ k, k < 3 → W.cell? ⟨w.heap.size + 1, k, none⟩ = some (.bool (s k)) from fun W h k hk => by
          rw [Lib.cell_of_heap ((h.block _ (block_lt HS2.out)).trans HS2.out), hs]
          rcases (by omega : k = 0 ∨ k = 1 ∨ k = 2) with rfl | rfl | rfl <;> rfl)
        have HNN := Lib.hid (show ∀ W, Below x2.heap.size x2 W → ∀ k, k < 3 → W.cell? ⟨w.heap.size, k, none⟩ = some (TS (nmK k)) from fun W h k hk => by
          rw [Lib.cell_of_heap ((h.block _ (block_lt HN2.out)).trans HN2.out)]
          rcases (by omega : k = 0 ∨ k = 1 ∨ k = 2) with rfl | rfl | rfl <;> rfl)
        rw [← hs] at HX2 ⊢
        have hwl := wk_len s 3
        obtain ⟨L, hL⟩ : ∃ L, L = wk s 3 := ⟨_, rfl⟩
        rw [← hL] at HX2 hwl ⊢
        obtain ⟨N, hN⟩ : ∃ N, N = L.length := ⟨_, rfl⟩
        rw [← hN] at HX2 hwl ⊢
        have HLd := Lib.hid hL
        have HNd := Lib.hid hN
        have hwx := HB2.out.size
        clear hp2 hb2 ho2 hu2 hs hL hN HNa HSa HOB HNm HNV HB1 HN2 HS2
        go_wp2_with fail
        go_loopw [13, 14] (fun wv kk W => ∃ k : Nat, k ≤ 3 ∧ kk = .int .i64 (k : Int) ∧ W.ownsRow x2.heap.size 9 1 wv (wk s k).length ((wk s k).map TS) ∧ Below x2.heap.size x2 W) (fun _ kk _ => 3 - (intOf kk).toNat)
        case atStart => exact ⟨0, by omega, rfl, World.ownsRow_nil _ _ _ _, Below.refl _ _⟩
        case round =>
          obtain ⟨k, hk, rfl, hO, hBk⟩ := hrel
          generalize wr = W at hO hBk ⊢
          have HOk := Lib.hid hO
          have hszk := hBk.size
          by_cases hk3 : k < 3
          · have cs := HSN.out W hBk k hk3
            have hwk := wk_len s k
            have HWN := Lib.hid (wk_next s k hk3)
            cases hsk : s k with
            | false =>
              rw [hsk] at cs
              have HWE := Lib.hid (show wk s (k + 1) = wk s k from by rw [HWN.out, hsk]; simp)
              clear hsk hO
              go_wp2_with fail
              go_roundw
              case rel => exact ⟨k + 1, by omega, by go_num, by rw [HWE.out]; exact HOk.out, hBk⟩
              case measure => simp [intOf]; omega
            | true =>
              rw [hsk] at cs
              have HWE := Lib.hid (show wk s (k + 1) = wk s k ++ [nmK k] from by rw [HWN.out, hsk]; rfl)
              have cn := HNN.out W hBk k hk3
              obtain ⟨z, hz⟩ : ∃ z : ByteArray, z = ⟨(nmK k).toArray⟩ := ⟨_, rfl⟩
              unfold TS at cn
              rw [← hz] at cn
              have HZ := Lib.hid (show [Value.string z] = [nmK k].map TS from by rw [hz]; rfl)
              have HOn := Lib.hid (owns_kept HOk.out ((Below.refl W.heap.size W).alloc (Nat.le_refl _) (.cells #[.string z] 9)))
              have HNw := Lib.hid (news_one (new_block W (.cells #[.string z] 9)))
              obtain ⟨M, hM⟩ : ∃ M, M = (wk s k).length := ⟨_, rfl⟩
              rw [← hM] at HOn hwk
              have HMd := Lib.hid hM
              clear hsk hO hz hM HOk
              go_wp2_with (at_builtin; refine wpList_append_own _ rfl _ _ 23 rfl x2.heap.size 9 i0 (.string ⟨#[]⟩) 1 16 Tryd.underlying23 hi hz0 hz1 hz2 rfl (by decide) _ _ _ (by rfl) HOn.out ⟨W.heap.size, 0, none⟩ 1 1 [.string z] (by rfl) rfl HNw.out (one_text z) (by unfold maxLen; omega) (by omega) (by simp; omega) ?_; intro v5 w5 hown5 hgrow5 hnil5)
              have hb5 := (hBk.alloc hszk (.cells #[.string z] 9)).grown hgrow5 (by simp; omega) (fun q hq => (World.ownsRow.lt HOn.out q hq).1)
              go_roundw
              case rel => exact ⟨k + 1, by omega, by go_num, by rw [HWE.out, List.length_append, ← HMd.out, List.map_append, ← HZ.out]; exact hown5, hb5⟩
              case measure => simp [intOf]; omega
          · have hk33 : k = 3 := by omega
            rw [hk33, ← HLd.out, ← HNd.out] at HOk
            obtain ⟨a3, c3, hu3⟩ := own_shape (ls := L) (by have h := HOk.out; rw [HNd.out] at h; exact h)
            rw [← HNd.out] at hu3
            rw [hu3] at HOk
            rw [hu3]
            have HXk := Lib.hid (Fd.owns_kept HX2.out hBk)
            have HBk := Lib.hid (HB2.out.trans (hBk.mono hwx))
            have hskk := HBk.out.size
            have HKv := Lib.hid (show (⟨(Vr.keyOf [] (nmsL [⟨#[113]⟩])).toArray⟩ : ByteArray) = ⟨#[113, 58, 45, 44]⟩ from by rw [show nmsL [⟨#[113]⟩] = [[113]] from rfl, key_q])
            have HKa := Lib.hid (key_any (.slice (some ⟨W.heap.size, 0, none⟩) 1 1) (.slice none 0 0) [⟨#[113]⟩] [] (W.alloc (.cells #[.string ⟨#[113]⟩] 9)) (strs_one (new_block W _)) (.inl ⟨rfl, _, _, rfl⟩) (by decide) (fun s hs => by simp at hs; rw [hs]; decide) (by decide) (p10_below HP.out (HBk.out.alloc HBk.out.size _) (Nat.le_refl _)))
            rw [HKv.out] at HKa
            have HBx := Lib.hid (HBk.out.alloc HBk.out.size (.cells #[.string ⟨#[113]⟩] 9))
            have HXx := Lib.hid (Fd.owns_kept HXk.out ((Below.refl W.heap.size W).alloc (Nat.le_refl _) (.cells #[.string ⟨#[113]⟩] 9)))
            have HOx := Lib.hid (Fd.owns_kept HOk.out ((Below.refl W.heap.size W).alloc (Nat.le_refl _) (.cells #[.string ⟨#[113]⟩] 9)))
            clear hO hBk hk33 hu3 HXk HOk HSN HNN HX2 HKv
            go_wp2_with fail
            refine HKa.out.mono ?_
            rintro e x12 ⟨rfl, hb12⟩
            have HB12 := Lib.hid (HBx.out.trans (hb12.mono HBx.out.size))
            have HX12 := Lib.hid (Fd.owns_kept HXx.out hb12)
            have HO12 := Lib.hid (Fd.owns_kept HOx.out hb12)
            clear hb12 HXx HOx HKa HBx
            go_wp2_with fail
            go_loopw [15] (fun i W3 => ∃ k : Nat, k ≤ N ∧ i = .int .i64 (k : Int) ∧ ∃ n, W3 = x12.drewN n) (fun i _ => N - (intOf i).toNat)
            case atStart => exact ⟨0, Nat.zero_le _, rfl, 0, rfl⟩
            case round =>
              obtain ⟨k2, hk2, rfl, n, hw⟩ := hrel
              by_cases hlt3 : k2 < N
              · have hkl : k2 < L.length := by have := HNd.out; omega
                obtain ⟨g4, rfl⟩ := own_addrO HX12.out (by omega)
                obtain ⟨g5, rfl⟩ := own_addrO HO12.out (by omega)
                have e1 : wr.cell? ⟨g4, k2, none⟩ = some (TS L[k2]) := by rw [hw]; exact row_at HX12.out k2 hlt3 (List.getElem?_eq_getElem hkl)
                have e2 : wr.cell? ⟨g5, k2, none⟩ = some (TS L[k2]) := by rw [hw]; exact row_at HO12.out k2 hlt3 (List.getElem?_eq_getElem hkl)
                obtain ⟨z, hz⟩ : ∃ z : ByteArray, z = ⟨L[k2].toArray⟩ := ⟨_, rfl⟩
                unfold TS at e1 e2
                rw [← hz] at e1 e2
                have HW := Lib.hid hw
                clear hz hw
                go_wp2_with fail
                go_quiet (fail)
                go_wp2_with fail
                go_roundw
                case rel => exact ⟨k2 + 1, by omega, by go_num, _, by rw [HW.out, World.drewN_drewN]⟩
                case measure => simp [intOf]; omega
              · have HBw := Lib.hid (Bl.drewN' HB12.out hw)
                clear hw
                go_wp2_with fail
                go_ret
                exact ⟨rfl, HBw.out⟩
    · have HTd := Lib.hid HO.out.txt
      have HNV := Lib.hid (show namesV [((⟨#[118, 97, 114, 121]⟩ : ByteArray), T)] = some (wk (sn os) 3) from by rw [HTd.out]; exact order_one os HO.out.lt)
      have HB1 := Lib.hid (hB.alloc hsz (.cells #[.string ⟨#[118, 97, 114, 121]⟩, .string T] 37))
      have HNa := Lib.hid (show ∀ W, Below wr.heap.size wr W → W.heap[w.heap.size]? = some (.cells loA 9 (0, 0)) from fun W h => (h.block _ (block_lt HO.out.nm)).trans HO.out.nm)
      have HSa := Lib.hid (show ∀ W, Below wr.heap.size wr W → W.heap[w.heap.size + 1]? = some (.cells (snA os) 35 (0, 0)) from fun W h => (h.block _ (block_lt HO.out.seen)).trans HO.out.seen)
      have HOB := Lib.hid ((Below.refl wr.heap.size wr).alloc (Nat.le_refl _) (.cells #[.string ⟨#[118, 97, 114, 121]⟩, .string T] 37))
      have HNm := Lib.hid (vnames_any (.slice (some ⟨wr.heap.size, 0, none⟩) 1 1) [(⟨#[118, 97, 114, 121]⟩, T)] (wr.alloc (.cells #[.string ⟨#[118, 97, 114, 121]⟩, .string T] 37)) (flds_one (new_block wr _)) (by rw [tot_vary]; omega) (HT.out.below HB1.out HT.out.lt))
      clear HO HTd
      go_wp2_with fail
      refine HNm.out.mono ?_
      rintro e x2 hp2
      obtain ⟨hb2, u, rfl, ho2⟩ := vnames_caseO hp2 HNV.out
      have HB2 := Lib.hid (HB1.out.trans (hb2.mono HB1.out.size))
      have HN2 := Lib.hid (HNa.out x2 (HOB.out.trans (hb2.mono HOB.out.size)))
      have HS2 := Lib.hid (HSa.out x2 (HOB.out.trans (hb2.mono HOB.out.size)))
      have HX2 := Lib.hid ho2
      obtain ⟨a2, c2, hu2⟩ := own_shape HX2.out
      rw [hu2] at HX2
      rw [hu2]
      obtain ⟨s, hs⟩ : ∃ s, s = sn os := ⟨_, rfl⟩
      have HSN := Lib.hid (show ∀ W, Below x2.heap.size x2 W → ∀ k, k < 3 → W.cell? ⟨w.heap.size + 1, k, none⟩ = some (.bool (s k)) from fun W h k hk => by
        rw [Lib.cell_of_heap ((h.block _ (block_lt HS2.out)).trans HS2.out), hs]
        rcases (by omega : k = 0 ∨ k = 1 ∨ k = 2) with rfl | rfl | rfl <;> rfl)
      have HNN := Lib.hid (show ∀ W, Below x2.heap.size x2 W → ∀ k, k < 3 → W.cell? ⟨w.heap.size, k, none⟩ = some (TS (nmK k)) from fun W h k hk => by
        rw [Lib.cell_of_heap ((h.block _ (block_lt HN2.out)).trans HN2.out)]
        rcases (by omega : k = 0 ∨ k = 1 ∨ k = 2) with rfl | rfl | rfl <;> rfl)
      rw [← hs] at HX2 ⊢
      have hwl := wk_len s 3
      obtain ⟨L, hL⟩ : ∃ L, L = wk s 3 := ⟨_, rfl⟩
      rw [← hL] at HX2 hwl ⊢
      obtain ⟨N, hN⟩ : ∃ N, N = L.length := ⟨_, rfl⟩
      rw [← hN] at HX2 hwl ⊢
      have HLd := Lib.hid hL
      have HNd := Lib.hid hN
      have hwx := HB2.out.size
      clear hp2 hb2 ho2 hu2 hs hL hN HNa HSa HOB HNm HNV HB1 HN2 HS2
      go_wp2_with fail
      go_loopw [13, 14] (fun wv kk W => ∃ k : Nat, k ≤ 3 ∧ kk = .int .i64 (k : Int) ∧ W.ownsRow x2.heap.size 9 1 wv (wk s k).length ((wk s k).map TS) ∧ Below x2.heap.size x2 W) (fun _ kk _ => 3 - (intOf kk).toNat)
      case atStart => exact ⟨0, by omega, rfl, World.ownsRow_nil _ _ _ _, Below.refl _ _⟩
      case round =>
        obtain ⟨k, hk, rfl, hO, hBk⟩ := hrel
        generalize wr = W at hO hBk ⊢
        have HOk := Lib.hid hO
        have hszk := hBk.size
        by_cases hk3 : k < 3
        · have cs := HSN.out W hBk k hk3
          have hwk := wk_len s k
          have HWN := Lib.hid (wk_next s k hk3)
          cases hsk : s k with
          | false =>
            rw [hsk] at cs
            have HWE := Lib.hid (show wk s (k + 1) = wk s k from by rw [HWN.out, hsk]; simp)
            clear hsk hO
            go_wp2_with fail
            go_roundw
            case rel => exact ⟨k + 1, by omega, by go_num, by rw [HWE.out]; exact HOk.out, hBk⟩
            case measure => simp [intOf]; omega
          | true =>
            rw [hsk] at cs
            have HWE := Lib.hid (show wk s (k + 1) = wk s k ++ [nmK k] from by rw [HWN.out, hsk]; rfl)
            have cn := HNN.out W hBk k hk3
            obtain ⟨z, hz⟩ : ∃ z : ByteArray, z = ⟨(nmK k).toArray⟩ := ⟨_, rfl⟩
            unfold TS at cn
            rw [← hz] at cn
            have HZ := Lib.hid (show [Value.string z] = [nmK k].map TS from by rw [hz]; rfl)
            have HOn := Lib.hid (owns_kept HOk.out ((Below.refl W.heap.size W).alloc (Nat.le_refl _) (.cells #[.string z] 9)))
            have HNw := Lib.hid (news_one (new_block W (.cells #[.string z] 9)))
            obtain ⟨M, hM⟩ : ∃ M, M = (wk s k).length := ⟨_, rfl⟩
            rw [← hM] at HOn hwk
            have HMd := Lib.hid hM
            clear hsk hO hz hM HOk
            go_wp2_with (at_builtin; refine wpList_append_own _ rfl _ _ 23 rfl x2.heap.size 9 i0 (.string ⟨#[]⟩) 1 16 Tryd.underlying23 hi hz0 hz1 hz2 rfl (by decide) _ _ _ (by rfl) HOn.out ⟨W.heap.size, 0, none⟩ 1 1 [.string z] (by rfl) rfl HNw.out (one_text z) (by unfold maxLen; omega) (by omega) (by simp; omega) ?_; intro v5 w5 hown5 hgrow5 hnil5)
            have hb5 := (hBk.alloc hszk (.cells #[.string z] 9)).grown hgrow5 (by simp; omega) (fun q hq => (World.ownsRow.lt HOn.out q hq).1)
            go_roundw
            case rel => exact ⟨k + 1, by omega, by go_num, by rw [HWE.out, List.length_append, ← HMd.out, List.map_append, ← HZ.out]; exact hown5, hb5⟩
            case measure => simp [intOf]; omega
        · have hk33 : k = 3 := by omega
          rw [hk33, ← HLd.out, ← HNd.out] at HOk
          obtain ⟨a3, c3, hu3⟩ := own_shape (ls := L) (by have h := HOk.out; rw [HNd.out] at h; exact h)
          rw [← HNd.out] at hu3
          rw [hu3] at HOk
          rw [hu3]
          have HXk := Lib.hid (Fd.owns_kept HX2.out hBk)
          have HBk := Lib.hid (HB2.out.trans (hBk.mono hwx))
          have hskk := HBk.out.size
          have HKv := Lib.hid (show (⟨(Vr.keyOf [] (nmsL [⟨#[113]⟩])).toArray⟩ : ByteArray) = ⟨#[113, 58, 45, 44]⟩ from by rw [show nmsL [⟨#[113]⟩] = [[113]] from rfl, key_q])
          have HKa := Lib.hid (key_any (.slice (some ⟨W.heap.size, 0, none⟩) 1 1) (.slice none 0 0) [⟨#[113]⟩] [] (W.alloc (.cells #[.string ⟨#[113]⟩] 9)) (strs_one (new_block W _)) (.inl ⟨rfl, _, _, rfl⟩) (by decide) (fun s hs => by simp at hs; rw [hs]; decide) (by decide) (p10_below HP.out (HBk.out.alloc HBk.out.size _) (Nat.le_refl _)))
          rw [HKv.out] at HKa
          have HBx := Lib.hid (HBk.out.alloc HBk.out.size (.cells #[.string ⟨#[113]⟩] 9))
          have HXx := Lib.hid (Fd.owns_kept HXk.out ((Below.refl W.heap.size W).alloc (Nat.le_refl _) (.cells #[.string ⟨#[113]⟩] 9)))
          have HOx := Lib.hid (Fd.owns_kept HOk.out ((Below.refl W.heap.size W).alloc (Nat.le_refl _) (.cells #[.string ⟨#[113]⟩] 9)))
          clear hO hBk hk33 hu3 HXk HOk HSN HNN HX2 HKv
          go_wp2_with fail
          refine HKa.out.mono ?_
          rintro e x12 ⟨rfl, hb12⟩
          have HB12 := Lib.hid (HBx.out.trans (hb12.mono HBx.out.size))
          have HX12 := Lib.hid (Fd.owns_kept HXx.out hb12)
          have HO12 := Lib.hid (Fd.owns_kept HOx.out hb12)
          clear hb12 HXx HOx HKa HBx
          go_wp2_with fail
          go_loopw [15] (fun i W3 => ∃ k : Nat, k ≤ N ∧ i = .int .i64 (k : Int) ∧ ∃ n, W3 = x12.drewN n) (fun i _ => N - (intOf i).toNat)
          case atStart => exact ⟨0, Nat.zero_le _, rfl, 0, rfl⟩
          case round =>
            obtain ⟨k2, hk2, rfl, n, hw⟩ := hrel
            by_cases hlt3 : k2 < N
            · have hkl : k2 < L.length := by have := HNd.out; omega
              obtain ⟨g4, rfl⟩ := own_addrO HX12.out (by omega)
              obtain ⟨g5, rfl⟩ := own_addrO HO12.out (by omega)
              have e1 : wr.cell? ⟨g4, k2, none⟩ = some (TS L[k2]) := by rw [hw]; exact row_at HX12.out k2 hlt3 (List.getElem?_eq_getElem hkl)
              have e2 : wr.cell? ⟨g5, k2, none⟩ = some (TS L[k2]) := by rw [hw]; exact row_at HO12.out k2 hlt3 (List.getElem?_eq_getElem hkl)
              obtain ⟨z, hz⟩ : ∃ z : ByteArray, z = ⟨L[k2].toArray⟩ := ⟨_, rfl⟩
              unfold TS at e1 e2
              rw [← hz] at e1 e2
              have HW := Lib.hid hw
              clear hz hw
              go_wp2_with fail
              go_quiet (fail)
              go_wp2_with fail
              go_roundw
              case rel => exact ⟨k2 + 1, by omega, by go_num, _, by rw [HW.out, World.drewN_drewN]⟩
              case measure => simp [intOf]; omega
            · have HBw := Lib.hid (Bl.drewN' HB12.out hw)
              clear hw
              go_wp2_with fail
              go_ret
              exact ⟨rfl, HBw.out⟩

set_option maxHeartbeats 2000000 in
set_option maxRecDepth 100000 in
theorem contract (H : Type) (enc : TypeId × Value → H) (W : World) (base : Nat) (args : Array Value) (ds gs : List (DataW H)) (before : List MemPlace)
    (hval : ∀ (j : Nat) t v, Tryd.f5.params[j]? = some t → args[j]? = some v → Value.okWide Tryd.prog W .any base t v)
    (hW : DataW.Whole enc Tryd.prog Tryd.f5.params.toList Rows.varyOrderSpec.vars false W args.toList ds gs before) (ts : List TypeId) (hsz : (DataW.weightsEach Tryd.prog (Tryd.f5.params.toList ++ ts) (ds ++ gs)).all (· ≤ reachBytes) = true) (hL : laidMetH Tryd.prog Rows.varyOrderRow.laid W) :
    Calls Tryd.prog 5 args W fun e W' => ∃ v, e = .returned v ∧ Rows.varyOrderSpec.post enc Tryd.prog Tryd.f5 false true false false W args v W' := by
  have hW' := hW
  obtain ⟨p, q, hA0, hV, rfl, hfz, hnd⟩ := hW
  have hA : DataW.TrodAll enc Tryd.prog W 0 (fun _ => true) true Tryd.f5.params.toList args.toList ds p := hA0
  rw [Tryd.params5] at hA hval hsz
  obtain ⟨v0, vs0, d0, ds0, p0, q0, hargs, rfl, rfl, h0, r0⟩ := trodAll_cons hA
  obtain ⟨v1, vs1, d1, ds1, p1, q1, rfl, rfl, rfl, h1, r1⟩ := trodAll_cons r0
  obtain ⟨rfl, rfl, rfl⟩ := trodAll_nil r1
  obtain rfl : args = #[v0, v1] := by cases args; simp_all
  obtain ⟨rfl, rfl⟩ := trodVars_none hV
  have k0 := h0
  have lt0 : ∀ x ∈ p0, x.block < W.heap.size := by obtain ⟨m, hm⟩ := k0; exact DataW.trod_lt m _ _ _ hm
  obtain ⟨ls0, f0, l0⟩ := Hd.open_nums (hval 0 34 v0 rfl rfl) h0
  obtain ⟨a1, rfl, rfl, rfl⟩ := open_bool Tryd.underlying4 (hval 1 4 v1 rfl rfl) h1
  clear hA0
  simp only [List.append_nil] at hW'
  refine (walk v0 ls0 a1 W (Tb.tok_of_head (Tb.tail (Tb.tail (Tb.tail hL)))) (Tb.p10_of_head (Tb.tail (Tb.tail hL))) f0 l0).mono fun e W' ⟨he, bel⟩ => ?_
  subst he
  exact ⟨_, rfl, _, _, _, [], _, [], hW', trodAll_mk1 (shut_bool Tryd.underlying4 _), (trodAll_cons_mk (Below.trod Tb.laidOut (by kernel_rfl) (of_decide_eq_true (by kernel_rfl)) k0 bel lt0) (trodAll_cons_mk (shut_bool Tryd.underlying4 a1) trodAll_mk0)), rfl, bel.frame _, fun h => by cases h⟩

theorem laid_met (os : Os) : laidMet Tryd.prog Rows.varyOrderRow.laid ((Tb.laidWorld os).forCall (fun _ _ => 0) ⟨#[], #[.slice none 0 0, .bool false], []⟩).memory :=
  laidMet_of_run' 8 (by kernel_rfl) (by kernel_rfl)
theorem reads (os : Os) {H : Type} (enc : TypeId × Value → H) : ∃ places, DataW.whole enc Tryd.prog ((Tb.laidWorld os).forCall (fun _ _ => 0) ⟨#[], #[.slice none 0 0, .bool false], []⟩).memory Tryd.f5.params.toList Rows.varyOrderSpec.vars false (#[.slice none 0 0, .bool false] : Array Value).toList 8 = some ([.nil, .lit (.bool false)], [], places) :=
  ⟨[], by kernel_rfl⟩

set_option maxRecDepth 100000 in
theorem lifted (os : Os) (started : os.Started) (H : Type) (enc : TypeId × Value → H) (F : Stop.Interp) :
    ReturnsInHanded {} Tryd.checked os 5 .any ((OpenSpec.ofChange Rows.varyOrderSpec).preRow enc Tryd.prog Tryd.f5 Rows.varyOrderRow.domain false Rows.varyOrderRow.laid) (((OpenSpec.ofChange Rows.varyOrderSpec).at F).post enc Tryd.prog Tryd.f5 false true false false) := by
  obtain ⟨places, hx⟩ := reads os enc
  refine returnsInHanded_of_row (C := Tryd.checked) (s := OpenSpec.ofChange Rows.varyOrderSpec) Tb.own started (by kernel_rfl) Tryd.func5
    (witness_row_at (enc := enc) (C := Tryd.checked) false (Tb.laidWorld os) #[.slice none 0 0, .bool false] rfl (by kernel_rfl) (by kernel_rfl) (by kernel_rfl)
      (OpenSpec.preRow_of_cond 8 hx (by kernel_rfl) (fun k hk => by cases hk) (by kernel_rfl) (laid_met os))) ?_
  intro W base args ds gs before hval hW _ _ hsz hL _ _
  exact contract H enc W base args ds gs before hval hW _ hsz hL

theorem said : Rows.VaryOrderSaid :=
  OpenClaim.holds_of_cond 5 Tryd.f5 rfl rfl rfl rfl rfl rfl rfl ⟨rfl, rfl, rfl, rfl, rfl⟩ rfl rfl rfl rfl rfl (by kernel_rfl) Tryd.func5 (by kernel_rfl)
    (of_decide_eq_true (by kernel_rfl)) (by unfold Func.isWrapper; first | (rw [if_pos (by decide +kernel)]; kernel_rfl) | (rw [if_neg (by decide +kernel)]; exact ⟨rfl, rfl⟩))
    (fun os started H enc _ F => by rw [OpenClaim.pre_eq_preRow]; exact lifted os started H enc F)

set_option maxRecDepth 100000 in
theorem plain (f : FuncId) (fn : Func) (hf : Tryd.pinned.checked.prog.funcNamed "gatepost/gatepostlaw11.VaryOrder" = some f) (hfn : Tryd.pinned.checked.prog.funcs[f]? = some fn) :
    false = Tryd.pinned.checked.prog.looks [] ∧ ∀ (j : Nat) t, fn.params[j]? = some t → Tryd.pinned.checked.prog.wantsStandIn t = false := by
  obtain rfl : f = 5 := Option.some.inj ((show Tryd.prog.funcNamed "gatepost/gatepostlaw11.VaryOrder" = some 5 by kernel_rfl).symm.trans hf) |>.symm
  obtain rfl : fn = Tryd.f5 := (Option.some.inj (Tryd.func5.symm.trans hfn)).symm
  refine ⟨by kernel_rfl, fun j t ht => ?_⟩
  rw [Tryd.params5] at ht
  have hm := Array.mem_of_getElem? ht
  simp at hm
  repeat' (rcases hm with hm | hm)
  all_goals
    first
      | exact (show Tryd.prog.wantsStandIn 34 = false by kernel_rfl)
      | exact (show Tryd.prog.wantsStandIn 4 = false by kernel_rfl)

theorem card : Rows.VaryOrderCardSaid :=
  Claim7.holds_tied_plain_at .later [] _ _ _ _ said (fun _ h => by cases h) (by kernel_rfl) (fun _ h => by cases h) varyOrder_row_tie rfl ⟨rfl, rfl⟩ (by kernel_rfl) rfl plain (by kernel_rfl)
end Go.Proofs.YtcnipjmeillfeaaDoor.varyOrder
