/-
  span.parts: what it returns. Condition: a set (its spans rise), a span whose From is not above its To.
-/
import Derived.Test.YtifceaffglomaaaSpFn
import Derived.Test.YtifceaffglomaaaSpCut
import Derived.Test.YtifceaffglomaaaSpShelf
import Derived.Deep.DeepCutAuto
namespace Go.Proofs.Ytifceaffglomaaa.Sn
open Go.RowKit Go.Proofs.Ytifceaffglomaaa.Fd
set_option maxRecDepth 100000
set_option linter.unusedVariables false

set_option maxHeartbeats 2000000 in
theorem clos1 (bl bs b off cap n : Nat) (x z : Int) (i : Nat) (W : World) (hi : i < n)
    (ha : W.cell? ⟨bl, 0, none⟩ = some (.slice (some ⟨b, off, none⟩) n cap)) (hx : W.cell? ⟨bs, 0, none⟩ = some (.int .i64 x)) (hc : W.cell? ⟨b, off + i * 2 + 1, none⟩ = some (.int .i64 z)) :
    Calls Try.prog 35 #[.int .i64 i, .pointer (some ⟨bl, 0, none⟩), .pointer (some ⟨bs, 0, none⟩)] W fun e w' => e = .returned (.bool (decide (x < z))) ∧ ∃ q, w' = W.drewN q := by
  have hiz : (i : Int) < (n : Int) := by omega
  go_enter Try.func35, Try.ntmps35
  go_wp2_with fail
  go_region
  all_goals go_wp2_with fail
  all_goals go_ret
  all_goals exact ⟨rfl, _, rfl⟩
set_option maxHeartbeats 2000000 in
theorem clos2 (bl bs b off cap n : Nat) (y z : Int) (i : Nat) (W : World) (hi : i < n)
    (ha : W.cell? ⟨bl, 0, none⟩ = some (.slice (some ⟨b, off, none⟩) n cap)) (hx : W.cell? ⟨bs, 1, none⟩ = some (.int .i64 y)) (hc : W.cell? ⟨b, off + i * 2, none⟩ = some (.int .i64 z)) :
    Calls Try.prog 36 #[.int .i64 i, .pointer (some ⟨bl, 0, none⟩), .pointer (some ⟨bs, 0, none⟩)] W fun e w' => e = .returned (.bool (decide (y ≤ z))) ∧ ∃ q, w' = W.drewN q := by
  have hiz : (i : Int) < (n : Int) := by omega
  go_enter Try.func36, Try.ntmps36
  go_wp2_with fail
  go_region
  all_goals go_wp2_with fail
  all_goals go_ret
  all_goals exact ⟨rfl, _, rfl⟩
theorem Spans.sliced {w : World} {a : Option Addr} {n cap : Nat} {l : List Sp} (h : Spans w (.slice a n cap) l) {i k m : Nat} (hi : i ≤ k) (hk : k ≤ m) (hm : m ≤ l.length) :
    Spans w (.slice (if m = i then a else a.map (·.add (i * 2))) (k - i) (m - i)) ((l.drop i).take (k - i)) := by
  by_cases he : k = i
  · subst he
    exact .inl ⟨by simp, _, _, by rw [Nat.sub_self]⟩
  · rcases h with ⟨rfl, _⟩ | ⟨b, off, cap', hv, hc, hmx, hlt, hs⟩
    · simp at hm; omega
    · injection hv with e1 e2 e3
      subst e1
      rw [if_neg (by omega)]
      have hlen : ((l.drop i).take (k - i)).length = k - i := by rw [List.length_take, List.length_drop]; omega
      exact show Spans w (.slice (some ((⟨b, off, none⟩ : Addr).add (i * 2))) (k - i) (m - i)) _ from by
        rw [Addr.add_lit]
        exact SAt.spans (cap := m - i) (hs.sub i (k - i) (by omega)) hlen.symm (by rw [hlen]; omega) (by omega) hlt
theorem Spans.front {w : World} {a : Option Addr} {n cap : Nat} {l : List Sp} (h : Spans w (.slice a n cap) l) {k : Nat} (hk : k ≤ l.length) : Spans w (.slice a k k) (l.take k) := by
  by_cases he : k = 0
  · subst he
    exact .inl ⟨by simp, _, _, rfl⟩
  · rcases h with ⟨rfl, _⟩ | ⟨b, off, cap', hv, hc, hmx, hlt, hs⟩
    · simp at hk; omega
    · injection hv with e1 e2 e3
      subst e1
      have hs2 := hs.sub 0 k (by omega)
      simp only [Nat.zero_mul, Nat.add_zero, List.drop_zero] at hs2
      exact SAt.spans (cap := k) hs2 (by simp; omega) (by simp; omega) (by omega) hlt
def PartsPost2 (v : Value) (l : List Sp) (s : Sp) (w : World) (e : Ending) (w' : World) : Prop :=
  ∃ v1 v2 v3, e = .returned (.tuple #[v1, v2, v3]) ∧ (∀ W, Spans W v l → Spans W v1 (aheadL l s) ∧ Spans W v2 (metL l s) ∧ Spans W v3 (behindL l s)) ∧ Below w.heap.size w w'
def PartsPost (l : List Sp) (s : Sp) (w : World) (e : Ending) (w' : World) : Prop :=
  ∃ v1 v2 v3, e = .returned (.tuple #[v1, v2, v3]) ∧ Spans w' v1 (aheadL l s) ∧ Spans w' v2 (metL l s) ∧ Spans w' v3 (behindL l s) ∧ Below w.heap.size w w'
set_option maxHeartbeats 4000000 in
theorem parts_aux (u v : Value) (l : List Sp) (x y : Int) (c : Int) (w : World) (h : Spans w v l) (hl : l.length ≤ 32) (hg : Good c l) (hxy : x ≤ y) (hu : ∀ W, Spans W u l → Spans W v l) :
    Calls Try.prog 26 #[v, .agg #[.int .i64 x, .int .i64 y]] w (PartsPost2 u l (x, y) w) := by
  obtain ⟨a, cap, rfl⟩ := h.shape
  have HU := Lib.hid hu
  clear hu
  obtain ⟨W0, hW0⟩ : ∃ W0, W0 = (w.alloc (.cells #[.slice a l.length cap] 22)).alloc (.cells #[.int .i64 x, .int .i64 y] 24) := ⟨_, rfl⟩
  have hsz0 : W0.heap.size = w.heap.size + 1 + 1 := by rw [hW0]; simp
  have hB0 : Below w.heap.size w W0 := by rw [hW0]; exact ((Below.refl w.heap.size w).alloc (Nat.le_refl _) _).alloc (by simp) _
  have ca : W0.cell? ⟨w.heap.size, 0, none⟩ = some (.slice a l.length cap) := by rw [hW0]; exact cell_alloc_sl _ (cell_new_sl w _ _)
  have hbx : W0.heap[w.heap.size + 1]? = some (.cells #[.int .i64 x, .int .i64 y] 24 (0, 0)) := by rw [hW0]; exact new_block' _ _ (by simp)
  have cx := two0 hbx
  have cy := two1 hbx
  have HP := Lib.hid (h.next hB0)
  have HG := Lib.hid hg
  have e35 : ∀ args w, (callFunc 35 args).run Try.prog w = .ok (.enter 35 args) w := Go.Proofs.enters_of Try.func35 (by kernel_rfl) rfl
  have e36 : ∀ args w, (callFunc 36 args).run Try.prog w = .ok (.enter 36 args) w := Go.Proofs.enters_of Try.func36 (by kernel_rfl) rfl
  have hc : ∀ i (hi : i < l.length), ∃ b off, a = some ⟨b, off, none⟩ ∧ b < W0.heap.size ∧ W0.cell? ⟨b, off + i * 2, none⟩ = some (.int .i64 (l.getD i (0, 0)).1) ∧ W0.cell? ⟨b, off + i * 2 + 1, none⟩ = some (.int .i64 (l.getD i (0, 0)).2) := by
    intro i hi
    rcases HP.out with ⟨rfl, _⟩ | ⟨b, off, cap', hv, _, _, hlt, hs⟩
    · simp at hi
    · injection hv with e1 e2 e3
      exact ⟨b, off, e1, hlt, by rw [(hs i hi).1, at_get l i hi], by rw [(hs i hi).2, at_get l i hi]⟩
  have HS1 := Lib.hid (show ∀ W : World, Below W0.heap.size W0 W → Calls Try.prog 34 #[.int .i64 l.length, .func (.func 35) #[] #[.pointer (some ⟨w.heap.size, 0, none⟩), .pointer (some ⟨w.heap.size + 1, 0, none⟩)]] W fun e w' => e = .returned (.int .i64 (nA x l : Nat)) ∧ Below W.heap.size W w' from by
    intro W hW
    have hsW := hW.size
    have hS := Any.sort_Search laysSearch 35 #[.pointer (some ⟨w.heap.size, 0, none⟩), .pointer (some ⟨w.heap.size + 1, 0, none⟩)] l.length (fun i => decide (x < (l.getD i (0, 0)).2)) W e35 (by omega)
      (fun m os i hi => by
        obtain ⟨b, off, rfl, hlt, h0, h1⟩ := hc i hi
        refine (clos1 w.heap.size (w.heap.size + 1) b off cap l.length x _ i _ hi (cell_grown (by show w.heap.size < _; omega) ((hW.cell (p := ⟨w.heap.size, 0, none⟩) (by show w.heap.size < _; omega)).trans ca) m os) (cell_grown (by show w.heap.size + 1 < _; omega) ((hW.cell (p := ⟨w.heap.size + 1, 0, none⟩) (by show w.heap.size + 1 < _; omega)).trans cx) m os) (cell_grown (by show b < _; omega) ((hW.cell (by exact hlt)).trans h1) m os)).mono ?_
        rintro e w' ⟨he, q, hq⟩
        exact ⟨he, q, #[], by rw [hq, Sort.grow_empty]⟩) (mono_A hg x)
    rw [count_at (fun u : Sp => !decide (x < u.2)) l] at hS
    change Calls Try.prog 34 _ _ _ at hS
    refine hS.mono ?_
    rintro e w' ⟨rfl, q, os, rfl⟩
    exact ⟨rfl, below_grown_sl _ _ q os (Nat.le_refl _)⟩)
  have HS2 := Lib.hid (show ∀ W : World, Below W0.heap.size W0 W → Calls Try.prog 34 #[.int .i64 l.length, .func (.func 36) #[] #[.pointer (some ⟨w.heap.size, 0, none⟩), .pointer (some ⟨w.heap.size + 1, 0, none⟩)]] W fun e w' => e = .returned (.int .i64 (nB y l : Nat)) ∧ Below W.heap.size W w' from by
    intro W hW
    have hsW := hW.size
    have hS := Any.sort_Search laysSearch 36 #[.pointer (some ⟨w.heap.size, 0, none⟩), .pointer (some ⟨w.heap.size + 1, 0, none⟩)] l.length (fun i => decide (y ≤ (l.getD i (0, 0)).1)) W e36 (by omega)
      (fun m os i hi => by
        obtain ⟨b, off, rfl, hlt, h0, h1⟩ := hc i hi
        refine (clos2 w.heap.size (w.heap.size + 1) b off cap l.length y _ i _ hi (cell_grown (by show w.heap.size < _; omega) ((hW.cell (p := ⟨w.heap.size, 0, none⟩) (by show w.heap.size < _; omega)).trans ca) m os) (cell_grown (by show w.heap.size + 1 < _; omega) ((hW.cell (p := ⟨w.heap.size + 1, 1, none⟩) (by show w.heap.size + 1 < _; omega)).trans cy) m os) (cell_grown (by show b < _; omega) ((hW.cell (by exact hlt)).trans h0) m os)).mono ?_
        rintro e w' ⟨he, q, hq⟩
        exact ⟨he, q, #[], by rw [hq, Sort.grow_empty]⟩) (mono_B hg y)
    rw [count_at (fun u : Sp => !decide (y ≤ u.1)) l] at hS
    change Calls Try.prog 34 _ _ _ at hS
    refine hS.mono ?_
    rintro e w' ⟨rfl, q, os, rfl⟩
    exact ⟨rfl, below_grown_sl _ _ q os (Nat.le_refl _)⟩)
  have HA := Lib.hid (show firstOf l (x, y) = if x = y then nB y l else nA x l from rfl)
  have HE := Lib.hid (show endOf l (x, y) = nB y l from rfl)
  have HF := Lib.hid (first_end hg (s := (x, y)) hxy)
  have HL := Lib.hid (end_le l (x, y))
  have HN := Lib.hid hl
  clear hc hxy h hg cx hl
  go_enter Try.func26, Try.ntmps26
  go_wp2_with fail
  rw [← hW0]
  refine (HS1.out W0 (Below.refl _ _)).mono ?_
  rintro e w1 ⟨rfl, hb1⟩
  have hsz1 := hb1.size
  have k1 : w1.cell? ⟨w.heap.size, 0, none⟩ = some (.slice a l.length cap) := (hb1.cell (p := ⟨w.heap.size, 0, none⟩) (by show w.heap.size < _; omega)).trans ca
  clear ca
  go_wp2_with fail
  refine (HS2.out w1 hb1).mono ?_
  rintro e w2 ⟨rfl, hb2⟩
  have hB2 := hb1.trans (hb2.mono hsz1)
  have hsz2 := hB2.size
  have k2 : w2.cell? ⟨w.heap.size, 0, none⟩ = some (.slice a l.length cap) := (hb2.cell (p := ⟨w.heap.size, 0, none⟩) (by show w.heap.size < _; omega)).trans k1
  have b2 : w2.heap[w.heap.size + 1]? = some (.cells #[.int .i64 x, .int .i64 y] 24 (0, 0)) := Bl.old hB2 (by omega) hbx
  have cx := two0 b2
  have cy := two1 b2
  clear k1 hb1 hb2
  go_wp2_with fail
  refine (empty_any x y _).mono ?_
  rintro e w3 ⟨rfl, hb3⟩
  have hB3 := hB2.trans (hb3.mono hsz2)
  have hsz3 := hB3.size
  have k3 : w3.cell? ⟨w.heap.size, 0, none⟩ = some (.slice a l.length cap) := (hb3.cell (p := ⟨w.heap.size, 0, none⟩) (by show w.heap.size < _; omega)).trans k2
  have HP3 := Lib.hid (HP.out.next hB3)
  have HB := Lib.hid (Bl.next hB0 (hB3.mono (Nat.le_refl _)))
  clear k2 b2 cx cy hB2 hb3 hB3 HP HS1 HS2
  have hn := HN.out
  have hcap := HP3.out.cap_le
  have hE := HE.out
  have hL := HL.out
  have hF := HF.out
  have hA := HA.out
  have HPO := Lib.hid (show ∀ v1 v2 v3 : Value, ∀ (n : Nat), v1 = .slice a (firstOf l (x, y)) (firstOf l (x, y)) →
      v2 = .slice (if endOf l (x, y) = firstOf l (x, y) then a else a.map (fun q => q.add (firstOf l (x, y) * 2))) (endOf l (x, y) - firstOf l (x, y)) (endOf l (x, y) - firstOf l (x, y)) →
      v3 = .slice (if l.length = endOf l (x, y) then a else a.map (fun q => q.add (endOf l (x, y) * 2))) (l.length - endOf l (x, y)) (l.length - endOf l (x, y)) → PartsPost2 u l (x, y) w (.returned (.tuple #[v1, v2, v3])) (w3.drewN n) from by
    rintro v1 v2 v3 n rfl rfl rfl
    refine ⟨_, _, _, rfl, fun W hW0 => have hW := HU.out W hW0; ⟨?_, ?_, ?_⟩, Bl.drewN HB.out n⟩
    · exact hW.front (by omega)
    · exact hW.sliced (i := firstOf l (x, y)) (k := endOf l (x, y)) (m := endOf l (x, y)) hF (Nat.le_refl _) hL
    · have := hW.sliced (i := endOf l (x, y)) (k := l.length) (m := l.length) hL (Nat.le_refl _) (Nat.le_refl _)
      rw [show (l.drop (endOf l (x, y))).take (l.length - endOf l (x, y)) = behindL l (x, y) from by unfold behindL; rw [List.take_of_length_le (by simp)]] at this
      exact this)
  by_cases hxy : x = y
  · subst hxy
    rw [if_pos rfl] at hA
    rw [hA, ← hE] at HPO
    rw [← hE]
    generalize hee : endOf l (x, x) = e at HPO hL
    generalize nA x l = f0
    clear HA HE HF HG hA hE hF hee
    go_wp2_with fail
    go_region
    all_goals go_wp2_with fail
    all_goals go_ret3
    all_goals exact HPO.out _ _ _ 1 rfl (by first | rfl | simp [*]) (by first | rfl | simp [*])
  · rw [if_neg hxy] at hA
    rw [hA] at HPO hF
    rw [← hE]
    generalize hee : endOf l (x, y) = e at HPO hL hF
    generalize hff : nA x l = f at HPO hF
    clear HA HE HF HG hA hE hee hff
    have hd : decide (x = y) = false := by simp [hxy]
    rw [hd]
    clear hd
    go_wp2_with fail
    go_region
    all_goals go_wp2_with fail
    all_goals go_ret3
    all_goals exact HPO.out _ _ _ 1 rfl (by first | rfl | simp [*]) (by first | rfl | simp [*])
theorem parts_any2 (v : Value) (l : List Sp) (x y : Int) (c : Int) (w : World) (h : Spans w v l) (hl : l.length ≤ 32) (hg : Good c l) (hxy : x ≤ y) :
    Calls Try.prog 26 #[v, .agg #[.int .i64 x, .int .i64 y]] w (PartsPost2 v l (x, y) w) := parts_aux v v l x y c w h hl hg hxy (fun _ h => h)
theorem parts_any (v : Value) (l : List Sp) (x y : Int) (c : Int) (w : World) (h : Spans w v l) (hl : l.length ≤ 32) (hg : Good c l) (hxy : x ≤ y) :
    Calls Try.prog 26 #[v, .agg #[.int .i64 x, .int .i64 y]] w (PartsPost l (x, y) w) := by
  refine (parts_any2 v l x y c w h hl hg hxy).mono ?_
  rintro e w' ⟨v1, v2, v3, rfl, hS, hB⟩
  obtain ⟨h1, h2, h3⟩ := hS w' (h.next hB)
  exact ⟨v1, v2, v3, rfl, h1, h2, h3, hB⟩
end Go.Proofs.Ytifceaffglomaaa.Sn
