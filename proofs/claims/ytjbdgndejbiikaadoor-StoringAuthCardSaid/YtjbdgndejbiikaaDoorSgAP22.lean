/-
  Texts that the laws' proofs stand on, 3 of them in one file; each one's head says what it proves and under which condition.
-/
import Derived.Test.YtjbdgndejbiikaaDoorSgAP21
import Derived.Test.YtjbdgndejbiikaaDoorSgAP10
import Derived.Test.YtjbdgndejbiikaaDoorRows
import Derived.Test.YtjbdgndejbiikaaDoorSgAP1
import Derived.WalkKit
import Derived.WalkLawsBesides
import Derived.Outline
import Derived.Lib.Hide
import Derived.Deep.QuietTactic
import Derived.BigQuiet
/-
  token.Split: what it returns. Condition: a text of at most 2^32 bytes.
-/
namespace Go.Proofs.YtjbdgndejbiikaaDoor.Tk
open Go.RowKit

/-- What a call of Split answers: the elements, in memory of its own; or nothing and false. -/
def SplitPost (l : Bs) (w : World) (e : Ending) (w' : World) : Prop :=
  Below w.heap.size w w' ∧ ((splitOf l = none ∧ e = .returned (.tuple #[.slice none 0 0, .bool false])) ∨
    ∃ ls v, splitOf l = some ls ∧ e = .returned (.tuple #[v, .bool true]) ∧ w'.ownsRow w.heap.size 9 1 v ls.length (ls.map S))

theorem heap_new (w : World) (o : Obj) : (w.alloc o).heap[w.heap.size]? = some o := by
  show (w.heap.push o)[w.heap.size]? = _; simp
theorem len_eq (s : ByteArray) : s.data.toList.length = s.size := by simp

theorem Inv.start (w : World) (s : ByteArray) (cap : Nat) (hcap : s.size ≤ cap) :
    Inv w w.heap.size s.data.toList cap 0 [] (bytesRow s cap) ((((w.alloc (.cells (bytesRow s cap) 5 ((bytesRow s cap).size, (bytesRow s cap).size + 1))).alloc
      (.cells #[.slice (some ⟨w.heap.size, 0, none⟩) s.size cap] 77)).alloc (.cells #[.slice none 0 0] 40)).alloc (.cells #[.int .i64 0] 3)).drew := by
  refine ⟨rfl, ?_, ?_, by rw [len_eq]; exact hcap, ?_, ?_, ⟨.slice none 0 0, ?_, World.ownsRow_nil _ _ _ _⟩, Nat.zero_le _, ?_⟩
  · show (World.alloc _ _).heap[w.heap.size]? = _
    rw [Below.heap_alloc _ _ _ (by simp; omega), Below.heap_alloc _ _ _ (by simp; omega), Below.heap_alloc _ _ _ (by simp)]
    exact heap_new _ _
  · intro j hj
    rw [bytesRow_at s cap j (by simpa using hj)]; simp
  · show (World.alloc _ _).heap[w.heap.size + 1]? = _
    rw [Below.heap_alloc _ _ _ (by simp), Below.heap_alloc _ _ _ (by simp), len_eq]
    have := heap_new (w.alloc (.cells (bytesRow s cap) 5 ((bytesRow s cap).size, (bytesRow s cap).size + 1))) (.cells #[.slice (some ⟨w.heap.size, 0, none⟩) s.size cap] 77)
    rwa [World.size_alloc] at this
  · have := heap_new (((w.alloc (.cells (bytesRow s cap) 5 ((bytesRow s cap).size, (bytesRow s cap).size + 1))).alloc (.cells #[.slice (some ⟨w.heap.size, 0, none⟩) s.size cap] 77)).alloc (.cells #[.slice none 0 0] 40)) (.cells #[.int .i64 0] 3)
    rw [World.size_alloc, World.size_alloc, World.size_alloc] at this
    exact this
  · show (World.alloc _ _).heap[w.heap.size + 2]? = _
    rw [Below.heap_alloc _ _ _ (by simp)]
    have := heap_new ((w.alloc (.cells (bytesRow s cap) 5 ((bytesRow s cap).size, (bytesRow s cap).size + 1))).alloc (.cells #[.slice (some ⟨w.heap.size, 0, none⟩) s.size cap] 77)) (.cells #[.slice none 0 0] 40)
    rw [World.size_alloc, World.size_alloc] at this
    exact this
  · exact (((((Below.refl _ _).alloc (Nat.le_refl _) _).alloc (by simp) _).alloc (by simp; omega) _).alloc (by simp; omega) _).drew

theorem owns_mono {w : World} {base base' : Nat} {e : TypeId} {size : Nat} {v : Value} {n : Nat} {xs : List Value} (h : w.ownsRow base e size v n xs) (hb : base' ≤ base) : w.ownsRow base' e size v n xs := by
  refine ⟨h.1, ?_⟩
  rcases h.2 with h2 | ⟨g, cap, cur, hv, hg, r⟩
  · exact .inl h2
  · exact .inr ⟨g, cap, cur, hv, by omega, r⟩

set_option maxHeartbeats 2000000 in
theorem split_any (s : ByteArray) (w : World) (hs : s.size ≤ 4294967296) :
    Calls Tryd.prog 29 #[.string s] w (SplitPost s.data.toList w) := by
  have hconv := fun W : World => run_bytes_of_string (P := Tryd.prog) W 9 77 5 s Tryd.underlying9 Tryd.underlying77 Tryd.underlying5
  have HST := Lib.hid (Inv.start w s (grownCap w s.size 0 5) (grownCap_ge w s.size 0 5))
  have HLEN := Lib.hid (len_eq s)
  go_enter Tryd.func29, Tryd.ntmps29
  go_wp2_with fail
  clear hconv
  rw [show w.heap.size + 1 + 1 + 1 = w.heap.size + 3 from rfl, show w.heap.size + 1 + 1 = w.heap.size + 2 from rfl]
  obtain ⟨cap, hcap⟩ : ∃ c, c = grownCap w s.size 0 5 := ⟨_, rfl⟩
  rw [← hcap]
  rw [← hcap] at HST
  clear hcap
  go_loopw [8] (fun v wr => ∃ k fr ls, v = .int .i64 ((k : Nat) : Int) ∧ fr ≤ k ∧ k ≤ s.size ∧ Inv w w.heap.size s.data.toList cap fr ls (bytesRow s cap) wr ∧ Left s.data.toList ls false ((s.data.toList.take k).drop fr) k) (fun v _ => s.size - (intOf v).toNat)
  case atStart => exact ⟨0, 0, [], rfl, Nat.le_refl _, Nat.zero_le _, HST.out, by simpa using Left.start s.data.toList⟩
  case round =>
    obtain ⟨k, fr, ls, rfl, hfk, hk, hI, hL⟩ := hrel
    have cT := cell_of_one hI.vText
    rw [HLEN.out] at cT
    have HI := Lib.hid hI
    have HL := Lib.hid hL
    clear hI hL HST
    by_cases hlt : k < s.size
    · have hk' : k < s.data.toList.length := by rw [HLEN.out]; exact hlt
      have hcell := HI.out.holds k hk'
      rw [Nat.zero_add] at hcell
      have hroom := HI.out.room
      rw [HLEN.out] at hroom
      obtain ⟨c, hc⟩ : ∃ c, c = s.data.toList[k] := ⟨_, rfl⟩
      rw [← hc] at hcell
      have HC := Lib.hid hc
      clear hc
      by_cases h44 : c = 44
      · have t1 := is44 h44
        have HL2 := Lib.hid (HL.out.commaPart hk' (HC.out.symm.trans h44))
        clear h44 hroom
        go_wp2_with (go_at_call 45; refine (end_any w w.heap.size cap fr k s.data.toList ls (bytesRow s cap) _ HI.out (by rw [HLEN.out]; exact hs) hfk (by omega)).mono ?_; rintro e w' ⟨rfl, hI'⟩)
        go_roundw
        case rel => exact ⟨k + 1, k + 1, _, by go_num, Nat.le_refl _, by omega, by assumption, HL2.out⟩
        case measure => simp [intOf]; omega
      · have t1 := no44 h44
        by_cases h34 : c = 34
        · have t2 := is34 h34
          cases hq : qe (s.data.toList.drop (k + 1)) with
          | none =>
            have HN := Lib.hid (HL.out.quoteNone hk' (HC.out.symm.trans h34) hq)
            have HQ := Lib.hid (qEnd_none hq)
            clear h44 h34 hq
            go_wp2_with (go_at_call 47; refine (quoteEnd_any w.heap.size 0 s.size cap k s.data.toList _ HLEN.out hs hlt HI.out.holds).mono ?_; rintro e w' ⟨rfl, rfl⟩; rw [HQ.out])
            go_ret2
            exact ⟨HI.out.below, .inl ⟨HN.out, rfl⟩⟩
          | some m =>
            have hm := qe_le _ _ (Nat.le_refl _) _ hq
            have hm2 : k + m < s.size := by
              have h1 : (s.data.toList.drop (k + 1)).length = s.size - (k + 1) := by rw [List.length_drop, HLEN.out]
              omega
            have HL2 := Lib.hid (HL.out.quoteSome hfk hk' (HC.out.symm.trans h34) hq)
            have HQ := Lib.hid (qEnd_some hq)
            have hm1 := hm.1
            clear h44 h34 hq hm
            go_wp2_with (go_at_call 47; refine (quoteEnd_any w.heap.size 0 s.size cap k s.data.toList _ HLEN.out hs hlt HI.out.holds).mono ?_; rintro e w' ⟨rfl, rfl⟩; rw [HQ.out])
            go_roundw
            case rel => exact ⟨k + m + 1, fr, ls, by go_num, by omega, by omega, HI.out, HL2.out⟩
            case measure => simp [intOf]; omega
        · have t2 := no34 h34
          have HL2 := Lib.hid (HL.out.otherPart hfk hk' (by rw [← HC.out]; exact h44) (by rw [← HC.out]; exact h34))
          clear h44 h34
          go_wp2_with fail
          go_roundw
          case rel => exact ⟨k + 1, fr, ls, by go_num, by omega, by omega, HI.out, HL2.out⟩
          case measure => simp [intOf]; omega
    · obtain rfl : k = s.size := by omega
      have HS := Lib.hid (HL.out.stop (by rw [HLEN.out]; exact Nat.le_refl _))
      go_wp2_with fail
      refine (end_any w w.heap.size cap fr s.size s.data.toList ls (bytesRow s cap) _ HI.out (by rw [HLEN.out]; exact hs) hfk (by rw [HLEN.out]; exact Nat.le_refl _)).mono ?_
      rintro e w' ⟨rfl, hI'⟩
      obtain ⟨v, hv, hown⟩ := hI'.list
      have cV := cell_of_one hv
      have HI2 := Lib.hid hI'
      clear hI' hv
      go_wp2_with fail
      go_ret2
      exact ⟨HI2.out.below, .inr ⟨_, v, HS.out, rfl, owns_mono hown (by omega)⟩⟩
end Go.Proofs.YtjbdgndejbiikaaDoor.Tk
/-
  A loop over elements: what lies where; lengths of an element's parts. No condition.
-/
namespace Go.Proofs.YtjbdgndejbiikaaDoor.Ct
open Go.RowKit Go.Proofs.YtjbdgndejbiikaaDoor.Tk Go.Proofs.YtjbdgndejbiikaaDoor.Fd Go.Proofs.YtjbdgndejbiikaaDoor.Hd
set_option maxRecDepth 100000
set_option linter.unusedVariables false

theorem unqGo_len : ∀ (n : Nat) (r : Bs), r.length ≤ n → ∀ u, unqGo r = some u → u.length ≤ r.length
  | 0, r, h, u, hu => by
    obtain rfl : r = [] := List.length_eq_zero_iff.1 (by omega)
    rw [unqGo_nil] at hu; cases hu
  | n + 1, [], h, u, hu => by rw [unqGo_nil] at hu; cases hu
  | n + 1, c :: r, h, u, hu => by
    have hr : r.length ≤ n := by simp at h; omega
    rw [unqGo.eq_def] at hu
    simp only at hu
    split at hu
    · split at hu
      · injection hu with hu; subst hu; simp
      · cases hu
    · split at hu
      · match r, hr, hu with
        | [], hr, hu => cases hu
        | d :: r', hr, hu =>
          simp only at hu
          split at hu
          · rw [Option.map_eq_some_iff] at hu
            obtain ⟨y, hy, rfl⟩ := hu
            have := unqGo_len n r' (by simp at hr; omega) y hy
            simp; omega
          · cases hu
      · split at hu
        · rw [Option.map_eq_some_iff] at hu
          obtain ⟨y, hy, rfl⟩ := hu
          have := unqGo_len n r hr y hy
          simp; omega
        · cases hu
theorem unq_len {q u : Bs} (h : unq q = some u) : u.length ≤ q.length := by
  cases q with
  | nil => cases h
  | cons c r =>
    unfold unq at h
    simp only at h
    split at h
    · have := unqGo_len _ r (Nat.le_refl _) u h
      simp; omega
    · cases h
theorem pair_sizes {x a : Bs} {v : Option Bs} (h : pairOf x = some (a, v)) : a.length ≤ x.length ∧ (valB v).size ≤ x.length := by
  have hz : (valB none).size ≤ x.length := Nat.zero_le _
  have hs : ∀ y : Bs, (valB (some y)).size = y.length := fun y => by show y.toArray.size = _; rw [List.size_toArray]
  unfold pairOf at h
  split at h
  · cases h
  · split at h
    · injection h with h; injection h with h1 h2; subst h1 h2; exact ⟨Nat.le_refl _, hz⟩
    · split at h
      · injection h with h; injection h with h1 h2; subst h1 h2
        refine ⟨by rw [List.length_take]; omega, ?_⟩
        rw [hs, List.length_drop]; omega
      · rw [Option.map_eq_some_iff] at h
        obtain ⟨u, hu, h⟩ := h
        injection h with h1 h2; subst h1 h2
        refine ⟨by rw [List.length_take]; omega, ?_⟩
        have := unq_len hu
        rw [List.length_drop] at this
        rw [hs]; omega
/-- What lies where while elements are gone over: the result's box, what is said so far, the map, the list. -/
structure St (w : World) (r g M : Nat) (lv : Value) (ls : List Bs) (c : Con) (W : World) : Prop where
  bel : Below w.heap.size w W
  res : W.heap[r]? = some (.cells blank13 33 (0, 0))
  con : ConAt W g c
  kn : Known W g M table
  row : W.ownsRow (g + 1) 9 1 lv ls.length (ls.map TS)
section
variable {w : World} {r g M : Nat} {lv : Value} {ls : List Bs} {c c' : Con} {W W' : World}
theorem St.more (h : St w r g M lv ls c W) (hM : g < M) (hb : Below W.heap.size W W') : St w r g M lv ls c W' :=
  ⟨Bl.next h.bel hb, Bl.old hb (block_lt h.res) h.res, Bl.old hb (block_lt h.con) h.con, h.kn.more hM hb, Fd.owns_kept h.row hb⟩
theorem St.put (h : St w r g M lv ls c W) (hM : g < M) (hr : r ≠ g) (hg : w.heap.size ≤ g) {i : Nat} {x : Value} (hp : PutAt W W' ⟨g, i, none⟩ x) (hc : ConAt W' g c') : St w r g M lv ls c' W' :=
  ⟨hp.below h.bel hg, (hp.far hr).trans h.res, hc, h.kn.put hM hp, row_same h.row fun k hk => hp.far (by
    have := (World.ownsRow.lt h.row k hk).1
    show k ≠ g; omega)⟩
theorem St.cell (h : St w r g M lv ls c W) {b cap : Nat} (hv : lv = .slice (some ⟨b, 0, none⟩) ls.length cap) (k : Nat) (hk : k < ls.length) : W.cell? ⟨b, k, none⟩ = some (.string ⟨ls[k].toArray⟩) := by
  have h1 := h.row
  rw [hv] at h1
  rw [h1.cellAt k (by omega), List.getElem?_map, List.getElem?_eq_getElem hk]; rfl
theorem St.shape (h : St w r g M lv ls c W) : ∃ a cap, lv = .slice a ls.length cap ∧ (0 < ls.length → ∃ b, a = some ⟨b, 0, none⟩) := by
  rcases h.row.2 with ⟨hv, h0⟩ | ⟨b, cap, cur, hv, _⟩
  · exact ⟨none, 0, by rw [hv, h0], fun h => by omega⟩
  · exact ⟨_, cap, hv, fun _ => ⟨b, rfl⟩⟩
end
theorem foldl_next (ls : List Bs) (k : Nat) (hk : k < ls.length) : (ls.take (k + 1)).foldl elem .zero = elem ((ls.take k).foldl elem .zero) ls[k] := by
  rw [List.take_succ_eq_append_getElem hk, List.foldl_append]; rfl
end Go.Proofs.YtjbdgndejbiikaaDoor.Ct
/-
  token.lowerByte, token.Lower and token.Same: what each returns. Conditions: none beyond the lengths that a string can have.
-/
namespace Go.Proofs.YtjbdgndejbiikaaDoor.Tk
open Go.RowKit

theorem lowerByte_any (c : UInt8) (w : World) :
    Calls Tryd.prog 17 #[.int .u8 (c.toNat : Int)] w fun e w' => e = .returned (.int .u8 ((low c).toNat : Int)) ∧ w' = w := by
  have hc : c.toNat < 256 := c.toNat_lt
  by_cases h : 65 ≤ c.toNat ∧ c.toNat ≤ 90
  · have HL := Lib.hid (low_up h)
    have h1 : (65 : Int) ≤ (c.toNat : Int) := by omega
    have h2 : (c.toNat : Int) ≤ 90 := by omega
    clear h
    go_enter Tryd.func17, Tryd.ntmps17
    go_wp2
    go_ret
    exact ⟨by rw [HL.out]; rfl, rfl⟩
  · have HL := Lib.hid (low_id h)
    by_cases h1 : (65 : Int) ≤ (c.toNat : Int)
    · have h2 : ¬ (c.toNat : Int) ≤ 90 := by omega
      clear h
      go_enter Tryd.func17, Tryd.ntmps17
      go_wp2
      go_ret
      exact ⟨by rw [HL.out]; rfl, rfl⟩
    · clear h
      go_enter Tryd.func17, Tryd.ntmps17
      go_wp2
      go_ret
      exact ⟨by rw [HL.out]; rfl, rfl⟩

/-- The first k bytes small, the others as they were. -/
def mix (l : Bs) (k : Nat) : Bs := (l.take k).map low ++ l.drop k
theorem mix_length (l : Bs) (k : Nat) (hk : k ≤ l.length) : (mix l k).length = l.length := by simp [mix]; omega
theorem mix_zero (l : Bs) : mix l 0 = l := by simp [mix]
theorem mix_all (l : Bs) : mix l l.length = lower l := by simp [mix, lower]
theorem mix_at (l : Bs) (k : Nat) (hk : k < l.length) : (mix l k)[k]'(by rw [mix_length l k (by omega)]; exact hk) = l[k] := by
  unfold mix
  rw [List.getElem_append_right (by simp; exact Nat.min_le_left _ _)]
  simp [Nat.min_eq_left (Nat.le_of_lt hk)]
theorem mix_set (l : Bs) (k : Nat) (hk : k < l.length) : (mix l k).set k (low l[k]) = mix l (k + 1) := by
  unfold mix
  rw [List.set_append_right _ _ (by simp; exact Nat.min_le_left _ _)]
  have h1 : k - (List.map low (List.take k l)).length = 0 := by simp; omega
  rw [h1, List.drop_eq_getElem_cons hk, List.take_succ_eq_append_getElem hk, List.map_append, List.set_cons_zero, List.append_assoc]
  rfl

theorem Holds.at0 {w : World} {b : Nat} {l : Bs} (h : Holds w b 0 l) (j : Nat) (hj : j < l.length) : w.cell? ⟨b, j, none⟩ = some (.int .u8 (l[j].toNat : Int)) := by
  have := h j hj; rwa [Nat.zero_add] at this
theorem Holds.set {w : World} {b : Nat} {l : Bs} (h : Holds w b 0 l) (k : Nat) (hk : k < l.length) (c : UInt8) : Holds (w.setCell ⟨b, k, none⟩ (.int .u8 (c.toNat : Int))) b 0 (l.set k c) := by
  intro j hj
  have hj' : j < l.length := by simpa using hj
  rw [Nat.zero_add]
  by_cases e : j = k
  · subst e
    rw [World.cell?_setCell_same w _ _ (h.at0 j hj')]; simp
  · rw [World.cell?_setCell_other w _ _ _ (by intro hh; injection hh with _ h2; exact e h2.symm), h.at0 j hj']
    simp [List.getElem_set_ne (Ne.symm e)]

set_option maxHeartbeats 1000000 in
theorem lower_any (s : ByteArray) (w : World) (hs : s.size ≤ maxLen) :
    Calls Tryd.prog 36 #[.string s] w fun e w' => e = .returned (.string ⟨(lower s.data.toList).toArray⟩) ∧ Below w.heap.size w w' := by
  unfold maxLen at hs
  have hconv := fun W : World => run_bytes_of_string (P := Tryd.prog) W 9 77 5 s Tryd.underlying9 Tryd.underlying77 Tryd.underlying5
  have hcap := grownCap_ge w s.size 0 5
  have hlen : s.data.toList.length = s.size := by simp
  have HLEN := Lib.hid hlen
  clear hlen
  have HH := Lib.hid (holds_new w s (grownCap w s.size 0 5) 5 ((bytesRow s (grownCap w s.size 0 5)).size, (bytesRow s (grownCap w s.size 0 5)).size + 1))
  have HF : Hid (∀ j, j < s.size → (w.alloc (.cells (bytesRow s (grownCap w s.size 0 5)) 5 ((bytesRow s (grownCap w s.size 0 5)).size, (bytesRow s (grownCap w s.size 0 5)).size + 1))).frozen? ⟨w.heap.size, j, none⟩ = false) := by
    intro j hj
    rw [World.frozen?_alloc_mark]
    have : (bytesRow s (grownCap w s.size 0 5)).size = grownCap w s.size 0 5 := by
      have h2 : s.data.size = s.size := rfl
      simp [bytesRow]; omega
    rw [this]; simp; omega
  go_enter Tryd.func36, Tryd.ntmps36
  go_wp2_with fail
  clear hconv
  go_loopw [10] (fun i wr => ∃ k : Nat, k ≤ s.size ∧ i = .int .i64 k ∧ Holds wr w.heap.size 0 (mix s.data.toList k) ∧ (∀ j, j < s.size → wr.frozen? ⟨w.heap.size, j, none⟩ = false) ∧ Below w.heap.size w wr) (fun i _ => s.size - (intOf i).toNat)
  case atStart => exact ⟨0, Nat.zero_le _, rfl, by rw [mix_zero]; exact HH.out, HF.out, ((Below.refl _ _).alloc (Nat.le_refl _) _).drew⟩
  case round =>
    obtain ⟨k, hk, rfl, hh, hf, hb⟩ := hrel
    have HH2 := Lib.hid hh
    have HF2 := Lib.hid hf
    clear hh hf HH HF
    by_cases hlt : k < s.size
    · have hk' : k < s.data.toList.length := by rw [HLEN.out]; exact hlt
      have hcell : wr.cell? ⟨w.heap.size, k, none⟩ = some (.int .u8 (s.data.toList[k].toNat : Int)) := by
        have h1 := HH2.out.at0 k (by rw [mix_length _ _ (Nat.le_of_lt hk')]; exact hk')
        rwa [mix_at _ _ hk'] at h1
      have hfz := HF2.out k hlt
      obtain ⟨c, hc⟩ : ∃ c, c = s.data.toList[k] := ⟨_, rfl⟩
      rw [← hc] at hcell
      have HC := Lib.hid hc
      clear hc
      go_wp2_with (go_at_call 17; refine (lowerByte_any _ _).mono ?_; rintro e w' ⟨rfl, rfl⟩)
      go_roundw
      case rel =>
        have hk' : k < s.data.toList.length := by rw [HLEN.out]; exact hlt
        refine ⟨k + 1, by omega, by go_num, ?_, ?_, ?_⟩
        · rw [← mix_set _ _ hk', ← HC.out]
          exact HH2.out.set k (by rw [mix_length _ _ (Nat.le_of_lt hk')]; exact hk') _
        · intro j hj; rw [World.frozen?_setCell]; exact HF2.out j hj
        · exact hb.setCell (Nat.le_refl _) _
      case measure => simp [intOf]; omega
    · have hback := run_back (P := Tryd.prog) wr 77 9 5 w.heap.size 0 (grownCap w s.size 0 5) (lower s.data.toList) Tryd.underlying77 Tryd.underlying5 Tryd.underlying9 (by
        have h1 := HH2.out
        rw [show k = s.data.toList.length from by rw [HLEN.out]; omega, mix_all] at h1
        exact h1)
      rw [lower_length, HLEN.out] at hback
      go_wp2
      go_ret
      exact ⟨rfl, hb⟩

/-- Two texts are alike but for the size of letters. -/
def same (a b : Bs) : Bool := lower a == lower b
theorem same_no {a b : ByteArray} (h : a.size ≠ b.size) : same a.data.toList b.data.toList = false := by
  unfold same
  rw [beq_eq_false_iff_ne]
  intro e
  have := congrArg List.length e
  simp [lower_length] at this
  exact h this
theorem same_at (a b : ByteArray) (k : Nat) (ha : k < a.size) (hb : k < b.size) (h : low a[k] ≠ low b[k]) : same a.data.toList b.data.toList = false := by
  unfold same
  rw [beq_eq_false_iff_ne]
  intro e
  have h1 : (lower a.data.toList)[k]? = some (low a[k]) := by
    simp only [lower, List.getElem?_map]
    rw [List.getElem?_eq_getElem (by simpa using ha)]; rfl
  have h2 : (lower b.data.toList)[k]? = some (low b[k]) := by
    simp only [lower, List.getElem?_map]
    rw [List.getElem?_eq_getElem (by simpa using hb)]; rfl
  rw [e, h2] at h1
  injection h1 with h1
  exact h h1.symm
theorem same_yes (a b : ByteArray) (hab : a.size = b.size) (h : ∀ j (ha : j < a.size) (hb : j < b.size), low a[j] = low b[j]) : same a.data.toList b.data.toList = true := by
  unfold same
  rw [beq_iff_eq]
  apply List.ext_getElem
  · simp [lower_length]; exact hab
  · intro j h1 h2
    simp only [lower, List.getElem_map]
    exact h j (by simpa [lower] using h1) (by simpa [lower] using h2)
theorem low_ne {c d : UInt8} (h : low c ≠ low d) : (((low c).toNat : Int) != ((low d).toNat : Int)) = true := by
  rw [bne_iff_ne]; intro e; exact h (UInt8.toNat.inj (by omega))
theorem low_eq {c d : UInt8} (h : low c = low d) : (((low c).toNat : Int) != ((low d).toNat : Int)) = false := by
  rw [h]; simp

set_option maxHeartbeats 1000000 in
theorem same_any (a b : ByteArray) (w : World) (hs : a.size ≤ maxLen) :
    Calls Tryd.prog 8 #[.string a, .string b] w fun e w' => e = .returned (.bool (same a.data.toList b.data.toList)) ∧ ∃ n, w' = w.drewN n := by
  unfold maxLen at hs
  by_cases hab : a.size = b.size
  · have hne : ((a.size : Int) != (b.size : Int)) = false := by rw [hab]; simp
    have HAB := Lib.hid hab
    clear hab
    go_enter Tryd.func8, Tryd.ntmps8
    go_wp2_with fail
    go_loopw [13] (fun i wr => ∃ k : Nat, k ≤ a.size ∧ i = .int .i64 k ∧ (∃ n, wr = w.drewN n) ∧ ∀ j (ha : j < a.size) (hb : j < b.size), j < k → low a[j] = low b[j]) (fun i _ => a.size - (intOf i).toNat)
    case atStart => exact ⟨0, Nat.zero_le _, rfl, ⟨0, rfl⟩, fun j _ _ h => by omega⟩
    case round =>
      obtain ⟨k, hk, rfl, ⟨n, hw⟩, hall⟩ := hrel
      have HALL := Lib.hid hall
      have HW := Lib.hid hw
      clear hall hw
      by_cases hlt : k < a.size
      · have hlb : k < b.size := by have := HAB.out; omega
        by_cases he : low a[k] = low b[k]
        · have h1 := low_eq he
          have HE := Lib.hid he
          clear he
          go_wp2_with fail
          go_quiet ((go_at_call 17; exact Calls.quiet_of_same (lowerByte_any _ _)))
          go_wp2
          go_roundw
          case rel =>
            refine ⟨k + 1, by omega, by go_num, ⟨_, by rw [HW.out, World.drewN_drewN]⟩, fun j ha hb hj => ?_⟩
            by_cases e : j = k
            · subst e; exact HE.out
            · exact HALL.out j ha hb (by omega)
          case measure => simp [intOf]; omega
        · have h1 := low_ne he
          have HN := Lib.hid (same_at a b k hlt hlb he)
          clear he
          go_wp2_with fail
          go_quiet ((go_at_call 17; exact Calls.quiet_of_same (lowerByte_any _ _)))
          go_wp2
          go_ret
          exact ⟨by rw [HN.out]; rfl, _, by rw [HW.out, World.drewN_drewN]⟩
      · have HY := Lib.hid (same_yes a b HAB.out fun j ha hb => HALL.out j ha hb (by omega))
        go_wp2
        go_ret
        exact ⟨by rw [HY.out]; rfl, _, HW.out⟩
  · have hne : ((a.size : Int) != (b.size : Int)) = true := by rw [bne_iff_ne]; omega
    have HN := Lib.hid (same_no hab)
    clear hab
    go_enter Tryd.func8, Tryd.ntmps8
    go_wp2
    go_ret
    exact ⟨by rw [HN.out]; rfl, 0, rfl⟩
end Go.Proofs.YtjbdgndejbiikaaDoor.Tk
