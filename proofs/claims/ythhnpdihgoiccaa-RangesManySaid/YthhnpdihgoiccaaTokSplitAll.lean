/-
  token.Split: what it returns. Condition: a text of at most 2^32 bytes.
-/
import Derived.Test.YthhnpdihgoiccaaTokSplitEnd
namespace Go.Proofs.Ythhnpdihgoiccaa.Tk
open Go.RowKit

/-- What a call of Split answers: the elements, in memory of its own; or nothing and false. -/
def SplitPost (l : Bs) (w : World) (e : Ending) (w' : World) : Prop :=
  Below w.heap.size w w' ∧ ((splitOf l = none ∧ e = .returned (.tuple #[.slice none 0 0, .bool false])) ∨
    ∃ ls v, splitOf l = some ls ∧ e = .returned (.tuple #[v, .bool true]) ∧ w'.ownsRow w.heap.size 9 1 v ls.length (ls.map S))

theorem heap_new (w : World) (o : Obj) : (w.alloc o).heap[w.heap.size]? = some o := by
  show (w.heap.push o)[w.heap.size]? = _; simp
theorem len_eq (s : ByteArray) : s.data.toList.length = s.size := by simp

theorem Inv.start (w : World) (s : ByteArray) (cap : Nat) (hcap : s.size ≤ cap) :
    Inv w w.heap.size s.data.toList cap 0 [] (bytesRow s cap) ((((w.alloc (.cells (bytesRow s cap) 5 ((bytesRow s cap).size, (bytesRow s cap).size + 1))).alloc
      (.cells #[.slice (some ⟨w.heap.size, 0, none⟩) s.size cap] 55)).alloc (.cells #[.slice none 0 0] 42)).alloc (.cells #[.int .i64 0] 3)).drew := by
  refine ⟨rfl, ?_, ?_, by rw [len_eq]; exact hcap, ?_, ?_, ⟨.slice none 0 0, ?_, World.ownsRow_nil _ _ _ _⟩, Nat.zero_le _, ?_⟩
  · show (World.alloc _ _).heap[w.heap.size]? = _
    rw [Below.heap_alloc _ _ _ (by simp; omega), Below.heap_alloc _ _ _ (by simp; omega), Below.heap_alloc _ _ _ (by simp)]
    exact heap_new _ _
  · intro j hj
    rw [bytesRow_at s cap j (by simpa using hj)]; simp
  · show (World.alloc _ _).heap[w.heap.size + 1]? = _
    rw [Below.heap_alloc _ _ _ (by simp), Below.heap_alloc _ _ _ (by simp), len_eq]
    have := heap_new (w.alloc (.cells (bytesRow s cap) 5 ((bytesRow s cap).size, (bytesRow s cap).size + 1))) (.cells #[.slice (some ⟨w.heap.size, 0, none⟩) s.size cap] 55)
    rwa [World.size_alloc] at this
  · have := heap_new (((w.alloc (.cells (bytesRow s cap) 5 ((bytesRow s cap).size, (bytesRow s cap).size + 1))).alloc (.cells #[.slice (some ⟨w.heap.size, 0, none⟩) s.size cap] 55)).alloc (.cells #[.slice none 0 0] 42)) (.cells #[.int .i64 0] 3)
    rw [World.size_alloc, World.size_alloc, World.size_alloc] at this
    exact this
  · show (World.alloc _ _).heap[w.heap.size + 2]? = _
    rw [Below.heap_alloc _ _ _ (by simp)]
    have := heap_new ((w.alloc (.cells (bytesRow s cap) 5 ((bytesRow s cap).size, (bytesRow s cap).size + 1))).alloc (.cells #[.slice (some ⟨w.heap.size, 0, none⟩) s.size cap] 55)) (.cells #[.slice none 0 0] 42)
    rw [World.size_alloc, World.size_alloc] at this
    exact this
  · exact (((((Below.refl _ _).alloc (Nat.le_refl _) _).alloc (by simp) _).alloc (by simp; omega) _).alloc (by simp; omega) _).drew

theorem owns_mono {w : World} {base base' : Nat} {e : TypeId} {size : Nat} {v : Value} {n : Nat} {xs : List Value} (h : w.ownsRow base e size v n xs) (hb : base' ≤ base) : w.ownsRow base' e size v n xs := by
  refine ⟨h.1, ?_⟩
  rcases h.2 with h2 | ⟨g, cap, cur, hv, hg, r⟩
  · exact .inl h2
  · exact .inr ⟨g, cap, cur, hv, by omega, r⟩

set_option maxHeartbeats 2000000 in
theorem split_any (s : ByteArray) (w : World) (hs : s.size ≤ 4294967296) :
    Calls Try.prog 14 #[.string s] w (SplitPost s.data.toList w) := by
  have hconv := fun W : World => run_bytes_of_string (P := Try.prog) W 9 55 5 s Try.underlying9 Try.underlying55 Try.underlying5
  have HST := Lib.hid (Inv.start w s (grownCap w s.size 0 5) (grownCap_ge w s.size 0 5))
  have HLEN := Lib.hid (len_eq s)
  go_enter Try.func14, Try.ntmps14
  go_wp2_with fail
  clear hconv
  rw [show w.heap.size + 1 + 1 + 1 = w.heap.size + 3 from rfl, show w.heap.size + 1 + 1 = w.heap.size + 2 from rfl]
  obtain ⟨cap, hcap⟩ : ∃ c, c = grownCap w s.size 0 5 := ⟨_, rfl⟩
  rw [← hcap]
  rw [← hcap] at HST
  clear hcap
  go_loopw [8] (fun v wr => ∃ k fr ls, v = .int .i64 ((k : Nat) : Int) ∧ fr ≤ k ∧ k ≤ s.size ∧ Inv w w.heap.size s.data.toList cap fr ls (bytesRow s cap) wr ∧ Left s.data.toList ls false ((s.data.toList.take k).drop fr) k) (fun v _ => s.size - (intOf v).toNat)
  case atStart => exact ⟨0, 0, [], rfl, Nat.le_refl _, Nat.zero_le _, HST.out, by simpa using Left.start s.data.toList⟩
  case round =>
    obtain ⟨k, fr, ls, rfl, hfk, hk, hI, hL⟩ := hrel
    have cT := cell_of_one hI.vText
    rw [HLEN.out] at cT
    have HI := Lib.hid hI
    have HL := Lib.hid hL
    clear hI hL HST
    by_cases hlt : k < s.size
    · have hk' : k < s.data.toList.length := by rw [HLEN.out]; exact hlt
      have hcell := HI.out.holds k hk'
      rw [Nat.zero_add] at hcell
      have hroom := HI.out.room
      rw [HLEN.out] at hroom
      obtain ⟨c, hc⟩ : ∃ c, c = s.data.toList[k] := ⟨_, rfl⟩
      rw [← hc] at hcell
      have HC := Lib.hid hc
      clear hc
      by_cases h44 : c = 44
      · have t1 := is44 h44
        have HL2 := Lib.hid (HL.out.commaPart hk' (HC.out.symm.trans h44))
        clear h44 hroom
        go_wp2_with (go_at_call 22; refine (end_any w w.heap.size cap fr k s.data.toList ls (bytesRow s cap) _ HI.out (by rw [HLEN.out]; exact hs) hfk (by omega)).mono ?_; rintro e w' ⟨rfl, hI'⟩)
        go_roundw
        case rel => exact ⟨k + 1, k + 1, _, by go_num, Nat.le_refl _, by omega, by assumption, HL2.out⟩
        case measure => simp [intOf]; omega
      · have t1 := no44 h44
        by_cases h34 : c = 34
        · have t2 := is34 h34
          cases hq : qe (s.data.toList.drop (k + 1)) with
          | none =>
            have HN := Lib.hid (HL.out.quoteNone hk' (HC.out.symm.trans h34) hq)
            have HQ := Lib.hid (qEnd_none hq)
            clear h44 h34 hq
            go_wp2_with (go_at_call 24; refine (quoteEnd_any w.heap.size 0 s.size cap k s.data.toList _ HLEN.out hs hlt HI.out.holds).mono ?_; rintro e w' ⟨rfl, rfl⟩; rw [HQ.out])
            go_ret2
            exact ⟨HI.out.below, .inl ⟨HN.out, rfl⟩⟩
          | some m =>
            have hm := qe_le _ _ (Nat.le_refl _) _ hq
            have hm2 : k + m < s.size := by
              have h1 : (s.data.toList.drop (k + 1)).length = s.size - (k + 1) := by rw [List.length_drop, HLEN.out]
              omega
            have HL2 := Lib.hid (HL.out.quoteSome hfk hk' (HC.out.symm.trans h34) hq)
            have HQ := Lib.hid (qEnd_some hq)
            have hm1 := hm.1
            clear h44 h34 hq hm
            go_wp2_with (go_at_call 24; refine (quoteEnd_any w.heap.size 0 s.size cap k s.data.toList _ HLEN.out hs hlt HI.out.holds).mono ?_; rintro e w' ⟨rfl, rfl⟩; rw [HQ.out])
            go_roundw
            case rel => exact ⟨k + m + 1, fr, ls, by go_num, by omega, by omega, HI.out, HL2.out⟩
            case measure => simp [intOf]; omega
        · have t2 := no34 h34
          have HL2 := Lib.hid (HL.out.otherPart hfk hk' (by rw [← HC.out]; exact h44) (by rw [← HC.out]; exact h34))
          clear h44 h34
          go_wp2_with fail
          go_roundw
          case rel => exact ⟨k + 1, fr, ls, by go_num, by omega, by omega, HI.out, HL2.out⟩
          case measure => simp [intOf]; omega
    · obtain rfl : k = s.size := by omega
      have HS := Lib.hid (HL.out.stop (by rw [HLEN.out]; exact Nat.le_refl _))
      go_wp2_with fail
      refine (end_any w w.heap.size cap fr s.size s.data.toList ls (bytesRow s cap) _ HI.out (by rw [HLEN.out]; exact hs) hfk (by rw [HLEN.out]; exact Nat.le_refl _)).mono ?_
      rintro e w' ⟨rfl, hI'⟩
      obtain ⟨v, hv, hown⟩ := hI'.list
      have cV := cell_of_one hv
      have HI2 := Lib.hid hI'
      clear hI' hv
      go_wp2_with fail
      go_ret2
      exact ⟨HI2.out.below, .inr ⟨_, v, HS.out, rfl, owns_mono hown (by omega)⟩⟩
end Go.Proofs.Ythhnpdihgoiccaa.Tk
