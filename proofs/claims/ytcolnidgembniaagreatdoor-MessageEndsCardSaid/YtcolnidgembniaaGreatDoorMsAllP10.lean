/-
  Texts that the laws' proofs stand on, 10 of them in one file; each one's head says what it proves and under which condition.
-/
import Derived.Test.YtcolnidgembniaaGreatDoorMsAllP9
import Derived.Test.YtcolnidgembniaaGreatDoorMsAllP2
import Derived.Test.YtcolnidgembniaaGreatDoorMsAllP5
import Derived.Test.YtcolnidgembniaaGreatDoorMsAllP1
import Derived.Shelf.LaysM
import Derived.Shelf.Slices.Equal
import Derived.Test.YtcolnidgembniaaGreatDoorProg
import Derived.Test.YtcolnidgembniaaGreatDoorMsAllP7
import Derived.Test.YtcolnidgembniaaGreatDoorMsAllP8
import Derived.Test.YtcolnidgembniaaGreatDoorMsAllP4
/-
  token.Split: what it returns. Condition: a text of at most 2^32 bytes.
-/
namespace Go.Proofs.YtcolnidgembniaaGreatDoor.Tk
open Go.RowKit

/-- What a call of Split answers: the elements, in memory of its own; or nothing and false. -/
def SplitPost (l : Bs) (w : World) (e : Ending) (w' : World) : Prop :=
  Below w.heap.size w w' ∧ ((splitOf l = none ∧ e = .returned (.tuple #[.slice none 0 0, .bool false])) ∨
    ∃ ls v, splitOf l = some ls ∧ e = .returned (.tuple #[v, .bool true]) ∧ w'.ownsRow w.heap.size 9 1 v ls.length (ls.map S))

theorem heap_new (w : World) (o : Obj) : (w.alloc o).heap[w.heap.size]? = some o := by
  show (w.heap.push o)[w.heap.size]? = _; simp
theorem len_eq (s : ByteArray) : s.data.toList.length = s.size := by simp

theorem Inv.start (w : World) (s : ByteArray) (cap : Nat) (hcap : s.size ≤ cap) :
    Inv w w.heap.size s.data.toList cap 0 [] (bytesRow s cap) ((((w.alloc (.cells (bytesRow s cap) 5 ((bytesRow s cap).size, (bytesRow s cap).size + 1))).alloc
      (.cells #[.slice (some ⟨w.heap.size, 0, none⟩) s.size cap] 22)).alloc (.cells #[.slice none 0 0] 119)).alloc (.cells #[.int .i64 0] 3)).drew := by
  refine ⟨rfl, ?_, ?_, by rw [len_eq]; exact hcap, ?_, ?_, ⟨.slice none 0 0, ?_, World.ownsRow_nil _ _ _ _⟩, Nat.zero_le _, ?_⟩
  · show (World.alloc _ _).heap[w.heap.size]? = _
    rw [Below.heap_alloc _ _ _ (by simp; omega), Below.heap_alloc _ _ _ (by simp; omega), Below.heap_alloc _ _ _ (by simp)]
    exact heap_new _ _
  · intro j hj
    rw [bytesRow_at s cap j (by simpa using hj)]; simp
  · show (World.alloc _ _).heap[w.heap.size + 1]? = _
    rw [Below.heap_alloc _ _ _ (by simp), Below.heap_alloc _ _ _ (by simp), len_eq]
    have := heap_new (w.alloc (.cells (bytesRow s cap) 5 ((bytesRow s cap).size, (bytesRow s cap).size + 1))) (.cells #[.slice (some ⟨w.heap.size, 0, none⟩) s.size cap] 22)
    rwa [World.size_alloc] at this
  · have := heap_new (((w.alloc (.cells (bytesRow s cap) 5 ((bytesRow s cap).size, (bytesRow s cap).size + 1))).alloc (.cells #[.slice (some ⟨w.heap.size, 0, none⟩) s.size cap] 22)).alloc (.cells #[.slice none 0 0] 119)) (.cells #[.int .i64 0] 3)
    rw [World.size_alloc, World.size_alloc, World.size_alloc] at this
    exact this
  · show (World.alloc _ _).heap[w.heap.size + 2]? = _
    rw [Below.heap_alloc _ _ _ (by simp)]
    have := heap_new ((w.alloc (.cells (bytesRow s cap) 5 ((bytesRow s cap).size, (bytesRow s cap).size + 1))).alloc (.cells #[.slice (some ⟨w.heap.size, 0, none⟩) s.size cap] 22)) (.cells #[.slice none 0 0] 119)
    rw [World.size_alloc, World.size_alloc] at this
    exact this
  · exact (((((Below.refl _ _).alloc (Nat.le_refl _) _).alloc (by simp) _).alloc (by simp; omega) _).alloc (by simp; omega) _).drew

theorem owns_mono {w : World} {base base' : Nat} {e : TypeId} {size : Nat} {v : Value} {n : Nat} {xs : List Value} (h : w.ownsRow base e size v n xs) (hb : base' ≤ base) : w.ownsRow base' e size v n xs := by
  refine ⟨h.1, ?_⟩
  rcases h.2 with h2 | ⟨g, cap, cur, hv, hg, r⟩
  · exact .inl h2
  · exact .inr ⟨g, cap, cur, hv, by omega, r⟩

set_option maxHeartbeats 2000000 in
theorem split_any (s : ByteArray) (w : World) (hs : s.size ≤ 4294967296) :
    Calls Tryz.prog 75 #[.string s] w (SplitPost s.data.toList w) := by
  have hconv := fun W : World => run_bytes_of_string (P := Tryz.prog) W 9 22 5 s Tryz.underlying9 Tryz.underlying22 Tryz.underlying5
  have HST := Lib.hid (Inv.start w s (grownCap w s.size 0 5) (grownCap_ge w s.size 0 5))
  have HLEN := Lib.hid (len_eq s)
  go_enter Tryz.func75, Tryz.ntmps75
  go_wp2_with fail
  clear hconv
  rw [show w.heap.size + 1 + 1 + 1 = w.heap.size + 3 from rfl, show w.heap.size + 1 + 1 = w.heap.size + 2 from rfl]
  obtain ⟨cap, hcap⟩ : ∃ c, c = grownCap w s.size 0 5 := ⟨_, rfl⟩
  rw [← hcap]
  rw [← hcap] at HST
  clear hcap
  go_loopw [8] (fun v wr => ∃ k fr ls, v = .int .i64 ((k : Nat) : Int) ∧ fr ≤ k ∧ k ≤ s.size ∧ Inv w w.heap.size s.data.toList cap fr ls (bytesRow s cap) wr ∧ Left s.data.toList ls false ((s.data.toList.take k).drop fr) k) (fun v _ => s.size - (intOf v).toNat)
  case atStart => exact ⟨0, 0, [], rfl, Nat.le_refl _, Nat.zero_le _, HST.out, by simpa using Left.start s.data.toList⟩
  case round =>
    obtain ⟨k, fr, ls, rfl, hfk, hk, hI, hL⟩ := hrel
    have cT := cell_of_one hI.vText
    rw [HLEN.out] at cT
    have HI := Lib.hid hI
    have HL := Lib.hid hL
    clear hI hL HST
    by_cases hlt : k < s.size
    · have hk' : k < s.data.toList.length := by rw [HLEN.out]; exact hlt
      have hcell := HI.out.holds k hk'
      rw [Nat.zero_add] at hcell
      have hroom := HI.out.room
      rw [HLEN.out] at hroom
      obtain ⟨c, hc⟩ : ∃ c, c = s.data.toList[k] := ⟨_, rfl⟩
      rw [← hc] at hcell
      have HC := Lib.hid hc
      clear hc
      by_cases h44 : c = 44
      · have t1 := is44 h44
        have HL2 := Lib.hid (HL.out.commaPart hk' (HC.out.symm.trans h44))
        clear h44 hroom
        go_wp2_with (go_at_call 108; refine (end_any w w.heap.size cap fr k s.data.toList ls (bytesRow s cap) _ HI.out (by rw [HLEN.out]; exact hs) hfk (by omega)).mono ?_; rintro e w' ⟨rfl, hI'⟩)
        go_roundw
        case rel => exact ⟨k + 1, k + 1, _, by go_num, Nat.le_refl _, by omega, by assumption, HL2.out⟩
        case measure => simp [intOf]; omega
      · have t1 := no44 h44
        by_cases h34 : c = 34
        · have t2 := is34 h34
          cases hq : qe (s.data.toList.drop (k + 1)) with
          | none =>
            have HN := Lib.hid (HL.out.quoteNone hk' (HC.out.symm.trans h34) hq)
            have HQ := Lib.hid (qEnd_none hq)
            clear h44 h34 hq
            go_wp2_with (go_at_call 110; refine (quoteEnd_any w.heap.size 0 s.size cap k s.data.toList _ HLEN.out hs hlt HI.out.holds).mono ?_; rintro e w' ⟨rfl, rfl⟩; rw [HQ.out])
            go_ret2
            exact ⟨HI.out.below, .inl ⟨HN.out, rfl⟩⟩
          | some m =>
            have hm := qe_le _ _ (Nat.le_refl _) _ hq
            have hm2 : k + m < s.size := by
              have h1 : (s.data.toList.drop (k + 1)).length = s.size - (k + 1) := by rw [List.length_drop, HLEN.out]
              omega
            have HL2 := Lib.hid (HL.out.quoteSome hfk hk' (HC.out.symm.trans h34) hq)
            have HQ := Lib.hid (qEnd_some hq)
            have hm1 := hm.1
            clear h44 h34 hq hm
            go_wp2_with (go_at_call 110; refine (quoteEnd_any w.heap.size 0 s.size cap k s.data.toList _ HLEN.out hs hlt HI.out.holds).mono ?_; rintro e w' ⟨rfl, rfl⟩; rw [HQ.out])
            go_roundw
            case rel => exact ⟨k + m + 1, fr, ls, by go_num, by omega, by omega, HI.out, HL2.out⟩
            case measure => simp [intOf]; omega
        · have t2 := no34 h34
          have HL2 := Lib.hid (HL.out.otherPart hfk hk' (by rw [← HC.out]; exact h44) (by rw [← HC.out]; exact h34))
          clear h44 h34
          go_wp2_with fail
          go_roundw
          case rel => exact ⟨k + 1, fr, ls, by go_num, by omega, by omega, HI.out, HL2.out⟩
          case measure => simp [intOf]; omega
    · obtain rfl : k = s.size := by omega
      have HS := Lib.hid (HL.out.stop (by rw [HLEN.out]; exact Nat.le_refl _))
      go_wp2_with fail
      refine (end_any w w.heap.size cap fr s.size s.data.toList ls (bytesRow s cap) _ HI.out (by rw [HLEN.out]; exact hs) hfk (by rw [HLEN.out]; exact Nat.le_refl _)).mono ?_
      rintro e w' ⟨rfl, hI'⟩
      obtain ⟨v, hv, hown⟩ := hI'.list
      have cV := cell_of_one hv
      have HI2 := Lib.hid hI'
      clear hI' hv
      go_wp2_with fail
      go_ret2
      exact ⟨HI2.out.below, .inr ⟨_, v, HS.out, rfl, owns_mono hown (by omega)⟩⟩
end Go.Proofs.YtcolnidgembniaaGreatDoor.Tk
/-
  field.Names: what it returns. Conditions: fields of at most 2^20 bytes in all; the table of token bytes.
-/
namespace Go.Proofs.YtcolnidgembniaaGreatDoor.Fd
open Go.RowKit Tk
set_option linter.unusedVariables false

/-- What Names answers of a text: nothing and false, or the names in memory of its own and true. -/
def NamesPost (t : Bs) (w : World) (e : Ending) (w' : World) : Prop :=
  Below w.heap.size w w' ∧ ((namesOf t = none ∧ e = .returned (.tuple #[.slice none 0 0, .bool false])) ∨
    ∃ ls v, namesOf t = some ls ∧ e = .returned (.tuple #[v, .bool true]) ∧ w'.ownsRow w.heap.size 9 1 v ls.length (ls.map TS))

theorem row_at {w : World} {base g n cap : Nat} {ls : List Bs} (h : w.ownsRow base 9 1 (.slice (some ⟨g, 0, none⟩) n cap) n (ls.map TS)) (k : Nat) (hk : k < n) {x : Bs} (hx : ls[k]? = some x) : w.cell? ⟨g, k, none⟩ = some (.string ⟨x.toArray⟩) := by
  rw [h.cellAt k (by omega), List.getElem?_map, hx]; rfl
theorem row_put {w : World} {base g n cap : Nat} {ls : List Bs} (h : w.ownsRow base 9 1 (.slice (some ⟨g, 0, none⟩) n cap) n (ls.map TS)) (k : Nat) (x : Bs) :
    (w.setCell ⟨g, k, none⟩ (.string ⟨x.toArray⟩)).ownsRow base 9 1 (.slice (some ⟨g, 0, none⟩) n cap) n ((ls.set k x).map TS) := by
  have h2 := (h.stored k (TS x)).1
  rw [List.map_set]; exact h2

set_option maxHeartbeats 4000000 in
theorem names_any (v : Value) (fs : List Fl) (nm : ByteArray) (w : World) (hf : Flds w v fs) (ht : tot fs ≤ 1048576) (hn : nm.size ≤ maxLen) (hT : Tab w) :
    Calls Tryz.prog 73 #[v, .string nm] w (NamesPost (getT fs nm.data.toList) w) := by
  have hgl := getT_length fs nm.data.toList
  have hg := hT.lt
  have HT := Lib.hid hT
  obtain ⟨G, hG⟩ : ∃ G : Bs, G = getT fs nm.data.toList := ⟨_, rfl⟩
  have HGV := Lib.hid (show getVal fs nm.data.toList = .tuple #[.string ⟨G.toArray⟩, .int .i64 (getN fs nm.data.toList : Int)] from by rw [hG]; rfl)
  rw [← hG] at hgl
  rw [← hG]
  have hGs : (⟨G.toArray⟩ : ByteArray).size ≤ 2097152 := by rw [show (⟨G.toArray⟩ : ByteArray).size = G.length from by show G.toArray.size = _; rw [List.size_toArray]]; omega
  have HGD := Lib.hid (show (⟨G.toArray⟩ : ByteArray).data.toList = G from rfl)
  obtain ⟨X, hX⟩ : ∃ X : ByteArray, X = ⟨G.toArray⟩ := ⟨_, rfl⟩
  rw [← hX] at HGV hGs HGD
  clear hG hX hT
  go_enter Tryz.func73, Tryz.ntmps73
  go_wp2_with fail
  refine (get_any v fs nm _ hf ht hn).mono ?_
  rintro e w1 ⟨rfl, hb1⟩
  rw [HGV.out]
  go_wp2_with fail
  refine (split_any X _ (by omega)).mono ?_
  rintro e w2 ⟨hb2, h2⟩
  have hB2 := Bl.next hb1 hb2
  rw [HGD.out] at h2
  rcases h2 with ⟨h2, rfl⟩ | ⟨ls, u, hs, rfl, ho⟩
  · have HN := Lib.hid (names_none h2)
    clear h2 hb1 hb2
    go_wp2_with fail
    go_ret2
    exact ⟨hB2, .inl ⟨HN.out, rfl⟩⟩
  · have hll := split_length hs
    have HP := Lib.hid (split_piece hs)
    have HS := Lib.hid hs
    have ho' := owns_mono ho hb1.size
    have HO := Lib.hid (show w2.ownsRow w.heap.size 9 1 u ls.length ((half ls 0).map TS) from by rw [half_zero]; exact ho')
    by_cases h0 : ls.length = 0
    · obtain rfl : ls = [] := List.length_eq_zero_iff.1 h0
      obtain ⟨a, cap, hu⟩ : ∃ a cap, u = .slice a 0 cap := by
        rcases ho.2 with ⟨hv, _⟩ | ⟨g, cap, cur, hv, _⟩
        · exact ⟨none, 0, hv⟩
        · exact ⟨_, cap, hv⟩
      rw [hu] at HO
      rw [hu]
      clear hu ho ho' hs hb1 hb2 h0
      go_wp2_with fail
      refine wp_loop_rounds 1 ?_
      rw [rounds_succ]
      go_wp2_with fail
      go_ret2
      exact ⟨hB2, .inr ⟨[], _, names_good HS.out rfl, rfl, HO.out⟩⟩
    · obtain ⟨g, cap, hu, hgb⟩ : ∃ g cap, u = .slice (some ⟨g, 0, none⟩) ls.length cap ∧ w.heap.size ≤ g := by
        rcases ho'.2 with ⟨_, h⟩ | ⟨g, cap, cur, hv, hb, _⟩
        · exact absurd h h0
        · exact ⟨g, cap, hv, hb⟩
      rw [hu] at HO
      rw [hu]
      clear hu ho ho' hs hb1 hb2 h0
      go_wp2_with fail
      go_loopw [27] (fun i wr => ∃ k : Nat, k ≤ ls.length ∧ i = .int .i64 (k : Int) ∧ (ls.take k).all isTok = true ∧ wr.ownsRow w.heap.size 9 1 (.slice (some ⟨g, 0, none⟩) ls.length cap) ls.length ((half ls k).map TS) ∧ Below w.heap.size w wr) (fun i _ => ls.length - (intOf i).toNat)
      case atStart => exact ⟨0, Nat.zero_le _, rfl, rfl, HO.out, hB2⟩
      case round =>
        obtain ⟨k, hk, rfl, hal, hO, hB⟩ := hrel
        have HAL := Lib.hid hal
        have HOk := Lib.hid hO
        clear hal hO HO
        have hsz := hB.size
        by_cases hlt2 : k < ls.length
        · have hxz := HP.out ls[k] (List.getElem_mem hlt2)
          have c1 := row_at HOk.out k hlt2 (half_at ls k hlt2)
          obtain ⟨x, hx⟩ : ∃ x : ByteArray, x = ⟨ls[k].toArray⟩ := ⟨_, rfl⟩
          have HX := Lib.hid (show x.data.toList = ls[k] from by rw [hx])
          have hxs : x.size ≤ maxLen := by rw [hx]; show ls[k].toArray.size ≤ _; rw [List.size_toArray]; unfold maxLen; omega
          rw [← hx] at c1
          have HTr := Lib.hid (HT.out.below hB hg)
          cases hh : isTok ls[k] with
          | false =>
            have HN := Lib.hid (names_bad HS.out k hlt2 hh)
            have HH := Lib.hid (show isTok x.data.toList = false from by rw [HX.out]; exact hh)
            clear hh hx hxz
            go_wp2_with fail
            refine (is_any x _ hxs HTr.out).mono ?_
            rintro e w3 ⟨rfl, rfl⟩
            rw [HH.out]
            go_wp2_with fail
            go_ret2
            exact ⟨hB, .inl ⟨HN.out, rfl⟩⟩
          | true =>
            have HN := Lib.hid (all_next ls k hlt2 HAL.out hh)
            have HH := Lib.hid (show isTok x.data.toList = true from by rw [HX.out]; exact hh)
            have HSET := Lib.hid (half_set ls k hlt2)
            clear hh hx hxz
            go_wp2_with fail
            refine (is_any x _ hxs HTr.out).mono ?_
            rintro e w3 ⟨rfl, rfl⟩
            rw [HH.out]
            go_wp2_with fail
            refine (lower_any x _ hxs).mono ?_
            rintro e w4 ⟨rfl, hb4⟩
            have hB4 := Bl.next hB hb4
            have HO4 := Lib.hid (owns_kept HOk.out hb4)
            have f4 := HO4.out.frozenAt k
            have c4 := row_at HO4.out k hlt2 (half_at ls k hlt2)
            obtain ⟨L, hL⟩ : ∃ L : ByteArray, L = ⟨(lower x.data.toList).toArray⟩ := ⟨_, rfl⟩
            have HL := Lib.hid hL
            rw [← hL]
            clear hL c1 hb4 HOk hB
            go_wp2_with fail
            go_roundw
            case rel => exact ⟨k + 1, by omega, by go_num, HN.out, by
              rw [← HSET.out, HL.out, HX.out]; exact row_put HO4.out k _, hB4.setCell hgb _⟩
            case measure => simp [intOf]; omega
        · have HE := Lib.hid (show k = ls.length from by omega)
          have HAL2 := Lib.hid (show ls.all isTok = true from by have h := HAL.out; rwa [HE.out, List.take_length] at h)
          have HO2 := Lib.hid (show wr.ownsRow w.heap.size 9 1 (.slice (some ⟨g, 0, none⟩) ls.length cap) (ls.map lower).length ((ls.map lower).map TS) from by have h := HOk.out; rw [HE.out, half_all] at h; rw [List.length_map]; exact h)
          clear HE HAL HOk
          go_wp2_with fail
          go_ret2
          exact ⟨hB, .inr ⟨_, _, names_good HS.out HAL2.out, rfl, HO2.out⟩⟩
end Go.Proofs.YtcolnidgembniaaGreatDoor.Fd
/-
  framing.length: what it returns. Condition: a text of at most 2^20 bytes.
-/
namespace Go.Proofs.YtcolnidgembniaaGreatDoor.Fr
open Go.RowKit Go.Proofs.YtcolnidgembniaaGreatDoor.Tk Go.Proofs.YtcolnidgembniaaGreatDoor.Fd
set_option linter.unusedVariables false

/-- Where the look at the numbers stands. -/
def NumAt (ls : List Bs) (k : Nat) (n : Int) : Prop := k ≤ ls.length ∧ oneNum 0 0 ls = oneNum k n (ls.drop k)
theorem NumAt.bad {ls : List Bs} {k : Nat} {n : Int} (h : NumAt ls k n) (hk : k < ls.length) (hb : (numT ls[k]).2 = false ∨ (0 < k ∧ (numT ls[k]).1 ≠ n)) : oneNum 0 0 ls = none := by
  rw [h.2, List.drop_eq_getElem_cons hk, oneNum_bad hb]
theorem NumAt.next {ls : List Bs} {k : Nat} {n : Int} (h : NumAt ls k n) (hk : k < ls.length) (hb : ¬ ((numT ls[k]).2 = false ∨ (0 < k ∧ (numT ls[k]).1 ≠ n))) : NumAt ls (k + 1) (numT ls[k]).1 :=
  ⟨by omega, by rw [h.2, List.drop_eq_getElem_cons hk, oneNum_next hb]⟩
theorem NumAt.last {ls : List Bs} {k : Nat} {n : Int} (h : NumAt ls k n) (hk : ¬ k < ls.length) : oneNum 0 0 ls = some n := by
  rw [h.2, List.drop_eq_nil_of_le (by omega)]; rfl
def LenPost (t : Bs) (w : World) (e : Ending) (w' : World) : Prop := e = .returned (.tuple #[.int .i64 (lenVal t).1, .int .i64 (lenVal t).2]) ∧ Below w.heap.size w w'
theorem len_post {t : Bs} {a b : Int} {w w' : World} (h : lenVal t = (a, b)) (hb : Below w.heap.size w w') : LenPost t w (.returned (.tuple #[.int .i64 a, .int .i64 b])) w' := by
  unfold LenPost; rw [h]; exact ⟨rfl, hb⟩
set_option maxRecDepth 100000 in
set_option maxHeartbeats 8000000 in
theorem length_any (s : ByteArray) (w : World) (hs : s.size ≤ 1048576) : Calls Tryz.prog 46 #[.string s] w (LenPost s.data.toList w) := by
  have hsl : s.data.toList.length = s.size := by simp
  obtain ⟨t, ht⟩ : ∃ t, t = s.data.toList := ⟨_, rfl⟩
  have HS := Lib.hid (show Calls Tryz.prog 75 #[.string s] w (SplitPost t w) from by rw [ht]; exact split_any s w (by omega))
  rw [← ht]
  rw [← ht] at hsl
  clear ht
  go_enter Tryz.func46, Tryz.ntmps46
  go_wp2_with fail
  refine HS.out.mono ?_
  rintro e w1 ⟨hb1, ⟨hn, rfl⟩ | ⟨ls, u, hn, rfl, ho⟩⟩
  · have HP := Lib.hid (len_post (lenVal_none hn) hb1)
    clear hb1 hn HS
    go_wp2_with fail
    go_ret2
    exact HP.out
  · have HB1 := Lib.hid hb1
    have HN := Lib.hid hn
    have hll := split_length hn
    have HPc := Lib.hid (split_piece hn)
    clear hb1 HS
    by_cases h0 : ls = []
    · subst h0
      obtain ⟨a, cap, hu⟩ : ∃ a cap, u = .slice a 0 cap := by
        rcases ho.2 with ⟨hv, _⟩ | ⟨g, cap, cur, hv, _⟩
        · exact ⟨none, 0, hv⟩
        · exact ⟨_, cap, hv⟩
      subst hu
      have HP := Lib.hid (len_post (lenVal_empty hn) HB1.out)
      clear hn ho hll
      go_wp2_with fail
      go_ret2
      exact HP.out
    · have hpos : 0 < ls.length := List.length_pos_iff.2 h0
      obtain ⟨g, cap, hu⟩ : ∃ g cap, u = .slice (some ⟨g, 0, none⟩) ls.length cap := by
        rcases ho.2 with ⟨_, h⟩ | ⟨g, cap, cur, hv, _⟩
        · omega
        · exact ⟨g, cap, hv⟩
      subst hu
      have HO := Lib.hid ho
      have H0 := Lib.hid h0
      have hne : ((ls.length : Int) == 0) = false := by rw [beq_eq_false_iff_ne]; omega
      clear hn ho h0
      go_wp2_with fail
      go_loopw [6, 25] (fun o i wr => ∃ (k : Nat) (n : Int), i = .int .i64 (k : Int) ∧ o = .int .i64 n ∧ NumAt ls k n ∧ w1 = wr) (fun _ i _ => ls.length - (intOf i).toNat)
      case atStart => exact ⟨0, 0, rfl, rfl, ⟨Nat.zero_le _, by simp⟩, rfl⟩
      case round =>
        obtain ⟨k, n, rfl, rfl, hA, rfl⟩ := hrel
        have HA := Lib.hid hA
        have hkl := hA.1
        clear hA
        by_cases hlt : k < ls.length
        · have hxz := HPc.out ls[k] (List.getElem_mem hlt)
          have c1 : w1.cell? ⟨g, k, none⟩ = some (.string ⟨ls[k].toArray⟩) := by rw [World.ownsRow.cellAt HO.out k (by omega), List.getElem?_map, List.getElem?_eq_getElem hlt]; rfl
          obtain ⟨x, hx⟩ : ∃ x : ByteArray, x = ⟨ls[k].toArray⟩ := ⟨_, rfl⟩
          have hxs : x.size ≤ maxLen := by rw [hx]; show ls[k].toArray.size ≤ _; rw [List.size_toArray]; unfold maxLen; omega
          have HXS := Lib.hid hxs
          obtain ⟨R, hR⟩ : ∃ R, R = Num.numOf x 1099511627776 := ⟨_, rfl⟩
          have HR := Lib.hid (show numT ls[k] = R from by rw [hR, hx]; rfl)
          have HC := Lib.hid (show Calls Tryz.prog 76 #[.string x, .int .i64 1099511627776] w1 (fun e w' => e = .returned (.tuple #[.int .i64 R.1, .bool R.2]) ∧ w1 = w') from by rw [hR]; exact Num.number_any x _ w1 hxs (by omega))
          rw [← hx] at c1
          clear hx hxz hxs hR
          obtain ⟨N, B⟩ := R
          go_wp2_with fail
          refine HC.out.mono ?_
          rintro e w3 ⟨rfl, rfl⟩
          have HI := HR.out
          by_cases hbad : B = false ∨ (0 < k ∧ N ≠ n)
          · have HP := Lib.hid (len_post (lenVal_bad HN.out (HA.out.bad hlt (by rw [HI]; exact hbad))) HB1.out)
            rcases hbad with rfl | ⟨hk0, hNn⟩
            · clear HI HC
              go_wp2_with fail
              go_ret2
              exact HP.out
            · have hne2 : (N != n) = true := by rw [bne_iff_ne]; exact hNn
              clear HI HC hNn
              cases B with
              | false =>
                go_wp2_with fail
                go_ret2
                exact HP.out
              | true =>
                go_wp2_with fail
                go_ret2
                exact HP.out
          · have HX := Lib.hid (show NumAt ls (k + 1) N from by have := HA.out.next hlt (by rw [HI]; exact hbad); rwa [HI] at this)
            obtain rfl : B = true := by
              cases B with
              | true => rfl
              | false => exact absurd (.inl rfl) hbad
            by_cases hk0 : k = 0
            · subst hk0
              clear HI HC hbad
              go_wp2_with fail
              go_roundw
              case rel => exact ⟨0 + 1, N, by go_num, rfl, HX.out, by first | rfl | trivial⟩
              case measure => simp [intOf]; omega
            · have hNn : (N != n) = false := by
                by_cases h : N = n
                · subst h; simp
                · exact absurd (.inr ⟨by omega, h⟩) hbad
              have hk1 : 0 < k := by omega
              clear HI HC hbad hk0
              go_wp2_with fail
              go_roundw
              case rel => exact ⟨k + 1, N, by go_num, rfl, HX.out, by first | rfl | trivial⟩
              case measure => simp [intOf]; omega
        · have HL := Lib.hid (HA.out.last hlt)
          by_cases hbig : 1048576 < n
          · have HP := Lib.hid (len_post (lenVal_big HN.out H0.out HL.out hbig) HB1.out)
            go_wp2_with fail
            go_ret2
            exact HP.out
          · have HP := Lib.hid (len_post (lenVal_ok HN.out H0.out HL.out hbig) HB1.out)
            go_wp2_with fail
            go_ret2
            exact HP.out
end Go.Proofs.YtcolnidgembniaaGreatDoor.Fr
/-
  Contracts of the library, laid at this translation (its own numbers): each one application. No condition.
-/
namespace Go.Proofs.YtcolnidgembniaaGreatDoor.Fs
open Go.Shelf Go.RowKit
def lays193_ren : Go.Shelf.Ren := ⟨fun | 193 => 74 | n => n, fun | 31 => 119 | 9 => 9 | 4 => 4 | 3 => 3 | 0 => 0 | n => n, fun | n => n⟩
theorem lays193 : Go.Proofs.Lays.n193 Tryz.prog lays193_ren := {
  mixed := by kernel_rfl
  f193 := Tryz.func74.trans (congrArg some (by kernel_rfl))
  t0 := Tryz.underlying0
  a0 := Tryz.isAgg0
  z0 := Tryz.sizeOf0
  v0 := Tryz.zeroValue0
  t3 := Tryz.underlying3
  a3 := Tryz.isAgg3
  z3 := Tryz.sizeOf3
  v3 := Tryz.zeroValue3
  t4 := Tryz.underlying4
  a4 := Tryz.isAgg4
  z4 := Tryz.sizeOf4
  v4 := Tryz.zeroValue4
  t9 := Tryz.underlying9
  a9 := Tryz.isAgg9
  z9 := Tryz.sizeOf9
  v9 := Tryz.zeroValue9
  t31 := Tryz.underlying119
  a31 := Tryz.isAgg119
  z31 := Tryz.sizeOf119
  v31 := Tryz.zeroValue119 }
open Go.RowKit Go.Lib in
theorem slices_Equal_string (b1 o1 n c b2 o2 m d : Nat) (xs ys : List ByteArray) (w : World) (hx : n ≤ xs.length) (hy : m ≤ ys.length) (hbig : n ≤ 9223372036854775807) (hbig2 : m ≤ 9223372036854775807) (hc1 : ∀ j, j < xs.length → w.cell? ⟨b1, o1 + j, none⟩ = some (.string (xs.getD j ByteArray.empty))) (hc2 : ∀ j, j < ys.length → w.cell? ⟨b2, o2 + j, none⟩ = some (.string (ys.getD j ByteArray.empty))) :
    Calls Tryz.prog 74 #[.slice (some ⟨b1, o1, none⟩) n c, .slice (some ⟨b2, o2, none⟩) m d] w fun e w' => e = .returned (.bool (decide (xs.take n = ys.take m))) ∧ ∃ q, w' = w.drewN q := Any.slices_Equal_string lays193 b1 o1 n c b2 o2 m d xs ys w hx hy hbig hbig2 hc1 hc2
open Go.RowKit Go.Lib in
theorem slices_Equal_string_empty (a1 a2 : Option Addr) (c m d : Nat) (w : World) (hbig2 : m ≤ 9223372036854775807) :
    Calls Tryz.prog 74 #[.slice a1 0 c, .slice a2 m d] w fun e w' => e = .returned (.bool (decide (m = 0))) ∧ w' = w := Any.slices_Equal_string_empty lays193 a1 a2 c m d w hbig2
end Go.Proofs.YtcolnidgembniaaGreatDoor.Fs
/-
  framing.justChunked, told, OfRequest and OfResponse: what they return. Conditions: fields of at most 2^20 bytes; the table of token bytes.
-/
namespace Go.Proofs.YtcolnidgembniaaGreatDoor.Fr
open Go.RowKit Go.Proofs.YtcolnidgembniaaGreatDoor.Tk Go.Proofs.YtcolnidgembniaaGreatDoor.Fd
set_option linter.unusedVariables false

theorem justC_none {fs : List Fl} (h : namesOf (getT fs trE) = none) : justC fs = false := by unfold justC; rw [h]
theorem justC_some {fs : List Fl} {ls : List Bs} (h : namesOf (getT fs trE) = some ls) : justC fs = (ls == [chk]) := by unfold justC; rw [h]
theorem texts_eq (ls : List Bs) : decide (ls.map (fun x : Bs => (⟨x.toArray⟩ : ByteArray)) = [⟨#[99, 104, 117, 110, 107, 101, 100]⟩]) = (ls == [chk]) := by
  rw [Bool.eq_iff_iff, decide_eq_true_eq, beq_iff_eq]
  constructor
  · intro h
    cases ls with
    | nil => simp at h
    | cons x r =>
      simp only [List.map_cons, List.cons.injEq, List.map_eq_nil_iff] at h
      obtain ⟨h1, rfl⟩ := h
      have : x = chk := by
        have h2 := congrArg (fun s : ByteArray => s.data.toList) h1
        simpa [chk] using h2
      rw [this]
  · rintro rfl; rfl
set_option maxRecDepth 100000 in
set_option maxHeartbeats 4000000 in
theorem just_any (v : Value) (fs : List Fl) (w : World) (hf : Flds w v fs) (ht : tot fs ≤ 1048576) (hT : Tab w) :
    Calls Tryz.prog 45 #[v] w fun e w' => e = .returned (.bool (justC fs)) ∧ Below w.heap.size w w' := by
  have HN := Lib.hid (show Calls Tryz.prog 73 #[v, .string ⟨#[84, 114, 97, 110, 115, 102, 101, 114, 45, 69, 110, 99, 111, 100, 105, 110, 103]⟩] w (NamesPost (getT fs trE) w) from names_any v fs _ w hf ht (by decide) hT)
  have hgl := getT_length fs trE
  have htl := hT.lt
  clear hf hT
  go_enter Tryz.func45, Tryz.ntmps45
  go_wp2_with fail
  refine HN.out.mono ?_
  rintro e w1 ⟨hb1, ⟨hn, rfl⟩ | ⟨ls, u, hn, rfl, ho⟩⟩
  · have HJ := Lib.hid (justC_none hn)
    have HB1 := Lib.hid hb1
    clear hn hb1 HN
    go_wp2_with fail
    go_ret
    exact ⟨by rw [HJ.out]; rfl, HB1.out⟩
  · have HJ := Lib.hid (justC_some hn)
    have HB1 := Lib.hid hb1
    have hll := names_length hn
    have HNB := Lib.hid (new_block w1 (.cells #[.string ⟨#[99, 104, 117, 110, 107, 101, 100]⟩] 9))
    have HBA := Lib.hid ((Below.refl w1.heap.size w1).alloc (Nat.le_refl _) (.cells #[.string ⟨#[99, 104, 117, 110, 107, 101, 100]⟩] 9))
    have HO := Lib.hid ho
    clear hb1 hn HN
    by_cases h0 : ls.length = 0
    · obtain rfl : ls = [] := List.length_eq_zero_iff.1 h0
      obtain ⟨a, cap, hu⟩ : ∃ a cap, u = .slice a 0 cap := by
        rcases ho.2 with ⟨hv, _⟩ | ⟨g, cap, cur, hv, _⟩
        · exact ⟨none, 0, hv⟩
        · exact ⟨_, cap, hv⟩
      subst hu
      clear ho HO hll h0
      go_wp2_with fail
      refine (Fs.slices_Equal_string_empty a (some ⟨w1.heap.size, 0, none⟩) cap 1 1 _ (by decide)).mono ?_
      rintro e w2 ⟨rfl, rfl⟩
      go_wp2_with fail
      go_ret
      exact ⟨by rw [HJ.out]; rfl, HB1.out.trans (HBA.out.mono HB1.out.size)⟩
    · obtain ⟨g, cap, hu⟩ : ∃ g cap, u = .slice (some ⟨g, 0, none⟩) ls.length cap := by
        rcases ho.2 with ⟨_, h⟩ | ⟨g, cap, cur, hv, _⟩
        · exact absurd h h0
        · exact ⟨g, cap, hv⟩
      subst hu
      have HE := Lib.hid (texts_eq ls)
      clear ho h0
      go_wp2_with fail
      refine (Fs.slices_Equal_string g 0 ls.length cap w1.heap.size 0 1 1 (ls.map (fun x : Bs => (⟨x.toArray⟩ : ByteArray))) [⟨#[99, 104, 117, 110, 107, 101, 100]⟩] _ (by simp) (by simp) (by omega) (by decide) (fun j hj => ?_) (fun j hj => ?_)).mono ?_
      · have hjl : j < ls.length := by simpa using hj
        have hk := owns_kept HO.out HBA.out
        rw [Nat.zero_add, World.ownsRow.cellAt hk j (by omega), List.getElem?_map, List.getElem?_eq_getElem hjl]
        simp [List.getD, hjl, TS]
      · have : j = 0 := by simpa using hj
        subst this
        rw [Lib.cell_of_heap HNB.out]; rfl
      · rintro e w2 ⟨rfl, q, rfl⟩
        rw [show ((ls.map (fun x : Bs => (⟨x.toArray⟩ : ByteArray))).take ls.length) = ls.map (fun x : Bs => (⟨x.toArray⟩ : ByteArray)) from List.take_of_length_le (by simp), show ([⟨#[99, 104, 117, 110, 107, 101, 100]⟩] : List ByteArray).take 1 = [⟨#[99, 104, 117, 110, 107, 101, 100]⟩] from rfl, HE.out, ← HJ.out]
        go_wp2_with fail
        go_ret
        exact ⟨rfl, Bl.drewN (HB1.out.trans (HBA.out.mono HB1.out.size)) q⟩
def TriPost (R : Int × Int × Int) (w : World) (e : Ending) (w' : World) : Prop := e = .returned (.tuple #[.int .i64 R.1, .int .i64 R.2.1, .int .i64 R.2.2]) ∧ Below w.heap.size w w'
theorem tri_post {R : Int × Int × Int} {a b c : Int} {w w' : World} (h : R = (a, b, c)) (hb : Below w.heap.size w w') : TriPost R w (.returned (.tuple #[.int .i64 a, .int .i64 b, .int .i64 c])) w' := by
  unfold TriPost; rw [h]; exact ⟨rfl, hb⟩
theorem toldVal_bad {m : Int} {fs : List Fl} {s : Int} (h : 0 < getN fs trE) (h2 : m = 0 ∨ 0 < getN fs coL ∨ justC fs = false) : toldVal m fs s = (0, 0, 32) := by unfold toldVal; rw [if_pos h, if_pos h2]
theorem toldVal_chunk {m : Int} {fs : List Fl} {s : Int} (h : 0 < getN fs trE) (h2 : ¬ (m = 0 ∨ 0 < getN fs coL ∨ justC fs = false)) : toldVal m fs s = (2, 0, 0) := by unfold toldVal; rw [if_pos h, if_neg h2]
theorem toldVal_silent {m : Int} {fs : List Fl} {s : Int} (h : ¬ 0 < getN fs trE) (h2 : getN fs coL = 0) : toldVal m fs s = (s, 0, 0) := by unfold toldVal; rw [if_neg h, if_pos h2]
theorem toldVal_len {m : Int} {fs : List Fl} {s : Int} (h : ¬ 0 < getN fs trE) (h2 : ¬ getN fs coL = 0) : toldVal m fs s = if (lenVal (getT fs coL)).2 = 0 then (1, (lenVal (getT fs coL)).1, 0) else (0, 0, (lenVal (getT fs coL)).2) := by unfold toldVal; rw [if_neg h, if_neg h2]
set_option maxRecDepth 100000 in
set_option maxHeartbeats 8000000 in
theorem told_any (m silent : Int) (v : Value) (fs : List Fl) (w : World) (hf : Flds w v fs) (ht : tot fs ≤ 524288) (hT : Tab w) :
    Calls Tryz.prog 31 #[.int .i64 m, v, .int .i64 silent] w (TriPost (toldVal m fs silent) w) := by
  have HG1 := Lib.hid (show Calls Tryz.prog 44 #[v, .string ⟨#[84, 114, 97, 110, 115, 102, 101, 114, 45, 69, 110, 99, 111, 100, 105, 110, 103]⟩] w (fun e w' => e = .returned (getVal fs trE) ∧ Below w.heap.size w w') from get_any v fs _ w hf (by omega) (by decide))
  have HF := Lib.hid hf
  have HT := Lib.hid hT
  have htl := hT.lt
  have hgl := getT_length fs coL
  obtain ⟨c, hc⟩ : ∃ c, c = getN fs trE := ⟨_, rfl⟩
  obtain ⟨n, hn⟩ : ∃ n, n = getN fs coL := ⟨_, rfl⟩
  obtain ⟨T1, hT1⟩ : ∃ T1 : ByteArray, T1 = ⟨(getT fs trE).toArray⟩ := ⟨_, rfl⟩
  obtain ⟨T2, hT2⟩ : ∃ T2 : ByteArray, T2 = ⟨(getT fs coL).toArray⟩ := ⟨_, rfl⟩
  have hv1 : getVal fs trE = .tuple #[.string T1, .int .i64 (c : Int)] := by rw [hc, hT1]; rfl
  have hv2 : getVal fs coL = .tuple #[.string T2, .int .i64 (n : Int)] := by rw [hn, hT2]; rfl
  rw [hv1] at HG1
  have HV2 := Lib.hid hv2
  have HC := Lib.hid hc
  have HN := Lib.hid hn
  have HT2 := Lib.hid hT2
  clear hf hT hc hn hT1 hT2 hv1 hv2
  go_enter Tryz.func31, Tryz.ntmps31
  go_wp2_with fail
  refine HG1.out.mono ?_
  rintro e w1 ⟨rfl, hb1⟩
  have HB1 := Lib.hid hb1
  have HG2 := Lib.hid (show Calls Tryz.prog 44 #[v, .string ⟨#[67, 111, 110, 116, 101, 110, 116, 45, 76, 101, 110, 103, 116, 104]⟩] w1 (fun e w' => e = .returned (getVal fs coL) ∧ Below w1.heap.size w1 w') from get_any v fs _ w1 (HF.out.below hb1 (Nat.le_refl _)) (by omega) (by decide))
  rw [HV2.out] at HG2
  have hs1 := hb1.size
  clear hb1 HG1
  go_wp2_with fail
  refine HG2.out.mono ?_
  rintro e w2 ⟨rfl, hb2⟩
  have HB2 := Lib.hid (HB1.out.trans (hb2.mono hs1))
  have hs2 : w.heap.size ≤ w2.heap.size := HB2.out.size
  clear hb2 HG2 HB1
  by_cases hcp : 0 < c
  · by_cases hm0 : m = 0
    · subst hm0
      have HP := Lib.hid (tri_post (toldVal_bad (m := 0) (s := silent) (by rw [← HC.out]; exact hcp) (.inl rfl)) HB2.out)
      go_wp2_with fail
      go_ret3
      exact HP.out
    · have hm1 : (m == 0) = false := by rw [beq_eq_false_iff_ne]; exact hm0
      by_cases hnp : 0 < n
      · have HP := Lib.hid (tri_post (toldVal_bad (m := m) (s := silent) (by rw [← HC.out]; exact hcp) (.inr (.inl (by rw [← HN.out]; exact hnp)))) HB2.out)
        go_wp2_with fail
        go_ret3
        exact HP.out
      · have HJ := Lib.hid (just_any v fs w2 (HF.out.below HB2.out (Nat.le_refl _)) (by omega) (HT.out.below HB2.out htl))
        obtain ⟨J, hJ⟩ : ∃ J, J = justC fs := ⟨_, rfl⟩
        rw [← hJ] at HJ
        have HJ2 := Lib.hid hJ
        clear hJ
        go_wp2_with fail
        refine HJ.out.mono ?_
        rintro e w3 ⟨rfl, hb3⟩
        have HB3 := Lib.hid (HB2.out.trans (hb3.mono hs2))
        clear hb3 HJ
        cases J with
        | false =>
          have HP := Lib.hid (tri_post (toldVal_bad (m := m) (s := silent) (by rw [← HC.out]; exact hcp) (.inr (.inr HJ2.out.symm))) HB3.out)
          clear HJ2
          go_wp2_with fail
          go_ret3
          exact HP.out
        | true =>
          have HP := Lib.hid (tri_post (toldVal_chunk (m := m) (s := silent) (by rw [← HC.out]; exact hcp) (by rw [← HN.out, ← HJ2.out]; simp; exact ⟨hm0, by omega⟩)) HB3.out)
          clear HJ2
          go_wp2_with fail
          go_ret3
          exact HP.out
  · by_cases hn0 : n = 0
    · have HP := Lib.hid (tri_post (toldVal_silent (m := m) (s := silent) (by rw [← HC.out]; exact hcp) (by rw [← HN.out]; exact hn0)) HB2.out)
      subst hn0
      go_wp2_with fail
      go_ret3
      exact HP.out
    · have hn1' : ((n : Int) == 0) = false := by rw [beq_eq_false_iff_ne]; omega
      have hTL := toldVal_len (m := m) (fs := fs) (s := silent) (by rw [← HC.out]; exact hcp) (by rw [← HN.out]; exact hn0)
      have HL := Lib.hid (length_any T2 w2 (by rw [HT2.out]; simp [ByteArray.size]; omega))
      have hlv : T2.data.toList = getT fs coL := by rw [HT2.out]
      rw [hlv] at HL
      obtain ⟨R, hR⟩ : ∃ R, R = lenVal (getT fs coL) := ⟨_, rfl⟩
      rw [← hR] at hTL
      have HL2 := Lib.hid (show Calls Tryz.prog 46 #[.string T2] w2 (fun e w' => e = .returned (.tuple #[.int .i64 R.1, .int .i64 R.2]) ∧ Below w2.heap.size w2 w') from by rw [hR]; exact HL.out)
      have HTL := Lib.hid hTL
      clear HL hlv hR hTL
      obtain ⟨N, E⟩ := R
      go_wp2_with fail
      refine HL2.out.mono ?_
      rintro e w3 ⟨rfl, hb3⟩
      have HB3 := Lib.hid (HB2.out.trans (hb3.mono hs2))
      clear hb3 HL2
      by_cases hE : E = 0
      · subst hE
        have HP := Lib.hid (tri_post (HTL.out.trans (if_pos rfl)) HB3.out)
        clear HTL
        go_wp2_with fail
        go_ret3
        exact HP.out
      · have HP := Lib.hid (tri_post (HTL.out.trans (if_neg hE)) HB3.out)
        have hE1 : (E != 0) = true := by rw [bne_iff_ne]; exact hE
        clear HTL
        go_wp2_with fail
        go_ret3
        exact HP.out
end Go.Proofs.YtcolnidgembniaaGreatDoor.Fr
/-
  framing.OfRequest and OfResponse: what they return. Conditions: fields of at most 2^19 bytes; the table of token bytes.
-/
namespace Go.Proofs.YtcolnidgembniaaGreatDoor.Fr
open Go.RowKit Go.Proofs.YtcolnidgembniaaGreatDoor.Tk Go.Proofs.YtcolnidgembniaaGreatDoor.Fd
set_option linter.unusedVariables false

theorem four_cells {w : World} {g : Nat} {a b c d : Value} {t : TypeId} {fr : Nat × Nat} (h : w.heap[g]? = some (.cells #[a, b, c, d] t fr)) : w.cell? ⟨g, 0, none⟩ = some a ∧ w.cell? ⟨g, 1, none⟩ = some b ∧ w.cell? ⟨g, 2, none⟩ = some c ∧ w.cell? ⟨g, 3, none⟩ = some d := by
  refine ⟨?_, ?_, ?_, ?_⟩ <;> (rw [Lib.cell_of_heap h]; rfl)
theorem TriPost.at {R : Int × Int × Int} {w w0 : World} {e : Ending} {w' : World} (h : TriPost R w e w') (hb : Below w0.heap.size w0 w) : TriPost R w0 e w' := ⟨h.1, hb.trans (h.2.mono hb.size)⟩
set_option maxRecDepth 100000 in
set_option maxHeartbeats 4000000 in
theorem ofRequest_any (a b : ByteArray) (m : Int) (v : Value) (fs : List Fl) (w : World) (hf : Flds w v fs) (ht : tot fs ≤ 524288) (hT : Tab w) :
    Calls Tryz.prog 14 #[.agg #[.string a, .string b, .int .i64 m, v]] w (TriPost (toldVal m fs 0) w) := by
  have hb := (Below.refl w.heap.size w).alloc (Nat.le_refl _) (.cells #[.string a, .string b, .int .i64 m, v] 25)
  have HB := Lib.hid hb
  have HC := Lib.hid (told_any m 0 v fs _ (hf.below hb (Nat.le_refl _)) ht (hT.below hb hT.lt))
  obtain ⟨va, vc, hv⟩ := hf.shape
  subst hv
  obtain ⟨_, _, c2, c3⟩ := four_cells (new_block w (.cells #[.string a, .string b, .int .i64 m, .slice va fs.length vc] 25))
  clear hf hT hb
  go_enter Tryz.func14, Tryz.ntmps14
  go_wp2_with fail
  refine HC.out.mono ?_
  intro e w1 hp
  have HP := Lib.hid (hp.at HB.out)
  obtain ⟨rfl, _⟩ := hp
  go_wp2_with fail
  go_ret3
  exact HP.out
/-- What a response's framing is. -/
def resVal (m c : Int) (fs : List Fl) (method : ByteArray) : Int × Int × Int :=
  if method.toList = [72, 69, 65, 68] ∨ c < 200 ∨ c = 204 ∨ c = 304 then (0, 0, 0) else toldVal m fs 3
theorem resVal_none {m c : Int} {fs : List Fl} {k : ByteArray} (h : k.toList = [72, 69, 65, 68] ∨ c < 200 ∨ c = 204 ∨ c = 304) : resVal m c fs k = (0, 0, 0) := if_pos h
theorem resVal_some {m c : Int} {fs : List Fl} {k : ByteArray} (h : ¬ (k.toList = [72, 69, 65, 68] ∨ c < 200 ∨ c = 204 ∨ c = 304)) : resVal m c fs k = toldVal m fs 3 := if_neg h
set_option maxRecDepth 100000 in
set_option maxHeartbeats 4000000 in
theorem ofResponse_any (m c : Int) (r : ByteArray) (v : Value) (fs : List Fl) (k : ByteArray) (w : World) (hf : Flds w v fs) (ht : tot fs ≤ 524288) (hT : Tab w) :
    Calls Tryz.prog 22 #[.agg #[.int .i64 m, .int .i64 c, .string r, v], .string k] w (TriPost (resVal m c fs k) w) := by
  have hb := (Below.refl w.heap.size w).alloc (Nat.le_refl _) (.cells #[.int .i64 m, .int .i64 c, .string r, v] 32)
  have HB := Lib.hid hb
  have HC := Lib.hid (told_any m 3 v fs _ (hf.below hb (Nat.le_refl _)) ht (hT.below hb hT.lt))
  obtain ⟨va, vc, hv⟩ := hf.shape
  subst hv
  obtain ⟨c0, c1, _, c3⟩ := four_cells (new_block w (.cells #[.int .i64 m, .int .i64 c, .string r, .slice va fs.length vc] 32))
  clear hf hT hb
  by_cases h1 : k.toList = [72, 69, 65, 68] ∨ c < 200 ∨ c = 204 ∨ c = 304
  · have HP := Lib.hid (tri_post (w := w) (resVal_none (m := m) (fs := fs) h1) HB.out)
    by_cases k1 : k.toList = [72, 69, 65, 68]
    · have hk1 : (k.toList == [72, 69, 65, 68]) = true := by rw [beq_iff_eq]; exact k1
      clear h1 k1
      go_enter Tryz.func22, Tryz.ntmps22
      go_wp2_with fail
      go_ret3
      exact HP.out
    · have hk1 : (k.toList == [72, 69, 65, 68]) = false := by rw [beq_eq_false_iff_ne]; exact k1
      by_cases c200 : c < 200
      · clear h1 k1
        go_enter Tryz.func22, Tryz.ntmps22
        go_wp2_with fail
        go_ret3
        exact HP.out
      · by_cases c204 : c = 204
        · have d1 : (c == 204) = true := by rw [beq_iff_eq]; exact c204
          clear h1 k1 c204
          go_enter Tryz.func22, Tryz.ntmps22
          go_wp2_with fail
          go_ret3
          exact HP.out
        · have d1 : (c == 204) = false := by rw [beq_eq_false_iff_ne]; exact c204
          have d2 : (c == 304) = true := by
            rw [beq_iff_eq]
            rcases h1 with h | h | h | h
            · exact absurd h k1
            · exact absurd h c200
            · exact absurd h c204
            · exact h
          clear h1 k1 c204
          go_enter Tryz.func22, Tryz.ntmps22
          go_wp2_with fail
          go_ret3
          exact HP.out
  · have hk1 : (k.toList == [72, 69, 65, 68]) = false := by rw [beq_eq_false_iff_ne]; exact fun h => h1 (.inl h)
    have c200 : ¬ c < 200 := fun h => h1 (.inr (.inl h))
    have d1 : (c == 204) = false := by rw [beq_eq_false_iff_ne]; exact fun h => h1 (.inr (.inr (.inl h)))
    have d2 : (c == 304) = false := by rw [beq_eq_false_iff_ne]; exact fun h => h1 (.inr (.inr (.inr h)))
    have HR := Lib.hid (resVal_some (m := m) (fs := fs) h1)
    clear h1
    go_enter Tryz.func22, Tryz.ntmps22
    go_wp2_with fail
    refine HC.out.mono ?_
    intro e w1 hp
    have HP := Lib.hid (show TriPost (resVal m c fs k) w e w1 from by rw [HR.out]; exact hp.at HB.out)
    obtain ⟨rfl, _⟩ := hp
    rw [← HR.out]
    rw [← HR.out] at HP
    go_wp2_with fail
    go_ret3
    exact HP.out
end Go.Proofs.YtcolnidgembniaaGreatDoor.Fr
/-
  The closures of message.ReadRequest and message.ReadResponse that tell what a whole head says of the body: what they return and leave. Condition: the table of token bytes.
-/
namespace Go.Proofs.YtcolnidgembniaaGreatDoor.Ms
open Go.RowKit Go.Proofs.YtcolnidgembniaaGreatDoor.Tk Go.Proofs.YtcolnidgembniaaGreatDoor.Fd Go.Proofs.YtcolnidgembniaaGreatDoor.Hd Go.Proofs.YtcolnidgembniaaGreatDoor.Fr
set_option linter.unusedVariables false

theorem infoFramed : (Tryz.prog.info? 44).map (·.size) = some 3 := by kernel_rfl
theorem put3 {w : World} {g : Nat} {a b c : Value} {t : TypeId} {fr : Nat × Nat} (h : w.heap[g]? = some (.cells #[a, b, c] t fr)) (x y z : Value) :
    (((w.setCell ⟨g, 0, none⟩ x).setCell ⟨g, 1, none⟩ y).setCell ⟨g, 2, none⟩ z).heap[g]? = some (.cells #[x, y, z] t fr) := by
  rw [heap_put (heap_put (heap_put h 0 x) 1 y) 2 z]; rfl
theorem three {w : World} {g : Nat} {a b c : Value} {t : TypeId} {fr : Nat × Nat} (h : w.heap[g]? = some (.cells #[a, b, c] t fr)) : w.cell? ⟨g, 0, none⟩ = some a ∧ w.cell? ⟨g, 1, none⟩ = some b ∧ w.cell? ⟨g, 2, none⟩ = some c := by
  refine ⟨?_, ?_, ?_⟩ <;> (rw [Lib.cell_of_heap h]; rfl)
theorem three_far {w : World} {g k : Nat} (hk : k ≠ g) (x y z : Value) : (((w.setCell ⟨g, 0, none⟩ x).setCell ⟨g, 1, none⟩ y).setCell ⟨g, 2, none⟩ z).heap[k]? = w.heap[k]? := by
  rw [Below.heap_setCell _ _ _ _ (by exact hk), Below.heap_setCell _ _ _ _ (by exact hk), Below.heap_setCell _ _ _ _ (by exact hk)]
theorem three_size (w : World) (g : Nat) (x y z : Value) : (((w.setCell ⟨g, 0, none⟩ x).setCell ⟨g, 1, none⟩ y).setCell ⟨g, 2, none⟩ z).heap.size = w.heap.size := by simp [World.setCell]
/-- A head in a variable of its own. -/
def ReqAt (gr base : Nat) (q : Hd.Parts) (fs : List Fl) (w : World) : Prop := ∃ v, w.heap[gr]? = some (.cells #[.string q.a, .string q.b, .int .i64 q.m, v] 25 (0, 0)) ∧ OwnF w base v fs
def ResAt (gr base : Nat) (q : Hd.Parts) (fs : List Fl) (w : World) : Prop := ∃ v, w.heap[gr]? = some (.cells #[.int .i64 q.m, .int .i64 q.c, .string q.a, v] 32 (0, 0)) ∧ OwnF w base v fs
theorem ReqAt.below {gr base : Nat} {q : Hd.Parts} {fs : List Fl} {w w' : World} (h : ReqAt gr base q fs w) (hb : Below w.heap.size w w') : ReqAt gr base q fs w' := by
  obtain ⟨v, h1, h2⟩ := h; exact ⟨v, Bl.old hb (block_lt h1) h1, owns_kept h2 hb⟩
theorem ResAt.below {gr base : Nat} {q : Hd.Parts} {fs : List Fl} {w w' : World} (h : ResAt gr base q fs w) (hb : Below w.heap.size w w') : ResAt gr base q fs w' := by
  obtain ⟨v, h1, h2⟩ := h; exact ⟨v, Bl.old hb (block_lt h1) h1, owns_kept h2 hb⟩
set_option maxRecDepth 100000 in
set_option maxHeartbeats 8000000 in
theorem asked_any (O : Nat → Prop) (gb gr g : Nat) (q : Hd.Parts) (fs : List Fl) (A0 A1 A2 A3 : Value) (x : World) (hb : x.heap[gb]? = some (.cells #[.pointer (some ⟨g, 0, none⟩)] 41 (0, 0)))
    (hr : x.heap[gr]? = some (.cells #[A0, A1, A2, A3] 25 (0, 0))) (hR : Rdr x O false g (.done q fs)) (hl : fs.length ≤ 64) (ht : tot fs ≤ 8192) (hT : Tab x) (hrt : ¬ gr = 0) :
    Calls Tryz.prog 12 #[.pointer (some ⟨gb, 0, none⟩), .pointer (some ⟨gr, 0, none⟩)] x fun e y => e = .returned (.agg #[.int .i64 (toldVal q.m fs 0).1, .int .i64 (toldVal q.m fs 0).2.1, .int .i64 (toldVal q.m fs 0).2.2]) ∧ Chg (fun k => k = gr) x y ∧ ReqAt gr x.heap.size q fs y := by
  obtain ⟨t0, t1, t2, hT3⟩ : ∃ t0 t1 t2, toldVal q.m fs 0 = (t0, t1, t2) := ⟨_, _, _, rfl⟩
  rw [hT3]
  have HT3 := Lib.hid hT3
  clear hT3
  obtain ⟨x1, hx1⟩ : ∃ x1, x1 = x.alloc (.cells #[.int .i64 0, .int .i64 0, .int .i64 0] 44) := ⟨_, rfl⟩
  have HX1 := Lib.hid hx1
  have hb1 : Below x.heap.size x x1 := by rw [hx1]; exact (Below.refl _ _).alloc (Nat.le_refl _) _
  have hN1 : x1.heap[x.heap.size]? = some (.cells #[.int .i64 0, .int .i64 0, .int .i64 0] 44 (0, 0)) := by rw [hx1]; exact new_block _ _
  have hs1 := hb1.size
  have hgr := block_lt hr
  have hgb := block_lt hb
  have hg1 := Bl.old hb1 hgb hb
  have cb : (x.alloc (.cells #[.int .i64 0, .int .i64 0, .int .i64 0] 44)).cell? ⟨gb, 0, none⟩ = some (.pointer (some ⟨g, 0, none⟩)) := by rw [← hx1, Lib.cell_of_heap hg1]; rfl
  have HQ := Lib.hid (request_yes O g q fs x1 (hR.below hb1) (by omega))
  have HR1 := Lib.hid (Bl.old hb1 hgr hr)
  have HN1 := Lib.hid hN1
  have HB1 := Lib.hid hb1
  have HTx := Lib.hid hT
  have htl := hT.lt
  have hfl := block_lt hN1
  clear hx1 hN1 hb1 hb hr hR hT hg1
  go_enter Tryz.func12, Tryz.ntmps12
  go_wp2_with fail
  rw [← HX1.out]
  refine HQ.out.mono ?_
  rintro e x2 ⟨v, rfl, hf2, hb2⟩
  obtain ⟨va, vc, hv⟩ := OwnF.form hf2
  subst hv
  have hK2 := Bl.old hb2 (block_lt HR1.out) HR1.out
  have hF2 := Bl.old hb2 (block_lt HN1.out) HN1.out
  obtain ⟨r0, r1, r2, r3⟩ := four hK2
  have f0 := free hK2 0
  have f1 := free hK2 1
  have f2 := free hK2 2
  have f3 := free hK2 3
  obtain ⟨p0, p1, p2⟩ := three hF2
  have d0 := free hF2 0
  have d1 := free hF2 1
  have d2 := free hF2 2
  have hne : gr ≠ x.heap.size := by omega
  have hen : x.heap.size ≠ gr := by omega
  have HB2 := Lib.hid hb2
  have HF2 := Lib.hid hf2
  have HK2 := Lib.hid hK2
  have HG2 := Lib.hid hF2
  clear hf2 hb2 hK2 hF2
  go_upto_region 3 with fail
  obtain ⟨W, hW⟩ : ∃ W, W = (((((x2.setCell ⟨gr, 0, none⟩ (.string q.a)).setCell ⟨gr, 1, none⟩ (.string q.b)).setCell ⟨gr, 2, none⟩ (.int .i64 q.m)).setCell ⟨gr, 3, none⟩ (.slice va fs.length vc)).setCell ⟨x.heap.size, 2, none⟩ (.int .i64 0)) := ⟨_, rfl⟩
  rw [← hW]
  have hKW : W.heap[gr]? = some (.cells #[.string q.a, .string q.b, .int .i64 q.m, .slice va fs.length vc] 25 (0, 0)) := by
    rw [hW, Below.heap_setCell _ _ _ _ (by exact hne)]; exact put4 HK2.out _ _ _ _
  have hFW : W.heap[x.heap.size]? = some (.cells #[.int .i64 0, .int .i64 0, .int .i64 0] 44 (0, 0)) := by
    rw [hW]
    have h1 := put_far (a := ⟨gr, 3, none⟩) (v := .slice va fs.length vc) (put_far (a := ⟨gr, 2, none⟩) (v := .int .i64 q.m) (put_far (a := ⟨gr, 1, none⟩) (v := .string q.b) (put_far (a := ⟨gr, 0, none⟩) (v := .string q.a) HG2.out (by exact hen)) (by exact hen)) (by exact hen)) (by exact hen)
    exact heap_put h1 2 _
  have hCW : Chg (fun k => k = gr) x W := by
    have h0 := (Chg.of_below (O := fun k => k = gr) (HB1.out.trans (HB2.out.mono hs1)))
    rw [hW]
    exact ((((h0.put ⟨gr, 0, none⟩ _ (.inl rfl)).put ⟨gr, 1, none⟩ _ (.inl rfl)).put ⟨gr, 2, none⟩ _ (.inl rfl)).put ⟨gr, 3, none⟩ _ (.inl rfl)).put ⟨x.heap.size, 2, none⟩ _ (.inr (Nat.le_refl _))
  have hOW : OwnF W x.heap.size (.slice va fs.length vc) fs := by
    refine Fd.owns_mono (row_same HF2.out fun k hk => ?_) (by omega)
    have hk3 := (World.ownsRow.lt HF2.out k hk).1
    rw [hW, Below.heap_setCell _ _ _ _ (by show k ≠ x.heap.size; omega), Below.heap_setCell _ _ _ _ (by show k ≠ gr; omega), Below.heap_setCell _ _ _ _ (by show k ≠ gr; omega), Below.heap_setCell _ _ _ _ (by show k ≠ gr; omega), Below.heap_setCell _ _ _ _ (by show k ≠ gr; omega)]
  have HO := Lib.hid (ofRequest_any q.a q.b q.m (.slice va fs.length vc) fs W hOW.flds (by omega) (tab_chg HTx.out hCW (fun h => hrt h.symm)))
  have HKW := Lib.hid hKW
  have HFW := Lib.hid hFW
  have HCW := Lib.hid hCW
  have HOW := Lib.hid hOW
  have HOWX := Lib.hid (fun k (hk : (Value.slice va fs.length vc).ownBlock = some k) => (World.ownsRow.lt HF2.out k hk).1)
  obtain ⟨r0, r1, r2, r3⟩ := four hKW
  clear hW hKW hFW hCW hOW f0 f1 f2 f3 p0 p1 p2 d0 d1 d2 HG2 HK2 HF2 cb
  have hO := HO.out
  unfold TriPost at hO
  rw [HT3.out] at hO
  have HO2 := Lib.hid hO
  clear hO HO
  go_wp2_with fail
  refine HO2.out.mono ?_
  rintro e x5 ⟨rfl, hb5⟩
  have hF5 := Bl.old hb5 (block_lt HFW.out) HFW.out
  have hR5 := Bl.old hb5 (block_lt HKW.out) HKW.out
  obtain ⟨p0, p1, p2⟩ := three hF5
  have d0 := free hF5 0
  have d1 := free hF5 1
  have d2 := free hF5 2
  have HF5 := Lib.hid hF5
  have HR5 := Lib.hid hR5
  have HO5 := Lib.hid (owns_kept HOW.out hb5)
  have HC5 := Lib.hid (HCW.out.next hb5)
  clear hb5 hF5 hR5 r0 r1 r2 r3
  go_wp2_with fail
  refine bodyPost_ret (results_one rfl _ _ x.heap.size 44 _ (0, 0) _ rfl (put3 (put3 HF5.out _ _ _) _ _ _) Tryz.underlying44 rfl infoFramed) rfl ?_
  refine ⟨rfl, ?_, .slice va fs.length vc, ?_, ?_⟩
  · exact (((((HC5.out.put ⟨x.heap.size, 0, none⟩ _ (.inr (Nat.le_refl _))).put ⟨x.heap.size, 1, none⟩ _ (.inr (Nat.le_refl _))).put ⟨x.heap.size, 2, none⟩ _ (.inr (Nat.le_refl _))).put ⟨x.heap.size, 0, none⟩ _ (.inr (Nat.le_refl _))).put ⟨x.heap.size, 1, none⟩ _ (.inr (Nat.le_refl _))).put ⟨x.heap.size, 2, none⟩ _ (.inr (Nat.le_refl _))
  · rw [three_far hne, three_far hne]; exact HR5.out
  · refine row_same HO5.out fun k hk => ?_
    have hk3 := (World.ownsRow.lt HO5.out k hk).1
    have hkx : k ≠ x.heap.size := by
      have := HOWX.out k hk
      omega
    rw [three_far hkx, three_far hkx]
set_option maxRecDepth 100000 in
set_option maxHeartbeats 8000000 in
theorem answered_any (O : Nat → Prop) (gb gr g : Nat) (k : ByteArray) (gm : Nat) (q : Hd.Parts) (fs : List Fl) (A0 A1 A2 A3 : Value) (x : World) (hb : x.heap[gb]? = some (.cells #[.pointer (some ⟨g, 0, none⟩)] 41 (0, 0)))
    (hr : x.heap[gr]? = some (.cells #[A0, A1, A2, A3] 32 (0, 0))) (hm : x.heap[gm]? = some (.cells #[.string k] 9 (0, 0))) (hR : Rdr x O true g (.done q fs)) (hl : fs.length ≤ 64) (ht : tot fs ≤ 8192) (hT : Tab x) (hrt : ¬ gr = 0) :
    Calls Tryz.prog 20 #[.pointer (some ⟨gb, 0, none⟩), .pointer (some ⟨gr, 0, none⟩), .pointer (some ⟨gm, 0, none⟩)] x fun e y => e = .returned (.agg #[.int .i64 (resVal q.m q.c fs k).1, .int .i64 (resVal q.m q.c fs k).2.1, .int .i64 (resVal q.m q.c fs k).2.2]) ∧ Chg (fun k => k = gr) x y ∧ ResAt gr x.heap.size q fs y := by
  obtain ⟨t0, t1, t2, hT3⟩ : ∃ t0 t1 t2, resVal q.m q.c fs k = (t0, t1, t2) := ⟨_, _, _, rfl⟩
  rw [hT3]
  have HT3 := Lib.hid hT3
  clear hT3
  obtain ⟨x1, hx1⟩ : ∃ x1, x1 = x.alloc (.cells #[.int .i64 0, .int .i64 0, .int .i64 0] 44) := ⟨_, rfl⟩
  have HX1 := Lib.hid hx1
  have hb1 : Below x.heap.size x x1 := by rw [hx1]; exact (Below.refl _ _).alloc (Nat.le_refl _) _
  have hN1 : x1.heap[x.heap.size]? = some (.cells #[.int .i64 0, .int .i64 0, .int .i64 0] 44 (0, 0)) := by rw [hx1]; exact new_block _ _
  have hs1 := hb1.size
  have hgr := block_lt hr
  have hgb := block_lt hb
  have hg1 := Bl.old hb1 hgb hb
  have cb : (x.alloc (.cells #[.int .i64 0, .int .i64 0, .int .i64 0] 44)).cell? ⟨gb, 0, none⟩ = some (.pointer (some ⟨g, 0, none⟩)) := by rw [← hx1, Lib.cell_of_heap hg1]; rfl
  have HQ := Lib.hid (response_yes O g q fs x1 (hR.below hb1) (by omega))
  have HR1 := Lib.hid (Bl.old hb1 hgr hr)
  have HN1 := Lib.hid hN1
  have HB1 := Lib.hid hb1
  have HTx := Lib.hid hT
  have htl := hT.lt
  have HM1 := Lib.hid (Bl.old hb1 (block_lt hm) hm)
  have hgm := block_lt hm
  clear hm
  have hfl := block_lt hN1
  clear hx1 hN1 hb1 hb hr hR hT hg1
  go_enter Tryz.func20, Tryz.ntmps20
  go_wp2_with fail
  rw [← HX1.out]
  refine HQ.out.mono ?_
  rintro e x2 ⟨v, rfl, hf2, hb2⟩
  obtain ⟨va, vc, hv⟩ := OwnF.form hf2
  subst hv
  have hK2 := Bl.old hb2 (block_lt HR1.out) HR1.out
  have hF2 := Bl.old hb2 (block_lt HN1.out) HN1.out
  have HM2 := Lib.hid (Bl.old hb2 (block_lt HM1.out) HM1.out)
  obtain ⟨r0, r1, r2, r3⟩ := four hK2
  have f0 := free hK2 0
  have f1 := free hK2 1
  have f2 := free hK2 2
  have f3 := free hK2 3
  obtain ⟨p0, p1, p2⟩ := three hF2
  have d0 := free hF2 0
  have d1 := free hF2 1
  have d2 := free hF2 2
  have hne : gr ≠ x.heap.size := by omega
  have hen : x.heap.size ≠ gr := by omega
  have HB2 := Lib.hid hb2
  have HF2 := Lib.hid hf2
  have HK2 := Lib.hid hK2
  have HG2 := Lib.hid hF2
  clear hf2 hb2 hK2 hF2
  go_upto_region 3 with fail
  obtain ⟨W, hW⟩ : ∃ W, W = (((((x2.setCell ⟨gr, 0, none⟩ (.int .i64 q.m)).setCell ⟨gr, 1, none⟩ (.int .i64 q.c)).setCell ⟨gr, 2, none⟩ (.string q.a)).setCell ⟨gr, 3, none⟩ (.slice va fs.length vc)).setCell ⟨x.heap.size, 2, none⟩ (.int .i64 0)) := ⟨_, rfl⟩
  rw [← hW]
  have hKW : W.heap[gr]? = some (.cells #[.int .i64 q.m, .int .i64 q.c, .string q.a, .slice va fs.length vc] 32 (0, 0)) := by
    rw [hW, Below.heap_setCell _ _ _ _ (by exact hne)]; exact put4 HK2.out _ _ _ _
  have hFW : W.heap[x.heap.size]? = some (.cells #[.int .i64 0, .int .i64 0, .int .i64 0] 44 (0, 0)) := by
    rw [hW]
    have h1 := put_far (a := ⟨gr, 3, none⟩) (v := .slice va fs.length vc) (put_far (a := ⟨gr, 2, none⟩) (v := .string q.a) (put_far (a := ⟨gr, 1, none⟩) (v := .int .i64 q.c) (put_far (a := ⟨gr, 0, none⟩) (v := .int .i64 q.m) HG2.out (by exact hen)) (by exact hen)) (by exact hen)) (by exact hen)
    exact heap_put h1 2 _
  have hCW : Chg (fun k => k = gr) x W := by
    have h0 := (Chg.of_below (O := fun k => k = gr) (HB1.out.trans (HB2.out.mono hs1)))
    rw [hW]
    exact ((((h0.put ⟨gr, 0, none⟩ _ (.inl rfl)).put ⟨gr, 1, none⟩ _ (.inl rfl)).put ⟨gr, 2, none⟩ _ (.inl rfl)).put ⟨gr, 3, none⟩ _ (.inl rfl)).put ⟨x.heap.size, 2, none⟩ _ (.inr (Nat.le_refl _))
  have hOW : OwnF W x.heap.size (.slice va fs.length vc) fs := by
    refine Fd.owns_mono (row_same HF2.out fun k hk => ?_) (by omega)
    have hk3 := (World.ownsRow.lt HF2.out k hk).1
    rw [hW, Below.heap_setCell _ _ _ _ (by show k ≠ x.heap.size; omega), Below.heap_setCell _ _ _ _ (by show k ≠ gr; omega), Below.heap_setCell _ _ _ _ (by show k ≠ gr; omega), Below.heap_setCell _ _ _ _ (by show k ≠ gr; omega), Below.heap_setCell _ _ _ _ (by show k ≠ gr; omega)]
  have HO := Lib.hid (ofResponse_any q.m q.c q.a (.slice va fs.length vc) fs k W hOW.flds (by omega) (tab_chg HTx.out hCW (fun h => hrt h.symm)))
  have HKW := Lib.hid hKW
  have HFW := Lib.hid hFW
  have HCW := Lib.hid hCW
  have HOW := Lib.hid hOW
  have HOWX := Lib.hid (fun k (hk : (Value.slice va fs.length vc).ownBlock = some k) => (World.ownsRow.lt HF2.out k hk).1)
  have cm : W.cell? ⟨gm, 0, none⟩ = some (.string k) := by
    have h1 := HM2.out
    have hmr : gm ≠ gr := fun e => by
      have h2 := HK2.out
      rw [e, h2] at h1
      injection h1 with h1; injection h1 with _ h1; revert h1; decide
    rw [Lib.cell_of_heap (by rw [hW, Below.heap_setCell _ _ _ _ (by show gm ≠ x.heap.size; omega), Below.heap_setCell _ _ _ _ (by exact hmr), Below.heap_setCell _ _ _ _ (by exact hmr), Below.heap_setCell _ _ _ _ (by exact hmr), Below.heap_setCell _ _ _ _ (by exact hmr)]; exact h1)]; rfl
  obtain ⟨r0, r1, r2, r3⟩ := four hKW
  clear hW hKW hFW hCW hOW f0 f1 f2 f3 p0 p1 p2 d0 d1 d2 HG2 HK2 HF2 cb
  have hO := HO.out
  unfold TriPost at hO
  rw [HT3.out] at hO
  have HO2 := Lib.hid hO
  clear hO HO
  go_wp2_with fail
  refine HO2.out.mono ?_
  rintro e x5 ⟨rfl, hb5⟩
  have hF5 := Bl.old hb5 (block_lt HFW.out) HFW.out
  have hR5 := Bl.old hb5 (block_lt HKW.out) HKW.out
  obtain ⟨p0, p1, p2⟩ := three hF5
  have d0 := free hF5 0
  have d1 := free hF5 1
  have d2 := free hF5 2
  have HF5 := Lib.hid hF5
  have HR5 := Lib.hid hR5
  have HO5 := Lib.hid (owns_kept HOW.out hb5)
  have HC5 := Lib.hid (HCW.out.next hb5)
  clear hb5 hF5 hR5 r0 r1 r2 r3
  go_wp2_with fail
  refine bodyPost_ret (results_one rfl _ _ x.heap.size 44 _ (0, 0) _ rfl (put3 (put3 HF5.out _ _ _) _ _ _) Tryz.underlying44 rfl infoFramed) rfl ?_
  refine ⟨rfl, ?_, .slice va fs.length vc, ?_, ?_⟩
  · exact (((((HC5.out.put ⟨x.heap.size, 0, none⟩ _ (.inr (Nat.le_refl _))).put ⟨x.heap.size, 1, none⟩ _ (.inr (Nat.le_refl _))).put ⟨x.heap.size, 2, none⟩ _ (.inr (Nat.le_refl _))).put ⟨x.heap.size, 0, none⟩ _ (.inr (Nat.le_refl _))).put ⟨x.heap.size, 1, none⟩ _ (.inr (Nat.le_refl _))).put ⟨x.heap.size, 2, none⟩ _ (.inr (Nat.le_refl _))
  · rw [three_far hne, three_far hne]; exact HR5.out
  · refine row_same HO5.out fun k hk => ?_
    have hk3 := (World.ownsRow.lt HO5.out k hk).1
    have hkx : k ≠ x.heap.size := by
      have := HOWX.out k hk
      omega
    rw [three_far hkx, three_far hkx]
end Go.Proofs.YtcolnidgembniaaGreatDoor.Ms
/-
  head.New: what it returns. No condition.
-/
namespace Go.Proofs.YtcolnidgembniaaGreatDoor.Hd
open Go.RowKit Go.Proofs.YtcolnidgembniaaGreatDoor.Tk Go.Proofs.YtcolnidgembniaaGreatDoor.Fd
set_option linter.unusedVariables false

theorem infoPart : (Tryz.prog.info? 73).map (·.size) = some 2 := by kernel_rfl
def OpenPost (F1 : Value) (w : World) (e : Ending) (w' : World) : Prop :=
  e = .returned (.agg #[.int .i64 1026, fnOf w.heap.size none]) ∧ w'.heap[w.heap.size]? = some (.cells #[F1] 70 (0, 0)) ∧ Below w.heap.size w w'
set_option maxRecDepth 100000 in
set_option maxHeartbeats 4000000 in
theorem open_any (fn : Fn) (w : World) :
    Calls Tryz.prog 28 #[.func fn #[] #[]] w (OpenPost (.func fn #[] #[]) w) := by
  have HX := Lib.hid (fun o => (old_block (w.alloc (.cells #[.func fn #[] #[]] 70)) o (b := w.heap.size) (by simp)).trans (new_block w (.cells #[.func fn #[] #[]] 70)))
  have HB := Lib.hid ((((Below.refl w.heap.size w).alloc (Nat.le_refl _) (.cells #[.func fn #[] #[]] 70)).alloc (by simp) (.cells #[.int .i64 1026, fnOf w.heap.size none] 73)))
  have HN := Lib.hid (new_block' (w.alloc (.cells #[.func fn #[] #[]] 70)) (.cells #[.int .i64 1026, fnOf w.heap.size none] 73) (g := w.heap.size + 1) (by simp))
  go_enter Tryz.func28, Tryz.ntmps28
  go_wp2_with fail
  refine bodyPost_ret (results_one rfl _ _ (w.heap.size + 1) 73 _ (0, 0) _ rfl HN.out Tryz.underlying73 rfl infoPart) rfl ?_
  exact ⟨rfl, HX.out _, HB.out⟩
def NewPost (resp : Bool) (w : World) (e : Ending) (w' : World) : Prop :=
  ∃ g, e = .returned (.pointer (some ⟨g, 0, none⟩)) ∧ Rdr w' (fun k => w.heap.size ≤ k) resp g start ∧ Below w.heap.size w w'
theorem new_made (resp : Bool) (w w1 : World) (h1 : w1.heap[w.heap.size]? = some (.cells #[firstFn resp] 70 (0, 0))) (hb : Below w.heap.size w w1) :
    NewPost resp w (.returned (.pointer (some ⟨w1.heap.size, 0, none⟩))) (w1.alloc (.cells (rc resp 1026 (fnOf w.heap.size none) (.slice none 0 0) 0 false 0 resp .none (.slice none 0 0)) 76)) := by
  refine ⟨_, rfl, ⟨w.heap.size, .slice none 0 0, .slice none 0 0, new_block _ _, (old_block _ _ (block_lt h1)).trans h1, OwnB.nil _, OwnF.nil _ _, hb.size, Nat.le_refl _, (fun k hk => by cases hk), (fun k hk => by cases hk)⟩, hb.alloc hb.size _⟩
set_option maxRecDepth 100000 in
set_option maxHeartbeats 4000000 in
theorem new_any (resp : Bool) (w : World) : Calls Tryz.prog 11 #[.bool resp] w (NewPost resp w) := by
  cases resp with
  | false =>
    go_enter Tryz.func11, Tryz.ntmps11
    go_wp2_with fail
    refine (open_any (.func 26) w).mono ?_
    rintro e w1 ⟨rfl, h1, hb1⟩
    have HM := Lib.hid (new_made false w w1 h1 hb1)
    clear h1 hb1
    go_wp2_with fail
    go_ret
    exact HM.out
  | true =>
    go_enter Tryz.func11, Tryz.ntmps11
    go_wp2_with fail
    refine (open_any (.func 27) w).mono ?_
    rintro e w1 ⟨rfl, h1, hb1⟩
    have HM := Lib.hid (new_made true w w1 h1 hb1)
    clear h1 hb1
    go_wp2_with fail
    go_ret
    exact HM.out
end Go.Proofs.YtcolnidgembniaaGreatDoor.Hd
/-
  message.ReadRequest: what it returns. Conditions: at most 2^40 bytes; the tables.
-/
namespace Go.Proofs.YtcolnidgembniaaGreatDoor.Ms
open Go.RowKit Go.Proofs.YtcolnidgembniaaGreatDoor.Tk Go.Proofs.YtcolnidgembniaaGreatDoor.Fd Go.Proofs.YtcolnidgembniaaGreatDoor.Hd Go.Proofs.YtcolnidgembniaaGreatDoor.Fr
set_option linter.unusedVariables false

def reqT (q : Hd.Parts) (fs : List Fl) : Int × Int × Int := toldVal q.m fs 0
def resT (k : ByteArray) (q : Hd.Parts) (fs : List Fl) : Int × Int × Int := resVal q.m q.c fs k
/-- What a request's, a response's reading returns. -/
def ReqMsg (M : Msg) (w : World) (e : Ending) (w' : World) : Prop :=
  ∃ v a c, e = .returned (.tuple #[.agg #[.string M.q.a, .string M.q.b, .int .i64 M.q.m, v], .slice a M.x.length c, .int .i64 (M.n : Int), .int .i64 M.e]) ∧ OwnF w' w.heap.size v M.fs ∧ M.fs.length ≤ 64 ∧ Own w' w.heap.size (.slice a M.x.length c) M.x ∧ Below w.heap.size w w'
def ResMsg (M : Msg) (w : World) (e : Ending) (w' : World) : Prop :=
  ∃ v a c, e = .returned (.tuple #[.agg #[.int .i64 M.q.m, .int .i64 M.q.c, .string M.q.a, v], .slice a M.x.length c, .int .i64 (M.n : Int), .int .i64 M.e]) ∧ OwnF w' w.heap.size v M.fs ∧ M.fs.length ≤ 64 ∧ Own w' w.heap.size (.slice a M.x.length c) M.x ∧ Below w.heap.size w w'
theorem put4_old {w : World} {g k : Nat} (h : k ≠ g) (x y z u : Value) : ((((w.setCell ⟨g, 0, none⟩ x).setCell ⟨g, 1, none⟩ y).setCell ⟨g, 2, none⟩ z).setCell ⟨g, 3, none⟩ u).heap[k]? = w.heap[k]? := by
  rw [Below.heap_setCell _ _ _ _ (by exact h), Below.heap_setCell _ _ _ _ (by exact h), Below.heap_setCell _ _ _ _ (by exact h), Below.heap_setCell _ _ _ _ (by exact h)]
theorem ownF_put4 {w : World} {base g : Nat} {v : Value} {fs : List Fl} (h : OwnF w base v fs) (hg : g < base) {x y z u : Value} : OwnF ((((w.setCell ⟨g, 0, none⟩ x).setCell ⟨g, 1, none⟩ y).setCell ⟨g, 2, none⟩ z).setCell ⟨g, 3, none⟩ u) base v fs :=
  row_same h fun k hk => put4_old (by have := (World.ownsRow.lt h k hk).1; omega) x y z u
theorem own_put4 {w : World} {base g : Nat} {v : Value} {l : Bs} (h : Own w base v l) (hg : g < base) {x y z u : Value} : Own ((((w.setCell ⟨g, 0, none⟩ x).setCell ⟨g, 1, none⟩ y).setCell ⟨g, 2, none⟩ z).setCell ⟨g, 3, none⟩ u) base v l :=
  h.same (by simp [World.setCell]) fun k hk => put4_old (by have := (h.lt k hk).1; omega) x y z u
set_option maxRecDepth 100000 in
set_option maxHeartbeats 8000000 in
theorem readRequest_any (v : Value) (b : Bs) (w : World) (hv : Byts w v b) (hbl : b.length ≤ 1099511627775) (hT : Tab w) (hE : ErrV w) :
    Calls Tryz.prog 5 #[v] w (ReqMsg (msgOf false reqT b false) w) := by
  have htl := hT.lt
  have hel := hE.lt
  obtain ⟨va, vc, hvs⟩ := hv.shape
  subst hvs
  obtain ⟨gr, hgr⟩ : ∃ gr, gr = w.heap.size := ⟨_, rfl⟩
  obtain ⟨w1, hw1⟩ : ∃ w1, w1 = w.alloc (.cells #[.string ⟨#[]⟩, .string ⟨#[]⟩, .int .i64 0, .slice none 0 0] 25) := ⟨_, rfl⟩
  have hb1 : Below w.heap.size w w1 := by rw [hw1]; exact (Below.refl _ _).alloc (Nat.le_refl _) _
  have hs1 : w1.heap.size = w.heap.size + 1 := by rw [hw1]; simp
  have hN1 : w1.heap[gr]? = some (.cells #[.string ⟨#[]⟩, .string ⟨#[]⟩, .int .i64 0, .slice none 0 0] 25 (0, 0)) := by rw [hw1, hgr]; exact new_block _ _
  have HGR := Lib.hid hgr
  have HW1 := Lib.hid hw1
  have hgl : w.heap.size ≤ gr := by omega
  have hgu : gr < w1.heap.size := by omega
  have HVO := Lib.hid (fun (hp : 0 < b.length) => (show ∀ k, (Value.slice va b.length vc).ownBlock = some k → k < w.heap.size from fun k hk => by
    rcases hv with ⟨h0, _⟩ | ⟨B, off, cap, hv, _, _, hB, _⟩
    · rw [h0] at hp; simp at hp
    · rw [hv] at hk; injection hk with hk; have hk' : B = k := hk; omega))
  have HV := Lib.hid hv
  have HT := Lib.hid hT
  have HE := Lib.hid hE
  clear hw1 hgr hv hT hE
  go_enter Tryz.func5, Tryz.ntmps5
  go_wp2_with fail
  rw [← HW1.out, ← HGR.out]
  refine (Hd.new_any false w1).mono ?_
  rintro e x1 ⟨g, rfl, hR1, hbx1⟩
  obtain ⟨gb, hgb⟩ : ∃ gb, gb = x1.heap.size := ⟨_, rfl⟩
  obtain ⟨x2, hx2⟩ : ∃ x2, x2 = x1.alloc (.cells #[.pointer (some ⟨g, 0, none⟩)] 41) := ⟨_, rfl⟩
  have hbx2 : Below x1.heap.size x1 x2 := by rw [hx2]; exact (Below.refl _ _).alloc (Nat.le_refl _) _
  have hNb : x2.heap[gb]? = some (.cells #[.pointer (some ⟨g, 0, none⟩)] 41 (0, 0)) := by rw [hx2, hgb]; exact new_block _ _
  have hs2 := hbx1.size
  have hs3 : x2.heap.size = x1.heap.size + 1 := by rw [hx2]; simp
  have hbw : Below w.heap.size w x2 := (hb1.trans (hbx1.mono hb1.size)).trans (hbx2.mono (by omega))
  have hR2 : Rdr x2 (fun k => w1.heap.size ≤ k ∧ k < x1.heap.size) false g Hd.start := (hR1.bound.mono (fun k h => h)).below hbx2
  have hr2 := Bl.old (hbx1.trans (hbx2.mono hbx1.size)) hgu hN1
  have hT2 := HT.out.below hbw HT.out.lt
  have hrd := read2_any false (fun k => w1.heap.size ≤ k ∧ k < x1.heap.size) (fun k => k = gr) (fun y => ∃ A0 A1 A2 A3, y.heap[gr]? = some (.cells #[A0, A1, A2, A3] 25 (0, 0))) (fun q fs y => ReqAt gr x2.heap.size q fs y) reqT g (.pointer (some ⟨gb, 0, none⟩)) (.pointer (some ⟨gr, 0, none⟩)) (.slice va b.length vc) b false x2
    hR2 (HV.out.below hbw (Nat.le_refl _)) (fun hp k hk => by have := HVO.out hp k hk; refine ⟨?_, ?_, ?_⟩ <;> omega) hbl hT2 (HE.out.below hbw) (by rintro ⟨h, _⟩; omega) (by rintro ⟨h, _⟩; omega) (by intro h; omega) (by intro h; omega) (fun k hk => by omega)
    (fun q fs hq x hx hC => by
      have hG := Hd.good_run false b Hd.good_start
      rw [hq] at hG
      refine (asked_any (Hd.New (fun k => w1.heap.size ≤ k ∧ k < x1.heap.size) x2) gb gr g q fs _ _ _ _ x (hC.old (by rintro ⟨_, h⟩; omega) hNb) (hC.old (by rintro ⟨h, _⟩; omega) hr2) hx hG.1 hG.2 (tab_chg hT2 hC (by rintro ⟨h, _⟩; omega)) (by intro h; omega)).mono ?_
      rintro e y ⟨he, hy, v, h1, h2⟩
      exact ⟨he, hy, v, h1, Fd.owns_mono h2 hC.size⟩)
    (fun q fs x y h hb => h.below hb) (fun x hC => ⟨_, _, _, _, hC.old (by rintro ⟨h, _⟩; omega) hr2⟩) (fun q fs x h => by obtain ⟨v, h, _⟩ := h; exact ⟨_, _, _, _, h⟩)
  have HRD := Lib.hid hrd
  have HX2 := Lib.hid hx2
  have HGB := Lib.hid hgb
  have HBW := Lib.hid hbw
  have hgx : gr < x2.heap.size := by omega
  have hwx : w.heap.size ≤ x2.heap.size := by omega
  have hwx1 : w.heap.size ≤ w1.heap.size := by omega
  clear hrd hx2 hgb hbx2 hNb hR2 hR1 hr2 hT2 hbw hbx1 hN1 hb1
  go_wp2_with fail
  rw [← HX2.out, ← HGB.out]
  refine HRD.out.mono ?_
  rintro e y ⟨a, c, X, M, E, rfl, hown, hC, ⟨A0, A1, A2, A3, hJ⟩, hbad, hok⟩
  have HB := Lib.hid (HBW.out.trans (hC.below (fun k hk => by rcases hk with ⟨h, _⟩ | h <;> omega) hwx))
  clear hC HRD
  by_cases hE0 : E = 0
  · subst hE0
    obtain ⟨q, fs, hm, hl, ht, v', hk, hf⟩ := hok rfl
    obtain ⟨va', vc', hv'⟩ := OwnF.form hf
    subst hv'
    have HM := Lib.hid hm
    have HL := Lib.hid hl
    have HK := Lib.hid hk
    have HF := Lib.hid hf
    have HO := Lib.hid hown
    obtain ⟨r0, r1, r2, r3⟩ := four hk
    have f0 := free hk 0
    have f1 := free hk 1
    have f2 := free hk 2
    have f3 := free hk 3
    clear hm hl ht hk hf hown hJ hbad hok
    go_wp2_with fail
    refine bodyPost_ret (results_quad rfl _ _ gr 25 _ (0, 0) _ rfl (put4 HK.out _ _ _ _) Tryz.underlying25 rfl infoReq) rfl ?_
    rw [HM.out]
    exact ⟨_, a, c, rfl, Fd.owns_mono (ownF_put4 HF.out hgx) hwx, HL.out, (own_put4 HO.out hgx).mono hwx, put4_below HB.out hgl _ _ _ _⟩
  · have hm := hbad hE0
    have HM := Lib.hid hm
    have eE : ((E : Int) != 0) = true := by simp; omega
    have HK := Lib.hid hJ
    obtain ⟨r0, r1, r2, r3⟩ := four hJ
    have f0 := free hJ 0
    have f1 := free hJ 1
    have f2 := free hJ 2
    have f3 := free hJ 3
    clear hm hJ hbad hok hown
    go_wp2_with fail
    refine bodyPost_ret (results_quad rfl _ _ gr 25 _ (0, 0) _ rfl (put4 HK.out _ _ _ _) Tryz.underlying25 rfl infoReq) rfl ?_
    rw [HM.out]
    exact ⟨_, none, 0, rfl, OwnF.nil _ _, Nat.zero_le _, Own.nil _ _, put4_below HB.out hgl _ _ _ _⟩
end Go.Proofs.YtcolnidgembniaaGreatDoor.Ms
/-
  The reference's hex: what it returns. No condition.
-/
namespace Go.Proofs.YtcolnidgembniaaGreatDoor.Fr
open Go.RowKit Go.Proofs.YtcolnidgembniaaGreatDoor.Tk Go.Proofs.YtcolnidgembniaaGreatDoor.Fd Go.Proofs.YtcolnidgembniaaGreatDoor.Hd
set_option linter.unusedVariables false

def hexI (c : UInt8) : Int := if isHex c then (hexOf c : Int) else -1
theorem hexI_1 {c : UInt8} (h : 48 ≤ c.toNat ∧ c.toNat ≤ 57) : hexI c = (c.toNat : Int) - 48 := by
  have e : hexOf c = c.toNat - 48 := by unfold hexOf; rw [if_pos h]
  unfold hexI isHex; rw [e, if_pos (by simp; omega)]; omega
theorem hexI_2 {c : UInt8} (h : 97 ≤ c.toNat ∧ c.toNat ≤ 102) : hexI c = (c.toNat : Int) - 97 + 10 := by
  have e : hexOf c = c.toNat - 87 := by unfold hexOf; rw [if_neg (by omega), if_pos h]
  unfold hexI isHex; rw [e, if_pos (by simp; omega)]; omega
theorem hexI_3 {c : UInt8} (h : 65 ≤ c.toNat ∧ c.toNat ≤ 70) : hexI c = (c.toNat : Int) - 65 + 10 := by
  have e : hexOf c = c.toNat - 55 := by unfold hexOf; rw [if_neg (by omega), if_neg (by omega), if_pos h]
  unfold hexI isHex; rw [e, if_pos (by simp; omega)]; omega
theorem hexI_4 {c : UInt8} (h1 : ¬ (48 ≤ c.toNat ∧ c.toNat ≤ 57)) (h2 : ¬ (97 ≤ c.toNat ∧ c.toNat ≤ 102)) (h3 : ¬ (65 ≤ c.toNat ∧ c.toNat ≤ 70)) : hexI c = -1 := by
  have e : hexOf c = 16 := by unfold hexOf; rw [if_neg h1, if_neg h2, if_neg h3]
  unfold hexI isHex; rw [e]; rfl
set_option maxRecDepth 100000 in
set_option maxHeartbeats 4000000 in
theorem rhex_any (c : UInt8) (w : World) : Calls Tryz.prog 119 #[.int .u8 (c.toNat : Int)] w fun e w' => e = .returned (.int .i64 (hexI c)) ∧ w = w' := by
  obtain ⟨n, hn⟩ : ∃ n, n = c.toNat := ⟨_, rfl⟩
  have hlt : n < 256 := by rw [hn]; exact c.toNat_lt
  by_cases h1 : 48 ≤ n ∧ n ≤ 57
  · have HE := Lib.hid (hexI_1 (c := c) (by rw [← hn]; exact h1))
    rw [HE.out, ← hn]
    obtain ⟨d, rfl⟩ : ∃ d, n = 48 + d := ⟨n - 48, by omega⟩
    clear HE hn
    go_enter Tryz.func119, Tryz.ntmps119
    go_wp2_with fail
    go_ret
    exact ⟨rfl, rfl⟩
  · by_cases h2 : 97 ≤ n ∧ n ≤ 102
    · have HE := Lib.hid (hexI_2 (c := c) (by rw [← hn]; exact h2))
      rw [HE.out, ← hn]
      clear HE hn
      go_enter Tryz.func119, Tryz.ntmps119
      go_wp2_with fail
      go_ret
      exact ⟨rfl, rfl⟩
    · by_cases h3 : 65 ≤ n ∧ n ≤ 70
      · have HE := Lib.hid (hexI_3 (c := c) (by rw [← hn]; exact h3))
        rw [HE.out, ← hn]
        clear HE hn
        go_enter Tryz.func119, Tryz.ntmps119
        go_wp2_with fail
        go_ret
        exact ⟨rfl, rfl⟩
      · have HE := Lib.hid (hexI_4 (c := c) (by rw [← hn]; exact h1) (by rw [← hn]; exact h2) (by rw [← hn]; exact h3))
        rw [HE.out, ← hn]
        clear HE hn
        go_enter Tryz.func119, Tryz.ntmps119
        rcases (by omega : n < 48 ∨ (57 < n ∧ n < 65) ∨ (70 < n ∧ n < 97) ∨ 102 < n) with h | h | h | h
        all_goals
          go_wp2_with fail
          go_ret
          exact ⟨rfl, rfl⟩
end Go.Proofs.YtcolnidgembniaaGreatDoor.Fr
