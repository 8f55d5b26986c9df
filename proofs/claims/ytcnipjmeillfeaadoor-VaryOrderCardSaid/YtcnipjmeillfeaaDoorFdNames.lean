/-
  field.Names: what it returns. Conditions: fields of at most 2^20 bytes in all; the table of token bytes.
-/
import Derived.Test.YtcnipjmeillfeaaDoorFdGet
import Derived.Test.YtcnipjmeillfeaaDoorFdOwn
import Derived.Test.YtcnipjmeillfeaaDoorFdTextsDef
import Derived.Test.YtcnipjmeillfeaaDoorFdNamesMath
import Derived.Test.YtcnipjmeillfeaaDoorTokSplitAll
import Derived.Test.YtcnipjmeillfeaaDoorTokIs
namespace Go.Proofs.YtcnipjmeillfeaaDoor.Fd
open Go.RowKit Tk
set_option linter.unusedVariables false

/-- What Names answers of a text: nothing and false, or the names in memory of its own and true. -/
def NamesPost (t : Bs) (w : World) (e : Ending) (w' : World) : Prop :=
  Below w.heap.size w w' ∧ ((namesOf t = none ∧ e = .returned (.tuple #[.slice none 0 0, .bool false])) ∨
    ∃ ls v, namesOf t = some ls ∧ e = .returned (.tuple #[v, .bool true]) ∧ w'.ownsRow w.heap.size 9 1 v ls.length (ls.map TS))

theorem row_at {w : World} {base g n cap : Nat} {ls : List Bs} (h : w.ownsRow base 9 1 (.slice (some ⟨g, 0, none⟩) n cap) n (ls.map TS)) (k : Nat) (hk : k < n) {x : Bs} (hx : ls[k]? = some x) : w.cell? ⟨g, k, none⟩ = some (.string ⟨x.toArray⟩) := by
  rw [h.cellAt k (by omega), List.getElem?_map, hx]; rfl
theorem row_put {w : World} {base g n cap : Nat} {ls : List Bs} (h : w.ownsRow base 9 1 (.slice (some ⟨g, 0, none⟩) n cap) n (ls.map TS)) (k : Nat) (x : Bs) :
    (w.setCell ⟨g, k, none⟩ (.string ⟨x.toArray⟩)).ownsRow base 9 1 (.slice (some ⟨g, 0, none⟩) n cap) n ((ls.set k x).map TS) := by
  have h2 := (h.stored k (TS x)).1
  rw [List.map_set]; exact h2

set_option maxHeartbeats 4000000 in
theorem names_any (v : Value) (fs : List Fl) (nm : ByteArray) (w : World) (hf : Flds w v fs) (ht : tot fs ≤ 1048576) (hn : nm.size ≤ maxLen) (hT : Tab w) :
    Calls Tryd.prog 15 #[v, .string nm] w (NamesPost (getT fs nm.data.toList) w) := by
  have hgl := getT_length fs nm.data.toList
  have hg := hT.lt
  have HT := Lib.hid hT
  obtain ⟨G, hG⟩ : ∃ G : Bs, G = getT fs nm.data.toList := ⟨_, rfl⟩
  have HGV := Lib.hid (show getVal fs nm.data.toList = .tuple #[.string ⟨G.toArray⟩, .int .i64 (getN fs nm.data.toList : Int)] from by rw [hG]; rfl)
  rw [← hG] at hgl
  rw [← hG]
  have hGs : (⟨G.toArray⟩ : ByteArray).size ≤ 2097152 := by rw [show (⟨G.toArray⟩ : ByteArray).size = G.length from by show G.toArray.size = _; rw [List.size_toArray]]; omega
  have HGD := Lib.hid (show (⟨G.toArray⟩ : ByteArray).data.toList = G from rfl)
  obtain ⟨X, hX⟩ : ∃ X : ByteArray, X = ⟨G.toArray⟩ := ⟨_, rfl⟩
  rw [← hX] at HGV hGs HGD
  clear hG hX hT
  go_enter Tryd.func15, Tryd.ntmps15
  go_wp2_with fail
  refine (get_any v fs nm _ hf ht hn).mono ?_
  rintro e w1 ⟨rfl, hb1⟩
  rw [HGV.out]
  go_wp2_with fail
  refine (split_any X _ (by omega)).mono ?_
  rintro e w2 ⟨hb2, h2⟩
  have hB2 := Bl.next hb1 hb2
  rw [HGD.out] at h2
  rcases h2 with ⟨h2, rfl⟩ | ⟨ls, u, hs, rfl, ho⟩
  · have HN := Lib.hid (names_none h2)
    clear h2 hb1 hb2
    go_wp2_with fail
    go_ret2
    exact ⟨hB2, .inl ⟨HN.out, rfl⟩⟩
  · have hll := split_length hs
    have HP := Lib.hid (split_piece hs)
    have HS := Lib.hid hs
    have ho' := owns_mono ho hb1.size
    have HO := Lib.hid (show w2.ownsRow w.heap.size 9 1 u ls.length ((half ls 0).map TS) from by rw [half_zero]; exact ho')
    by_cases h0 : ls.length = 0
    · obtain rfl : ls = [] := List.length_eq_zero_iff.1 h0
      obtain ⟨a, cap, hu⟩ : ∃ a cap, u = .slice a 0 cap := by
        rcases ho.2 with ⟨hv, _⟩ | ⟨g, cap, cur, hv, _⟩
        · exact ⟨none, 0, hv⟩
        · exact ⟨_, cap, hv⟩
      rw [hu] at HO
      rw [hu]
      clear hu ho ho' hs hb1 hb2 h0
      go_wp2_with fail
      refine wp_loop_rounds 1 ?_
      rw [rounds_succ]
      go_wp2_with fail
      go_ret2
      exact ⟨hB2, .inr ⟨[], _, names_good HS.out rfl, rfl, HO.out⟩⟩
    · obtain ⟨g, cap, hu, hgb⟩ : ∃ g cap, u = .slice (some ⟨g, 0, none⟩) ls.length cap ∧ w.heap.size ≤ g := by
        rcases ho'.2 with ⟨_, h⟩ | ⟨g, cap, cur, hv, hb, _⟩
        · exact absurd h h0
        · exact ⟨g, cap, hv, hb⟩
      rw [hu] at HO
      rw [hu]
      clear hu ho ho' hs hb1 hb2 h0
      go_wp2_with fail
      go_loopw [27] (fun i wr => ∃ k : Nat, k ≤ ls.length ∧ i = .int .i64 (k : Int) ∧ (ls.take k).all isTok = true ∧ wr.ownsRow w.heap.size 9 1 (.slice (some ⟨g, 0, none⟩) ls.length cap) ls.length ((half ls k).map TS) ∧ Below w.heap.size w wr) (fun i _ => ls.length - (intOf i).toNat)
      case atStart => exact ⟨0, Nat.zero_le _, rfl, rfl, HO.out, hB2⟩
      case round =>
        obtain ⟨k, hk, rfl, hal, hO, hB⟩ := hrel
        have HAL := Lib.hid hal
        have HOk := Lib.hid hO
        clear hal hO HO
        have hsz := hB.size
        by_cases hlt2 : k < ls.length
        · have hxz := HP.out ls[k] (List.getElem_mem hlt2)
          have c1 := row_at HOk.out k hlt2 (half_at ls k hlt2)
          obtain ⟨x, hx⟩ : ∃ x : ByteArray, x = ⟨ls[k].toArray⟩ := ⟨_, rfl⟩
          have HX := Lib.hid (show x.data.toList = ls[k] from by rw [hx])
          have hxs : x.size ≤ maxLen := by rw [hx]; show ls[k].toArray.size ≤ _; rw [List.size_toArray]; unfold maxLen; omega
          rw [← hx] at c1
          have HTr := Lib.hid (HT.out.below hB hg)
          cases hh : isTok ls[k] with
          | false =>
            have HN := Lib.hid (names_bad HS.out k hlt2 hh)
            have HH := Lib.hid (show isTok x.data.toList = false from by rw [HX.out]; exact hh)
            clear hh hx hxz
            go_wp2_with fail
            refine (is_any x _ hxs HTr.out).mono ?_
            rintro e w3 ⟨rfl, rfl⟩
            rw [HH.out]
            go_wp2_with fail
            go_ret2
            exact ⟨hB, .inl ⟨HN.out, rfl⟩⟩
          | true =>
            have HN := Lib.hid (all_next ls k hlt2 HAL.out hh)
            have HH := Lib.hid (show isTok x.data.toList = true from by rw [HX.out]; exact hh)
            have HSET := Lib.hid (half_set ls k hlt2)
            clear hh hx hxz
            go_wp2_with fail
            refine (is_any x _ hxs HTr.out).mono ?_
            rintro e w3 ⟨rfl, rfl⟩
            rw [HH.out]
            go_wp2_with fail
            refine (lower_any x _ hxs).mono ?_
            rintro e w4 ⟨rfl, hb4⟩
            have hB4 := Bl.next hB hb4
            have HO4 := Lib.hid (owns_kept HOk.out hb4)
            have f4 := HO4.out.frozenAt k
            have c4 := row_at HO4.out k hlt2 (half_at ls k hlt2)
            obtain ⟨L, hL⟩ : ∃ L : ByteArray, L = ⟨(lower x.data.toList).toArray⟩ := ⟨_, rfl⟩
            have HL := Lib.hid hL
            rw [← hL]
            clear hL c1 hb4 HOk hB
            go_wp2_with fail
            go_roundw
            case rel => exact ⟨k + 1, by omega, by go_num, HN.out, by
              rw [← HSET.out, HL.out, HX.out]; exact row_put HO4.out k _, hB4.setCell hgb _⟩
            case measure => simp [intOf]; omega
        · have HE := Lib.hid (show k = ls.length from by omega)
          have HAL2 := Lib.hid (show ls.all isTok = true from by have h := HAL.out; rwa [HE.out, List.take_length] at h)
          have HO2 := Lib.hid (show wr.ownsRow w.heap.size 9 1 (.slice (some ⟨g, 0, none⟩) ls.length cap) (ls.map lower).length ((ls.map lower).map TS) from by have h := HOk.out; rw [HE.out, half_all] at h; rw [List.length_map]; exact h)
          clear HE HAL HOk
          go_wp2_with fail
          go_ret2
          exact ⟨hB, .inr ⟨_, _, names_good HS.out HAL2.out, rfl, HO2.out⟩⟩
end Go.Proofs.YtcnipjmeillfeaaDoor.Fd
