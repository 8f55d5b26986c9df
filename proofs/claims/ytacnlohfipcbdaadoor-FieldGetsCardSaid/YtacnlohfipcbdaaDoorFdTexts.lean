/-
  gatepostlaw04.texts: are two lists of texts one? Condition: lists of at most 2^40 texts.
-/
import Derived.Test.YtacnlohfipcbdaaDoorFdTextsDef
import Derived.Deep.QuietTactic
import Derived.BigQuiet
namespace Go.Proofs.YtacnlohfipcbdaaDoor.Fd
open Go.RowKit Tk

theorem s_ne {x y : Bs} (h : x ≠ y) : (!((⟨x.toArray⟩ : ByteArray).toList == (⟨y.toArray⟩ : ByteArray).toList)) = true := by simp [h]
theorem lists_ne {ls ms : List Bs} (j : Nat) (h1 : j < ls.length) (h2 : j < ms.length) (h : ls[j] ≠ ms[j]) : (ls == ms) = false := by
  rw [beq_eq_false_iff_ne]; intro e; subst e; exact h rfl

set_option maxHeartbeats 1000000 in
theorem texts_any (v u : Value) (ls ms : List Bs) (w : World) (hv : Texts w v ls) (hu : Texts w u ms) (hl : ls.length ≤ 1099511627776) :
    Calls Tryd.prog 17 #[v, u] w fun e w' => e = .returned (.bool (ls == ms)) ∧ ∃ n, w' = w.drewN n := by
  by_cases hlen : ls.length = ms.length
  · by_cases h0 : ls.length = 0
    · obtain rfl : ls = [] := List.length_eq_zero_iff.1 h0
      obtain rfl : ms = [] := List.length_eq_zero_iff.1 hlen.symm
      obtain ⟨a, cap, rfl⟩ := hv.shape
      obtain ⟨b, cap2, rfl⟩ := hu.shape
      clear hv hu hlen h0
      go_enter Tryd.func17, Tryd.ntmps17
      go_wp2_with fail
      refine wp_loop_rounds 1 ?_
      rw [rounds_succ]
      go_wp2_with fail
      go_ret
      exact ⟨rfl, 0, rfl⟩
    · rcases hv with ⟨h, _⟩ | ⟨g, off, cap, rfl, hc⟩
      · rw [h] at h0; exact absurd rfl h0
      rcases hu with ⟨h, _⟩ | ⟨g2, off2, cap2, rfl, hc2⟩
      · rw [h] at hlen; exact absurd hlen h0
      have hne : ((ls.length : Int) != (ms.length : Int)) = false := by rw [hlen]; simp
      have HLEN := Lib.hid hlen
      have HC := Lib.hid hc
      have HC2 := Lib.hid hc2
      clear hlen hc hc2 h0
      go_enter Tryd.func17, Tryd.ntmps17
      go_wp2_with fail
      go_loopw [5] (fun i wr => ∃ k : Nat, k ≤ ls.length ∧ i = .int .i64 (k : Int) ∧ (∃ n, wr = w.drewN n) ∧ ∀ j (h1 : j < ls.length) (h2 : j < ms.length), j < k → ls[j] = ms[j]) (fun i _ => ls.length - (intOf i).toNat)
      case atStart => exact ⟨0, Nat.zero_le _, rfl, ⟨0, rfl⟩, fun j _ _ h => by omega⟩
      case round =>
        obtain ⟨k, hk, rfl, ⟨n, hw⟩, hall⟩ := hrel
        have HALL := Lib.hid hall
        have HW := Lib.hid hw
        clear hall
        by_cases hlt : k < ls.length
        · have hlt2 : k < ms.length := by have := HLEN.out; omega
          have c1 : wr.cell? ⟨g, off + k, none⟩ = some (TS ls[k]) := by rw [hw]; exact HC.out k hlt
          have c2 : wr.cell? ⟨g2, off2 + k, none⟩ = some (TS ms[k]) := by rw [hw]; exact HC2.out k hlt2
          clear hw
          by_cases he : ls[k] = ms[k]
          · have HE := Lib.hid he
            obtain ⟨T, hT⟩ : ∃ T : ByteArray, T = ⟨ls[k].toArray⟩ := ⟨_, rfl⟩
            rw [← he] at c2
            unfold TS at c1 c2
            rw [← hT] at c1 c2
            have ht : (!(T.toList == T.toList)) = false := by simp
            clear he hT
            go_wp2_with fail
            go_quiet (fail)
            go_wp2_with fail
            go_roundw
            case rel =>
              refine ⟨k + 1, by omega, by go_num, ⟨_, by rw [HW.out, World.drewN_drewN]⟩, fun j h1 h2 hj => ?_⟩
              by_cases e : j = k
              · subst e; exact HE.out
              · exact HALL.out j h1 h2 (by omega)
            case measure => simp [intOf]; omega
          · have HN := Lib.hid (lists_ne k hlt hlt2 he)
            obtain ⟨T, hT⟩ : ∃ T : ByteArray, T = ⟨ls[k].toArray⟩ := ⟨_, rfl⟩
            obtain ⟨U, hU⟩ : ∃ U : ByteArray, U = ⟨ms[k].toArray⟩ := ⟨_, rfl⟩
            have ht : (!(T.toList == U.toList)) = true := by rw [hT, hU]; exact s_ne he
            unfold TS at c1 c2
            rw [← hT] at c1
            rw [← hU] at c2
            clear he hT hU
            go_wp2_with fail
            go_quiet (fail)
            go_wp2_with fail
            go_ret
            exact ⟨by rw [HN.out]; rfl, _, by rw [HW.out, World.drewN_drewN]⟩
        · have HY := Lib.hid (show (ls == ms) = true from by
            rw [beq_iff_eq]; apply List.ext_getElem HLEN.out; intro j h1 h2; exact HALL.out j h1 h2 (by omega))
          clear hw
          go_wp2_with fail
          go_ret
          exact ⟨by rw [HY.out]; rfl, n, HW.out⟩
  · have hne : ((ls.length : Int) != (ms.length : Int)) = true := by rw [bne_iff_ne]; omega
    have HN := Lib.hid (show (ls == ms) = false from by rw [beq_eq_false_iff_ne]; intro e; exact hlen (by rw [e]))
    obtain ⟨a, cap, rfl⟩ := hv.shape
    obtain ⟨b, cap2, rfl⟩ := hu.shape
    clear hv hu hlen
    go_enter Tryd.func17, Tryd.ntmps17
    go_wp2_with fail
    go_ret
    exact ⟨by rw [HN.out]; rfl, 0, rfl⟩
end Go.Proofs.YtacnlohfipcbdaaDoor.Fd
