/-
  ranges.Pick: what it returns. Condition: a text of at most 2^30 bytes.
-/
import Derived.Test.YthhnpdihgoiccaaRnParse
import Derived.Test.YthhnpdihgoiccaaRnRes
namespace Go.Proofs.Ythhnpdihgoiccaa.Rn
open Go.RowKit Go.Proofs.Ythhnpdihgoiccaa.Fd Go.Proofs.Ythhnpdihgoiccaa.Sn Go.Proofs.Ythhnpdihgoiccaa.Rm
set_option maxRecDepth 100000
set_option linter.unusedVariables false
set_option linter.unusedSimpArgs false

def pickV (p : Rm.W × Int) : Value := .tuple #[SV p.1, .int .i64 p.2]
theorem parse_len {l : Tk.Bs} {L : List Rm.W} (h : parseR l = some L) : L.length ≤ 32 := by
  unfold parseR at h
  split at h
  · split at h
    · cases h
    · split at h
      · rename_i h3; rw [allW_length _ h]; exact h3.2
      · cases h
  · cases h
theorem pick_bad {l : Tk.Bs} {long : Int} (h : parseR l = none ∨ longB long = false) : Rm.pick l long = ((0, 0), 0) := by
  unfold Rm.pick
  rcases h with h | h
  · rw [h]
  · split
    · rfl
    · have h := of_decide_eq_false h
      rw [if_pos (by have e : Rm.mostB = 1048576 := rfl; omega)]
theorem pick_good {l : Tk.Bs} {long : Int} {L : List Rm.W} (h : parseR l = some L) (h2 : longB long = true) : Rm.pick l long = pickL (L.filterMap fun w => Rm.resolve w long) := by
  unfold Rm.pick
  rw [h]
  show (if _ then _ else _) = _
  rw [if_neg (long_iff.1 h2)]
theorem fm_step (L : List Rm.W) (k : Nat) (h : k < L.length) (long : Int) : (L.take (k + 1)).filterMap (fun w => Rm.resolve w long) = (L.take k).filterMap (fun w => Rm.resolve w long) ++ (Rm.resolve L[k] long).toList := by
  rw [List.take_succ_eq_append_getElem h, List.filterMap_append]
  congr 1
theorem fm_le (L : List Rm.W) (k : Nat) (long : Int) : ((L.take k).filterMap fun w => Rm.resolve w long).length ≤ L.length := by
  have := List.length_filterMap_le (fun w => Rm.resolve w long) (L.take k)
  rw [List.length_take] at this
  omega
structure Rp (w2 : World) (v : Value) (L : List Sp) (wr : World) : Prop where
  own : OwnS wr w2.heap.size v L
  bel : Below w2.heap.size w2 wr
theorem Rp.next {w2 : World} {v : Value} {L : List Sp} {wr wr' : World} (h : Rp w2 v L wr) (hb : Below wr.heap.size wr wr') : Rp w2 v L wr' :=
  ⟨h.own.kept hb, Bl.next h.bel hb⟩
set_option maxHeartbeats 8000000 in
theorem pick_any (s : ByteArray) (long : Int) (w : World) (hs : s.size ≤ 1073741824) :
    Calls Try.prog 10 #[.string s, .int .i64 long] w fun e w' => e = .returned (pickV (Rm.pick s.data.toList long)) ∧ Below w.heap.size w w' := by
  obtain ⟨W, hW⟩ : ∃ W, W = w.alloc (.cells #[.int .i64 0, .int .i64 0] 31) := ⟨_, rfl⟩
  have hr : W.heap[w.heap.size]? = some (.cells #[.int .i64 0, .int .i64 0] 31 (0, 0)) := by rw [hW]; exact new_block _ _
  have hB : Below w.heap.size w W := by rw [hW]; exact (Below.refl _ _).alloc (Nat.le_refl _) _
  have HSZ := Lib.hid hs
  go_enter Try.func10, Try.ntmps10
  go_wp2_with fail
  rw [← hW]
  clear hW
  refine (parse_any s W HSZ.out).mono ?_
  rintro e w1 ⟨v, rfl, hv, hb1⟩
  have hr1 := Bl.old hb1 (block_lt hr) hr
  have hB1 := Bl.next hB hb1
  clear hr hB hb1
  cases hp : parseR s.data.toList with
  | none =>
    have HV := Lib.hid (pick_bad (long := long) (.inl hp))
    have r0 := two0 hr1
    have r1 := two1 hr1
    have f0 := free hr1 0
    have f1 := free hr1 1
    rw [hp] at hv
    obtain ⟨a, cap, hv⟩ := hv.shape
    rw [hv]
    have HR := Lib.hid hr1
    have HB := Lib.hid hB1
    clear hp hr1 hB1 hv
    simp only [Option.isSome]
    go_wp2_with fail
    refine bodyPost_ret (ret_span rfl _ _ w.heap.size _ _ rfl (put2 HR.out _ _)) rfl ?_
    exact ⟨by rw [HV.out]; rfl, put2_below HB.out (Nat.le_refl _) _ _⟩
  | some L =>
    have hlen := parse_len hp
    rw [hp] at hv
    have hv : Spans w1 v L := hv
    simp only [Option.isSome]
    cases hl : longB long with
    | false =>
      have HV := Lib.hid (pick_bad (l := s.data.toList) (.inr hl))
      have HL := Lib.hid hl
      have r0 := two0 hr1
      have r1 := two1 hr1
      have f0 := free hr1 0
      have f1 := free hr1 1
      obtain ⟨a, cap, hv⟩ := hv.shape
      rw [hv]
      have HR := Lib.hid hr1
      have HB := Lib.hid hB1
      clear hp hr1 hB1 hv hl
      go_wp2_with fail
      refine (long_any _ _).mono ?_
      rintro e w' ⟨rfl, rfl⟩
      rw [HL.out]
      go_wp2_with fail
      refine bodyPost_ret (ret_span rfl _ _ w.heap.size _ _ rfl (put2 HR.out _ _)) rfl ?_
      exact ⟨by rw [HV.out]; rfl, put2_below HB.out (Nat.le_refl _) _ _⟩
    | true =>
      have HV := Lib.hid (pick_good hp hl)
      have HL := Lib.hid hl
      obtain ⟨a, cap, hvv⟩ := hv.shape
      rw [hvv] at hv ⊢
      have HS := Lib.hid hv
      have HR := Lib.hid hr1
      have HB := Lib.hid hB1
      have hlt1 := block_lt hr1
      have HQ := Lib.hid (show Rp w1 (.slice none 0 0) [] w1 from ⟨OwnS.nil _ _, Below.refl _ _⟩)
      clear hp hr1 hB1 hv hl hvv
      have i32 : (L.length : Int) ≤ 32 := by omega
      go_wp2_with fail
      refine (long_any _ _).mono ?_
      rintro e w' ⟨rfl, rfl⟩
      rw [HL.out]
      go_wp2_with fail
      go_loopw [8, 28] (fun v i wr => ∃ (k : Nat), k ≤ L.length ∧ i = .int .i64 (k : Int) ∧ Rp w1 v ((L.take k).filterMap fun w => Rm.resolve w long) wr) (fun _ i _ => L.length - (intOf i).toNat)
      case atStart => exact ⟨0, Nat.zero_le _, rfl, HQ.out⟩
      case round =>
        obtain ⟨k, hk, rfl, hR⟩ := hrel
        clear HQ
        have HRp := Lib.hid hR
        clear hR
        obtain ⟨oa, oc, hv⟩ := HRp.out.own.form
        rw [hv] at HRp ⊢
        clear hv
        have hfl := fm_le L k long
        have HE := Lib.hid (show L.length ≤ k → (L.take k).filterMap (fun w => Rm.resolve w long) = L.filterMap fun w => Rm.resolve w long from fun h => by rw [List.take_of_length_le h])
        have HST := Lib.hid (fun h : k < L.length => fm_step L k h long)
        generalize (L.take k).filterMap (fun w => Rm.resolve w long) = M at HRp HE HST hfl ⊢
        by_cases hlt : k < L.length
        · obtain ⟨b, off, hbo, hblt, hc0, hc1⟩ : ∃ b off, a = some ⟨b, off, none⟩ ∧ b < w1.heap.size ∧ w1.cell? ⟨b, off + k * 2, none⟩ = some (.int .i64 L[k].1) ∧ w1.cell? ⟨b, off + k * 2 + 1, none⟩ = some (.int .i64 L[k].2) := by
            rcases HS.out with ⟨h, _⟩ | ⟨b, off, cap', he, _, _, hb, hs⟩
            · rw [h] at hlt; simp at hlt
            · injection he with e1 e2 e3
              exact ⟨b, off, e1, hb, (hs k hlt).1, (hs k hlt).2⟩
          subst hbo
          obtain ⟨x, hx⟩ : ∃ x, x = L[k].1 := ⟨_, rfl⟩
          obtain ⟨y, hy⟩ : ∃ y, y = L[k].2 := ⟨_, rfl⟩
          rw [← hx] at hc0
          rw [← hy] at hc1
          have HST2 := Lib.hid (show (L.take (k + 1)).filterMap (fun w => Rm.resolve w long) = M ++ (Rm.resolve (x, y) long).toList from by rw [HST.out hlt, hx, hy])
          have c0 := (HRp.out.bel.cell (p := ⟨b, off + k * 2, none⟩) hblt).trans hc0
          have c1 := (HRp.out.bel.cell (p := ⟨b, off + k * 2 + 1, none⟩) hblt).trans hc1
          have HR3 := Lib.hid (HRp.out.next ((Below.refl _ _).alloc (Nat.le_refl _) (.cells #[.int .i64 x, .int .i64 y] 23)))
          clear hx hy hc0 hc1 HST HRp
          go_wp2_with fail
          refine (resolve_any x y long _).mono ?_
          rintro e w5 ⟨rfl, hb5⟩
          have HR5 := Lib.hid (HR3.out.next hb5)
          clear hb5 HR3 c0 c1
          cases ho : Rm.resolve (x, y) long with
          | none =>
            have HN := Lib.hid (show (L.take (k + 1)).filterMap (fun w => Rm.resolve w long) = M from by rw [HST2.out, ho]; simp)
            have HR6 := Lib.hid (HR5.out.next ((Below.refl _ _).alloc (Nat.le_refl _) (.cells #[.int .i64 0, .int .i64 0] 31)))
            clear ho
            unfold resV SV
            go_wp2_with fail
            go_roundw
            case rel => exact ⟨k + 1, by omega, by go_num, by rw [HN.out]; exact HR6.out⟩
            case measure => simp [intOf]; omega
          | some q =>
            obtain ⟨qx, qy⟩ := q
            have HN := Lib.hid (show (L.take (k + 1)).filterMap (fun w => Rm.resolve w long) = M ++ [(qx, qy)] from by rw [HST2.out, ho]; simp)
            have HR7 := Lib.hid ((HR5.out.next ((Below.refl _ _).alloc (Nat.le_refl _) (.cells #[.int .i64 qx, .int .i64 qy] 31))).next ((Below.refl _ _).alloc (Nat.le_refl _) (.cells #[.int .i64 qx, .int .i64 qy] 31)))
            have HX7 := Lib.hid (show Spans ((w5.alloc (.cells #[.int .i64 qx, .int .i64 qy] 31)).alloc (.cells #[.int .i64 qx, .int .i64 qy] 31)) (.slice (some ⟨w5.heap.size + 1, 0, none⟩) 1 1) [(qx, qy)] from
              SAt.spans (l := [(qx, qy)]) (two_at (s := (qx, qy)) (new_block' _ _ (by simp))) rfl (Nat.le_refl _) (by omega) (by simp))
            have hs7 := HR7.out.bel.size
            clear ho HR5
            unfold resV SV
            go_wp2_with (at_builtin; refine wpList_append_spans _ rfl _ _ rfl w1.heap.size (.slice oa M.length oc) _ M [(qx, qy)] rfl rfl hs7 HR7.out.own HX7.out (by simp only [List.length_cons, List.length_nil]; omega) ?_; intro v' w8 happ; have HAP := Lib.hid happ; have hB8 := HR7.out.bel.grown happ.2.1 hs7 (fun k hk => (World.ownsRow.lt HR7.out.own k hk).1); clear happ)
            go_roundw
            case rel => exact ⟨k + 1, by omega, by go_num, by rw [HN.out]; exact ⟨HAP.out.1, hB8⟩⟩
            case measure => simp [intOf]; omega
        · replace HV := Lib.hid (show Rm.pick s.data.toList long = pickL M from by rw [HV.out, ← HE.out (by omega)])
          have hr2 := Bl.old HRp.out.bel hlt1 HR.out
          have HB2 := Lib.hid (Bl.next HB.out HRp.out.bel)
          have r0 := two0 hr2
          have r1 := two1 hr2
          have f0 := free hr2 0
          have f1 := free hr2 1
          have HR2 := Lib.hid hr2
          clear hr2
          match M, HV, HRp with
          | [], HV, HRp =>
            go_wp2_with fail
            refine bodyPost_ret (ret_span rfl _ _ w.heap.size _ _ rfl (put2 HR2.out _ _)) rfl ?_
            exact ⟨by rw [HV.out]; rfl, put2_below HB2.out (Nat.le_refl _) _ _⟩
          | [(px, py)], HV, HRp =>
            obtain ⟨g, hg, d0, d1⟩ : ∃ g, oa = some ⟨g, 0, none⟩ ∧ wr.cell? ⟨g, 0, none⟩ = some (.int .i64 px) ∧ wr.cell? ⟨g, 1, none⟩ = some (.int .i64 py) := by
              have h := HRp.out.own
              rcases h.2 with ⟨hv, h0⟩ | ⟨g, cap, cur, hv, _⟩
              · simp at h0
              · injection hv with e1 e2 e3
                subst e1
                have h2 := OwnS.at h 0 (by simp)
                exact ⟨g, rfl, by simpa using h2.1, by simpa using h2.2⟩
            subst hg
            simp only [List.length_cons, List.length_nil, Nat.zero_add]
            go_wp2_with fail
            refine bodyPost_ret (ret_span rfl _ _ w.heap.size _ _ rfl (put2 HR2.out _ _)) rfl ?_
            exact ⟨by rw [HV.out]; rfl, put2_below HB2.out (Nat.le_refl _) _ _⟩
          | p :: q :: T, HV, HRp =>
            obtain ⟨N, hN⟩ : ∃ N, (p :: q :: T).length = N := ⟨_, rfl⟩
            have h2 : 2 ≤ N := by rw [← hN]; simp
            rw [hN]
            have n0 : ((N : Int) == 0) = false := by rw [beq_eq_false_iff_ne]; omega
            have n1 : ((N : Int) == 1) = false := by rw [beq_eq_false_iff_ne]; omega
            clear hN HRp hfl HST
            go_wp2_with fail
            refine bodyPost_ret (ret_span rfl _ _ w.heap.size _ _ rfl (put2 HR2.out _ _)) rfl ?_
            exact ⟨by rw [HV.out]; rfl, put2_below HB2.out (Nat.le_refl _) _ _⟩
end Go.Proofs.Ythhnpdihgoiccaa.Rn
