/-
  token.Quote: what it returns. Condition: a text of at most 2^32 bytes.
-/
import Derived.Test.YthccojahaadjoaaDoorTokUnquote
namespace Go.Proofs.YthccojahaadjoaaDoor.Tk
open Go.RowKit

/-- What a call of Quote answers: the quoted text, or nothing and false. -/
def quoteVal (l : Bs) : Value := match quoteOf l with | none => .tuple #[.string ⟨#[]⟩, .bool false] | some q => .tuple #[.string ⟨q.toArray⟩, .bool true]
theorem quote_no (s : ByteArray) (k : Nat) (h : k < s.size) (hd : textByte s[k] = false) : quoteVal s.data.toList = .tuple #[.string ⟨#[]⟩, .bool false] := by
  unfold quoteVal quoteOf; rw [not_all textByte s k h hd]; rfl
theorem quote_yes (s : ByteArray) (ha : (s.data.toList.take s.size).all textByte = true) : quoteVal s.data.toList = .tuple #[.string ⟨(34 :: (s.data.toList.flatMap esc ++ [34])).toArray⟩, .bool true] := by
  unfold quoteVal quoteOf; rw [all_of_take ha]; rfl
/-- What the loop has written: the quote, and the first k bytes. -/
def soFar (s : ByteArray) (k : Nat) : Bs := 34 :: (s.data.toList.take k).flatMap esc
theorem soFar_length (s : ByteArray) (k : Nat) : (soFar s k).length ≤ 2 * k + 1 := by
  have h := esc_length (s.data.toList.take k)
  have h2 : (s.data.toList.take k).length ≤ k := List.length_take_le _ _
  unfold soFar; rw [List.length_cons]; omega
theorem soFar_two (s : ByteArray) (k : Nat) (hk : k < s.size) (h : s[k] = 34 ∨ s[k] = 92) : soFar s (k + 1) = soFar s k ++ [92] ++ [s[k]] := by
  unfold soFar; rw [esc_snoc s k hk]; unfold esc; rw [if_pos h]; simp
theorem soFar_one (s : ByteArray) (k : Nat) (hk : k < s.size) (h : ¬ (s[k] = 34 ∨ s[k] = 92)) : soFar s (k + 1) = soFar s k ++ [s[k]] := by
  unfold soFar; rw [esc_snoc s k hk]; unfold esc; rw [if_neg h]; simp
theorem soFar_all (s : ByteArray) : soFar s s.size ++ [34] = 34 :: (s.data.toList.flatMap esc ++ [34]) := by
  unfold soFar; rw [List.take_of_length_le (by simp)]; simp
theorem snoc_length (l : Bs) (c : UInt8) : (l ++ [c]).length = l.length + 1 := by simp
theorem owns_slice {w : World} {base : Nat} {v : Value} {l : Bs} {t : TypeId} (h : w.ownsRow base t 1 v l.length (B8 l)) : ∃ a c, v = .slice a l.length c := by
  rcases owns_holds h with ⟨h, h2⟩ | ⟨g, cap, h, _⟩
  · exact ⟨none, 0, by rw [h, h2]; rfl⟩
  · exact ⟨_, _, h⟩

set_option maxHeartbeats 4000000 in
theorem quote_any (s : ByteArray) (w : World) (hs : s.size ≤ 4294967296) :
    Calls Tryd.prog 19 #[.string s] w fun e w' => e = .returned (quoteVal s.data.toList) ∧ Below w.heap.size w w' := by
  obtain ⟨i0, hi, hz0, hz1, hz2⟩ := info_parts infoByte
  have hmk := run_make (P := Tryd.prog) w 36 5 i0 (.int .u8 0) Tryd.underlying36 hi hz0 .i64 .i64 0 ((s.size : Int) + 2) (by omega) (by omega) (by rw [hz2]; omega) (by omega)
  rw [hz1, Nat.mul_one, show ((0 : Int)).toNat = 0 from rfl, show ((s.size : Int) + 2).toNat = s.size + 2 from by omega] at hmk
  obtain ⟨M, hM⟩ : ∃ M, M = madeCells (Value.int .u8 0).cells (s.size + 2) := ⟨_, rfl⟩
  have hMs : M.size = (s.size + 2) * 1 := by rw [hM, size_madeCells]; omega
  rw [← hM] at hmk
  have hown := World.ownsRow_made (base := w.heap.size) (e := 5) w M (s.size + 2) (Nat.le_refl _) (by unfold maxLen; omega) hMs
  have hB0 := (Below.refl w.heap.size w).alloc (Nat.le_refl _) (.cells M 5)
  clear hM hMs
  go_enter Tryd.func19, Tryd.ntmps19
  go_wp2_with (at_builtin; refine wpList_append_own _ rfl _ _ 36 rfl w.heap.size 5 i0 (.int .u8 0) 1 1 Tryd.underlying36 hi hz0 hz1 hz2 rfl (by decide) _ _ _ rfl (hown.alloc _) ⟨w.heap.size + 1, 0, none⟩ 1 1 [.int .u8 34] rfl rfl ?a1 ?a2 ?a3 ?a4 ?a5 ?_)
  case a1 =>
    intro j u hj
    match j, hj with
    | 0, hj => simp at hj; subst hj; simp [Addr.add]
  case a2 => intro u hu; simp at hu; subst hu; rfl
  case a3 => unfold maxLen; first | omega | (simp only [List.length_append, List.length_cons, List.length_nil]; omega)
  case a4 => first | omega | (simp only [List.length_append, List.length_cons, List.length_nil]; omega)
  case a5 => simp; omega
  intro v1 w1 hown1 hgrow1 _
  have hb1 : Below w.heap.size w w1 := (hB0.alloc (by simp) _).grown hgrow1 (by simp; omega) (fun k hk => (hown.lt k hk).1)
  have HO1 := Lib.hid (show w1.ownsRow w.heap.size 5 1 v1 (soFar s 0).length (B8 (soFar s 0)) from by
    have e : soFar s 0 = [34] := by simp [soFar]
    rw [e]; simpa [B8] using hown1)
  clear hown hown1 hgrow1 hB0 hmk
  go_wp2_with fail
  go_loopw [4, 14] (fun v i wr => ∃ k : Nat, k ≤ s.size ∧ i = .int .i64 (k : Int) ∧ wr.ownsRow w.heap.size 5 1 v (soFar s k).length (B8 (soFar s k)) ∧ Below w.heap.size w wr ∧ (s.data.toList.take k).all textByte = true) (fun _ i _ => s.size - (intOf i).toNat)
  case atStart => exact ⟨0, Nat.zero_le _, rfl, HO1.out, hb1, rfl⟩
  case round =>
    obtain ⟨k, hk, rfl, hown, hb, hal⟩ := hrel
    have HAL := Lib.hid hal
    have hsz := hb.size
    have hfl := soFar_length s k
    clear hal HO1 hb1
    by_cases hlt : k < s.size
    · cases ht : textByte s[k] with
      | false =>
        have HN := Lib.hid (quote_no s k hlt ht)
        have HT := Lib.hid ht
        clear ht
        go_wp2_with (go_at_call 24; refine (textByte_any _ _).mono ?_; rintro e w' ⟨rfl, rfl⟩; rw [HT.out])
        go_ret2
        exact ⟨by rw [HN.out]; rfl, hb⟩
      | true =>
        have HA := Lib.hid (show (s.data.toList.take (k + 1)).all textByte = true from by rw [all_snoc textByte s k hlt, HAL.out, ht]; rfl)
        have HT := Lib.hid ht
        clear ht
        by_cases hq : s[k] = 34 ∨ s[k] = 92
        · have HF := Lib.hid (soFar_two s k hlt hq)
          rcases hq with hq | hq
          · have u1 := is34 hq
            clear hq
            go_wp2_with (first | (go_at_call 24; refine (textByte_any _ _).mono ?_; rintro e w' ⟨rfl, rfl⟩; rw [HT.out]) | (at_builtin; refine wpList_append_own _ rfl _ _ 36 rfl w.heap.size 5 i0 (.int .u8 0) 1 1 Tryd.underlying36 hi hz0 hz1 hz2 rfl (by decide) _ _ _ rfl (hown.alloc _) ⟨wr.heap.size, 0, none⟩ 1 1 [.int .u8 92] rfl rfl ?c1 ?c2 ?c3 ?c4 ?c5 ?_))
            case c1 =>
              intro j u hj
              match j, hj with
              | 0, hj => simp at hj; subst hj; simp [Addr.add]
            case c2 => intro u hu; simp at hu; subst hu; rfl
            case c3 => unfold maxLen; first | omega | (simp only [List.length_append, List.length_cons, List.length_nil]; omega)
            case c4 => first | omega | (simp only [List.length_append, List.length_cons, List.length_nil]; omega)
            case c5 => simp; omega
            intro v2 w2 hown2 hgrow2 _
            have hb2 := grown_step (c := 92) hb hown hgrow2
            have hown2' := owns_snoc (c := 92) hown2
            have hsz2 := hb2.size
            clear hown hown2 hgrow2
            go_wp2_with (at_builtin; refine wpList_append_own _ rfl _ _ 36 rfl w.heap.size 5 i0 (.int .u8 0) 1 1 Tryd.underlying36 hi hz0 hz1 hz2 rfl (by decide) _ _ _ rfl (hown2'.alloc _) ⟨w2.heap.size, 0, none⟩ 1 1 [.int .u8 (s[k].toNat : Int)] rfl rfl ?d1 ?d2 ?d3 ?d4 ?d5 ?_)
            case d1 =>
              intro j u hj
              match j, hj with
              | 0, hj => simp at hj; subst hj; simp [Addr.add]
            case d2 => intro u hu; simp at hu; subst hu; rfl
            case d3 => unfold maxLen; first | omega | (simp only [List.length_append, List.length_cons, List.length_nil]; omega)
            case d4 => first | omega | (simp only [List.length_append, List.length_cons, List.length_nil]; omega)
            case d5 => simp; omega
            intro v3 w3 hown3 hgrow3 _
            have hb3 := grown_step hb2 hown2' hgrow3
            have HO := Lib.hid (owns_snoc (acc := soFar s k ++ [92]) (by rw [List.length_append]; exact hown3))
            clear hown2' hown3 hgrow3
            go_wp2_with fail
            go_roundw
            case rel => exact ⟨k + 1, by omega, by go_num, by rw [HF.out]; exact HO.out, hb3, HA.out⟩
            case measure => simp [intOf]; omega
          · have u1 := no34 (c := s[k]) (by rw [hq]; decide)
            have u2 := is92 hq
            clear hq
            go_wp2_with (first | (go_at_call 24; refine (textByte_any _ _).mono ?_; rintro e w' ⟨rfl, rfl⟩; rw [HT.out]) | (at_builtin; refine wpList_append_own _ rfl _ _ 36 rfl w.heap.size 5 i0 (.int .u8 0) 1 1 Tryd.underlying36 hi hz0 hz1 hz2 rfl (by decide) _ _ _ rfl (hown.alloc _) ⟨wr.heap.size, 0, none⟩ 1 1 [.int .u8 92] rfl rfl ?e1 ?e2 ?e3 ?e4 ?e5 ?_))
            case e1 =>
              intro j u hj
              match j, hj with
              | 0, hj => simp at hj; subst hj; simp [Addr.add]
            case e2 => intro u hu; simp at hu; subst hu; rfl
            case e3 => unfold maxLen; first | omega | (simp only [List.length_append, List.length_cons, List.length_nil]; omega)
            case e4 => first | omega | (simp only [List.length_append, List.length_cons, List.length_nil]; omega)
            case e5 => simp; omega
            intro v2 w2 hown2 hgrow2 _
            have hb2 := grown_step (c := 92) hb hown hgrow2
            have hown2' := owns_snoc (c := 92) hown2
            have hsz2 := hb2.size
            clear hown hown2 hgrow2
            go_wp2_with (at_builtin; refine wpList_append_own _ rfl _ _ 36 rfl w.heap.size 5 i0 (.int .u8 0) 1 1 Tryd.underlying36 hi hz0 hz1 hz2 rfl (by decide) _ _ _ rfl (hown2'.alloc _) ⟨w2.heap.size, 0, none⟩ 1 1 [.int .u8 (s[k].toNat : Int)] rfl rfl ?f1 ?f2 ?f3 ?f4 ?f5 ?_)
            case f1 =>
              intro j u hj
              match j, hj with
              | 0, hj => simp at hj; subst hj; simp [Addr.add]
            case f2 => intro u hu; simp at hu; subst hu; rfl
            case f3 => unfold maxLen; first | omega | (simp only [List.length_append, List.length_cons, List.length_nil]; omega)
            case f4 => first | omega | (simp only [List.length_append, List.length_cons, List.length_nil]; omega)
            case f5 => simp; omega
            intro v3 w3 hown3 hgrow3 _
            have hb3 := grown_step hb2 hown2' hgrow3
            have HO := Lib.hid (owns_snoc (acc := soFar s k ++ [92]) (by rw [List.length_append]; exact hown3))
            clear hown2' hown3 hgrow3
            go_wp2_with fail
            go_roundw
            case rel => exact ⟨k + 1, by omega, by go_num, by rw [HF.out]; exact HO.out, hb3, HA.out⟩
            case measure => simp [intOf]; omega
        · have HF := Lib.hid (soFar_one s k hlt hq)
          have u1 := no34 (c := s[k]) (fun h => hq (.inl h))
          have u2 := no92 (c := s[k]) (fun h => hq (.inr h))
          clear hq
          go_wp2_with (first | (go_at_call 24; refine (textByte_any _ _).mono ?_; rintro e w' ⟨rfl, rfl⟩; rw [HT.out]) | (at_builtin; refine wpList_append_own _ rfl _ _ 36 rfl w.heap.size 5 i0 (.int .u8 0) 1 1 Tryd.underlying36 hi hz0 hz1 hz2 rfl (by decide) _ _ _ rfl (hown.alloc _) ⟨wr.heap.size, 0, none⟩ 1 1 [.int .u8 (s[k].toNat : Int)] rfl rfl ?g1 ?g2 ?g3 ?g4 ?g5 ?_))
          case g1 =>
            intro j u hj
            match j, hj with
            | 0, hj => simp at hj; subst hj; simp [Addr.add]
          case g2 => intro u hu; simp at hu; subst hu; rfl
          case g3 => unfold maxLen; first | omega | (simp only [List.length_append, List.length_cons, List.length_nil]; omega)
          case g4 => first | omega | (simp only [List.length_append, List.length_cons, List.length_nil]; omega)
          case g5 => simp; omega
          intro v2 w2 hown2 hgrow2 _
          have hb2 := grown_step hb hown hgrow2
          have HO := Lib.hid (owns_snoc hown2)
          clear hown hown2 hgrow2
          go_wp2_with fail
          go_roundw
          case rel => exact ⟨k + 1, by omega, by go_num, by rw [HF.out]; exact HO.out, hb2, HA.out⟩
          case measure => simp [intOf]; omega
    · obtain rfl : k = s.size := by omega
      have HY := Lib.hid (quote_yes s HAL.out)
      rw [← soFar_all s] at HY
      go_wp2_with (at_builtin; refine wpList_append_own _ rfl _ _ 36 rfl w.heap.size 5 i0 (.int .u8 0) 1 1 Tryd.underlying36 hi hz0 hz1 hz2 rfl (by decide) _ _ _ rfl (hown.alloc _) ⟨wr.heap.size, 0, none⟩ 1 1 [.int .u8 34] rfl rfl ?h1 ?h2 ?h3 ?h4 ?h5 ?_)
      case h1 =>
        intro j u hj
        match j, hj with
        | 0, hj => simp at hj; subst hj; simp [Addr.add]
      case h2 => intro u hu; simp at hu; subst hu; rfl
      case h3 => unfold maxLen; first | omega | (simp only [List.length_append, List.length_cons, List.length_nil]; omega)
      case h4 => first | omega | (simp only [List.length_append, List.length_cons, List.length_nil]; omega)
      case h5 => simp; omega
      intro v2 w2 hown2 hgrow2 _
      have hb2 := grown_step (c := 34) hb hown hgrow2
      have hown2' := owns_snoc (c := 34) hown2
      have hback := run_own_back hown2'
      obtain ⟨a, c, hv⟩ := owns_slice hown2'
      rw [snoc_length] at hv
      rw [hv]
      rw [hv] at hback
      clear hv hown hown2 hown2' hgrow2 hfl
      go_wp2_with fail
      go_ret2
      exact ⟨by rw [HY.out]; rfl, hb2⟩
end Go.Proofs.YthccojahaadjoaaDoor.Tk
