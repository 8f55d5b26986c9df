/-
  Texts that the laws' proofs stand on, 3 of them in one file; each one's head says what it proves and under which condition.
-/
import Derived.Test.YtjbdgndejbiikaaDoorSgBP19
import Derived.Test.YtjbdgndejbiikaaDoorRows
import Derived.Test.YtjbdgndejbiikaaDoorSgBP1
import Derived.Test.YtjbdgndejbiikaaDoorSgBP7
import Derived.WalkKit
import Derived.WalkLawsBesides
import Derived.Outline
import Derived.Lib.Hide
import Derived.Test.YtjbdgndejbiikaaDoorSgBP2
/-
  strings.Cut at "=": what it returns. Condition: a text of at most 2^47 bytes.
-/
namespace Go.Proofs.YtjbdgndejbiikaaDoor.Tk
open Go.RowKit

theorem cut_any (s : ByteArray) (w : World) (hs : s.size ≤ maxLen) :
    Calls Tryd.prog 59 #[.string s, .string ⟨#[61]⟩] w fun e w' => e = .returned (cutVal s) ∧ ∃ n, w' = w.drewN n := by
  obtain ⟨a, b, c, hv⟩ : ∃ a b c, cutVal s = .tuple #[.string a, .string b, .bool c] := by
    unfold cutVal; split
    · exact ⟨_, _, _, rfl⟩
    · exact ⟨_, _, _, rfl⟩
  have HV := Lib.hid hv
  clear hv
  go_enter Tryd.func59, Tryd.ntmps59
  go_wp2_with fail
  refine (cutLite_any s _ hs).mono ?_
  rintro e w' ⟨rfl, n, hw⟩
  have HW := Lib.hid hw
  clear hw
  rw [HV.out]
  go_wp2_with fail
  go_ret3
  exact ⟨by rw [HV.out]; rfl, n, HW.out⟩
end Go.Proofs.YtjbdgndejbiikaaDoor.Tk
/-
  token.quoteEnd, the closure of token.Split that ends an element, and token.Split: what each returns. Condition: a text of at most 2^32 bytes.
-/
namespace Go.Proofs.YtjbdgndejbiikaaDoor.Tk
open Go.RowKit

/-- Where the quoted text that begins at a place ends; -1: nowhere. -/
def qEnd (l : Bs) (beg : Nat) : Int := match qe (l.drop (beg + 1)) with | none => -1 | some m => (beg : Int) + (m : Int)
theorem qEnd_none {l : Bs} {beg : Nat} (h : qe (l.drop (beg + 1)) = none) : qEnd l beg = -1 := by unfold qEnd; rw [h]
theorem qEnd_some {l : Bs} {beg m : Nat} (h : qe (l.drop (beg + 1)) = some m) : qEnd l beg = (beg : Int) + (m : Int) := by unfold qEnd; rw [h]
theorem qe_at_back (l : Bs) (i : Nat) (hi : i < l.length) (hc : l[i] = 92) : qe (l.drop i) = (qe (l.drop (i + 2))).map (· + 2) := by
  rw [drop_at l i hi, hc, qe_back, List.drop_drop]
theorem qe_at_other (l : Bs) (i : Nat) (hi : i < l.length) (h1 : l[i] ≠ 34) (h2 : l[i] ≠ 92) : qe (l.drop i) = (qe (l.drop (i + 1))).map (· + 1) := by
  rw [drop_at l i hi, qe_other _ h1 h2]
theorem qe_at_end (l : Bs) (i : Nat) (hi : i < l.length) (hc : l[i] = 34) : qe (l.drop i) = some 1 := by
  rw [drop_at l i hi, hc, qe_end]
theorem map_add (o : Option Nat) (a b : Nat) : (o.map (· + a)).map (· + b) = o.map (· + (a + b)) := by
  cases o <;> simp [Nat.add_assoc]
theorem byte_eq {c : UInt8} {n : Nat} (hn : n < 256) (h : c = UInt8.ofNat n) : ((c.toNat : Int) == (n : Int)) = true := by
  rw [h]; simp [Nat.mod_eq_of_lt hn]
theorem byte_ne {c : UInt8} {n : Nat} (hn : n < 256) (h : c ≠ UInt8.ofNat n) : ((c.toNat : Int) == (n : Int)) = false := by
  rw [beq_eq_false_iff_ne]; intro e; apply h; apply UInt8.toNat.inj; simp [Nat.mod_eq_of_lt hn]; omega
theorem is44 {c : UInt8} (h : c = 44) : ((c.toNat : Int) == 44) = true := byte_eq (n := 44) (by omega) h
theorem no44 {c : UInt8} (h : c ≠ 44) : ((c.toNat : Int) == 44) = false := byte_ne (n := 44) (by omega) h
theorem is34 {c : UInt8} (h : c = 34) : ((c.toNat : Int) == 34) = true := byte_eq (n := 34) (by omega) h
theorem no34 {c : UInt8} (h : c ≠ 34) : ((c.toNat : Int) == 34) = false := byte_ne (n := 34) (by omega) h
theorem is92 {c : UInt8} (h : c = 92) : ((c.toNat : Int) == 92) = true := byte_eq (n := 92) (by omega) h
theorem no92 {c : UInt8} (h : c ≠ 92) : ((c.toNat : Int) == 92) = false := byte_ne (n := 92) (by omega) h

set_option maxHeartbeats 1000000 in
theorem quoteEnd_any (b off n cap beg : Nat) (l : Bs) (w : World) (hn : l.length = n) (hl : n ≤ 4294967296) (hb : beg < n) (hc : Holds w b off l) :
    Calls Tryd.prog 47 #[.slice (some ⟨b, off, none⟩) n cap, .int .i64 (beg : Int)] w fun e w' => e = .returned (.int .i64 (qEnd l beg)) ∧ w = w' := by
  subst hn
  have HC := Lib.hid hc
  clear hc
  go_enter Tryd.func47, Tryd.ntmps47
  go_wp2_with fail
  go_loop [5] (fun v => ∃ i : Nat, beg + 1 ≤ i ∧ i ≤ l.length + 1 ∧ v = .int .i64 (i : Int) ∧ qe (l.drop (beg + 1)) = (qe (l.drop i)).map (· + (i - (beg + 1)))) (fun v => l.length + 2 - (intOf v).toNat)
  case atStart => exact ⟨beg + 1, Nat.le_refl _, by omega, by go_num, by simp⟩
  case round =>
    obtain ⟨i, hi1, hi2, rfl, hrel⟩ := hrel
    have HR := Lib.hid hrel
    clear hrel
    by_cases hlt : i < l.length
    · have hcell := HC.out i hlt
      by_cases h92 : l[i] = 92
      · have t1 := is92 h92
        have HR2 := Lib.hid (show qe (l.drop (beg + 1)) = (qe (l.drop (i + 2))).map (· + (i + 2 - (beg + 1))) from by
          rw [HR.out, qe_at_back l i hlt h92, map_add]; congr 2; funext x; omega)
        clear h92
        go_wp2_with fail
        go_round
        case rel => exact ⟨i + 2, by omega, by omega, by go_num, HR2.out⟩
        case measure => simp [intOf]; omega
      · have t1 := no92 h92
        by_cases h34 : l[i] = 34
        · have t2 := is34 h34
          have HV := Lib.hid (show qEnd l beg = (i : Int) from by
            rw [qEnd_some (m := i - beg) (by rw [HR.out, qe_at_end l i hlt h34]; simp; omega)]; omega)
          clear h92 h34
          go_wp2_with fail
          go_ret
          exact ⟨by rw [HV.out]; rfl, rfl⟩
        · have t2 := no34 h34
          have HR2 := Lib.hid (show qe (l.drop (beg + 1)) = (qe (l.drop (i + 1))).map (· + (i + 1 - (beg + 1))) from by
            rw [HR.out, qe_at_other l i hlt h34 h92, map_add]; congr 2; funext x; omega)
          clear h92 h34
          go_wp2_with fail
          go_round
          case rel => exact ⟨i + 1, by omega, by omega, by go_num, HR2.out⟩
          case measure => simp [intOf]; omega
    · have HV := Lib.hid (show qEnd l beg = -1 from by
        apply qEnd_none
        rw [HR.out, List.drop_eq_nil_of_le (by omega)]; rfl)
      go_wp2_with fail
      go_ret
      exact ⟨by rw [HV.out]; rfl, rfl⟩

/-- A text as the model has it. -/
def S (x : Bs) : Value := .string ⟨x.toArray⟩
/-- What the variables of token.Split hold: the text, the list so far, where the element begins. B: the block of the text's bytes. -/
structure Inv (w0 : World) (B : Nat) (l : Bs) (cap fr : Nat) (ls : List Bs) (C : Array Value) (w : World) : Prop where
  base : B = w0.heap.size
  text : w.heap[B]? = some (.cells C 5 (C.size, C.size + 1))
  bytes : ∀ j (hj : j < l.length), C[j]? = some (.int .u8 (l[j].toNat : Int))
  room : l.length ≤ cap
  vText : w.heap[B + 1]? = some (.cells #[.slice (some ⟨B, 0, none⟩) l.length cap] 77 (0, 0))
  vFrom : w.heap[B + 3]? = some (.cells #[.int .i64 (fr : Int)] 3 (0, 0))
  list : ∃ v, w.heap[B + 2]? = some (.cells #[v] 40 (0, 0)) ∧ w.ownsRow (B + 4) 9 1 v ls.length (ls.map S)
  few : ls.length ≤ fr
  below : Below B w0 w
theorem Inv.holds {w0 w : World} {B cap fr : Nat} {l : Bs} {ls : List Bs} {C : Array Value} (h : Inv w0 B l cap fr ls C w) : Holds w B 0 l := by
  intro j hj
  rw [Nat.zero_add]
  have : w.cell? ⟨B, j, none⟩ = C[j]? := by simp [World.cell?, h.text]
  rw [this, h.bytes j hj]
end Go.Proofs.YtjbdgndejbiikaaDoor.Tk
/-
  token.unquote and gatepostref01.text, unquote: what each returns. Condition: a text of at most 2^47 bytes.
-/
-- cut by strips.py
namespace Go.Proofs.YtjbdgndejbiikaaDoor.Tk
open Go.RowKit
set_option maxRecDepth 100000

theorem bne34 {c : UInt8} (h : c ≠ 34) : ((c.toNat : Int) != 34) = true := by
  rw [bne_iff_ne]; intro e; apply h; apply UInt8.toNat.inj; simpa using (by omega : c.toNat = 34)
theorem beq34 {c : UInt8} (h : c = 34) : ((c.toNat : Int) != 34) = false := by rw [h]; rfl
theorem bytes_ext' {t : ByteArray} {l : Bs} (h : t.data.toList = l) : t = ⟨l.toArray⟩ := by subst h; cases t; rfl
/-- The bytes of a row that is the call's own, as cells. -/
def B8 (l : Bs) : List Value := l.map fun b => Value.int .u8 (b.toNat : Int)
theorem B8_length (l : Bs) : (B8 l).length = l.length := by simp [B8]
theorem owns_holds {w : World} {base : Nat} {v : Value} {l : Bs} {t : TypeId} (h : w.ownsRow base t 1 v l.length (B8 l)) : v = .slice none 0 0 ∧ l = [] ∨ ∃ g cap, v = .slice (some ⟨g, 0, none⟩) l.length cap ∧ Holds w g 0 l := by
  rcases h.2 with ⟨hv, h0⟩ | ⟨g, cap, cur, hv, _⟩
  · exact .inl ⟨hv, List.length_eq_zero_iff.1 h0⟩
  · refine .inr ⟨g, cap, hv, fun j hj => ?_⟩
    rw [hv] at h
    rw [Nat.zero_add, h.cellAt j (by omega)]
    simp [B8, hj]
theorem run_nil_back (w : World) : (convert 77 9 (.slice none 0 0)).run Tryd.prog w = .ok (.string ⟨#[]⟩) w :=
  run_convert_bytes_nil w 77 5 Tryd.underlying77 Tryd.underlying5 0 0 9 Tryd.underlying9
/-- 'string(b)' of a row that is the call's own. -/
theorem run_own_back {w : World} {base : Nat} {v : Value} {l : Bs} {t : TypeId} (h : w.ownsRow base t 1 v l.length (B8 l)) : (convert 77 9 v).run Tryd.prog w = .ok (.string ⟨l.toArray⟩) w := by
  rcases owns_holds h with ⟨rfl, rfl⟩ | ⟨g, cap, rfl, hh⟩
  · exact run_nil_back w
  · exact run_back (P := Tryd.prog) w 77 9 5 g 0 cap l Tryd.underlying77 Tryd.underlying5 Tryd.underlying9 hh

theorem grown_step {w wr w1 : World} {v : Value} {acc : Bs} {c : UInt8} {t : TypeId} (hb : Below w.heap.size w wr) (hown : wr.ownsRow w.heap.size t 1 v acc.length (B8 acc))
    (hg : (wr.alloc (.cells #[.int .u8 (c.toNat : Int)] t)).grownBy w1 v.ownBlock) : Below w.heap.size w w1 :=
  (hb.alloc hb.size _).grown hg (by rw [World.size_alloc]; have := hb.size; omega) (fun k hk => (hown.lt k hk).1)
theorem owns_snoc {w1 : World} {base : Nat} {v' : Value} {acc : Bs} {c : UInt8} {t : TypeId} (h : w1.ownsRow base t 1 v' (acc.length + 1) (B8 acc ++ [.int .u8 (c.toNat : Int)])) : w1.ownsRow base t 1 v' (acc ++ [c]).length (B8 (acc ++ [c])) := by
  have e : B8 (acc ++ [c]) = B8 acc ++ [.int .u8 (c.toNat : Int)] := by simp [B8]
  rw [e, List.length_append]; exact h

/-- What a call of unquote answers: what the quoted text says, or nothing and false. -/
def UnqPost (l : Bs) (w : World) (e : Ending) (w' : World) : Prop :=
  Below w.heap.size w w' ∧ ((unq l = none ∧ e = .returned (.tuple #[.string ⟨#[]⟩, .bool false])) ∨ ∃ u, unq l = some u ∧ e = .returned (.tuple #[.string ⟨u.toArray⟩, .bool true]))

set_option maxHeartbeats 4000000 in
theorem unquote_any (s : ByteArray) (w : World) (hs : s.size ≤ 140737488351232) :
    Calls Tryd.prog 60 #[.string s] w (UnqPost s.data.toList w) := by
  have hlen : s.data.toList.length = s.size := by simp
  by_cases h1 : s.size ≤ 1
  · have HN := Lib.hid (unq_short s.data.toList (by omega))
    have t1 : (s.size : Int) - 1 < 1 := by omega
    clear hlen
    go_enter Tryd.func60, Tryd.ntmps60
    go_wp2_with fail
    go_ret2
    exact ⟨Below.refl _ _, .inl ⟨HN.out, rfl⟩⟩
  · have t1 : ¬ (s.size : Int) - 1 < 1 := by omega
    have hp : 0 < s.size := by omega
    by_cases h0 : s[0] = 34
    · have t2 := beq34 h0
      have HST := Lib.hid (Rest.start (l := s.data.toList) (by omega) h0)
      obtain ⟨n, hn⟩ : ∃ n : Nat, s.size = n + 1 := ⟨s.size - 1, by omega⟩
      have hnl : n < s.size := by omega
      have hn1 : 1 ≤ n := by omega
      have hlast : (s.size : Int) - 1 = (n : Int) := by omega
      have hd1 : decide ((n : Int) < 1) = false := by rw [decide_eq_false_iff_not]; omega
      by_cases hq : s[n] = 34
      · have t3 := beq34 hq
        have HQ := Lib.hid hq
        obtain ⟨i0, hi, hz0, hz1, hz2⟩ := info_parts infoByte
        have HLEN := Lib.hid (show s.data.toList.length = n + 1 from by omega)
        have hmk := run_make (P := Tryd.prog) w 77 5 i0 (.int .u8 0) Tryd.underlying77 hi hz0 .i64 .i64 0 ((n : Int) - 1) (by omega) (by omega) (by rw [hz2]; omega) (by omega)
        rw [hz1, Nat.mul_one] at hmk
        have e0 : ((0 : Int)).toNat = 0 := rfl
        have e1 : ((n : Int) - 1).toNat = n - 1 := by omega
        rw [e0, e1] at hmk
        obtain ⟨M, hM⟩ : ∃ M, M = madeCells (Value.int .u8 0).cells (n - 1) := ⟨_, rfl⟩
        have hMs : M.size = (n - 1) * 1 := by rw [hM, size_madeCells]; omega
        rw [← hM] at hmk
        have HOWN := Lib.hid (World.ownsRow_made (base := w.heap.size) (e := 5) w M (n - 1) (Nat.le_refl _) (by unfold maxLen; omega) hMs)
        have hB0 := (Below.refl w.heap.size w).alloc (Nat.le_refl _) (.cells M 5)
        have HB0 := Lib.hid hB0
        clear h0 hq hlen hM hMs h1 e0 e1 hn hB0
        go_enter Tryd.func60, Tryd.ntmps60
        go_wp2_with fail
        go_loopw [5, 6] (fun v i wr => ∃ (k : Nat) (acc : Bs), 1 ≤ k ∧ k ≤ n ∧ i = .int .i64 (k : Int) ∧ wr.ownsRow w.heap.size 5 1 v acc.length (B8 acc) ∧ Below w.heap.size w wr ∧ Rest s.data.toList acc k ∧ acc.length ≤ k) (fun _ i _ => n - (intOf i).toNat)
        case atStart => exact ⟨1, [], Nat.le_refl _, hn1, rfl, HOWN.out, HB0.out, HST.out, Nat.zero_le _⟩
        case round =>
          obtain ⟨k, acc, hk1, hk, rfl, hown, hb, hR, hal⟩ := hrel
          have HR := Lib.hid hR
          have hsz := hb.size
          clear hR HOWN HB0 HST hmk t2 t3
          by_cases hlt : k < n
          · have hks : k < s.size := by omega
            have hks' : k < s.data.toList.length := by rw [HLEN.out]; omega
            have hne : ((k : Int) == (n : Int)) = false := beq_eq_false_iff_ne.2 (by omega)
            have hne' : (k == n) = false := beq_eq_false_iff_ne.2 (by omega)
            by_cases h34 : s[k] = 34
            · have u1 := is34 h34
              have HN := Lib.hid (HR.out.early (by rw [HLEN.out]; omega) h34)
              clear h34
              go_wp2_with fail
              go_ret2
              exact ⟨hb, .inl ⟨HN.out, rfl⟩⟩
            · have u1 := no34 h34
              by_cases h92 : s[k] = 92
              · have u2 := is92 h92
                by_cases hkn : k + 1 = n
                · have HN := Lib.hid (HR.out.backEnd (by rw [HLEN.out]; omega) h92)
                  have u3 : ((k : Int) + 1 == (n : Int)) = true := beq_iff_eq.2 (by omega)
                  clear h34 h92 hne hne'
                  go_wp2_with fail
                  go_ret2
                  exact ⟨hb, .inl ⟨HN.out, rfl⟩⟩
                · have u3 : ((k : Int) + 1 == (n : Int)) = false := beq_eq_false_iff_ne.2 (by omega)
                  have hk1s : k + 1 < s.size := by omega
                  cases ht : textByte s[k + 1] with
                  | false =>
                    have HN := Lib.hid (HR.out.backno (by rw [HLEN.out]; omega) h92 ht)
                    have HT := Lib.hid ht
                    clear h34 h92 hne hne' ht
                    go_wp2_with (go_at_call 71; refine (textByte_any _ _).mono ?_; rintro e w' ⟨rfl, rfl⟩; rw [HT.out])
                    go_ret2
                    exact ⟨hb, .inl ⟨HN.out, rfl⟩⟩
                  | true =>
                    have HR2 := Lib.hid (HR.out.back (by rw [HLEN.out]; omega) h92 ht)
                    have HT := Lib.hid ht
                    clear h34 h92 hne hne' ht
                    go_wp2_with (first | (go_at_call 71; refine (textByte_any _ _).mono ?_; rintro e w' ⟨rfl, rfl⟩; rw [HT.out]) | (at_builtin; refine wpList_append_own _ rfl _ _ 77 rfl w.heap.size 5 i0 (.int .u8 0) 1 1 Tryd.underlying77 hi hz0 hz1 hz2 rfl (by decide) _ _ _ rfl (hown.alloc _) ⟨wr.heap.size, 0, none⟩ 1 1 [.int .u8 (s[k + 1].toNat : Int)] rfl rfl ?b1 ?b2 ?b3 ?b4 ?b5 ?_))
                    case b1 =>
                      intro j u hj
                      match j, hj with
                      | 0, hj => simp at hj; subst hj; simp [Addr.add]
                    case b2 => intro u hu; simp at hu; subst hu; rfl
                    case b3 => unfold maxLen; omega
                    case b4 => omega
                    case b5 => simp; omega
                    · intro v' w1 hown' hgrow _
                      have hb1 := grown_step hb hown hgrow
                      have HO := Lib.hid (owns_snoc hown')
                      clear hown' hgrow
                      go_wp2_with fail
                      go_roundw
                      case rel => exact ⟨k + 2, _, by omega, by omega, by go_num, HO.out, hb1, HR2.out, by simp; omega⟩
                      case measure => simp [intOf]; omega
              · have u2 := no92 h92
                cases ht : textByte s[k] with
                | false =>
                  have HN := Lib.hid (HR.out.otherno hks' h34 h92 ht)
                  have HT := Lib.hid ht
                  clear h34 h92 ht
                  go_wp2_with (go_at_call 71; refine (textByte_any _ _).mono ?_; rintro e w' ⟨rfl, rfl⟩; rw [HT.out])
                  go_ret2
                  exact ⟨hb, .inl ⟨HN.out, rfl⟩⟩
                | true =>
                  have HR2 := Lib.hid (HR.out.other hks' h34 h92 ht)
                  have HT := Lib.hid ht
                  clear h34 h92 ht
                  go_wp2_with (first | (go_at_call 71; refine (textByte_any _ _).mono ?_; rintro e w' ⟨rfl, rfl⟩; rw [HT.out]) | (at_builtin; refine wpList_append_own _ rfl _ _ 77 rfl w.heap.size 5 i0 (.int .u8 0) 1 1 Tryd.underlying77 hi hz0 hz1 hz2 rfl (by decide) _ _ _ rfl (hown.alloc _) ⟨wr.heap.size, 0, none⟩ 1 1 [.int .u8 (s[k].toNat : Int)] rfl rfl ?c1 ?c2 ?c3 ?c4 ?c5 ?_))
                  case c1 =>
                    intro j u hj
                    match j, hj with
                    | 0, hj => simp at hj; subst hj; simp [Addr.add]
                  case c2 => intro u hu; simp at hu; subst hu; rfl
                  case c3 => unfold maxLen; omega
                  case c4 => omega
                  case c5 => simp; omega
                  · intro v' w1 hown' hgrow _
                    have hb1 := grown_step hb hown hgrow
                    have HO := Lib.hid (owns_snoc hown')
                    clear hown' hgrow
                    go_wp2_with fail
                    go_roundw
                    case rel => exact ⟨k + 1, _, by omega, by omega, by go_num, HO.out, hb1, HR2.out, by simp; omega⟩
                    case measure => simp [intOf]; omega
          · have hkn : k = n := by omega
            have HY := Lib.hid (HR.out.stop (by rw [HLEN.out]; omega) (by subst hkn; exact HQ.out))
            have hback := run_own_back hown
            obtain ⟨a, c, hv⟩ : ∃ a c, u5 = .slice a acc.length c := by
              rcases owns_holds hown with ⟨h, h2⟩ | ⟨g, cap, h, _⟩
              · exact ⟨none, 0, by rw [h, h2]; rfl⟩
              · exact ⟨_, _, h⟩
            rw [hv]
            rw [hv] at hback
            clear hv hkn
            go_wp2_with fail
            go_ret2
            exact ⟨hb, .inr ⟨acc, HY.out, rfl⟩⟩
      · have t3 := bne34 hq
        have HN := Lib.hid (unq_notail s.data.toList (by omega) (by
          have e : s.data.toList[s.data.toList.length - 1] = s[n] := by
            have e2 : s.data.toList.length - 1 = n := by omega
            simp only [e2]; rfl
          rw [e]; exact hq))
        clear h0 hq hlen h1 hn
        go_enter Tryd.func60, Tryd.ntmps60
        go_wp2_with fail
        go_ret2
        exact ⟨Below.refl _ _, .inl ⟨HN.out, rfl⟩⟩
    · have t2 := bne34 h0
      have HN := Lib.hid (unq_nohead s.data.toList (by omega) h0)
      clear hlen h0 h1
      go_enter Tryd.func60, Tryd.ntmps60
      go_wp2_with fail
      go_ret2
      exact ⟨Below.refl _ _, .inl ⟨HN.out, rfl⟩⟩
end Go.Proofs.YtjbdgndejbiikaaDoor.Tk
