/-
  A number that a Cache-Control text tells twice, as digits and in quotes: plain functions on bytes. No program, no condition.
-/
import Derived.Test.YtmnnbefigepgfaaDoorCtMath
namespace Go.Proofs.YtmnnbefigepgfaaDoor.Ct
open Go.Proofs.YtmnnbefigepgfaaDoor.Tk Go.Proofs.YtmnnbefigepgfaaDoor.Fd
set_option linter.unusedVariables false
set_option linter.unusedSimpArgs false

/-! Decimal digits. -/
def decD (d : Nat) : UInt8 := UInt8.ofNat (48 + d)
def decL (n : Nat) : Bs := if h : n < 10 then [decD n] else decL (n / 10) ++ [decD (n % 10)]
termination_by n
decreasing_by omega
theorem decL_small {n : Nat} (h : n < 10) : decL n = [decD n] := by rw [decL, dif_pos h]
theorem decL_big {n : Nat} (h : ¬ n < 10) : decL n = decL (n / 10) ++ [decD (n % 10)] := by rw [decL, dif_neg h]
theorem decD_facts : ∀ d, d < 10 → (decD d).toNat = 48 + d ∧ tchar (decD d) = true ∧ Num.dg (decD d) = true ∧ textByte (decD d) = true ∧ decD d ≠ 34 ∧ decD d ≠ 92 := by decide
/-- The less of a number and the most that is told. -/
def capped (n : Nat) (m : Int) : Int := if m < (n : Int) then m else n
structure Dec (l : Bs) (n k : Nat) : Prop where
  tok : l.all tchar = true
  dig : l.all Num.dg = true
  txt : l.all textByte = true
  esc : l.flatMap esc = l
  pos : 0 < l.length
  len : l.length ≤ k + 1
  num : ∀ m : Int, 0 ≤ m → Num.num m 0 l = capped n m
theorem decL_all : ∀ (k n : Nat), n < 10 ^ (k + 1) → Dec (decL n) n k
  | k, n, h => by
    by_cases hn : n < 10
    · obtain ⟨h1, h2, h3, h4, h5, h6⟩ := decD_facts n hn
      rw [decL_small hn]
      refine ⟨by simp [h2], by simp [h3], by simp [h4], by simp [Tk.esc, h5, h6], by simp, by simp, fun m hm => ?_⟩
      show Num.step m 0 (((decD n).toNat : Int) - 48) = _
      rw [h1]; unfold Num.step capped
      repeat' split <;> omega
    · cases k with
      | zero => omega
      | succ k =>
        have hd : n / 10 < 10 ^ (k + 1) := by rw [Nat.div_lt_iff_lt_mul (by omega)]; rw [Nat.pow_succ] at h; omega
        have ih := decL_all k (n / 10) hd
        obtain ⟨h1, h2, h3, h4, h5, h6⟩ := decD_facts (n % 10) (Nat.mod_lt _ (by omega))
        rw [decL_big hn]
        refine ⟨by rw [List.all_append, ih.tok]; simp [h2], by rw [List.all_append, ih.dig]; simp [h3], by rw [List.all_append, ih.txt]; simp [h4], ?_, by simp, by have := ih.len; simp; omega, fun m hm => ?_⟩
        · rw [List.flatMap_append, ih.esc]; simp [Tk.esc, h5, h6]
        · rw [Num.num_snoc, ih.num m hm, h1]
          unfold Num.step capped
          repeat' split <;> omega
theorem numB_dec {n : Nat} (h : n < 10000000000) : numB (decL n) = some (capped n most) := by
  have hd := decL_all 9 n (by omega)
  unfold numB Num.numOf
  have hc : ¬ ((⟨(decL n).toArray⟩ : ByteArray).size = 0 ∨ most < 0 ∨ (⟨(decL n).toArray⟩ : ByteArray).data.toList.all Num.dg = false) := by
    intro h
    rcases h with h | h | h
    · have : (decL n).length = 0 := by simpa [ByteArray.size] using h
      have := hd.pos
      omega
    · exact absurd h (by decide)
    · have : (decL n).all Num.dg = false := h
      rw [hd.dig] at this; cases this
  rw [if_neg hc]
  show some (Num.num most 0 (decL n)) = _
  rw [hd.num most (by decide)]
/-! A name, = and a value. -/
theorem eqIdx_name (nm r : Bs) (h : ∀ c ∈ nm, c ≠ 61) : eqIdx (nm ++ 61 :: r) = nm.length := by
  induction nm with
  | nil => simp [eqIdx]
  | cons c t ih =>
    rw [List.cons_append, eqIdx, if_neg (h c (by simp)), ih (fun x hx => h x (by simp [hx]))]
    rfl
theorem tok_no {nm : Bs} (h : isTok nm = true) : ∀ c ∈ nm, c ≠ 61 := fun c hc => (tchar_pass (isTok_all h c hc)).2.2.2
theorem pair_plain {nm v : Bs} (h : isTok nm = true) (hv : isTok v = true) : pairOf (nm ++ 61 :: v) = some (nm, some v) := by
  unfold pairOf
  rw [eqIdx_name nm v (tok_no h)]
  have e1 : (nm ++ 61 :: v).take nm.length = nm := by simp
  have e2 : (nm ++ 61 :: v).drop (nm.length + 1) = v := by rw [← List.drop_drop]; simp
  rw [e1, e2, if_neg (by rw [h]; simp), if_neg (by simp), if_pos hv]
theorem pair_quoted {nm v : Bs} (h : isTok nm = true) (ht : v.all textByte = true) (he : v.flatMap esc = v) : pairOf (nm ++ 61 :: 34 :: (v ++ [34])) = some (nm, some v) := by
  have hq := unqGo_esc v ht
  rw [he] at hq
  have hn : isTok (34 :: (v ++ [34])) = false := quote_notTok rfl
  have hu : unq (34 :: (v ++ [34])) = some v := hq
  unfold pairOf
  rw [eqIdx_name nm _ (tok_no h)]
  have e1 : (nm ++ 61 :: 34 :: (v ++ [34])).take nm.length = nm := by simp
  have e2 : (nm ++ 61 :: 34 :: (v ++ [34])).drop (nm.length + 1) = 34 :: (v ++ [34]) := by rw [← List.drop_drop]; simp
  rw [e1, e2, if_neg (by rw [h]; simp), if_neg (by simp), if_neg (by rw [hn]; simp), hu]
  rfl
theorem dec_tok {n : Nat} (h : n < 10000000000) : isTok (decL n) = true := by
  have hd := decL_all 9 n (by omega)
  unfold isTok
  rw [hd.tok]
  cases hl : decL n with
  | nil => have := hd.pos; rw [hl] at this; simp at this
  | cons c r => rfl
theorem split_one {e : Bs} (h : Solid e) : splitOf e = some [e] := by
  have h1 := split_joined [e] (fun x hx => by simp at hx; subst hx; exact h)
  rw [show joinL [e] = e from by simpa using join_first e] at h1
  exact h1
def pubL : Bs := [32, 80, 117, 98, 108, 105, 99, 32]
theorem split_pub : splitOf pubL = some [[80, 117, 98, 108, 105, 99]] := by decide +kernel
theorem pair_pub : pairOf [80, 117, 98, 108, 105, 99] = some ([80, 117, 98, 108, 105, 99], none) := by decide +kernel
theorem split_three {x y : Bs} (hx : Solid x) (hy : Solid y) : splitOf (x ++ 44 :: (pubL ++ 44 :: y)) = some [x, [80, 117, 98, 108, 105, 99], y] := by
  have h := split_two (split_one hx) (split_two split_pub (split_one hy))
  exact h
/-- The six names, as they are written. -/
def nameK : Nat → Bs
  | 0 => [109, 97, 120, 45, 97, 103, 101]
  | 1 => [83, 45, 77, 65, 88, 65, 71, 69]
  | 2 => [115, 116, 97, 108, 101, 45, 119, 104, 105, 108, 101, 45, 114, 101, 118, 97, 108, 105, 100, 97, 116, 101]
  | 3 => [115, 116, 97, 108, 101, 45, 105, 102, 45, 101, 114, 114, 111, 114]
  | 4 => [109, 105, 110, 45, 102, 114, 101, 115, 104]
  | _ => [109, 97, 120, 45, 115, 116, 97, 108, 101]
/-- Where one number and public alone are said. -/
def conK : Nat → Int → Con
  | 0, n => { Con.zero with pu := true, ag := n }
  | 1, n => { Con.zero with pu := true, sh := n }
  | 2, n => { Con.zero with pu := true, wh := n }
  | 3, n => { Con.zero with pu := true, ie := n }
  | 4, n => { Con.zero with pu := true, mf := n }
  | _, n => { Con.zero with pu := true, ms := n }
theorem act_ns (c : Con) (v : Option Bs) : act c nst v = { c with ns := true } := by
  unfold act
  rw [if_pos rfl]
theorem act_nc (c : Con) (v : Option Bs) : act c nca v = { c with nc := true } := by
  unfold act
  rw [if_neg (by decide), if_pos rfl]
theorem act_pr (c : Con) (v : Option Bs) : act c pri v = { c with pr := true } := by
  unfold act
  rw [if_neg (by decide), if_neg (by decide), if_pos rfl]
theorem act_pub (c : Con) (v : Option Bs) : act c pub v = { c with pu := true } := by
  unfold act
  rw [if_neg (by decide), if_neg (by decide), if_neg (by decide), if_pos rfl]
theorem act_mu (c : Con) (v : Option Bs) : act c mus v = { c with mu := true } := by
  unfold act
  rw [if_neg (by decide), if_neg (by decide), if_neg (by decide), if_neg (by decide), if_pos rfl]
theorem act_px (c : Con) (v : Option Bs) : act c pro v = { c with px := true } := by
  unfold act
  rw [if_neg (by decide), if_neg (by decide), if_neg (by decide), if_neg (by decide), if_neg (by decide), if_pos rfl]
theorem act_oc (c : Con) (v : Option Bs) : act c onl v = { c with oc := true } := by
  unfold act
  rw [if_neg (by decide), if_neg (by decide), if_neg (by decide), if_neg (by decide), if_neg (by decide), if_neg (by decide), if_pos rfl]
theorem act_ag (c : Con) (v : Option Bs) : act c age v = { c with ag := least c.ag ((numV v).getD 0) } := by
  unfold act
  rw [if_neg (by decide), if_neg (by decide), if_neg (by decide), if_neg (by decide), if_neg (by decide), if_neg (by decide), if_neg (by decide), if_pos rfl]
theorem act_sh (c : Con) (v : Option Bs) : act c sma v = { c with sh := least c.sh ((numV v).getD 0) } := by
  unfold act
  rw [if_neg (by decide), if_neg (by decide), if_neg (by decide), if_neg (by decide), if_neg (by decide), if_neg (by decide), if_neg (by decide), if_neg (by decide), if_pos rfl]
theorem act_wh (c : Con) (v : Option Bs) : act c swr v = { c with wh := upd c.wh (numV v) } := by
  unfold act
  rw [if_neg (by decide), if_neg (by decide), if_neg (by decide), if_neg (by decide), if_neg (by decide), if_neg (by decide), if_neg (by decide), if_neg (by decide), if_neg (by decide), if_pos rfl]
theorem act_ie (c : Con) (v : Option Bs) : act c sie v = { c with ie := upd c.ie (numV v) } := by
  unfold act
  rw [if_neg (by decide), if_neg (by decide), if_neg (by decide), if_neg (by decide), if_neg (by decide), if_neg (by decide), if_neg (by decide), if_neg (by decide), if_neg (by decide), if_neg (by decide), if_pos rfl]
theorem act_mf (c : Con) (v : Option Bs) : act c mif v = { c with mf := upd c.mf (numV v) } := by
  unfold act
  rw [if_neg (by decide), if_neg (by decide), if_neg (by decide), if_neg (by decide), if_neg (by decide), if_neg (by decide), if_neg (by decide), if_neg (by decide), if_neg (by decide), if_neg (by decide), if_neg (by decide), if_pos rfl]
theorem act_ms (c : Con) (v : Option Bs) : act c mst v = { c with ms := upd c.ms (stale v) } := by
  unfold act
  rw [if_neg (by decide), if_neg (by decide), if_neg (by decide), if_neg (by decide), if_neg (by decide), if_neg (by decide), if_neg (by decide), if_neg (by decide), if_neg (by decide), if_neg (by decide), if_neg (by decide), if_neg (by decide), if_pos rfl]
theorem nameK_tok (k : Nat) (hk : k < 6) : isTok (nameK k) = true := by
  match k, hk with
  | 0, _ => exact (by decide +kernel : isTok (nameK 0) = true)
  | 1, _ => exact (by decide +kernel : isTok (nameK 1) = true)
  | 2, _ => exact (by decide +kernel : isTok (nameK 2) = true)
  | 3, _ => exact (by decide +kernel : isTok (nameK 3) = true)
  | 4, _ => exact (by decide +kernel : isTok (nameK 4) = true)
  | 5, _ => exact (by decide +kernel : isTok (nameK 5) = true)
theorem capped_bd (n : Nat) : 0 ≤ capped n most := by unfold capped most; split <;> omega
/-- The least of both and of the most. -/
def min3 (a b : Nat) : Int := least (capped a most) (capped b most)
theorem act_k (k : Nat) (hk : k < 6) (a b : Nat) (x y : Bs) (hx : numB x = some (capped a most)) (hy : numB y = some (capped b most)) :
    act (act (act .zero (lower (nameK k)) (some x)) (lower [80, 117, 98, 108, 105, 99]) none) (lower (nameK k)) (some y) = conK k (min3 a b) := by
  have h0 : least (-1) (capped a most) = capped a most := by unfold least; rw [if_pos (by omega)]
  have ep : lower [80, 117, 98, 108, 105, 99] = pub := by decide +kernel
  rw [ep]
  match k, hk with
  | 0, _ =>
    have en : lower (nameK 0) = age := by decide +kernel
    rw [en]
    show act (act (act .zero age (some x)) pub none) age (some y) = { Con.zero with pu := true, ag := min3 a b }
    rw [act_ag, act_pub, act_ag]
    simp only [numV, stale, Option.bind_some, hx, hy, Option.getD_some, upd, Con.zero, h0, min3]
  | 1, _ =>
    have en : lower (nameK 1) = sma := by decide +kernel
    rw [en]
    show act (act (act .zero sma (some x)) pub none) sma (some y) = { Con.zero with pu := true, sh := min3 a b }
    rw [act_sh, act_pub, act_sh]
    simp only [numV, stale, Option.bind_some, hx, hy, Option.getD_some, upd, Con.zero, h0, min3]
  | 2, _ =>
    have en : lower (nameK 2) = swr := by decide +kernel
    rw [en]
    show act (act (act .zero swr (some x)) pub none) swr (some y) = { Con.zero with pu := true, wh := min3 a b }
    rw [act_wh, act_pub, act_wh]
    simp only [numV, stale, Option.bind_some, hx, hy, Option.getD_some, upd, Con.zero, h0, min3]
  | 3, _ =>
    have en : lower (nameK 3) = sie := by decide +kernel
    rw [en]
    show act (act (act .zero sie (some x)) pub none) sie (some y) = { Con.zero with pu := true, ie := min3 a b }
    rw [act_ie, act_pub, act_ie]
    simp only [numV, stale, Option.bind_some, hx, hy, Option.getD_some, upd, Con.zero, h0, min3]
  | 4, _ =>
    have en : lower (nameK 4) = mif := by decide +kernel
    rw [en]
    show act (act (act .zero mif (some x)) pub none) mif (some y) = { Con.zero with pu := true, mf := min3 a b }
    rw [act_mf, act_pub, act_mf]
    simp only [numV, stale, Option.bind_some, hx, hy, Option.getD_some, upd, Con.zero, h0, min3]
  | 5, _ =>
    have en : lower (nameK 5) = mst := by decide +kernel
    rw [en]
    show act (act (act .zero mst (some x)) pub none) mst (some y) = { Con.zero with pu := true, ms := min3 a b }
    rw [act_ms, act_pub, act_ms]
    simp only [numV, stale, Option.bind_some, hx, hy, Option.getD_some, upd, Con.zero, h0, min3]
theorem parse_k (k : Nat) (hk : k < 6) (a b : Nat) (ha : a < 10000000000) (hb : b < 10000000000) :
    parseOf ((nameK k ++ 61 :: decL a) ++ 44 :: (pubL ++ 44 :: (nameK k ++ 61 :: 34 :: (decL b ++ [34])))) = (conK k (min3 a b), true) := by
  have hn := nameK_tok k hk
  have hdb := decL_all 9 b (by omega)
  have p1 := pair_plain hn (dec_tok ha)
  have p2 := pair_quoted hn hdb.txt hdb.esc
  unfold parseOf
  rw [split_three (pair_solid (by rw [p1]; simp)) (pair_solid (by rw [p2]; simp))]
  show (elem (elem (elem .zero (nameK k ++ 61 :: decL a)) [80, 117, 98, 108, 105, 99]) (nameK k ++ 61 :: 34 :: (decL b ++ [34])), true) = _
  unfold elem
  rw [p1, pair_pub, p2]
  show (act (act (act .zero (lower (nameK k)) (some (decL a))) (lower [80, 117, 98, 108, 105, 99]) none) (lower (nameK k)) (some (decL b)), true) = _
  rw [act_k k hk a b _ _ (numB_dec ha) (numB_dec hb)]
end Go.Proofs.YtmnnbefigepgfaaDoor.Ct
