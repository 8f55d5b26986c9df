/-
  gatepostref11.Names: what it returns. Conditions: fields of at most 2^20 bytes in all.
-/
import Derived.Test.YtcnipjmeillfeaaDoorVrSel
import Derived.Test.YtcnipjmeillfeaaDoorVrNames
import Derived.Test.YtcnipjmeillfeaaDoorFdRefNames
import Derived.Deep.AppendLies
import Derived.Deep.RegionLaw
namespace Go.Proofs.YtcnipjmeillfeaaDoor.Vr
open Go.RowKit Go.Proofs.YtcnipjmeillfeaaDoor.Tk Go.Proofs.YtcnipjmeillfeaaDoor.Fd
set_option linter.unusedVariables false

/-- One append, however many elements, as a step of a region that draws its order. -/
theorem step_append_any {P : Program} {ops : Array Oper} {o : Oper} {a : Act} {w : World} {K : Act → World → Prop} {Q : Exit → Act → World → Prop} {E : Prop} (hgd : o.guard = none) (s x : Operand) (t : TypeId)
    (ho : o.op = .call { callee := .builtin .append, args := #[s, x], argTypes := #[t, t] })
    (base : Nat) (e : TypeId) (i : TypeInfo) (z : Value) (size bytes : Nat) (ht : P.underlying t = some (.slice e)) (hi : P.info? e = some i) (hz : i.zero = some z)
    (hsize : i.size = size) (hby : i.bytes = bytes) (hzs : z.cells.size = size) (hsz : 0 < size)
    (v : Value) (n : Nat) (xs : List Value) (hs : a.eval s = v) (hown : w.ownsRow base e size v n xs)
    (ad : Addr) (m c : Nat) (news : List Value) (hx : a.eval x = .slice (some ad) m c) (hl : news.length = m * size) (hnews : ∀ j u, news[j]? = some u → w.cell? (ad.add j) = some u) (h1 : ∀ u ∈ news, u.oneCell' = true)
    (h63 : n + m ≤ maxLen) (hbytes : (n + m) * bytes ≤ 140737488355328) (hbase : base ≤ w.heap.size)
    (h : ∀ v' w', w'.ownsRow base e size v' (n + m) (xs ++ news) → w.grownBy w' v.ownBlock → K (a.put o.dst v') w') :
    if Region.wanted o (yielded ops a.tmps) = true then Oper.wp P o a w K Q else E := by
  have hw : Region.wanted o (yielded ops a.tmps) = true := by simp [Region.wanted, hgd]
  rw [if_pos hw]
  exact wp_append_own w s x t ho base e i z size bytes ht hi hz hsize hby hzs hsz v n xs hs hown ad m c news hx hl hnews h1 h63 hbytes hbase fun v' w' h2 h3 _ => h v' w' h2 h3
theorem elemStr : Tryd.prog.elem 23 = 9 := by kernel_rfl
theorem undStr : Tryd.prog.underlying 23 = some (.slice (Tryd.prog.elem 23)) := by rw [elemStr]; exact Tryd.underlying23
theorem cut_to (W : World) (a : Option Addr) (n cap k : Nat) (hk : k ≤ cap) : (Instr.slice 23 (.slice a n cap) none (some (.int .i64 (k : Int))) none).run Tryd.prog W = .ok (.slice a k cap) W := by
  rw [run_slice_h W 23 a n cap undStr .i64 (k : Int) (by omega) (by omega), elemStr]
  have hs : (Go.sizeOf 9).run Tryd.prog W = .ok 1 W := Tryd.sizeOf9 W
  rw [hs]
  show Result.ok (sliced _ _ _ _ _) W = _
  unfold sliced
  have e1 : ((k : Int)).toNat = k := by omega
  rw [e1, Nat.sub_zero, Nat.sub_zero]
  cases a with
  | none => simp
  | some a => obtain ⟨b, off, sp⟩ := a; split <;> simp [Addr.add]
theorem cut_from (b off n cap k : Nat) (hk : k + 1 ≤ n) : ∃ ad : Addr, (∀ W : World, (Instr.slice 23 (.slice (some ⟨b, off, none⟩) n cap) (some (.int .i64 ((k : Int) + 1))) none none).run Tryd.prog W = .ok (.slice (some ad) (n - (k + 1)) (cap - (k + 1))) W) ∧ (k + 1 < n → n ≤ cap → ad = ⟨b, off + (k + 1), none⟩) := by
  refine ⟨if cap = k + 1 then ⟨b, off, none⟩ else ⟨b, off + (k + 1), none⟩, fun W => ?_, fun h1 h2 => by rw [if_neg (by omega)]⟩
  rw [run_slice_l W 23 (some ⟨b, off, none⟩) n cap undStr .i64 ((k : Int) + 1) (by omega) (by omega), elemStr]
  have hs : (Go.sizeOf 9).run Tryd.prog W = .ok 1 W := Tryd.sizeOf9 W
  rw [hs]
  show Result.ok (sliced _ _ _ _ _) W = _
  unfold sliced
  have e1 : ((k : Int) + 1).toNat = k + 1 := by omega
  rw [e1, Nat.mul_one]
  split
  · rfl
  · rw [Option.map_some, Addr.add_lit]
def sliceN : Value → Nat
  | .slice _ n _ => n
  | _ => 0
theorem own_shape {w : World} {base : Nat} {v : Value} {ls : List Bs} (h : w.ownsRow base 9 1 v ls.length (ls.map TS)) : ∃ a cap, v = .slice a ls.length cap := by
  rcases h.2 with ⟨hv, h0⟩ | ⟨g, cap, cur, hv, _⟩
  · exact ⟨none, 0, by rw [hv, h0]⟩
  · exact ⟨_, cap, hv⟩
theorem own_some {w : World} {base : Nat} {v : Value} {ls : List Bs} (h : w.ownsRow base 9 1 v ls.length (ls.map TS)) (h0 : 0 < ls.length) : ∃ g cap, v = .slice (some ⟨g, 0, none⟩) ls.length cap ∧ base ≤ g ∧ g < w.heap.size ∧ ls.length ≤ cap := by
  rcases h.2 with ⟨_, h1⟩ | ⟨g, cap, cur, hv, h1, h2, h3, _⟩
  · omega
  · exact ⟨g, cap, hv, h1, block_lt h2, h3⟩

theorem less_lt : ∀ a b : Bs, Op.bytesLess a b = lt a b
  | _, [] => by unfold Op.bytesLess lt; first | rfl | (split <;> simp_all)
  | [], _ :: _ => by unfold Op.bytesLess lt; rfl
  | a :: x, b :: y => by
    have ih := less_lt x y
    rw [lt_cons]
    have e : Op.bytesLess (a :: x) (b :: y) = (decide (a < b) || (a == b && Op.bytesLess x y)) := rfl
    rw [e, ih]
    by_cases h : a.toNat < b.toNat
    · rw [if_pos h, decide_eq_true (UInt8.lt_iff_toNat_lt.2 h)]; rfl
    · rw [if_neg h, decide_eq_false (fun h2 => h (UInt8.lt_iff_toNat_lt.1 h2))]
      by_cases h2 : b.toNat < a.toNat
      · rw [if_pos h2, beq_eq_false_iff_ne.2 (fun e2 => by subst e2; omega)]; rfl
      · rw [if_neg h2]
        have e2 : a = b := UInt8.toNat_inj.1 (by omega)
        subst e2
        simp
theorem less_text (x y : ByteArray) : Op.bytesLess x.toList y.toList = lt x.data.toList y.data.toList := by rw [less_lt, ByteArray.toList_eq, ByteArray.toList_eq]

/-- Cells of a part of a row of texts. -/
theorem row_news {w : World} {base g n cap : Nat} {ls : List Bs} (h : w.ownsRow base 9 1 (.slice (some ⟨g, 0, none⟩) n cap) n (ls.map TS)) (off : Nat) (part : List Bs) (hp : ∀ j (hj : j < part.length), off + j < n ∧ ls[off + j]? = some part[j]) (ad : Addr) (had : 0 < part.length → ad = ⟨g, off, none⟩) :
    ∀ j u, (part.map TS)[j]? = some u → w.cell? (ad.add j) = some u := by
  intro j u hu
  rw [List.getElem?_map] at hu
  by_cases hj : j < part.length
  · rw [List.getElem?_eq_getElem hj] at hu
    obtain ⟨h1, h2⟩ := hp j hj
    rw [had (by omega), Addr.add_lit, row_at h (off + j) h1 h2]
    exact hu
  · rw [List.getElem?_eq_none (by omega)] at hu; cases hu
theorem texts_one (l : List Bs) : ∀ u ∈ l.map TS, u.oneCell' = true := by
  intro u hu; obtain ⟨x, _, rfl⟩ := List.mem_map.1 hu; rfl
theorem own_far {w w' : World} {base : Nat} {v : Value} {n : Nat} {xs : List Value} {row : Option Nat} (h : w.ownsRow base 9 1 v n xs) (hg : w.grownBy w' row) (hne : ∀ b, v.ownBlock = some b → row ≠ some b) : w'.ownsRow base 9 1 v n xs := by
  refine ⟨h.1, ?_⟩
  rcases h.2 with h2 | ⟨g, cap, cur, hv, h1, h2, h3⟩
  · exact .inl h2
  · exact .inr ⟨g, cap, cur, hv, h1, (hg.block g (block_lt h2) (fun e => hne g (by rw [hv]; rfl) e.symm)).trans h2, h3⟩

theorem cut_rows (r : List Bs) (k N : Nat) (hN : N = r.length) (hk : k < N) (v : Value) (W : World) (base : Nat)
    (h : W.ownsRow base 9 1 v (0 + k + (N - (k + 1))) ([] ++ (r.take k).map TS ++ (r.drop (k + 1)).map TS)) : W.ownsRow base 9 1 v (cutK r k).length ((cutK r k).map TS) := by
  have e : (cutK r k).length = 0 + k + (N - (k + 1)) := by have := cut_length r k (by omega); omega
  rw [e]
  unfold cutK
  rw [List.map_append]
  exact h
theorem take_news {w : World} {base g n cap : Nat} {ls : List Bs} (h : w.ownsRow base 9 1 (.slice (some ⟨g, 0, none⟩) n cap) n (ls.map TS)) (hn : n = ls.length) (k : Nat) (hk : k ≤ n) :
    ∀ j u, ((ls.take k).map TS)[j]? = some u → w.cell? ((⟨g, 0, none⟩ : Addr).add j) = some u :=
  row_news h 0 (ls.take k) (fun j hj => by
    rw [List.length_take] at hj
    refine ⟨by omega, ?_⟩
    rw [Nat.zero_add, ← List.getElem?_eq_getElem, List.getElem?_take, if_pos (by omega)]) _ (fun _ => rfl)
theorem drop_news {w : World} {base g n cap : Nat} {ls : List Bs} (h : w.ownsRow base 9 1 (.slice (some ⟨g, 0, none⟩) n cap) n (ls.map TS)) (hn : n = ls.length) (k : Nat) (ad : Addr) (had : k < n → ad = ⟨g, 0 + k, none⟩) :
    ∀ j u, ((ls.drop k).map TS)[j]? = some u → w.cell? (ad.add j) = some u :=
  row_news h k (ls.drop k) (fun j hj => by
    rw [List.length_drop] at hj
    refine ⟨by omega, ?_⟩
    rw [← List.getElem?_eq_getElem, List.getElem?_drop]) ad (fun h0 => by rw [List.length_drop] at h0; rw [had (by omega), Nat.zero_add])

structure NM (fs : List Fl) (ns : List Bs) (w : World) (r o : List Bs) (un uo : Value) (W : World) : Prop where
  ri : RI ns o r
  nm : W.ownsRow w.heap.size 9 1 un r.length (r.map TS)
  out : W.ownsRow w.heap.size 9 1 uo o.length (o.map TS)
  dj : ∀ g, un.ownBlock = some g → uo.ownBlock ≠ some g
  bel : Below w.heap.size w W

set_option maxHeartbeats 8000000 in
set_option maxRecDepth 100000 in
theorem refVNames_any (v : Value) (fs : List Fl) (w : World) (hf : Flds w v fs) (ht : tot fs ≤ 1048576) :
    Calls Tryd.prog 9 #[v] w (VNamesPost fs w) := by
  have hgl := getT_length fs varyL
  have HN := Lib.hid (show Calls Tryd.prog 18 #[v, .string ⟨#[118, 97, 114, 121]⟩] w (NamesPost (getT fs varyL) w) from refNames_any v fs ⟨#[118, 97, 114, 121]⟩ w hf ht (by decide))
  obtain ⟨i0, hi, hz0, hz1, hz2⟩ := info_parts infoText
  clear hf
  go_enter Tryd.func9, Tryd.ntmps9
  go_wp2_with fail
  refine HN.out.mono ?_
  rintro e w1 ⟨hB1, ⟨h1, rfl⟩ | ⟨ls, u, h1, rfl, ho⟩⟩
  · have HX := Lib.hid (namesV_none h1)
    clear h1 HN
    go_wp2_with fail
    go_ret2
    exact ⟨hB1, .inl ⟨HX.out, rfl⟩⟩
  · have HLS := Lib.hid h1
    have hll := names_length h1
    have HST := Lib.hid (show NM fs ls w ls [] u (.slice none 0 0) w1 from ⟨RI.start ls, ho, World.ownsRow_nil _ _ _ _, fun g _ h => (by cases h), hB1⟩)
    clear h1 ho HN
    go_wp2_with fail
    go_loopw [4, 6] (fun un uo wr => ∃ r o : List Bs, NM fs ls w r o un uo wr) (fun un _ _ => sliceN un)
    case atStart => exact ⟨ls, [], HST.out⟩
    case round =>
      obtain ⟨r, o, hst⟩ := hrel
      generalize wr = W0 at hst ⊢
      have HS := Lib.hid hst
      have hlen := hst.ri.len
      have hB := hst.bel
      have hsz := hB.size
      by_cases h0 : r.length = 0
      · obtain ⟨an, cn, hun⟩ := own_shape hst.nm
        rw [h0] at hun
        obtain rfl : r = [] := List.length_eq_zero_iff.1 h0
        rw [hun]
        have HF := Lib.hid (hst.ri.finish)
        have HO := Lib.hid hst.out
        clear HST hst HS hun h0
        go_wp2_with fail
        go_ret2
        exact ⟨hB, .inr ⟨_, _, (namesV_some HLS.out HF.out.2).trans (by rw [HF.out.1]), rfl, HO.out⟩⟩
      · obtain ⟨g, cn, hun, hgw, hgr, hcn⟩ := own_some hst.nm (by omega)
        obtain ⟨N, hN⟩ : ∃ N, N = r.length := ⟨_, rfl⟩
        have HNM := Lib.hid (show W0.ownsRow w.heap.size 9 1 (.slice (some ⟨g, 0, none⟩) N cn) N (r.map TS) from by rw [hN, ← hun]; exact hst.nm)
        rw [hun, ← hN]
        have hN0 : 0 < N := by omega
        have HDJ := Lib.hid (show u6.ownBlock ≠ some g from hst.dj g (by rw [hun]; rfl))
        have HRI := Lib.hid hst.ri
        have HOU := Lib.hid hst.out
        have HNR := Lib.hid hN
        have HL0 := Lib.hid (Least.start (r := r) (by omega))
        rw [← hN] at hcn hlen
        clear HST hst HS hun hN h0
        go_wp2_with fail
        go_loopw [7, 8] (fun kk ii wi => ∃ k i : Nat, kk = .int .i64 (k : Int) ∧ ii = .int .i64 (i : Int) ∧ i ≤ N ∧ Least r k i ∧ Below W0.heap.size W0 wi) (fun _ ii _ => N - (intOf ii).toNat)
        case atStart => exact ⟨0, 1, rfl, rfl, by omega, HL0.out, Below.refl _ _⟩
        case round =>
          obtain ⟨k, i, rfl, rfl, hiN, hlk, hBi⟩ := hrel
          have hkr : k < r.length := hlk.1
          have hkN : k < N := by rw [HNR.out]; exact hkr
          have HLK := Lib.hid hlk
          have HNi := Lib.hid (owns_kept HNM.out hBi)
          have c2 : wr.cell? ⟨g, k, none⟩ = some (TS r[k]) := row_at HNi.out k hkN (List.getElem?_eq_getElem hkr)
          obtain ⟨y, hy⟩ : ∃ y : ByteArray, y = ⟨r[k].toArray⟩ := ⟨_, rfl⟩
          have HY := Lib.hid (show y.data.toList = r[k] from by rw [hy])
          unfold TS at c2
          rw [← hy] at c2
          clear hy hlk
          by_cases hlt2 : i < N
          · have hir : i < r.length := by have := HNR.out; omega
            have c1 : wr.cell? ⟨g, i, none⟩ = some (TS r[i]) := row_at HNi.out i hlt2 (List.getElem?_eq_getElem hir)
            obtain ⟨x, hx⟩ : ∃ x : ByteArray, x = ⟨r[i].toArray⟩ := ⟨_, rfl⟩
            have HX := Lib.hid (show x.data.toList = r[i] from by rw [hx])
            unfold TS at c1
            rw [← hx] at c1
            have hlt := less_text x y
            rw [HX.out, HY.out] at hlt
            clear hx
            cases hlv : lt r[i] (r[k]'hkr) with
            | false =>
              rw [hlv] at hlt
              have HK := Lib.hid (HLK.out.keep hir hlv)
              clear hlv
              go_wp2_with fail
              go_quiet (fail)
              go_wp2_with fail
              go_roundw
              case rel => exact ⟨k, i + 1, rfl, by go_num, by omega, HK.out, Bl.drewN hBi _⟩
              case measure => simp [intOf]; omega
            | true =>
              rw [hlv] at hlt
              have HK := Lib.hid (HLK.out.turn hir hlv)
              clear hlv
              go_wp2_with fail
              go_quiet (fail)
              go_wp2_with fail
              go_roundw
              case rel => exact ⟨i, i + 1, rfl, by go_num, by omega, HK.out, Bl.drewN hBi _⟩
              case measure => simp [intOf]; omega
          · have hmin := Lib.hid (show ∀ z ∈ r, lt z (r[k]'hkr) = false from HLK.out.all (by have := HNR.out; omega))
            have HO := Lib.hid (owns_kept HOU.out hBi)
            have hBw := hB.trans (hBi.mono hsz)
            clear HLK HL0 HOU
            cases hst42 : decide (r[k]'hkr = [42]) with
            | true =>
              have hyl : (y.toList == [42]) = true := by rw [ByteArray.toList_eq, HY.out, beq_iff_eq]; exact of_decide_eq_true hst42
              have HXX := Lib.hid (namesV_star (P := True) (.inr ⟨rfl, HLS.out⟩) (HRI.out.hit k hkr (of_decide_eq_true hst42)))
              clear hst42
              go_wp2_with fail
              go_ret2
              exact ⟨hBw, .inl ⟨HXX.out, rfl⟩⟩
            | false =>
              have hyl : (y.toList == [42]) = false := by rw [ByteArray.toList_eq, HY.out, beq_eq_false_iff_ne]; exact of_decide_eq_false hst42
              have HXX := Lib.hid (HRI.out.next k hkr hmin.out (of_decide_eq_false hst42))
              clear hst42 hmin
              have HM := Lib.hid (show TS (r[k]'hkr) = .string y from by unfold TS; rw [← HY.out])
              obtain ⟨m, hm⟩ : ∃ m, m = r[k]'hkr := ⟨_, rfl⟩
              rw [← hm] at HXX HM
              clear hm HY
              have hsi := hBi.size
              have HNd := Lib.hid (show ∀ n, (wr.drewN n).ownsRow w.heap.size 9 1 (.slice (some ⟨g, 0, none⟩) N cn) N (r.map TS) from fun n => HNi.out)
              have HOd := Lib.hid (show ∀ n, (wr.drewN n).ownsRow w.heap.size 9 1 u6 o.length (o.map TS) from fun n => HO.out)
              have HBd := Lib.hid (show ∀ n, Below w.heap.size w (wr.drewN n) from fun n => Bl.drewN hBw n)
              obtain ⟨O, hO⟩ : ∃ O, O = o.length := ⟨_, rfl⟩
              rw [← hO] at hlen
              have HOl := Lib.hid hO
              by_cases hO0 : O = 0
              · obtain ⟨ao, co, huo⟩ := own_shape HO.out
                obtain rfl : o = [] := List.length_eq_zero_iff.1 (by omega)
                rw [show ([] : List Bs).length = 0 from rfl] at huo
                have HOd := Lib.hid (show ∀ n, (wr.drewN n).ownsRow w.heap.size 9 1 (.slice ao 0 co) 0 (([] : List Bs).map TS) from fun n => by have h := HO.out; rw [huo] at h; exact h)
                rw [huo] at HDJ
                rw [huo]
                clear hO huo HO HNi hBw
                go_wp2_with fail
                go_quiet (fail)
                have HN1 := Lib.hid (HNd.out nq)
                have HO1 := Lib.hid (HOd.out nq)
                have HB1 := Lib.hid (HBd.out nq)
                have hwd := HB1.out.size
                have c3 : (wr.drewN nq).cell? ⟨g, k, none⟩ = some (.string y) := c2
                generalize wr.drewN nq = wd at HN1 HO1 HB1 hwd c3 ⊢
                have hgd : g < wd.heap.size := World.block_lt_of_cell? wd _ c3
                have hb2 := (Below.refl wd.heap.size wd).alloc (Nat.le_refl _) (.cells #[.string y] 9)
                have HO2 := Lib.hid (owns_kept HO1.out hb2)
                have HNw := Lib.hid (news_one (new_block wd (.cells #[.string y] 9)))
                clear HNd HOd HBd
                go_wp2_with (at_builtin; refine wpList_append_lies _ rfl _ _ 23 rfl w.heap.size 9 i0 (.string ⟨#[]⟩) 1 16 Tryd.underlying23 hi hz0 hz1 hz2 rfl (by decide) _ _ _ (by rfl) HO2.out ⟨wd.heap.size, 0, none⟩ 1 1 [.string y] (by rfl) rfl HNw.out (one_text y) (by omega) (by unfold maxLen; omega) (by omega) (by simp; omega) _ rfl ?_; intro go5 co5 w5 hown5 hgrow5 hat5 hlt5)
                have HN5 := Lib.hid (own_far (owns_kept HN1.out hb2) hgrow5 (fun b hb e => by injection hb with hb; subst hb; exact HDJ.out e))
                have hB5 := (HB1.out.alloc (by omega) (.cells #[.string y] 9)).grown hgrow5 (by simp; omega) (fun q hq => (World.ownsRow.lt HO2.out q hq).1)
                have hd5 : go5 ≠ g := by
                  rcases hat5 with h | h
                  · intro e; rw [e] at h; exact HDJ.out h
                  · rw [h]; simp; omega
                have HO5 := Lib.hid (show w5.ownsRow w.heap.size 9 1 (.slice (some ⟨go5, 0, none⟩) (0 + 1) co5) (addL ([] : List Bs) m).length ((addL ([] : List Bs) m).map TS) from by
                  rw [add_nil]
                  exact (by rw [List.map_cons, HM.out]; exact hown5))
                clear hown5 hgrow5 hat5 HO2 HNw HN1 HO1 HB1 hb2
                have hs5 := hB5.size
                have hT := fun W => cut_to W (some ⟨g, 0, none⟩) N cn k (by omega)
                obtain ⟨ad, hF, hadd⟩ := cut_from g 0 N cn k (by omega)
                have wk : IntKind.i64.wrap ((k : Int) + 1) = (k : Int) + 1 := IntWalk.i64_in _ (by omega)
                have HAD := Lib.hid (show k + 1 < N → ad = ⟨g, 0 + (k + 1), none⟩ from fun h => hadd h hcn)
                have HLT := Lib.hid (show (w5.alloc (.cells #[] 9)).drew.ownsRow w5.heap.size 9 1 (.slice (some ⟨w5.heap.size, 0, none⟩) 0 0) 0 [] from World.ownsRow_lit (base := w5.heap.size) (e := 9) (size := 1) w5 #[] 0 (Nat.le_refl _) (Nat.zero_le _) rfl)
                have HN6 := Lib.hid (owns_kept HN5.out (((Below.refl w5.heap.size w5).alloc (Nat.le_refl _) (.cells #[] 9)).drew))
                have hg6 : g < w5.heap.size := World.block_lt_of_cell? w5 _ (row_at HN5.out k hkN (List.getElem?_eq_getElem hkr))
                have HW1 := Lib.hid (take_news HN6.out HNR.out k (by omega))
                have HB6 := Lib.hid (((Below.refl w5.heap.size w5).alloc (Nat.le_refl _) (.cells #[] 9)).drew)
                have hlt1 : ((r.take k).map TS).length = k * 1 := by rw [List.length_map, List.length_take]; have := HNR.out; omega
                have hlt2' : ((r.drop (k + 1)).map TS).length = (N - (k + 1)) * 1 := by rw [List.length_map, List.length_drop]; have := HNR.out; omega
                have HL1 := Lib.hid hlt1
                have HL2 := Lib.hid hlt2'
                clear hadd hlt1 hlt2'
                go_region_law (first
                  | (refine step_append_any (by rfl) _ _ 23 (by rfl) w5.heap.size 9 i0 (.string ⟨#[]⟩) 1 16 Tryd.underlying23 hi hz0 hz1 hz2 rfl (by decide) (.slice (some ⟨w5.heap.size, 0, none⟩) 0 0) 0 [] (by rfl) HLT.out ⟨g, 0, none⟩ k cn ((r.take k).map TS) (by rfl) HL1.out HW1.out (texts_one _) (by unfold maxLen; omega) (by omega) (by simp) ?_; intro v1 x1 hown1 hgrow1; have HO7 := Lib.hid hown1; have HN7 := Lib.hid (own_far HN6.out hgrow1 (fun b hb e => by have h1 : g = b := Option.some.inj hb; have h2 : w5.heap.size = b := Option.some.inj e; omega)); have HB7 := Lib.hid (HB6.out.grown hgrow1 (by simp) (fun q hq => by have h2 : w5.heap.size = q := Option.some.inj hq; omega)); have HW2 := Lib.hid (drop_news HN7.out HNR.out (k + 1) ad HAD.out); have hx1 := HB7.out.size)
                  | (refine step_append_any (by rfl) _ _ 23 (by rfl) w5.heap.size 9 i0 (.string ⟨#[]⟩) 1 16 Tryd.underlying23 hi hz0 hz1 hz2 rfl (by decide) v1 (0 + k) ([] ++ (r.take k).map TS) (by rfl) HO7.out ad (N - (k + 1)) (cn - (k + 1)) ((r.drop (k + 1)).map TS) (by rfl) HL2.out HW2.out (texts_one _) (by unfold maxLen; omega) (by omega) (by omega) ?_; intro v2 x2 hown2 hgrow2))
                all_goals
                  have hb8 := HB7.out.grown hgrow2 hx1 (fun q hq => (World.ownsRow.lt HO7.out q hq).1)
                  have hrow := cut_rows r k N HNR.out hkN v2 x2 _ hown2
                  obtain ⟨a2, c2', rfl⟩ := own_shape hrow
                  have hcl := cut_length r k hkr
                  have HR8 := Lib.hid hrow
                  have HB8 := Lib.hid hb8
                  clear hown1 hgrow1 hown2 hgrow2 HLT HN6 HW1 HB6 HO7 HN7 HB7 HW2 hrow hb8 hT hF
                  go_simp
                  have HD8 := Lib.hid (show ∀ q, (Value.slice a2 (cutK r k).length c2').ownBlock = some q → (Value.slice (some ⟨go5, 0, none⟩) (0 + 1) co5).ownBlock ≠ some q from fun q hq e => by
                    have h1 := (World.ownsRow.lt HR8.out q hq).1
                    have h2 := (World.ownsRow.lt HO5.out q e).2
                    omega)
                  refine ⟨?rel, ?measure⟩
                  case rel => (repeat apply Exists.intro); exact ⟨⟨cutK r k, _, HXX.out, Fd.owns_mono HR8.out hs5, owns_kept HO5.out HB8.out, HD8.out, hB5.trans (HB8.out.mono hs5)⟩, rfl⟩
                  case measure =>
                    show (cutK r k).length < N
                    have := HNR.out; omega
              · obtain ⟨go4, co4, huo, hgo4, hgl4, hco4⟩ := own_some HO.out (by omega)
                rw [← hO] at huo
                obtain ⟨P, hP⟩ : ∃ P, P + 1 = O := ⟨O - 1, by omega⟩
                have hPo : P < o.length := by omega
                have hne : o ≠ [] := fun h => by rw [h] at hPo; simp at hPo
                have hlastP : o[P]'hPo = o[o.length - 1]'(by omega) := by congr 1; omega
                have c4 : wr.cell? ⟨go4, P, none⟩ = some (TS (o[P]'hPo)) := by
                  have h := HO.out; rw [huo, ← hO] at h
                  exact row_at h P (by omega) (List.getElem?_eq_getElem hPo)
                obtain ⟨z, hz⟩ : ∃ z : ByteArray, z = ⟨(o[P]'hPo).toArray⟩ := ⟨_, rfl⟩
                have hzd : z.data.toList = o[P]'hPo := by rw [hz]
                unfold TS at c4
                rw [← hz] at c4
                have eo : IntKind.i64.wrap ((O : Int) - 1) = (P : Int) := by rw [IntWalk.i64_in _ (by omega)]; omega
                have d0 : ((O : Int) == 0) = false := by rw [beq_eq_false_iff_ne]; omega
                have HOd := Lib.hid (show ∀ n, (wr.drewN n).ownsRow w.heap.size 9 1 (.slice (some ⟨go4, 0, none⟩) O co4) O (o.map TS) from fun n => by have h := HO.out; rw [huo, ← hO] at h; exact h)
                rw [huo] at HDJ
                rw [huo]
                have hPN : P ≤ 4194304 := by omega
                have hPlt : P < O := by omega
                have hON : O ≤ 4194304 := by omega
                cases hzm : decide (o[P]'hPo = m) with
                | true =>
                  have hzy : (z.toList == y.toList) = true := by
                    rw [ByteArray.toList_eq, ByteArray.toList_eq, beq_iff_eq, hzd, of_decide_eq_true hzm]
                    have h := HM.out; unfold TS at h; injection h with h; rw [← h]
                  have HADD := Lib.hid (add_same hne (hlastP.symm.trans (of_decide_eq_true hzm)))
                  clear hO huo HO HNi hBw hzm hzd hz hne hlastP hP
                  go_wp2_with fail
                  go_quiet (fail)
                  have HN5 := Lib.hid (HNd.out nq)
                  have HO1 := Lib.hid (HOd.out nq)
                  have hB5 := HBd.out nq
                  generalize wr.drewN nq = w5 at HN5 HO1 hB5 ⊢
                  have HO5 := Lib.hid (show w5.ownsRow w.heap.size 9 1 (.slice (some ⟨go4, 0, none⟩) O co4) (addL o m).length ((addL o m).map TS) from by rw [HADD.out, ← HOl.out]; exact HO1.out)
                  clear HNd HOd HBd HO1 c4 eo d0 hzy HADD
                  go_wp2_with fail
                  have hs5 := hB5.size
                  have hT := fun W => cut_to W (some ⟨g, 0, none⟩) N cn k (by omega)
                  obtain ⟨ad, hF, hadd⟩ := cut_from g 0 N cn k (by omega)
                  have wk : IntKind.i64.wrap ((k : Int) + 1) = (k : Int) + 1 := IntWalk.i64_in _ (by omega)
                  have HAD := Lib.hid (show k + 1 < N → ad = ⟨g, 0 + (k + 1), none⟩ from fun h => hadd h hcn)
                  have HLT := Lib.hid (show (w5.alloc (.cells #[] 9)).drew.ownsRow w5.heap.size 9 1 (.slice (some ⟨w5.heap.size, 0, none⟩) 0 0) 0 [] from World.ownsRow_lit (base := w5.heap.size) (e := 9) (size := 1) w5 #[] 0 (Nat.le_refl _) (Nat.zero_le _) rfl)
                  have HN6 := Lib.hid (owns_kept HN5.out (((Below.refl w5.heap.size w5).alloc (Nat.le_refl _) (.cells #[] 9)).drew))
                  have hg6 : g < w5.heap.size := World.block_lt_of_cell? w5 _ (row_at HN5.out k hkN (List.getElem?_eq_getElem hkr))
                  have HW1 := Lib.hid (take_news HN6.out HNR.out k (by omega))
                  have HB6 := Lib.hid (((Below.refl w5.heap.size w5).alloc (Nat.le_refl _) (.cells #[] 9)).drew)
                  have hlt1 : ((r.take k).map TS).length = k * 1 := by rw [List.length_map, List.length_take]; have := HNR.out; omega
                  have hlt2' : ((r.drop (k + 1)).map TS).length = (N - (k + 1)) * 1 := by rw [List.length_map, List.length_drop]; have := HNR.out; omega
                  have HL1 := Lib.hid hlt1
                  have HL2 := Lib.hid hlt2'
                  clear hadd hlt1 hlt2'
                  go_region_law (first
                    | (refine step_append_any (by rfl) _ _ 23 (by rfl) w5.heap.size 9 i0 (.string ⟨#[]⟩) 1 16 Tryd.underlying23 hi hz0 hz1 hz2 rfl (by decide) (.slice (some ⟨w5.heap.size, 0, none⟩) 0 0) 0 [] (by rfl) HLT.out ⟨g, 0, none⟩ k cn ((r.take k).map TS) (by rfl) HL1.out HW1.out (texts_one _) (by unfold maxLen; omega) (by omega) (by simp) ?_; intro v1 x1 hown1 hgrow1; have HO7 := Lib.hid hown1; have HN7 := Lib.hid (own_far HN6.out hgrow1 (fun b hb e => by have h1 : g = b := Option.some.inj hb; have h2 : w5.heap.size = b := Option.some.inj e; omega)); have HB7 := Lib.hid (HB6.out.grown hgrow1 (by simp) (fun q hq => by have h2 : w5.heap.size = q := Option.some.inj hq; omega)); have HW2 := Lib.hid (drop_news HN7.out HNR.out (k + 1) ad HAD.out); have hx1 := HB7.out.size)
                    | (refine step_append_any (by rfl) _ _ 23 (by rfl) w5.heap.size 9 i0 (.string ⟨#[]⟩) 1 16 Tryd.underlying23 hi hz0 hz1 hz2 rfl (by decide) v1 (0 + k) ([] ++ (r.take k).map TS) (by rfl) HO7.out ad (N - (k + 1)) (cn - (k + 1)) ((r.drop (k + 1)).map TS) (by rfl) HL2.out HW2.out (texts_one _) (by unfold maxLen; omega) (by omega) (by omega) ?_; intro v2 x2 hown2 hgrow2))
                  all_goals
                    have hb8 := HB7.out.grown hgrow2 hx1 (fun q hq => (World.ownsRow.lt HO7.out q hq).1)
                    have hrow := cut_rows r k N HNR.out hkN v2 x2 _ hown2
                    obtain ⟨a2, c2', rfl⟩ := own_shape hrow
                    have hcl := cut_length r k hkr
                    have HR8 := Lib.hid hrow
                    have HB8 := Lib.hid hb8
                    clear hown1 hgrow1 hown2 hgrow2 HLT HN6 HW1 HB6 HO7 HN7 HB7 HW2 hrow hb8 hT hF
                    go_simp
                    have HD8 := Lib.hid (show ∀ q, (Value.slice a2 (cutK r k).length c2').ownBlock = some q → (Value.slice (some ⟨go4, 0, none⟩) O co4).ownBlock ≠ some q from fun q hq e => by
                      have h1 := (World.ownsRow.lt HR8.out q hq).1
                      have h2 := (World.ownsRow.lt HO5.out q e).2
                      omega)
                    refine ⟨?rel, ?measure⟩
                    case rel => (repeat apply Exists.intro); exact ⟨⟨cutK r k, _, HXX.out, Fd.owns_mono HR8.out hs5, owns_kept HO5.out HB8.out, HD8.out, hB5.trans (HB8.out.mono hs5)⟩, rfl⟩
                    case measure =>
                      show (cutK r k).length < N
                      have := HNR.out; omega
                | false =>
                  have hzy : (z.toList == y.toList) = false := by
                    rw [ByteArray.toList_eq, ByteArray.toList_eq, beq_eq_false_iff_ne, hzd]
                    have h := HM.out; unfold TS at h; injection h with h; rw [← h]
                    exact of_decide_eq_false hzm
                  have HADD := Lib.hid (add_other hne (fun e => of_decide_eq_false hzm (hlastP.trans e)))
                  clear hO huo HO HNi hBw hzm hzd hz hne hlastP hP
                  go_wp2_with fail
                  go_quiet (fail)
                  have HN1 := Lib.hid (HNd.out nq)
                  have HO1 := Lib.hid (HOd.out nq)
                  have HB1 := Lib.hid (HBd.out nq)
                  have hwd := HB1.out.size
                  have c3 : (wr.drewN nq).cell? ⟨g, k, none⟩ = some (.string y) := c2
                  generalize wr.drewN nq = wd at HN1 HO1 HB1 hwd c3 ⊢
                  have hgd : g < wd.heap.size := World.block_lt_of_cell? wd _ c3
                  have hb2 := (Below.refl wd.heap.size wd).alloc (Nat.le_refl _) (.cells #[.string y] 9)
                  have HO2 := Lib.hid (owns_kept HO1.out hb2)
                  have HNw := Lib.hid (news_one (new_block wd (.cells #[.string y] 9)))
                  clear HNd HOd HBd
                  go_wp2_with (at_builtin; refine wpList_append_lies _ rfl _ _ 23 rfl w.heap.size 9 i0 (.string ⟨#[]⟩) 1 16 Tryd.underlying23 hi hz0 hz1 hz2 rfl (by decide) _ _ _ (by rfl) HO2.out ⟨wd.heap.size, 0, none⟩ 1 1 [.string y] (by rfl) rfl HNw.out (one_text y) (by omega) (by unfold maxLen; omega) (by omega) (by simp; omega) _ rfl ?_; intro go5 co5 w5 hown5 hgrow5 hat5 hlt5)
                  have HN5 := Lib.hid (own_far (owns_kept HN1.out hb2) hgrow5 (fun b hb e => by injection hb with hb; subst hb; exact HDJ.out e))
                  have hB5 := (HB1.out.alloc (by omega) (.cells #[.string y] 9)).grown hgrow5 (by simp; omega) (fun q hq => (World.ownsRow.lt HO2.out q hq).1)
                  have hd5 : go5 ≠ g := by
                    rcases hat5 with h | h
                    · intro e; rw [e] at h; exact HDJ.out h
                    · rw [h]; simp; omega
                  have HO5 := Lib.hid (show w5.ownsRow w.heap.size 9 1 (.slice (some ⟨go5, 0, none⟩) (O + 1) co5) (addL o m).length ((addL o m).map TS) from by
                    rw [HADD.out, List.length_append, List.map_append, ← HOl.out, List.map_cons, HM.out]; exact hown5)
                  clear hown5 hgrow5 hat5 HO2 HNw HN1 HO1 HB1 hb2
                  have hs5 := hB5.size
                  have hT := fun W => cut_to W (some ⟨g, 0, none⟩) N cn k (by omega)
                  obtain ⟨ad, hF, hadd⟩ := cut_from g 0 N cn k (by omega)
                  have wk : IntKind.i64.wrap ((k : Int) + 1) = (k : Int) + 1 := IntWalk.i64_in _ (by omega)
                  have HAD := Lib.hid (show k + 1 < N → ad = ⟨g, 0 + (k + 1), none⟩ from fun h => hadd h hcn)
                  have HLT := Lib.hid (show (w5.alloc (.cells #[] 9)).drew.ownsRow w5.heap.size 9 1 (.slice (some ⟨w5.heap.size, 0, none⟩) 0 0) 0 [] from World.ownsRow_lit (base := w5.heap.size) (e := 9) (size := 1) w5 #[] 0 (Nat.le_refl _) (Nat.zero_le _) rfl)
                  have HN6 := Lib.hid (owns_kept HN5.out (((Below.refl w5.heap.size w5).alloc (Nat.le_refl _) (.cells #[] 9)).drew))
                  have hg6 : g < w5.heap.size := World.block_lt_of_cell? w5 _ (row_at HN5.out k hkN (List.getElem?_eq_getElem hkr))
                  have HW1 := Lib.hid (take_news HN6.out HNR.out k (by omega))
                  have HB6 := Lib.hid (((Below.refl w5.heap.size w5).alloc (Nat.le_refl _) (.cells #[] 9)).drew)
                  have hlt1 : ((r.take k).map TS).length = k * 1 := by rw [List.length_map, List.length_take]; have := HNR.out; omega
                  have hlt2' : ((r.drop (k + 1)).map TS).length = (N - (k + 1)) * 1 := by rw [List.length_map, List.length_drop]; have := HNR.out; omega
                  have HL1 := Lib.hid hlt1
                  have HL2 := Lib.hid hlt2'
                  clear hadd hlt1 hlt2'
                  go_region_law (first
                    | (refine step_append_any (by rfl) _ _ 23 (by rfl) w5.heap.size 9 i0 (.string ⟨#[]⟩) 1 16 Tryd.underlying23 hi hz0 hz1 hz2 rfl (by decide) (.slice (some ⟨w5.heap.size, 0, none⟩) 0 0) 0 [] (by rfl) HLT.out ⟨g, 0, none⟩ k cn ((r.take k).map TS) (by rfl) HL1.out HW1.out (texts_one _) (by unfold maxLen; omega) (by omega) (by simp) ?_; intro v1 x1 hown1 hgrow1; have HO7 := Lib.hid hown1; have HN7 := Lib.hid (own_far HN6.out hgrow1 (fun b hb e => by have h1 : g = b := Option.some.inj hb; have h2 : w5.heap.size = b := Option.some.inj e; omega)); have HB7 := Lib.hid (HB6.out.grown hgrow1 (by simp) (fun q hq => by have h2 : w5.heap.size = q := Option.some.inj hq; omega)); have HW2 := Lib.hid (drop_news HN7.out HNR.out (k + 1) ad HAD.out); have hx1 := HB7.out.size)
                    | (refine step_append_any (by rfl) _ _ 23 (by rfl) w5.heap.size 9 i0 (.string ⟨#[]⟩) 1 16 Tryd.underlying23 hi hz0 hz1 hz2 rfl (by decide) v1 (0 + k) ([] ++ (r.take k).map TS) (by rfl) HO7.out ad (N - (k + 1)) (cn - (k + 1)) ((r.drop (k + 1)).map TS) (by rfl) HL2.out HW2.out (texts_one _) (by unfold maxLen; omega) (by omega) (by omega) ?_; intro v2 x2 hown2 hgrow2))
                  all_goals
                    have hb8 := HB7.out.grown hgrow2 hx1 (fun q hq => (World.ownsRow.lt HO7.out q hq).1)
                    have hrow := cut_rows r k N HNR.out hkN v2 x2 _ hown2
                    obtain ⟨a2, c2', rfl⟩ := own_shape hrow
                    have hcl := cut_length r k hkr
                    have HR8 := Lib.hid hrow
                    have HB8 := Lib.hid hb8
                    clear hown1 hgrow1 hown2 hgrow2 HLT HN6 HW1 HB6 HO7 HN7 HB7 HW2 hrow hb8 hT hF
                    go_simp
                    have HD8 := Lib.hid (show ∀ q, (Value.slice a2 (cutK r k).length c2').ownBlock = some q → (Value.slice (some ⟨go5, 0, none⟩) (O + 1) co5).ownBlock ≠ some q from fun q hq e => by
                      have h1 := (World.ownsRow.lt HR8.out q hq).1
                      have h2 := (World.ownsRow.lt HO5.out q e).2
                      omega)
                    refine ⟨?rel, ?measure⟩
                    case rel => (repeat apply Exists.intro); exact ⟨⟨cutK r k, _, HXX.out, Fd.owns_mono HR8.out hs5, owns_kept HO5.out HB8.out, HD8.out, hB5.trans (HB8.out.mono hs5)⟩, rfl⟩
                    case measure =>
                      show (cutK r k).length < N
                      have := HNR.out; omega
end Go.Proofs.YtcnipjmeillfeaaDoor.Vr
