/-
  Texts that the laws' proofs stand on, 10 of them in one file; each one's head says what it proves and under which condition.
-/
import Derived.Test.YtcolnidgembniaaGreatDoorRows
import Derived.Test.YtcolnidgembniaaGreatDoorMsAllP1
import Derived.WalkKit
import Derived.WalkLawsBesides
import Derived.Test.YtcolnidgembniaaGreatDoorMsAllP10
import Derived.Test.YtcolnidgembniaaGreatDoorMsAllP12
import Derived.Test.YtcolnidgembniaaGreatDoorMsAllP11
import Derived.Test.YtcolnidgembniaaGreatDoorMsAllP2
import Derived.Test.YtcolnidgembniaaGreatDoorMsAllP5
import Derived.KernelRfl
/-
  One byte of a text, cut out as a text. No condition.
-/
namespace Go.Proofs.YtcolnidgembniaaGreatDoor.Tk
open Go.RowKit

theorem one_byte (s : ByteArray) (k : Nat) (hk : k < s.size) : (s.extract k (k + 1)).data.toList = [s[k]] := by
  have h : k < s.data.toList.length := by simpa using hk
  simp [ByteArray.data_extract, List.drop_eq_getElem_cons h]
  rfl
set_option maxRecDepth 100000 in
theorem run_one (s : ByteArray) (k : Nat) (hk : k < s.size) (W : World) :
    (Instr.slice 9 (.string s) (some (.int .i64 (k : Int))) (some (.int .i64 ((k : Int) + 1))) none).run Tryz.prog W = .ok (.string (s.extract k (k + 1))) W := by
  have h := run_slice_string (P := Tryz.prog) W 9 s .i64 .i64 (k : Int) ((k : Int) + 1) Tryz.underlying9 (by omega) (by omega) (by omega)
  rw [h]
  have e : ((k : Int) + 1).toNat = k + 1 := by omega
  rw [e]; rfl
set_option maxRecDepth 100000 in
theorem run_two (s : ByteArray) (k : Nat) (hk : k + 1 < s.size) (W : World) :
    (Instr.slice 9 (.string s) (some (.int .i64 ((k : Int) + 1))) (some (.int .i64 ((k : Int) + 1 + 1))) none).run Tryz.prog W = .ok (.string (s.extract (k + 1) (k + 1 + 1))) W := by
  have h := run_one s (k + 1) hk W
  have e : (((k + 1 : Nat) : Int)) = (k : Int) + 1 := by omega
  rwa [e] at h
set_option maxRecDepth 100000 in
/-- A text's one byte, as a text. -/
theorem piece (s : ByteArray) (k : Nat) (hk : k < s.size) : ∃ E : ByteArray, E = s.extract k (k + 1) ∧ E.size = 1 ∧ ∀ X : ByteArray, (X ++ E).data.toList = X.data.toList ++ [s[k]] := by
  refine ⟨_, rfl, by simp; omega, fun X => ?_⟩
  have : (X ++ s.extract k (k + 1)).data.toList = X.data.toList ++ (s.extract k (k + 1)).data.toList := by simp
  rw [this, one_byte s k hk]
end Go.Proofs.YtcolnidgembniaaGreatDoor.Tk
/-
  gatepostref01.Split: what it returns. Condition: a text of at most 2^32 bytes.
-/
namespace Go.Proofs.YtcolnidgembniaaGreatDoor.Tk
open Go.RowKit

theorem get_eq (s : ByteArray) (k : Nat) (hk : k < s.size) : s.data.toList[k]'(by simpa using hk) = s[k] := rfl
theorem empty_text {T : ByteArray} {x : Bs} (h : T = ⟨x.toArray⟩) (hx : x = []) : T.toList = [] := by
  rw [ByteArray.toList_eq, h]; simpa using hx
theorem full_text {T : ByteArray} {x : Bs} (h : T = ⟨x.toArray⟩) (hx : x ≠ []) : T.toList.isEmpty = false := by
  rw [ByteArray.toList_eq, h]
  cases x with
  | nil => exact absurd rfl hx
  | cons => rfl

/-- What the loop of the reference's Split keeps. -/
def Kept (w : World) (s : ByteArray) (o ow q v : Value) (wr : World) : Prop :=
  ∃ (k : Nat) (ls : List Bs) (X : ByteArray) (qb : Bool), v = .int .i64 (k : Int) ∧ ow = .string X ∧ q = .bool qb ∧ k ≤ s.size ∧ X.size ≤ k ∧ ls.length ≤ k ∧
    wr.ownsRow w.heap.size 9 1 o ls.length (ls.map S) ∧ Below w.heap.size w wr ∧ Left s.data.toList ls qb X.data.toList k

set_option maxRecDepth 100000 in
set_option maxHeartbeats 4000000 in
theorem refSplit_any (s : ByteArray) (w : World) (hs : s.size ≤ 4294967296) :
    Calls Tryz.prog 96 #[.string s] w (SplitPost s.data.toList w) := by
  have HLEN := Lib.hid (len_eq s)
  obtain ⟨i0, hi, hz0, hz1, hz2⟩ := info_parts infoString
  go_enter Tryz.func96, Tryz.ntmps96
  go_wp2_with fail
  go_loopw [4, 5, 6, 7] (fun o ow q v wr => Kept w s o ow q v wr) (fun _ _ _ v _ => s.size - (intOf v).toNat)
  case atStart => exact ⟨0, [], ⟨#[]⟩, false, rfl, rfl, rfl, Nat.zero_le _, Nat.zero_le _, Nat.zero_le _, World.ownsRow_nil _ _ _ _, Below.refl _ _, Left.start _⟩
  case round =>
    obtain ⟨k, ls, X, qb, rfl, rfl, rfl, hk, hX, hls, hown, hbel, hL⟩ := hrel
    have HL := Lib.hid hL
    have hsz := hbel.size
    clear hL
    by_cases hlt : k < s.size
    · have hk' : k < s.data.toList.length := by rw [HLEN.out]; exact hlt
      have HG := Lib.hid (get_eq s k hlt)
      obtain ⟨E, hE, hEs, hEd⟩ := piece s k hlt
      have hsl := run_one s k hlt
      rw [← hE] at hsl
      have HEd := Lib.hid hEd
      have HEs := Lib.hid hEs
      have hEb : E.size ≤ 1 := by omega
      clear hE hEd hEs
      cases qb with
      | false =>
        by_cases h44 : s[k] = 44
        · have t1 := is44 h44
          have HL2 := Lib.hid (HL.out.comma hk' (HG.out.trans h44))
          obtain ⟨T, hT⟩ : ∃ T : ByteArray, T = ⟨(trim X.data.toList).toArray⟩ := ⟨_, rfl⟩
          have HT := Lib.hid hT
          by_cases hz : trim X.data.toList = []
          · have he := empty_text hT hz
            have HF := Lib.hid (show fin ls X.data.toList = ls from by unfold fin; rw [if_pos hz])
            clear hT h44 hz
            go_wp2_with (go_at_call 94; refine (refTrim_any X _ (by unfold maxLen; omega)).mono ?_; rintro e w' ⟨rfl, rfl⟩; rw [← HT.out])
            go_roundw
            case rel => exact ⟨k + 1, ls, ⟨#[]⟩, false, by go_num, rfl, rfl, by omega, Nat.zero_le _, by omega, hown, hbel, by have := HL2.out; rw [HF.out] at this; exact this⟩
            case measure => simp [intOf]; omega
          · have he := full_text hT hz
            have HF := Lib.hid (show fin ls X.data.toList = ls ++ [trim X.data.toList] from by unfold fin; rw [if_neg hz])
            clear hT h44 hz
            go_wp2_with (first | (go_at_call 94; refine (refTrim_any X _ (by unfold maxLen; omega)).mono ?_; rintro e w' ⟨rfl, rfl⟩; rw [← HT.out]) | (at_builtin; refine wpList_append_own _ rfl _ _ 119 rfl w.heap.size 9 i0 (.string ⟨#[]⟩) 1 16 Tryz.underlying119 hi hz0 hz1 hz2 rfl (by decide) _ _ _ rfl (hown.alloc _) ⟨wr.heap.size, 0, none⟩ 1 1 [.string T] rfl rfl ?c1 ?c2 ?c3 ?c4 ?c5 ?_))
            case c1 =>
              intro j u hj
              match j, hj with
              | 0, hj => simp at hj; subst hj; simp [Addr.add]
            case c2 => intro u hu; simp at hu; subst hu; rfl
            case c3 => unfold maxLen; omega
            case c4 => omega
            case c5 => simp; omega
            · intro v' w1 hown' hgrow _
              have hb1 := (hbel.alloc hsz _).grown hgrow (by rw [World.size_alloc]; omega) (fun j hj => (hown.lt j hj).1)
              have HO := Lib.hid hown'
              clear hown' hgrow
              go_wp2_with fail
              go_roundw
              case rel =>
                refine ⟨k + 1, ls ++ [trim X.data.toList], ⟨#[]⟩, false, by go_num, rfl, rfl, by omega, Nat.zero_le _, by simp; omega, ?_, hb1, by have := HL2.out; rw [HF.out] at this; exact this⟩
                have := HO.out
                rw [HT.out] at this
                simpa [S] using this
              case measure => simp [intOf]; omega
        · have t1 := no44 h44
          by_cases h34 : s[k] = 34
          · have t2 := is34 h34
            have HL2 := Lib.hid (HL.out.open hk' (HG.out.trans h34))
            have t3 := no92 (c := s[k]) (by rw [h34]; decide)
            have HV := Lib.hid h34
            clear h44 h34
            go_wp2_with fail
            go_roundw
            case rel => exact ⟨k + 1, ls, X ++ E, true, by go_num, rfl, rfl, by omega, by rw [ByteArray.size_append, HEs.out]; omega, by omega, hown, hbel, by rw [HEd.out, HV.out]; exact HL2.out⟩
            case measure => simp [intOf]; omega
          · have t2 := no34 h34
            have HL2 := Lib.hid (HL.out.other hk' (by rw [HG.out]; exact h44) (by rw [HG.out]; exact h34))
            clear h44 h34
            go_wp2_with fail
            go_roundw
            case rel => exact ⟨k + 1, ls, X ++ E, false, by go_num, rfl, rfl, by omega, by rw [ByteArray.size_append, HEs.out]; omega, by omega, hown, hbel, by rw [HEd.out, ← HG.out]; exact HL2.out⟩
            case measure => simp [intOf]; omega
      | true =>
        by_cases h34 : s[k] = 34
        · have t2 := is34 h34
          have HL2 := Lib.hid (HL.out.qclose hk' (HG.out.trans h34))
          have HV := Lib.hid h34
          clear h34
          go_wp2_with fail
          go_roundw
          case rel => exact ⟨k + 1, ls, X ++ E, false, by go_num, rfl, rfl, by omega, by rw [ByteArray.size_append, HEs.out]; omega, by omega, hown, hbel, by rw [HEd.out, HV.out]; exact HL2.out⟩
          case measure => simp [intOf]; omega
        · have t2 := no34 h34
          by_cases h92 : s[k] = 92
          · have t3 := is92 h92
            by_cases hk1 : k + 1 < s.size
            · have HG1 := Lib.hid (get_eq s (k + 1) hk1)
              have HL2 := Lib.hid (HL.out.qback (by rw [HLEN.out]; exact hk1) (HG.out.trans h92))
              obtain ⟨F, hF, hFs, hFd⟩ := piece s (k + 1) hk1
              have hsl2 := run_two s k hk1
              rw [← hF] at hsl2
              have HFd := Lib.hid hFd
              have HFs := Lib.hid hFs
              have hFb : F.size ≤ 1 := by omega
              have HV := Lib.hid h92
              clear hF hFd hFs h34 h92
              go_wp2_with fail
              go_roundw
              case rel => exact ⟨k + 2, ls, X ++ E ++ F, true, by go_num, rfl, rfl, by omega, by rw [ByteArray.size_append, ByteArray.size_append, HEs.out, HFs.out]; omega, by omega, hown, hbel, by rw [HFd.out, HEd.out, HV.out, ← HG1.out]; exact HL2.out⟩
              case measure => simp [intOf]; omega
            · have HL2 := Lib.hid (HL.out.qlast hk' (by rw [HLEN.out]; omega) (HG.out.trans h92))
              have HV := Lib.hid h92
              clear h34 h92
              go_wp2_with fail
              go_roundw
              case rel => exact ⟨k + 1, ls, X ++ E, true, by go_num, rfl, rfl, by omega, by rw [ByteArray.size_append, HEs.out]; omega, by omega, hown, hbel, by rw [HEd.out, HV.out]; exact HL2.out⟩
              case measure => simp [intOf]; omega
          · have t3 := no92 h92
            have HL2 := Lib.hid (HL.out.qother hk' (by rw [HG.out]; exact h34) (by rw [HG.out]; exact h92))
            clear h34 h92
            go_wp2_with fail
            go_roundw
            case rel => exact ⟨k + 1, ls, X ++ E, true, by go_num, rfl, rfl, by omega, by rw [ByteArray.size_append, HEs.out]; omega, by omega, hown, hbel, by rw [HEd.out, ← HG.out]; exact HL2.out⟩
            case measure => simp [intOf]; omega
    · obtain rfl : k = s.size := by omega
      obtain ⟨T, hT⟩ : ∃ T : ByteArray, T = ⟨(trim X.data.toList).toArray⟩ := ⟨_, rfl⟩
      have HT := Lib.hid hT
      cases qb with
      | true =>
        have HN := Lib.hid (HL.out.qstop (by rw [HLEN.out]; exact Nat.le_refl _))
        clear hT
        go_wp2_with (go_at_call 94; refine (refTrim_any X _ (by unfold maxLen; omega)).mono ?_; rintro e w' ⟨rfl, rfl⟩; rw [← HT.out])
        go_ret2
        exact ⟨hbel, .inl ⟨HN.out, rfl⟩⟩
      | false =>
        have HS := Lib.hid (HL.out.stop (by rw [HLEN.out]; exact Nat.le_refl _))
        by_cases hz : trim X.data.toList = []
        · have he := empty_text hT hz
          have HF := Lib.hid (show fin ls X.data.toList = ls from by unfold fin; rw [if_pos hz])
          clear hT hz
          go_wp2_with (go_at_call 94; refine (refTrim_any X _ (by unfold maxLen; omega)).mono ?_; rintro e w' ⟨rfl, rfl⟩; rw [← HT.out])
          go_ret2
          exact ⟨hbel, .inr ⟨ls, _, by rw [HS.out, HF.out], rfl, hown⟩⟩
        · have he := full_text hT hz
          have HF := Lib.hid (show fin ls X.data.toList = ls ++ [trim X.data.toList] from by unfold fin; rw [if_neg hz])
          clear hT hz
          go_wp2_with (first | (go_at_call 94; refine (refTrim_any X _ (by unfold maxLen; omega)).mono ?_; rintro e w' ⟨rfl, rfl⟩; rw [← HT.out]) | (at_builtin; refine wpList_append_own _ rfl _ _ 119 rfl w.heap.size 9 i0 (.string ⟨#[]⟩) 1 16 Tryz.underlying119 hi hz0 hz1 hz2 rfl (by decide) _ _ _ rfl (hown.alloc _) ⟨wr.heap.size, 0, none⟩ 1 1 [.string T] rfl rfl ?d1 ?d2 ?d3 ?d4 ?d5 ?_))
          case d1 =>
            intro j u hj
            match j, hj with
            | 0, hj => simp at hj; subst hj; simp [Addr.add]
          case d2 => intro u hu; simp at hu; subst hu; rfl
          case d3 => unfold maxLen; omega
          case d4 => omega
          case d5 => simp; omega
          · intro v' w1 hown' hgrow _
            have hb1 := (hbel.alloc hsz _).grown hgrow (by rw [World.size_alloc]; omega) (fun j hj => (hown.lt j hj).1)
            have HO := Lib.hid hown'
            clear hown' hgrow
            go_wp2_with fail
            go_ret2
            refine ⟨hb1, .inr ⟨ls ++ [trim X.data.toList], _, by rw [HS.out, HF.out], rfl, ?_⟩⟩
            have := HO.out
            rw [HT.out] at this
            simpa [S] using this
end Go.Proofs.YtcolnidgembniaaGreatDoor.Tk
/-
  gatepostref04.Names: what it returns. Conditions: fields of at most 2^20 bytes in all.
-/
namespace Go.Proofs.YtcolnidgembniaaGreatDoor.Fd
open Go.RowKit Tk
set_option linter.unusedVariables false

theorem infoText : (Tryz.prog.info? 9).map (fun i => (i.zero, i.size, i.bytes)) = some (some (.string ⟨#[]⟩), 1, 16) := by kernel_rfl
theorem news_one {w : World} {g : Nat} {x : Value} {t : TypeId} (h : w.heap[g]? = some (.cells #[x] t (0, 0))) : ∀ j u, [x][j]? = some u → w.cell? ((⟨g, 0, none⟩ : Addr).add j) = some u := by
  intro j u hu
  match j, hu with
  | 0, hu =>
    simp at hu; subst hu
    show w.cell? ⟨g, 0, none⟩ = _
    rw [Lib.cell_of_heap h]; rfl
theorem one_text (x : ByteArray) : ∀ u ∈ [Value.string x], u.oneCell' = true := by intro u hu; simp at hu; subst hu; rfl
theorem lowers_next (ls : List Bs) (k : Nat) (h : k < ls.length) : (ls.take (k + 1)).map lower = (ls.take k).map lower ++ [lower ls[k]] := by rw [take_next ls k h, List.map_append]; rfl

set_option maxHeartbeats 4000000 in
theorem refNames_any (v : Value) (fs : List Fl) (nm : ByteArray) (w : World) (hf : Flds w v fs) (ht : tot fs ≤ 1048576) (hn : nm.size ≤ maxLen) :
    Calls Tryz.prog 56 #[v, .string nm] w (NamesPost (getT fs nm.data.toList) w) := by
  have hgl := getT_length fs nm.data.toList
  obtain ⟨G, hG⟩ : ∃ G : Bs, G = getT fs nm.data.toList := ⟨_, rfl⟩
  have HGV := Lib.hid (show getVal fs nm.data.toList = .tuple #[.string ⟨G.toArray⟩, .int .i64 (getN fs nm.data.toList : Int)] from by rw [hG]; rfl)
  rw [← hG] at hgl
  rw [← hG]
  have hGs : (⟨G.toArray⟩ : ByteArray).size ≤ 2097152 := by rw [show (⟨G.toArray⟩ : ByteArray).size = G.length from by show G.toArray.size = _; rw [List.size_toArray]]; omega
  have HGD := Lib.hid (show (⟨G.toArray⟩ : ByteArray).data.toList = G from rfl)
  obtain ⟨X, hX⟩ : ∃ X : ByteArray, X = ⟨G.toArray⟩ := ⟨_, rfl⟩
  rw [← hX] at HGV hGs HGD
  clear hG hX
  obtain ⟨i0, hi, hz0, hz1, hz2⟩ := info_parts infoText
  go_enter Tryz.func56, Tryz.ntmps56
  go_wp2_with fail
  refine (refGet_any v fs nm _ hf ht hn).mono ?_
  rintro e w1 ⟨rfl, hb1⟩
  rw [HGV.out]
  go_wp2_with fail
  refine (refSplit_any X _ (by omega)).mono ?_
  rintro e w2 ⟨hb2, h2⟩
  have hB2 := Bl.next hb1 hb2
  rw [HGD.out] at h2
  rcases h2 with ⟨h2, rfl⟩ | ⟨ls, u, hs, rfl, ho⟩
  · have HN := Lib.hid (names_none h2)
    clear h2 hb1 hb2
    go_wp2_with fail
    go_ret2
    exact ⟨hB2, .inl ⟨HN.out, rfl⟩⟩
  · have hll := split_length hs
    have HP := Lib.hid (split_piece hs)
    have HS := Lib.hid hs
    have HT := Lib.hid (Texts.of_owns ho rfl)
    by_cases h0 : ls.length = 0
    · obtain rfl : ls = [] := List.length_eq_zero_iff.1 h0
      obtain ⟨a, cap, hu⟩ := HT.out.shape
      rw [hu]
      have HO := Lib.hid (show w2.ownsRow w.heap.size 9 1 (.slice none 0 0) ([] : List Bs).length (([] : List Bs).map TS) from World.ownsRow_nil _ _ _ _)
      clear hu ho hs hb1 hb2 h0 HT
      go_wp2_with fail
      refine wp_loop_rounds 1 ?_
      rw [rounds_succ]
      go_wp2_with fail
      go_ret2
      exact ⟨hB2, .inr ⟨[], _, names_good HS.out rfl, rfl, HO.out⟩⟩
    · rcases HT.out with ⟨h, _⟩ | ⟨g, off, cap, hu, hc⟩
      · rw [h] at h0; exact absurd rfl h0
      have HC := Lib.hid hc
      have hgl2 : g < w2.heap.size := World.block_lt_of_cell? w2 _ (hc 0 (by omega))
      rw [hu]
      have HO := Lib.hid (show w2.ownsRow w2.heap.size 9 1 (.slice none 0 0) ((ls.take 0).map lower).length (((ls.take 0).map lower).map TS) from World.ownsRow_nil _ _ _ _)
      clear hu ho hs hb1 hb2 h0 hc HT
      go_wp2_with fail
      go_loopw [10, 11] (fun o i wr => ∃ k : Nat, k ≤ ls.length ∧ i = .int .i64 (k : Int) ∧ (ls.take k).all isTok = true ∧ wr.ownsRow w2.heap.size 9 1 o ((ls.take k).map lower).length (((ls.take k).map lower).map TS) ∧ Below w2.heap.size w2 wr) (fun _ i _ => ls.length - (intOf i).toNat)
      case atStart => exact ⟨0, Nat.zero_le _, rfl, rfl, HO.out, Below.refl _ _⟩
      case round =>
        obtain ⟨k, hk, rfl, hal, hO, hD⟩ := hrel
        have HAL := Lib.hid hal
        have HOk := Lib.hid hO
        clear hal hO HO
        have hszD := hD.size
        by_cases hlt2 : k < ls.length
        · have hxz := HP.out ls[k] (List.getElem_mem hlt2)
          have c1 : wr.cell? ⟨g, off + k, none⟩ = some (TS ls[k]) := (hD.cell (p := ⟨g, off + k, none⟩) hgl2).trans (HC.out k hlt2)
          obtain ⟨x, hx⟩ : ∃ x : ByteArray, x = ⟨ls[k].toArray⟩ := ⟨_, rfl⟩
          have HX := Lib.hid (show x.data.toList = ls[k] from by rw [hx])
          have hxs : x.size ≤ maxLen := by rw [hx]; show ls[k].toArray.size ≤ _; rw [List.size_toArray]; unfold maxLen; omega
          unfold TS at c1
          rw [← hx] at c1
          cases hh : isTok ls[k] with
          | false =>
            have HN := Lib.hid (names_bad HS.out k hlt2 hh)
            have HH := Lib.hid (show isTok x.data.toList = false from by rw [HX.out]; exact hh)
            clear hh hx hxz
            go_wp2_with fail
            refine (refIs_any x _ hxs).mono ?_
            rintro e w3 ⟨rfl, rfl⟩
            rw [HH.out]
            go_wp2_with fail
            go_ret2
            exact ⟨Bl.next hB2 hD, .inl ⟨HN.out, rfl⟩⟩
          | true =>
            have HN := Lib.hid (all_next ls k hlt2 HAL.out hh)
            have HH := Lib.hid (show isTok x.data.toList = true from by rw [HX.out]; exact hh)
            have HL2 := Lib.hid (lowers_next ls k hlt2)
            have hlen : ((ls.take k).map lower).length ≤ k := by rw [List.length_map]; exact List.length_take_le _ _
            clear hh hx hxz
            go_wp2_with fail
            refine (refIs_any x _ hxs).mono ?_
            rintro e w3 ⟨rfl, rfl⟩
            rw [HH.out]
            go_wp2_with fail
            refine (refLower_any x _ hxs).mono ?_
            rintro e w4 ⟨rfl, hb4⟩
            have hD4 := Bl.next hD hb4
            have hsz4 := hD4.size
            obtain ⟨L, hL⟩ : ∃ L : ByteArray, L = ⟨(lower x.data.toList).toArray⟩ := ⟨_, rfl⟩
            have HL := Lib.hid hL
            rw [← hL]
            have HN4 := Lib.hid (news_one (new_block w4 (.cells #[.string L] 9)))
            have HO5 := Lib.hid (owns_kept (owns_kept HOk.out hb4) ((Below.refl _ _).alloc (Nat.le_refl _) (.cells #[.string L] 9)))
            have hD5 := hD4.alloc hD4.size (.cells #[.string L] 9)
            clear hL c1 hb4 HOk hD hD4
            go_wp2_with (at_builtin; refine wpList_append_own _ rfl _ _ 119 rfl w2.heap.size 9 i0 (.string ⟨#[]⟩) 1 16 Tryz.underlying119 hi hz0 hz1 hz2 rfl (by decide) _ _ _ rfl HO5.out ⟨w4.heap.size, 0, none⟩ 1 1 [.string L] rfl rfl HN4.out (one_text L) (by unfold maxLen; omega) (by omega) (by simp; omega) ?_; intro v' w5 hown' hgrow hnil)
            have hD6 := hD5.grown hgrow hD5.size (fun q hq => (World.ownsRow.lt HO5.out q hq).1)
            go_roundw
            case rel => exact ⟨k + 1, by omega, by go_num, HN.out, by
              rw [HL2.out, List.length_append, List.map_append]
              have e : [Value.string L] = [lower ls[k]].map TS := by rw [← HX.out]; show [Value.string L] = [Value.string ⟨(lower x.data.toList).toArray⟩]; rw [HL.out]
              rw [← e]; exact hown', hD6⟩
            case measure => simp [intOf]; omega
        · have HE := Lib.hid (show k = ls.length from by omega)
          have HAL2 := Lib.hid (show ls.all isTok = true from by have h := HAL.out; rwa [HE.out, List.take_length] at h)
          have HO2 := Lib.hid (show wr.ownsRow w2.heap.size 9 1 _ (ls.map lower).length ((ls.map lower).map TS) from by have h := HOk.out; rw [HE.out, List.take_length] at h; exact h)
          clear HE HAL HOk
          go_wp2_with fail
          go_ret2
          exact ⟨Bl.next hB2 hD, .inr ⟨_, _, names_good HS.out HAL2.out, rfl, owns_mono HO2.out hB2.size⟩⟩
end Go.Proofs.YtcolnidgembniaaGreatDoor.Fd
/-
  The reference's length, of, OfRequest and OfResponse: what they return. Conditions: fields of at most 2^19 bytes.
-/
namespace Go.Proofs.YtcolnidgembniaaGreatDoor.Fr
open Go.RowKit Go.Proofs.YtcolnidgembniaaGreatDoor.Tk Go.Proofs.YtcolnidgembniaaGreatDoor.Fd
set_option linter.unusedVariables false

def RLenPost (t : Bs) (w : World) (e : Ending) (w' : World) : Prop := e = .returned (.tuple #[.int .i64 (lenVal t).1, .bool true, .int .i64 (lenVal t).2]) ∧ Below w.heap.size w w'
theorem rlen_post {t : Bs} {a b : Int} {w w' : World} (h : lenVal t = (a, b)) (hb : Below w.heap.size w w') : RLenPost t w (.returned (.tuple #[.int .i64 a, .bool true, .int .i64 b])) w' := by
  unfold RLenPost; rw [h]; exact ⟨rfl, hb⟩
def RLPost (c : Nat) (t : Bs) (w : World) (e : Ending) (w' : World) : Prop := (c = 0 ∧ e = .returned (.tuple #[.int .i64 0, .bool false, .int .i64 0]) ∧ Below w.heap.size w w') ∨ (0 < c ∧ RLenPost t w e w')
theorem rl_post {c : Nat} {t : Bs} {w w' : World} {e : Ending} (h : 0 < c) (hp : RLenPost t w e w') : RLPost c t w e w' := .inr ⟨h, hp⟩
theorem rl_zero {t : Bs} {w w' : World} (hb : Below w.heap.size w w') : RLPost 0 t w (.returned (.tuple #[.int .i64 0, .bool false, .int .i64 0])) w' := .inl ⟨rfl, rfl, hb⟩
theorem coL_get (fs : List Fl) : getVal fs coL' = getVal fs coL := by unfold getVal; rw [getT_alike coL_low, getN_alike coL_low]
theorem trE_get (fs : List Fl) : getVal fs trE' = getVal fs trE := by unfold getVal; rw [getT_alike trE_low, getN_alike trE_low]
set_option maxRecDepth 100000 in
set_option maxHeartbeats 8000000 in
theorem rlength_any (v : Value) (fs : List Fl) (w : World) (hf : Flds w v fs) (ht : tot fs ≤ 524288) :
    Calls Tryz.prog 54 #[v] w (RLPost (getN fs coL) (getT fs coL) w) := by
  have HG1 := Lib.hid (show Calls Tryz.prog 55 #[v, .string ⟨#[99, 111, 110, 116, 101, 110, 116, 45, 108, 101, 110, 103, 116, 104]⟩] w (fun e w' => e = .returned (getVal fs coL) ∧ Below w.heap.size w w') from by
    rw [← coL_get]; exact refGet_any v fs _ w hf (by omega) (by decide))
  have hgl := getT_length fs coL
  obtain ⟨c, hc⟩ : ∃ c, c = getN fs coL := ⟨_, rfl⟩
  obtain ⟨s, hs0⟩ : ∃ s : ByteArray, s = ⟨(getT fs coL).toArray⟩ := ⟨_, rfl⟩
  have hv1 : getVal fs coL = .tuple #[.string s, .int .i64 (c : Int)] := by rw [hc, hs0]; rfl
  rw [hv1] at HG1
  obtain ⟨t, ht0⟩ : ∃ t, t = getT fs coL := ⟨_, rfl⟩
  have hsl : t.length = s.size := by rw [ht0, hs0]; simp [ByteArray.size]
  have hs : s.size ≤ 1048576 := by rw [← hsl, ht0]; omega
  have HS := Lib.hid (fun W : World => (show Calls Tryz.prog 96 #[.string s] W (SplitPost t W) from by
    have : s.data.toList = t := by rw [hs0, ht0]
    rw [← this]; exact refSplit_any s W (by omega)))
  rw [← hc, ← ht0]
  clear hf hc hs0 hv1 ht0 hgl
  go_enter Tryz.func54, Tryz.ntmps54
  go_wp2_with fail
  refine HG1.out.mono ?_
  rintro e w0 ⟨rfl, hb0⟩
  have HB0 := Lib.hid hb0
  have hs00 := hb0.size
  clear hb0 HG1
  by_cases h00 : c = 0
  · subst h00
    go_wp2_with fail
    go_ret3
    exact rl_zero HB0.out
  have hc0 : ((c : Int) == 0) = false := by rw [beq_eq_false_iff_ne]; omega
  have hcp : 0 < c := by omega
  go_wp2_with fail
  refine (HS.out w0).mono ?_
  rintro e w1 ⟨hb1', ⟨hn, rfl⟩ | ⟨ls, u, hn, rfl, ho⟩⟩
  · have HP := Lib.hid (rlen_post (lenVal_none hn) (HB0.out.trans (hb1'.mono hs00)))
    clear hb1' hn HS
    go_wp2_with fail
    go_ret3
    exact rl_post hcp HP.out
  · have hb1 := HB0.out.trans (hb1'.mono hs00)
    have HB1 := Lib.hid hb1
    clear hb1'
    have HN := Lib.hid hn
    have hll := split_length hn
    have HPc := Lib.hid (split_piece hn)
    clear hb1 HS
    by_cases h0 : ls = []
    · subst h0
      obtain ⟨a, cap, hu⟩ : ∃ a cap, u = .slice a 0 cap := by
        rcases ho.2 with ⟨hv, _⟩ | ⟨g, cap, cur, hv, _⟩
        · exact ⟨none, 0, hv⟩
        · exact ⟨_, cap, hv⟩
      subst hu
      have HP := Lib.hid (rlen_post (lenVal_empty hn) HB1.out)
      clear hn ho hll
      go_wp2_with fail
      go_ret3
      exact rl_post hcp HP.out
    · have hpos : 0 < ls.length := List.length_pos_iff.2 h0
      obtain ⟨g, cap, hu⟩ : ∃ g cap, u = .slice (some ⟨g, 0, none⟩) ls.length cap := by
        rcases ho.2 with ⟨_, h⟩ | ⟨g, cap, cur, hv, _⟩
        · omega
        · exact ⟨g, cap, hv⟩
      subst hu
      have HO := Lib.hid ho
      have H0 := Lib.hid h0
      have hne : ((ls.length : Int) == 0) = false := by rw [beq_eq_false_iff_ne]; omega
      clear hn ho h0
      go_wp2_with fail
      go_loopw [9, 10] (fun o i wr => ∃ (k : Nat) (n : Int), i = .int .i64 (k : Int) ∧ o = .int .i64 n ∧ NumAt ls k n ∧ w1 = wr) (fun _ i _ => ls.length - (intOf i).toNat)
      case atStart => exact ⟨0, 0, rfl, rfl, ⟨Nat.zero_le _, by simp⟩, rfl⟩
      case round =>
        obtain ⟨k, n, rfl, rfl, hA, rfl⟩ := hrel
        have HA := Lib.hid hA
        have hkl := hA.1
        clear hA
        by_cases hlt : k < ls.length
        · have hxz := HPc.out ls[k] (List.getElem_mem hlt)
          have c1 : w1.cell? ⟨g, k, none⟩ = some (.string ⟨ls[k].toArray⟩) := by rw [World.ownsRow.cellAt HO.out k (by omega), List.getElem?_map, List.getElem?_eq_getElem hlt]; rfl
          obtain ⟨x, hx⟩ : ∃ x : ByteArray, x = ⟨ls[k].toArray⟩ := ⟨_, rfl⟩
          have hxs : x.size ≤ maxLen := by rw [hx]; show ls[k].toArray.size ≤ _; rw [List.size_toArray]; unfold maxLen; omega
          have HXS := Lib.hid hxs
          obtain ⟨R, hR⟩ : ∃ R, R = Num.numOf x 1099511627776 := ⟨_, rfl⟩
          have HR := Lib.hid (show numT ls[k] = R from by rw [hR, hx]; rfl)
          have HC := Lib.hid (show Calls Tryz.prog 90 #[.string x, .int .i64 1099511627776] w1 (fun e w' => e = .returned (.tuple #[.int .i64 R.1, .bool R.2]) ∧ w1 = w') from by rw [hR]; exact Num.refNumber_any x _ w1 hxs (by omega) (by omega))
          rw [← hx] at c1
          clear hx hxz hxs hR
          obtain ⟨N, B⟩ := R
          go_wp2_with fail
          refine HC.out.mono ?_
          rintro e w3 ⟨rfl, rfl⟩
          have HI := HR.out
          by_cases hbad : B = false ∨ (0 < k ∧ N ≠ n)
          · have HP := Lib.hid (rlen_post (lenVal_bad HN.out (HA.out.bad hlt (by rw [HI]; exact hbad))) HB1.out)
            rcases hbad with rfl | ⟨hk0, hNn⟩
            · clear HI HC
              go_wp2_with fail
              go_ret3
              exact rl_post hcp HP.out
            · have hne2 : (N != n) = true := by rw [bne_iff_ne]; exact hNn
              clear HI HC hNn
              cases B with
              | false =>
                go_wp2_with fail
                go_ret3
                exact rl_post hcp HP.out
              | true =>
                go_wp2_with fail
                go_ret3
                exact rl_post hcp HP.out
          · have HX := Lib.hid (show NumAt ls (k + 1) N from by have := HA.out.next hlt (by rw [HI]; exact hbad); rwa [HI] at this)
            obtain rfl : B = true := by
              cases B with
              | true => rfl
              | false => exact absurd (.inl rfl) hbad
            by_cases hk0 : k = 0
            · subst hk0
              clear HI HC hbad
              go_wp2_with fail
              go_roundw
              case rel => exact ⟨0 + 1, N, by go_num, rfl, HX.out, by first | rfl | trivial⟩
              case measure => simp [intOf]; omega
            · have hNn : (N != n) = false := by
                by_cases h : N = n
                · subst h; simp
                · exact absurd (.inr ⟨by omega, h⟩) hbad
              have hk1 : 0 < k := by omega
              clear HI HC hbad hk0
              go_wp2_with fail
              go_roundw
              case rel => exact ⟨k + 1, N, by go_num, rfl, HX.out, by first | rfl | trivial⟩
              case measure => simp [intOf]; omega
        · have HL := Lib.hid (HA.out.last hlt)
          by_cases hbig : 1048576 < n
          · have HP := Lib.hid (rlen_post (lenVal_big HN.out H0.out HL.out hbig) HB1.out)
            go_wp2_with fail
            go_ret3
            exact rl_post hcp HP.out
          · have HP := Lib.hid (rlen_post (lenVal_ok HN.out H0.out HL.out hbig) HB1.out)
            go_wp2_with fail
            go_ret3
            exact rl_post hcp HP.out
theorem names_form {w : World} {base : Nat} {u : Value} {ls : List Bs} (h : w.ownsRow base 9 1 u ls.length (ls.map TS)) : (ls = [] ∧ ∃ a cap, u = .slice a 0 cap) ∨ ∃ g cap x r, ls = x :: r ∧ u = .slice (some ⟨g, 0, none⟩) ls.length cap ∧ w.cell? ⟨g, 0, none⟩ = some (.string ⟨x.toArray⟩) := by
  cases ls with
  | nil =>
    left
    refine ⟨rfl, ?_⟩
    rcases h.2 with ⟨hv, _⟩ | ⟨g, cap, cur, hv, _⟩
    · exact ⟨none, 0, hv⟩
    · exact ⟨_, cap, hv⟩
  | cons x r =>
    right
    rcases h.2 with ⟨_, h0⟩ | ⟨g, cap, cur, hv, _⟩
    · simp at h0
    · subst hv
      refine ⟨g, cap, x, r, rfl, rfl, ?_⟩
      rw [World.ownsRow.cellAt h 0 (by simp)]; rfl
set_option maxRecDepth 100000 in
set_option maxHeartbeats 8000000 in
theorem rof_any (m last : Int) (v : Value) (fs : List Fl) (w : World) (hf : Flds w v fs) (ht : tot fs ≤ 524288) :
    Calls Tryz.prog 35 #[.int .i64 m, v, .int .i64 last] w (TriPost (toldVal m fs last) w) := by
  have HL := Lib.hid (rlength_any v fs w hf ht)
  have HF := Lib.hid hf
  obtain ⟨c, hc⟩ : ∃ c, c = getN fs trE := ⟨_, rfl⟩
  obtain ⟨n, hn⟩ : ∃ n, n = getN fs coL := ⟨_, rfl⟩
  obtain ⟨T1, hT1⟩ : ∃ T1 : ByteArray, T1 = ⟨(getT fs trE).toArray⟩ := ⟨_, rfl⟩
  have hv1 : getVal fs trE = .tuple #[.string T1, .int .i64 (c : Int)] := by rw [hc, hT1]; rfl
  have HV1 := Lib.hid hv1
  have HC := Lib.hid hc
  have HN := Lib.hid hn
  obtain ⟨R, hR⟩ : ∃ R, R = lenVal (getT fs coL) := ⟨_, rfl⟩
  obtain ⟨N, E⟩ := R
  have HR := Lib.hid hR
  rw [← hn] at HL
  clear hf hc hn hT1 hv1 hR
  go_enter Tryz.func35, Tryz.ntmps35
  go_wp2_with fail
  refine HL.out.mono ?_
  intro e w1 hp
  have hb1 : Below w.heap.size w w1 := by
    rcases hp with ⟨_, _, h⟩ | ⟨_, _, h⟩
    · exact h
    · exact h
  have HB1 := Lib.hid hb1
  have hs1 := hb1.size
  obtain ⟨N', B, E', rfl, hNBE⟩ : ∃ (N' : Int) (B : Bool) (E' : Int), e = .returned (.tuple #[.int .i64 N', .bool B, .int .i64 E']) ∧ ((n = 0 ∧ N' = 0 ∧ B = false ∧ E' = 0) ∨ (0 < n ∧ N' = N ∧ B = true ∧ E' = E)) := by
    rcases hp with ⟨h0, he, _⟩ | ⟨h0, he, _⟩
    · exact ⟨0, false, 0, he, .inl ⟨h0, rfl, rfl, rfl⟩⟩
    · exact ⟨N, true, E, by rw [he, ← HR.out], .inr ⟨h0, rfl, rfl, rfl⟩⟩
  have HNBE := Lib.hid hNBE
  have HG1 := Lib.hid (show Calls Tryz.prog 55 #[v, .string ⟨#[116, 114, 97, 110, 115, 102, 101, 114, 45, 101, 110, 99, 111, 100, 105, 110, 103]⟩] w1 (fun e w' => e = .returned (getVal fs trE) ∧ Below w1.heap.size w1 w') from by
    rw [← trE_get]; exact refGet_any v fs _ w1 (HF.out.below hb1 (Nat.le_refl _)) (by omega) (by decide))
  rw [HV1.out] at HG1
  clear hp hb1 hNBE HL
  go_wp2_with fail
  refine HG1.out.mono ?_
  rintro e w2 ⟨rfl, hb2⟩
  have HB2 := Lib.hid (HB1.out.trans (hb2.mono hs1))
  have hs2 : w.heap.size ≤ w2.heap.size := HB2.out.size
  have HNM := Lib.hid (show Calls Tryz.prog 56 #[v, .string ⟨#[116, 114, 97, 110, 115, 102, 101, 114, 45, 101, 110, 99, 111, 100, 105, 110, 103]⟩] w2 (NamesPost (getT fs trE) w2) from by
    rw [← getT_alike trE_low]; exact refNames_any v fs _ w2 (HF.out.below HB2.out (Nat.le_refl _)) (by omega) (by decide))
  clear hb2 HG1 HB1
  by_cases hcp : 0 < c
  · go_wp2_with fail
    refine HNM.out.mono ?_
    intro e w3 hnp
    have hb3 : Below w2.heap.size w2 w3 := hnp.1
    have HB3 := Lib.hid (HB2.out.trans (hb3.mono hs2))
    have HBAD := Lib.hid (fun h => tri_post (w := w) (toldVal_bad (m := m) (fs := fs) (s := last) (by rw [← HC.out]; exact hcp) h) HB3.out)
    have HGOOD := Lib.hid (fun h => tri_post (w := w) (toldVal_chunk (m := m) (fs := fs) (s := last) (by rw [← HC.out]; exact hcp) h) HB3.out)
    obtain ⟨ls, u, ok, rfl, hjc, hform⟩ : ∃ (ls : List Bs) (u : Value) (ok : Bool), e = .returned (.tuple #[u, .bool ok]) ∧ justC fs = (ls == [chk]) ∧ ((ls = [] ∧ ∃ a cap, u = .slice a 0 cap) ∨ ∃ g cap x r, ls = x :: r ∧ u = .slice (some ⟨g, 0, none⟩) ls.length cap ∧ w3.cell? ⟨g, 0, none⟩ = some (.string ⟨x.toArray⟩)) := by
      rcases hnp.2 with ⟨hn0, he⟩ | ⟨ls, u, hn0, he, ho⟩
      · exact ⟨[], _, _, he, by rw [justC_none hn0]; rfl, .inl ⟨rfl, none, 0, rfl⟩⟩
      · exact ⟨ls, u, _, he, justC_some hn0, names_form ho⟩
    have HJ := Lib.hid hjc
    clear hnp hb3 hjc HNM HB2
    by_cases hm0 : m = 0
    · have HP := Lib.hid (HBAD.out (.inl hm0))
      subst hm0
      rcases hform with ⟨_, a, cap, rfl⟩ | ⟨g, cap, x, r, rfl, rfl, c1⟩
      · go_wp2_with fail
        go_ret3
        exact HP.out
      · go_wp2_with fail
        go_ret3
        exact HP.out
    · have hm1 : (m == 0) = false := by rw [beq_eq_false_iff_ne]; exact hm0
      cases B with
      | true =>
        have hnpos : 0 < n := by rcases HNBE.out with ⟨_, _, h, _⟩ | ⟨h, _⟩; cases h; exact h
        have HP := Lib.hid (HBAD.out (.inr (.inl (by rw [← HN.out]; exact hnpos))))
        rcases hform with ⟨_, a, cap, rfl⟩ | ⟨g, cap, x, r, rfl, rfl, c1⟩
        · go_wp2_with fail
          go_ret3
          exact HP.out
        · go_wp2_with fail
          go_ret3
          exact HP.out
      | false =>
        have hn0 : n = 0 := by rcases HNBE.out with ⟨h, _⟩ | ⟨_, _, h, _⟩; exact h; cases h
        rcases hform with ⟨h, a, cap, rfl⟩ | ⟨g, cap, x, r, h, rfl, c1⟩
        · have HP := Lib.hid (HBAD.out (.inr (.inr (by rw [HJ.out, h]; rfl))))
          clear h
          go_wp2_with fail
          go_ret3
          exact HP.out
        · by_cases hr : r = []
          · by_cases hx : x = chk
            · have HP := Lib.hid (HGOOD.out (by rw [HJ.out, h, hr, hx, ← HN.out]; simp; exact ⟨hm0, hn0⟩))
              subst hr hx h
              have hxe : ((⟨chk.toArray⟩ : ByteArray).toList != [99, 104, 117, 110, 107, 101, 100]) = false := by decide +kernel
              have hxf : (!((⟨chk.toArray⟩ : ByteArray).toList == [99, 104, 117, 110, 107, 101, 100])) = false := by decide +kernel
              go_wp2_with fail
              go_ret3
              exact HP.out
            · have HP := Lib.hid (HBAD.out (.inr (.inr (by rw [HJ.out, h, hr, beq_eq_false_iff_ne]; intro e; injection e with e; exact hx e))))
              obtain ⟨X, hX⟩ : ∃ X : ByteArray, X = ⟨x.toArray⟩ := ⟨_, rfl⟩
              have hXl : X.toList = x := by rw [hX]; simp
              have hxf : (!(X.toList == [99, 104, 117, 110, 107, 101, 100])) = true := by rw [hXl]; simp; exact hx
              rw [← hX] at c1
              subst hr h
              clear hX hXl hx HGOOD HBAD
              go_wp2_with fail
              go_ret3
              exact HP.out
          · have HP := Lib.hid (HBAD.out (.inr (.inr (by rw [HJ.out, h, beq_eq_false_iff_ne]; intro e; injection e with _ e; exact hr e))))
            have hl2 : 2 ≤ ls.length := by
              rw [h]
              have := List.length_pos_iff.2 hr
              simp; omega
            have hne : ((ls.length : Int) != 1) = true := by rw [bne_iff_ne]; omega
            clear h hr HGOOD HBAD
            go_wp2_with fail
            go_ret3
            exact HP.out
  · have hc0 : c = 0 := by omega
    have HTN := Lib.hid (fun (h2 : n = 0) => tri_post (w := w) (toldVal_silent (m := m) (fs := fs) (s := last) (by rw [← HC.out]; exact hcp) (by rw [← HN.out]; exact h2)) HB2.out)
    have HTL := Lib.hid (fun (h2 : ¬ n = 0) => (toldVal_len (m := m) (fs := fs) (s := last) (by rw [← HC.out]; exact hcp) (by rw [← HN.out]; exact h2)))
    clear HNM
    rcases HNBE.out with ⟨h0, rfl, rfl, rfl⟩ | ⟨h0, rfl, rfl, rfl⟩
    · have HP := Lib.hid (HTN.out h0)
      go_wp2_with fail
      go_ret3
      exact HP.out
    · have hT := HTL.out (by omega)
      rw [← HR.out] at hT
      by_cases hE : E' = 0
      · subst hE
        have HP := Lib.hid (tri_post (hT.trans (if_pos rfl)) HB2.out)
        clear hT
        go_wp2_with fail
        go_ret3
        exact HP.out
      · have HP := Lib.hid (tri_post (hT.trans (if_neg hE)) HB2.out)
        have hE1 : (E' != 0) = true := by rw [bne_iff_ne]; exact hE
        clear hT
        go_wp2_with fail
        go_ret3
        exact HP.out
set_option maxRecDepth 100000 in
set_option maxHeartbeats 4000000 in
theorem rofRequest_any (a b : ByteArray) (m : Int) (v : Value) (fs : List Fl) (w : World) (hf : Flds w v fs) (ht : tot fs ≤ 524288) :
    Calls Tryz.prog 18 #[.agg #[.string a, .string b, .int .i64 m, v]] w (TriPost (toldVal m fs 0) w) := by
  have hb := (Below.refl w.heap.size w).alloc (Nat.le_refl _) (.cells #[.string a, .string b, .int .i64 m, v] 25)
  have HB := Lib.hid hb
  have HC := Lib.hid (rof_any m 0 v fs _ (hf.below hb (Nat.le_refl _)) ht)
  obtain ⟨va, vc, hv⟩ := hf.shape
  subst hv
  obtain ⟨_, _, c2, c3⟩ := four_cells (new_block w (.cells #[.string a, .string b, .int .i64 m, .slice va fs.length vc] 25))
  clear hf hb
  go_enter Tryz.func18, Tryz.ntmps18
  go_wp2_with fail
  refine HC.out.mono ?_
  intro e w1 hp
  have HP := Lib.hid (hp.at HB.out)
  obtain ⟨rfl, _⟩ := hp
  go_wp2_with fail
  go_ret3
  exact HP.out
set_option maxRecDepth 100000 in
set_option maxHeartbeats 4000000 in
theorem rofResponse_any (m c : Int) (r : ByteArray) (v : Value) (fs : List Fl) (k : ByteArray) (w : World) (hf : Flds w v fs) (ht : tot fs ≤ 524288) :
    Calls Tryz.prog 24 #[.agg #[.int .i64 m, .int .i64 c, .string r, v], .string k] w (TriPost (resVal m c fs k) w) := by
  have hb := (Below.refl w.heap.size w).alloc (Nat.le_refl _) (.cells #[.int .i64 m, .int .i64 c, .string r, v] 32)
  have HB := Lib.hid hb
  have HC := Lib.hid (rof_any m 3 v fs _ (hf.below hb (Nat.le_refl _)) ht)
  obtain ⟨va, vc, hv⟩ := hf.shape
  subst hv
  obtain ⟨c0, c1, _, c3⟩ := four_cells (new_block w (.cells #[.int .i64 m, .int .i64 c, .string r, .slice va fs.length vc] 32))
  clear hf hb
  by_cases h1 : k.toList = [72, 69, 65, 68] ∨ c < 200 ∨ c = 204 ∨ c = 304
  · have HP := Lib.hid (tri_post (w := w) (resVal_none (m := m) (fs := fs) h1) HB.out)
    by_cases k1 : k.toList = [72, 69, 65, 68]
    · have hk1 : (k.toList == [72, 69, 65, 68]) = true := by rw [beq_iff_eq]; exact k1
      clear h1 k1
      go_enter Tryz.func24, Tryz.ntmps24
      go_wp2_with fail
      go_ret3
      exact HP.out
    · have hk1 : (k.toList == [72, 69, 65, 68]) = false := by rw [beq_eq_false_iff_ne]; exact k1
      by_cases c200 : c < 200
      · clear h1 k1
        go_enter Tryz.func24, Tryz.ntmps24
        go_wp2_with fail
        go_ret3
        exact HP.out
      · by_cases c204 : c = 204
        · have d1 : (c == 204) = true := by rw [beq_iff_eq]; exact c204
          clear h1 k1 c204
          go_enter Tryz.func24, Tryz.ntmps24
          go_wp2_with fail
          go_ret3
          exact HP.out
        · have d1 : (c == 204) = false := by rw [beq_eq_false_iff_ne]; exact c204
          have d2 : (c == 304) = true := by
            rw [beq_iff_eq]
            rcases h1 with h | h | h | h
            · exact absurd h k1
            · exact absurd h c200
            · exact absurd h c204
            · exact h
          clear h1 k1 c204
          go_enter Tryz.func24, Tryz.ntmps24
          go_wp2_with fail
          go_ret3
          exact HP.out
  · have hk1 : (k.toList == [72, 69, 65, 68]) = false := by rw [beq_eq_false_iff_ne]; exact fun h => h1 (.inl h)
    have c200 : ¬ c < 200 := fun h => h1 (.inr (.inl h))
    have d1 : (c == 204) = false := by rw [beq_eq_false_iff_ne]; exact fun h => h1 (.inr (.inr (.inl h)))
    have d2 : (c == 304) = false := by rw [beq_eq_false_iff_ne]; exact fun h => h1 (.inr (.inr (.inr h)))
    have HR := Lib.hid (resVal_some (m := m) (fs := fs) h1)
    clear h1
    go_enter Tryz.func24, Tryz.ntmps24
    go_wp2_with fail
    refine HC.out.mono ?_
    intro e w1 hp
    have HP := Lib.hid (show TriPost (resVal m c fs k) w e w1 from by rw [HR.out]; exact hp.at HB.out)
    obtain ⟨rfl, _⟩ := hp
    rw [← HR.out]
    rw [← HR.out] at HP
    go_wp2_with fail
    go_ret3
    exact HP.out
end Go.Proofs.YtcolnidgembniaaGreatDoor.Fr
/-
  gatepostref07.ReadRequest: what it returns. Condition: at most 2^40 bytes.
-/
namespace Go.Proofs.YtcolnidgembniaaGreatDoor.Ms
open Go.RowKit Go.Proofs.YtcolnidgembniaaGreatDoor.Tk Go.Proofs.YtcolnidgembniaaGreatDoor.Fd Go.Proofs.YtcolnidgembniaaGreatDoor.Hd Go.Proofs.YtcolnidgembniaaGreatDoor.Fr
set_option linter.unusedVariables false

def FreshR (resp : Bool) : Array Value := #[.bool resp, .int .i64 0, .string ⟨#[]⟩, .bool false, .string ⟨#[]⟩, .string ⟨#[]⟩, .int .i64 0, .slice none 0 0, .int .i64 0, .int .i64 0, .string ⟨#[]⟩, .slice none 0 0, .slice none 0 0, .bool false, .int .i64 0]
theorem fresh_rr (resp : Bool) : FreshR resp = rr resp 0 (txt []) false .none (.slice none 0 0) false 0 := by cases resp <;> rfl
theorem fresh_rdr (w : World) (resp : Bool) : RRdr (w.alloc (.cells (FreshR resp) 54)) (fun k => k = w.heap.size) resp w.heap.size Hd.start :=
  ⟨.slice none 0 0, by show RBlk _ _ (rr resp 0 (txt []) false .none (.slice none 0 0) false 0); rw [← fresh_rr]; exact new_block _ _, OwnF.nil _ _, rfl, fun k hk => by cases hk⟩
set_option maxRecDepth 100000 in
set_option maxHeartbeats 8000000 in
theorem rreadRequest_any (v : Value) (b : Bs) (w : World) (hv : Byts w v b) (hbl : b.length ≤ 1099511627775) :
    Calls Tryz.prog 6 #[v] w (ReqMsg (msgOf false reqT b false) w) := by
  obtain ⟨va, vc, hvs⟩ := hv.shape
  subst hvs
  obtain ⟨gr, hgr⟩ : ∃ gr, gr = w.heap.size := ⟨_, rfl⟩
  obtain ⟨g, hg⟩ : ∃ g, g = gr + 1 := ⟨_, rfl⟩
  obtain ⟨w1, hw1⟩ : ∃ w1, w1 = w.alloc (.cells #[.string ⟨#[]⟩, .string ⟨#[]⟩, .int .i64 0, .slice none 0 0] 25) := ⟨_, rfl⟩
  obtain ⟨x1, hx1⟩ : ∃ x1, x1 = w1.alloc (.cells (FreshR false) 54) := ⟨_, rfl⟩
  have hb1 : Below w.heap.size w w1 := by rw [hw1]; exact (Below.refl _ _).alloc (Nat.le_refl _) _
  have hs1 : w1.heap.size = g := by rw [hw1, hg, hgr]; simp
  have hbx : Below w1.heap.size w1 x1 := by rw [hx1]; exact (Below.refl _ _).alloc (Nat.le_refl _) _
  have hN1 : w1.heap[gr]? = some (.cells #[.string ⟨#[]⟩, .string ⟨#[]⟩, .int .i64 0, .slice none 0 0] 25 (0, 0)) := by rw [hw1, hgr]; exact new_block _ _
  have hr1 := Bl.old hbx (block_lt hN1) hN1
  have hR1 : RRdr x1 (fun k => k = g) false g Hd.start := by
    have h := fresh_rdr w1 false
    rw [← hx1, hs1] at h
    exact h
  have hbw : Below w.heap.size w x1 := hb1.trans (hbx.mono hb1.size)
  have hsx : x1.heap.size = g + 1 := by rw [hx1, ← hs1]; simp
  have HVO := Lib.hid (fun (hp : 0 < b.length) => (show ∀ k, (Value.slice va b.length vc).ownBlock = some k → k < w.heap.size from fun k hk => by
    rcases hv with ⟨h0, _⟩ | ⟨B, off, cap, hv, _, _, hB, _⟩
    · rw [h0] at hp; simp at hp
    · rw [hv] at hk; injection hk with hk; have hk' : B = k := hk; omega))
  have hFeed := Hd.rfeed_any (fun k => k = g) false g Hd.start (.slice va b.length vc) b x1 hR1 Hd.good_start (hv.below hbw (Nat.le_refl _)) (fun hp k hk => by have := HVO.out hp k hk; omega) (by unfold maxLen; omega)
  unfold Hd.RFeedPost at hFeed
  have hG := Hd.good_run false b Hd.good_start
  have hNl := Hd.run_le false b Hd.start
  have HV := Lib.hid hv
  have HW1 := Lib.hid hw1
  have HX1 := Lib.hid (show w1.alloc (.cells #[.bool false, .int .i64 0, .string ⟨#[]⟩, .bool false, .string ⟨#[]⟩, .string ⟨#[]⟩, .int .i64 0, .slice none 0 0, .int .i64 0, .int .i64 0, .string ⟨#[]⟩, .slice none 0 0, .slice none 0 0, .bool false, .int .i64 0] 54) = x1 from hx1.symm)
  have HGR := Lib.hid hgr
  have HGE := Lib.hid hg
  have HR1 := Lib.hid hr1
  have HBW := Lib.hid hbw
  have hne : gr ≠ g := by omega
  have hgl : w.heap.size ≤ gr := by omega
  have hgg : w.heap.size ≤ g := by omega
  have hwx : w.heap.size ≤ x1.heap.size := by omega
  have HZ := Lib.hid (fun (y : World) (E : Int) (A0 A1 A2 A3 : Value) (h : y.heap[gr]? = some (.cells #[A0, A1, A2, A3] 25 (0, 0))) (hb : Below w.heap.size w y) (hm : msgOf false reqT b false = failed E) => (show ReqMsg (msgOf false reqT b false) w (.returned (.tuple #[.agg #[.string ⟨#[]⟩, .string ⟨#[]⟩, .int .i64 0, .slice none 0 0], .slice none 0 0, .int .i64 0, .int .i64 E])) ((((y.setCell ⟨gr, 0, none⟩ (.string ⟨#[]⟩)).setCell ⟨gr, 1, none⟩ (.string ⟨#[]⟩)).setCell ⟨gr, 2, none⟩ (.int .i64 0)).setCell ⟨gr, 3, none⟩ (.slice none 0 0)) from by
    rw [hm]
    exact ⟨_, none, 0, rfl, OwnF.nil _ _, Nat.zero_le _, Own.nil _ _, put4_below hb hgl _ _ _ _⟩))
  obtain ⟨N, ST, hr⟩ : ∃ N ST, Hd.run false Hd.start b = (N, ST) := ⟨_, _, rfl⟩
  rw [hr] at hFeed hG hNl
  clear hv hw1 hx1 hb1 hs1 hbx hN1 hr1 hR1 hbw hgr hg
  go_enter Tryz.func6, Tryz.ntmps6
  cases ST with
  | bad e0 =>
    have hF2 : Calls Tryz.prog 16 #[.pointer (some ⟨g, 0, none⟩), .slice va b.length vc] x1 (fun e w' => e = .returned (.tuple #[.int .i64 (N : Int), .bool false, .int .i64 (e0 : Int)]) ∧ RRdr w' (Hd.New (fun k => k = g) x1) false g (.bad e0) ∧ Chg (fun k => k = g) x1 w') := hFeed
    have HF := Lib.hid hF2
    have he0 : e0 ≠ 0 := by rcases hG with h | h | h <;> omega
    have eE : ((e0 : Int) != 0) = true := by simp; omega
    have HM := Lib.hid (msg_bad (T := reqT) (fin := false) hr)
    clear hF2 hFeed hr hG hNl
    go_wp2_with fail
    rw [← HW1.out, ← HGR.out, HX1.out, ← HGE.out]
    refine HF.out.mono ?_
    rintro e y ⟨rfl, _, hC⟩
    have HK := Lib.hid (hC.old hne HR1.out)
    have HB := Lib.hid (HBW.out.trans (hC.below (fun k hk => by omega) hwx))
    obtain ⟨r0, r1, r2, r3⟩ := four HK.out
    have f0 := free HK.out 0
    have f1 := free HK.out 1
    have f2 := free HK.out 2
    have f3 := free HK.out 3
    clear hC
    go_wp2_with fail
    refine bodyPost_ret (results_quad rfl _ _ gr 25 _ (0, 0) _ rfl (put4 HK.out _ _ _ _) Tryz.underlying25 rfl infoReq) rfl ?_
    exact HZ.out _ _ _ _ _ _ HK.out HB.out HM.out
  | on p l n fs =>
    have hF2 : Calls Tryz.prog 16 #[.pointer (some ⟨g, 0, none⟩), .slice va b.length vc] x1 (fun e w' => e = .returned (.tuple #[.int .i64 (N : Int), .bool false, .int .i64 0]) ∧ RRdr w' (Hd.New (fun k => k = g) x1) false g (.on p l n fs) ∧ Chg (fun k => k = g) x1 w') := hFeed
    have HF := Lib.hid hF2
    have HM := Lib.hid (msg_on (T := reqT) (fin := false) hr)
    clear hF2 hFeed hr hG hNl
    go_wp2_with fail
    rw [← HW1.out, ← HGR.out, HX1.out, ← HGE.out]
    refine HF.out.mono ?_
    rintro e y ⟨rfl, _, hC⟩
    have HK := Lib.hid (hC.old hne HR1.out)
    have HB := Lib.hid (HBW.out.trans (hC.below (fun k hk => by omega) hwx))
    obtain ⟨r0, r1, r2, r3⟩ := four HK.out
    have f0 := free HK.out 0
    have f1 := free HK.out 1
    have f2 := free HK.out 2
    have f3 := free HK.out 3
    clear hC
    go_wp2_with fail
    refine bodyPost_ret (results_quad rfl _ _ gr 25 _ (0, 0) _ rfl (put4 HK.out _ _ _ _) Tryz.underlying25 rfl infoReq) rfl ?_
    exact HZ.out _ _ _ _ _ _ HK.out HB.out HM.out
  | done q fs =>
    have hF2 : Calls Tryz.prog 16 #[.pointer (some ⟨g, 0, none⟩), .slice va b.length vc] x1 (fun e w' => e = .returned (.tuple #[.int .i64 (N : Int), .bool true, .int .i64 0]) ∧ RRdr w' (Hd.New (fun k => k = g) x1) false g (.done q fs) ∧ Chg (fun k => k = g) x1 w') := hFeed
    have HF := Lib.hid hF2
    have hgo : fs.length ≤ 64 ∧ tot fs ≤ 8192 := hG
    have hfl := hgo.1
    have hft := hgo.2
    have hbp : 0 < b.length := by
      by_cases h0 : b = []
      · rw [h0, Hd.run_nil] at hr; injection hr with _ h; cases h
      · exact List.length_pos_iff.2 h0
    have hms := msg_done (T := reqT) (fin := false) hr
    obtain ⟨t0, t1, t2, hT3⟩ : ∃ t0 t1 t2, toldVal q.m fs 0 = (t0, t1, t2) := ⟨_, _, _, rfl⟩
    have hT4 : reqT q fs = (t0, t1, t2) := hT3
    rw [hT4] at hms
    have HMS := Lib.hid hms
    have HT3 := Lib.hid hT3
    have hNb : N ≤ b.length := hNl
    clear hF2 hFeed hr hG hNl hgo hms hT3 hT4
    go_wp2_with fail
    rw [← HW1.out, ← HGR.out, HX1.out, ← HGE.out]
    refine HF.out.mono ?_
    rintro e x2 ⟨rfl, hR2, hC2⟩
    have HQ := Lib.hid (rrequest_yes _ g q fs x2 hR2 (by omega))
    have hs2 := hC2.size
    have HK2 := Lib.hid (hC2.old hne HR1.out)
    have HB2 := Lib.hid (HBW.out.trans (hC2.below (fun k hk => by omega) hwx))
    have hw2 : w.heap.size ≤ x2.heap.size := by omega
    clear hR2 hC2
    go_wp2_with fail
    refine HQ.out.mono ?_
    rintro e x3 ⟨u, rfl, hf3', hb3⟩
    have hf3 : OwnF x3 x2.heap.size u fs := hf3'
    obtain ⟨ua, uc, hu⟩ := OwnF.form hf3
    subst hu
    obtain ⟨gq, hgq⟩ : ∃ gq, gq = x3.heap.size := ⟨_, rfl⟩
    obtain ⟨x4, hx4⟩ : ∃ x4, x4 = x3.alloc (.cells #[.string q.a, .string q.b, .int .i64 q.m, .slice ua fs.length uc] 25) := ⟨_, rfl⟩
    have hb4 : Below x3.heap.size x3 x4 := by rw [hx4]; exact (Below.refl _ _).alloc (Nat.le_refl _) _
    have HX4 := Lib.hid hx4
    have HGQ := Lib.hid hgq
    have hN4 : x4.heap[gq]? = some (.cells #[.string q.a, .string q.b, .int .i64 q.m, .slice ua fs.length uc] 25 (0, 0)) := by rw [hx4, hgq]; exact new_block _ _
    have hs3 := hb3.size
    have hs4 := hb4.size
    have hb24 : Below x2.heap.size x2 x4 := hb3.trans (hb4.mono hs3)
    have HK4 := Lib.hid (Bl.old hb24 (block_lt HK2.out) HK2.out)
    have HB4 := Lib.hid (HB2.out.trans (hb24.mono hw2))
    have HF4 := Lib.hid (owns_kept hf3 hb4)
    have HO := Lib.hid (rofRequest_any q.a q.b q.m (.slice ua fs.length uc) fs x4 (OwnF.flds (owns_kept hf3 hb4)) (by omega))
    have HN4 := Lib.hid hN4
    have hgq2 : gr ≠ gq := by have := block_lt HK2.out; omega
    have hw4 : w.heap.size ≤ x4.heap.size := by omega
    obtain ⟨p0, p1, p2, p3⟩ := four hN4
    have hO := HO.out
    unfold TriPost at hO
    rw [HT3.out] at hO
    have HO2 := Lib.hid hO
    clear hO HO hx4 hgq hf3' hf3 hb3 hb4 hN4 hb24 HQ
    go_wp2_with fail
    rw [← HX4.out, ← HGQ.out]
    go_wp2_with fail
    refine HO2.out.mono ?_
    rintro e x5 ⟨rfl, hb5⟩
    have hs5 := hb5.size
    have HK5 := Lib.hid (Bl.old hb5 (block_lt HK4.out) HK4.out)
    have HN5 := Lib.hid (Bl.old hb5 (block_lt HN4.out) HN4.out)
    have HB5 := Lib.hid (HB4.out.trans (hb5.mono hw4))
    have HF5 := Lib.hid (owns_kept HF4.out hb5)
    have hw5 : w.heap.size ≤ x5.heap.size := by omega
    clear hb5 p0 p1 p2 p3 HO2 HK4 HN4 HF4
    by_cases ht : t2 = 0
    · subst ht
      obtain ⟨V, hV⟩ : ∃ V, V = bodyOf t0 t1 (b.drop N) false := ⟨_, rfl⟩
      have HRB := Lib.hid (show Calls Tryz.prog 19 #[.slice va b.length vc, .int .i64 (N : Int), .int .i64 t0, .int .i64 t1, .bool false] x5 (RBodyPost N V x5) from by
        rw [hV]; exact rread_any _ b N t0 t1 false x5 (HV.out.below HB5.out (Nat.le_refl _)) hbp hNb hbl)
      obtain ⟨VE, hVE⟩ : ∃ VE, VE = V.1 := ⟨_, rfl⟩
      have HVE := Lib.hid hVE
      have HVV := Lib.hid hV
      clear hV hVE
      go_wp2_with fail
      refine HRB.out.mono ?_
      rintro e x6 ⟨a, c, X, M, rfl, ho6, hb6, hx6⟩
      rw [← HVE.out] at hx6 ⊢
      have hK6 := Bl.old hb6 (block_lt HK5.out) HK5.out
      have hN6 := Bl.old hb6 (block_lt HN5.out) HN5.out
      have HB6 := Lib.hid (HB5.out.trans (hb6.mono hw5))
      have HO6 := Lib.hid ho6
      have HX6 := Lib.hid hx6
      have HF6 := Lib.hid (owns_kept HF5.out hb6)
      have HK6 := Lib.hid hK6
      obtain ⟨r0, r1, r2, r3⟩ := four hK6
      obtain ⟨p0, p1, p2, p3⟩ := four hN6
      have f0 := free hK6 0
      have f1 := free hK6 1
      have f2 := free hK6 2
      have f3 := free hK6 3
      clear hb6 ho6 hx6 hK6 hN6
      by_cases hv0 : VE = 0
      · subst hv0
        have HM := Lib.hid (show msgOf false reqT b false = ⟨0, q, fs, X, M⟩ from by
          obtain ⟨h1, h2⟩ := HX6.out rfl
          have h3 : (bodyOf t0 t1 (b.drop N) false).1 = 0 := by rw [← HVV.out, ← HVE.out]
          rw [HMS.out, behind_ok rfl h3, h1, h2, HVV.out])
        clear HX6
        go_wp2_with fail
        refine bodyPost_ret (results_quad rfl _ _ gr 25 _ (0, 0) _ rfl (put4 HK6.out _ _ _ _) Tryz.underlying25 rfl infoReq) rfl ?_
        rw [HM.out]
        have hgx := block_lt HK2.out
        exact ⟨_, a, c, rfl, Fd.owns_mono (ownF_put4 HF6.out hgx) hw2, hfl, (own_put4 HO6.out (by omega)).mono hw5, put4_below HB6.out hgl _ _ _ _⟩
      · have eE : ((VE : Int) != 0) = true := by simp; omega
        have HM := Lib.hid (show msgOf false reqT b false = failed (VE : Int) from by
          have h3 : (bodyOf t0 t1 (b.drop N) false).1 = VE := by rw [← HVV.out, ← HVE.out]
          rw [HMS.out, behind_body rfl (by show (bodyOf t0 t1 (b.drop N) false).1 ≠ 0; rw [h3]; exact hv0)]
          show failed ((bodyOf t0 t1 (b.drop N) false).1 : Int) = _
          rw [h3])
        clear HX6
        go_wp2_with fail
        refine bodyPost_ret (results_quad rfl _ _ gr 25 _ (0, 0) _ rfl (put4 HK6.out _ _ _ _) Tryz.underlying25 rfl infoReq) rfl ?_
        exact HZ.out _ _ _ _ _ _ HK6.out HB6.out HM.out
    · have eE : ((t2 : Int) != 0) = true := by simp; omega
      have HM := Lib.hid (HMS.out.trans (behind_told ht))
      obtain ⟨r0, r1, r2, r3⟩ := four HK5.out
      have f0 := free HK5.out 0
      have f1 := free HK5.out 1
      have f2 := free HK5.out 2
      have f3 := free HK5.out 3
      go_wp2_with fail
      refine bodyPost_ret (results_quad rfl _ _ gr 25 _ (0, 0) _ rfl (put4 HK5.out _ _ _ _) Tryz.underlying25 rfl infoReq) rfl ?_
      exact HZ.out _ _ _ _ _ _ HK5.out HB5.out HM.out
end Go.Proofs.YtcolnidgembniaaGreatDoor.Ms
/-
  gatepostref07.ReadResponse: what it returns. Condition: at most 2^40 bytes.
-/
namespace Go.Proofs.YtcolnidgembniaaGreatDoor.Ms
open Go.RowKit Go.Proofs.YtcolnidgembniaaGreatDoor.Tk Go.Proofs.YtcolnidgembniaaGreatDoor.Fd Go.Proofs.YtcolnidgembniaaGreatDoor.Hd Go.Proofs.YtcolnidgembniaaGreatDoor.Fr
set_option linter.unusedVariables false

set_option maxRecDepth 100000 in
set_option maxHeartbeats 8000000 in
theorem rreadResponse_any (v : Value) (b : Bs) (k : ByteArray) (fin : Bool) (w : World) (hv : Byts w v b) (hbl : b.length ≤ 1099511627775) :
    Calls Tryz.prog 8 #[v, .string k, .bool fin] w (ResMsg (msgOf true (resT k) b fin) w) := by
  obtain ⟨va, vc, hvs⟩ := hv.shape
  subst hvs
  obtain ⟨gr, hgr⟩ : ∃ gr, gr = w.heap.size := ⟨_, rfl⟩
  obtain ⟨g, hg⟩ : ∃ g, g = gr + 1 := ⟨_, rfl⟩
  obtain ⟨w1, hw1⟩ : ∃ w1, w1 = w.alloc (.cells #[.int .i64 0, .int .i64 0, .string ⟨#[]⟩, .slice none 0 0] 32) := ⟨_, rfl⟩
  obtain ⟨x1, hx1⟩ : ∃ x1, x1 = w1.alloc (.cells (FreshR true) 54) := ⟨_, rfl⟩
  have hb1 : Below w.heap.size w w1 := by rw [hw1]; exact (Below.refl _ _).alloc (Nat.le_refl _) _
  have hs1 : w1.heap.size = g := by rw [hw1, hg, hgr]; simp
  have hbx : Below w1.heap.size w1 x1 := by rw [hx1]; exact (Below.refl _ _).alloc (Nat.le_refl _) _
  have hN1 : w1.heap[gr]? = some (.cells #[.int .i64 0, .int .i64 0, .string ⟨#[]⟩, .slice none 0 0] 32 (0, 0)) := by rw [hw1, hgr]; exact new_block _ _
  have hr1 := Bl.old hbx (block_lt hN1) hN1
  have hR1 : RRdr x1 (fun k => k = g) true g Hd.start := by
    have h := fresh_rdr w1 true
    rw [← hx1, hs1] at h
    exact h
  have hbw : Below w.heap.size w x1 := hb1.trans (hbx.mono hb1.size)
  have hsx : x1.heap.size = g + 1 := by rw [hx1, ← hs1]; simp
  have HVO := Lib.hid (fun (hp : 0 < b.length) => (show ∀ k, (Value.slice va b.length vc).ownBlock = some k → k < w.heap.size from fun k hk => by
    rcases hv with ⟨h0, _⟩ | ⟨B, off, cap, hv, _, _, hB, _⟩
    · rw [h0] at hp; simp at hp
    · rw [hv] at hk; injection hk with hk; have hk' : B = k := hk; omega))
  have hFeed := Hd.rfeed_any (fun k => k = g) true g Hd.start (.slice va b.length vc) b x1 hR1 Hd.good_start (hv.below hbw (Nat.le_refl _)) (fun hp k hk => by have := HVO.out hp k hk; omega) (by unfold maxLen; omega)
  unfold Hd.RFeedPost at hFeed
  have hG := Hd.good_run true b Hd.good_start
  have hNl := Hd.run_le true b Hd.start
  have HV := Lib.hid hv
  have HW1 := Lib.hid hw1
  have HX1 := Lib.hid (show w1.alloc (.cells #[.bool true, .int .i64 0, .string ⟨#[]⟩, .bool false, .string ⟨#[]⟩, .string ⟨#[]⟩, .int .i64 0, .slice none 0 0, .int .i64 0, .int .i64 0, .string ⟨#[]⟩, .slice none 0 0, .slice none 0 0, .bool false, .int .i64 0] 54) = x1 from hx1.symm)
  have HGR := Lib.hid hgr
  have HGE := Lib.hid hg
  have HR1 := Lib.hid hr1
  have HBW := Lib.hid hbw
  have hne : gr ≠ g := by omega
  have hgl : w.heap.size ≤ gr := by omega
  have hgg : w.heap.size ≤ g := by omega
  have hwx : w.heap.size ≤ x1.heap.size := by omega
  have HZ := Lib.hid (fun (y : World) (E : Int) (A0 A1 A2 A3 : Value) (h : y.heap[gr]? = some (.cells #[A0, A1, A2, A3] 32 (0, 0))) (hb : Below w.heap.size w y) (hm : msgOf true (resT k) b fin = failed E) => (show ResMsg (msgOf true (resT k) b fin) w (.returned (.tuple #[.agg #[.int .i64 0, .int .i64 0, .string ⟨#[]⟩, .slice none 0 0], .slice none 0 0, .int .i64 0, .int .i64 E])) ((((y.setCell ⟨gr, 0, none⟩ (.int .i64 0)).setCell ⟨gr, 1, none⟩ (.int .i64 0)).setCell ⟨gr, 2, none⟩ (.string ⟨#[]⟩)).setCell ⟨gr, 3, none⟩ (.slice none 0 0)) from by
    rw [hm]
    exact ⟨_, none, 0, rfl, OwnF.nil _ _, Nat.zero_le _, Own.nil _ _, put4_below hb hgl _ _ _ _⟩))
  obtain ⟨N, ST, hr⟩ : ∃ N ST, Hd.run true Hd.start b = (N, ST) := ⟨_, _, rfl⟩
  rw [hr] at hFeed hG hNl
  clear hv hw1 hx1 hb1 hs1 hbx hN1 hr1 hR1 hbw hgr hg
  go_enter Tryz.func8, Tryz.ntmps8
  cases ST with
  | bad e0 =>
    have hF2 : Calls Tryz.prog 16 #[.pointer (some ⟨g, 0, none⟩), .slice va b.length vc] x1 (fun e w' => e = .returned (.tuple #[.int .i64 (N : Int), .bool false, .int .i64 (e0 : Int)]) ∧ RRdr w' (Hd.New (fun k => k = g) x1) true g (.bad e0) ∧ Chg (fun k => k = g) x1 w') := hFeed
    have HF := Lib.hid hF2
    have he0 : e0 ≠ 0 := by rcases hG with h | h | h <;> omega
    have eE : ((e0 : Int) != 0) = true := by simp; omega
    have HM := Lib.hid (msg_bad (T := (resT k)) (fin := fin) hr)
    clear hF2 hFeed hr hG hNl
    go_wp2_with fail
    rw [← HW1.out, ← HGR.out, HX1.out, ← HGE.out]
    refine HF.out.mono ?_
    rintro e y ⟨rfl, _, hC⟩
    have HK := Lib.hid (hC.old hne HR1.out)
    have HB := Lib.hid (HBW.out.trans (hC.below (fun k hk => by omega) hwx))
    obtain ⟨r0, r1, r2, r3⟩ := four HK.out
    have f0 := free HK.out 0
    have f1 := free HK.out 1
    have f2 := free HK.out 2
    have f3 := free HK.out 3
    clear hC
    go_wp2_with fail
    refine bodyPost_ret (results_quad rfl _ _ gr 32 _ (0, 0) _ rfl (put4 HK.out _ _ _ _) Tryz.underlying32 rfl infoRes) rfl ?_
    exact HZ.out _ _ _ _ _ _ HK.out HB.out HM.out
  | on p l n fs =>
    have hF2 : Calls Tryz.prog 16 #[.pointer (some ⟨g, 0, none⟩), .slice va b.length vc] x1 (fun e w' => e = .returned (.tuple #[.int .i64 (N : Int), .bool false, .int .i64 0]) ∧ RRdr w' (Hd.New (fun k => k = g) x1) true g (.on p l n fs) ∧ Chg (fun k => k = g) x1 w') := hFeed
    have HF := Lib.hid hF2
    have HM := Lib.hid (msg_on (T := (resT k)) (fin := fin) hr)
    clear hF2 hFeed hr hG hNl
    go_wp2_with fail
    rw [← HW1.out, ← HGR.out, HX1.out, ← HGE.out]
    refine HF.out.mono ?_
    rintro e y ⟨rfl, _, hC⟩
    have HK := Lib.hid (hC.old hne HR1.out)
    have HB := Lib.hid (HBW.out.trans (hC.below (fun k hk => by omega) hwx))
    obtain ⟨r0, r1, r2, r3⟩ := four HK.out
    have f0 := free HK.out 0
    have f1 := free HK.out 1
    have f2 := free HK.out 2
    have f3 := free HK.out 3
    clear hC
    go_wp2_with fail
    refine bodyPost_ret (results_quad rfl _ _ gr 32 _ (0, 0) _ rfl (put4 HK.out _ _ _ _) Tryz.underlying32 rfl infoRes) rfl ?_
    exact HZ.out _ _ _ _ _ _ HK.out HB.out HM.out
  | done q fs =>
    have hF2 : Calls Tryz.prog 16 #[.pointer (some ⟨g, 0, none⟩), .slice va b.length vc] x1 (fun e w' => e = .returned (.tuple #[.int .i64 (N : Int), .bool true, .int .i64 0]) ∧ RRdr w' (Hd.New (fun k => k = g) x1) true g (.done q fs) ∧ Chg (fun k => k = g) x1 w') := hFeed
    have HF := Lib.hid hF2
    have hgo : fs.length ≤ 64 ∧ tot fs ≤ 8192 := hG
    have hfl := hgo.1
    have hft := hgo.2
    have hbp : 0 < b.length := by
      by_cases h0 : b = []
      · rw [h0, Hd.run_nil] at hr; injection hr with _ h; cases h
      · exact List.length_pos_iff.2 h0
    have hms := msg_done (T := (resT k)) (fin := fin) hr
    obtain ⟨t0, t1, t2, hT3⟩ : ∃ t0 t1 t2, resVal q.m q.c fs k = (t0, t1, t2) := ⟨_, _, _, rfl⟩
    have hT4 : (resT k) q fs = (t0, t1, t2) := hT3
    rw [hT4] at hms
    have HMS := Lib.hid hms
    have HT3 := Lib.hid hT3
    have hNb : N ≤ b.length := hNl
    clear hF2 hFeed hr hG hNl hgo hms hT3 hT4
    go_wp2_with fail
    rw [← HW1.out, ← HGR.out, HX1.out, ← HGE.out]
    refine HF.out.mono ?_
    rintro e x2 ⟨rfl, hR2, hC2⟩
    have HQ := Lib.hid (rresponse_yes _ g q fs x2 hR2 (by omega))
    have hs2 := hC2.size
    have HK2 := Lib.hid (hC2.old hne HR1.out)
    have HB2 := Lib.hid (HBW.out.trans (hC2.below (fun k hk => by omega) hwx))
    have hw2 : w.heap.size ≤ x2.heap.size := by omega
    clear hR2 hC2
    go_wp2_with fail
    refine HQ.out.mono ?_
    rintro e x3 ⟨u, rfl, hf3', hb3⟩
    have hf3 : OwnF x3 x2.heap.size u fs := hf3'
    obtain ⟨ua, uc, hu⟩ := OwnF.form hf3
    subst hu
    obtain ⟨gq, hgq⟩ : ∃ gq, gq = x3.heap.size := ⟨_, rfl⟩
    obtain ⟨x4, hx4⟩ : ∃ x4, x4 = x3.alloc (.cells #[.int .i64 q.m, .int .i64 q.c, .string q.a, .slice ua fs.length uc] 32) := ⟨_, rfl⟩
    have hb4 : Below x3.heap.size x3 x4 := by rw [hx4]; exact (Below.refl _ _).alloc (Nat.le_refl _) _
    have HX4 := Lib.hid hx4
    have HGQ := Lib.hid hgq
    have hN4 : x4.heap[gq]? = some (.cells #[.int .i64 q.m, .int .i64 q.c, .string q.a, .slice ua fs.length uc] 32 (0, 0)) := by rw [hx4, hgq]; exact new_block _ _
    have hs3 := hb3.size
    have hs4 := hb4.size
    have hb24 : Below x2.heap.size x2 x4 := hb3.trans (hb4.mono hs3)
    have HK4 := Lib.hid (Bl.old hb24 (block_lt HK2.out) HK2.out)
    have HB4 := Lib.hid (HB2.out.trans (hb24.mono hw2))
    have HF4 := Lib.hid (owns_kept hf3 hb4)
    have HO := Lib.hid (rofResponse_any q.m q.c q.a (.slice ua fs.length uc) fs k x4 (OwnF.flds (owns_kept hf3 hb4)) (by omega))
    have HN4 := Lib.hid hN4
    have hgq2 : gr ≠ gq := by have := block_lt HK2.out; omega
    have hw4 : w.heap.size ≤ x4.heap.size := by omega
    obtain ⟨p0, p1, p2, p3⟩ := four hN4
    have hO := HO.out
    unfold TriPost at hO
    rw [HT3.out] at hO
    have HO2 := Lib.hid hO
    clear hO HO hx4 hgq hf3' hf3 hb3 hb4 hN4 hb24 HQ
    go_wp2_with fail
    rw [← HX4.out, ← HGQ.out]
    go_wp2_with fail
    refine HO2.out.mono ?_
    rintro e x5 ⟨rfl, hb5⟩
    have hs5 := hb5.size
    have HK5 := Lib.hid (Bl.old hb5 (block_lt HK4.out) HK4.out)
    have HN5 := Lib.hid (Bl.old hb5 (block_lt HN4.out) HN4.out)
    have HB5 := Lib.hid (HB4.out.trans (hb5.mono hw4))
    have HF5 := Lib.hid (owns_kept HF4.out hb5)
    have hw5 : w.heap.size ≤ x5.heap.size := by omega
    clear hb5 p0 p1 p2 p3 HO2 HK4 HN4 HF4
    by_cases ht : t2 = 0
    · subst ht
      obtain ⟨V, hV⟩ : ∃ V, V = bodyOf t0 t1 (b.drop N) fin := ⟨_, rfl⟩
      have HRB := Lib.hid (show Calls Tryz.prog 19 #[.slice va b.length vc, .int .i64 (N : Int), .int .i64 t0, .int .i64 t1, .bool fin] x5 (RBodyPost N V x5) from by
        rw [hV]; exact rread_any _ b N t0 t1 fin x5 (HV.out.below HB5.out (Nat.le_refl _)) hbp hNb hbl)
      obtain ⟨VE, hVE⟩ : ∃ VE, VE = V.1 := ⟨_, rfl⟩
      have HVE := Lib.hid hVE
      have HVV := Lib.hid hV
      clear hV hVE
      go_wp2_with fail
      refine HRB.out.mono ?_
      rintro e x6 ⟨a, c, X, M, rfl, ho6, hb6, hx6⟩
      rw [← HVE.out] at hx6 ⊢
      have hK6 := Bl.old hb6 (block_lt HK5.out) HK5.out
      have hN6 := Bl.old hb6 (block_lt HN5.out) HN5.out
      have HB6 := Lib.hid (HB5.out.trans (hb6.mono hw5))
      have HO6 := Lib.hid ho6
      have HX6 := Lib.hid hx6
      have HF6 := Lib.hid (owns_kept HF5.out hb6)
      have HK6 := Lib.hid hK6
      obtain ⟨r0, r1, r2, r3⟩ := four hK6
      obtain ⟨p0, p1, p2, p3⟩ := four hN6
      have f0 := free hK6 0
      have f1 := free hK6 1
      have f2 := free hK6 2
      have f3 := free hK6 3
      clear hb6 ho6 hx6 hK6 hN6
      by_cases hv0 : VE = 0
      · subst hv0
        have HM := Lib.hid (show msgOf true (resT k) b fin = ⟨0, q, fs, X, M⟩ from by
          obtain ⟨h1, h2⟩ := HX6.out rfl
          have h3 : (bodyOf t0 t1 (b.drop N) fin).1 = 0 := by rw [← HVV.out, ← HVE.out]
          rw [HMS.out, behind_ok rfl h3, h1, h2, HVV.out])
        clear HX6
        go_wp2_with fail
        refine bodyPost_ret (results_quad rfl _ _ gr 32 _ (0, 0) _ rfl (put4 HK6.out _ _ _ _) Tryz.underlying32 rfl infoRes) rfl ?_
        rw [HM.out]
        have hgx := block_lt HK2.out
        exact ⟨_, a, c, rfl, Fd.owns_mono (ownF_put4 HF6.out hgx) hw2, hfl, (own_put4 HO6.out (by omega)).mono hw5, put4_below HB6.out hgl _ _ _ _⟩
      · have eE : ((VE : Int) != 0) = true := by simp; omega
        have HM := Lib.hid (show msgOf true (resT k) b fin = failed (VE : Int) from by
          have h3 : (bodyOf t0 t1 (b.drop N) fin).1 = VE := by rw [← HVV.out, ← HVE.out]
          rw [HMS.out, behind_body rfl (by show (bodyOf t0 t1 (b.drop N) fin).1 ≠ 0; rw [h3]; exact hv0)]
          show failed ((bodyOf t0 t1 (b.drop N) fin).1 : Int) = _
          rw [h3])
        clear HX6
        go_wp2_with fail
        refine bodyPost_ret (results_quad rfl _ _ gr 32 _ (0, 0) _ rfl (put4 HK6.out _ _ _ _) Tryz.underlying32 rfl infoRes) rfl ?_
        exact HZ.out _ _ _ _ _ _ HK6.out HB6.out HM.out
    · have eE : ((t2 : Int) != 0) = true := by simp; omega
      have HM := Lib.hid (HMS.out.trans (behind_told ht))
      obtain ⟨r0, r1, r2, r3⟩ := four HK5.out
      have f0 := free HK5.out 0
      have f1 := free HK5.out 1
      have f2 := free HK5.out 2
      have f3 := free HK5.out 3
      go_wp2_with fail
      refine bodyPost_ret (results_quad rfl _ _ gr 32 _ (0, 0) _ rfl (put4 HK5.out _ _ _ _) Tryz.underlying32 rfl infoRes) rfl ?_
      exact HZ.out _ _ _ _ _ _ HK5.out HB5.out HM.out
end Go.Proofs.YtcolnidgembniaaGreatDoor.Ms
/-
  message.ReadResponse: what it returns. Conditions: at most 2^40 bytes; the tables.
-/
namespace Go.Proofs.YtcolnidgembniaaGreatDoor.Ms
open Go.RowKit Go.Proofs.YtcolnidgembniaaGreatDoor.Tk Go.Proofs.YtcolnidgembniaaGreatDoor.Fd Go.Proofs.YtcolnidgembniaaGreatDoor.Hd Go.Proofs.YtcolnidgembniaaGreatDoor.Fr
set_option linter.unusedVariables false

set_option maxRecDepth 100000 in
set_option maxHeartbeats 8000000 in
theorem readResponse_any (v : Value) (b : Bs) (k : ByteArray) (fin : Bool) (w : World) (hv : Byts w v b) (hbl : b.length ≤ 1099511627775) (hT : Tab w) (hE : ErrV w) :
    Calls Tryz.prog 7 #[v, .string k, .bool fin] w (ResMsg (msgOf true (resT k) b fin) w) := by
  have htl := hT.lt
  have hel := hE.lt
  obtain ⟨va, vc, hvs⟩ := hv.shape
  subst hvs
  obtain ⟨gm, hgm⟩ : ∃ gm, gm = w.heap.size := ⟨_, rfl⟩
  obtain ⟨gr, hgr⟩ : ∃ gr, gr = gm + 1 := ⟨_, rfl⟩
  obtain ⟨w0, hw0⟩ : ∃ w0, w0 = w.alloc (.cells #[.string k] 9) := ⟨_, rfl⟩
  have hs0 : w0.heap.size = gr := by rw [hw0, hgr, hgm]; simp
  have hN0 : w0.heap[gm]? = some (.cells #[.string k] 9 (0, 0)) := by rw [hw0, hgm]; exact new_block _ _
  obtain ⟨w1, hw1⟩ : ∃ w1, w1 = w0.alloc (.cells #[.int .i64 0, .int .i64 0, .string ⟨#[]⟩, .slice none 0 0] 32) := ⟨_, rfl⟩
  have hb0 : Below w.heap.size w w0 := by rw [hw0]; exact (Below.refl _ _).alloc (Nat.le_refl _) _
  have hb01 : Below w0.heap.size w0 w1 := by rw [hw1]; exact (Below.refl _ _).alloc (Nat.le_refl _) _
  have hb1 : Below w.heap.size w w1 := hb0.trans (hb01.mono hb0.size)
  have hs1 : w1.heap.size = w.heap.size + 1 + 1 := by rw [hw1]; simp; omega
  have hN1 : w1.heap[gr]? = some (.cells #[.int .i64 0, .int .i64 0, .string ⟨#[]⟩, .slice none 0 0] 32 (0, 0)) := by rw [hw1, ← hs0]; exact new_block _ _
  have hm1 := Bl.old hb01 (block_lt hN0) hN0
  have HGM := Lib.hid hgm
  have HGE : gm + 1 = gr := hgr.symm
  have HW0 := Lib.hid hw0
  have HW1 := Lib.hid hw1
  have hgl : w.heap.size ≤ gr := by omega
  have hgu : gr < w1.heap.size := by omega
  have hgml : w.heap.size ≤ gm := by omega
  have hgmu : gm < w1.heap.size := by omega
  have HVO := Lib.hid (fun (hp : 0 < b.length) => (show ∀ k, (Value.slice va b.length vc).ownBlock = some k → k < w.heap.size from fun k hk => by
    rcases hv with ⟨h0, _⟩ | ⟨B, off, cap, hv, _, _, hB, _⟩
    · rw [h0] at hp; simp at hp
    · rw [hv] at hk; injection hk with hk; have hk' : B = k := hk; omega))
  have HV := Lib.hid hv
  have HT := Lib.hid hT
  have HE := Lib.hid hE
  clear hw0 hw1 hb0 hb01 hN0 hgm hgr hs0 hv hT hE
  go_enter Tryz.func7, Tryz.ntmps7
  go_wp2_with fail
  rw [← HW0.out, ← HGM.out, ← HW1.out, HGE]
  refine (Hd.new_any true w1).mono ?_
  rintro e x1 ⟨g, rfl, hR1, hbx1⟩
  obtain ⟨gb, hgb⟩ : ∃ gb, gb = x1.heap.size := ⟨_, rfl⟩
  obtain ⟨x2, hx2⟩ : ∃ x2, x2 = x1.alloc (.cells #[.pointer (some ⟨g, 0, none⟩)] 41) := ⟨_, rfl⟩
  have hbx2 : Below x1.heap.size x1 x2 := by rw [hx2]; exact (Below.refl _ _).alloc (Nat.le_refl _) _
  have hNb : x2.heap[gb]? = some (.cells #[.pointer (some ⟨g, 0, none⟩)] 41 (0, 0)) := by rw [hx2, hgb]; exact new_block _ _
  have hs2 := hbx1.size
  have hs3 : x2.heap.size = x1.heap.size + 1 := by rw [hx2]; simp
  have hbw : Below w.heap.size w x2 := (hb1.trans (hbx1.mono hb1.size)).trans (hbx2.mono (by omega))
  have hR2 : Rdr x2 (fun k => w1.heap.size ≤ k ∧ k < x1.heap.size) true g Hd.start := (hR1.bound.mono (fun k h => h)).below hbx2
  have hr2 := Bl.old (hbx1.trans (hbx2.mono hbx1.size)) hgu hN1
  have hm2 := Bl.old (hbx1.trans (hbx2.mono hbx1.size)) hgmu hm1
  have hT2 := HT.out.below hbw HT.out.lt
  have hrd := read3_any true (fun k => w1.heap.size ≤ k ∧ k < x1.heap.size) (fun k => k = gr) (fun y => ∃ A0 A1 A2 A3, y.heap[gr]? = some (.cells #[A0, A1, A2, A3] 32 (0, 0))) (fun q fs y => ResAt gr x2.heap.size q fs y) (resT k) g (.pointer (some ⟨gb, 0, none⟩)) (.pointer (some ⟨gr, 0, none⟩)) (.pointer (some ⟨gm, 0, none⟩)) (.slice va b.length vc) b fin x2
    hR2 (HV.out.below hbw (Nat.le_refl _)) (fun hp k hk => by have := HVO.out hp k hk; refine ⟨?_, ?_, ?_⟩ <;> omega) hbl hT2 (HE.out.below hbw) (by rintro ⟨h, _⟩; omega) (by rintro ⟨h, _⟩; omega) (by intro h; omega) (by intro h; omega) (fun k hk => by omega)
    (fun q fs hq x hx hC => by
      have hG := Hd.good_run true b Hd.good_start
      rw [hq] at hG
      refine (answered_any (Hd.New (fun k => w1.heap.size ≤ k ∧ k < x1.heap.size) x2) gb gr g k gm q fs _ _ _ _ x (hC.old (by rintro ⟨_, h⟩; omega) hNb) (hC.old (by rintro ⟨h, _⟩; omega) hr2) (hC.old (by rintro ⟨h, _⟩; omega) hm2) hx hG.1 hG.2 (tab_chg hT2 hC (by rintro ⟨h, _⟩; omega)) (by intro h; omega)).mono ?_
      rintro e y ⟨he, hy, v, h1, h2⟩
      exact ⟨he, hy, v, h1, Fd.owns_mono h2 hC.size⟩)
    (fun q fs x y h hb => h.below hb) (fun x hC => ⟨_, _, _, _, hC.old (by rintro ⟨h, _⟩; omega) hr2⟩) (fun q fs x h => by obtain ⟨v, h, _⟩ := h; exact ⟨_, _, _, _, h⟩)
  have HRD := Lib.hid hrd
  have HX2 := Lib.hid hx2
  have HGB := Lib.hid hgb
  have HBW := Lib.hid hbw
  have hgx : gr < x2.heap.size := by omega
  have hwx : w.heap.size ≤ x2.heap.size := by omega
  have hwx1 : w.heap.size ≤ w1.heap.size := by omega
  clear hrd hx2 hgb hbx2 hNb hR2 hR1 hr2 hT2 hbw hbx1 hN1 hb1
  go_wp2_with fail
  rw [← HX2.out, ← HGB.out]
  refine HRD.out.mono ?_
  rintro e y ⟨a, c, X, M, E, rfl, hown, hC, ⟨A0, A1, A2, A3, hJ⟩, hbad, hok⟩
  have HB := Lib.hid (HBW.out.trans (hC.below (fun k hk => by rcases hk with ⟨h, _⟩ | h <;> omega) hwx))
  clear hC HRD
  by_cases hE0 : E = 0
  · subst hE0
    obtain ⟨q, fs, hm, hl, ht, v', hk, hf⟩ := hok rfl
    obtain ⟨va', vc', hv'⟩ := OwnF.form hf
    subst hv'
    have HM := Lib.hid hm
    have HL := Lib.hid hl
    have HK := Lib.hid hk
    have HF := Lib.hid hf
    have HO := Lib.hid hown
    obtain ⟨r0, r1, r2, r3⟩ := four hk
    have f0 := free hk 0
    have f1 := free hk 1
    have f2 := free hk 2
    have f3 := free hk 3
    clear hm hl ht hk hf hown hJ hbad hok
    go_wp2_with fail
    refine bodyPost_ret (results_quad rfl _ _ gr 32 _ (0, 0) _ rfl (put4 HK.out _ _ _ _) Tryz.underlying32 rfl infoRes) rfl ?_
    rw [HM.out]
    exact ⟨_, a, c, rfl, Fd.owns_mono (ownF_put4 HF.out hgx) hwx, HL.out, (own_put4 HO.out hgx).mono hwx, put4_below HB.out hgl _ _ _ _⟩
  · have hm := hbad hE0
    have HM := Lib.hid hm
    have eE : ((E : Int) != 0) = true := by simp; omega
    have HK := Lib.hid hJ
    obtain ⟨r0, r1, r2, r3⟩ := four hJ
    have f0 := free hJ 0
    have f1 := free hJ 1
    have f2 := free hJ 2
    have f3 := free hJ 3
    clear hm hJ hbad hok hown
    go_wp2_with fail
    refine bodyPost_ret (results_quad rfl _ _ gr 32 _ (0, 0) _ rfl (put4 HK.out _ _ _ _) Tryz.underlying32 rfl infoRes) rfl ?_
    rw [HM.out]
    exact ⟨_, none, 0, rfl, OwnF.nil _ _, Nat.zero_le _, Own.nil _ _, put4_below HB.out hgl _ _ _ _⟩
end Go.Proofs.YtcolnidgembniaaGreatDoor.Ms
/-
  gatepostref04.Same at two slices that read as the same fields: true. Condition: at most 2^40 fields.
-/
namespace Go.Proofs.YtcolnidgembniaaGreatDoor.Fd
open Go.RowKit Tk
set_option linter.unusedVariables false

set_option maxHeartbeats 2000000 in
theorem sameL_any (v u : Value) (fs : List Fl) (w : World) (hv : Flds w v fs) (hu : Flds w u fs) (hl : fs.length ≤ 1099511627776) :
    Calls Tryz.prog 25 #[v, u] w fun e w' => e = .returned (.bool true) ∧ ∃ n, w' = w.drewN n := by
  by_cases h0 : fs.length = 0
  · obtain rfl : fs = [] := List.length_eq_zero_iff.1 h0
    obtain ⟨a, cap, rfl⟩ := hv.shape
    obtain ⟨b, cap2, rfl⟩ := hu.shape
    clear hv hu h0
    go_enter Tryz.func25, Tryz.ntmps25
    go_wp2_with fail
    refine wp_loop_rounds 1 ?_
    rw [rounds_succ]
    go_wp2_with fail
    go_ret
    exact ⟨rfl, 0, rfl⟩
  · rcases hv with ⟨h, _⟩ | ⟨g, off, cap, rfl, _, hc⟩
    · rw [h] at h0; exact absurd rfl h0
    rcases hu with ⟨h, _⟩ | ⟨g2, off2, cap2, rfl, _, hc2⟩
    · rw [h] at h0; exact absurd rfl h0
    have hne : ((fs.length : Int) != (fs.length : Int)) = false := by simp
    have HC := Lib.hid hc
    have HC2 := Lib.hid hc2
    clear hc hc2 h0
    go_enter Tryz.func25, Tryz.ntmps25
    go_wp2_with fail
    go_loopw [5] (fun i wr => ∃ k : Nat, k ≤ fs.length ∧ i = .int .i64 (k : Int) ∧ ∃ n, wr = w.drewN n) (fun i _ => fs.length - (intOf i).toNat)
    case atStart => exact ⟨0, Nat.zero_le _, rfl, ⟨0, rfl⟩⟩
    case round =>
      obtain ⟨k, hk, rfl, n, hw⟩ := hrel
      have HW := Lib.hid hw
      by_cases hlt : k < fs.length
      · have c1 : wr.cell? ⟨g, off + k * 2, none⟩ = some (.string fs[k].1) := by rw [hw]; exact (HC.out k hlt).1
        have c2 : wr.cell? ⟨g, off + k * 2 + 1, none⟩ = some (.string fs[k].2) := by rw [hw]; exact (HC.out k hlt).2
        have d1 : wr.cell? ⟨g2, off2 + k * 2, none⟩ = some (.string fs[k].1) := by rw [hw]; exact (HC2.out k hlt).1
        have d2 : wr.cell? ⟨g2, off2 + k * 2 + 1, none⟩ = some (.string fs[k].2) := by rw [hw]; exact (HC2.out k hlt).2
        obtain ⟨x, hx⟩ : ∃ x, x = fs[k].1 := ⟨_, rfl⟩
        obtain ⟨y, hy⟩ : ∃ y, y = fs[k].2 := ⟨_, rfl⟩
        rw [← hx] at c1 d1
        rw [← hy] at c2 d2
        have ht : (!(x.toList == x.toList)) = false := by simp
        have hu : (!(y.toList == y.toList)) = false := by simp
        clear hx hy hw
        go_wp2_with fail
        go_quiet (fail)
        go_wp2_with fail
        go_roundw
        case rel => exact ⟨k + 1, by omega, by go_num, _, by rw [HW.out, World.drewN_drewN]⟩
        case measure => simp [intOf]; omega
      · clear hw
        go_wp2_with fail
        go_ret
        exact ⟨rfl, n, HW.out⟩
end Go.Proofs.YtcolnidgembniaaGreatDoor.Fd
/-
  gatepostref05's SameRequest and SameResponse at two heads of the same parts and fields: true.
-/
namespace Go.Proofs.YtcolnidgembniaaGreatDoor.Hd
open Go.RowKit Go.Proofs.YtcolnidgembniaaGreatDoor.Tk Go.Proofs.YtcolnidgembniaaGreatDoor.Fd
set_option linter.unusedVariables false

set_option maxRecDepth 100000 in
set_option maxHeartbeats 2000000 in
theorem sameReq_any (H : Parts × List Fl × Nat) (v u : Value) (w : World) (hv : Flds w v H.2.1) (hu : Flds w u H.2.1) (hl : H.2.1.length ≤ 1099511627776) :
    Calls Tryz.prog 9 #[.agg #[.string H.1.a, .string H.1.b, .int .i64 H.1.m, v], .agg #[.string H.1.a, .string H.1.b, .int .i64 H.1.m, u]] w fun e w' => e = .returned (.bool true) ∧ Below w.heap.size w w' := by
  obtain ⟨q, fs, er⟩ := H
  have HV := Lib.hid hv
  have HU := Lib.hid hu
  obtain ⟨va, vc, hv1⟩ := hv.shape
  obtain ⟨ua, uc, hu1⟩ := hu.shape
  obtain ⟨x, hx⟩ : ∃ x, x = q.a := ⟨_, rfl⟩
  obtain ⟨y, hy⟩ : ∃ y, y = q.b := ⟨_, rfl⟩
  obtain ⟨m, hm⟩ : ∃ m, m = q.m := ⟨_, rfl⟩
  obtain ⟨c, hc⟩ : ∃ c, c = q.c := ⟨_, rfl⟩
  simp only [← hx, ← hy, ← hm]
  have e1 : (x.toList == x.toList) = true := by simp
  have e2 : (y.toList == y.toList) = true := by simp
  have e3 : (m == m) = true := by simp
  have e4 : (c == c) = true := by simp
  have HB := Lib.hid (fun (o1 o2 : Obj) => ((Below.refl w.heap.size w).alloc (Nat.le_refl _) o1).alloc (by simp) o2)
  have HN := Lib.hid (fun (o1 o2 : Obj) (n : Nat) => (show Below w.heap.size w (((w.alloc o1).alloc o2).drewN n) from ⟨(HB.out o1 o2).os, (HB.out o1 o2).tape, (HB.out o1 o2).output, (HB.out o1 o2).size, (HB.out o1 o2).block⟩))
  subst hv1 hu1
  clear hv hu hx hy hm hc
  go_enter Tryz.func9, Tryz.ntmps9
  go_wp2_with fail
  refine (sameL_any _ _ fs _ (HV.out.below (HB.out _ _) (Nat.le_refl _)) (HU.out.below (HB.out _ _) (Nat.le_refl _)) hl).mono ?_
  rintro e w' ⟨rfl, n, rfl⟩
  go_wp2_with fail
  go_ret
  exact ⟨rfl, HN.out _ _ _⟩
set_option maxRecDepth 100000 in
set_option maxHeartbeats 2000000 in
theorem sameRes_any (H : Parts × List Fl × Nat) (v u : Value) (w : World) (hv : Flds w v H.2.1) (hu : Flds w u H.2.1) (hl : H.2.1.length ≤ 1099511627776) :
    Calls Tryz.prog 10 #[.agg #[.int .i64 H.1.m, .int .i64 H.1.c, .string H.1.a, v], .agg #[.int .i64 H.1.m, .int .i64 H.1.c, .string H.1.a, u]] w fun e w' => e = .returned (.bool true) ∧ Below w.heap.size w w' := by
  obtain ⟨q, fs, er⟩ := H
  have HV := Lib.hid hv
  have HU := Lib.hid hu
  obtain ⟨va, vc, hv1⟩ := hv.shape
  obtain ⟨ua, uc, hu1⟩ := hu.shape
  obtain ⟨x, hx⟩ : ∃ x, x = q.a := ⟨_, rfl⟩
  obtain ⟨y, hy⟩ : ∃ y, y = q.b := ⟨_, rfl⟩
  obtain ⟨m, hm⟩ : ∃ m, m = q.m := ⟨_, rfl⟩
  obtain ⟨c, hc⟩ : ∃ c, c = q.c := ⟨_, rfl⟩
  simp only [← hx, ← hm, ← hc]
  have e1 : (x.toList == x.toList) = true := by simp
  have e2 : (y.toList == y.toList) = true := by simp
  have e3 : (m == m) = true := by simp
  have e4 : (c == c) = true := by simp
  have HB := Lib.hid (fun (o1 o2 : Obj) => ((Below.refl w.heap.size w).alloc (Nat.le_refl _) o1).alloc (by simp) o2)
  have HN := Lib.hid (fun (o1 o2 : Obj) (n : Nat) => (show Below w.heap.size w (((w.alloc o1).alloc o2).drewN n) from ⟨(HB.out o1 o2).os, (HB.out o1 o2).tape, (HB.out o1 o2).output, (HB.out o1 o2).size, (HB.out o1 o2).block⟩))
  subst hv1 hu1
  clear hv hu hx hy hm hc
  go_enter Tryz.func10, Tryz.ntmps10
  go_wp2_with fail
  refine (sameL_any _ _ fs _ (HV.out.below (HB.out _ _) (Nat.le_refl _)) (HU.out.below (HB.out _ _) (Nat.le_refl _)) hl).mono ?_
  rintro e w' ⟨rfl, n, rfl⟩
  go_wp2_with fail
  go_ret
  exact ⟨rfl, HN.out _ _ _⟩
end Go.Proofs.YtcolnidgembniaaGreatDoor.Hd
/-
  Whole lines that a reader reads: plain functions on bytes. No program, no condition.
-/
namespace Go.Proofs.YtcolnidgembniaaGreatDoor.Hd
open Go.Proofs.YtcolnidgembniaaGreatDoor.Tk Go.Proofs.YtcolnidgembniaaGreatDoor.Fd Go.Proofs.YtcolnidgembniaaGreatDoor.Ln
set_option linter.unusedVariables false

theorem ended_first {resp : Bool} {t : Bs} {n : Nat} {fs : List Fl} (ht : t ≠ []) (he : (firstOf resp (txt t)).2 = 0) : ended resp none n fs t = .on (some (firstOf resp (txt t)).1) [] n fs := by
  show (if t = [] then _ else _) = _
  rw [if_neg ht, if_pos he]
theorem ended_skip {resp : Bool} {n : Nat} {fs : List Fl} : ended resp none n fs [] = .on none [] n fs := rfl
theorem ended_last {resp : Bool} {q : Parts} {n : Nat} {fs : List Fl} : ended resp (some q) n fs [] = .done q fs := rfl
theorem ended_full {resp : Bool} {q : Parts} {n : Nat} {fs : List Fl} {t : Bs} (ht : t ≠ []) (hl : fs.length = 64) : ended resp (some q) n fs t = .bad 3 := by
  show (if t = [] then _ else _) = _
  rw [if_neg ht, if_pos hl]
theorem ended_field {resp : Bool} {q : Parts} {n : Nat} {fs : List Fl} {t : Bs} (ht : t ≠ []) (hl : fs.length ≠ 64) (he : (fldOf (txt t)).2 = 0) : ended resp (some q) n fs t = .on (some q) [] n (fs ++ [(fldOf (txt t)).1]) := by
  show (if t = [] then _ else _) = _
  rw [if_neg ht, if_neg hl, if_pos he]
/-- A line that ends, from its beginning on. -/
theorem run_whole {resp : Bool} {p : Option Parts} {n : Nat} {fs : List Fl} {t r : Bs} (h10 : ∀ c ∈ t, c ≠ 10) (hn : n + t.length < 8192) (hm : t.length < most p) :
    run resp (.on p [] n fs) (t ++ 10 :: r) = (t.length + 1 + (run resp (ended resp p (n + t.length + 1) fs (own t)) r).1, (run resp (ended resp p (n + t.length + 1) fs (own t)) r).2) := by
  have := run_line (resp := resp) (b := t) (r := r) (p := p) (l := []) (n := n) (fs := fs) h10 (by unfold room; simp; omega)
  simpa using this
theorem run_end {resp : Bool} {q : Parts} {n : Nat} {fs : List Fl} {r : Bs} (hn : n < 8192) : run resp (.on (some q) [] n fs) (10 :: r) = (1, .done q fs) := by
  have := run_whole (resp := resp) (p := some q) (n := n) (fs := fs) (t := []) (r := r) (by simp) (by simpa using hn) (by simp [most])
  rw [List.nil_append] at this
  rw [this, show own [] = [] from rfl, ended_last, run_over rfl]
  rfl

/-! GET / HTTP/1.1 -/
def getL : Bs := [71, 69, 84, 32, 47, 32, 72, 84, 84, 80, 47, 49, 46, 49]
def getP : Parts := ⟨1, 0, ⟨#[71, 69, 84]⟩, ⟨#[47]⟩⟩
theorem get_first : firstOf false (txt getL) = (getP, 0) := by kernel_rfl
theorem get_run (r : Bs) : run false start (getL ++ 10 :: r) = (15 + (run false (.on (some getP) [] 15 []) r).1, (run false (.on (some getP) [] 15 []) r).2) := by
  have h := run_whole (resp := false) (p := none) (n := 0) (fs := []) (t := getL) (r := r) (by decide) (by decide) (by decide)
  have e : ended false none (0 + getL.length + 1) [] (own getL) = .on (some getP) [] 15 [] := by
    have h2 := ended_first (resp := false) (t := getL) (n := 15) (fs := []) (by decide) (by rw [get_first])
    rw [get_first] at h2
    exact h2
  rw [e] at h
  exact h
/-! Lines 'a: b'. -/
def abL : Bs := [97, 58, 32, 98]
def abF : Fl := (⟨#[97]⟩, ⟨#[98]⟩)
theorem ab_fld : fldOf (txt abL) = (abF, 0) := by kernel_rfl
def reps : Nat → Bs
  | 0 => []
  | n + 1 => abL ++ 10 :: reps n
theorem reps_length (n : Nat) : (reps n).length = 5 * n := by
  induction n with
  | zero => rfl
  | succ n ih => show (abL ++ 10 :: reps n).length = _; simp [abL, ih]; omega
theorem reps_snoc (n : Nat) : reps (n + 1) = reps n ++ (abL ++ [10]) := by
  induction n with
  | zero => rfl
  | succ n ih =>
    show abL ++ 10 :: reps (n + 1) = (abL ++ 10 :: reps n) ++ (abL ++ [10])
    rw [ih]; simp
/-- Fields as long as there is room. -/
theorem reps_run (k : Nat) (q : Parts) (n : Nat) (fs : List Fl) (r : Bs) (hk : fs.length + k ≤ 64) (hn : n + 5 * k < 8192) :
    run false (.on (some q) [] n fs) (reps k ++ r) = (5 * k + (run false (.on (some q) [] (n + 5 * k) (fs ++ List.replicate k abF)) r).1, (run false (.on (some q) [] (n + 5 * k) (fs ++ List.replicate k abF)) r).2) := by
  induction k generalizing n fs with
  | zero => simp [reps]
  | succ k ih =>
    have h := run_whole (resp := false) (p := some q) (n := n) (fs := fs) (t := abL) (r := reps k ++ r) (by decide) (by simp [abL]; omega) (by simp [abL, most])
    have e : ended false (some q) (n + abL.length + 1) fs (own abL) = .on (some q) [] (n + 5) (fs ++ [abF]) := by
      have h2 := ended_field (resp := false) (q := q) (n := n + 5) (fs := fs) (t := abL) (by decide) (by omega) (by rw [ab_fld])
      rw [ab_fld] at h2
      exact h2
    rw [e, ih (n + 5) (fs ++ [abF]) (by simp; omega) (by omega)] at h
    show run false _ ((abL ++ 10 :: reps k) ++ r) = _
    rw [List.append_assoc, List.cons_append, h, List.append_assoc, show [abF] ++ List.replicate k abF = List.replicate (k + 1) abF from by rw [List.replicate_succ]; rfl, show n + 5 + 5 * k = n + 5 * (k + 1) from by omega]
    simp only [Prod.mk.injEq, and_true]
    simp [abL]; omega
/-- As many fields as there are, and what comes of them. -/
theorem many_run (n : Nat) (hn : n ≤ 67) : doneOf (run false start (getL ++ 10 :: (reps n ++ [10]))).2 = decide (n ≤ 64) ∧ errOf (run false start (getL ++ 10 :: (reps n ++ [10]))).2 = if n ≤ 64 then 0 else 3 := by
  rw [get_run]
  by_cases h : n ≤ 64
  · rw [reps_run n getP 15 [] [10] (by simpa using h) (by omega), run_end (by omega)]
    simp [doneOf, errOf, h]
  · obtain ⟨m, rfl⟩ : ∃ m, n = 64 + (m + 1) := ⟨n - 65, by omega⟩
    have hs : reps (64 + (m + 1)) ++ [10] = reps 64 ++ (abL ++ 10 :: (reps m ++ [10])) := by
      have : ∀ a b, reps (a + b) = reps a ++ reps b := by
        intro a b
        induction a with
        | zero => simp [reps]
        | succ a ih => rw [show a + 1 + b = (a + b) + 1 from by omega]; show abL ++ 10 :: reps (a + b) = (abL ++ 10 :: reps a) ++ reps b; rw [ih]; simp
      rw [this]
      show reps 64 ++ (abL ++ 10 :: reps m) ++ [10] = _
      simp
    rw [hs, reps_run 64 getP 15 [] _ (by simp) (by omega)]
    have h := run_whole (resp := false) (p := some getP) (n := 15 + 5 * 64) (fs := [] ++ List.replicate 64 abF) (t := abL) (r := reps m ++ [10]) (by decide) (by simp [abL]) (by decide)
    rw [ended_full (t := own abL) (by decide) (by simp), run_over (s := .bad 3) rfl] at h
    rw [h]
    have : ¬ 64 + (m + 1) ≤ 64 := by omega
    simp [doneOf, errOf]
/-! A field as long as may be. -/
def xs (k : Nat) : Bs := List.replicate k 120
theorem xs_val (k : Nat) : isVal (xs k) = true := by
  unfold isVal xs
  cases k with
  | zero => rfl
  | succ k =>
    have h1 : (List.replicate (k + 1) (120 : UInt8)).all textByte = true := by
      rw [List.all_eq_true]; intro c hc; rw [List.eq_of_mem_replicate hc]; decide
    have h2 : (List.replicate (k + 1) (120 : UInt8)).headD 0 = 120 := rfl
    have h3 : (List.replicate (k + 1) (120 : UInt8)).getLastD 0 = 120 := by
      rw [List.getLastD_eq_getLast?, List.getLast?_replicate]; simp
    rw [h1, h2, h3]
    have h4 : Tk.blank (120 : UInt8) = false := by decide
    rw [h4]
    simp
theorem two_of {a b c d : Value} (h : Value.tuple #[a, b] = Value.tuple #[c, d]) : b = d := by
  injection h with h
  injection h with h
  injection h with _ h
  injection h
theorem fld_x (k : Nat) : (fldOf (txt ([97, 58, 32] ++ xs k))).2 = 0 := by
  have hf : isFld (⟨#[97]⟩ : ByteArray).data.toList (⟨(xs k).toArray⟩ : ByteArray).data.toList = true := by
    have h1 : isTok (⟨#[97]⟩ : ByteArray).data.toList = true := by decide
    have h2 : isVal (⟨(xs k).toArray⟩ : ByteArray).data.toList = true := xs_val k
    unfold isFld; rw [h1, h2]; rfl
  have h := parse_line hf
  have e : (⟨#[97]⟩ ++ ⟨#[58, 32]⟩ ++ ⟨(xs k).toArray⟩ : ByteArray) = txt ([97, 58, 32] ++ xs k) := by
    apply bytes_eq
    rw [line_data]
    rfl
  rw [e, parseVal_of] at h
  have h2 := two_of h
  clear h hf e
  generalize (fldOf (txt ([97, 58, 32] ++ xs k))).2 = z at h2 ⊢
  injection h2 with _ h2
  omega
theorem own_x (k : Nat) : own ([97, 58, 32] ++ xs k) = [97, 58, 32] ++ xs k := by
  unfold own
  rw [if_neg]
  intro h
  cases k with
  | zero => simp [xs] at h
  | succ k =>
    have : ([97, 58, 32] ++ xs (k + 1)).getLast? = some 120 := by
      rw [List.getLast?_append, xs, List.getLast?_replicate]; simp
    rw [this] at h; exact absurd h (by decide)
theorem x_no (k : Nat) : ∀ c ∈ [97, 58, 32] ++ xs k, c ≠ 10 := by
  intro c hc
  rw [List.mem_append] at hc
  rcases hc with hc | hc
  · revert hc; revert c; decide
  · rw [List.eq_of_mem_replicate hc]; decide
theorem long_run (k : Nat) (hk : k ≤ 8205) : (k + 18 + 2 ≤ 8192 → (run false start (getL ++ 10 :: ([97, 58, 32] ++ xs k ++ [10, 10]))).1 = k + 20 ∧ doneOf (run false start (getL ++ 10 :: ([97, 58, 32] ++ xs k ++ [10, 10]))).2 = true ∧ errOf (run false start (getL ++ 10 :: ([97, 58, 32] ++ xs k ++ [10, 10]))).2 = 0) ∧
    (8192 < k + 18 + 2 → (run false start (getL ++ 10 :: ([97, 58, 32] ++ xs k ++ [10, 10]))).1 = 8193 ∧ doneOf (run false start (getL ++ 10 :: ([97, 58, 32] ++ xs k ++ [10, 10]))).2 = false ∧ errOf (run false start (getL ++ 10 :: ([97, 58, 32] ++ xs k ++ [10, 10]))).2 = 3) := by
  have hl : ([97, 58, 32] ++ xs k).length = k + 3 := by simp [xs]
  rw [get_run]
  by_cases h8 : 15 + (k + 3) < 8192
  · have h := run_whole (resp := false) (p := some getP) (n := 15) (fs := []) (t := [97, 58, 32] ++ xs k) (r := [10]) (x_no k) (by rw [hl]; exact h8) (by rw [hl]; simp only [most, Option.isNone_some]; simp; omega)
    rw [own_x, hl, ended_field (by simp) (by simp) (fld_x k)] at h
    rw [show [97, 58, 32] ++ xs k ++ [10, 10] = [97, 58, 32] ++ xs k ++ 10 :: [10] from rfl, h]
    refine ⟨fun h2 => ?_, fun h2 => ?_⟩
    · rw [run_end (by omega)]
      exact ⟨by show 15 + (k + 3 + 1 + 1) = _; omega, rfl, rfl⟩
    · have e : 15 + (k + 3) + 1 = 8192 := by omega
      rw [e, run_cons rfl, step_on, if_pos (by simp [room, most]), run_nil]
      exact ⟨by show 15 + (k + 3 + 1 + (0 + 1)) = _; omega, rfl, rfl⟩
  · have hb : room (some getP) [] 15 < ([97, 58, 32] ++ xs k ++ [10, 10]).length := by rw [List.length_append, hl]; simp [room, most]; omega
    have hr : room (some getP) [] 15 = 8177 := by simp [room, most]
    have h := run_big (resp := false) (b := [97, 58, 32] ++ xs k ++ [10, 10]) (p := some getP) (l := []) (n := 15) (fs := []) (fun c hc => by
      rw [hr, List.take_append_of_le_length (by rw [hl]; omega)] at hc
      exact x_no k c (List.mem_of_mem_take hc)) hb
    rw [h, hr]
    exact ⟨fun h2 => by omega, fun _ => ⟨rfl, rfl, rfl⟩⟩
end Go.Proofs.YtcolnidgembniaaGreatDoor.Hd
