/-
  HeadMany: as many fields as may be are read, and one more is too many; so are bytes.
  Conditions: the listed tables hold what the program's text lays (the card ties them).
-/
import Derived.Test.YtlnlihkljnkhiaaDoorTabs
import Derived.Test.YtlnlihkljnkhiaaDoorFdOpen
import Derived.SizedLaws
import Derived.Carry
import Derived.Test.YtlnlihkljnkhiaaDoorHdLawKit
import Derived.ArgAppend
import Derived.WideKeyPair
namespace Go.Proofs.YtlnlihkljnkhiaaDoor.headMany
open Go.ChangeShapes Go.WideShapes Go.ChangeAt Go.RowKit
open Go.ChangeMaps (open_string shut_string)
set_option linter.unusedVariables false

open Go.Proofs.YtlnlihkljnkhiaaDoor.Hd Go.Proofs.YtlnlihkljnkhiaaDoor.Fd Go.Proofs.YtlnlihkljnkhiaaDoor.Tk

theorem txt_add (a b : Bs) : txt a ++ ⟨b.toArray⟩ = txt (a ++ b) := bytes_eq (by simp [txt])
theorem txt_data (a : Bs) : (txt a).data.toList = a := rfl
theorem many_text (k : Nat) : txt (getL ++ 10 :: reps k) ++ ⟨#[97, 58, 32, 98, 10]⟩ = txt (getL ++ 10 :: reps (k + 1)) := by
  rw [show (⟨#[97, 58, 32, 98, 10]⟩ : ByteArray) = ⟨(abL ++ [10]).toArray⟩ from rfl, txt_add, reps_snoc]; simp
theorem many_last (k : Nat) : txt (getL ++ 10 :: reps k) ++ ⟨#[10]⟩ = txt (getL ++ 10 :: (reps k ++ [10])) := by
  rw [show (⟨#[10]⟩ : ByteArray) = ⟨([10] : Bs).toArray⟩ from rfl, txt_add]; simp
theorem many_size (k : Nat) : (txt (getL ++ 10 :: reps k)).size = 15 + 5 * k := by rw [txt_size]; simp [getL, reps_length]; omega
theorem str_eq {a b : ByteArray} (h : a = b) : Value.string a = Value.string b := by rw [h]

def c18 : Array Value := #[.int .u8 71, .int .u8 69, .int .u8 84, .int .u8 32, .int .u8 47, .int .u8 32, .int .u8 72, .int .u8 84, .int .u8 84, .int .u8 80, .int .u8 47, .int .u8 49, .int .u8 46, .int .u8 49, .int .u8 10, .int .u8 97, .int .u8 58, .int .u8 32]
def hd18 : Bs := getL ++ 10 :: [97, 58, 32]
theorem c18_eq : c18.toList = bys hd18 := by kernel_rfl
def lenOf : Value → Nat
  | .slice _ n _ => n
  | _ => 0
/-- The text that grows: still the constant's row, or one of its own. -/
def TRow (wr : World) (B G : Nat) (u : Value) (k : Nat) : Prop :=
  (k = 0 ∧ u = .slice (some ⟨G, 0, none⟩) 18 18 ∧ wr.heap[G]? = some (.cells c18 5 (18, 19))) ∨ wr.ownsRow B 5 1 u (18 + k) (bys (hd18 ++ xs k))
theorem TRow.shape {wr : World} {B G : Nat} {u : Value} {k : Nat} (h : TRow wr B G u k) : ∃ a c, u = .slice a (18 + k) c := by
  rcases h with ⟨rfl, h, _⟩ | ⟨_, h⟩
  · exact ⟨_, _, h⟩
  · rcases h with ⟨_, h0⟩ | ⟨g, cap, cur, h, _⟩
    · omega
    · exact ⟨_, _, h⟩
theorem xs_snoc (k : Nat) : bys (hd18 ++ xs k) ++ [.int .u8 120] = bys (hd18 ++ xs (k + 1)) := by
  rw [show xs (k + 1) = xs k ++ [120] from by unfold xs; rw [List.replicate_succ'], ← List.append_assoc, bys_append (hd18 ++ xs k)]; rfl
theorem xs_len (k : Nat) : (hd18 ++ xs k).length = 18 + k := by simp [hd18, getL, xs]; omega
def LongAt (w : World) (G : Nat) (q k : Nat) (u : Value) (wr : World) : Prop := 18 + k ≤ 8160 + q ∧ TRow wr w.heap.size G u k ∧ Below w.heap.size w wr ∧ w.heap.size ≤ G ∧ G < wr.heap.size
theorem one_at (w : World) (x : Value) : ∀ j u, [x][j]? = some u → (w.alloc (.cells #[x] 5)).cell? ((⟨w.heap.size, 0, none⟩ : Addr).add j) = some u := cell_one_new w x _
theorem one_cell (n : Int) : ∀ u ∈ [Value.int .u8 n], u.oneCell' = true := by intro u hu; simp at hu; subst hu; rfl
theorem byts_row {w : World} {base g n cap : Nat} {l : Bs} (h : w.ownsRow base 5 1 (.slice (some ⟨g, 0, none⟩) n cap) n (bys l)) (hn : l.length = n) : Byts w (.slice (some ⟨g, 0, none⟩) n cap) l := by
  subst hn
  have h0 : OwnB w (.slice (some ⟨g, 0, none⟩) l.length cap) l := owns_mono h (Nat.zero_le _)
  rcases h.2 with ⟨hv, _⟩ | ⟨g', cap', cur, hv, _, hh, hlc, hcm, _⟩
  · cases hv
  · injection hv with e1 _ e3
    injection e1 with e1
    injection e1 with e1
    subst e1 e3
    exact .inr ⟨g, 0, cap, rfl, hlc, hcm, block_lt hh, OwnB.holds h0 rfl⟩
theorem tens : ∀ u ∈ [Value.int .u8 10, Value.int .u8 10], u.oneCell' = true := by intro u hu; simp at hu; subst hu; rfl

set_option maxHeartbeats 16000000 in
set_option maxRecDepth 100000 in
theorem walk (a0 : Int) (w0 : (Lit.int .i64 a0).wf = true) (a1 : Int) (w1 : (Lit.int .i64 a1).wf = true) (w : World) (hT : Tk.Tab w) :
    Calls Tryd.prog 5 #[.int .i64 a0, .int .i64 a1] w fun e w' => e = .returned (.bool true) ∧ Below w.heap.size w w' := by
  obtain ⟨r, hr, hr7⟩ := mask_nat a0 7 (by omega)
  obtain ⟨q, hq, hq63⟩ := mask_nat a1 63 (by omega)
  have hr' : bits BinOp.and IntKind.i64 a0 7 = (r : Int) := hr
  have hq' : bits BinOp.and IntKind.i64 a1 63 = (q : Int) := hq
  have HT := Lib.hid hT
  have htl := hT.lt
  have hconv := run_bytes
  clear hr hq w0 w1 hT
  go_enter Tryd.func5, Tryd.ntmps5
  go_wp2_with fail
  go_loop [5, 6] (fun s i => ∃ k : Nat, k ≤ 60 + r ∧ i = .int .i64 (k : Int) ∧ s = .string (txt (getL ++ 10 :: reps k))) (fun _ i => 60 + r - (intOf i).toNat)
  case atStart => exact ⟨0, Nat.zero_le _, rfl, rfl⟩
  case round =>
    obtain ⟨k, hk, rfl, rfl⟩ := hrel
    have HM := Lib.hid (many_text k)
    have hsz := many_size k
    by_cases hlt : k < 60 + r
    · go_wp2_with fail
      go_round
      case rel => exact ⟨k + 1, by omega, by go_num, str_eq HM.out⟩
      case measure => simp [intOf]; omega
    · obtain rfl : k = 60 + r := by omega
      have HL := Lib.hid (many_last (60 + r))
      have hbd : (txt (getL ++ 10 :: reps (60 + r))).size ≤ 400 := by rw [hsz]; omega
      clear hsz HM
      go_wp2_with fail
      rw [HL.out]
      refine (new_any false _).mono ?_
      rintro e x1 ⟨g, rfl, hR1, hb1⟩
      obtain ⟨S, hS⟩ : ∃ S, S = txt (getL ++ 10 :: (reps (60 + r) ++ [10])) := ⟨_, rfl⟩
      have hSs : S.size ≤ 1000 := by rw [hS, txt_size]; simp [getL, reps_length]; omega
      have hrun := many_run (60 + r) (by omega)
      rw [← txt_data (getL ++ 10 :: (reps (60 + r) ++ [10])), ← hS] at hrun
      rw [← hS]
      have HR1 := Lib.hid hR1
      have HRn := Lib.hid hrun
      have HB1 := Lib.hid hb1
      have hx1 := hb1.size
      clear hS hrun HL hR1 hb1 hbd
      go_wp2_with fail
      refine (feed_text w.heap.size false g x1 S HR1.out (by omega) (HT.out.below HB1.out htl) htl hx1).mono ?_
      rintro e x2 ⟨rfl, _, hb2⟩
      rw [HRn.out.1, HRn.out.2]
      have HB2 := Lib.hid (HB1.out.trans hb2)
      clear hb2 hconv
      have kc := fun (w : World) (C : Array Value) (n c : Nat) => Lib.run_convert_bytes_const (P := Tryd.prog) w 22 5 C n c Tryd.underlying22 Tryd.underlying5
      have HX := Lib.hid (show LongAt w x2.heap.size q 0 (.slice (some ⟨x2.heap.size, 0, none⟩) 18 18) (x2.alloc (.cells c18 5 (18, 19))) from ⟨by omega, .inl ⟨rfl, rfl, new_block _ _⟩, HB2.out.alloc HB2.out.size _, HB2.out.size, by simp⟩)
      obtain ⟨i0, hi, hz0, hz1, hz2⟩ := info_parts infoByte3
      by_cases h64 : 60 + r ≤ 64
      case' pos => rw [show decide (60 + r ≤ 64) = true from by simpa using h64, if_pos h64]
      case' neg => rw [show decide (60 + r ≤ 64) = false from by simpa using h64, if_neg h64]
      all_goals
        go_wp2_with fail
        clear HR1 HRn HB1 HB2 kc
        obtain ⟨G, hG⟩ : ∃ G, G = x2.heap.size := ⟨_, rfl⟩
        rw [← hG] at HX
        rw [← hG]
        go_loopw [10] (fun u wr => ∃ k : Nat, LongAt w G q k u wr) (fun u _ => 8160 + q - lenOf u)
        case atStart => exact ⟨0, HX.out⟩
        case round =>
          obtain ⟨k, hL⟩ := hrel
          obtain ⟨ua, uc, hsh⟩ := hL.2.1.shape
          subst hsh
          obtain ⟨hk, hrow, hbw, hG1, hG2⟩ := hL
          have hbs := hbw.size
          have HBW := Lib.hid hbw
          clear HX hbw hG
          by_cases hlt : 18 + k < 8160 + q
          · rcases hrow with ⟨hk0, hu, hh⟩ | hrow
            · subst hk0
              injection hu with e1 e2 e3
              subst e1 e3
              have HH := Lib.hid (fun (b : Addr) (hb : some (⟨G, 0, none⟩ : Addr) = some b) (j : Nat) (u : Value) (hj : c18.toList[j]? = some u) => (show (wr.alloc (.cells #[.int .u8 120] 5)).cell? (b.add j) = some u from by
                injection hb with hb; subst hb
                exact World.news_of_block ((old_block wr _ hG2).trans hh) j u hj))
              have HO1 := Lib.hid (one_at wr (.int .u8 120))
              clear hh e2
              go_wp2_with (at_builtin; refine wpList_append_grows _ rfl _ _ 22 rfl 5 i0 (.int .u8 0) 1 1 Tryd.underlying22 hi hz0 hz1 hz2 rfl (by decide) (some ⟨G, 0, none⟩) 18 18 c18.toList rfl (fun h => by cases h) rfl HH.out ⟨wr.heap.size, 0, none⟩ 1 1 [.int .u8 120] rfl rfl HO1.out (one_cell 120) (by decide) (by unfold maxLen; omega) (by omega) ?_; intro v' w3 hown hgrow)
              have HB3 := Lib.hid ((HBW.out.alloc hbs (.cells #[.int .u8 120] 5)).grown hgrow (by simp; omega) (fun k hk => by cases hk))
              have hrow3 : TRow w3 w.heap.size G v' (0 + 1) := .inr (by
                have h1 := owns_mono hown (base' := w.heap.size) (by simp; omega)
                rw [c18_eq] at h1
                have h2 := xs_snoc 0
                rw [show hd18 ++ xs 0 = hd18 from by simp [xs]] at h2
                rw [h2] at h1
                exact h1)
              obtain ⟨va, vc, hv⟩ := hrow3.shape
              subst hv
              have HL3 := Lib.hid (show LongAt w G q (0 + 1) (.slice va (18 + (0 + 1)) vc) w3 from ⟨by omega, hrow3, HB3.out, hG1, by have := hgrow.size; simp at this; omega⟩)
              clear hown hgrow hrow3
              go_wp2_with fail
              go_roundw
              case rel => exact ⟨0 + 1, HL3.out⟩
              case measure => simp [lenOf]; omega
            · have HRW := Lib.hid (owns_kept hrow ((Below.refl wr.heap.size wr).alloc (Nat.le_refl _) (.cells #[.int .u8 120] 5)))
              have HO1 := Lib.hid (one_at wr (.int .u8 120))
              clear hrow
              go_wp2_with (at_builtin; refine wpList_append_own _ rfl _ _ 22 rfl w.heap.size 5 i0 (.int .u8 0) 1 1 Tryd.underlying22 hi hz0 hz1 hz2 rfl (by decide) _ _ _ rfl HRW.out ⟨wr.heap.size, 0, none⟩ 1 1 [.int .u8 120] rfl rfl HO1.out (one_cell 120) (by unfold maxLen; omega) (by omega) (by simp; omega) ?_; intro v' w3 hown hgrow hnil)
              have HB3 := Lib.hid ((HBW.out.alloc hbs (.cells #[.int .u8 120] 5)).grown hgrow (by simp; omega) (fun j hj => (World.ownsRow.lt HRW.out j hj).1))
              have hrow3 : TRow w3 w.heap.size G v' (k + 1) := .inr (by rw [xs_snoc] at hown; exact hown)
              obtain ⟨va, vc, hv⟩ := hrow3.shape
              subst hv
              have HL3 := Lib.hid (show LongAt w G q (k + 1) (.slice va (18 + (k + 1)) vc) w3 from ⟨by omega, hrow3, HB3.out, hG1, by have := hgrow.size; simp at this; omega⟩)
              clear hown hgrow hrow3 hnil
              go_wp2_with fail
              go_roundw
              case rel => exact ⟨k + 1, HL3.out⟩
              case measure => simp [lenOf]; omega
          · have hkq1 : k ≤ 8142 + q := by omega
            have hkq2 : 8142 + q ≤ k := by omega
            rcases hrow with ⟨hk0, _⟩ | hrow
            · omega
            have hub := fun j hj => (World.ownsRow.lt hrow j hj).2
            have HRW := Lib.hid hrow
            have HLR := Lib.hid (long_run k (by omega))
            have hxl := xs_len k
            clear hrow
            go_wp2_with fail
            refine (new_any false _).mono ?_
            rintro e x4 ⟨g4, rfl, hR4, hb4⟩
            have HB4 := Lib.hid hb4
            have HR4 := Lib.hid (hR4.bound.below ((Below.refl x4.heap.size x4).alloc (Nat.le_refl _) (.cells #[.int .u8 10, .int .u8 10] 5)))
            have HRW4 := Lib.hid (owns_kept (owns_kept HRW.out hb4) ((Below.refl x4.heap.size x4).alloc (Nat.le_refl _) (.cells #[.int .u8 10, .int .u8 10] 5)))
            have HN4 := Lib.hid (World.news_of_block (new_block x4 (.cells #[.int .u8 10, .int .u8 10] 5)))
            have hs4 := hb4.size
            clear hR4 hb4
            go_wp2_with (at_builtin; refine wpList_append_lies _ rfl _ _ 22 rfl w.heap.size 5 i0 (.int .u8 0) 1 1 Tryd.underlying22 hi hz0 hz1 hz2 rfl (by decide) _ _ _ rfl HRW4.out ⟨x4.heap.size, 0, none⟩ 2 2 [.int .u8 10, .int .u8 10] rfl rfl HN4.out tens (by decide) (by unfold maxLen; omega) (by omega) (by simp; omega) _ rfl ?_; intro g5 cap5 w5 hown5 hgrow5 hat5 hlt5)
            have hC5 := (Chg.refl (fun j => (Value.slice ua (18 + k) uc).ownBlock = some j) (x4.alloc (.cells #[.int .u8 10, .int .u8 10] 5))).grown hgrow5 (fun j hj => .inl hj)
            have HB5 := Lib.hid ((((HBW.out.trans (HB4.out.mono hbs)).alloc (by omega) (.cells #[.int .u8 10, .int .u8 10] 5)).grown hgrow5 (by simp; omega) (fun j hj => (World.ownsRow.lt HRW4.out j hj).1)))
            have HY5 := Lib.hid (show Byts w5 (.slice (some ⟨g5, 0, none⟩) (18 + k + 2) cap5) (hd18 ++ xs k ++ [10, 10]) from byts_row (by rw [bys_append]; exact hown5) (by rw [List.length_append, hxl]; rfl))
            have HR5 := Lib.hid (HR4.out.kept hC5 (fun j hj hj2 => by have := hub j hj2; omega))
            have hnb : ∀ j, (Value.slice (some ⟨g5, 0, none⟩) (18 + k + 2) cap5).ownBlock = some j → ¬ (wr.heap.size ≤ j ∧ j < x4.heap.size) := fun j hj hj2 => by
              injection hj with hj
              have hj' : g5 = j := hj
              subst hj'
              rcases hat5 with h5 | h5
              · have := hub g5 h5; omega
              · have : g5 = x4.heap.size + 1 := by simpa using h5
                omega
            have HT5 := Lib.hid (HT.out.below HB5.out htl)
            have hs5 := HB5.out.size
            have HNB := Lib.hid hnb
            have hwl5 : wr.heap.size ≤ w5.heap.size := by have := hgrow5.size; simp at this; omega
            clear hown5 hgrow5 hat5 hC5 hub hnb
            go_wp2_with fail
            refine (feed_any (fun j => wr.heap.size ≤ j ∧ j < x4.heap.size) false g4 Hd.start _ (hd18 ++ xs k ++ [10, 10]) _ HR5.out good_start HY5.out HNB.out (by rw [List.length_append, hxl]; unfold maxLen; simp; omega) HT5.out (fun ho => by omega)).mono ?_
            rintro e w6 ⟨rfl, _, hc6⟩
            have HB6 := Lib.hid (HB5.out.trans (hc6.below (B := w.heap.size) (fun j hj => by omega) (by omega)))
            clear hc6
            rw [show hd18 ++ xs k ++ [10, 10] = getL ++ 10 :: ([97, 58, 32] ++ xs k ++ [10, 10]) from by simp [hd18]]
            by_cases h8 : k + 18 + 2 ≤ 8192
            · obtain ⟨l1, l2, l3⟩ := HLR.out.1 h8
              rw [l1, l2, l3]
              have tU : ((k : Int) + 20 == 8160 + (q : Int) + 2) = true := by rw [beq_iff_eq]; omega
              clear l1 l2 l3
              go_wp2_with fail
              go_ret
              exact ⟨rfl, HB6.out⟩
            · obtain ⟨l1, l2, l3⟩ := HLR.out.2 (by omega)
              rw [l1, l2, l3]
              clear l1 l2 l3
              go_wp2_with fail
              go_ret
              exact ⟨rfl, HB6.out⟩

set_option maxRecDepth 100000 in
theorem contract (H : Type) (enc : TypeId × Value → H) (W : World) (base : Nat) (args : Array Value) (ds gs : List (DataW H)) (before : List MemPlace)
    (hval : ∀ (j : Nat) t v, Tryd.f5.params[j]? = some t → args[j]? = some v → Value.okWide Tryd.prog W .any base t v)
    (hW : DataW.Whole enc Tryd.prog Tryd.f5.params.toList Rows.headManySpec.vars false W args.toList ds gs before) (ts : List TypeId) (hsz : (DataW.weightsEach Tryd.prog (Tryd.f5.params.toList ++ ts) (ds ++ gs)).all (· ≤ reachBytes) = true) (hL : laidMetH Tryd.prog Rows.headManyRow.laid W) :
    Calls Tryd.prog 5 args W fun e W' => ∃ v, e = .returned v ∧ Rows.headManySpec.post enc Tryd.prog Tryd.f5 false true false false W args v W' := by
  have hW' := hW
  obtain ⟨p, q, hA0, hV, rfl, hfz, hnd⟩ := hW
  have hA : DataW.TrodAll enc Tryd.prog W 0 (fun _ => true) true Tryd.f5.params.toList args.toList ds p := hA0
  rw [Tryd.params5] at hA hval hsz
  obtain ⟨v0, vs0, d0, ds0, p0, q0, hargs, rfl, rfl, h0, r0⟩ := trodAll_cons hA
  obtain ⟨v1, vs1, d1, ds1, p1, q1, rfl, rfl, rfl, h1, r1⟩ := trodAll_cons r0
  obtain ⟨rfl, rfl, rfl⟩ := trodAll_nil r1
  obtain rfl : args = #[v0, v1] := by cases args; simp_all
  obtain ⟨rfl, rfl⟩ := trodVars_none hV
  obtain ⟨a0, rfl, rfl, rfl, w0⟩ := open_int Tryd.underlying3 (hval 0 3 v0 rfl rfl) h0
  obtain ⟨a1, rfl, rfl, rfl, w1⟩ := open_int Tryd.underlying3 (hval 1 3 v1 rfl rfl) h1
  clear hA0
  simp only [List.append_nil] at hW'
  refine (walk a0 w0 a1 w1 W (Tb.tok_of_head (Tb.tail (Tb.tail (Tb.tail hL))))).mono fun e W' ⟨he, bel⟩ => ?_
  subst he
  exact ⟨_, rfl, _, _, _, [], _, [], hW', trodAll_mk1 (shut_bool Tryd.underlying4 _), (trodAll_cons_mk (shut_int Tryd.underlying3 w0) (trodAll_cons_mk (shut_int Tryd.underlying3 w1) trodAll_mk0)), rfl, bel.frame _, fun h => by cases h⟩

theorem laid_met (os : Os) : laidMet Tryd.prog Rows.headManyRow.laid ((Tb.laidWorld os).forCall (fun _ _ => 0) ⟨#[], #[.int .i64 0, .int .i64 0], []⟩).memory :=
  laidMet_of_run' 8 (by kernel_rfl) (by kernel_rfl)
theorem reads (os : Os) {H : Type} (enc : TypeId × Value → H) : ∃ places, DataW.whole enc Tryd.prog ((Tb.laidWorld os).forCall (fun _ _ => 0) ⟨#[], #[.int .i64 0, .int .i64 0], []⟩).memory Tryd.f5.params.toList Rows.headManySpec.vars false (#[.int .i64 0, .int .i64 0] : Array Value).toList 8 = some ([.lit (.int .i64 0), .lit (.int .i64 0)], [], places) :=
  ⟨[], by kernel_rfl⟩

set_option maxRecDepth 100000 in
theorem lifted (os : Os) (started : os.Started) (H : Type) (enc : TypeId × Value → H) (F : Stop.Interp) :
    ReturnsInHanded {} Tryd.checked os 5 .any ((OpenSpec.ofChange Rows.headManySpec).preRow enc Tryd.prog Tryd.f5 Rows.headManyRow.domain false Rows.headManyRow.laid) (((OpenSpec.ofChange Rows.headManySpec).at F).post enc Tryd.prog Tryd.f5 false true false false) := by
  obtain ⟨places, hx⟩ := reads os enc
  refine returnsInHanded_of_row (C := Tryd.checked) (s := OpenSpec.ofChange Rows.headManySpec) Tb.own started (by kernel_rfl) Tryd.func5
    (witness_row_at (enc := enc) (C := Tryd.checked) false (Tb.laidWorld os) #[.int .i64 0, .int .i64 0] rfl (by kernel_rfl) (by kernel_rfl) (by kernel_rfl)
      (OpenSpec.preRow_of_cond 8 hx (by kernel_rfl) (fun k hk => by cases hk) (by kernel_rfl) (laid_met os))) ?_
  intro W base args ds gs before hval hW _ _ hsz hL _ _
  exact contract H enc W base args ds gs before hval hW _ hsz hL

theorem said : Rows.HeadManySaid :=
  OpenClaim.holds_of_cond 5 Tryd.f5 rfl rfl rfl rfl rfl rfl rfl ⟨rfl, rfl, rfl, rfl, rfl⟩ rfl rfl rfl rfl rfl (by kernel_rfl) Tryd.func5 (by kernel_rfl)
    (of_decide_eq_true (by kernel_rfl)) (by unfold Func.isWrapper; first | (rw [if_pos (by decide +kernel)]; kernel_rfl) | (rw [if_neg (by decide +kernel)]; exact ⟨rfl, rfl⟩))
    (fun os started H enc _ F => by rw [OpenClaim.pre_eq_preRow]; exact lifted os started H enc F)

set_option maxRecDepth 100000 in
theorem plain (f : FuncId) (fn : Func) (hf : Tryd.pinned.checked.prog.funcNamed "gatepost/gatepostlaw05.HeadMany" = some f) (hfn : Tryd.pinned.checked.prog.funcs[f]? = some fn) :
    false = Tryd.pinned.checked.prog.looks [] ∧ ∀ (j : Nat) t, fn.params[j]? = some t → Tryd.pinned.checked.prog.wantsStandIn t = false := by
  obtain rfl : f = 5 := Option.some.inj ((show Tryd.prog.funcNamed "gatepost/gatepostlaw05.HeadMany" = some 5 by kernel_rfl).symm.trans hf) |>.symm
  obtain rfl : fn = Tryd.f5 := (Option.some.inj (Tryd.func5.symm.trans hfn)).symm
  refine ⟨by kernel_rfl, fun j t ht => ?_⟩
  rw [Tryd.params5] at ht
  have hm := Array.mem_of_getElem? ht
  simp at hm
  subst hm
  exact (show Tryd.prog.wantsStandIn 3 = false by kernel_rfl)

theorem card : Rows.HeadManyCardSaid :=
  Claim7.holds_tied_plain_at .later [] _ _ _ _ said (fun _ h => by cases h) (by kernel_rfl) (fun _ h => by cases h) headMany_row_tie rfl ⟨rfl, rfl⟩ (by kernel_rfl) rfl plain (by kernel_rfl)
end Go.Proofs.YtlnlihkljnkhiaaDoor.headMany
