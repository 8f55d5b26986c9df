/-
  HeadFields: the fields of a head are told as they came, in order, each one's value without blanks at its ends.
  Conditions: the listed tables hold what the program's text lays (the card ties them).
-/
import Derived.Deep.DeepCutAuto
import Derived.Test.YtoofdompafkddaaDoorHeadFieldsP2
import Derived.Test.YtoofdompafkddaaDoorHeadFieldsP3
import Derived.SizedLaws
import Derived.Carry
import Derived.Test.YtoofdompafkddaaDoorHeadFieldsP4
import Derived.Test.YtoofdompafkddaaDoorHeadFieldsP7
import Derived.Test.YtoofdompafkddaaDoorHeadFieldsP14
import Derived.Test.YtoofdompafkddaaDoorHeadFieldsP5
import Derived.Test.YtoofdompafkddaaDoorHeadFieldsP13
import Derived.WideKeyPair
namespace Go.Proofs.YtoofdompafkddaaDoor.headFields
open Go.ChangeShapes Go.WideShapes Go.ChangeAt Go.RowKit
open Go.ChangeMaps (open_string shut_string)
set_option linter.unusedVariables false

open Go.Proofs.YtoofdompafkddaaDoor.Hd Go.Proofs.YtoofdompafkddaaDoor.Fd Go.Proofs.YtoofdompafkddaaDoor.Tk

theorem int_of (k : IntKind) (n : Int) : intOf (.int k n) = n := rfl
theorem text_next (A : Bool) (X : Bs) (i : Nat) (v E : ByteArray) (hE : E = txt (endL A)) :
    txt X ++ ⟨#[78]⟩ ++ ⟨#[UInt8.ofNat (97 + i)]⟩ ++ ⟨#[58, 9]⟩ ++ v ++ ⟨#[32]⟩ ++ E = txt (X ++ (lnF i v ++ endL A)) := by
  subst hE
  exact bytes_eq (by simp [txt, lnF])
/-- Where the first loop stands. -/
def LAt (w : World) (n : Nat) (k : Nat) (acc : List (Nat × ByteArray)) (u : Value) (wr : World) : Prop :=
  k ≤ n ∧ k ≤ 20 ∧ acc.length ≤ k ∧ OkAll acc ∧ wr.ownsRow w.heap.size 9 1 u acc.length (acc.map fun p => .string p.2) ∧ Below w.heap.size w wr
theorem LAt.more {w : World} {n k : Nat} {acc : List (Nat × ByteArray)} {u : Value} {wr : World} (h : LAt w n k acc u wr) (h1 : k < n) (h2 : k < 20) : LAt w n (k + 1) acc u wr :=
  ⟨by omega, by omega, by have := h.2.2.1; omega, h.2.2.2.1, h.2.2.2.2.1, h.2.2.2.2.2⟩
theorem LAt.shape {w : World} {n k : Nat} {acc : List (Nat × ByteArray)} {u : Value} {wr : World} (h : LAt w n k acc u wr) : ∃ a c, u = .slice a acc.length c := by
  rcases h.2.2.2.2.1.2 with ⟨hv, h0⟩ | ⟨g, cap, cur, hv, _⟩
  · exact ⟨none, 0, by rw [hv, h0]⟩
  · exact ⟨_, cap, hv⟩
theorem conv_one (k : Nat) (hk : k < 20) (W : World) : (convert 22 9 (.slice (some ⟨W.heap.size, 0, none⟩) 1 1)).run Tryd.prog (W.alloc (.cells #[.int .u8 (97 + (k : Int))] 5)) = .ok (.string ⟨#[UInt8.ofNat (97 + k)]⟩) (W.alloc (.cells #[.int .u8 (97 + (k : Int))] 5)) :=
  Tk.run_back (P := Tryd.prog) _ 22 9 5 W.heap.size 0 1 [UInt8.ofNat (97 + k)] Tryd.underlying22 Tryd.underlying5 Tryd.underlying9 (fun j hj => by
    have : j = 0 := by simpa using hj
    subst this
    have h := cell_of_one (new_block W (.cells #[.int .u8 (97 + (k : Int))] 5))
    rw [h]
    have e : (([UInt8.ofNat (97 + k)][0]'hj).toNat : Int) = 97 + (k : Int) := by
      show (((UInt8.ofNat (97 + k)).toNat : Nat) : Int) = _
      rw [UInt8.toNat_ofNat']; omega
    rw [e])
theorem text_end (A : Bool) (X : Bs) (E : ByteArray) (hE : E = txt (endL A)) : (txt X ++ E ++ ⟨#[120]⟩).data.toList = X ++ endL A ++ [120] := by
  subst hE
  simp [txt]
theorem LAt.next {w : World} {n k : Nat} {acc : List (Nat × ByteArray)} {u v : Value} {wr w3 : World} {X : ByteArray} {row : Option Nat} (h : LAt w n k acc u wr) (h1 : k < n) (h2 : k < 20) (hX : okV X = true)
    (ho : w3.ownsRow w.heap.size 9 1 v (acc.length + 1) ((acc.map fun p => .string p.2) ++ [.string X])) (hg : (wr.alloc (.cells #[.string X] 9)).grownBy w3 row) (hr : ∀ j, row = some j → w.heap.size ≤ j) (o : Obj) :
    LAt w n (k + 1) (acc ++ [(k, X)]) v (w3.alloc o) := by
  obtain ⟨_, _, h3, h4, _, h6⟩ := h
  have hs := h6.size
  have hb3 : Below w.heap.size w w3 := (h6.alloc hs _).grown hg (by simp; omega) hr
  refine ⟨by omega, by omega, by simp; omega, fun p hp => ?_, ?_, hb3.alloc hb3.size o⟩
  · rcases List.mem_append.1 hp with hp | hp
    · exact h4 p hp
    · simp at hp; subst hp; exact ⟨h2, hX⟩
  · have h7 := owns_kept ho ((Below.refl w3.heap.size w3).alloc (Nat.le_refl _) o)
    simpa using h7
theorem conv_text (A : Bool) (X : Bs) (E : ByteArray) (hE : E = txt (endL A)) : ∃ S : ByteArray, S.data.toList = X ++ endL A ++ [120] ∧ S.size = X.length + (endL A).length + 1 ∧
    ∀ W : World, (convert 9 22 (.string (txt X ++ E ++ ⟨#[120]⟩))).run Tryd.prog W = .ok (.slice (some ⟨W.heap.size, 0, none⟩) S.size (grownCap W S.size 0 5))
      (W.drew.alloc (.cells (bytesRow S (grownCap W S.size 0 5)) 5 ((bytesRow S (grownCap W S.size 0 5)).size, (bytesRow S (grownCap W S.size 0 5)).size + 1))) := by
  refine ⟨txt X ++ E ++ ⟨#[120]⟩, text_end A X E hE, ?_, fun W => run_bytes W _⟩
  rw [ByteArray.size_append, ByteArray.size_append, hE, txt_size, txt_size]; rfl
theorem le_both {L M e n : Nat} (h : L = M + e) (h2 : e = n) : L ≤ M + n ∧ M + n ≤ L := by omega
theorem flds_cell {w : World} {b off cap : Nat} {acc : List (Nat × ByteArray)} (h : Flds w (.slice (some ⟨b, off, none⟩) acc.length cap) (acc.map flF)) (j : Nat) (hj : j < acc.length) : w.cell? ⟨b, off + j * 2 + 1, none⟩ = some (.string acc[j].2) := by
  rcases h with ⟨h0, _⟩ | ⟨b', off', cap', hv, _, hc⟩
  · have : acc.length = 0 := by simpa using congrArg List.length h0
    omega
  · injection hv with e1 _ _
    injection e1 with e1
    injection e1 with e1 e2
    subst e1 e2
    have h1 := (hc j (by simpa using hj)).2
    rw [h1]
    simp [flF]
theorem own_cell {w : World} {B g cap : Nat} {acc : List (Nat × ByteArray)} (h : w.ownsRow B 9 1 (.slice (some ⟨g, 0, none⟩) acc.length cap) acc.length (acc.map fun p => .string p.2)) (j : Nat) (hj : j < acc.length) : w.cell? ⟨g, j, none⟩ = some (.string acc[j].2) := by
  rw [World.ownsRow.cellAt h j (by omega)]
  simp [hj]
theorem fields_shape {w : World} {a : Option Addr} {n cap : Nat} {fs : List Fl} (h : Flds w (.slice a n cap) fs) (hn : 0 < fs.length) : ∃ b off, a = some ⟨b, off, none⟩ := by
  rcases h with ⟨h0, _⟩ | ⟨b, off, cap', hv, _⟩
  · rw [h0] at hn; simp at hn
  · injection hv with e1; exact ⟨b, off, e1⟩
theorem row_shape {w : World} {B : Nat} {a : Option Addr} {n m cap : Nat} {xs : List Value} (h : w.ownsRow B 9 1 (.slice a n cap) m xs) (hn : 0 < m) : ∃ g, a = some ⟨g, 0, none⟩ := by
  rcases h.2 with ⟨_, h0⟩ | ⟨g, c, cur, hv, _⟩
  · omega
  · injection hv with e1; exact ⟨g, e1⟩
theorem text_cell (x : ByteArray) : ∀ u ∈ [Value.string x], u.oneCell' = true := by intro u hu; simp at hu; subst hu; rfl
theorem infoText3 : (Tryd.prog.info? 9).map (fun i => (i.zero, i.size, i.bytes)) = some (some (.string ⟨#[]⟩), 1, 16) := by kernel_rfl

set_option maxHeartbeats 16000000 in
set_option maxRecDepth 100000 in
theorem walk (v0 : Value) (ls0 : List ByteArray) (a1 : Bool) (w : World) (hT : Tk.Tab w) (f0 : Strs w v0 ls0) (l0 : ls0.length ≤ maxLen) (z0 : ∀ s ∈ ls0, s.size ≤ maxLen) :
    Calls Tryd.prog 6 #[v0, .bool a1] w fun e w' => e = .returned (.bool true) ∧ Below w.heap.size w w' := by
  have HT := Lib.hid hT
  have htl := hT.lt
  obtain ⟨va, vc, hv0⟩ := f0.shape
  have HI := Lib.hid f0
  have HZ := Lib.hid z0
  unfold maxLen at l0
  have hconv := run_bytes
  obtain ⟨i0, hi, hz0, hz1, hz2⟩ := info_parts infoText3
  obtain ⟨A, hA⟩ : ∃ A : Bool, A = a1 := ⟨_, rfl⟩
  subst hv0
  clear hT f0 z0
  cases a1
  case' false =>
    have HE := Lib.hid (show (⟨#[10]⟩ : ByteArray) = txt (endL A) from by rw [hA]; rfl)
    have HEL := Lib.hid (show (endL A).length = 1 from by rw [hA]; rfl)
    have HPre := Lib.hid (show (⟨#[10]⟩ : ByteArray) ++ ⟨#[80, 85, 84, 32, 47, 120, 32, 72, 84, 84, 80, 47, 49, 46, 48]⟩ ++ ⟨#[10]⟩ = txt (preF A ++ bodyF A []) from by rw [hA]; kernel_rfl)
  case' true =>
    have HE := Lib.hid (show (⟨#[13, 10]⟩ : ByteArray) = txt (endL A) from by rw [hA]; rfl)
    have HEL := Lib.hid (show (endL A).length = 2 from by rw [hA]; rfl)
    have HPre := Lib.hid (show (⟨#[13, 10]⟩ : ByteArray) ++ ⟨#[80, 85, 84, 32, 47, 120, 32, 72, 84, 84, 80, 47, 49, 46, 48]⟩ ++ ⟨#[13, 10]⟩ = txt (preF A ++ bodyF A []) from by rw [hA]; kernel_rfl)
  all_goals
    clear hA
    go_enter Tryd.func6, Tryd.ntmps6
    go_wp2_with fail
    go_loopw [6, 7, 8] (fun s u i wr => ∃ (k : Nat) (acc : List (Nat × ByteArray)), s = .string (txt (preF A ++ bodyF A acc)) ∧ i = .int .i64 (k : Int) ∧ LAt w ls0.length k acc u wr) (fun _ _ i _ => 20 - (intOf i).toNat)
    case atStart => exact ⟨0, [], by first | rw [HPre.out] | rw [← HPre.out]; rfl, rfl, Nat.zero_le _, by omega, by simp, fun p hp => by simp at hp, World.ownsRow_nil _ _ _ _, Below.refl _ _⟩
    case round =>
      obtain ⟨k, acc, rfl, rfl, hA⟩ := hrel
      have HA := Lib.hid hA
      obtain ⟨ua, uc, hsh⟩ := hA.shape
      subst hsh
      have hk1 := hA.1
      have hk2 := hA.2.1
      have hk3 := hA.2.2.1
      clear hA
      have hsz : (txt (preF A ++ bodyF A acc)).size ≤ 3000 := by
        have h1 := bodyF_len A acc HA.out.2.2.2.1
        have h2 := crB_len A
        rw [txt_size, List.length_append]
        unfold preF
        simp only [List.length_append, endL_len, show putL.length = 15 from rfl]
        omega
      by_cases hgo : k < ls0.length ∧ k < 20
      · obtain ⟨hlt, hlt2⟩ := hgo
        rcases HI.out with ⟨h0, _⟩ | ⟨B, off, cap, hv, hB, hh⟩
        · rw [h0] at hlt; simp at hlt
        injection hv with e1 e2 e3
        subst e1 e3
        have hBW := HA.out.2.2.2.2.2
        obtain ⟨X, hX⟩ : ∃ X, X = ls0[k] := ⟨_, rfl⟩
        have cX : wr.cell? ⟨B, off + k, none⟩ = some (.string X) := by rw [hBW.cell (p := ⟨B, off + k, none⟩) (by show B < w.heap.size; exact hB), hX]; exact hh k hlt
        have hXm : X.size ≤ maxLen := by rw [hX]; exact HZ.out _ (List.getElem_mem hlt)
        have HXM := Lib.hid hXm
        have hXm' : X.size ≤ 9223372036854775807 := by unfold maxLen at hXm; omega
        clear hh hX hBW e2 hXm
        by_cases h100 : 100 < X.size
        · go_wp2_with fail
          go_roundw
          case rel => exact ⟨k + 1, acc, rfl, by go_num, HA.out.more hlt hlt2⟩
          case measure => rw [int_of, int_of]; omega
        · go_wp2_with fail
          refine (refValue_any X wr HXM.out).mono ?_
          rintro e wx ⟨rfl, rfl⟩
          have HOK := Lib.hid (show isVal X.data.toList = true → okV X = true from fun h => by unfold okV; rw [h]; simp; omega)
          obtain ⟨V, hV⟩ : ∃ V, V = isVal X.data.toList := ⟨_, rfl⟩
          rw [← hV] at HOK
          rw [← hV]
          clear hV
          cases V with
          | false =>
            go_wp2_with fail
            go_roundw
            case rel => exact ⟨k + 1, acc, rfl, by go_num, HA.out.more hlt hlt2⟩
            case measure => rw [int_of, int_of]; omega
          | true =>
            have HOX := Lib.hid (HOK.out rfl)
            clear HOK
            have HRW := Lib.hid (owns_kept HA.out.2.2.2.2.1 ((Below.refl wr.heap.size wr).alloc (Nat.le_refl _) (.cells #[.string X] 9)))
            have HNW := Lib.hid (World.news_of_block (new_block wr (.cells #[.string X] 9)))
            obtain ⟨C, hC⟩ : ∃ C : UInt8, C = UInt8.ofNat (97 + k) := ⟨_, rfl⟩
            have hcv := conv_one k hlt2
            have htx := text_next A (preF A ++ bodyF A acc) k X _ HE.out
            rw [← hC] at hcv htx
            have HTX := Lib.hid htx
            clear hC htx
            go_upto_region 12 with (at_builtin; refine wpList_append_own _ rfl _ _ 53 rfl w.heap.size 9 i0 (.string ⟨#[]⟩) 1 16 Tryd.underlying53 hi hz0 hz1 hz2 rfl (by decide) _ _ _ rfl HRW.out ⟨wr.heap.size, 0, none⟩ 1 1 [.string X] rfl rfl HNW.out (text_cell X) (by unfold maxLen; omega) (by omega) (by have := HA.out.2.2.2.2.2.size; simp; omega) ?_; intro v' w3 hown hgrow hnil)
            have HL3 := Lib.hid (LAt.next HA.out hlt hlt2 HOX.out hown hgrow (fun j hj => (World.ownsRow.lt HRW.out j hj).1) (.cells #[.int .u8 (97 + (k : Int))] 5))
            clear hown hgrow hnil
            go_wp2_with fail
            go_roundw
            case rel =>
              refine ⟨k + 1, acc ++ [(k, X)], ?_, by go_num, HL3.out⟩
              rw [bodyF_snoc, ← List.append_assoc]
              exact congrArg Value.string HTX.out
            case measure => rw [int_of, int_of]; omega
      · have hex : ¬ (k < ls0.length) ∨ (k < ls0.length ∧ ¬ (k < 20)) := by omega
        have HRUN := Lib.hid (fields_run A acc HA.out.2.2.2.1 (by omega))
        obtain ⟨S, hSd, hSs, hcs⟩ := conv_text A (preF A ++ bodyF A acc) _ HE.out
        have HS := Lib.hid hSd
        have HSS := Lib.hid hSs
        have hE2 := crB_len A
        have hSn : S.size ≤ 4000 := by rw [hSs, endL_len]; rw [txt_size] at hsz; omega
        have HLE := Lib.hid (show (endL A).length ≤ 2 from by rw [endL_len]; omega)
        clear hSd hSs hE2 hconv
        have HBW := Lib.hid HA.out.2.2.2.2.2
        have hsw := HBW.out.size
        clear hgo
        rcases hex with hlt | ⟨hlt, hlt2⟩
        all_goals
          go_wp2_with fail
          refine (new_any false wr).mono ?_
          rintro e x1 ⟨g, rfl, hR1, hb1⟩
          have HR1 := Lib.hid hR1
          have HB1 := Lib.hid hb1
          have hx1 := hb1.size
          clear hR1 hb1
          go_wp2_with fail
          refine (feed_text wr.heap.size false g x1 S HR1.out (by omega) ((HT.out.below HBW.out htl).below HB1.out (by omega)) (by omega) hx1).mono ?_
          rintro e x2 ⟨rfl, hR2, hb2⟩
          have HG := Lib.hid (good_run false S.data.toList good_start)
          rw [HS.out, HRUN.out] at hR2 HG
          obtain ⟨L, hL⟩ : ∃ L, L = (preF A ++ bodyF A acc ++ endL A).length := ⟨_, rfl⟩
          have HRU := Lib.hid (show (run false Hd.start S.data.toList).1 = L ∧ doneOf (run false Hd.start S.data.toList).2 = true ∧ errOf (run false Hd.start S.data.toList).2 = 0 from by rw [HS.out, HRUN.out]; exact ⟨hL.symm, rfl, rfl⟩)
          rw [HRU.out.1, HRU.out.2.1, HRU.out.2.2]
          have HR2 := Lib.hid hR2
          have hB2 : Below wr.heap.size wr x2 := HB1.out.trans hb2
          have HB2 := Lib.hid hB2
          have hx2 := hB2.size
          obtain ⟨hl2, hl3⟩ := le_both (show L = (txt (preF A ++ bodyF A acc)).size + (endL A).length from by rw [hL, List.length_append, txt_size]) HEL.out
          have HRW2 := Lib.hid (show x2.ownsRow w.heap.size 9 1 (.slice ua acc.length uc) acc.length (acc.map fun p => .string p.2) from
            row_same HA.out.2.2.2.2.1 (fun j hj => hB2.block j (World.ownsRow.lt HA.out.2.2.2.2.1 j hj).2))
          clear hR2 hb2 hB2 hL hcs HRU
          go_wp2_with fail
          refine (show Calls Tryd.prog 19 #[.pointer (some ⟨g, 0, none⟩)] x2 (ReqPost (putP, acc.map flF, 0) x2) from request_any _ false g _ x2 HR2.out HG.out).mono ?_
          rintro e y1 ⟨p1, he, hf1, hb1⟩
          have he2 : e = .returned (.tuple #[.agg #[.string ⟨#[80, 85, 84]⟩, .string ⟨#[47, 120]⟩, .int .i64 0, p1], .int .i64 0]) := he
          subst he2
          clear he
          obtain ⟨pa, pc, hp1⟩ := OwnF.form hf1
          have hp2 : p1 = .slice pa acc.length pc := by rw [hp1]; show Value.slice pa (acc.map flF).length pc = _; rw [List.length_map]
          subst hp2
          obtain ⟨z1, hz1⟩ : ∃ z1, z1 = y1.alloc (.cells #[.string ⟨#[80, 85, 84]⟩, .string ⟨#[47, 120]⟩, .int .i64 0, .slice pa acc.length pc] 29) := ⟨_, rfl⟩
          have hy1 : Below y1.heap.size y1 z1 := by rw [hz1]; exact (Below.refl _ _).alloc (Nat.le_refl _) _
          have hw1 : Below x2.heap.size x2 z1 := hb1.trans (hy1.mono hb1.size)
          have HK1 := Lib.hid (show z1.heap[y1.heap.size]? = some (.cells #[.string ⟨#[80, 85, 84]⟩, .string ⟨#[47, 120]⟩, .int .i64 0, .slice pa acc.length pc] 29 (0, 0)) from by rw [hz1]; exact new_block _ _)
          have HF1 := Lib.hid (hf1.flds.below hy1 (Nat.le_refl _))
          have HRW3 := Lib.hid (owns_kept HRW2.out hw1)
          have HBz := Lib.hid ((HBW.out.trans (HB2.out.mono hsw)).trans (hw1.mono (by omega)))
          have HZ1 := Lib.hid hz1
          clear hf1 hb1 hz1 hy1 hw1 hp1
          go_upto_region 16 with fail
          rw [← HZ1.out]
          obtain ⟨q0, q1, q2, q3⟩ := four HK1.out
          have QK := Lib.hid q3
          clear HS HSS HRUN HR1 HB1 HR2 HB2 HG HRW2 HLE hSn
          go_wp2_with fail
          clear q0 q1 q2 q3
          go_loopw [16] (fun i wq => ∃ (j n : Nat), i = .int .i64 (j : Int) ∧ j ≤ acc.length ∧ wq = z1.drewN n) (fun i _ => acc.length - (intOf i).toNat)
          case atStart => exact ⟨0, 0, rfl, Nat.zero_le _, rfl⟩
          case round =>
            obtain ⟨j, n, rfl, hj, hwq⟩ := hrel
            have HWQ := Lib.hid hwq
            by_cases hjl : j < acc.length
            · obtain ⟨b, off, rfl⟩ := fields_shape HF1.out (by rw [List.length_map]; omega)
              obtain ⟨gw, rfl⟩ := row_shape HRW3.out (by omega)
              obtain ⟨T, hT⟩ : ∃ T, T = acc[j].2 := ⟨_, rfl⟩
              have t1 : wr.cell? ⟨b, off + j * 2 + 1, none⟩ = some (.string T) := by rw [hwq, hT]; exact flds_cell HF1.out j hjl
              have t2 : wr.cell? ⟨gw, j, none⟩ = some (.string T) := by rw [hwq, hT]; exact own_cell HRW3.out j hjl
              have t3 : wr.cell? ⟨y1.heap.size, 3, none⟩ = some (.slice (some ⟨b, off, none⟩) acc.length pc) := by rw [hwq]; exact QK.out
              have t4 : (!(T.toList == T.toList)) = false := by simp
              clear hT hwq
              go_wp2_with fail
              go_quiet (fail)
              go_wp2_with fail
              go_roundw
              case rel => exact ⟨j + 1, _, by go_num, by omega, by rw [HWQ.out, World.drewN_drewN]⟩
              case measure => simp [intOf]; omega
            · clear hwq
              go_wp2_with fail
              go_ret
              exact ⟨rfl, by rw [HWQ.out]; exact Bl.drewN HBz.out n⟩

set_option maxRecDepth 100000 in
theorem contract (H : Type) (enc : TypeId × Value → H) (W : World) (base : Nat) (args : Array Value) (ds gs : List (DataW H)) (before : List MemPlace)
    (hval : ∀ (j : Nat) t v, Tryd.f6.params[j]? = some t → args[j]? = some v → Value.okWide Tryd.prog W .any base t v)
    (hW : DataW.Whole enc Tryd.prog Tryd.f6.params.toList Rows.headFieldsSpec.vars false W args.toList ds gs before) (ts : List TypeId) (hsz : (DataW.weightsEach Tryd.prog (Tryd.f6.params.toList ++ ts) (ds ++ gs)).all (· ≤ reachBytes) = true) (hL : laidMetH Tryd.prog Rows.headFieldsRow.laid W) :
    Calls Tryd.prog 6 args W fun e W' => ∃ v, e = .returned v ∧ Rows.headFieldsSpec.post enc Tryd.prog Tryd.f6 false true false false W args v W' := by
  have hW' := hW
  obtain ⟨p, q, hA0, hV, rfl, hfz, hnd⟩ := hW
  have hA : DataW.TrodAll enc Tryd.prog W 0 (fun _ => true) true Tryd.f6.params.toList args.toList ds p := hA0
  rw [Tryd.params6] at hA hval hsz
  obtain ⟨v0, vs0, d0, ds0, p0, q0, hargs, rfl, rfl, h0, r0⟩ := trodAll_cons hA
  obtain ⟨v1, vs1, d1, ds1, p1, q1, rfl, rfl, rfl, h1, r1⟩ := trodAll_cons r0
  obtain ⟨rfl, rfl, rfl⟩ := trodAll_nil r1
  have hw0 : ∀ n ∈ d0.weights Tryd.prog 53, n ≤ reachBytes := fun n hn => by simpa using List.all_eq_true.1 hsz n (DataW.weights_mem_each (j := 0) (t := 53) (d := d0) rfl rfl _ hn)
  obtain rfl : args = #[v0, v1] := by cases args; simp_all
  obtain ⟨rfl, rfl⟩ := trodVars_none hV
  have k0 := h0
  have lt0 : ∀ x ∈ p0, x.block < W.heap.size := by obtain ⟨m, hm⟩ := k0; exact DataW.trod_lt m _ _ _ hm
  obtain ⟨ls0, f0, l0, z0⟩ := Hd.open_texts (hval 0 53 v0 rfl rfl) h0 hw0
  obtain ⟨a1, rfl, rfl, rfl⟩ := open_bool Tryd.underlying4 (hval 1 4 v1 rfl rfl) h1
  clear hA0
  simp only [List.append_nil] at hW'
  refine (walk v0 ls0 a1 W (Tb.tok_of_head (Tb.tail (Tb.tail (Tb.tail hL)))) f0 l0 z0).mono fun e W' ⟨he, bel⟩ => ?_
  subst he
  exact ⟨_, rfl, _, _, _, [], _, [], hW', trodAll_mk1 (shut_bool Tryd.underlying4 _), (trodAll_cons_mk (Below.trod Tb.laidOut (by kernel_rfl) (of_decide_eq_true (by kernel_rfl)) k0 bel lt0) (trodAll_cons_mk (shut_bool Tryd.underlying4 a1) trodAll_mk0)), rfl, bel.frame _, fun h => by cases h⟩

theorem laid_met (os : Os) : laidMet Tryd.prog Rows.headFieldsRow.laid ((Tb.laidWorld os).forCall (fun _ _ => 0) ⟨#[], #[.slice none 0 0, .bool false], []⟩).memory :=
  laidMet_of_run' 8 (by kernel_rfl) (by kernel_rfl)
theorem reads (os : Os) {H : Type} (enc : TypeId × Value → H) : ∃ places, DataW.whole enc Tryd.prog ((Tb.laidWorld os).forCall (fun _ _ => 0) ⟨#[], #[.slice none 0 0, .bool false], []⟩).memory Tryd.f6.params.toList Rows.headFieldsSpec.vars false (#[.slice none 0 0, .bool false] : Array Value).toList 8 = some ([.nil, .lit (.bool false)], [], places) :=
  ⟨[], by kernel_rfl⟩

set_option maxRecDepth 100000 in
theorem lifted (os : Os) (started : os.Started) (H : Type) (enc : TypeId × Value → H) (F : Stop.Interp) :
    ReturnsInHanded {} Tryd.checked os 6 .any ((OpenSpec.ofChange Rows.headFieldsSpec).preRow enc Tryd.prog Tryd.f6 Rows.headFieldsRow.domain false Rows.headFieldsRow.laid) (((OpenSpec.ofChange Rows.headFieldsSpec).at F).post enc Tryd.prog Tryd.f6 false true false false) := by
  obtain ⟨places, hx⟩ := reads os enc
  refine returnsInHanded_of_row (C := Tryd.checked) (s := OpenSpec.ofChange Rows.headFieldsSpec) Tb.own started (by kernel_rfl) Tryd.func6
    (witness_row_at (enc := enc) (C := Tryd.checked) false (Tb.laidWorld os) #[.slice none 0 0, .bool false] rfl (by kernel_rfl) (by kernel_rfl) (by kernel_rfl)
      (OpenSpec.preRow_of_cond 8 hx (by kernel_rfl) (fun k hk => by cases hk) (by kernel_rfl) (laid_met os))) ?_
  intro W base args ds gs before hval hW _ _ hsz hL _ _
  exact contract H enc W base args ds gs before hval hW _ hsz hL

theorem said : Rows.HeadFieldsSaid :=
  OpenClaim.holds_of_cond 6 Tryd.f6 rfl rfl rfl rfl rfl rfl rfl ⟨rfl, rfl, rfl, rfl, rfl⟩ rfl rfl rfl rfl rfl (by kernel_rfl) Tryd.func6 (by kernel_rfl)
    (of_decide_eq_true (by kernel_rfl)) (by unfold Func.isWrapper; first | (rw [if_pos (by decide +kernel)]; kernel_rfl) | (rw [if_neg (by decide +kernel)]; exact ⟨rfl, rfl⟩))
    (fun os started H enc _ F => by rw [OpenClaim.pre_eq_preRow]; exact lifted os started H enc F)

set_option maxRecDepth 100000 in
theorem plain (f : FuncId) (fn : Func) (hf : Tryd.pinned.checked.prog.funcNamed "gatepost/gatepostlaw05.HeadFields" = some f) (hfn : Tryd.pinned.checked.prog.funcs[f]? = some fn) :
    true = Tryd.pinned.checked.prog.looks [] ∧ ∀ (j : Nat) t, fn.params[j]? = some t → Tryd.pinned.checked.prog.wantsStandIn t = false := by
  obtain rfl : f = 6 := Option.some.inj ((show Tryd.prog.funcNamed "gatepost/gatepostlaw05.HeadFields" = some 6 by kernel_rfl).symm.trans hf) |>.symm
  obtain rfl : fn = Tryd.f6 := (Option.some.inj (Tryd.func6.symm.trans hfn)).symm
  refine ⟨by kernel_rfl, fun j t ht => ?_⟩
  rw [Tryd.params6] at ht
  have hm := Array.mem_of_getElem? ht
  simp at hm
  rcases hm with rfl | rfl
  · exact (show Tryd.prog.wantsStandIn 53 = false by kernel_rfl)
  · exact (show Tryd.prog.wantsStandIn 4 = false by kernel_rfl)

theorem card : Rows.HeadFieldsCardSaid :=
  Claim7.holds_tied_plain_at .later [] _ _ _ _ said (fun _ h => by cases h) (by kernel_rfl) (fun _ h => by cases h) headFields_row_tie rfl ⟨rfl, rfl⟩ (by kernel_rfl) rfl plain (by kernel_rfl)
end Go.Proofs.YtoofdompafkddaaDoor.headFields
