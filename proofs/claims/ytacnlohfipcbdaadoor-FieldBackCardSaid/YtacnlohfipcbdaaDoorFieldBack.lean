/-
  FieldBack: a line that is told is parsed to its field; what is parsed has a line that is parsed alike.
  Conditions: the listed tables hold what the program's text lays (the card ties them).
-/
import Derived.Test.YtacnlohfipcbdaaDoorTabs
import Derived.Test.YtacnlohfipcbdaaDoorFdOpen
import Derived.SizedLaws
import Derived.Carry
import Derived.Test.YtacnlohfipcbdaaDoorFdOpen
import Derived.Test.YtacnlohfipcbdaaDoorFdParseP
import Derived.Test.YtacnlohfipcbdaaDoorFdBackMath
import Derived.WideKeyPair
namespace Go.Proofs.YtacnlohfipcbdaaDoor.fieldBack
open Go.ChangeShapes Go.WideShapes Go.ChangeAt Go.RowKit
open Go.ChangeMaps (open_string shut_string)
set_option linter.unusedVariables false

theorem line_age : Fd.lineVal ⟨#[65, 103, 101]⟩ ⟨#[53]⟩ = .tuple #[.string ⟨#[65, 103, 101, 58, 32, 53]⟩, .int .i64 0] := by kernel_rfl
theorem few_step (a1 b1 : ByteArray) (w1 : a1.size ≤ reachBytes) (u1 : b1.size ≤ reachBytes) (w : World) :
    Calls Tryd.prog 8 #[.slice (some ⟨w.heap.size + 1, 0, none⟩) 1 1] ((w.alloc (.cells #[.string a1, .string b1] 23)).alloc (.cells #[.string a1, .string b1] 23))
      fun e w' => e = .returned (.bool (Fd.fewB [(a1, b1)])) ∧ Below w.heap.size w w' ∧ w'.heap[w.heap.size]? = some (.cells #[.string a1, .string b1] 23 (0, 0)) := by
  unfold reachBytes at w1 u1
  refine (Fd.few_any _ [(a1, b1)] _ (Fd.flds_one (Fd.new_block' _ _ (by simp))) (by simp) (by simp; omega)).mono ?_
  rintro e x ⟨rfl, n, hx⟩
  refine ⟨rfl, Fd.Bl.drewN' (((Below.refl w.heap.size w).alloc (Nat.le_refl _) _).alloc (by simp) _) hx, ?_⟩
  rw [hx]; exact (Fd.old_block _ _ (by simp)).trans (Fd.new_block _ _)

set_option maxHeartbeats 4000000 in
theorem way00 (a0 b0 : ByteArray) (ha : a0.size ≤ reachBytes) (hb : b0.size ≤ reachBytes) (hfw : Fd.fewB [(a0, b0)] = true) (a1 : ByteArray) (hs : a1.size ≤ 2000) (w : World) (hT : Tk.Tab w) (hf : Fd.lineVal a0 b0 = .tuple #[.string ⟨#[]⟩, .int .i64 31]) (hp : Fd.parseVal a1 = .tuple #[Fd.FV ⟨#[]⟩ ⟨#[]⟩, .int .i64 31]) :
    Calls Tryd.prog 5 #[.agg #[.string a0, .string b0], .string a1] w fun e w' => e = .returned (.bool true) ∧ Below w.heap.size w w' := by
  have HFW := Lib.hid (few_step a0 b0 ha hb w)
  obtain ⟨hs1, hs2⟩ := Fd.fewB_one hfw
  have HF := Lib.hid hfw
  have HT := Lib.hid hT
  have hg := hT.lt
  have HP := Lib.hid hp
  clear hT hfw hp ha hb
  have hd : decide ((2000 : Int) < (a1.size : Int)) = false := by rw [decide_eq_false_iff_not]; omega
  have HL := Lib.hid hf
  clear hf
  go_enter Tryd.func5, Tryd.ntmps5
  go_wp2_with fail
  refine HFW.out.mono ?_
  rintro e x0 ⟨rfl, hB0, K0⟩
  rw [HF.out]
  clear HFW HF
  go_wp2_with fail
  refine (Fd.line_any ⟨#[65, 103, 101]⟩ ⟨#[53]⟩ _ (by decide) (by decide) (HT.out.below hB0 hg)).mono ?_
  rintro e x1 ⟨rfl, hb2⟩
  rw [line_age]
  have hB3 := Fd.Bl.next hB0 hb2
  have K4 := Fd.Bl.old hb2 (Fd.block_lt K0) K0
  clear K0
  clear hb2 hB0
  have c5 := Fd.two0 K4
  have c6 := Fd.two1 K4
  go_wp2_with fail
  refine (Fd.line_any a0 b0 _ (by omega) (by omega) (HT.out.below hB3 hg)).mono ?_
  rintro e x7 ⟨rfl, hb8⟩
  rw [HL.out]
  have hB9 := Fd.Bl.next hB3 hb8
  have K10 := Fd.Bl.old hb8 (Fd.block_lt K4) K4
  clear K4
  clear hb8 hB3
  go_wp2_with fail
  refine (Fd.parse_any a1 _ (by omega) (HT.out.below hB9 hg)).mono ?_
  rintro e x11 ⟨rfl, hb12⟩
  rw [HP.out, show ∀ a b : ByteArray, Fd.FV a b = .agg #[.string a, .string b] from fun _ _ => rfl]
  have hB13 := Fd.Bl.next hB9 hb12
  have K14 := Fd.Bl.old hb12 (Fd.block_lt K10) K10
  clear K10
  clear hb12 hB9
  have hB15 := hB13.alloc hB13.size (.cells #[.string ⟨#[]⟩, .string ⟨#[]⟩] 23)
  have K16 := (Fd.old_block x11 (.cells #[.string ⟨#[]⟩, .string ⟨#[]⟩] 23) (Fd.block_lt K14)).trans K14
  clear K14
  have K17 := Fd.new_block x11 (.cells #[.string ⟨#[]⟩, .string ⟨#[]⟩] 23)
  clear hB13
  have c18 := Fd.two0 K17
  have c19 := Fd.two1 K17
  go_wp2_with fail
  go_ret
  exact ⟨rfl, hB15⟩

set_option maxHeartbeats 4000000 in
theorem way01 (a0 b0 : ByteArray) (ha : a0.size ≤ reachBytes) (hb : b0.size ≤ reachBytes) (hfw : Fd.fewB [(a0, b0)] = true) (a1 : ByteArray) (hs : a1.size ≤ 2000) (n v : ByteArray) (w : World) (hT : Tk.Tab w) (hf : Fd.lineVal a0 b0 = .tuple #[.string ⟨#[]⟩, .int .i64 31]) (hp : Fd.parseVal a1 = .tuple #[Fd.FV n v, .int .i64 0]) (hi : Fd.isFld n.data.toList v.data.toList = true) (hn : n.size ≤ 2000) (hv : v.size ≤ 2000) :
    Calls Tryd.prog 5 #[.agg #[.string a0, .string b0], .string a1] w fun e w' => e = .returned (.bool true) ∧ Below w.heap.size w w' := by
  have HFW := Lib.hid (few_step a0 b0 ha hb w)
  obtain ⟨hs1, hs2⟩ := Fd.fewB_one hfw
  have HF := Lib.hid hfw
  have HT := Lib.hid hT
  have hg := hT.lt
  have HP := Lib.hid hp
  clear hT hfw hp ha hb
  have hd : decide ((2000 : Int) < (a1.size : Int)) = false := by rw [decide_eq_false_iff_not]; omega
  have HL := Lib.hid hf
  clear hf
  have HL2 := Lib.hid (Fd.lineVal_yes hi)
  have HPL2 := Lib.hid (Fd.parse_line hi)
  have hls2 := Fd.line_size n v
  obtain ⟨M, hM⟩ : ∃ M, M = n ++ ⟨#[58, 32]⟩ ++ v := ⟨_, rfl⟩
  rw [← hM] at HL2 HPL2 hls2
  have hmz : M.size ≤ 4002 := by omega
  have tn : (n.toList == n.toList) = true := by simp
  have tv : (v.toList == v.toList) = true := by simp
  clear hM hls2 hi
  go_enter Tryd.func5, Tryd.ntmps5
  go_wp2_with fail
  refine HFW.out.mono ?_
  rintro e x0 ⟨rfl, hB0, K0⟩
  rw [HF.out]
  clear HFW HF
  go_wp2_with fail
  refine (Fd.line_any ⟨#[65, 103, 101]⟩ ⟨#[53]⟩ _ (by decide) (by decide) (HT.out.below hB0 hg)).mono ?_
  rintro e x1 ⟨rfl, hb2⟩
  rw [line_age]
  have hB3 := Fd.Bl.next hB0 hb2
  have K4 := Fd.Bl.old hb2 (Fd.block_lt K0) K0
  clear K0
  clear hb2 hB0
  have c5 := Fd.two0 K4
  have c6 := Fd.two1 K4
  go_wp2_with fail
  refine (Fd.line_any a0 b0 _ (by omega) (by omega) (HT.out.below hB3 hg)).mono ?_
  rintro e x7 ⟨rfl, hb8⟩
  rw [HL.out]
  have hB9 := Fd.Bl.next hB3 hb8
  have K10 := Fd.Bl.old hb8 (Fd.block_lt K4) K4
  clear K4
  clear hb8 hB3
  go_wp2_with fail
  refine (Fd.parse_any a1 _ (by omega) (HT.out.below hB9 hg)).mono ?_
  rintro e x11 ⟨rfl, hb12⟩
  rw [HP.out, show ∀ a b : ByteArray, Fd.FV a b = .agg #[.string a, .string b] from fun _ _ => rfl]
  have hB13 := Fd.Bl.next hB9 hb12
  have K14 := Fd.Bl.old hb12 (Fd.block_lt K10) K10
  clear K10
  clear hb12 hB9
  have hB15 := hB13.alloc hB13.size (.cells #[.string n, .string v] 23)
  have K16 := (Fd.old_block x11 (.cells #[.string n, .string v] 23) (Fd.block_lt K14)).trans K14
  clear K14
  have K17 := Fd.new_block x11 (.cells #[.string n, .string v] 23)
  clear hB13
  have c18 := Fd.two0 K17
  have c19 := Fd.two1 K17
  go_wp2_with fail
  refine (Fd.line_any n v _ (by omega) (by omega) (HT.out.below hB15 hg)).mono ?_
  rintro e x20 ⟨rfl, hb21⟩
  rw [HL2.out]
  have hB22 := Fd.Bl.next hB15 hb21
  have K23 := Fd.Bl.old hb21 (Fd.block_lt K16) K16
  clear K16
  have K24 := Fd.Bl.old hb21 (Fd.block_lt K17) K17
  clear K17
  clear hb21 hB15
  obtain ⟨G25, hG26⟩ : ∃ G, G = x11.heap.size := ⟨_, rfl⟩
  try rw [← hG26] at K24
  rw [← hG26]
  clear hG26
  go_wp2_with fail
  refine (Fd.parse_any M _ (by omega) (HT.out.below hB22 hg)).mono ?_
  rintro e x27 ⟨rfl, hb28⟩
  rw [HPL2.out, show ∀ a b : ByteArray, Fd.FV a b = .agg #[.string a, .string b] from fun _ _ => rfl]
  have hB29 := Fd.Bl.next hB22 hb28
  have K30 := Fd.Bl.old hb28 (Fd.block_lt K23) K23
  clear K23
  have K31 := Fd.Bl.old hb28 (Fd.block_lt K24) K24
  clear K24
  clear hb28 hB22
  have hB32 := hB29.alloc hB29.size (.cells #[.string n, .string v] 23)
  have K33 := (Fd.old_block x27 (.cells #[.string n, .string v] 23) (Fd.block_lt K30)).trans K30
  clear K30
  have K34 := (Fd.old_block x27 (.cells #[.string n, .string v] 23) (Fd.block_lt K31)).trans K31
  clear K31
  have K35 := Fd.new_block x27 (.cells #[.string n, .string v] 23)
  clear hB29
  have c36 := Fd.two0 K34
  have c37 := Fd.two1 K34
  have c38 := Fd.two0 K35
  have c39 := Fd.two1 K35
  go_wp2_with fail
  go_ret
  exact ⟨rfl, hB32⟩

set_option maxHeartbeats 4000000 in
theorem way10 (a0 b0 : ByteArray) (ha : a0.size ≤ reachBytes) (hb : b0.size ≤ reachBytes) (hfw : Fd.fewB [(a0, b0)] = true) (a1 : ByteArray) (hs : a1.size ≤ 2000) (w : World) (hT : Tk.Tab w) (hf : Fd.isFld a0.data.toList b0.data.toList = true) (hp : Fd.parseVal a1 = .tuple #[Fd.FV ⟨#[]⟩ ⟨#[]⟩, .int .i64 31]) :
    Calls Tryd.prog 5 #[.agg #[.string a0, .string b0], .string a1] w fun e w' => e = .returned (.bool true) ∧ Below w.heap.size w w' := by
  have HFW := Lib.hid (few_step a0 b0 ha hb w)
  obtain ⟨hs1, hs2⟩ := Fd.fewB_one hfw
  have HF := Lib.hid hfw
  have HT := Lib.hid hT
  have hg := hT.lt
  have HP := Lib.hid hp
  clear hT hfw hp ha hb
  have hd : decide ((2000 : Int) < (a1.size : Int)) = false := by rw [decide_eq_false_iff_not]; omega
  have HL := Lib.hid (Fd.lineVal_yes hf)
  have HPL := Lib.hid (Fd.parse_line hf)
  have hls := Fd.line_size a0 b0
  obtain ⟨L, hL⟩ : ∃ L, L = a0 ++ ⟨#[58, 32]⟩ ++ b0 := ⟨_, rfl⟩
  rw [← hL] at HL HPL hls
  have hlz : L.size ≤ 8002 := by omega
  have ta : (a0.toList == a0.toList) = true := by simp
  have tb : (b0.toList == b0.toList) = true := by simp
  clear hL hls hf
  go_enter Tryd.func5, Tryd.ntmps5
  go_wp2_with fail
  refine HFW.out.mono ?_
  rintro e x0 ⟨rfl, hB0, K0⟩
  rw [HF.out]
  clear HFW HF
  go_wp2_with fail
  refine (Fd.line_any ⟨#[65, 103, 101]⟩ ⟨#[53]⟩ _ (by decide) (by decide) (HT.out.below hB0 hg)).mono ?_
  rintro e x1 ⟨rfl, hb2⟩
  rw [line_age]
  have hB3 := Fd.Bl.next hB0 hb2
  have K4 := Fd.Bl.old hb2 (Fd.block_lt K0) K0
  clear K0
  clear hb2 hB0
  have c5 := Fd.two0 K4
  have c6 := Fd.two1 K4
  go_wp2_with fail
  refine (Fd.line_any a0 b0 _ (by omega) (by omega) (HT.out.below hB3 hg)).mono ?_
  rintro e x7 ⟨rfl, hb8⟩
  rw [HL.out]
  have hB9 := Fd.Bl.next hB3 hb8
  have K10 := Fd.Bl.old hb8 (Fd.block_lt K4) K4
  clear K4
  clear hb8 hB3
  go_wp2_with fail
  refine (Fd.parse_any L _ (by omega) (HT.out.below hB9 hg)).mono ?_
  rintro e x11 ⟨rfl, hb12⟩
  rw [HPL.out, show Fd.FV a0 b0 = .agg #[.string a0, .string b0] from rfl]
  have hB13 := Fd.Bl.next hB9 hb12
  have K14 := Fd.Bl.old hb12 (Fd.block_lt K10) K10
  clear K10
  clear hb12 hB9
  have hB15 := hB13.alloc hB13.size (.cells #[.string a0, .string b0] 23)
  have K16 := (Fd.old_block x11 (.cells #[.string a0, .string b0] 23) (Fd.block_lt K14)).trans K14
  clear K14
  have K17 := Fd.new_block x11 (.cells #[.string a0, .string b0] 23)
  clear hB13
  have c18 := Fd.two0 K16
  have c19 := Fd.two1 K16
  have c20 := Fd.two0 K17
  have c21 := Fd.two1 K17
  go_wp2_with fail
  refine (Fd.parse_any a1 _ (by omega) (HT.out.below hB15 hg)).mono ?_
  rintro e x22 ⟨rfl, hb23⟩
  rw [HP.out, show ∀ a b : ByteArray, Fd.FV a b = .agg #[.string a, .string b] from fun _ _ => rfl]
  have hB24 := Fd.Bl.next hB15 hb23
  have K25 := Fd.Bl.old hb23 (Fd.block_lt K16) K16
  clear K16
  have K26 := Fd.Bl.old hb23 (Fd.block_lt K17) K17
  clear K17
  clear hb23 hB15
  obtain ⟨G27, hG28⟩ : ∃ G, G = x11.heap.size := ⟨_, rfl⟩
  try rw [← hG28] at K26
  rw [← hG28]
  clear hG28
  have hB29 := hB24.alloc hB24.size (.cells #[.string ⟨#[]⟩, .string ⟨#[]⟩] 23)
  have K30 := (Fd.old_block x22 (.cells #[.string ⟨#[]⟩, .string ⟨#[]⟩] 23) (Fd.block_lt K25)).trans K25
  clear K25
  have K31 := (Fd.old_block x22 (.cells #[.string ⟨#[]⟩, .string ⟨#[]⟩] 23) (Fd.block_lt K26)).trans K26
  clear K26
  have K32 := Fd.new_block x22 (.cells #[.string ⟨#[]⟩, .string ⟨#[]⟩] 23)
  clear hB24
  have c33 := Fd.two0 K32
  have c34 := Fd.two1 K32
  go_wp2_with fail
  go_ret
  exact ⟨rfl, hB29⟩

set_option maxHeartbeats 4000000 in
theorem way11 (a0 b0 : ByteArray) (ha : a0.size ≤ reachBytes) (hb : b0.size ≤ reachBytes) (hfw : Fd.fewB [(a0, b0)] = true) (a1 : ByteArray) (hs : a1.size ≤ 2000) (n v : ByteArray) (w : World) (hT : Tk.Tab w) (hf : Fd.isFld a0.data.toList b0.data.toList = true) (hp : Fd.parseVal a1 = .tuple #[Fd.FV n v, .int .i64 0]) (hi : Fd.isFld n.data.toList v.data.toList = true) (hn : n.size ≤ 2000) (hv : v.size ≤ 2000) :
    Calls Tryd.prog 5 #[.agg #[.string a0, .string b0], .string a1] w fun e w' => e = .returned (.bool true) ∧ Below w.heap.size w w' := by
  have HFW := Lib.hid (few_step a0 b0 ha hb w)
  obtain ⟨hs1, hs2⟩ := Fd.fewB_one hfw
  have HF := Lib.hid hfw
  have HT := Lib.hid hT
  have hg := hT.lt
  have HP := Lib.hid hp
  clear hT hfw hp ha hb
  have hd : decide ((2000 : Int) < (a1.size : Int)) = false := by rw [decide_eq_false_iff_not]; omega
  have HL := Lib.hid (Fd.lineVal_yes hf)
  have HPL := Lib.hid (Fd.parse_line hf)
  have hls := Fd.line_size a0 b0
  obtain ⟨L, hL⟩ : ∃ L, L = a0 ++ ⟨#[58, 32]⟩ ++ b0 := ⟨_, rfl⟩
  rw [← hL] at HL HPL hls
  have hlz : L.size ≤ 8002 := by omega
  have ta : (a0.toList == a0.toList) = true := by simp
  have tb : (b0.toList == b0.toList) = true := by simp
  clear hL hls hf
  have HL2 := Lib.hid (Fd.lineVal_yes hi)
  have HPL2 := Lib.hid (Fd.parse_line hi)
  have hls2 := Fd.line_size n v
  obtain ⟨M, hM⟩ : ∃ M, M = n ++ ⟨#[58, 32]⟩ ++ v := ⟨_, rfl⟩
  rw [← hM] at HL2 HPL2 hls2
  have hmz : M.size ≤ 4002 := by omega
  have tn : (n.toList == n.toList) = true := by simp
  have tv : (v.toList == v.toList) = true := by simp
  clear hM hls2 hi
  go_enter Tryd.func5, Tryd.ntmps5
  go_wp2_with fail
  refine HFW.out.mono ?_
  rintro e x0 ⟨rfl, hB0, K0⟩
  rw [HF.out]
  clear HFW HF
  go_wp2_with fail
  refine (Fd.line_any ⟨#[65, 103, 101]⟩ ⟨#[53]⟩ _ (by decide) (by decide) (HT.out.below hB0 hg)).mono ?_
  rintro e x1 ⟨rfl, hb2⟩
  rw [line_age]
  have hB3 := Fd.Bl.next hB0 hb2
  have K4 := Fd.Bl.old hb2 (Fd.block_lt K0) K0
  clear K0
  clear hb2 hB0
  have c5 := Fd.two0 K4
  have c6 := Fd.two1 K4
  go_wp2_with fail
  refine (Fd.line_any a0 b0 _ (by omega) (by omega) (HT.out.below hB3 hg)).mono ?_
  rintro e x7 ⟨rfl, hb8⟩
  rw [HL.out]
  have hB9 := Fd.Bl.next hB3 hb8
  have K10 := Fd.Bl.old hb8 (Fd.block_lt K4) K4
  clear K4
  clear hb8 hB3
  go_wp2_with fail
  refine (Fd.parse_any L _ (by omega) (HT.out.below hB9 hg)).mono ?_
  rintro e x11 ⟨rfl, hb12⟩
  rw [HPL.out, show Fd.FV a0 b0 = .agg #[.string a0, .string b0] from rfl]
  have hB13 := Fd.Bl.next hB9 hb12
  have K14 := Fd.Bl.old hb12 (Fd.block_lt K10) K10
  clear K10
  clear hb12 hB9
  have hB15 := hB13.alloc hB13.size (.cells #[.string a0, .string b0] 23)
  have K16 := (Fd.old_block x11 (.cells #[.string a0, .string b0] 23) (Fd.block_lt K14)).trans K14
  clear K14
  have K17 := Fd.new_block x11 (.cells #[.string a0, .string b0] 23)
  clear hB13
  have c18 := Fd.two0 K16
  have c19 := Fd.two1 K16
  have c20 := Fd.two0 K17
  have c21 := Fd.two1 K17
  go_wp2_with fail
  refine (Fd.parse_any a1 _ (by omega) (HT.out.below hB15 hg)).mono ?_
  rintro e x22 ⟨rfl, hb23⟩
  rw [HP.out, show ∀ a b : ByteArray, Fd.FV a b = .agg #[.string a, .string b] from fun _ _ => rfl]
  have hB24 := Fd.Bl.next hB15 hb23
  have K25 := Fd.Bl.old hb23 (Fd.block_lt K16) K16
  clear K16
  have K26 := Fd.Bl.old hb23 (Fd.block_lt K17) K17
  clear K17
  clear hb23 hB15
  obtain ⟨G27, hG28⟩ : ∃ G, G = x11.heap.size := ⟨_, rfl⟩
  try rw [← hG28] at K26
  rw [← hG28]
  clear hG28
  have hB29 := hB24.alloc hB24.size (.cells #[.string n, .string v] 23)
  have K30 := (Fd.old_block x22 (.cells #[.string n, .string v] 23) (Fd.block_lt K25)).trans K25
  clear K25
  have K31 := (Fd.old_block x22 (.cells #[.string n, .string v] 23) (Fd.block_lt K26)).trans K26
  clear K26
  have K32 := Fd.new_block x22 (.cells #[.string n, .string v] 23)
  clear hB24
  have c33 := Fd.two0 K32
  have c34 := Fd.two1 K32
  go_wp2_with fail
  refine (Fd.line_any n v _ (by omega) (by omega) (HT.out.below hB29 hg)).mono ?_
  rintro e x35 ⟨rfl, hb36⟩
  rw [HL2.out]
  have hB37 := Fd.Bl.next hB29 hb36
  have K38 := Fd.Bl.old hb36 (Fd.block_lt K30) K30
  clear K30
  have K39 := Fd.Bl.old hb36 (Fd.block_lt K31) K31
  clear K31
  have K40 := Fd.Bl.old hb36 (Fd.block_lt K32) K32
  clear K32
  clear hb36 hB29
  obtain ⟨G41, hG42⟩ : ∃ G, G = x22.heap.size := ⟨_, rfl⟩
  try rw [← hG42] at K40
  rw [← hG42]
  clear hG42
  go_wp2_with fail
  refine (Fd.parse_any M _ (by omega) (HT.out.below hB37 hg)).mono ?_
  rintro e x43 ⟨rfl, hb44⟩
  rw [HPL2.out, show ∀ a b : ByteArray, Fd.FV a b = .agg #[.string a, .string b] from fun _ _ => rfl]
  have hB45 := Fd.Bl.next hB37 hb44
  have K46 := Fd.Bl.old hb44 (Fd.block_lt K38) K38
  clear K38
  have K47 := Fd.Bl.old hb44 (Fd.block_lt K39) K39
  clear K39
  have K48 := Fd.Bl.old hb44 (Fd.block_lt K40) K40
  clear K40
  clear hb44 hB37
  have hB49 := hB45.alloc hB45.size (.cells #[.string n, .string v] 23)
  have K50 := (Fd.old_block x43 (.cells #[.string n, .string v] 23) (Fd.block_lt K46)).trans K46
  clear K46
  have K51 := (Fd.old_block x43 (.cells #[.string n, .string v] 23) (Fd.block_lt K47)).trans K47
  clear K47
  have K52 := (Fd.old_block x43 (.cells #[.string n, .string v] 23) (Fd.block_lt K48)).trans K48
  clear K48
  have K53 := Fd.new_block x43 (.cells #[.string n, .string v] 23)
  clear hB45
  have c54 := Fd.two0 K52
  have c55 := Fd.two1 K52
  have c56 := Fd.two0 K53
  have c57 := Fd.two1 K53
  go_wp2_with fail
  go_ret
  exact ⟨rfl, hB49⟩

set_option maxHeartbeats 4000000 in
theorem walk (a0 b0 : ByteArray) (w0 : a0.size ≤ reachBytes) (u0 : b0.size ≤ reachBytes) (a1 : ByteArray) (_w1 : a1.size ≤ maxLen) (w : World) (hT : Tk.Tab w) :
    Calls Tryd.prog 5 #[.agg #[.string a0, .string b0], .string a1] w fun e w' => e = .returned (.bool true) ∧ Below w.heap.size w w' := by
  have HFW := Lib.hid (few_step a0 b0 w0 u0 w)
  cases hfw : Fd.fewB [(a0, b0)] with
  | false =>
    have HF := Lib.hid hfw
    clear hfw hT
    go_enter Tryd.func5, Tryd.ntmps5
    go_wp2_with fail
    refine HFW.out.mono ?_
    rintro e x0 ⟨rfl, hB0, K0⟩
    rw [HF.out]
    go_wp2_with fail
    go_ret
    exact ⟨rfl, hB0⟩
  | true =>
    by_cases h2 : 2000 < a1.size
    · have hd : decide ((2000 : Int) < (a1.size : Int)) = true := by rw [decide_eq_true_eq]; omega
      have HF := Lib.hid hfw
      clear hfw hT
      go_enter Tryd.func5, Tryd.ntmps5
      go_wp2_with fail
      refine HFW.out.mono ?_
      rintro e x0 ⟨rfl, hB0, K0⟩
      rw [HF.out]
      go_wp2_with fail
      go_ret
      exact ⟨rfl, hB0⟩
    · have hs : a1.size ≤ 2000 := by omega
      have hn := Nat.le_trans (Fd.pName_size a1) hs
      have hv := Nat.le_trans (Fd.pVal_size a1) hs
      cases hf : Fd.isFld a0.data.toList b0.data.toList with
      | true =>
        rcases Fd.parse_cases a1 with ⟨_, hi, hp⟩ | hp
        · exact way11 a0 b0 w0 u0 hfw a1 hs _ _ w hT hf hp hi hn hv
        · exact way10 a0 b0 w0 u0 hfw a1 hs w hT hf hp
      | false =>
        rcases Fd.parse_cases a1 with ⟨_, hi, hp⟩ | hp
        · exact way01 a0 b0 w0 u0 hfw a1 hs _ _ w hT (Fd.lineVal_no hf) hp hi hn hv
        · exact way00 a0 b0 w0 u0 hfw a1 hs w hT (Fd.lineVal_no hf) hp

theorem contract (H : Type) (enc : TypeId × Value → H) (W : World) (base : Nat) (args : Array Value) (ds gs : List (DataW H)) (before : List MemPlace)
    (hval : ∀ (j : Nat) t v, Tryd.f5.params[j]? = some t → args[j]? = some v → Value.okWide Tryd.prog W .any base t v)
    (hW : DataW.Whole enc Tryd.prog Tryd.f5.params.toList Rows.fieldBackSpec.vars false W args.toList ds gs before) (ts : List TypeId) (hsz : (DataW.weightsEach Tryd.prog (Tryd.f5.params.toList ++ ts) (ds ++ gs)).all (· ≤ reachBytes) = true) (hL : laidMetH Tryd.prog Rows.fieldBackRow.laid W) :
    Calls Tryd.prog 5 args W fun e W' => ∃ v, e = .returned v ∧ Rows.fieldBackSpec.post enc Tryd.prog Tryd.f5 false true false false W args v W' := by
  have hW' := hW
  obtain ⟨p, q, hA0, hV, rfl, hfz, hnd⟩ := hW
  have hA : DataW.TrodAll enc Tryd.prog W 0 (fun _ => true) true Tryd.f5.params.toList args.toList ds p := hA0
  rw [Tryd.params5] at hA hval hsz
  obtain ⟨v0, vs0, d0, ds0, p0, q0, hargs, rfl, rfl, h0, r0⟩ := trodAll_cons hA
  obtain ⟨v1, vs1, d1, ds1, p1, q1, rfl, rfl, rfl, h1, r1⟩ := trodAll_cons r0
  obtain ⟨rfl, rfl, rfl⟩ := trodAll_nil r1
  have hw0 : ∀ n ∈ d0.weights Tryd.prog 23, n ≤ reachBytes := fun n hn => by simpa using List.all_eq_true.1 hsz n (DataW.weights_mem_each (j := 0) (t := 23) (d := d0) rfl rfl _ hn)
  obtain rfl : args = #[v0, v1] := by cases args; simp_all
  obtain ⟨rfl, rfl⟩ := trodVars_none hV
  have k0 := h0
  have lt0 : ∀ x ∈ p0, x.block < W.heap.size := by obtain ⟨m, hm⟩ := k0; exact DataW.trod_lt m _ _ _ hm
  obtain ⟨a0, b0, rfl, w0, u0⟩ := Fd.open_field (hval 0 23 v0 rfl rfl) h0 hw0
  obtain ⟨a1, rfl, rfl, rfl, w1⟩ := open_string Tryd.underlying9 (hval 1 9 v1 rfl rfl) h1
  clear hA0
  simp only [List.append_nil] at hW'
  refine (walk a0 b0 w0 u0 a1 w1 W (Tb.tok_of_head hL)).mono fun e W' ⟨he, bel⟩ => ?_
  subst he
  exact ⟨_, rfl, _, _, _, [], _, [], hW', trodAll_mk1 (shut_bool Tryd.underlying4 _), (trodAll_cons_mk (Below.trod Tb.laidOut (by kernel_rfl) (of_decide_eq_true (by kernel_rfl)) k0 bel lt0) (trodAll_cons_mk (shut_string Tryd.underlying9 w1) trodAll_mk0)), rfl, bel.frame _, fun h => by cases h⟩

theorem laid_met (os : Os) : laidMet Tryd.prog Rows.fieldBackRow.laid ((Tb.laidWorld os).forCall (fun _ _ => 0) ⟨#[], #[.agg #[.string ByteArray.empty, .string ByteArray.empty], .string ByteArray.empty], []⟩).memory :=
  laidMet_of_run' 8 (by kernel_rfl) (by kernel_rfl)
theorem reads (os : Os) {H : Type} (enc : TypeId × Value → H) : ∃ places, DataW.whole enc Tryd.prog ((Tb.laidWorld os).forCall (fun _ _ => 0) ⟨#[], #[.agg #[.string ByteArray.empty, .string ByteArray.empty], .string ByteArray.empty], []⟩).memory Tryd.f5.params.toList Rows.fieldBackSpec.vars false (#[.agg #[.string ByteArray.empty, .string ByteArray.empty], .string ByteArray.empty] : Array Value).toList 8 = some ([.agg [.lit (.string []), .lit (.string [])], .lit (.string [])], [], places) :=
  ⟨[], by kernel_rfl⟩

set_option maxRecDepth 100000 in
theorem lifted (os : Os) (started : os.Started) (H : Type) (enc : TypeId × Value → H) (F : Stop.Interp) :
    ReturnsInHanded {} Tryd.checked os 5 .any ((OpenSpec.ofChange Rows.fieldBackSpec).preRow enc Tryd.prog Tryd.f5 Rows.fieldBackRow.domain false Rows.fieldBackRow.laid) (((OpenSpec.ofChange Rows.fieldBackSpec).at F).post enc Tryd.prog Tryd.f5 false true false false) := by
  obtain ⟨places, hx⟩ := reads os enc
  refine returnsInHanded_of_row (C := Tryd.checked) (s := OpenSpec.ofChange Rows.fieldBackSpec) Tb.own started (by kernel_rfl) Tryd.func5
    (witness_row_at (enc := enc) (C := Tryd.checked) false (Tb.laidWorld os) #[.agg #[.string ByteArray.empty, .string ByteArray.empty], .string ByteArray.empty] rfl (by kernel_rfl) (by kernel_rfl) (by kernel_rfl)
      (OpenSpec.preRow_of_cond 8 hx (by kernel_rfl) (fun k hk => by cases hk) (by kernel_rfl) (laid_met os))) ?_
  intro W base args ds gs before hval hW _ _ hsz hL _ _
  exact contract H enc W base args ds gs before hval hW _ hsz hL

theorem said : Rows.FieldBackSaid :=
  OpenClaim.holds_of_cond 5 Tryd.f5 rfl rfl rfl rfl rfl rfl rfl ⟨rfl, rfl, rfl, rfl, rfl⟩ rfl rfl rfl rfl rfl (by kernel_rfl) Tryd.func5 (by kernel_rfl)
    (of_decide_eq_true (by kernel_rfl)) (by unfold Func.isWrapper; first | (rw [if_pos (by decide +kernel)]; kernel_rfl) | (rw [if_neg (by decide +kernel)]; exact ⟨rfl, rfl⟩))
    (fun os started H enc _ F => by rw [OpenClaim.pre_eq_preRow]; exact lifted os started H enc F)

theorem plain (f : FuncId) (fn : Func) (hf : Tryd.pinned.checked.prog.funcNamed "gatepost/gatepostlaw04.FieldBack" = some f) (hfn : Tryd.pinned.checked.prog.funcs[f]? = some fn) :
    false = Tryd.pinned.checked.prog.looks [] ∧ ∀ (j : Nat) t, fn.params[j]? = some t → Tryd.pinned.checked.prog.wantsStandIn t = false := by
  obtain rfl : f = 5 := Option.some.inj ((show Tryd.prog.funcNamed "gatepost/gatepostlaw04.FieldBack" = some 5 by kernel_rfl).symm.trans hf) |>.symm
  obtain rfl : fn = Tryd.f5 := (Option.some.inj (Tryd.func5.symm.trans hfn)).symm
  refine ⟨by kernel_rfl, fun j t ht => ?_⟩
  rw [Tryd.params5] at ht
  have hm := Array.mem_of_getElem? ht
  simp at hm
  rcases hm with rfl | rfl
  · exact (show Tryd.prog.wantsStandIn 23 = false by kernel_rfl)
  · exact (show Tryd.prog.wantsStandIn 9 = false by kernel_rfl)

theorem card : Rows.FieldBackCardSaid :=
  Claim7.holds_tied_plain_at .later [] _ _ _ _ said (fun _ h => by cases h) (by kernel_rfl) (fun _ h => by cases h) fieldBack_row_tie rfl ⟨rfl, rfl⟩ (by kernel_rfl) rfl plain (by kernel_rfl)
end Go.Proofs.YtacnlohfipcbdaaDoor.fieldBack
