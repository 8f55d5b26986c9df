/-
  framing.Chunk, framing.Last and the reference's Chunk: what they return. Conditions: at most 2^30 bytes; one cell of a table of math/bits.
-/
import Derived.Test.YtoofdompafkddaaDoorFrHex
import Derived.Test.YtoofdompafkddaaDoorFrApp
import Derived.Test.YtoofdompafkddaaDoorHdMask
import Derived.Deep.DeepCutAuto
namespace Go.Proofs.YtoofdompafkddaaDoor.Fr
open Go.RowKit Go.Proofs.YtoofdompafkddaaDoor.Tk Go.Proofs.YtoofdompafkddaaDoor.Fd Go.Proofs.YtoofdompafkddaaDoor.Hd
set_option linter.unusedVariables false

/-- Bytes as a chunk. -/
def chunkL (b : Bs) : Bs := if b = [] then [] else hexL b.length ++ [13, 10] ++ b ++ [13, 10]
theorem chunkL_nil : chunkL [] = [] := rfl
theorem chunkL_some {b : Bs} (h : b ≠ []) : chunkL b = hexL b.length ++ [13, 10] ++ b ++ [13, 10] := if_neg h
theorem own_bytes (W : World) (S : ByteArray) (cap : Nat) (hc : S.size ≤ cap) (hm : cap ≤ maxLen) :
    Own (W.drew.alloc (.cells (bytesRow S cap) 5 ((bytesRow S cap).size, (bytesRow S cap).size + 1))) W.heap.size (.slice (some ⟨W.heap.size, 0, none⟩) S.size cap) S.data.toList := by
  have hl : S.data.toList.length = S.size := by simp
  have hsz : (bytesRow S cap).size = cap := by unfold bytesRow; simp; exact Nat.add_sub_of_le hc
  have hB := new_block' (g := W.heap.size) W.drew (.cells (bytesRow S cap) 5 ((bytesRow S cap).size, (bytesRow S cap).size + 1)) rfl
  refine .inr ⟨W.heap.size, cap, by rw [hl], Nat.le_refl _, by simp, by rw [hl]; exact hc, hm, fun j hj => ⟨?_, ?_⟩, Tk.holds_new W.drew S cap _ _⟩
  · rw [Lib.cell_of_heap hB, Array.getElem?_eq_getElem (by omega)]; rfl
  · have h := World.frozen?_alloc_mark W.drew (bytesRow S cap) 5 (bytesRow S cap).size ((bytesRow S cap).size + 1) j
    have e : (W.drew.heap.size) = W.heap.size := rfl
    rw [e] at h
    rw [h, hsz]
    simp
    omega
theorem conv_hex (n : Nat) (hn : (hexL n).length ≤ 1048576) : ∃ S : ByteArray, S.data.toList = hexL n ++ [13, 10] ∧ S.size = (hexL n).length + 2 ∧
    ∀ W : World, (convert 9 22 (.string (⟨(hexL n).toArray⟩ ++ ⟨#[13, 10]⟩))).run Tryd.prog W = .ok (.slice (some ⟨W.heap.size, 0, none⟩) S.size (grownCap W S.size 0 5))
      (W.drew.alloc (.cells (bytesRow S (grownCap W S.size 0 5)) 5 ((bytesRow S (grownCap W S.size 0 5)).size, (bytesRow S (grownCap W S.size 0 5)).size + 1))) := by
  refine ⟨⟨(hexL n).toArray⟩ ++ ⟨#[13, 10]⟩, by simp, ?_, fun W => run_bytes W _⟩
  rw [ByteArray.size_append]; simp [ByteArray.size]
theorem app_below {B base : Nat} {v v' : Value} {l m : Bs} {a w w' : World} (h : AppPost base v l m w v' w') (ho : Own w base v l) (hB : Below B a w) (hb : B ≤ base) (hs : B ≤ w.heap.size) : Below B a w' :=
  hB.trans (h.2.1.below (fun k hk => Nat.le_trans hb (ho.lt k hk).1) hs)
def ChunkPost (b : Bs) (w : World) (e : Ending) (w' : World) : Prop := ∃ u, e = .returned u ∧ Own w' w.heap.size u (chunkL b) ∧ Below w.heap.size w w'
set_option maxRecDepth 100000 in
set_option maxHeartbeats 4000000 in
theorem chunk_any (v : Value) (b : Bs) (w : World) (hv : Byts w v b) (hb : b.length ≤ 1073741824) (hD : D64 w) :
    Calls Tryd.prog 38 #[v] w (ChunkPost b w) := by
  obtain ⟨va, vc, hvs⟩ := hv.shape
  subst hvs
  by_cases h0 : b = []
  · subst h0
    have HP := Lib.hid (show ChunkPost [] w (.returned (.slice none 0 0)) w from ⟨_, rfl, Own.nil _ _, Below.refl _ _⟩)
    clear hv
    go_enter Tryd.func38, Tryd.ntmps38
    go_wp2_with fail
    go_ret
    exact HP.out
  · have hpos : 0 < b.length := List.length_pos_iff.2 h0
    have HV := Lib.hid hv
    have hne : ((b.length : Int) == 0) = false := by rw [beq_eq_false_iff_ne]; omega
    have hh := hexL_len 14 b.length (by omega)
    obtain ⟨S, hSd, hSs, hcs⟩ := conv_hex b.length (by omega)
    have HSD := Lib.hid hSd
    have HSS := Lib.hid hSs
    have HH := Lib.hid hh
    have HF := Lib.hid (formatInt_any b.length w (by omega) hD)
    have HCK := Lib.hid (chunkL_some h0)
    clear hv hD hSd hSs h0
    go_enter Tryd.func38, Tryd.ntmps38
    go_wp2_with fail
    refine HF.out.mono ?_
    rintro e w1 ⟨rfl, hb1⟩
    have HB1 := Lib.hid hb1
    clear hb1
    go_upto_region 4 with fail
    obtain ⟨C, hC⟩ : ∃ C, C = grownCap w1 S.size 0 5 := ⟨_, rfl⟩
    rw [← hC]
    obtain ⟨w2, hw2⟩ : ∃ w2, w2 = (w1.alloc (.cells (bytesRow S C) 5 ((bytesRow S C).size, (bytesRow S C).size + 1))).drew := ⟨_, rfl⟩
    rw [← hw2]
    have HO := Lib.hid (show Own w2 w1.heap.size (.slice (some ⟨w1.heap.size, 0, none⟩) S.size C) (hexL b.length ++ [13, 10]) from by
      rw [← HSD.out, hw2]
      exact own_bytes w1 S C (by rw [hC]; exact grownCap_ge _ _ _ _) (by rw [hC]; exact grownCap_le_maxLen _ _ _ _ (by have := HSS.out; have := HH.out; unfold maxLen; omega)))
    have HB2 := Lib.hid (show Below w.heap.size w w2 from by rw [hw2]; exact (HB1.out.alloc HB1.out.size _).drew)
    have hs1 := HB1.out.size
    have hs2 : w1.heap.size ≤ w2.heap.size := by rw [hw2]; simp
    have HV2 := Lib.hid (HV.out.below HB2.out (Nat.le_refl _))
    have HL := Lib.hid (show (hexL b.length ++ [13, 10]).length + b.length ≤ 1099511627776 ∧ (hexL b.length ++ [13, 10] ++ b).length + 2 ≤ 1099511627776 from by simp only [List.length_append, List.length_cons, List.length_nil]; have := HH.out; omega)
    have HW := Lib.hid (show w.heap.size ≤ w2.heap.size from by omega)
    clear hcs hC hw2 HB1
    go_wp2_with (first | (at_builtin; refine wpList_append_any _ rfl _ _ 22 rfl w1.heap.size _ _ (hexL b.length ++ [13, 10]) b rfl rfl hs2 HO.out (src_byts HV2.out) HL.out.1 ?_; intro v3 w3 hp3; have HP3 := Lib.hid hp3; have hs3 : w1.heap.size ≤ w3.heap.size := Nat.le_trans hs2 hp3.2.1.size; obtain ⟨a3, c3, hv3⟩ := hp3.1.form; subst hv3; clear hp3) | (at_builtin; refine wpList_append_any _ rfl _ _ 9 rfl w1.heap.size _ _ (hexL b.length ++ [13, 10] ++ b) [13, 10] rfl rfl hs3 HP3.out.1 (src_text _ ⟨#[13, 10]⟩) HL.out.2 ?_; intro v4 w4 hp4; have HP4 := Lib.hid hp4; clear hp4))
    go_ret
    have hb3 := app_below HP3.out HO.out HB2.out hs1 HW.out
    exact ⟨_, rfl, by rw [HCK.out]; exact HP4.out.1.mono hs1, app_below HP4.out HP3.out.1 hb3 hs1 (by omega)⟩
def lastL : Bs := [48, 13, 10, 13, 10]
set_option maxRecDepth 100000 in
set_option maxHeartbeats 4000000 in
theorem last_any (w : World) : Calls Tryd.prog 40 #[] w fun e w' => ∃ u, e = .returned u ∧ Own w' w.heap.size u lastL ∧ Below w.heap.size w w' := by
  have HB := Lib.hid ((Below.refl w.heap.size w).alloc (Nat.le_refl _) (.cells #[.int .u8 48, .int .u8 13, .int .u8 10, .int .u8 13, .int .u8 10] 5 (5, 6)))
  have HN := Lib.hid (new_block w (.cells #[.int .u8 48, .int .u8 13, .int .u8 10, .int .u8 13, .int .u8 10] 5 (5, 6)))
  have HF := Lib.hid (World.frozen?_alloc_mark w #[.int .u8 48, .int .u8 13, .int .u8 10, .int .u8 13, .int .u8 10] 5 5 6)
  have kc := fun (w : World) (C : Array Value) (n c : Nat) => Lib.run_convert_bytes_const (P := Tryd.prog) w 22 5 C n c Tryd.underlying22 Tryd.underlying5
  go_enter Tryd.func40, Tryd.ntmps40
  go_wp2_with fail
  go_ret
  refine ⟨_, rfl, .inr ⟨w.heap.size, 5, rfl, Nat.le_refl _, by simp, by decide, by decide, fun j hj => ⟨?_, ?_⟩, fun j hj => ?_⟩, HB.out⟩
  · rw [Lib.cell_of_heap HN.out, Array.getElem?_eq_getElem (by simpa using hj)]; rfl
  · rw [HF.out j]; simp; omega
  · rw [Lib.cell_of_heap HN.out, Nat.zero_add]
    have : j < 5 := hj
    rcases (by omega : j = 0 ∨ j = 1 ∨ j = 2 ∨ j = 3 ∨ j = 4) with rfl | rfl | rfl | rfl | rfl <;> rfl
end Go.Proofs.YtoofdompafkddaaDoor.Fr
