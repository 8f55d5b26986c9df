/-
  line.RequestLine and line.StatusLine: what each returns. Conditions: the listed tables; texts of at most 2^20 bytes.
-/
import Derived.Test.YtldlhnppinodbaaDoorLnWrite
import Derived.Deep.RegionHeld3
namespace Go.Proofs.YtldlhnppinodbaaDoor.Ln
open Go.RowKit Go.Proofs.YtldlhnppinodbaaDoor.Tk

/-- The text of a version, a number's digits: their bytes. -/
def VT (n : Int) : ByteArray := ⟨(verText n).toArray⟩
def IT (n : Int) : ByteArray := ⟨(Lib.itoa n).toArray⟩
theorem VT_size (n : Int) (h0 : -9223372036854775808 ≤ n) (h1 : n ≤ 9223372036854775807) : (VT n).size ≤ 28 := by
  show (verText n).toArray.size ≤ 28
  rw [List.size_toArray]; exact verText_len n h0 h1
theorem IT_size (n : Int) (h0 : -9223372036854775808 ≤ n) (h1 : n ≤ 9223372036854775807) : (IT n).size ≤ 21 := itoa_size n h0 h1
def reqLineVal (a b : ByteArray) (n : Int) : Value := tellVal (reqBad a b n) (three a b (VT n))
def stLineVal (n c : Int) (r : ByteArray) : Value := tellVal (stBad n c r) (three (VT n) (IT c) r)

/-- The three captured cells are there; nothing elder has changed. -/
structure Kept (w : World) (t0 t1 t2 : TypeId) (x y z : Value) (W : World) : Prop where
  c3 : C3 w.heap.size t0 t1 t2 x y z W
  bel : Below w.heap.size w W
theorem Kept.more {w : World} {t0 t1 t2 : TypeId} {x y z : Value} {W W' : World} (h : Kept w t0 t1 t2 x y z W) (hb : Below W.heap.size W W') : Kept w t0 t1 t2 x y z W' := by
  have := h.c3.lt
  have e : ∀ k, k < W.heap.size → W'.heap[k]? = W.heap[k]? := fun k hk => hb.block k hk
  exact ⟨⟨by rw [e _ (by omega)]; exact h.c3.h0, by rw [e _ (by omega)]; exact h.c3.h1, by rw [e _ (by omega)]; exact h.c3.h2⟩, h.bel.trans (hb.mono (by omega))⟩
theorem Kept.drawn {w : World} {t0 t1 t2 : TypeId} {x y z : Value} {W : World} (h : Kept w t0 t1 t2 x y z W) (n : Nat) : Kept w t0 t1 t2 x y z (W.drewN n) :=
  ⟨h.c3.heap rfl, ⟨h.bel.os, h.bel.tape, h.bel.output, h.bel.size, h.bel.block⟩⟩
theorem Kept.drew {w : World} {t0 t1 t2 : TypeId} {x y z : Value} {W : World} (h : Kept w t0 t1 t2 x y z W) : Kept w t0 t1 t2 x y z W.drew := h.drawn 1
theorem Kept.alloc {w : World} {t0 t1 t2 : TypeId} {x y z : Value} {W : World} (h : Kept w t0 t1 t2 x y z W) (o : Obj) : Kept w t0 t1 t2 x y z (W.alloc o) :=
  ⟨h.c3.alloc o, h.bel.alloc (by have := h.c3.lt; omega) o⟩
theorem Kept.cells {w : World} {t0 t1 t2 : TypeId} {x y z : Value} {W : World} (h : Kept w t0 t1 t2 x y z W) :
    W.cell? ⟨w.heap.size, 0, none⟩ = some x ∧ W.cell? ⟨w.heap.size + 1, 0, none⟩ = some y ∧ W.cell? ⟨w.heap.size + 2, 0, none⟩ = some z ∧ Kept w t0 t1 t2 x y z W :=
  ⟨cell_of_one h.c3.h0, cell_of_one h.c3.h1, cell_of_one h.c3.h2, h⟩
theorem kept_new (w : World) (t0 t1 t2 : TypeId) (x y z : Value) : Kept w t0 t1 t2 x y z (((w.alloc (.cells #[x] t0)).alloc (.cells #[y] t1)).alloc (.cells #[z] t2)) := ⟨c3_new w t0 t1 t2 x y z, below_new w _ _ _⟩

open Go.Shelf in
theorem enters_req : ∀ args w, (callFunc 32 args).run Tryd.prog w = .ok (.enter 32 args) w := enters_of Tryd.func32 (by kernel_rfl) rfl
open Go.Shelf in
theorem enters_st : ∀ args w, (callFunc 35 args).run Tryd.prog w = .ok (.enter 35 args) w := enters_of Tryd.func35 (by kernel_rfl) rfl

theorem itoa_any (c : Int) (w : World) (h0 : -9223372036854775808 ≤ c) (h1 : c ≤ 9223372036854775807) (hE : Env w) :
    Calls Tryd.prog 36 #[.int .i64 c] w fun e w' => e = .returned (.string (IT c)) ∧ Below w.heap.size w w' :=
  (strconv_Itoa c h0 h1 w hE.p10).mono fun e w' ⟨he, k, os, hw⟩ => ⟨he, by rw [hw]; exact below_grow k os⟩
theorem tell_shape (bad : Bool) (J : ByteArray) : ∃ (R : ByteArray) (c : Int), tellVal bad J = .tuple #[.string R, .int .i64 c] := by
  unfold tellVal
  split
  · exact ⟨_, _, rfl⟩
  · split
    · exact ⟨_, _, rfl⟩
    · exact ⟨_, _, rfl⟩
set_option maxHeartbeats 4000000 in
theorem requestLine_any (a b : ByteArray) (n : Int) (w : World) (ha : a.size ≤ 1048576) (hb : b.size ≤ 1048576) (h0 : -9223372036854775808 ≤ n) (h1 : n ≤ 9223372036854775807) (hE : Env w) :
    Calls Tryd.prog 12 #[.string a, .string b, .int .i64 n] w fun e w' => e = .returned (reqLineVal a b n) ∧ Below w.heap.size w w' := by
  have HE := Lib.hid hE
  have HK := Lib.hid (kept_new w 9 9 3 (.string a) (.string b) (.int .i64 n))
  obtain ⟨R, c, hv⟩ := tell_shape (reqBad a b n) (three a b (VT n))
  have HTV := Lib.hid hv
  clear hE hv
  go_enter Tryd.func12, Tryd.ntmps12
  go_wp2_with fail
  go_region_held3 (fun W => W.cell? ⟨w.heap.size, 0, none⟩ = some (.string a) ∧ W.cell? ⟨w.heap.size + 1, 0, none⟩ = some (.string b) ∧ W.cell? ⟨w.heap.size + 2, 0, none⟩ = some (.int .i64 n) ∧ Kept w 9 9 3 (.string a) (.string b) (.int .i64 n) W)
    (first | exact HK.out.drew.cells | exact (HK.out.drew.more hb1).cells | exact ((HK.out.drew.more hb1).alloc _).cells | exact (((HK.out.drew.more hb1).alloc _).more hb2).cells) (first
    | (go_at_call 34; refine (version_any n _ h0 h1 (HE.out.below HK.out.drew.bel (Nat.le_refl _))).mono ?_; rintro e w1 ⟨rfl, hb1⟩)
    | (go_at_call 33; refine (tell_any _ _ _ _ (reqBad a b n) _ a b (VT n) _ enters_req (reqWrong_any w.heap.size a b n _ (by unfold maxLen; omega) (by unfold maxLen; omega) ((HK.out.drew.more hb1).alloc _).c3 (HE.out.below ((HK.out.drew.more hb1).alloc _).bel (Nat.le_refl _)).tab) (by omega) (by omega) (Nat.le_trans (VT_size n h0 h1) (by decide)) ?_ ?_ ?_).mono ?_; (rw [World.cell?_alloc_mark]; rfl); (rw [World.cell?_alloc_mark]; rfl); (rw [World.cell?_alloc_mark]; rfl); rintro e w2 ⟨rfl, hb2⟩; rw [HTV.out]))
  go_wp2_with fail
  refine bodyPost_ret (v := .tuple #[.string R, .int .i64 c]) (by simp [results, Tryd.results12, go_sem]) rfl ⟨by unfold reqLineVal; rw [HTV.out], ?_⟩
  exact (((HK.out.drew.more hb1).alloc _).more hb2).bel

set_option maxHeartbeats 4000000 in
theorem statusLine_any (n c : Int) (r : ByteArray) (w : World) (hr : r.size ≤ 1048576) (h0 : -9223372036854775808 ≤ n) (h1 : n ≤ 9223372036854775807) (h2 : -9223372036854775808 ≤ c) (h3 : c ≤ 9223372036854775807) (hE : Env w) :
    Calls Tryd.prog 14 #[.int .i64 n, .int .i64 c, .string r] w fun e w' => e = .returned (stLineVal n c r) ∧ Below w.heap.size w w' := by
  have HE := Lib.hid hE
  have HK := Lib.hid (kept_new w 3 3 9 (.int .i64 n) (.int .i64 c) (.string r))
  obtain ⟨R, d, hv⟩ := tell_shape (stBad n c r) (three (VT n) (IT c) r)
  have HTV := Lib.hid hv
  clear hE hv
  go_enter Tryd.func14, Tryd.ntmps14
  go_wp2_with fail
  go_region_held3 (fun W => W.cell? ⟨w.heap.size, 0, none⟩ = some (.int .i64 n) ∧ W.cell? ⟨w.heap.size + 1, 0, none⟩ = some (.int .i64 c) ∧ W.cell? ⟨w.heap.size + 2, 0, none⟩ = some (.string r) ∧ Kept w 3 3 9 (.int .i64 n) (.int .i64 c) (.string r) W)
    (first | exact HK.out.drew.cells | exact (HK.out.drew.more hb1).cells | exact ((HK.out.drew.more hb1).more hb2).cells | exact (((HK.out.drew.more hb1).more hb2).alloc _).cells | exact ((((HK.out.drew.more hb1).more hb2).alloc _).more hb3).cells) (first
    | (go_at_call 34; refine (version_any n _ h0 h1 (HE.out.below HK.out.drew.bel (Nat.le_refl _))).mono ?_; rintro e w1 ⟨rfl, hb1⟩)
    | (go_at_call 36; refine (itoa_any c _ h2 h3 (HE.out.below (HK.out.drew.more hb1).bel (Nat.le_refl _))).mono ?_; rintro e w2 ⟨rfl, hb2⟩)
    | (go_at_call 33; refine (tell_any _ _ _ _ (stBad n c r) _ (VT n) (IT c) r _ enters_st (stWrong_any w.heap.size n c r _ (by unfold maxLen; omega) (((HK.out.drew.more hb1).more hb2).alloc _).c3) (Nat.le_trans (VT_size n h0 h1) (by decide)) (Nat.le_trans (IT_size c h2 h3) (by decide)) (by omega) ?_ ?_ ?_).mono ?_; (rw [World.cell?_alloc_mark]; rfl); (rw [World.cell?_alloc_mark]; rfl); (rw [World.cell?_alloc_mark]; rfl); rintro e w3 ⟨rfl, hb3⟩; rw [HTV.out]))
  go_wp2_with fail
  refine bodyPost_ret (v := .tuple #[.string R, .int .i64 d]) (by simp [results, Tryd.results14, go_sem]) rfl ⟨by unfold stLineVal; rw [HTV.out], ?_⟩
  exact ((((HK.out.drew.more hb1).more hb2).alloc _).more hb3).bel
end Go.Proofs.YtldlhnppinodbaaDoor.Ln
