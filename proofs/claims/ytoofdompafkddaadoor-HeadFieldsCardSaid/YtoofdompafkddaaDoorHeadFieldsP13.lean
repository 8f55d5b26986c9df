/-
  Texts that the law's proof stands on, 4 of them in one file; each one's head says what it proves and under which condition.
-/
import Derived.Test.YtoofdompafkddaaDoorHeadFieldsP12
import Derived.Deep.QuietTactic
import Derived.BigQuiet
import Derived.Laws.AppendOwnNone
import Derived.WalkSpells
import Derived.Lib.LazyBuf
/-
  A reader's take: what it leaves. Condition: the table of token bytes.
-/
namespace Go.Proofs.YtoofdompafkddaaDoor.Hd
open Go.RowKit Go.Proofs.YtoofdompafkddaaDoor.Tk Go.Proofs.YtoofdompafkddaaDoor.Fd
set_option linter.unusedVariables false

def TakePost (O : Nat → Prop) (resp : Bool) (g : Nat) (s : St) (b : Bs) (w : World) (e : Ending) (w' : World) : Prop :=
  ∃ k st, e = .returned (.int .i64 (k : Nat)) ∧ Took resp s b k st ∧ Rdr w' (New O w) resp g st ∧ Chg O w w'

set_option maxRecDepth 100000 in
set_option maxHeartbeats 8000000 in
theorem take_line (O : Nat → Prop) (resp : Bool) (g gb : Nat) (a : Option Addr) (c : Nat) (fv : Value) (p : Option Parts) (l : Bs) (n : Nat) (fs : List Fl) (B off cap : Nat) (b : Bs) (w : World)
    (h : On w O resp g gb (.slice a l.length c) fv p l n fs) (hG : Good (.on p l n fs)) (hcap : b.length ≤ cap) (hcm : cap ≤ maxLen) (hB : B < w.heap.size) (hh : Holds w B off b) (hOB : ¬ O B) (hb : 0 < b.length) (hT : Tab w) (ho : ¬ O 0)
    (hA : nl (b.take (min b.length (room p l n))) < min b.length (room p l n)) :
    Calls Tryd.prog 47 #[.pointer (some ⟨g, 0, none⟩), .slice (some ⟨B, off, none⟩) b.length cap] w (TakePost O resp g (.on p l n fs) b w) := by
  have HO := Lib.hid (h.below ((Below.refl w.heap.size w).drew))
  have HH := Lib.hid hh
  obtain ⟨h1, h2, h3, h4, h5, h6⟩ := hG
  have c1 := rc1 h.blk
  have c3 := rc3 h.blk
  have c4 := rc4 h.blk
  have HCw := Lib.hid ((Chg.refl O w).drew)
  have HTw := Lib.hid (show Tab w.drew from hT)
  have htl := hT.lt
  obtain ⟨M, hM⟩ : ∃ M, M = most p := ⟨_, rfl⟩
  have hM2 : M ≤ 8192 := by rw [hM]; unfold most; split <;> omega
  rw [← hM] at c1 h3
  obtain ⟨R, hR⟩ : ∃ R, R = room p l n := ⟨_, rfl⟩
  have hRm : R = min (8192 - n) (M - l.length) := by rw [hR, hM]; rfl
  have hmin : min (IntKind.i64.wrap (8192 - (n : Int))) (IntKind.i64.wrap ((M : Int) - (l.length : Int))) = (R : Int) := by
    rw [IntWalk.i64_in _ (by omega), IntWalk.i64_in _ (by omega)]; omega
  have HMN := Lib.hid hmin
  have HRR := Lib.hid hR
  have hr1 : n + R ≤ 8192 := by omega
  obtain ⟨m, hm⟩ : ∃ m, m = min b.length R := ⟨_, rfl⟩
  have hml : (b.take m).length = m := by rw [List.length_take]; omega
  have hmn : min (b.length : Int) (R : Int) = (m : Int) := by omega
  have hmb : m ≤ b.length := by omega
  have hmr : m ≤ R := by omega
  have HMm := Lib.hid hm
  have HI := Lib.hid (fun (W : World) (hW : Holds W B off b) => (show Calls Tryd.prog 69 #[.slice (some ⟨B, off, none⟩) m cap, .int .u8 10] W fun e w' => e = .returned (.int .i64 (Lib.indexByte (b.take m) 10)) ∧ W = w' from by
    have := idx10_any B off cap (b.take m) W (Holds_take hW m)
    rwa [hml] at this))
  rw [← hR, ← hm] at hA
  clear h hh hM hR hRm h6 hmin hm
  unfold maxLen at hcm
  obtain ⟨s1, s2, s3, s4⟩ := nl_split (b := b) (m := m) (by rw [hml]; exact hA)
  have HX := Lib.hid (show Lib.indexByte (b.take m) 10 = (nl (b.take m) : Int) from by rw [nl_index, hml, if_pos hA])
  obtain ⟨i, hi⟩ : ∃ i, i = nl (b.take m) := ⟨_, rfl⟩
  rw [← hi] at HX s1 s2 s3 s4
  have HS1 := Lib.hid s1
  have HS2 := Lib.hid s2
  have HT1 := Lib.hid (show b.take (i + 1) = b.take i ++ [10] from by
    have e : b[i] = 10 := by
      have := congrArg (fun x => x[i]?) s1
      simp only [List.getElem?_eq_getElem s4] at this
      rw [List.getElem?_append_right (by rw [List.length_take]; omega), List.length_take, show i - min i b.length = 0 from by omega] at this
      simpa using this
    rw [List.take_succ_eq_append_getElem s4, e])
  have hil : (b.take (i + 1)).length = i + 1 := by rw [List.length_take]; omega
  have HIL := Lib.hid hil
  clear hi hA s1 s2 hil
  go_enter Tryd.func47, Tryd.ntmps47
  go_wp2_with fail
  go_region_held3 (fun W => W.cell? ⟨g, 4, none⟩ = some (.int .i64 (n : Int)) ∧ W.cell? ⟨g, 1, none⟩ = some (.int .i64 (M : Int)) ∧ W.cell? ⟨g, 3, none⟩ = some (.slice a l.length c)) (exact ⟨c4, c1, c3⟩) (fail)
  rw [HMN.out]
  obtain ⟨W, hW⟩ : ∃ W, W = w.drew := ⟨_, rfl⟩
  have hsz : w.heap.size = W.heap.size := by rw [hW]; rfl
  rw [← hW] at HO HCw HTw
  have HHW := Lib.hid (show Holds W B off b from by rw [hW]; exact HH.out)
  rw [← hW]
  clear hW c1 c3 c4
  go_wp2_with fail
  refine (HI.out W HHW.out).mono ?_
  rintro e w0 ⟨rfl, rfl⟩
  rw [HX.out]
  clear hmn
  go_wp2_with fail
  refine (keep_any O resp g gb _ fv p l n fs _ (b.take (i + 1)) _ HO.out (.inr ⟨B, off, cap, by rw [HIL.out], by rw [HIL.out]; omega, by unfold maxLen; omega, by omega, Holds_take HHW.out _⟩) (fun k hk => by injection hk with hk; subst hk; exact hOB) (by rw [HIL.out]; omega) (by rw [HIL.out]; omega) (by rw [HIL.out]; omega)).mono ?_
  rintro e w1 ⟨rfl, ⟨lv1, hO1⟩, hc1⟩
  rw [HIL.out, HT1.out, ← List.append_assoc] at hO1
  have HO1 := Lib.hid hO1
  have HC1 := Lib.hid hc1
  have hs1 := hc1.size
  have hnt : ¬ New O W 0 := fun hn => by
    rcases hn with hn | hn
    · exact ho hn
    · omega
  have HTc := Lib.hid (Tab.chg HTw.out hc1 ho)
  clear hO1 hc1
  go_wp2_with fail
  refine (end_any (New O W) resp g gb lv1 fv p (l ++ b.take i) (n + (i + 1)) fs _ HO1.out HTc.out hnt h4 (by rw [List.length_append, List.length_take]; omega)).mono ?_
  rintro e w2 ⟨rfl, hR2, hc2⟩
  have HR2 := Lib.hid (hR2.mono (new_new hs1))
  have HC2 := Lib.hid (HC1.out.again hc2)
  clear hR2 hc2
  go_wp2_with fail
  go_ret
  exact ⟨i + 1, _, rfl, took_line s4 HS1.out HS2.out (by rw [← HRR.out]; omega), HR2.out.mono (new_size (by omega)), HCw.out.trans HC2.out (fun k hk => .inl hk)⟩
set_option maxRecDepth 100000 in
set_option maxHeartbeats 8000000 in
theorem take_big (O : Nat → Prop) (resp : Bool) (g gb : Nat) (a : Option Addr) (c : Nat) (fv : Value) (p : Option Parts) (l : Bs) (n : Nat) (fs : List Fl) (B off cap : Nat) (b : Bs) (w : World)
    (h : On w O resp g gb (.slice a l.length c) fv p l n fs) (hG : Good (.on p l n fs)) (hcap : b.length ≤ cap) (hcm : cap ≤ maxLen) (hB : B < w.heap.size) (hh : Holds w B off b) (hOB : ¬ O B) (hb : 0 < b.length) (hT : Tab w) (ho : ¬ O 0)
    (hA : ¬ nl (b.take (min b.length (room p l n))) < min b.length (room p l n)) (hbig : room p l n < b.length) :
    Calls Tryd.prog 47 #[.pointer (some ⟨g, 0, none⟩), .slice (some ⟨B, off, none⟩) b.length cap] w (TakePost O resp g (.on p l n fs) b w) := by
  have HO := Lib.hid (h.below ((Below.refl w.heap.size w).drew))
  have HH := Lib.hid hh
  obtain ⟨h1, h2, h3, h4, h5, h6⟩ := hG
  have c1 := rc1 h.blk
  have c3 := rc3 h.blk
  have c4 := rc4 h.blk
  have HCw := Lib.hid ((Chg.refl O w).drew)
  have HTw := Lib.hid (show Tab w.drew from hT)
  have htl := hT.lt
  obtain ⟨M, hM⟩ : ∃ M, M = most p := ⟨_, rfl⟩
  have hM2 : M ≤ 8192 := by rw [hM]; unfold most; split <;> omega
  rw [← hM] at c1 h3
  obtain ⟨R, hR⟩ : ∃ R, R = room p l n := ⟨_, rfl⟩
  have hRm : R = min (8192 - n) (M - l.length) := by rw [hR, hM]; rfl
  have hmin : min (IntKind.i64.wrap (8192 - (n : Int))) (IntKind.i64.wrap ((M : Int) - (l.length : Int))) = (R : Int) := by
    rw [IntWalk.i64_in _ (by omega), IntWalk.i64_in _ (by omega)]; omega
  have HMN := Lib.hid hmin
  have HRR := Lib.hid hR
  have hr1 : n + R ≤ 8192 := by omega
  obtain ⟨m, hm⟩ : ∃ m, m = min b.length R := ⟨_, rfl⟩
  have hml : (b.take m).length = m := by rw [List.length_take]; omega
  have hmn : min (b.length : Int) (R : Int) = (m : Int) := by omega
  have hmb : m ≤ b.length := by omega
  have hmr : m ≤ R := by omega
  have HMm := Lib.hid hm
  have HI := Lib.hid (fun (W : World) (hW : Holds W B off b) => (show Calls Tryd.prog 69 #[.slice (some ⟨B, off, none⟩) m cap, .int .u8 10] W fun e w' => e = .returned (.int .i64 (Lib.indexByte (b.take m) 10)) ∧ W = w' from by
    have := idx10_any B off cap (b.take m) W (Holds_take hW m)
    rwa [hml] at this))
  rw [← hR, ← hm] at hA
  rw [← hR] at hbig
  clear h hh hM hR hRm h6 hmin hm
  unfold maxLen at hcm
  have HX := Lib.hid (show Lib.indexByte (b.take m) 10 = -1 from by rw [nl_index, hml, if_neg hA])
  have HN0 := Lib.hid (nl_none (l := b.take m) (by rw [hml]; exact hA))
  clear hA
  go_enter Tryd.func47, Tryd.ntmps47
  go_wp2_with fail
  go_region_held3 (fun W => W.cell? ⟨g, 4, none⟩ = some (.int .i64 (n : Int)) ∧ W.cell? ⟨g, 1, none⟩ = some (.int .i64 (M : Int)) ∧ W.cell? ⟨g, 3, none⟩ = some (.slice a l.length c)) (exact ⟨c4, c1, c3⟩) (fail)
  rw [HMN.out]
  obtain ⟨W, hW⟩ : ∃ W, W = w.drew := ⟨_, rfl⟩
  have hsz : w.heap.size = W.heap.size := by rw [hW]; rfl
  rw [← hW] at HO HCw HTw
  have HHW := Lib.hid (show Holds W B off b from by rw [hW]; exact HH.out)
  rw [← hW]
  clear hW c1 c3 c4
  go_wp2_with fail
  refine (HI.out W HHW.out).mono ?_
  rintro e w0 ⟨rfl, rfl⟩
  rw [HX.out]
  clear hmn
  have hK := HO.out.blk
  go_wp2_with fail
  refine (fail_any resp g _ _ _ n false 0 _ fv 3 _ (fnOf_is gb p) HO.out.blk).mono ?_
  rintro e w1 ⟨rfl, hb1, hc1⟩
  have HB1 := Lib.hid hb1
  have HC1 := Lib.hid (HCw.out.trans hc1 (fun k hk => .inl (hk ▸ HO.out.og)))
  clear hb1 hc1 hK
  go_wp2_with fail
  go_ret
  refine ⟨R + 1, .bad 3, rfl, ?_, ⟨_, _, fnOf_is gb p, HB1.out, .inl HO.out.og⟩, HC1.out⟩
  have := took_big (resp := resp) (b := b) (p := p) (l := l) (n := n) (fs := fs) (by rw [← HRR.out]; have := HN0.out; rwa [show m = R from by have := HMm.out; omega] at this) (by rw [← HRR.out]; exact hbig)
  rwa [← HRR.out] at this
set_option maxRecDepth 100000 in
set_option maxHeartbeats 8000000 in
theorem take_part (O : Nat → Prop) (resp : Bool) (g gb : Nat) (a : Option Addr) (c : Nat) (fv : Value) (p : Option Parts) (l : Bs) (n : Nat) (fs : List Fl) (B off cap : Nat) (b : Bs) (w : World)
    (h : On w O resp g gb (.slice a l.length c) fv p l n fs) (hG : Good (.on p l n fs)) (hcap : b.length ≤ cap) (hcm : cap ≤ maxLen) (hB : B < w.heap.size) (hh : Holds w B off b) (hOB : ¬ O B) (hb : 0 < b.length) (hT : Tab w) (ho : ¬ O 0)
    (hA : ¬ nl (b.take (min b.length (room p l n))) < min b.length (room p l n)) (hbig : b.length ≤ room p l n) :
    Calls Tryd.prog 47 #[.pointer (some ⟨g, 0, none⟩), .slice (some ⟨B, off, none⟩) b.length cap] w (TakePost O resp g (.on p l n fs) b w) := by
  have HO := Lib.hid (h.below ((Below.refl w.heap.size w).drew))
  have HH := Lib.hid hh
  obtain ⟨h1, h2, h3, h4, h5, h6⟩ := hG
  have c1 := rc1 h.blk
  have c3 := rc3 h.blk
  have c4 := rc4 h.blk
  have HCw := Lib.hid ((Chg.refl O w).drew)
  have HTw := Lib.hid (show Tab w.drew from hT)
  have htl := hT.lt
  obtain ⟨M, hM⟩ : ∃ M, M = most p := ⟨_, rfl⟩
  have hM2 : M ≤ 8192 := by rw [hM]; unfold most; split <;> omega
  rw [← hM] at c1 h3
  obtain ⟨R, hR⟩ : ∃ R, R = room p l n := ⟨_, rfl⟩
  have hRm : R = min (8192 - n) (M - l.length) := by rw [hR, hM]; rfl
  have hmin : min (IntKind.i64.wrap (8192 - (n : Int))) (IntKind.i64.wrap ((M : Int) - (l.length : Int))) = (R : Int) := by
    rw [IntWalk.i64_in _ (by omega), IntWalk.i64_in _ (by omega)]; omega
  have HMN := Lib.hid hmin
  have HRR := Lib.hid hR
  have hr1 : n + R ≤ 8192 := by omega
  obtain ⟨m, hm⟩ : ∃ m, m = min b.length R := ⟨_, rfl⟩
  have hml : (b.take m).length = m := by rw [List.length_take]; omega
  have hmn : min (b.length : Int) (R : Int) = (m : Int) := by omega
  have hmb : m ≤ b.length := by omega
  have hmr : m ≤ R := by omega
  have HMm := Lib.hid hm
  have HI := Lib.hid (fun (W : World) (hW : Holds W B off b) => (show Calls Tryd.prog 69 #[.slice (some ⟨B, off, none⟩) m cap, .int .u8 10] W fun e w' => e = .returned (.int .i64 (Lib.indexByte (b.take m) 10)) ∧ W = w' from by
    have := idx10_any B off cap (b.take m) W (Holds_take hW m)
    rwa [hml] at this))
  rw [← hR, ← hm] at hA
  rw [← hR] at hbig
  clear h hh hM hR hRm h6 hmin hm
  unfold maxLen at hcm
  have HX := Lib.hid (show Lib.indexByte (b.take m) 10 = -1 from by rw [nl_index, hml, if_neg hA])
  have HN0 := Lib.hid (nl_none (l := b.take m) (by rw [hml]; exact hA))
  clear hA
  go_enter Tryd.func47, Tryd.ntmps47
  go_wp2_with fail
  go_region_held3 (fun W => W.cell? ⟨g, 4, none⟩ = some (.int .i64 (n : Int)) ∧ W.cell? ⟨g, 1, none⟩ = some (.int .i64 (M : Int)) ∧ W.cell? ⟨g, 3, none⟩ = some (.slice a l.length c)) (exact ⟨c4, c1, c3⟩) (fail)
  rw [HMN.out]
  obtain ⟨W, hW⟩ : ∃ W, W = w.drew := ⟨_, rfl⟩
  have hsz : w.heap.size = W.heap.size := by rw [hW]; rfl
  rw [← hW] at HO HCw HTw
  have HHW := Lib.hid (show Holds W B off b from by rw [hW]; exact HH.out)
  rw [← hW]
  clear hW c1 c3 c4
  go_wp2_with fail
  refine (HI.out W HHW.out).mono ?_
  rintro e w0 ⟨rfl, rfl⟩
  rw [HX.out]
  clear hmn
  go_wp2_with fail
  refine (keep_any O resp g gb _ fv p l n fs _ b _ HO.out (.inr ⟨B, off, cap, rfl, hcap, by unfold maxLen; omega, by omega, HHW.out⟩) (fun k hk => by injection hk with hk; subst hk; exact hOB) hb (by omega) (by omega)).mono ?_
  rintro e w1 ⟨rfl, ⟨lv1, hO1⟩, hc1⟩
  have HO1 := Lib.hid hO1
  have HC1 := Lib.hid (HCw.out.trans hc1 (fun k hk => .inl hk))
  clear hO1 hc1
  go_wp2_with fail
  go_ret
  refine ⟨b.length, .on p (l ++ b) (n + b.length) fs, rfl, ?_, Rdr.mono (s := .on p (l ++ b) (n + b.length) fs) ⟨gb, lv1, fv, HO1.out⟩ (new_size (by omega)), HC1.out⟩
  exact took_part hb (by have := HN0.out; rwa [show m = b.length from by have := HMm.out; omega, List.take_length] at this) (by rw [← HRR.out]; exact hbig)
theorem take_any (O : Nat → Prop) (resp : Bool) (g gb : Nat) (lv fv : Value) (p : Option Parts) (l : Bs) (n : Nat) (fs : List Fl) (v : Value) (b : Bs) (w : World)
    (h : On w O resp g gb lv fv p l n fs) (hG : Good (.on p l n fs)) (hv : Byts w v b) (hvo : ∀ k, v.ownBlock = some k → ¬ O k) (hb : 0 < b.length) (hT : Tab w) (ho : ¬ O 0) :
    Calls Tryd.prog 47 #[.pointer (some ⟨g, 0, none⟩), v] w (TakePost O resp g (.on p l n fs) b w) := by
  rcases hv with ⟨rfl, _⟩ | ⟨B, off, cap, rfl, hcap, hcm, hB, hh⟩
  · simp at hb
  obtain ⟨a, c, hls⟩ := h.line.shape
  subst hls
  by_cases hA : nl (b.take (min b.length (room p l n))) < min b.length (room p l n)
  · exact take_line O resp g gb a c fv p l n fs B off cap b w h hG hcap hcm hB hh (hvo B rfl) hb hT ho hA
  · by_cases hbig : room p l n < b.length
    · exact take_big O resp g gb a c fv p l n fs B off cap b w h hG hcap hcm hB hh (hvo B rfl) hb hT ho hA hbig
    · exact take_part O resp g gb a c fv p l n fs B off cap b w h hG hcap hcm hB hh (hvo B rfl) hb hT ho hA (by omega)
end Go.Proofs.YtoofdompafkddaaDoor.Hd
/-
  A reader's Feed: what it returns and leaves. Condition: the table of token bytes.
-/
namespace Go.Proofs.YtoofdompafkddaaDoor.Hd
open Go.RowKit Go.Proofs.YtoofdompafkddaaDoor.Tk Go.Proofs.YtoofdompafkddaaDoor.Fd
set_option linter.unusedVariables false

theorem neq_fun (w : World) (fn : Fn) (fi ca : Array Value) : (binOp .neq 91 (.func fn fi ca) .nilFunc).run Tryd.prog w = .ok (.bool true) w := by kernel_rfl
/-- The cells that tell how a reader stands. -/
structure Tells (w : World) (g : Nat) (s : St) : Prop where
  fn : ∃ F, IsFn F ∧ w.cell? ⟨g, 2, none⟩ = some F
  whole : w.cell? ⟨g, 5, none⟩ = some (.bool (doneOf s))
  failed : w.cell? ⟨g, 6, none⟩ = some (.int .i64 (errOf s : Nat))
theorem Rdr.tells {w : World} {O : Nat → Prop} {resp : Bool} {g : Nat} {s : St} (h : Rdr w O resp g s) : Tells w g s := by
  cases s with
  | on p l n fs => obtain ⟨gb, lv, fv, h⟩ := h; exact ⟨⟨_, fnOf_is gb p, rc2 h.blk⟩, rc5 h.blk, rc6 h.blk⟩
  | done q fs => obtain ⟨M, F, lv, n, fv, hF, hb, hf, hg, ho⟩ := h; exact ⟨⟨F, hF, rc2 hb⟩, rc5 hb, rc6 hb⟩
  | bad e => obtain ⟨M, F, hF, hb, hg⟩ := h; exact ⟨⟨F, hF, rc2 hb⟩, rc5 hb, rc6 hb⟩

set_option maxHeartbeats 1000000 in
theorem made_yes (g : Nat) (F : Value) (w : World) (hF : IsFn F) (h : w.cell? ⟨g, 2, none⟩ = some F) : Calls Tryd.prog 46 #[.pointer (some ⟨g, 0, none⟩)] w fun e w' => e = .returned (.bool true) ∧ w = w' := by
  obtain ⟨fn, fi, ca, rfl⟩ := hF
  have hq := neq_fun
  go_enter Tryd.func46, Tryd.ntmps46
  go_wp2_with fail
  go_ret
  exact ⟨rfl, rfl⟩

def FeedPost (O : Nat → Prop) (resp : Bool) (g : Nat) (s : St) (b : Bs) (w : World) (e : Ending) (w' : World) : Prop :=
  e = .returned (.tuple #[.int .i64 ((run resp s b).1 : Nat), .bool (doneOf (run resp s b).2), .int .i64 (errOf (run resp s b).2 : Nat)]) ∧ Rdr w' (New O w) resp g (run resp s b).2 ∧ Chg O w w'
/-- Where a Feed stands at its loop's head. -/
def FeedAt (O : Nat → Prop) (resp : Bool) (g : Nat) (s : St) (b : Bs) (w : World) (k : Nat) (st : St) (wr : World) : Prop :=
  k ≤ b.length ∧ run resp s b = (k + (run resp st (b.drop k)).1, (run resp st (b.drop k)).2) ∧ Good st ∧ Rdr wr (New O w) resp g st ∧ Chg O w wr
theorem FeedAt.ends {O : Nat → Prop} {resp : Bool} {g : Nat} {s : St} {b : Bs} {w : World} {k : Nat} {st : St} {wr : World} (h : FeedAt O resp g s b w k st wr) (ho : over st = true ∨ k = b.length) : run resp s b = (k, st) := by
  obtain ⟨_, hr, _⟩ := h
  rcases ho with ho | ho
  · rw [hr, run_over ho]; rfl
  · rw [hr, ho, List.drop_length, run_nil]; rfl
theorem FeedAt.post {O : Nat → Prop} {resp : Bool} {g : Nat} {s : St} {b : Bs} {w : World} {k : Nat} {st : St} {wr : World} (h : FeedAt O resp g s b w k st wr) (ho : over st = true ∨ k = b.length) {n : Nat} :
    FeedPost O resp g s b w (.returned (.tuple #[.int .i64 (k : Int), .bool (doneOf st), .int .i64 (errOf st : Nat)])) (wr.drewN n) := by
  unfold FeedPost
  rw [h.ends ho]
  obtain ⟨_, _, _, hR, hC⟩ := h
  exact ⟨rfl, hR.below ⟨rfl, rfl, rfl, Nat.le_refl _, fun _ _ => rfl⟩, hC.drewN n⟩
theorem took_at {O : Nat → Prop} {resp : Bool} {g : Nat} {s : St} {b : Bs} {w : World} {k : Nat} {st : St} {wr w' : World} (h : FeedAt O resp g s b w k st wr) {j : Nat} {st' : St} (ht : Took resp st (b.drop k) j st') (hR : Rdr w' (New (New O w) wr) resp g st') (hC : Chg (New O w) wr w') :
    k < k + j ∧ k + j ≤ b.length ∧ FeedAt O resp g s b w (k + j) st' w' := by
  obtain ⟨hk, hr, hG, hR0, hC0⟩ := h
  obtain ⟨h1, h2, h3, h4⟩ := ht
  rw [List.length_drop] at h2
  refine ⟨by omega, by omega, by omega, ?_, h4 hG, hR.mono (new_new hC0.size), hC0.again hC⟩
  rw [hr, h3, List.drop_drop]
  simp only [Prod.mk.injEq, and_true]
  omega

theorem over_of {s : St} (h : doneOf s = true ∨ errOf s ≠ 0) : over s = true := by
  cases s with
  | on p l n fs => simp [doneOf, errOf] at h
  | done => rfl
  | bad => rfl
theorem over_no {s : St} (hG : Good s) (h1 : doneOf s = false) (h2 : errOf s = 0) : ∃ p l n fs, s = .on p l n fs := by
  cases s with
  | on p l n fs => exact ⟨p, l, n, fs, rfl⟩
  | done => simp [doneOf] at h1
  | bad e => simp [errOf] at h2; subst h2; rcases hG with h | h | h <;> omega

set_option maxRecDepth 100000 in
set_option maxHeartbeats 8000000 in
theorem feed_any (O : Nat → Prop) (resp : Bool) (g : Nat) (s : St) (v : Value) (b : Bs) (w : World) (h : Rdr w O resp g s) (hG : Good s) (hv : Byts w v b) (hvo : 0 < b.length → ∀ k, v.ownBlock = some k → ¬ O k) (hbl : b.length ≤ maxLen)
    (hT : Tab w) (ho : ¬ O 0) :
    Calls Tryd.prog 17 #[.pointer (some ⟨g, 0, none⟩), v] w (FeedPost O resp g s b w) := by
  obtain ⟨va, vc, hvs⟩ := hv.shape
  have HF0 := Lib.hid (show FeedAt O resp g s b w 0 s w from ⟨Nat.zero_le _, by simp, hG, h.mono (fun k hk => .inl hk), Chg.refl _ _⟩)
  obtain ⟨⟨F, hF, c2⟩, c5, c6⟩ := h.tells
  have HV := Lib.hid hv
  have htl := hT.lt
  have HT := Lib.hid hT
  unfold maxLen at hbl
  subst hvs
  clear h hv hT hG c5 c6
  go_enter Tryd.func17, Tryd.ntmps17
  go_wp2_with fail
  refine (made_yes g F _ hF c2).mono ?_
  rintro e w0 ⟨rfl, rfl⟩
  clear c2 hF
  go_wp2_with fail
  go_loopw [4] (fun u wr => ∃ (k : Nat) (st : St), u = .int .i64 (k : Int) ∧ FeedAt O resp g s b w k st wr) (fun u _ => b.length - (intOf u).toNat)
  case atStart => exact ⟨0, s, rfl, HF0.out⟩
  case round =>
    obtain ⟨k, st, rfl, hAt⟩ := hrel
    have HA := Lib.hid hAt
    obtain ⟨hk, _, hGs, hRs, hCs⟩ := hAt
    obtain ⟨_, c5, c6⟩ := hRs.tells
    have HG := Lib.hid hGs
    have HR := Lib.hid hRs
    have HC := Lib.hid hCs
    obtain ⟨D, hD⟩ : ∃ D, D = doneOf st := ⟨_, rfl⟩
    obtain ⟨E, hE⟩ : ∃ E, E = errOf st := ⟨_, rfl⟩
    rw [← hD] at c5
    rw [← hE] at c6
    have HP := Lib.hid (fun (n : Nat) (ho : over st = true ∨ k = b.length) => (show FeedPost O resp g s b w (.returned (.tuple #[.int .i64 (k : Int), .bool D, .int .i64 (E : Int)])) (wr.drewN n) from by rw [hD, hE]; exact HA.out.post ho))
    have HD := Lib.hid hD
    have HE := Lib.hid hE
    clear hGs hRs hCs hD hE
    by_cases hlt : k < b.length
    · cases D with
      | true =>
        have HOv := Lib.hid (show over st = true from over_of (.inl HD.out.symm))
        go_wp2_with fail
        go_quiet (fail)
        go_wp2_with fail
        go_ret3
        exact HP.out _ (.inl HOv.out)
      | false =>
        by_cases he : E = 0
        · subst he
          obtain ⟨p, l, n, fs, hst⟩ := over_no HG.out HD.out.symm HE.out.symm
          have c6' : wr.cell? ⟨g, 6, none⟩ = some (.int .i64 0) := c6
          rcases HV.out with ⟨hb0, _⟩ | ⟨B, off, cap, hve, hcap, hcm, hB, hh⟩
          · rw [hb0] at hlt; simp at hlt
          injection hve with e1 e2 e3
          subst e1 e3
          have hOB : ¬ O B := hvo (by omega) B rfl
          have hNB : ¬ New O w B := fun hn => by
            rcases hn with hn | hn
            · exact hOB hn
            · omega
          have hNT : ¬ New O w 0 := fun hn => by
            rcases hn with hn | hn
            · exact ho hn
            · omega
          have hKB : wr.heap[B]? = w.heap[B]? := HC.out.block B hB hOB
          have HH := Lib.hid (show Holds wr B (off + k) (b.drop k) from by
            have h1 : Holds wr B off b := fun j hj => by rw [World.cell?_of_block (w := w) hKB]; exact hh j hj
            have h2 := h1.part k b.length (Nat.le_refl _)
            rwa [List.take_length] at h2)
          have hlt2 : B < wr.heap.size := Nat.lt_of_lt_of_le hB HC.out.size
          have HTk := Lib.hid (fun (v' : Value) (hv' : v' = .slice (some ⟨B, off + k, none⟩) (b.length - k) (vc - k)) => (show Calls Tryd.prog 47 #[.pointer (some ⟨g, 0, none⟩), v'] wr (TakePost (New O w) resp g st (b.drop k) wr) from by
            have hR2 := HR.out
            have hG2 := HG.out
            rw [hst] at hR2 hG2 ⊢
            obtain ⟨gb, lv, fv, hOn⟩ := hR2
            subst hv'
            exact take_any (New O w) resp g gb lv fv p l n fs _ (b.drop k) wr hOn hG2 (.inr ⟨B, off + k, vc - k, by rw [List.length_drop], by rw [List.length_drop]; omega, by omega, hlt2, HH.out⟩) (fun j hj => by injection hj with hj; subst hj; exact hNB) (by rw [List.length_drop]; omega) (Tab.chg HT.out HC.out ho) hNT))
          have hck : ¬ vc = k := by omega
          unfold maxLen at hcm
          clear c6 hh hst hKB e2
          go_wp2_with fail
          refine (HTk.out _ rfl).mono ?_
          rintro e w1 ⟨j, st', rfl, ht, hR1, hC1⟩
          obtain ⟨hj1, hj2, hAt1⟩ := took_at HA.out ht hR1 hC1
          have HA1 := Lib.hid hAt1
          clear ht hR1 hC1 hAt1
          go_wp2_with fail
          go_roundw
          case rel => exact ⟨k + j, st', by go_num, HA1.out⟩
          case measure => simp [intOf]; omega
        · have hne : ((E : Int) == 0) = false := by rw [beq_eq_false_iff_ne]; omega
          have HOv := Lib.hid (show over st = true from over_of (.inr (by rw [← HE.out]; exact he)))
          clear he
          go_wp2_with fail
          go_quiet (fail)
          go_wp2_with fail
          go_ret3
          exact HP.out _ (.inl HOv.out)
    · have hke : k = b.length := by omega
      have HKE := Lib.hid hke
      clear hke
      go_wp2_with fail
      go_quiet (fail)
      go_wp2_with fail
      go_ret3
      exact HP.out _ (.inr HKE.out)
end Go.Proofs.YtoofdompafkddaaDoor.Hd
/-
  slices.Clone at fields; a reader's untold, Request and Response: what each returns. Conditions: fields of at most 2^20 bytes in all.
-/
namespace Go.Proofs.YtoofdompafkddaaDoor.Hd
open Go.RowKit Go.Proofs.YtoofdompafkddaaDoor.Tk Go.Proofs.YtoofdompafkddaaDoor.Fd
set_option linter.unusedVariables false

def ListPost (fs : List Fl) (w : World) (e : Ending) (w' : World) : Prop := ∃ u, e = .returned u ∧ OwnF w' w.heap.size u fs ∧ Below w.heap.size w w'
theorem flat_one (fs : List Fl) : ∀ u ∈ flat fs, u.oneCell' = true := by
  intro u hu
  unfold flat at hu
  rw [List.mem_flatMap] at hu
  obtain ⟨f, _, hf⟩ := hu
  exact one_cells f.1 f.2 u hf
set_option maxRecDepth 100000 in
set_option maxHeartbeats 4000000 in
theorem clone_any (v : Value) (fs : List Fl) (w : World) (h : OwnF w 0 v fs) (hl : fs.length ≤ 1048576) : Calls Tryd.prog 50 #[v] w (ListPost fs w) := by
  have hq := fun (w : World) (a : Option Addr) (n c : Nat) => Lib.run_eql_slice_nil (P := Tryd.prog) w 27 56 a n c 0 0 Tryd.underlying27
  rcases h.2 with ⟨rfl, h0⟩ | ⟨q, C, cur, hv, _, hh, hlc, hcm, hcs, htk⟩
  · have hfs : fs = [] := List.length_eq_zero_iff.1 h0
    subst hfs
    clear h h0
    go_enter Tryd.func50, Tryd.ntmps50
    go_wp2_with fail
    go_ret
    exact ⟨_, rfl, OwnF.nil _ _, Below.refl _ _⟩
  · subst hv
    obtain ⟨i0, hi, hz0, hz1, hz2⟩ := info_parts infoField
    have HO := Lib.hid h
    have HW := Lib.hid (show (w.alloc (.cells #[] 56)).ownsRow w.heap.size 56 2 (.slice (some ⟨w.heap.size, 0, none⟩) 0 0) 0 [] from World.ownsRow_lit (base := w.heap.size) (e := 56) (size := 2) w #[] 0 (Nat.le_refl _) (Nat.zero_le _) rfl)
    have hB1 := (Below.refl w.heap.size w).alloc (Nat.le_refl _) (.cells #[] 56)
    have HN := Lib.hid (World.ownsRow.cells (owns_kept HO.out hB1) (g := q) rfl)
    clear h hh htk hcs
    go_enter Tryd.func50, Tryd.ntmps50
    go_wp2_with (at_builtin; refine wpList_append_own _ rfl _ _ 27 rfl w.heap.size 56 i0 (.agg #[.string ⟨#[]⟩, .string ⟨#[]⟩]) 2 32 Tryd.underlying27 hi hz0 hz1 hz2 rfl (by decide) _ _ _ rfl HW.out ⟨q, 0, none⟩ fs.length C (flat fs) rfl (flat_length _) HN.out (fun y hy => flat_one _ y hy) (by unfold maxLen; omega) (by omega) hB1.size ?_; intro v' w6 hown' hgrow hnil)
    have HB6 := Lib.hid (hB1.grown hgrow hB1.size (fun k hk => by injection hk with hk; subst hk; exact Nat.le_refl _))
    have HO6 := Lib.hid (show OwnF w6 w.heap.size v' fs from by unfold OwnF; rw [Nat.zero_add, List.nil_append] at hown'; exact hown')
    clear hown' hgrow hnil
    go_wp2_with fail
    go_ret
    exact ⟨_, rfl, HO6.out, HB6.out⟩

set_option maxHeartbeats 2000000 in
theorem untold_any (O : Nat → Prop) (resp want : Bool) (g : Nat) (s : St) (w : World) (h : Rdr w O resp g s) :
    Calls Tryd.prog 49 #[.pointer (some ⟨g, 0, none⟩), .bool want] w fun e w' => e = .returned (.int .i64 (if doneOf s && resp == want then 0 else 16)) ∧ w = w' := by
  obtain ⟨⟨F, hF, c2⟩, c5, c6⟩ := h.tells
  obtain ⟨D, hD⟩ : ∃ D, D = doneOf s := ⟨_, rfl⟩
  rw [← hD] at c5 ⊢
  cases D with
  | false =>
    clear h hD c6
    go_enter Tryd.func49, Tryd.ntmps49
    go_wp2_with fail
    refine (made_yes g F _ hF c2).mono ?_
    rintro e w' ⟨rfl, rfl⟩
    go_wp2_with fail
    go_ret
    exact ⟨rfl, rfl⟩
  | true =>
    have c0 : w.cell? ⟨g, 0, none⟩ = some (.bool resp) := by
      cases s with
      | on => simp [doneOf] at hD
      | done q fs => obtain ⟨M, F, lv, n, fv, hF, hb, _⟩ := h; exact rc0 hb
      | bad => simp [doneOf] at hD
    clear h hD c6
    cases resp <;> cases want
    all_goals
      go_enter Tryd.func49, Tryd.ntmps49
      go_wp2_with fail
      refine (made_yes g F _ hF c2).mono ?_
      rintro e w' ⟨rfl, rfl⟩
      go_wp2_with fail
      go_ret
      exact ⟨rfl, rfl⟩
end Go.Proofs.YtoofdompafkddaaDoor.Hd
/-
  A reader's Request and Response: what each returns. Conditions: fields of at most 2^20 bytes in all.
-/
namespace Go.Proofs.YtoofdompafkddaaDoor.Hd
open Go.RowKit Go.Proofs.YtoofdompafkddaaDoor.Tk Go.Proofs.YtoofdompafkddaaDoor.Fd
set_option linter.unusedVariables false

theorem infoReq : (Tryd.prog.info? 29).map (·.size) = some 4 := by kernel_rfl
theorem infoRes : (Tryd.prog.info? 31).map (·.size) = some 4 := by kernel_rfl
theorem put4 {w : World} {g : Nat} {a b c d : Value} {t : TypeId} {fr : Nat × Nat} (h : w.heap[g]? = some (.cells #[a, b, c, d] t fr)) (x y z u : Value) :
    ((((w.setCell ⟨g, 0, none⟩ x).setCell ⟨g, 1, none⟩ y).setCell ⟨g, 2, none⟩ z).setCell ⟨g, 3, none⟩ u).heap[g]? = some (.cells #[x, y, z, u] t fr) := by
  rw [heap_put (heap_put (heap_put (heap_put h 0 x) 1 y) 2 z) 3 u]; rfl
theorem four {w : World} {g : Nat} {a b c d : Value} {t : TypeId} {fr : Nat × Nat} (h : w.heap[g]? = some (.cells #[a, b, c, d] t fr)) : w.cell? ⟨g, 0, none⟩ = some a ∧ w.cell? ⟨g, 1, none⟩ = some b ∧ w.cell? ⟨g, 2, none⟩ = some c ∧ w.cell? ⟨g, 3, none⟩ = some d := by
  refine ⟨?_, ?_, ?_, ?_⟩ <;> (rw [Lib.cell_of_heap h]; rfl)
theorem put4_below {B : Nat} {w0 w : World} {g : Nat} (h : Below B w0 w) (hg : B ≤ g) (x y z u : Value) : Below B w0 ((((w.setCell ⟨g, 0, none⟩ x).setCell ⟨g, 1, none⟩ y).setCell ⟨g, 2, none⟩ z).setCell ⟨g, 3, none⟩ u) :=
  (((h.setCell (p := ⟨g, 0, none⟩) hg _).setCell (p := ⟨g, 1, none⟩) hg _).setCell (p := ⟨g, 2, none⟩) hg _).setCell (p := ⟨g, 3, none⟩) hg _
/-- A request's head, and its error; a response's. -/
def ReqPost (H : Parts × List Fl × Nat) (w : World) (e : Ending) (w' : World) : Prop := ∃ v, e = .returned (.tuple #[.agg #[.string H.1.a, .string H.1.b, .int .i64 H.1.m, v], .int .i64 (H.2.2 : Int)]) ∧ OwnF w' w.heap.size v H.2.1 ∧ Below w.heap.size w w'
def ResPost (H : Parts × List Fl × Nat) (w : World) (e : Ending) (w' : World) : Prop := ∃ v, e = .returned (.tuple #[.agg #[.int .i64 H.1.m, .int .i64 H.1.c, .string H.1.a, v], .int .i64 (H.2.2 : Int)]) ∧ OwnF w' w.heap.size v H.2.1 ∧ Below w.heap.size w w'
theorem headOf_no {resp same : Bool} {s : St} (h : (doneOf s && same) = false) : headOf resp same s = (.none, [], 16) := by
  cases s with
  | on => rfl
  | done q fs => simp [doneOf] at h; subst h; rfl
  | bad => rfl

set_option maxRecDepth 100000 in
set_option maxHeartbeats 4000000 in
theorem request_no (O : Nat → Prop) (resp : Bool) (g : Nat) (s : St) (w : World) (h : Rdr w O resp g s) (hn : (doneOf s && resp == false) = false) :
    Calls Tryd.prog 19 #[.pointer (some ⟨g, 0, none⟩)] w (ReqPost (headOf resp (resp == false) s) w) := by
  rw [headOf_no hn]
  have HR := Lib.hid (h.below ((Below.refl w.heap.size w).alloc (Nat.le_refl _) (.cells #[.string ⟨#[]⟩, .string ⟨#[]⟩, .int .i64 0, .slice none 0 0] 29)))
  have HN := Lib.hid hn
  clear h hn
  go_enter Tryd.func19, Tryd.ntmps19
  go_wp2_with fail
  refine (untold_any O resp false g s _ HR.out).mono ?_
  rintro e w' ⟨rfl, rfl⟩
  rw [HN.out]
  go_wp2_with fail
  refine bodyPost_ret (results_pair rfl _ _ w.heap.size 29 _ (0, 0) _ rfl (new_block _ _) Tryd.underlying29 rfl infoReq) rfl ?_
  exact ⟨_, rfl, OwnF.nil _ _, (Below.refl _ _).alloc (Nat.le_refl _) _⟩
set_option maxRecDepth 100000 in
set_option maxHeartbeats 4000000 in
theorem request_yes (O : Nat → Prop) (g : Nat) (q : Parts) (fs : List Fl) (w : World) (h : Rdr w O false g (.done q fs)) (hl : fs.length ≤ 1048576) :
    Calls Tryd.prog 19 #[.pointer (some ⟨g, 0, none⟩)] w (ReqPost (q, fs, 0) w) := by
  have HR := Lib.hid (h.below ((Below.refl w.heap.size w).alloc (Nat.le_refl _) (.cells #[.string ⟨#[]⟩, .string ⟨#[]⟩, .int .i64 0, .slice none 0 0] 29)))
  have hB1 := (Below.refl w.heap.size w).alloc (Nat.le_refl _) (.cells #[.string ⟨#[]⟩, .string ⟨#[]⟩, .int .i64 0, .slice none 0 0] 29)
  have HK1 := Lib.hid (new_block w (.cells #[.string ⟨#[]⟩, .string ⟨#[]⟩, .int .i64 0, .slice none 0 0] 29))
  obtain ⟨w1, hw1⟩ : ∃ w1, w1 = w.alloc (.cells #[.string ⟨#[]⟩, .string ⟨#[]⟩, .int .i64 0, .slice none 0 0] 29) := ⟨_, rfl⟩
  have HW1 := Lib.hid hw1
  rw [← hw1] at HR hB1 HK1
  clear hw1 h
  obtain ⟨M, F, lv, n, fv, hF, hb, hf, _, _⟩ := HR.out
  have c7 := rc7 hb
  have c8 := rc8 hb
  have c9 := rc9 hb
  have c10 := rc10 hb
  have c15 := rc15 hb
  unfold qA at c7
  unfold qB at c8
  unfold qM at c9
  simp only [Bool.false_eq_true, if_false] at c7 c8 c9
  have HFF := Lib.hid hf
  have HBB := Lib.hid hb
  clear hb hf hF
  have HT := Lib.hid (new_block w1 (.cells #[.string q.a, .string q.b, .int .i64 q.m, .slice none 0 0] 29))
  have hB2 := hB1.alloc hB1.size (.cells #[.string q.a, .string q.b, .int .i64 q.m, .slice none 0 0] 29)
  have HK2 := Lib.hid ((old_block w1 (.cells #[.string q.a, .string q.b, .int .i64 q.m, .slice none 0 0] 29) (block_lt HK1.out)).trans HK1.out)
  have HF2 := Lib.hid (owns_kept HFF.out ((Below.refl _ w1).alloc (Nat.le_refl _) (.cells #[.string q.a, .string q.b, .int .i64 q.m, .slice none 0 0] 29)))
  have c15' : (w1.alloc (.cells #[.string q.a, .string q.b, .int .i64 q.m, .slice none 0 0] 29)).cell? ⟨g, 15, none⟩ = some fv := rc15 ((old_block w1 _ (block_lt HBB.out)).trans HBB.out)
  obtain ⟨T, hT⟩ : ∃ T, T = w1.heap.size := ⟨_, rfl⟩
  have HTT := Lib.hid hT
  have hTw : w.heap.size + 1 ≤ T := by rw [hT]; exact block_lt HK1.out
  rw [← hT] at HT
  clear hT
  go_enter Tryd.func19, Tryd.ntmps19
  go_wp2_with fail
  rw [← HW1.out]
  refine (untold_any O false false g _ _ HR.out).mono ?_
  rintro e w' ⟨rfl, rfl⟩
  rw [show (doneOf (.done q fs) && (false == false)) = true from rfl]
  go_wp2_with fail
  rw [← HTT.out]
  refine (clone_any fv fs _ HF2.out hl).mono ?_
  rintro e w3 ⟨v, rfl, hf3, hb3⟩
  have HB3 := Lib.hid (Bl.next hB2 hb3)
  have HK3 := Lib.hid (Bl.old hb3 (block_lt HK2.out) HK2.out)
  have hT3 := Bl.old hb3 (block_lt HT.out) HT.out
  have HO3 := Lib.hid hf3
  obtain ⟨va, vc, hv⟩ := OwnF.form hf3
  subst hv
  obtain ⟨t0, t1, t2, t3⟩ := four hT3
  have ft := free hT3 3
  obtain ⟨r0, r1, r2, r3⟩ := four HK3.out
  have f0 := free HK3.out 0
  have f1 := free HK3.out 1
  have f2 := free HK3.out 2
  have f3 := free HK3.out 3
  have hne : w.heap.size ≠ T := by omega
  have hen : T ≠ w.heap.size := by omega
  have HP := Lib.hid (put_far (a := ⟨T, 3, none⟩) (v := .slice va fs.length vc) HK3.out (by show w.heap.size ≠ T; exact hne))
  clear hf3 hb3 hT3 c7 c8 c9 c10 c15 c15' hB2
  go_wp2_with fail
  refine bodyPost_ret (results_pair rfl _ _ w.heap.size 29 _ (0, 0) _ rfl (put4 HP.out _ _ _ _) Tryd.underlying29 rfl infoReq) rfl ?_
  obtain ⟨c3, hc3⟩ : ∃ c3, c3 = w3.setCell ⟨T, 3, none⟩ (.slice va fs.length vc) := ⟨_, rfl⟩
  refine ⟨_, rfl, ?_, put4_below (HB3.out.setCell (p := ⟨T, 3, none⟩) (by show w.heap.size ≤ T; omega) _) (Nat.le_refl _) _ _ _ _⟩
  refine owns_mono (row_same HO3.out fun k hk => ?_) (by have := hB1.size; simp; omega)
  have hk3 := (World.ownsRow.lt HO3.out k hk).1
  have hkT : k ≠ T := by
    have : w1.heap.size + 1 ≤ k := by simpa using hk3
    have := HTT.out
    omega
  have hkw : k ≠ w.heap.size := by
    have : w1.heap.size + 1 ≤ k := by simpa using hk3
    have := hB1.size
    omega
  exact put_far (put_far (put_far (put_far (put_far rfl (by show k ≠ T; exact hkT)) (by show k ≠ w.heap.size; exact hkw)) (by show k ≠ w.heap.size; exact hkw)) (by show k ≠ w.heap.size; exact hkw)) (by show k ≠ w.heap.size; exact hkw)
set_option maxRecDepth 100000 in
set_option maxHeartbeats 4000000 in
theorem response_no (O : Nat → Prop) (resp : Bool) (g : Nat) (s : St) (w : World) (h : Rdr w O resp g s) (hn : (doneOf s && resp == true) = false) :
    Calls Tryd.prog 21 #[.pointer (some ⟨g, 0, none⟩)] w (ResPost (headOf resp (resp == true) s) w) := by
  rw [headOf_no hn]
  have HR := Lib.hid (h.below ((Below.refl w.heap.size w).alloc (Nat.le_refl _) (.cells #[.int .i64 0, .int .i64 0, .string ⟨#[]⟩, .slice none 0 0] 31)))
  have HN := Lib.hid hn
  clear h hn
  go_enter Tryd.func21, Tryd.ntmps21
  go_wp2_with fail
  refine (untold_any O resp true g s _ HR.out).mono ?_
  rintro e w' ⟨rfl, rfl⟩
  rw [HN.out]
  go_wp2_with fail
  refine bodyPost_ret (results_pair rfl _ _ w.heap.size 31 _ (0, 0) _ rfl (new_block _ _) Tryd.underlying31 rfl infoRes) rfl ?_
  exact ⟨_, rfl, OwnF.nil _ _, (Below.refl _ _).alloc (Nat.le_refl _) _⟩
set_option maxRecDepth 100000 in
set_option maxHeartbeats 4000000 in
theorem response_yes (O : Nat → Prop) (g : Nat) (q : Parts) (fs : List Fl) (w : World) (h : Rdr w O true g (.done q fs)) (hl : fs.length ≤ 1048576) :
    Calls Tryd.prog 21 #[.pointer (some ⟨g, 0, none⟩)] w (ResPost (q, fs, 0) w) := by
  have HR := Lib.hid (h.below ((Below.refl w.heap.size w).alloc (Nat.le_refl _) (.cells #[.int .i64 0, .int .i64 0, .string ⟨#[]⟩, .slice none 0 0] 31)))
  have hB1 := (Below.refl w.heap.size w).alloc (Nat.le_refl _) (.cells #[.int .i64 0, .int .i64 0, .string ⟨#[]⟩, .slice none 0 0] 31)
  have HK1 := Lib.hid (new_block w (.cells #[.int .i64 0, .int .i64 0, .string ⟨#[]⟩, .slice none 0 0] 31))
  obtain ⟨w1, hw1⟩ : ∃ w1, w1 = w.alloc (.cells #[.int .i64 0, .int .i64 0, .string ⟨#[]⟩, .slice none 0 0] 31) := ⟨_, rfl⟩
  have HW1 := Lib.hid hw1
  rw [← hw1] at HR hB1 HK1
  clear hw1 h
  obtain ⟨M, F, lv, n, fv, hF, hb, hf, _, _⟩ := HR.out
  have c7 := rc11 hb
  have c8 := rc12 hb
  have c9 := rc13 hb
  have c10 := rc14 hb
  have c15 := rc15 hb
  unfold sM at c7
  unfold sC at c8
  unfold sA at c9
  simp only [if_true] at c7 c8 c9
  have HFF := Lib.hid hf
  have HBB := Lib.hid hb
  clear hb hf hF
  have HT := Lib.hid (new_block w1 (.cells #[.int .i64 q.m, .int .i64 q.c, .string q.a, .slice none 0 0] 31))
  have hB2 := hB1.alloc hB1.size (.cells #[.int .i64 q.m, .int .i64 q.c, .string q.a, .slice none 0 0] 31)
  have HK2 := Lib.hid ((old_block w1 (.cells #[.int .i64 q.m, .int .i64 q.c, .string q.a, .slice none 0 0] 31) (block_lt HK1.out)).trans HK1.out)
  have HF2 := Lib.hid (owns_kept HFF.out ((Below.refl _ w1).alloc (Nat.le_refl _) (.cells #[.int .i64 q.m, .int .i64 q.c, .string q.a, .slice none 0 0] 31)))
  have c15' : (w1.alloc (.cells #[.int .i64 q.m, .int .i64 q.c, .string q.a, .slice none 0 0] 31)).cell? ⟨g, 15, none⟩ = some fv := rc15 ((old_block w1 _ (block_lt HBB.out)).trans HBB.out)
  obtain ⟨T, hT⟩ : ∃ T, T = w1.heap.size := ⟨_, rfl⟩
  have HTT := Lib.hid hT
  have hTw : w.heap.size + 1 ≤ T := by rw [hT]; exact block_lt HK1.out
  rw [← hT] at HT
  clear hT
  go_enter Tryd.func21, Tryd.ntmps21
  go_wp2_with fail
  rw [← HW1.out]
  refine (untold_any O true true g _ _ HR.out).mono ?_
  rintro e w' ⟨rfl, rfl⟩
  rw [show (doneOf (.done q fs) && (true == true)) = true from rfl]
  go_wp2_with fail
  rw [← HTT.out]
  refine (clone_any fv fs _ HF2.out hl).mono ?_
  rintro e w3 ⟨v, rfl, hf3, hb3⟩
  have HB3 := Lib.hid (Bl.next hB2 hb3)
  have HK3 := Lib.hid (Bl.old hb3 (block_lt HK2.out) HK2.out)
  have hT3 := Bl.old hb3 (block_lt HT.out) HT.out
  have HO3 := Lib.hid hf3
  obtain ⟨va, vc, hv⟩ := OwnF.form hf3
  subst hv
  obtain ⟨t0, t1, t2, t3⟩ := four hT3
  have ft := free hT3 3
  obtain ⟨r0, r1, r2, r3⟩ := four HK3.out
  have f0 := free HK3.out 0
  have f1 := free HK3.out 1
  have f2 := free HK3.out 2
  have f3 := free HK3.out 3
  have hne : w.heap.size ≠ T := by omega
  have hen : T ≠ w.heap.size := by omega
  have HP := Lib.hid (put_far (a := ⟨T, 3, none⟩) (v := .slice va fs.length vc) HK3.out (by show w.heap.size ≠ T; exact hne))
  clear hf3 hb3 hT3 c7 c8 c9 c10 c15 c15' hB2
  go_wp2_with fail
  refine bodyPost_ret (results_pair rfl _ _ w.heap.size 31 _ (0, 0) _ rfl (put4 HP.out _ _ _ _) Tryd.underlying31 rfl infoRes) rfl ?_
  obtain ⟨c3, hc3⟩ : ∃ c3, c3 = w3.setCell ⟨T, 3, none⟩ (.slice va fs.length vc) := ⟨_, rfl⟩
  refine ⟨_, rfl, ?_, put4_below (HB3.out.setCell (p := ⟨T, 3, none⟩) (by show w.heap.size ≤ T; omega) _) (Nat.le_refl _) _ _ _ _⟩
  refine owns_mono (row_same HO3.out fun k hk => ?_) (by have := hB1.size; simp; omega)
  have hk3 := (World.ownsRow.lt HO3.out k hk).1
  have hkT : k ≠ T := by
    have : w1.heap.size + 1 ≤ k := by simpa using hk3
    have := HTT.out
    omega
  have hkw : k ≠ w.heap.size := by
    have : w1.heap.size + 1 ≤ k := by simpa using hk3
    have := hB1.size
    omega
  exact put_far (put_far (put_far (put_far (put_far rfl (by show k ≠ T; exact hkT)) (by show k ≠ w.heap.size; exact hkw)) (by show k ≠ w.heap.size; exact hkw)) (by show k ≠ w.heap.size; exact hkw)) (by show k ≠ w.heap.size; exact hkw)
theorem request_any (O : Nat → Prop) (resp : Bool) (g : Nat) (s : St) (w : World) (h : Rdr w O resp g s) (hG : Good s) :
    Calls Tryd.prog 19 #[.pointer (some ⟨g, 0, none⟩)] w (ReqPost (headOf resp (resp == false) s) w) := by
  cases hn : (doneOf s && resp == false) with
  | false => exact request_no O resp g s w h hn
  | true =>
    cases s with
    | on => simp [doneOf] at hn
    | bad => simp [doneOf] at hn
    | done q fs =>
      have hr : resp = false := by cases resp <;> simp [doneOf] at hn ⊢
      subst hr
      exact request_yes O g q fs w h (by have := hG.1; omega)
theorem response_any (O : Nat → Prop) (resp : Bool) (g : Nat) (s : St) (w : World) (h : Rdr w O resp g s) (hG : Good s) :
    Calls Tryd.prog 21 #[.pointer (some ⟨g, 0, none⟩)] w (ResPost (headOf resp (resp == true) s) w) := by
  cases hn : (doneOf s && resp == true) with
  | false => exact response_no O resp g s w h hn
  | true =>
    cases s with
    | on => simp [doneOf] at hn
    | bad => simp [doneOf] at hn
    | done q fs =>
      have hr : resp = true := by cases resp <;> simp [doneOf] at hn ⊢
      subst hr
      exact response_yes O g q fs w h (by have := hG.1; omega)
end Go.Proofs.YtoofdompafkddaaDoor.Hd
