/-
  A reader's take: what it leaves. Condition: the table of token bytes.
-/
import Derived.Test.YtlnlihkljnkhiaaDoorHdNl
import Derived.Test.YtlnlihkljnkhiaaDoorHdKeep
namespace Go.Proofs.YtlnlihkljnkhiaaDoor.Hd
open Go.RowKit Go.Proofs.YtlnlihkljnkhiaaDoor.Tk Go.Proofs.YtlnlihkljnkhiaaDoor.Fd
set_option linter.unusedVariables false

def TakePost (O : Nat → Prop) (resp : Bool) (g : Nat) (s : St) (b : Bs) (w : World) (e : Ending) (w' : World) : Prop :=
  ∃ k st, e = .returned (.int .i64 (k : Nat)) ∧ Took resp s b k st ∧ Rdr w' (New O w) resp g st ∧ Chg O w w'

set_option maxRecDepth 100000 in
set_option maxHeartbeats 8000000 in
theorem take_line (O : Nat → Prop) (resp : Bool) (g gb : Nat) (a : Option Addr) (c : Nat) (fv : Value) (p : Option Parts) (l : Bs) (n : Nat) (fs : List Fl) (B off cap : Nat) (b : Bs) (w : World)
    (h : On w O resp g gb (.slice a l.length c) fv p l n fs) (hG : Good (.on p l n fs)) (hcap : b.length ≤ cap) (hcm : cap ≤ maxLen) (hB : B < w.heap.size) (hh : Holds w B off b) (hOB : ¬ O B) (hb : 0 < b.length) (hT : Tab w) (ho : ¬ O 0)
    (hA : nl (b.take (min b.length (room p l n))) < min b.length (room p l n)) :
    Calls Tryd.prog 23 #[.pointer (some ⟨g, 0, none⟩), .slice (some ⟨B, off, none⟩) b.length cap] w (TakePost O resp g (.on p l n fs) b w) := by
  have HO := Lib.hid (h.below ((Below.refl w.heap.size w).drew))
  have HH := Lib.hid hh
  obtain ⟨h1, h2, h3, h4, h5, h6⟩ := hG
  have c1 := rc1 h.blk
  have c3 := rc3 h.blk
  have c4 := rc4 h.blk
  have HCw := Lib.hid ((Chg.refl O w).drew)
  have HTw := Lib.hid (show Tab w.drew from hT)
  have htl := hT.lt
  obtain ⟨M, hM⟩ : ∃ M, M = most p := ⟨_, rfl⟩
  have hM2 : M ≤ 8192 := by rw [hM]; unfold most; split <;> omega
  rw [← hM] at c1 h3
  obtain ⟨R, hR⟩ : ∃ R, R = room p l n := ⟨_, rfl⟩
  have hRm : R = min (8192 - n) (M - l.length) := by rw [hR, hM]; rfl
  have hmin : min (IntKind.i64.wrap (8192 - (n : Int))) (IntKind.i64.wrap ((M : Int) - (l.length : Int))) = (R : Int) := by
    rw [IntWalk.i64_in _ (by omega), IntWalk.i64_in _ (by omega)]; omega
  have HMN := Lib.hid hmin
  have HRR := Lib.hid hR
  have hr1 : n + R ≤ 8192 := by omega
  obtain ⟨m, hm⟩ : ∃ m, m = min b.length R := ⟨_, rfl⟩
  have hml : (b.take m).length = m := by rw [List.length_take]; omega
  have hmn : min (b.length : Int) (R : Int) = (m : Int) := by omega
  have hmb : m ≤ b.length := by omega
  have hmr : m ≤ R := by omega
  have HMm := Lib.hid hm
  have HI := Lib.hid (fun (W : World) (hW : Holds W B off b) => (show Calls Tryd.prog 33 #[.slice (some ⟨B, off, none⟩) m cap, .int .u8 10] W fun e w' => e = .returned (.int .i64 (Lib.indexByte (b.take m) 10)) ∧ W = w' from by
    have := idx10_any B off cap (b.take m) W (Holds_take hW m)
    rwa [hml] at this))
  rw [← hR, ← hm] at hA
  clear h hh hM hR hRm h6 hmin hm
  unfold maxLen at hcm
  obtain ⟨s1, s2, s3, s4⟩ := nl_split (b := b) (m := m) (by rw [hml]; exact hA)
  have HX := Lib.hid (show Lib.indexByte (b.take m) 10 = (nl (b.take m) : Int) from by rw [nl_index, hml, if_pos hA])
  obtain ⟨i, hi⟩ : ∃ i, i = nl (b.take m) := ⟨_, rfl⟩
  rw [← hi] at HX s1 s2 s3 s4
  have HS1 := Lib.hid s1
  have HS2 := Lib.hid s2
  have HT1 := Lib.hid (show b.take (i + 1) = b.take i ++ [10] from by
    have e : b[i] = 10 := by
      have := congrArg (fun x => x[i]?) s1
      simp only [List.getElem?_eq_getElem s4] at this
      rw [List.getElem?_append_right (by rw [List.length_take]; omega), List.length_take, show i - min i b.length = 0 from by omega] at this
      simpa using this
    rw [List.take_succ_eq_append_getElem s4, e])
  have hil : (b.take (i + 1)).length = i + 1 := by rw [List.length_take]; omega
  have HIL := Lib.hid hil
  clear hi hA s1 s2 hil
  go_enter Tryd.func23, Tryd.ntmps23
  go_wp2_with fail
  go_region_held3 (fun W => W.cell? ⟨g, 4, none⟩ = some (.int .i64 (n : Int)) ∧ W.cell? ⟨g, 1, none⟩ = some (.int .i64 (M : Int)) ∧ W.cell? ⟨g, 3, none⟩ = some (.slice a l.length c)) (exact ⟨c4, c1, c3⟩) (fail)
  rw [HMN.out]
  obtain ⟨W, hW⟩ : ∃ W, W = w.drew := ⟨_, rfl⟩
  have hsz : w.heap.size = W.heap.size := by rw [hW]; rfl
  rw [← hW] at HO HCw HTw
  have HHW := Lib.hid (show Holds W B off b from by rw [hW]; exact HH.out)
  rw [← hW]
  clear hW c1 c3 c4
  go_wp2_with fail
  refine (HI.out W HHW.out).mono ?_
  rintro e w0 ⟨rfl, rfl⟩
  rw [HX.out]
  clear hmn
  go_wp2_with fail
  refine (keep_any O resp g gb _ fv p l n fs _ (b.take (i + 1)) _ HO.out (.inr ⟨B, off, cap, by rw [HIL.out], by rw [HIL.out]; omega, by unfold maxLen; omega, by omega, Holds_take HHW.out _⟩) (fun k hk => by injection hk with hk; subst hk; exact hOB) (by rw [HIL.out]; omega) (by rw [HIL.out]; omega) (by rw [HIL.out]; omega)).mono ?_
  rintro e w1 ⟨rfl, ⟨lv1, hO1⟩, hc1⟩
  rw [HIL.out, HT1.out, ← List.append_assoc] at hO1
  have HO1 := Lib.hid hO1
  have HC1 := Lib.hid hc1
  have hs1 := hc1.size
  have hnt : ¬ New O W 0 := fun hn => by
    rcases hn with hn | hn
    · exact ho hn
    · omega
  have HTc := Lib.hid (Tab.chg HTw.out hc1 ho)
  clear hO1 hc1
  go_wp2_with fail
  refine (end_any (New O W) resp g gb lv1 fv p (l ++ b.take i) (n + (i + 1)) fs _ HO1.out HTc.out hnt h4 (by rw [List.length_append, List.length_take]; omega)).mono ?_
  rintro e w2 ⟨rfl, hR2, hc2⟩
  have HR2 := Lib.hid (hR2.mono (new_new hs1))
  have HC2 := Lib.hid (HC1.out.again hc2)
  clear hR2 hc2
  go_wp2_with fail
  go_ret
  exact ⟨i + 1, _, rfl, took_line s4 HS1.out HS2.out (by rw [← HRR.out]; omega), HR2.out.mono (new_size (by omega)), HCw.out.trans HC2.out (fun k hk => .inl hk)⟩
set_option maxRecDepth 100000 in
set_option maxHeartbeats 8000000 in
theorem take_big (O : Nat → Prop) (resp : Bool) (g gb : Nat) (a : Option Addr) (c : Nat) (fv : Value) (p : Option Parts) (l : Bs) (n : Nat) (fs : List Fl) (B off cap : Nat) (b : Bs) (w : World)
    (h : On w O resp g gb (.slice a l.length c) fv p l n fs) (hG : Good (.on p l n fs)) (hcap : b.length ≤ cap) (hcm : cap ≤ maxLen) (hB : B < w.heap.size) (hh : Holds w B off b) (hOB : ¬ O B) (hb : 0 < b.length) (hT : Tab w) (ho : ¬ O 0)
    (hA : ¬ nl (b.take (min b.length (room p l n))) < min b.length (room p l n)) (hbig : room p l n < b.length) :
    Calls Tryd.prog 23 #[.pointer (some ⟨g, 0, none⟩), .slice (some ⟨B, off, none⟩) b.length cap] w (TakePost O resp g (.on p l n fs) b w) := by
  have HO := Lib.hid (h.below ((Below.refl w.heap.size w).drew))
  have HH := Lib.hid hh
  obtain ⟨h1, h2, h3, h4, h5, h6⟩ := hG
  have c1 := rc1 h.blk
  have c3 := rc3 h.blk
  have c4 := rc4 h.blk
  have HCw := Lib.hid ((Chg.refl O w).drew)
  have HTw := Lib.hid (show Tab w.drew from hT)
  have htl := hT.lt
  obtain ⟨M, hM⟩ : ∃ M, M = most p := ⟨_, rfl⟩
  have hM2 : M ≤ 8192 := by rw [hM]; unfold most; split <;> omega
  rw [← hM] at c1 h3
  obtain ⟨R, hR⟩ : ∃ R, R = room p l n := ⟨_, rfl⟩
  have hRm : R = min (8192 - n) (M - l.length) := by rw [hR, hM]; rfl
  have hmin : min (IntKind.i64.wrap (8192 - (n : Int))) (IntKind.i64.wrap ((M : Int) - (l.length : Int))) = (R : Int) := by
    rw [IntWalk.i64_in _ (by omega), IntWalk.i64_in _ (by omega)]; omega
  have HMN := Lib.hid hmin
  have HRR := Lib.hid hR
  have hr1 : n + R ≤ 8192 := by omega
  obtain ⟨m, hm⟩ : ∃ m, m = min b.length R := ⟨_, rfl⟩
  have hml : (b.take m).length = m := by rw [List.length_take]; omega
  have hmn : min (b.length : Int) (R : Int) = (m : Int) := by omega
  have hmb : m ≤ b.length := by omega
  have hmr : m ≤ R := by omega
  have HMm := Lib.hid hm
  have HI := Lib.hid (fun (W : World) (hW : Holds W B off b) => (show Calls Tryd.prog 33 #[.slice (some ⟨B, off, none⟩) m cap, .int .u8 10] W fun e w' => e = .returned (.int .i64 (Lib.indexByte (b.take m) 10)) ∧ W = w' from by
    have := idx10_any B off cap (b.take m) W (Holds_take hW m)
    rwa [hml] at this))
  rw [← hR, ← hm] at hA
  rw [← hR] at hbig
  clear h hh hM hR hRm h6 hmin hm
  unfold maxLen at hcm
  have HX := Lib.hid (show Lib.indexByte (b.take m) 10 = -1 from by rw [nl_index, hml, if_neg hA])
  have HN0 := Lib.hid (nl_none (l := b.take m) (by rw [hml]; exact hA))
  clear hA
  go_enter Tryd.func23, Tryd.ntmps23
  go_wp2_with fail
  go_region_held3 (fun W => W.cell? ⟨g, 4, none⟩ = some (.int .i64 (n : Int)) ∧ W.cell? ⟨g, 1, none⟩ = some (.int .i64 (M : Int)) ∧ W.cell? ⟨g, 3, none⟩ = some (.slice a l.length c)) (exact ⟨c4, c1, c3⟩) (fail)
  rw [HMN.out]
  obtain ⟨W, hW⟩ : ∃ W, W = w.drew := ⟨_, rfl⟩
  have hsz : w.heap.size = W.heap.size := by rw [hW]; rfl
  rw [← hW] at HO HCw HTw
  have HHW := Lib.hid (show Holds W B off b from by rw [hW]; exact HH.out)
  rw [← hW]
  clear hW c1 c3 c4
  go_wp2_with fail
  refine (HI.out W HHW.out).mono ?_
  rintro e w0 ⟨rfl, rfl⟩
  rw [HX.out]
  clear hmn
  have hK := HO.out.blk
  go_wp2_with fail
  refine (fail_any resp g _ _ _ n false 0 _ fv 3 _ (fnOf_is gb p) HO.out.blk).mono ?_
  rintro e w1 ⟨rfl, hb1, hc1⟩
  have HB1 := Lib.hid hb1
  have HC1 := Lib.hid (HCw.out.trans hc1 (fun k hk => .inl (hk ▸ HO.out.og)))
  clear hb1 hc1 hK
  go_wp2_with fail
  go_ret
  refine ⟨R + 1, .bad 3, rfl, ?_, ⟨_, _, fnOf_is gb p, HB1.out, .inl HO.out.og⟩, HC1.out⟩
  have := took_big (resp := resp) (b := b) (p := p) (l := l) (n := n) (fs := fs) (by rw [← HRR.out]; have := HN0.out; rwa [show m = R from by have := HMm.out; omega] at this) (by rw [← HRR.out]; exact hbig)
  rwa [← HRR.out] at this
set_option maxRecDepth 100000 in
set_option maxHeartbeats 8000000 in
theorem take_part (O : Nat → Prop) (resp : Bool) (g gb : Nat) (a : Option Addr) (c : Nat) (fv : Value) (p : Option Parts) (l : Bs) (n : Nat) (fs : List Fl) (B off cap : Nat) (b : Bs) (w : World)
    (h : On w O resp g gb (.slice a l.length c) fv p l n fs) (hG : Good (.on p l n fs)) (hcap : b.length ≤ cap) (hcm : cap ≤ maxLen) (hB : B < w.heap.size) (hh : Holds w B off b) (hOB : ¬ O B) (hb : 0 < b.length) (hT : Tab w) (ho : ¬ O 0)
    (hA : ¬ nl (b.take (min b.length (room p l n))) < min b.length (room p l n)) (hbig : b.length ≤ room p l n) :
    Calls Tryd.prog 23 #[.pointer (some ⟨g, 0, none⟩), .slice (some ⟨B, off, none⟩) b.length cap] w (TakePost O resp g (.on p l n fs) b w) := by
  have HO := Lib.hid (h.below ((Below.refl w.heap.size w).drew))
  have HH := Lib.hid hh
  obtain ⟨h1, h2, h3, h4, h5, h6⟩ := hG
  have c1 := rc1 h.blk
  have c3 := rc3 h.blk
  have c4 := rc4 h.blk
  have HCw := Lib.hid ((Chg.refl O w).drew)
  have HTw := Lib.hid (show Tab w.drew from hT)
  have htl := hT.lt
  obtain ⟨M, hM⟩ : ∃ M, M = most p := ⟨_, rfl⟩
  have hM2 : M ≤ 8192 := by rw [hM]; unfold most; split <;> omega
  rw [← hM] at c1 h3
  obtain ⟨R, hR⟩ : ∃ R, R = room p l n := ⟨_, rfl⟩
  have hRm : R = min (8192 - n) (M - l.length) := by rw [hR, hM]; rfl
  have hmin : min (IntKind.i64.wrap (8192 - (n : Int))) (IntKind.i64.wrap ((M : Int) - (l.length : Int))) = (R : Int) := by
    rw [IntWalk.i64_in _ (by omega), IntWalk.i64_in _ (by omega)]; omega
  have HMN := Lib.hid hmin
  have HRR := Lib.hid hR
  have hr1 : n + R ≤ 8192 := by omega
  obtain ⟨m, hm⟩ : ∃ m, m = min b.length R := ⟨_, rfl⟩
  have hml : (b.take m).length = m := by rw [List.length_take]; omega
  have hmn : min (b.length : Int) (R : Int) = (m : Int) := by omega
  have hmb : m ≤ b.length := by omega
  have hmr : m ≤ R := by omega
  have HMm := Lib.hid hm
  have HI := Lib.hid (fun (W : World) (hW : Holds W B off b) => (show Calls Tryd.prog 33 #[.slice (some ⟨B, off, none⟩) m cap, .int .u8 10] W fun e w' => e = .returned (.int .i64 (Lib.indexByte (b.take m) 10)) ∧ W = w' from by
    have := idx10_any B off cap (b.take m) W (Holds_take hW m)
    rwa [hml] at this))
  rw [← hR, ← hm] at hA
  rw [← hR] at hbig
  clear h hh hM hR hRm h6 hmin hm
  unfold maxLen at hcm
  have HX := Lib.hid (show Lib.indexByte (b.take m) 10 = -1 from by rw [nl_index, hml, if_neg hA])
  have HN0 := Lib.hid (nl_none (l := b.take m) (by rw [hml]; exact hA))
  clear hA
  go_enter Tryd.func23, Tryd.ntmps23
  go_wp2_with fail
  go_region_held3 (fun W => W.cell? ⟨g, 4, none⟩ = some (.int .i64 (n : Int)) ∧ W.cell? ⟨g, 1, none⟩ = some (.int .i64 (M : Int)) ∧ W.cell? ⟨g, 3, none⟩ = some (.slice a l.length c)) (exact ⟨c4, c1, c3⟩) (fail)
  rw [HMN.out]
  obtain ⟨W, hW⟩ : ∃ W, W = w.drew := ⟨_, rfl⟩
  have hsz : w.heap.size = W.heap.size := by rw [hW]; rfl
  rw [← hW] at HO HCw HTw
  have HHW := Lib.hid (show Holds W B off b from by rw [hW]; exact HH.out)
  rw [← hW]
  clear hW c1 c3 c4
  go_wp2_with fail
  refine (HI.out W HHW.out).mono ?_
  rintro e w0 ⟨rfl, rfl⟩
  rw [HX.out]
  clear hmn
  go_wp2_with fail
  refine (keep_any O resp g gb _ fv p l n fs _ b _ HO.out (.inr ⟨B, off, cap, rfl, hcap, by unfold maxLen; omega, by omega, HHW.out⟩) (fun k hk => by injection hk with hk; subst hk; exact hOB) hb (by omega) (by omega)).mono ?_
  rintro e w1 ⟨rfl, ⟨lv1, hO1⟩, hc1⟩
  have HO1 := Lib.hid hO1
  have HC1 := Lib.hid (HCw.out.trans hc1 (fun k hk => .inl hk))
  clear hO1 hc1
  go_wp2_with fail
  go_ret
  refine ⟨b.length, .on p (l ++ b) (n + b.length) fs, rfl, ?_, Rdr.mono (s := .on p (l ++ b) (n + b.length) fs) ⟨gb, lv1, fv, HO1.out⟩ (new_size (by omega)), HC1.out⟩
  exact took_part hb (by have := HN0.out; rwa [show m = b.length from by have := HMm.out; omega, List.take_length] at this) (by rw [← HRR.out]; exact hbig)
theorem take_any (O : Nat → Prop) (resp : Bool) (g gb : Nat) (lv fv : Value) (p : Option Parts) (l : Bs) (n : Nat) (fs : List Fl) (v : Value) (b : Bs) (w : World)
    (h : On w O resp g gb lv fv p l n fs) (hG : Good (.on p l n fs)) (hv : Byts w v b) (hvo : ∀ k, v.ownBlock = some k → ¬ O k) (hb : 0 < b.length) (hT : Tab w) (ho : ¬ O 0) :
    Calls Tryd.prog 23 #[.pointer (some ⟨g, 0, none⟩), v] w (TakePost O resp g (.on p l n fs) b w) := by
  rcases hv with ⟨rfl, _⟩ | ⟨B, off, cap, rfl, hcap, hcm, hB, hh⟩
  · simp at hb
  obtain ⟨a, c, hls⟩ := h.line.shape
  subst hls
  by_cases hA : nl (b.take (min b.length (room p l n))) < min b.length (room p l n)
  · exact take_line O resp g gb a c fv p l n fs B off cap b w h hG hcap hcm hB hh (hvo B rfl) hb hT ho hA
  · by_cases hbig : room p l n < b.length
    · exact take_big O resp g gb a c fv p l n fs B off cap b w h hG hcap hcm hB hh (hvo B rfl) hb hT ho hA hbig
    · exact take_part O resp g gb a c fv p l n fs B off cap b w h hG hcap hcm hB hh (hvo B rfl) hb hT ho hA (by omega)
end Go.Proofs.YtlnlihkljnkhiaaDoor.Hd
