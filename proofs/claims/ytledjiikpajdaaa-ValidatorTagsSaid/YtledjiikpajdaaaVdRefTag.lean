/-
  gatepostref12.Parse: what it returns of any text.
-/
import Derived.Test.YtledjiikpajdaaaVdTagMath
import Derived.Test.YtledjiikpajdaaaKit
import Derived.Deep.DeepCutAuto
namespace Go.Proofs.Ytledjiikpajdaaa.Vd
open Go.RowKit Go.Proofs.Ytledjiikpajdaaa.Tk Go.Proofs.Ytledjiikpajdaaa.Fd
set_option maxRecDepth 100000
set_option linter.unusedVariables false

/-- A tag of the reference as a struct's value. -/
def RV (x : Tag) : Value := .agg #[.bool x.1, .string ⟨x.2.toArray⟩]
def rtagVal (o : Option Tag) : Value := match o with
  | some t => .tuple #[RV t, .bool true]
  | none => .tuple #[RV (false, []), .bool false]
theorem infoRTagSize : (Try.prog.info? 26).map (·.size) = some #[Value.bool false, Value.string ⟨#[]⟩].size := by kernel_rfl
abbrev rcells (b : Bool) : Obj := .cells #[.bool b, .string ⟨#[]⟩] 26 (0, 0)
/-- The world behind the look for W/. -/
structure RW (w : World) (b : Bool) (wx : World) : Prop where
  res : wx.heap[w.heap.size]? = some (rcells false)
  tag : wx.heap[w.heap.size + 1]? = some (rcells b)
  below : Below w.heap.size w wx
theorem RW.new (w : World) (b : Bool) : RW w b ((w.alloc (rcells false)).alloc (rcells b)) :=
  ⟨(old_block _ _ (by simp)).trans (new_block _ _), new_block' _ _ (by simp), ((Below.refl w.heap.size w).alloc (Nat.le_refl _) _).alloc (by simp) _⟩
theorem len_size (s : ByteArray) : s.data.toList.length = s.size := by rw [Array.length_toList]; rfl
theorem at_list (s : ByteArray) (k : Nat) (h : k < s.size) : s.data.toList[k]? = some s[k] := by
  rw [List.getElem?_eq_getElem (by rw [len_size]; exact h)]; rfl
theorem ext_list (q : ByteArray) (a b : Nat) : (q.extract a b).data.toList = (q.data.toList.drop a).take (b - a) := by
  rw [ByteArray.data_extract, Array.toList_extract, List.extract_eq_take_drop]
theorem take_two (s : ByteArray) (h : 2 < s.size) : s.data.toList.take 2 = [s[0], s[1]] := by
  have h0 := at_list s 0 (by omega)
  have h1 := at_list s 1 (by omega)
  match hl : s.data.toList with
  | [] => rw [hl] at h0; simp at h0
  | [a] => rw [hl] at h1; simp at h1
  | a :: b :: r => rw [hl] at h0 h1; simp at h0 h1; rw [← h0, ← h1]; rfl
theorem flag_yes (s : ByteArray) (h : 2 < s.size) (h0 : s[0] = 87) (h1 : s[1] = 47) : flagL s.data.toList = true ∧ restL s.data.toList = (s.extract 2 s.size).data.toList := by
  have hf : 2 < s.data.toList.length ∧ s.data.toList.take 2 = [87, 47] := ⟨by rw [len_size]; exact h, by rw [take_two s h, h0, h1]⟩
  refine ⟨decide_eq_true hf, ?_⟩
  unfold restL; rw [if_pos hf]
  rw [ext_list, List.take_of_length_le]
  rw [List.length_drop, len_size]; exact Nat.le_refl _
theorem flag_no (s : ByteArray) (h : ∀ h : 2 < s.size, s[0] = 87 → s[1] = 47 → False) : flagL s.data.toList = false ∧ restL s.data.toList = s.data.toList := by
  have hf : ¬ (2 < s.data.toList.length ∧ s.data.toList.take 2 = [87, 47]) := by
    rintro ⟨h1, h2⟩
    rw [len_size] at h1
    rw [take_two s h1] at h2
    injection h2 with h2 h3
    injection h3 with h3
    exact h h1 h2 h3
  exact ⟨decide_eq_false hf, if_neg hf⟩
theorem ne_int {c : UInt8} {k : UInt8} (h : c ≠ k) : ((c.toNat : Int) == (k.toNat : Int)) = false := by
  rw [beq_eq_false_iff_ne]; intro e; exact h (UInt8.toNat_inj.1 (by omega))
theorem ne_prop {c : UInt8} {k : UInt8} (h : c ≠ k) : ¬ (c.toNat : Int) = (k.toNat : Int) := fun e => h (UInt8.toNat_inj.1 (by omega))
theorem body_short {q : ByteArray} (h : q.size < 2) : body q.data.toList = none := by
  unfold body; rw [if_neg]; rintro ⟨h1, _⟩; rw [len_size] at h1; omega
theorem head_at {q : ByteArray} (h : 0 < q.size) : q.data.toList.head? = some q[0] := by
  rw [List.head?_eq_getElem?, at_list q 0 h]
theorem last_at {q : ByteArray} (h : 0 < q.size) : q.data.toList.getLast? = some q[q.size - 1] := by
  rw [List.getLast?_eq_getElem?, len_size, at_list q (q.size - 1) (by omega)]
theorem body_head {q : ByteArray} (h : 0 < q.size) (h0 : q[0] ≠ 34) : body q.data.toList = none := by
  unfold body; rw [if_neg]; rintro ⟨_, h1, _⟩; rw [head_at h] at h1; exact h0 (by injection h1)
theorem body_last {q : ByteArray} (h : 0 < q.size) (h0 : q[q.size - 1] ≠ 34) : body q.data.toList = none := by
  unfold body; rw [if_neg]; rintro ⟨_, _, h1, _⟩; rw [last_at h] at h1; exact h0 (by injection h1)
theorem inner_ext (q : ByteArray) : (q.extract 1 (q.size - 1)).data.toList = inner q.data.toList := by
  unfold inner
  rw [ext_list, List.dropLast_eq_take, List.length_drop, len_size]
theorem body_both {q : ByteArray} (h : 2 ≤ q.size) (h0 : q[0] = 34) (h1 : q[q.size - 1] = 34) : body q.data.toList = if (inner q.data.toList).all tagByte then some (inner q.data.toList) else none := by
  unfold body
  by_cases hb : (inner q.data.toList).all tagByte = true
  · rw [if_pos ⟨by rw [len_size]; exact h, by rw [head_at (by omega), h0], by rw [last_at (by omega), h1], hb⟩, if_pos hb]
  · rw [if_neg (fun x => hb x.2.2.2), if_neg hb]
theorem inner_at (q : ByteArray) (k : Nat) (h1 : 1 ≤ k) (h2 : k < q.size - 1) : ∃ h : k - 1 < (inner q.data.toList).length, (inner q.data.toList)[k - 1] = q[k] := by
  have hl : (inner q.data.toList).length = q.size - 2 := by unfold inner; rw [List.length_dropLast, List.length_drop, len_size]; omega
  refine ⟨by omega, ?_⟩
  have e := at_list q k (by omega)
  have : (inner q.data.toList)[k - 1]? = some q[k] := by
    unfold inner
    rw [List.getElem?_dropLast, if_pos (by rw [List.length_drop, len_size]; omega), List.getElem?_drop, show 1 + (k - 1) = k by omega, e]
  rw [List.getElem?_eq_getElem (by omega)] at this
  injection this
theorem inner_step (q : ByteArray) (k : Nat) (h1 : 1 ≤ k) (h2 : k < q.size - 1) : ((inner q.data.toList).take (k + 1 - 1)).all tagByte = (((inner q.data.toList).take (k - 1)).all tagByte && tagByte q[k]) := by
  obtain ⟨h3, h4⟩ := inner_at q k h1 h2
  rw [show k + 1 - 1 = k - 1 + 1 by omega, List.take_succ_eq_append_getElem h3, List.all_append, h4]; simp
theorem inner_bad (q : ByteArray) (k : Nat) (h1 : 1 ≤ k) (h2 : k < q.size - 1) (h : tagByte q[k] = false) : (inner q.data.toList).all tagByte = false := by
  obtain ⟨h3, h4⟩ := inner_at q k h1 h2
  rw [Bool.eq_false_iff]; intro hh
  have := List.all_eq_true.1 hh _ (List.getElem_mem h3)
  rw [h4, h] at this; cases this
theorem inner_done (q : ByteArray) (h : ((inner q.data.toList).take (q.size - 1 - 1)).all tagByte = true) : (inner q.data.toList).all tagByte = true := by
  rwa [List.take_of_length_le (by unfold inner; rw [List.length_dropLast, List.length_drop, len_size]; exact Nat.le_refl _)] at h
theorem slice_in (q : ByteArray) (w : World) (h : 2 ≤ q.size) :
    (Instr.slice 9 (.string q) (some (.int .i64 1)) (some (.int .i64 ((q.size : Int) - 1))) none).run Try.prog w = .ok (.string (q.extract 1 (q.size - 1))) w := by
  have := run_slice_string (P := Try.prog) w 9 q .i64 .i64 1 ((q.size : Int) - 1) Try.underlying9 (by omega) (by omega) (by omega)
  rw [show ((q.size : Int) - 1).toNat = q.size - 1 by omega] at this
  exact this
/-- A byte of a tag, as the reference looks at it. -/
theorem ref_ok {c : UInt8} (h : tagByte c = true) : (33 : Int) ≤ (c.toNat : Int) ∧ ((c.toNat : Int) == 34) = false ∧ ((c.toNat : Int) == 92) = false ∧ ((c.toNat : Int) == 127) = false ∧ ¬ (c.toNat : Int) = 34 ∧ ¬ (c.toNat : Int) = 92 ∧ ¬ (c.toNat : Int) = 127 := by
  unfold tagByte at h
  simp only [Bool.and_eq_true, decide_eq_true_eq, bne_iff_ne] at h
  obtain ⟨⟨⟨a, b⟩, c1⟩, d⟩ := h
  exact ⟨by omega, ne_int b, ne_int c1, ne_int d, ne_prop b, ne_prop c1, ne_prop d⟩
theorem ref_bad {c : UInt8} (h : tagByte c = false) : (c.toNat : Int) < 33 ∨ ((33 : Int) ≤ (c.toNat : Int) ∧ (c = 34 ∨ c = 92 ∨ c = 127)) := by
  by_cases h1 : 33 ≤ c.toNat
  · refine .inr ⟨by omega, ?_⟩
    unfold tagByte at h
    rw [decide_eq_true h1] at h
    by_cases a : c = 34
    · exact .inl a
    · by_cases b : c = 92
      · exact .inr (.inl b)
      · by_cases d : c = 127
        · exact .inr (.inr d)
        · simp [a, b, d] at h
  · exact .inl (by omega)
set_option maxHeartbeats 4000000 in
theorem rway_yes (s : ByteArray) (w : World) (hs : s.size ≤ 140737488355328) (h2 : 2 < s.size) (h0 : s[0] = 87) (h1 : s[1] = 47) :
    Calls Try.prog 6 #[.string s] w fun e w' => e = .returned (rtagVal (parseTag s.data.toList)) ∧ Below w.heap.size w w' := by
  obtain ⟨hf, hr⟩ := flag_yes s h2 h0 h1
  have HP1 := Lib.hid (show parseTag s.data.toList = (body (s.extract 2 s.size).data.toList).map fun t => (true, t) from by rw [parse_rest, hf, hr])
  have hqs : (s.extract 2 s.size).size ≤ s.size := by simp
  have HW := Lib.hid (RW.new w true)
  clear hf hr
  obtain ⟨R, hR⟩ : ∃ R, R = parseTag s.data.toList := ⟨_, rfl⟩
  rw [← hR] at HP1 ⊢
  clear hR
  go_enter Try.func6, Try.ntmps6
  go_upto_region 5 with fail
  obtain ⟨q, hq⟩ : ∃ q : ByteArray, q = s.extract 2 s.size := ⟨_, rfl⟩
  rw [← hq] at HP1 hqs ⊢
  clear hq
  obtain ⟨W, hW⟩ : ∃ W, W = (w.alloc (rcells false)).alloc (rcells true) := ⟨_, rfl⟩
  rw [← hW] at HW ⊢
  clear hW
  have HP0 := Lib.hid HP1.out
  clear HP1
  have c0 := free HW.out.res 0
  have c1 := free HW.out.res 1
  have d0 := two0 HW.out.res
  have d1 := two1 HW.out.res
  have hlt := block_lt HW.out.tag
  have g0 := free HW.out.tag 0
  have g1 := free HW.out.tag 1
  have k0 := two0 HW.out.tag
  have k1 := two1 HW.out.tag
  by_cases z : q.size < 2
  · have HN := Lib.hid (show R = none from by rw [HP0.out, body_short z]; rfl)
    go_wp2_with fail
    refine bodyPost_ret (results_pair rfl _ _ w.heap.size 26 _ (0, 0) _ rfl (put2 HW.out.res _ _) Try.underlying26 rfl infoRTagSize) rfl ?_
    exact ⟨by rw [HN.out]; rfl, put2_below HW.out.below (Nat.le_refl _) _ _⟩
  have z0 : 2 ≤ q.size := by omega
  have z1 : 0 < q.size := by omega
  by_cases q0 : q[0] = 34
  case neg =>
    have HN := Lib.hid (show R = none from by rw [HP0.out, body_head z1 q0]; rfl)
    have i0 := ne_int q0
    replace i0 : ((q[0].toNat : Int) == 34) = false := i0
    have i1 : ¬ (q[0].toNat : Int) = 34 := ne_prop q0
    have i2 : ((q[0].toNat : Int) != 34) = true := by rw [bne, i0]; rfl
    clear q0
    go_wp2_with fail
    refine bodyPost_ret (results_pair rfl _ _ w.heap.size 26 _ (0, 0) _ rfl (put2 HW.out.res _ _) Try.underlying26 rfl infoRTagSize) rfl ?_
    exact ⟨by rw [HN.out]; rfl, put2_below HW.out.below (Nat.le_refl _) _ _⟩
  by_cases q1 : q[q.size - 1] = 34
  case neg =>
    have HN := Lib.hid (show R = none from by rw [HP0.out, body_last z1 q1]; rfl)
    have i0 := ne_int q1
    replace i0 : ((q[q.size - 1].toNat : Int) == 34) = false := i0
    have i1 : ¬ (q[q.size - 1].toNat : Int) = 34 := ne_prop q1
    have i2 : ((q[q.size - 1].toNat : Int) != 34) = true := by rw [bne, i0]; rfl
    clear q1
    go_wp2_with fail
    refine bodyPost_ret (results_pair rfl _ _ w.heap.size 26 _ (0, 0) _ rfl (put2 HW.out.res _ _) Try.underlying26 rfl infoRTagSize) rfl ?_
    exact ⟨by rw [HN.out]; rfl, put2_below HW.out.below (Nat.le_refl _) _ _⟩
  replace HP0 := Lib.hid (show R = Option.map (fun t => (true, t)) (if (inner q.data.toList).all tagByte then some (inner q.data.toList) else none) from by rw [HP0.out, body_both z0 q0 q1])
  go_wp2_with fail
  go_loop [5] (fun v => ∃ k : Nat, 1 ≤ k ∧ k ≤ q.size - 1 ∧ v = .int .i64 (k : Int) ∧ Hid (((inner q.data.toList).take (k - 1)).all tagByte = true)) (fun v => q.size - (intOf v).toNat)
  case atStart => exact ⟨1, by omega, by omega, rfl, Lib.hid rfl⟩
  case round =>
    obtain ⟨k, hk1, hk, rfl, HAL⟩ := hrel
    by_cases hlt2 : k < q.size - 1
    · have hks : k < q.size := by omega
      have hki : (k : Int) < (q.size : Int) - 1 := by omega
      cases ht : tagByte q[k] with
      | true =>
        have HA := Lib.hid (show ((inner q.data.toList).take (k + 1 - 1)).all tagByte = true from by rw [inner_step q k hk1 hlt2, HAL.out, ht]; rfl)
        obtain ⟨m1, m2, m3, m4, m5, m6, m7⟩ := ref_ok ht
        clear ht
        go_wp2_with fail
        go_round
        case rel => exact ⟨k + 1, by omega, by omega, by go_num, HA⟩
        case measure => simp [intOf]; omega
      | false =>
        have HN := Lib.hid (show R = none from by rw [HP0.out, inner_bad q k hk1 hlt2 ht]; rfl)
        have hbad := ref_bad ht
        clear ht
        rcases hbad with m1 | ⟨m1, m2⟩
        · go_wp2_with fail
          refine bodyPost_ret (results_pair rfl _ _ w.heap.size 26 _ (0, 0) _ rfl (put2 HW.out.res _ _) Try.underlying26 rfl infoRTagSize) rfl ?_
          exact ⟨by rw [HN.out]; rfl, put2_below HW.out.below (Nat.le_refl _) _ _⟩
        · rcases m2 with m2 | m2 | m2
          all_goals
            go_wp2_with fail
            refine bodyPost_ret (results_pair rfl _ _ w.heap.size 26 _ (0, 0) _ rfl (put2 HW.out.res _ _) Try.underlying26 rfl infoRTagSize) rfl ?_
            exact ⟨by rw [HN.out]; rfl, put2_below HW.out.below (Nat.le_refl _) _ _⟩
    · obtain rfl : k = q.size - 1 := by omega
      have HV := Lib.hid (show R = some (true, (q.extract 1 (q.size - 1)).data.toList) from by rw [HP0.out, inner_done q HAL.out, inner_ext]; rfl)
      obtain ⟨z9, hz9⟩ : ∃ z9, z9 = q.extract 1 (q.size - 1) := ⟨_, rfl⟩
      have hsl := fun W => slice_in q W z0
      rw [← hz9] at HV
      simp only [← hz9] at hsl
      clear hlt2 HAL HP0 hz9
      go_upto_region 13 with fail
      have hr2 : (W.setCell ⟨w.heap.size + 1, 1, none⟩ (.string z9)).heap[w.heap.size + 1]? = some (.cells #[.bool true, .string z9] 26 (0, 0)) := by
        rw [heap_put HW.out.tag 1]; rfl
      have hr1 : (W.setCell ⟨w.heap.size + 1, 1, none⟩ (.string z9)).heap[w.heap.size]? = some (rcells false) := by
        rw [← HW.out.res]; simp [World.setCell, Array.getElem?_modify]
      have hbb : Below w.heap.size w (W.setCell ⟨w.heap.size + 1, 1, none⟩ (.string z9)) := HW.out.below.setCell (p := ⟨w.heap.size + 1, 1, none⟩) (by show w.heap.size ≤ w.heap.size + 1; omega) _
      obtain ⟨V, hV⟩ : ∃ V, V = W.setCell ⟨w.heap.size + 1, 1, none⟩ (.string z9) := ⟨_, rfl⟩
      rw [← hV] at hr1 hr2 hbb ⊢
      clear hV c0 c1 d0 d1 g0 g1 k0 k1 HW
      have c0 := free hr1 0
      have c1 := free hr1 1
      have d0 := two0 hr1
      have d1 := two1 hr1
      have k0 := two0 hr2
      have k1 := two1 hr2
      go_wp2_with fail
      refine bodyPost_ret (results_pair rfl _ _ w.heap.size 26 _ (0, 0) _ rfl (put2 hr1 _ _) Try.underlying26 rfl infoRTagSize) rfl ?_
      exact ⟨by rw [HV.out]; rfl, put2_below hbb (Nat.le_refl _) _ _⟩
set_option maxHeartbeats 4000000 in
theorem rway_short (s : ByteArray) (w : World) (hs : s.size ≤ 140737488355328) (h2 : s.size ≤ 2) :
    Calls Try.prog 6 #[.string s] w fun e w' => e = .returned (rtagVal (parseTag s.data.toList)) ∧ Below w.heap.size w w' := by
  obtain ⟨hf, hr⟩ := flag_no s (fun h => absurd h (by omega))
  have HP1 := Lib.hid (show parseTag s.data.toList = (body (s).data.toList).map fun t => (false, t) from by rw [parse_rest, hf, hr])
  have hqs : (s).size ≤ s.size := by simp
  have HW := Lib.hid (RW.new w false)
  clear hf hr
  obtain ⟨R, hR⟩ : ∃ R, R = parseTag s.data.toList := ⟨_, rfl⟩
  rw [← hR] at HP1 ⊢
  clear hR
  go_enter Try.func6, Try.ntmps6
  go_upto_region 5 with fail
  obtain ⟨W, hW⟩ : ∃ W, W = (w.alloc (rcells false)).alloc (rcells false) := ⟨_, rfl⟩
  rw [← hW] at HW ⊢
  clear hW
  have HP0 := Lib.hid HP1.out
  clear HP1
  have c0 := free HW.out.res 0
  have c1 := free HW.out.res 1
  have d0 := two0 HW.out.res
  have d1 := two1 HW.out.res
  have hlt := block_lt HW.out.tag
  have g0 := free HW.out.tag 0
  have g1 := free HW.out.tag 1
  have k0 := two0 HW.out.tag
  have k1 := two1 HW.out.tag
  by_cases z : s.size < 2
  · have HN := Lib.hid (show R = none from by rw [HP0.out, body_short z]; rfl)
    go_wp2_with fail
    refine bodyPost_ret (results_pair rfl _ _ w.heap.size 26 _ (0, 0) _ rfl (put2 HW.out.res _ _) Try.underlying26 rfl infoRTagSize) rfl ?_
    exact ⟨by rw [HN.out]; rfl, put2_below HW.out.below (Nat.le_refl _) _ _⟩
  have z0 : 2 ≤ s.size := by omega
  have z1 : 0 < s.size := by omega
  by_cases q0 : s[0] = 34
  case neg =>
    have HN := Lib.hid (show R = none from by rw [HP0.out, body_head z1 q0]; rfl)
    have i0 := ne_int q0
    replace i0 : ((s[0].toNat : Int) == 34) = false := i0
    have i1 : ¬ (s[0].toNat : Int) = 34 := ne_prop q0
    have i2 : ((s[0].toNat : Int) != 34) = true := by rw [bne, i0]; rfl
    clear q0
    go_wp2_with fail
    refine bodyPost_ret (results_pair rfl _ _ w.heap.size 26 _ (0, 0) _ rfl (put2 HW.out.res _ _) Try.underlying26 rfl infoRTagSize) rfl ?_
    exact ⟨by rw [HN.out]; rfl, put2_below HW.out.below (Nat.le_refl _) _ _⟩
  by_cases q1 : s[s.size - 1] = 34
  case neg =>
    have HN := Lib.hid (show R = none from by rw [HP0.out, body_last z1 q1]; rfl)
    have i0 := ne_int q1
    replace i0 : ((s[s.size - 1].toNat : Int) == 34) = false := i0
    have i1 : ¬ (s[s.size - 1].toNat : Int) = 34 := ne_prop q1
    have i2 : ((s[s.size - 1].toNat : Int) != 34) = true := by rw [bne, i0]; rfl
    clear q1
    go_wp2_with fail
    refine bodyPost_ret (results_pair rfl _ _ w.heap.size 26 _ (0, 0) _ rfl (put2 HW.out.res _ _) Try.underlying26 rfl infoRTagSize) rfl ?_
    exact ⟨by rw [HN.out]; rfl, put2_below HW.out.below (Nat.le_refl _) _ _⟩
  replace HP0 := Lib.hid (show R = Option.map (fun t => (false, t)) (if (inner s.data.toList).all tagByte then some (inner s.data.toList) else none) from by rw [HP0.out, body_both z0 q0 q1])
  go_wp2_with fail
  go_loop [5] (fun v => ∃ k : Nat, 1 ≤ k ∧ k ≤ s.size - 1 ∧ v = .int .i64 (k : Int) ∧ Hid (((inner s.data.toList).take (k - 1)).all tagByte = true)) (fun v => s.size - (intOf v).toNat)
  case atStart => exact ⟨1, by omega, by omega, rfl, Lib.hid rfl⟩
  case round =>
    obtain ⟨k, hk1, hk, rfl, HAL⟩ := hrel
    by_cases hlt2 : k < s.size - 1
    · exfalso; omega
    · obtain rfl : k = s.size - 1 := by omega
      have HV := Lib.hid (show R = some (false, (s.extract 1 (s.size - 1)).data.toList) from by rw [HP0.out, inner_done s HAL.out, inner_ext]; rfl)
      obtain ⟨z9, hz9⟩ : ∃ z9, z9 = s.extract 1 (s.size - 1) := ⟨_, rfl⟩
      have hsl := fun W => slice_in s W z0
      rw [← hz9] at HV
      simp only [← hz9] at hsl
      clear hlt2 HAL HP0 hz9
      go_upto_region 13 with fail
      have hr2 : (W.setCell ⟨w.heap.size + 1, 1, none⟩ (.string z9)).heap[w.heap.size + 1]? = some (.cells #[.bool false, .string z9] 26 (0, 0)) := by
        rw [heap_put HW.out.tag 1]; rfl
      have hr1 : (W.setCell ⟨w.heap.size + 1, 1, none⟩ (.string z9)).heap[w.heap.size]? = some (rcells false) := by
        rw [← HW.out.res]; simp [World.setCell, Array.getElem?_modify]
      have hbb : Below w.heap.size w (W.setCell ⟨w.heap.size + 1, 1, none⟩ (.string z9)) := HW.out.below.setCell (p := ⟨w.heap.size + 1, 1, none⟩) (by show w.heap.size ≤ w.heap.size + 1; omega) _
      obtain ⟨V, hV⟩ : ∃ V, V = W.setCell ⟨w.heap.size + 1, 1, none⟩ (.string z9) := ⟨_, rfl⟩
      rw [← hV] at hr1 hr2 hbb ⊢
      clear hV c0 c1 d0 d1 g0 g1 k0 k1 HW
      have c0 := free hr1 0
      have c1 := free hr1 1
      have d0 := two0 hr1
      have d1 := two1 hr1
      have k0 := two0 hr2
      have k1 := two1 hr2
      go_wp2_with fail
      refine bodyPost_ret (results_pair rfl _ _ w.heap.size 26 _ (0, 0) _ rfl (put2 hr1 _ _) Try.underlying26 rfl infoRTagSize) rfl ?_
      exact ⟨by rw [HV.out]; rfl, put2_below hbb (Nat.le_refl _) _ _⟩
set_option maxHeartbeats 4000000 in
theorem rway_first (s : ByteArray) (w : World) (hs : s.size ≤ 140737488355328) (h2 : 2 < s.size) (h0 : s[0] ≠ 87) :
    Calls Try.prog 6 #[.string s] w fun e w' => e = .returned (rtagVal (parseTag s.data.toList)) ∧ Below w.heap.size w w' := by
  obtain ⟨hf, hr⟩ := flag_no s (fun _ h => absurd h h0)
  have i9 : ((s[0].toNat : Int) == 87) = false := ne_int h0
  have i8 : ¬ (s[0].toNat : Int) = 87 := ne_prop h0
  clear h0
  have HP1 := Lib.hid (show parseTag s.data.toList = (body (s).data.toList).map fun t => (false, t) from by rw [parse_rest, hf, hr])
  have hqs : (s).size ≤ s.size := by simp
  have HW := Lib.hid (RW.new w false)
  clear hf hr
  obtain ⟨R, hR⟩ : ∃ R, R = parseTag s.data.toList := ⟨_, rfl⟩
  rw [← hR] at HP1 ⊢
  clear hR
  go_enter Try.func6, Try.ntmps6
  go_upto_region 5 with fail
  obtain ⟨W, hW⟩ : ∃ W, W = (w.alloc (rcells false)).alloc (rcells false) := ⟨_, rfl⟩
  rw [← hW] at HW ⊢
  clear hW
  have HP0 := Lib.hid HP1.out
  clear HP1
  have c0 := free HW.out.res 0
  have c1 := free HW.out.res 1
  have d0 := two0 HW.out.res
  have d1 := two1 HW.out.res
  have hlt := block_lt HW.out.tag
  have g0 := free HW.out.tag 0
  have g1 := free HW.out.tag 1
  have k0 := two0 HW.out.tag
  have k1 := two1 HW.out.tag
  by_cases z : s.size < 2
  · exfalso; omega
  have z0 : 2 ≤ s.size := by omega
  have z1 : 0 < s.size := by omega
  by_cases q0 : s[0] = 34
  case neg =>
    have HN := Lib.hid (show R = none from by rw [HP0.out, body_head z1 q0]; rfl)
    have i0 := ne_int q0
    replace i0 : ((s[0].toNat : Int) == 34) = false := i0
    have i1 : ¬ (s[0].toNat : Int) = 34 := ne_prop q0
    have i2 : ((s[0].toNat : Int) != 34) = true := by rw [bne, i0]; rfl
    clear q0
    go_wp2_with fail
    refine bodyPost_ret (results_pair rfl _ _ w.heap.size 26 _ (0, 0) _ rfl (put2 HW.out.res _ _) Try.underlying26 rfl infoRTagSize) rfl ?_
    exact ⟨by rw [HN.out]; rfl, put2_below HW.out.below (Nat.le_refl _) _ _⟩
  by_cases q1 : s[s.size - 1] = 34
  case neg =>
    have HN := Lib.hid (show R = none from by rw [HP0.out, body_last z1 q1]; rfl)
    have i0 := ne_int q1
    replace i0 : ((s[s.size - 1].toNat : Int) == 34) = false := i0
    have i1 : ¬ (s[s.size - 1].toNat : Int) = 34 := ne_prop q1
    have i2 : ((s[s.size - 1].toNat : Int) != 34) = true := by rw [bne, i0]; rfl
    clear q1
    go_wp2_with fail
    refine bodyPost_ret (results_pair rfl _ _ w.heap.size 26 _ (0, 0) _ rfl (put2 HW.out.res _ _) Try.underlying26 rfl infoRTagSize) rfl ?_
    exact ⟨by rw [HN.out]; rfl, put2_below HW.out.below (Nat.le_refl _) _ _⟩
  replace HP0 := Lib.hid (show R = Option.map (fun t => (false, t)) (if (inner s.data.toList).all tagByte then some (inner s.data.toList) else none) from by rw [HP0.out, body_both z0 q0 q1])
  go_wp2_with fail
  go_loop [5] (fun v => ∃ k : Nat, 1 ≤ k ∧ k ≤ s.size - 1 ∧ v = .int .i64 (k : Int) ∧ Hid (((inner s.data.toList).take (k - 1)).all tagByte = true)) (fun v => s.size - (intOf v).toNat)
  case atStart => exact ⟨1, by omega, by omega, rfl, Lib.hid rfl⟩
  case round =>
    obtain ⟨k, hk1, hk, rfl, HAL⟩ := hrel
    by_cases hlt2 : k < s.size - 1
    · have hks : k < s.size := by omega
      have hki : (k : Int) < (s.size : Int) - 1 := by omega
      cases ht : tagByte s[k] with
      | true =>
        have HA := Lib.hid (show ((inner s.data.toList).take (k + 1 - 1)).all tagByte = true from by rw [inner_step s k hk1 hlt2, HAL.out, ht]; rfl)
        obtain ⟨m1, m2, m3, m4, m5, m6, m7⟩ := ref_ok ht
        clear ht
        go_wp2_with fail
        go_round
        case rel => exact ⟨k + 1, by omega, by omega, by go_num, HA⟩
        case measure => simp [intOf]; omega
      | false =>
        have HN := Lib.hid (show R = none from by rw [HP0.out, inner_bad s k hk1 hlt2 ht]; rfl)
        have hbad := ref_bad ht
        clear ht
        rcases hbad with m1 | ⟨m1, m2⟩
        · go_wp2_with fail
          refine bodyPost_ret (results_pair rfl _ _ w.heap.size 26 _ (0, 0) _ rfl (put2 HW.out.res _ _) Try.underlying26 rfl infoRTagSize) rfl ?_
          exact ⟨by rw [HN.out]; rfl, put2_below HW.out.below (Nat.le_refl _) _ _⟩
        · rcases m2 with m2 | m2 | m2
          all_goals
            go_wp2_with fail
            refine bodyPost_ret (results_pair rfl _ _ w.heap.size 26 _ (0, 0) _ rfl (put2 HW.out.res _ _) Try.underlying26 rfl infoRTagSize) rfl ?_
            exact ⟨by rw [HN.out]; rfl, put2_below HW.out.below (Nat.le_refl _) _ _⟩
    · obtain rfl : k = s.size - 1 := by omega
      have HV := Lib.hid (show R = some (false, (s.extract 1 (s.size - 1)).data.toList) from by rw [HP0.out, inner_done s HAL.out, inner_ext]; rfl)
      obtain ⟨z9, hz9⟩ : ∃ z9, z9 = s.extract 1 (s.size - 1) := ⟨_, rfl⟩
      have hsl := fun W => slice_in s W z0
      rw [← hz9] at HV
      simp only [← hz9] at hsl
      clear hlt2 HAL HP0 hz9
      go_upto_region 13 with fail
      have hr2 : (W.setCell ⟨w.heap.size + 1, 1, none⟩ (.string z9)).heap[w.heap.size + 1]? = some (.cells #[.bool false, .string z9] 26 (0, 0)) := by
        rw [heap_put HW.out.tag 1]; rfl
      have hr1 : (W.setCell ⟨w.heap.size + 1, 1, none⟩ (.string z9)).heap[w.heap.size]? = some (rcells false) := by
        rw [← HW.out.res]; simp [World.setCell, Array.getElem?_modify]
      have hbb : Below w.heap.size w (W.setCell ⟨w.heap.size + 1, 1, none⟩ (.string z9)) := HW.out.below.setCell (p := ⟨w.heap.size + 1, 1, none⟩) (by show w.heap.size ≤ w.heap.size + 1; omega) _
      obtain ⟨V, hV⟩ : ∃ V, V = W.setCell ⟨w.heap.size + 1, 1, none⟩ (.string z9) := ⟨_, rfl⟩
      rw [← hV] at hr1 hr2 hbb ⊢
      clear hV c0 c1 d0 d1 g0 g1 k0 k1 HW
      have c0 := free hr1 0
      have c1 := free hr1 1
      have d0 := two0 hr1
      have d1 := two1 hr1
      have k0 := two0 hr2
      have k1 := two1 hr2
      go_wp2_with fail
      refine bodyPost_ret (results_pair rfl _ _ w.heap.size 26 _ (0, 0) _ rfl (put2 hr1 _ _) Try.underlying26 rfl infoRTagSize) rfl ?_
      exact ⟨by rw [HV.out]; rfl, put2_below hbb (Nat.le_refl _) _ _⟩
set_option maxHeartbeats 4000000 in
theorem rway_second (s : ByteArray) (w : World) (hs : s.size ≤ 140737488355328) (h2 : 2 < s.size) (h0 : s[0] = 87) (h1 : s[1] ≠ 47) :
    Calls Try.prog 6 #[.string s] w fun e w' => e = .returned (rtagVal (parseTag s.data.toList)) ∧ Below w.heap.size w w' := by
  obtain ⟨hf, hr⟩ := flag_no s (fun _ _ h => absurd h h1)
  have i9 : ((s[1].toNat : Int) == 47) = false := ne_int h1
  have i8 : ¬ (s[1].toNat : Int) = 47 := ne_prop h1
  clear h1
  have HP1 := Lib.hid (show parseTag s.data.toList = (body (s).data.toList).map fun t => (false, t) from by rw [parse_rest, hf, hr])
  have hqs : (s).size ≤ s.size := by simp
  have HW := Lib.hid (RW.new w false)
  clear hf hr
  obtain ⟨R, hR⟩ : ∃ R, R = parseTag s.data.toList := ⟨_, rfl⟩
  rw [← hR] at HP1 ⊢
  clear hR
  go_enter Try.func6, Try.ntmps6
  go_upto_region 5 with fail
  obtain ⟨W, hW⟩ : ∃ W, W = (w.alloc (rcells false)).alloc (rcells false) := ⟨_, rfl⟩
  rw [← hW] at HW ⊢
  clear hW
  have HP0 := Lib.hid HP1.out
  clear HP1
  have c0 := free HW.out.res 0
  have c1 := free HW.out.res 1
  have d0 := two0 HW.out.res
  have d1 := two1 HW.out.res
  have hlt := block_lt HW.out.tag
  have g0 := free HW.out.tag 0
  have g1 := free HW.out.tag 1
  have k0 := two0 HW.out.tag
  have k1 := two1 HW.out.tag
  by_cases z : s.size < 2
  · exfalso; omega
  have z0 : 2 ≤ s.size := by omega
  have z1 : 0 < s.size := by omega
  by_cases q0 : s[0] = 34
  case neg =>
    have HN := Lib.hid (show R = none from by rw [HP0.out, body_head z1 q0]; rfl)
    have i0 := ne_int q0
    replace i0 : ((s[0].toNat : Int) == 34) = false := i0
    have i1 : ¬ (s[0].toNat : Int) = 34 := ne_prop q0
    have i2 : ((s[0].toNat : Int) != 34) = true := by rw [bne, i0]; rfl
    clear q0
    go_wp2_with fail
    refine bodyPost_ret (results_pair rfl _ _ w.heap.size 26 _ (0, 0) _ rfl (put2 HW.out.res _ _) Try.underlying26 rfl infoRTagSize) rfl ?_
    exact ⟨by rw [HN.out]; rfl, put2_below HW.out.below (Nat.le_refl _) _ _⟩
  exact absurd (h0.symm.trans q0) (by decide)
theorem refParse_any (s : ByteArray) (w : World) (hs : s.size ≤ 140737488355328) :
    Calls Try.prog 6 #[.string s] w fun e w' => e = .returned (rtagVal (parseTag s.data.toList)) ∧ Below w.heap.size w w' := by
  by_cases h2 : 2 < s.size
  · by_cases h0 : s[0] = 87
    · by_cases h1 : s[1] = 47
      · exact rway_yes s w hs h2 h0 h1
      · exact rway_second s w hs h2 h0 h1
    · exact rway_first s w hs h2 h0
  · exact rway_short s w hs (by omega)
end Go.Proofs.Ytledjiikpajdaaa.Vd
