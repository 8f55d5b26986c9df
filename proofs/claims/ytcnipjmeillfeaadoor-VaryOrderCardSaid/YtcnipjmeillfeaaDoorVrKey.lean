/-
  vary.Key's closure, and vary.Key: what they return. Conditions: fields of at most 2^20 bytes in all, names of at most 2^20 bytes each, at most 2^20 of them; the table of powers of ten.
-/
import Derived.Test.YtcnipjmeillfeaaDoorVrMath
import Derived.Test.YtcnipjmeillfeaaDoorFdGet
import Derived.Test.YtcnipjmeillfeaaDoorHdStrs
import Derived.Test.YtcnipjmeillfeaaDoorLnItoa
import Derived.Test.YtcnipjmeillfeaaDoorTabs
import Derived.Lib.ItoaNum
namespace Go.Proofs.YtcnipjmeillfeaaDoor.Vr
open Go.RowKit Go.Proofs.YtcnipjmeillfeaaDoor.Tk Go.Proofs.YtcnipjmeillfeaaDoor.Fd Go.Proofs.YtcnipjmeillfeaaDoor.Ct Go.Proofs.YtcnipjmeillfeaaDoor.Hd
set_option linter.unusedVariables false

/-! Texts one behind the other. -/
def glue (xs : List ByteArray) : Bs := xs.flatMap fun x => x.data.toList
theorem glue_cons (x : ByteArray) (xs : List ByteArray) : glue (x :: xs) = x.data.toList ++ glue xs := rfl
theorem glue_next (xs : List ByteArray) (k : Nat) (h : k < xs.length) : glue (xs.take (k + 1)) = glue (xs.take k) ++ xs[k].data.toList := by
  unfold glue; rw [take_next xs k h, List.flatMap_append]; simp
theorem glue_take (xs : List ByteArray) (k : Nat) : (glue (xs.take k)).length ≤ (glue xs).length := by
  have h : glue xs = glue (xs.take k) ++ glue (xs.drop k) := by unfold glue; rw [← List.flatMap_append, List.take_append_drop]
  rw [h, List.length_append]; omega
theorem glue_at (xs : List ByteArray) (k : Nat) (h : k < xs.length) : (glue (xs.take k)).length + xs[k].size ≤ (glue xs).length := by
  have h1 := glue_take xs (k + 1)
  rw [glue_next xs k h, List.length_append] at h1
  have h2 : xs[k].data.toList.length = xs[k].size := by rw [Array.length_toList]; rfl
  omega
theorem other_texts {b : Nat} {w w' : World} (h : Lib.OthersKept 5 (some b) w w') {g : Nat} {cs : Array Value} (hg : w.heap[g]? = some (.cells cs 9 (0, 0))) (hb : g ≠ b) : w'.heap[g]? = some (.cells cs 9 (0, 0)) :=
  h g _ hg (by intro e; injection e with e; exact hb e) (fun c fz e => by injection e with _ e _; exact absurd e (by decide))
theorem texts_at {w : World} {g : Nat} {xs : List ByteArray} (h : w.heap[g]? = some (.cells (xs.map Value.string).toArray 9 (0, 0))) (k : Nat) (hk : k < xs.length) : w.cell? ⟨g, k, none⟩ = some (.string xs[k]) := by
  rw [Lib.cell_of_heap h]
  simp [hk]

set_option maxHeartbeats 4000000 in
theorem put_any (B b g cap : Nat) (l : Bs) (xs : List ByteArray) (w : World) (hI : Lib.IsBuilderF 50 5 B b (Lib.byteCells l) w) (hg : w.heap[g]? = some (.cells (xs.map Value.string).toArray 9 (0, 0)))
    (hgb : g ≠ b) (hlen : l.length + (glue xs).length ≤ 140737488355328) (hn : xs.length ≤ 10) (hBw : B ≤ w.heap.size) :
    Calls Tryd.prog 19 #[.slice (some ⟨g, 0, none⟩) xs.length cap, .pointer (some ⟨b, 0, none⟩)] w fun e w' => e = .returned (.tuple #[]) ∧ Lib.IsBuilderF 50 5 B b (Lib.byteCells (l ++ glue xs)) w' ∧ Below B w w' := by
  have HI := Lib.hid hI
  have HG := Lib.hid hg
  clear hI hg
  go_enter Tryd.func19, Tryd.ntmps19
  go_wp2_with fail
  go_loopw [7] (fun i wr => ∃ k : Nat, k ≤ xs.length ∧ i = .int .i64 (k : Int) ∧ Lib.IsBuilderF 50 5 B b (Lib.byteCells (l ++ glue (xs.take k))) wr ∧
    wr.heap[g]? = some (.cells (xs.map Value.string).toArray 9 (0, 0)) ∧ Below B w wr) (fun i _ => xs.length - (intOf i).toNat)
  case atStart => exact ⟨0, Nat.zero_le _, rfl, by simpa [glue] using HI.out, HG.out, Below.refl _ _⟩
  case round =>
    obtain ⟨k, hk, rfl, hIk, hgk, hB⟩ := hrel
    have HIk := Lib.hid hIk
    have HGk := Lib.hid hgk
    clear hIk hgk HI HG
    have hsz := hB.size
    by_cases hlt2 : k < xs.length
    · have c1 := texts_at HGk.out k hlt2
      have hat := glue_at xs k hlt2
      have HN := Lib.hid (glue_next xs k hlt2)
      obtain ⟨x, hx⟩ : ∃ x, x = xs[k] := ⟨_, rfl⟩
      obtain ⟨m, hm⟩ : ∃ m, m = l ++ glue (xs.take k) := ⟨_, rfl⟩
      have hml : m.length = l.length + (glue (xs.take k)).length := by rw [hm, List.length_append]
      rw [← hm] at HIk
      rw [← hx] at c1 hat HN
      have HM := Lib.hid hm
      clear hx hm
      go_wp2_with fail
      refine (writeString_any B b _ x _ HIk.out (by rw [cells_len]; omega) (by omega)).mono ?_
      rintro e w2 ⟨rfl, hI2, hb2, hk2⟩
      rw [cells_add] at hI2
      have HI2 := Lib.hid hI2
      have HG2 := Lib.hid (other_texts hk2 HGk.out hgb)
      have hB2 := hB.trans hb2
      clear hI2 hk2 hb2 c1 HIk HGk
      go_wp2_with fail
      go_roundw
      case rel => exact ⟨k + 1, by omega, by go_num, by rw [HN.out, ← List.append_assoc, ← HM.out]; exact .inr HI2.out, HG2.out, hB2⟩
      case measure => simp [intOf]; omega
    · have HE := Lib.hid (show xs.take k = xs from List.take_of_length_le (by omega))
      have HIe := Lib.hid (show Lib.IsBuilderF 50 5 B b (Lib.byteCells (l ++ glue xs)) wr from by have h := HIk.out; rwa [HE.out] at h)
      clear HE HIk
      go_wp2_with fail
      go_end0
      exact ⟨rfl, HIe.out, hB⟩

/-! The key. -/
theorem isB_kept {T e : TypeId} {B b : Nat} {bs : List Value} {w w' : World} (h : Lib.IsBuilderF T e B b bs w) (hb : Below w.heap.size w w') : Lib.IsBuilderF T e B b bs w' := by
  have one : ∀ p, Lib.BuilderAtF T e B b p bs w → Lib.BuilderAtF T e B b p bs w' := by
    rintro p ⟨h1, v, h2, h3, h4⟩
    refine ⟨h1, v, (hb.block b (block_lt h2)).trans h2, ⟨h3.1, ?_⟩, h4⟩
    rcases h3.2 with h5 | ⟨g, cap, cur, fz, hv, hg, hh, r⟩
    · exact .inl h5
    · exact .inr ⟨g, cap, cur, fz, hv, hg, (hb.block g (block_lt hh)).trans hh, r⟩
  exact h.elim (fun x => .inl (one _ x)) (fun x => .inr (one _ x))
def nmsL (ns : List ByteArray) : List Bs := ns.map fun x => x.data.toList
theorem key_next (fs : List Fl) (ns : List ByteArray) (k : Nat) (h : k < ns.length) :
    keyOf fs (nmsL (ns.take (k + 1))) = keyOf fs (nmsL (ns.take k)) ++ partOf ns[k].data.toList (getT fs ns[k].data.toList) (getN fs ns[k].data.toList) := by
  unfold keyOf nmsL; rw [take_next ns k h, List.map_append, List.flatMap_append]; simp
theorem dec_length {n : Nat} (h : n ≤ 9999999) : (decL n).length ≤ 7 := (decL_all 6 n (by omega)).len
theorem itoa_dec : ∀ n : Nat, Lib.decDigits n = decL n
  | n => by
    rw [Lib.decDigits, decL]
    split
    · rfl
    · rw [itoa_dec (n / 10)]; rfl
termination_by n => n
decreasing_by omega
theorem itoa_nat (n : Nat) : Lib.itoa (n : Int) = decL n := by
  unfold Lib.itoa; rw [if_neg (by omega), Int.toNat_natCast, itoa_dec]
theorem part_length (nm v : Bs) (n : Nat) (hv : v.length ≤ 2097152) : (partOf nm v n).length ≤ nm.length + v.length + 10 := by
  unfold partOf
  have := dec_length (n := v.length) (by omega)
  split <;> simp <;> omega
theorem size_list (x : ByteArray) : x.data.toList.length = x.size := by rw [Array.length_toList]; rfl
theorem key_length (fs : List Fl) (ht : tot fs ≤ 1048576) : ∀ ns : List ByteArray, (∀ s ∈ ns, s.size ≤ 1048576) → (keyOf fs (nmsL ns)).length ≤ 4194304 * ns.length
  | [], _ => by simp [keyOf, nmsL]
  | x :: r, h => by
    have ih := key_length fs ht r (fun s hs => h s (by simp [hs]))
    have e : keyOf fs (nmsL (x :: r)) = partOf x.data.toList (getT fs x.data.toList) (getN fs x.data.toList) ++ keyOf fs (nmsL r) := rfl
    have hg := getT_length fs x.data.toList
    have hp := part_length x.data.toList (getT fs x.data.toList) (getN fs x.data.toList) (by omega)
    have hx := h x (by simp)
    rw [size_list] at hp
    rw [e, List.length_append, List.length_cons]; omega
theorem part_none (nm : ByteArray) (v : Bs) : glue [nm, ⟨#[58, 45, 44]⟩] = partOf nm.data.toList v 0 := by simp [glue, partOf]
theorem part_some (nm v d : ByteArray) (n : Nat) (h : n ≠ 0) (hd : d.data.toList = decL v.data.toList.length) : glue [nm, ⟨#[58]⟩, d, ⟨#[58]⟩, v, ⟨#[44]⟩] = partOf nm.data.toList v.data.toList n := by
  unfold partOf; rw [if_neg h]; simp only [glue, List.flatMap_cons, List.flatMap_nil, hd]; simp
theorem below_grow {w : World} (k : Nat) (os : Array Obj) : Below w.heap.size w (Sort.grow (w.drewN k) os) :=
  ⟨rfl, rfl, rfl, by show w.heap.size ≤ (w.heap ++ os).size; rw [Array.size_append]; omega, fun j hj => by show (w.heap ++ os)[j]? = w.heap[j]?; rw [Array.getElem?_append_left hj]⟩
theorem itoa_any (n : Nat) (w : World) (h : n ≤ 9999999) (hP : Tb.P10 w) :
    Calls Tryd.prog 22 #[.int .i64 (n : Int)] w fun e w' => e = .returned (.string ⟨(decL n).toArray⟩) ∧ Below w.heap.size w w' :=
  (Ln.strconv_Itoa (n : Int) (by omega) (by omega) w hP).mono fun e w' ⟨he, k, os, hw⟩ => ⟨by rw [he, itoa_nat], by rw [hw]; exact below_grow k os⟩
theorem var_below {P : Program} {w w' : World} {n : String} {g C : Nat} {cs : Array Value} (h : w.var? P n = some cs) (hg : P.globalNamed n = some g) (hb : Below C w w') (hlt : g < C) : w'.var? P n = some cs := by
  unfold World.var? at h ⊢
  rw [hg] at h ⊢
  simp only [Option.bind_some] at h ⊢
  rw [hb.block g hlt]; exact h
theorem p10_lt {w : World} (h : Tb.P10 w) : 1 < w.heap.size := World.block_lt_of_cell? w _ (Lib.TabIs.cell h Tb.gPT 0 (by rw [Lib.pow10Tab_length]; omega))
theorem p10_below {C : Nat} {w w' : World} (h : Tb.P10 w) (hb : Below C w w') (hC : w.heap.size ≤ C) : Tb.P10 w' := var_below h Tb.gPT hb (Nat.lt_of_lt_of_le (p10_lt h) hC)

/-- A slice of texts, empty or not: its form, and its cells. -/
theorem strs_form {w : World} {v : Value} {ns : List ByteArray} (h : Strs w v ns) : (ns = [] ∧ ∃ a cap, v = .slice a 0 cap) ∨ ∃ b off cap, v = .slice (some ⟨b, off, none⟩) ns.length cap ∧ 0 < ns.length ∧ b < w.heap.size ∧ ∀ j (hj : j < ns.length), w.cell? ⟨b, off + j, none⟩ = some (.string ns[j]) := by
  rcases h with ⟨rfl, a, cap, hv⟩ | ⟨b, off, cap, hv, hlt, hc⟩
  · exact .inl ⟨rfl, a, cap, hv⟩
  · by_cases h0 : ns.length = 0
    · obtain rfl : ns = [] := List.length_eq_zero_iff.1 h0
      exact .inl ⟨rfl, _, cap, hv⟩
    · exact .inr ⟨b, off, cap, hv, by omega, hlt, hc⟩

set_option maxHeartbeats 4000000 in
theorem key_any (v vf : Value) (ns : List ByteArray) (fs : List Fl) (w : World) (hs : Strs w v ns) (hf : Flds w vf fs) (ht : tot fs ≤ 1048576) (hz : ∀ s ∈ ns, s.size ≤ 1048576) (hn : ns.length ≤ 1048576) (hP : Tb.P10 w) :
    Calls Tryd.prog 10 #[v, vf] w fun e w' => e = .returned (.string ⟨(keyOf fs (nmsL ns)).toArray⟩) ∧ Below w.heap.size w w' := by
  have HB0 := Lib.hid (builder_new w)
  rcases strs_form hs with ⟨rfl, a, cap, rfl⟩ | ⟨b, off, cap, rfl, h0, hlt, hc⟩
  · clear hs hf hz hn ht hP
    go_enter Tryd.func10, Tryd.ntmps10
    go_wp2_with fail
    refine wp_loop_rounds 1 ?_
    rw [rounds_succ]
    go_wp2_with fail
    refine (builder_string w.heap.size w.heap.size [] _ HB0.out (by simp)).mono ?_
    rintro e w1 ⟨rfl, hb1⟩
    go_wp2_with fail
    go_ret
    exact ⟨rfl, ((Below.refl _ _).alloc (Nat.le_refl _) _).trans hb1⟩
  · have HC := Lib.hid hc
    have HF := Lib.hid hf
    have HP := Lib.hid hP
    have HZ := Lib.hid hz
    have HKL := Lib.hid (key_length fs ht)
    clear hs hc hf hz hP
    go_enter Tryd.func10, Tryd.ntmps10
    go_wp2_with fail
    go_loopw [14] (fun i wr => ∃ k : Nat, k ≤ ns.length ∧ i = .int .i64 (k : Int) ∧
      Lib.IsBuilderF 50 5 w.heap.size w.heap.size (Lib.byteCells (keyOf fs (nmsL (ns.take k)))) wr ∧ Below w.heap.size w wr) (fun i _ => ns.length - (intOf i).toNat)
    case atStart => exact ⟨0, Nat.zero_le _, rfl, HB0.out, (Below.refl _ _).alloc (Nat.le_refl _) _⟩
    case round =>
      obtain ⟨k, hk, rfl, hI, hB⟩ := hrel
      have HI := Lib.hid hI
      clear hI HB0
      have hsz := hB.size
      have hltb : w.heap.size < wr.heap.size := by rcases HI.out with h | h <;> exact h.lt
      by_cases hlt2 : k < ns.length
      · have c1 : wr.cell? ⟨b, off + k, none⟩ = some (.string ns[k]) := (hB.cell (p := ⟨b, off + k, none⟩) hlt).trans (HC.out k hlt2)
        have hxs : ns[k].size ≤ 1048576 := HZ.out _ (List.getElem_mem hlt2)
        have hgl := getT_length fs ns[k].data.toList
        have hkl := HKL.out (ns.take k) (fun s hs => HZ.out s (List.mem_of_mem_take hs))
        have htk : (ns.take k).length ≤ k := List.length_take_le _ _
        have HN := Lib.hid (key_next fs ns k hlt2)
        have HFr := Lib.hid (HF.out.below hB (Nat.le_refl _))
        have HPr := Lib.hid (p10_below HP.out hB (Nat.le_refl _))
        obtain ⟨x, hx⟩ : ∃ x, x = ns[k] := ⟨_, rfl⟩
        rw [← hx] at c1 hxs hgl HN
        obtain ⟨K, hK⟩ : ∃ K, K = keyOf fs (nmsL (ns.take k)) := ⟨_, rfl⟩
        rw [← hK] at HI hkl HN
        obtain ⟨T, hT⟩ : ∃ T, T = getT fs x.data.toList := ⟨_, rfl⟩
        obtain ⟨n, hn'⟩ : ∃ n, n = getN fs x.data.toList := ⟨_, rfl⟩
        have hnN : n ≤ 1048576 := by have := getN_le fs x.data.toList; have := tot_len fs; omega
        rw [← hT, ← hn'] at HN
        rw [← hT] at hgl
        have HGV := Lib.hid (show getVal fs x.data.toList = .tuple #[.string ⟨T.toArray⟩, .int .i64 (n : Int)] from by unfold getVal; rw [← hT, ← hn'])
        obtain ⟨X, hX⟩ : ∃ X : ByteArray, X = ⟨T.toArray⟩ := ⟨_, rfl⟩
        have hXs : X.size = T.length := by rw [hX]; show T.toArray.size = _; rw [List.size_toArray]
        have HXD := Lib.hid (show X.data.toList = T from by rw [hX])
        rw [← hX] at HGV
        have hKb : K.length ≤ 4194304 * 1048576 := by omega
        clear hx hK hT hn' hX hkl htk HKL HC HZ HF
        go_wp2_with fail
        refine (get_any vf fs x _ HFr.out ht (by unfold maxLen; omega)).mono ?_
        rintro e w1 ⟨rfl, hb1⟩
        rw [HGV.out]
        have hB1 := hB.trans (hb1.mono hsz)
        have HI1 := Lib.hid (isB_kept HI.out hb1)
        have HP1 := Lib.hid (p10_below HPr.out hb1 (Nat.le_refl _))
        have hsz1 := hB1.size
        have hsb := hb1.size
        clear hb1 HI HPr HFr HGV c1
        by_cases h0 : n = 0
        · have HPt := Lib.hid (part_none x T)
          rw [h0] at HN
          have d0 : (n : Int) = 0 := by omega
          rw [d0]
          have HG := Lib.hid (new_block w1 (.cells #[.string x, .string ⟨#[58, 45, 44]⟩] 9))
          have hI2 := Lib.hid (HI1.out.alloc (.cells #[.string x, .string ⟨#[58, 45, 44]⟩] 9))
          have hB2 := hB1.alloc hsz1 (.cells #[.string x, .string ⟨#[58, 45, 44]⟩] 9)
          have HGL := Lib.hid (show K.length + (glue [x, ⟨#[58, 45, 44]⟩]).length ≤ 140737488355328 from by
            have e : (glue [x, ⟨#[58, 45, 44]⟩]).length = x.size + 3 := by unfold glue; simp only [List.flatMap_cons, List.flatMap_nil, List.length_append, size_list]; rfl
            omega)
          clear d0 h0 hgl hXs HXD
          go_wp2_with fail
          refine (put_any w.heap.size w.heap.size w1.heap.size 2 K [x, ⟨#[58, 45, 44]⟩] _ hI2.out HG.out (by omega) HGL.out (by simp) (by simp; omega)).mono ?_
          rintro e w2 ⟨rfl, hI3, hb3⟩
          have hB3 := hB2.trans hb3
          rw [HPt.out, ← HN.out] at hI3
          have HI3 := Lib.hid hI3
          clear hI3 hb3 hB2
          go_wp2_with fail
          go_roundw
          case rel => exact ⟨k + 1, by omega, by go_num, HI3.out, hB3⟩
          case measure => simp [intOf]; omega
        · have d0 : ((n : Int) == 0) = false := by rw [beq_eq_false_iff_ne]; omega
          obtain ⟨D, hD⟩ : ∃ D : ByteArray, D = ⟨(decL X.size).toArray⟩ := ⟨_, rfl⟩
          have HD := Lib.hid (show Calls Tryd.prog 22 #[.int .i64 (X.size : Int)] w1 fun e w' => e = .returned (.string D) ∧ Below w1.heap.size w1 w' from by rw [hD]; exact itoa_any X.size w1 (by omega) HP1.out)
          have hDs : D.size ≤ 7 := by rw [hD]; show (decL X.size).toArray.size ≤ _; rw [List.size_toArray]; exact dec_length (by omega)
          have HPt := Lib.hid (show glue [x, ⟨#[58]⟩, D, ⟨#[58]⟩, X, ⟨#[44]⟩] = partOf x.data.toList T n from by
            rw [part_some x X D n h0 (by rw [hD, HXD.out, hXs]), HXD.out])
          have HGL := Lib.hid (show K.length + (glue [x, ⟨#[58]⟩, D, ⟨#[58]⟩, X, ⟨#[44]⟩]).length ≤ 140737488355328 from by
            have e : (glue [x, ⟨#[58]⟩, D, ⟨#[58]⟩, X, ⟨#[44]⟩]).length = x.size + (1 + (D.size + (1 + (X.size + 1)))) := by unfold glue; simp only [List.flatMap_cons, List.flatMap_nil, List.length_append, size_list]; rfl
            omega)
          have hXb : X.size ≤ 2097152 := by omega
          clear hD h0 hgl hXs HXD HP1
          go_wp2_with fail
          refine HD.out.mono ?_
          rintro e w2 ⟨rfl, hb2⟩
          have hB2 := hB1.trans (hb2.mono hsz1)
          have HI2 := Lib.hid (isB_kept HI1.out hb2)
          have hsz2 := hB2.size
          have hsb2 := hb2.size
          have HG := Lib.hid (new_block w2 (.cells #[.string x, .string ⟨#[58]⟩, .string D, .string ⟨#[58]⟩, .string X, .string ⟨#[44]⟩] 9))
          have hI2 := Lib.hid (HI2.out.alloc (.cells #[.string x, .string ⟨#[58]⟩, .string D, .string ⟨#[58]⟩, .string X, .string ⟨#[44]⟩] 9))
          have hB2' := hB2.alloc hsz2 (.cells #[.string x, .string ⟨#[58]⟩, .string D, .string ⟨#[58]⟩, .string X, .string ⟨#[44]⟩] 9)
          clear hb2 hB2 HI2 HI1 HD hB1
          go_wp2_with fail
          refine (put_any w.heap.size w.heap.size w2.heap.size 6 K [x, ⟨#[58]⟩, D, ⟨#[58]⟩, X, ⟨#[44]⟩] _ hI2.out HG.out (by omega) HGL.out (by simp) (by simp; omega)).mono ?_
          rintro e w3 ⟨rfl, hI3, hb3⟩
          have hB3 := hB2'.trans hb3
          rw [HPt.out, ← HN.out] at hI3
          have HI3 := Lib.hid hI3
          clear hI3 hb3 hB2'
          go_wp2_with fail
          go_roundw
          case rel => exact ⟨k + 1, by omega, by go_num, HI3.out, hB3⟩
          case measure => simp [intOf]; omega
      · have HE := Lib.hid (show ns.take k = ns from List.take_of_length_le (by omega))
        rw [HE.out] at HI
        clear HE
        go_wp2_with fail
        refine (builder_string w.heap.size w.heap.size _ _ HI.out hsz).mono ?_
        rintro e w1 ⟨rfl, hb1⟩
        have hB1 := hB.trans hb1
        go_wp2_with fail
        go_ret
        exact ⟨rfl, hB1⟩
end Go.Proofs.YtcnipjmeillfeaaDoor.Vr
