/-
  Texts that the laws' proofs stand on, 10 of them in one file; each one's head says what it proves and under which condition.
-/
import Derived.Test.YtcolnidgembniaaGreatDoorMsAllP4
import Derived.RegionTactic
import Derived.Deep.DeepCutAuto
import Derived.Test.YtcolnidgembniaaGreatDoorMsAllP2
import Derived.Test.YtcolnidgembniaaGreatDoorMsAllP3
import Derived.Lib.SlBytesConst
import Derived.Laws.EntriesVeiled
import Derived.Deep.WholeRow
import Derived.Deep.RegionWith
import Derived.Deep.QuietTactic
import Derived.BigQuiet
import Derived.Deep.AppendSrc
/-
  A decoder's size: what it returns and leaves. Conditions: strconv.ErrSyntax holds an error; a text below 2^32 bytes.
-/
namespace Go.Proofs.YtcolnidgembniaaGreatDoor.Fr
open Go.RowKit Go.Proofs.YtcolnidgembniaaGreatDoor.Tk Go.Proofs.YtcolnidgembniaaGreatDoor.Fd Go.Proofs.YtcolnidgembniaaGreatDoor.Hd
set_option linter.unusedVariables false

theorem At.below {w w' : World} {O : Nat → Prop} {g : Nat} {v : Value} {s : St} (h : At w O g v s) (hb : Below w.heap.size w w') : At w' O g v s :=
  ⟨Bl.old hb (block_lt h.blk) h.blk, row_chg h.own (Chg.of_below (O := fun _ => False) hb) h.ov (fun _ _ hf => hf), h.non, h.og, h.ov⟩
set_option maxRecDepth 100000 in
set_option maxHeartbeats 4000000 in
theorem size_any (O : Nat → Prop) (g m : Nat) (v : Value) (t : Bs) (w : World) (h : At w O g v (.size m [])) (hm : m ≤ 1048576) (ht : t.length ≤ 4294967280) (hE : ErrV w) :
    Calls Tryz.prog 127 #[.pointer (some ⟨g, 0, none⟩), .string (txt t)] w (LinePost O g (.size m []) v t w) := by
  have HS := Lib.hid (chunkSize_any t w ht hE)
  have HZ := Lib.hid (show ended (.size m []) t = sizeSt m (sizeOf t) from rfl)
  have HA := Lib.hid h
  have hgl := block_lt h.blk
  obtain ⟨T, hT⟩ : ∃ T, T = txt t := ⟨_, rfl⟩
  rw [← hT] at HS ⊢
  clear hT h hE ht
  go_enter Tryz.func127, Tryz.ntmps127
  go_wp2_with fail
  refine HS.out.mono ?_
  rintro e w1 ⟨hb, hr⟩
  have HA1 := Lib.hid (HA.out.below hb)
  have HB1 := Lib.hid (show Chg (New O w) w w1 from Chg.of_below hb)
  have HK := Lib.hid (show w1.heap[g]? = w.heap[g]? from hb.block g hgl)
  clear hb
  have c2 : w1.cell? ⟨g, 2, none⟩ = some (.int .i64 (m : Int)) := dc2 HA1.out.blk
  rcases hr with ⟨hn, rfl⟩ | ⟨n, hn, hn4, rfl⟩
  · have HN := Lib.hid (show ended (.size m []) t = .bad 32 from by rw [HZ.out, hn]; rfl)
    clear hn c2
    go_wp2_with fail
    go_ret
    exact ⟨32, rfl, HB1.out, fun h => by omega, fun _ => ⟨HN.out, HK.out⟩⟩
  · have c0 := dc0 HA1.out.blk
    have c1 := dc1 HA1.out.blk
    have f0 := free HA1.out.blk 0
    have f1 := free HA1.out.blk 1
    have f2 := free HA1.out.blk 2
    by_cases hmn : m < n
    · have HN := Lib.hid (show ended (.size m []) t = .bad 3 from by rw [HZ.out, hn]; show (if n = 0 then St.trail m [] else if m < n then .bad 3 else .chunk (m - n) n) = _; rw [if_neg (by omega), if_pos hmn])
      clear hn c0 c1 f0 f1 f2
      go_wp2_with fail
      go_ret
      exact ⟨3, rfl, HB1.out, fun h => by omega, fun _ => ⟨HN.out, HK.out⟩⟩
    · by_cases h0 : n = 0
      · subst h0
        have HN := Lib.hid (show ended (.size m []) t = .trail m [] from by rw [HZ.out, hn]; rfl)
        have hb := dc_put0 HA1.out.blk 6
        have hc : ∀ x, Chg (fun k => k = g) w1 (w1.setCell ⟨g, 0, none⟩ x) := fun x => (Chg.refl (fun k => k = g) w1).put ⟨g, 0, none⟩ x (.inl rfl)
        have HD := Lib.hid (dec_next (s' := .trail m []) HA1.out (hc _) hb rfl rfl)
        have HC := Lib.hid (fun x => HB1.out.trans (hc x) (fun k hk => .inl (.inl (by subst hk; exact HA1.out.og))))
        clear hn c1 f1 f2 hb hc hmn hn4
        go_wp2_with fail
        go_ret
        exact ⟨0, rfl, HC.out _, fun _ => by rw [HN.out]; exact HD.out, fun h => (h rfl).elim⟩
      · have HN := Lib.hid (show ended (.size m []) t = .chunk (m - n) n from by rw [HZ.out, hn]; show (if n = 0 then St.trail m [] else if m < n then .bad 3 else .chunk (m - n) n) = _; rw [if_neg h0, if_neg hmn])
        obtain ⟨x1, hx1⟩ : ∃ x1, x1 = (w1.setCell ⟨g, 0, none⟩ (.int .i64 4)).setCell ⟨g, 1, none⟩ (.int .i64 (n : Int)) := ⟨_, rfl⟩
        have hb1 : x1.heap[g]? = some (.cells (dc 4 n m v 0) 149 (0, 0)) := by rw [hx1]; exact dc_put1 (dc_put0 HA1.out.blk 4) n
        have e1 := dc1 hb1
        have e2 := dc2 hb1
        have g2 := free hb1 2
        have hc1 : Chg (fun k => k = g) w1 x1 := by rw [hx1]; exact ((Chg.refl (fun k => k = g) w1).put ⟨g, 0, none⟩ _ (.inl rfl)).put ⟨g, 1, none⟩ _ (.inl rfl)
        have hcast : ((m - n : Nat) : Int) = (m : Int) - (n : Int) := by omega
        have hb2 := dc_put2 hb1 (m - n)
        have hc2 := (hc1.put ⟨g, 2, none⟩ (.int .i64 ((m - n : Nat) : Int)) (.inl rfl)).drew
        have hb2d : (x1.setCell ⟨g, 2, none⟩ (.int .i64 ((m - n : Nat) : Int))).drew.heap[g]? = some (.cells (dc 4 n (m - n) v 0) 149 (0, 0)) := hb2
        have HD := Lib.hid (dec_next (s' := .chunk (m - n) n) HA1.out hc2 hb2d rfl rfl)
        have HC := Lib.hid (HB1.out.trans hc2 (fun k hk => .inl (.inl (by subst hk; exact HA1.out.og))))
        rw [hcast] at HD HC
        have HX1 := Lib.hid hx1
        have hn0 : 0 < n := by omega
        have hnm : n ≤ m := by omega
        clear hn hmn h0 hcast hb1 hb2 hc1 hc2 hb2d hx1
        go_upto_region 10 with fail
        rw [← HX1.out]
        clear c0 c1 c2 f0 f1 f2
        go_region
        go_wp2_with fail
        go_ret
        exact ⟨0, rfl, HC.out, fun _ => by rw [HN.out]; exact HD.out, fun h => (h rfl).elim⟩
end Go.Proofs.YtcolnidgembniaaGreatDoor.Fr
/-
  bytes.TrimSuffix at a suffix of one byte; bytes.IndexByte at a byte 10: what each returns. No condition but what a slice can have.
-/
namespace Go.Proofs.YtcolnidgembniaaGreatDoor.Hd
open Go.RowKit Go.Proofs.YtcolnidgembniaaGreatDoor.Tk Go.Proofs.YtcolnidgembniaaGreatDoor.Fd
set_option linter.unusedVariables false

theorem bytesOf_map (l : Bs) : Lib.bytesOf (l.map fun c => (c.toNat : Int)) = l := by
  induction l with
  | nil => rfl
  | cons c r ih => simp [Lib.bytesOf] at ih ⊢; exact ih
/-- Bytes without a byte at their end. -/
def cutEnd (c : UInt8) (l : Bs) : Bs := if l.getLast? = some c then l.dropLast else l
theorem cutEnd_own (l : Bs) : cutEnd 13 l = own l := rfl
theorem cutEnd_snoc (c : UInt8) (l : Bs) : cutEnd c (l ++ [c]) = l := by unfold cutEnd; simp
theorem cutEnd_take (c : UInt8) (l : Bs) : cutEnd c l = l.take (cutEnd c l).length := by
  unfold cutEnd; split
  · rw [List.length_dropLast, List.dropLast_eq_take]
  · rw [List.take_length]
theorem cutEnd_le (c : UInt8) (l : Bs) : (cutEnd c l).length ≤ l.length := by
  unfold cutEnd; split
  · rw [List.length_dropLast]; omega
  · exact Nat.le_refl _
theorem suffix_one (l : Bs) (c : UInt8) : Lib.hasSuffix l [c] = decide (l.getLast? = some c) := by
  rw [Bool.eq_iff_iff, decide_eq_true_eq]
  unfold Lib.hasSuffix
  rw [List.isSuffixOf_iff_suffix]
  constructor
  · rintro ⟨t, rfl⟩; simp
  · intro h
    rcases snoc_cases l with rfl | ⟨i, d, rfl⟩
    · simp at h
    · simp at h; subst h; exact ⟨i, rfl⟩
theorem Holds_take {w : World} {b off : Nat} {l : Bs} (h : Holds w b off l) (k : Nat) : Holds w b off (l.take k) := by
  intro j hj
  have hj' : j < l.length := by rw [List.length_take] at hj; omega
  rw [h j hj', List.getElem_take]

theorem trimsuf_any (b off cap : Nat) (l : Bs) (q : Nat) (c : UInt8) (w : World) (hc : l.length ≤ cap) (hm : cap ≤ maxLen) (h : Holds w b off l) (hq : w.cell? ⟨q, 0, none⟩ = some (.int .u8 (c.toNat : Int))) :
    Calls Tryz.prog 114 #[.slice (some ⟨b, off, none⟩) l.length cap, .slice (some ⟨q, 0, none⟩) 1 1] w fun e w' => e = .returned (.slice (some ⟨b, off, none⟩) (cutEnd c l).length cap) ∧ w = w' := by
  refine (Ln.bytes_TrimSuffix_all (some ⟨b, off, none⟩) (some ⟨q, 0, none⟩) l.length cap 1 1 (l.map fun c => (c.toNat : Int)) [(c.toNat : Int)] w (by simp) rfl hc (by unfold maxLen at hm; omega)
    (.of_cells fun i hi => ?_) (.of_cells fun i hi => ?_)).mono ?_
  · rw [Addr.add_lit, h i hi]; simp [hi]
  · have : i = 0 := by omega
    subst this; rw [Addr.add_lit]; simpa using hq
  · rintro e w' ⟨rfl, rfl⟩
    refine ⟨?_, rfl⟩
    have e1 : Lib.bytesOf [(c.toNat : Int)] = [c] := bytesOf_map [c]
    show Ending.returned (Lib.bytesTrimSuffix b off l.length cap _ _) = _
    unfold Lib.bytesTrimSuffix
    rw [bytesOf_map, e1, suffix_one]
    unfold cutEnd Lib.sliceTo
    by_cases hl : l.getLast? = some c
    · simp [hl]
    · simp [hl]

/-- Where the first byte 10 stands; the length, if there is none. -/
def nl : Bs → Nat
  | [] => 0
  | c :: r => if c = 10 then 0 else nl r + 1
theorem nl_le (l : Bs) : nl l ≤ l.length := by
  induction l with
  | nil => exact Nat.le_refl _
  | cons c r ih => unfold nl; split <;> simp; omega
theorem nl_at (l : Bs) (h : nl l < l.length) : l[nl l] = 10 := by
  induction l with
  | nil => simp at h
  | cons c r ih =>
    by_cases hc : c = 10
    · simp [nl, hc]
    · have h' : nl r < r.length := by simp [nl, hc] at h; omega
      simp [nl, hc, ih h']
theorem nl_before (l : Bs) : ∀ c ∈ l.take (nl l), c ≠ 10 := by
  induction l with
  | nil => simp
  | cons c r ih =>
    by_cases hc : c = 10
    · simp [nl, hc]
    · simp only [nl, hc, if_false, List.take_succ_cons]
      intro d hd
      rcases List.mem_cons.1 hd with rfl | hd
      · exact hc
      · exact ih d hd
theorem nl_index (l : Bs) : Lib.indexByte l 10 = if nl l < l.length then (nl l : Int) else -1 := by
  induction l with
  | nil => simp [Lib.indexByte, nl]
  | cons c r ih =>
    unfold Lib.indexByte nl
    by_cases hc : c = 10
    · simp [hc]
    · have hb : (c == 10) = false := by simpa using hc
      rw [if_neg hc, hb, ih, List.length_cons]
      by_cases h : nl r < r.length
      · have h2 : nl r + 1 < r.length + 1 := by omega
        have h3 : ((nl r : Int) == -1) = false := by rw [beq_eq_false_iff_ne]; omega
        rw [if_pos h, if_pos h2, h3]; simp
      · have h2 : ¬ nl r + 1 < r.length + 1 := by omega
        rw [if_neg h, if_neg h2]; rfl
theorem nl_none {l : Bs} (h : ¬ nl l < l.length) : ∀ c ∈ l, c ≠ 10 := by
  have := nl_before l
  rwa [List.take_of_length_le (by omega)] at this
/-- The first byte 10 of a beginning, in the whole. -/
theorem nl_split {b : Bs} {m : Nat} (h : nl (b.take m) < (b.take m).length) :
    b = b.take (nl (b.take m)) ++ 10 :: b.drop (nl (b.take m) + 1) ∧ (∀ c ∈ b.take (nl (b.take m)), c ≠ 10) ∧ nl (b.take m) < m ∧ nl (b.take m) < b.length := by
  have h1 := nl_at _ h
  have h2 := nl_before (b.take m)
  have hl : (b.take m).length = min m b.length := List.length_take
  have hb : nl (b.take m) < b.length := by omega
  rw [List.getElem_take] at h1
  rw [List.take_take, Nat.min_eq_left (by omega)] at h2
  refine ⟨?_, h2, by omega, hb⟩
  rw [← h1, List.getElem_cons_drop]
  exact (List.take_append_drop _ _).symm

theorem idx10_any (b off cap : Nat) (l : Bs) (w : World) (h : Holds w b off l) :
    Calls Tryz.prog 77 #[.slice (some ⟨b, off, none⟩) l.length cap, .int .u8 10] w fun e w' => e = .returned (.int .i64 (Lib.indexByte l 10)) ∧ w = w' := by
  refine (Ln.bytes_IndexByte b off l.length cap (l.map fun c => (c.toNat : Int)) 10 w (by simp) ?_).mono ?_
  · intro i hi
    rw [h i hi]
    simp [hi]
  · rintro e w' ⟨rfl, rfl⟩
    rw [bytesOf_map]
    exact ⟨rfl, rfl⟩

end Go.Proofs.YtcolnidgembniaaGreatDoor.Hd
/-
  A decoder's end: what it leaves. Conditions: a line of at most 1025 bytes; the tables.
-/
namespace Go.Proofs.YtcolnidgembniaaGreatDoor.Fr
open Go.RowKit Go.Proofs.YtcolnidgembniaaGreatDoor.Tk Go.Proofs.YtcolnidgembniaaGreatDoor.Fd Go.Proofs.YtcolnidgembniaaGreatDoor.Hd
set_option linter.unusedVariables false

def emptied : St → St
  | .size m _ => .size m []
  | .gap m _ => .gap m []
  | .trail m _ => .trail m []
  | s => s
theorem ended_emptied (s : St) (t : Bs) : ended (emptied s) t = ended s t := by cases s <;> rfl
theorem own_take (l : Bs) : own l = l.take (own l).length := cutEnd_take 13 l
theorem row_cut {w : World} {q n C : Nat} {l : Bs} (h : OwnB w (.slice (some ⟨q, 0, none⟩) n C) l) : OwnB w (.slice (some ⟨q, 0, none⟩) 0 C) [] := by
  refine ⟨by simp [bys], .inr ?_⟩
  rcases h.2 with ⟨hv, _⟩ | ⟨g, cap, cur, hv, hg, hh, hlc, hcm, hcs, htk⟩
  · cases hv
  · injection hv with h1 h2 h3
    injection h1 with h1
    injection h1 with h1
    subst h1 h3
    exact ⟨q, C, cur, rfl, hg, hh, Nat.zero_le _, hcm, hcs, by simp [bys]⟩
theorem num_emptied {s : St} {l : Bs} (h : lineOf s = some l) : num1 (emptied s) = num1 s ∧ num2 (emptied s) = 0 ∧ num2 s = 0 ∧ num3 (emptied s) = num3 s ∧ errOf (emptied s) = 0 ∧ errOf s = 0 ∧ text (emptied s) = [] ∧ text s = l ∧ lined (emptied s) = true := by
  cases s <;> first | (injection h with h; subst h; exact ⟨rfl, rfl, rfl, rfl, rfl, rfl, rfl, rfl, rfl⟩) | cases h
theorem At.cut {w : World} {O : Nat → Prop} {g q m C : Nat} {s : St} {l : Bs} (h : At w O g (.slice (some ⟨q, 0, none⟩) m C) s) (hl : lineOf s = some l) :
    At (w.setCell ⟨g, 3, none⟩ (.slice (some ⟨q, 0, none⟩) 0 C)) O g (.slice (some ⟨q, 0, none⟩) 0 C) (emptied s) := by
  obtain ⟨e1, e2, e2', e3, e4, e4', e5, e6, e7⟩ := num_emptied hl
  have hb := h.blk
  rw [e2', e4'] at hb
  refine ⟨(by rw [e1, e2, e3, e4]; exact dc_put3 hb _), ?_, fun hf => (by rw [e7] at hf; cases hf), h.og, h.ov⟩
  rw [e5]
  refine row_same (row_cut h.own) fun k hk => ?_
  obtain ⟨cu, hcu⟩ := row_type h.own (k := k) hk
  exact put_far rfl (by show k ≠ g; exact apart_of hcu h.blk (by decide))
theorem At.same {w : World} {O : Nat → Prop} {g : Nat} {s : St} (h : At w O g (.slice none 0 0) s) (hl : lineOf s = some []) : emptied s = s := by
  cases s <;> first | (injection hl with hl; subst hl; rfl) | cases hl
def EndLPost (O : Nat → Prop) (g : Nat) (st : St) (w : World) (e : Ending) (w' : World) : Prop := e = .returned (.tuple #[]) ∧ Dec w' (New O w) g st ∧ Chg O w w'
theorem new_size {O : Nat → Prop} {a b : World} (hs : a.heap.size ≤ b.heap.size) (k : Nat) (h : New O b k) : New O a k := by
  rcases h with h | h
  · exact .inl h
  · exact .inr (by omega)
theorem tab_chg {O : Nat → Prop} {w w' : World} (h : Tab w) (hc : Chg O w w') (ho : ¬ O 0) : Tab w' := fun n hn => by
  rw [World.cell?_of_block (w := w) (hc.block 0 h.lt ho)]; exact h n hn
/-- The functions of a line's end, by the state's number. -/
def LineFn (S : Nat) (F : FuncId) : Prop := (S = 3 ∧ F = 127) ∨ (S = 5 ∧ F = 128) ∨ (S = 6 ∧ F = 129)
def lineFn : St → FuncId
  | .size _ _ => 127
  | .gap _ _ => 128
  | _ => 129
theorem lineFn_is {s : St} {l : Bs} (h : lineOf s = some l) : LineFn (num1 s) (lineFn s) := by
  cases s with
  | size m k => exact .inl ⟨rfl, rfl⟩
  | gap m k => exact .inr (.inl ⟨rfl, rfl⟩)
  | trail m k => exact .inr (.inr ⟨rfl, rfl⟩)
  | _ => cases h
/-- What is done with a line, whichever. -/
theorem line_fn (O : Nat → Prop) (g : Nat) (v : Value) (s : St) (l t : Bs) (w : World) (h : At w O g v (emptied s)) (hl : lineOf s = some l) (hG : Good s) (ht : t.length ≤ 1025) (hT : Tab w) (hE : ErrV w) :
    Calls Tryz.prog (lineFn s) #[.pointer (some ⟨g, 0, none⟩), .string (txt t)] w (LinePost O g (emptied s) v t w) := by
  cases s with
  | size m k => exact size_any O g m v t w h hG.1 (by omega) hE
  | gap m k => exact gap_any O g m v t w h
  | trail m k => exact trailer_any O g m v t w h (by omega) hT
  | _ => cases hl
def fns (g : Nat) : Array Value := #[.nilFunc, .nilFunc, .nilFunc, .func (.func 127) #[.pointer (some ⟨g, 0, none⟩)] #[], .nilFunc, .func (.func 128) #[.pointer (some ⟨g, 0, none⟩)] #[], .func (.func 129) #[.pointer (some ⟨g, 0, none⟩)] #[], .nilFunc]
set_option maxRecDepth 100000 in
set_option maxHeartbeats 4000000 in
theorem lend_row (O : Nat → Prop) (g q C S : Nat) (F : FuncId) (s : St) (l : Bs) (w : World) (h : At w O g (.slice (some ⟨q, 0, none⟩) l.length C) s) (hl : lineOf s = some l) (hG : Good s) (hS : num1 s = S) (hF : lineFn s = F) (hSF : LineFn S F)
    (hT : Tab w) (hE : ErrV w) (ho : ¬ O 0) (ho2 : ¬ O 3) :
    Calls Tryz.prog 116 #[.pointer (some ⟨g, 0, none⟩)] w (EndLPost O g (ended s (own l)) w) := by
  obtain ⟨e1, e2, e2', e3, e4, e4', e5, e6, e7⟩ := num_emptied hl
  have hown := h.own
  rw [e6] at hown
  rcases hown.2 with ⟨hv, _⟩ | ⟨q', C', cur, hv, _, hh, hlc, hcm, hcs, htk⟩
  · cases hv
  injection hv with i1 i2 i3
  injection i1 with i1
  injection i1 with i1
  subst i1 i3
  have hl25 : l.length ≤ 1025 := by cases s <;> first | (injection hl with hl; subst hl; exact hG.2) | cases hl
  have hblk := h.blk
  have hqg : q ≠ g := apart_of hh hblk (by decide)
  have hLh : Holds w q 0 l := OwnB.holds hown rfl
  have hqw := block_lt hh
  have hgw := block_lt hblk
  have hol := own_length l
  obtain ⟨N3, hN3⟩ : ∃ N3, N3 = num3 s := ⟨_, rfl⟩
  rw [hS, e2', e4', ← hN3] at hblk
  have kc := fun (w : World) (C : Array Value) (n c : Nat) => Lib.run_convert_bytes_const (P := Tryz.prog) w 22 5 C n c Tryz.underlying22 Tryz.underlying5
  obtain ⟨w1, hw1⟩ : ∃ w1, w1 = w.alloc (.cells (fns g) 174) := ⟨_, rfl⟩
  have hb1 : Below w.heap.size w w1 := by rw [hw1]; exact (Below.refl _ _).alloc (Nat.le_refl _) _
  have hs1 : w1.heap.size = w.heap.size + 1 := by rw [hw1]; simp
  obtain ⟨w2, hw2⟩ : ∃ w2, w2 = w1.alloc (.cells #[.int .u8 13] 5 (1, 2)) := ⟨_, rfl⟩
  have hb2 : Below w1.heap.size w1 w2 := by rw [hw2]; exact (Below.refl _ _).alloc (Nat.le_refl _) _
  have hN1 : w1.heap[w.heap.size]? = some (.cells (fns g) 174 (0, 0)) := by rw [hw1]; exact new_block _ _
  have HN2 := Lib.hid (show w2.heap[w1.heap.size]? = some (.cells #[.int .u8 13] 5 (1, 2)) from by rw [hw2]; exact new_block _ _)
  have HX2 := Lib.hid (holds_below (holds_below hLh hb1 hqw) hb2 (by omega))
  have HBB := Bl.next hb1 hb2
  have hbk1 := Bl.old hb1 hgw hblk
  have hbk2 := Bl.old HBB hgw hblk
  have HA2 := Lib.hid ((h.below HBB).cut hl)
  have HC2 := Lib.hid ((Chg.of_below (O := O) HBB).put ⟨g, 3, none⟩ (.slice (some ⟨q, 0, none⟩) 0 C) (.inl h.og))
  have HB0 := Lib.hid HA2.out.blk
  have c1 : w1.cell? ⟨g, 3, none⟩ = some (.slice (some ⟨q, 0, none⟩) l.length C) := dc3 hbk1
  have d3 : w2.cell? ⟨g, 3, none⟩ = some (.slice (some ⟨q, 0, none⟩) l.length C) := dc3 hbk2
  have f3 := free hbk2 3
  obtain ⟨w3, hw3⟩ : ∃ w3, w3 = w2.setCell ⟨g, 3, none⟩ (.slice (some ⟨q, 0, none⟩) 0 C) := ⟨_, rfl⟩
  rw [← hw3] at HA2 HC2 HB0
  have k0 : w3.cell? ⟨g, 0, none⟩ = some (.int .i64 (S : Int)) := by rw [hw3]; exact dc0 (dc_put3 hbk2 _)
  have hN3b : w3.heap[w.heap.size]? = some (.cells (fns g) 174 (0, 0)) := by
    rw [hw3]; exact put_far (Bl.old hb2 (by omega) hN1) (by show w.heap.size ≠ g; omega)
  have kF : w3.cell? ⟨w.heap.size, S, none⟩ = some (.func (.func F) #[.pointer (some ⟨g, 0, none⟩)] #[]) := by
    rw [Lib.cell_of_heap hN3b]
    rcases hSF with ⟨rfl, rfl⟩ | ⟨rfl, rfl⟩ | ⟨rfl, rfl⟩ <;> rfl
  have HFn := Lib.hid (line_fn O g _ s l (own l) w3 HA2.out hl hG (by omega) (tab_chg hT HC2.out ho) (hE.chg HC2.out ho2))
  rw [hF] at HFn
  have HCV := Lib.hid (Tk.run_back (P := Tryz.prog) w2 22 9 5 q 0 C (own l) Tryz.underlying22 Tryz.underlying5 Tryz.underlying9 (by rw [own_take]; exact Holds_take (l := l) HX2.out _))
  have HTr := Lib.hid (trimsuf_any q 0 C l w1.heap.size 13 w2 hlc hcm HX2.out (by rw [Lib.cell_of_heap HN2.out]; rfl))
  have HO2 := Lib.hid (show (cutEnd 13 l) = own l from rfl)
  rw [HO2.out] at HTr
  have hs3 : w.heap.size ≤ w3.heap.size := HC2.out.size
  have hog := h.og
  have HES := Lib.hid (ended_emptied s (own l))
  have hw1u := hw1
  unfold fns at hw1u
  have HW1 := Lib.hid hw1u
  clear hw1u
  have HW2 := Lib.hid hw2
  have HW3 := Lib.hid hw3
  have HSz := Lib.hid hs1
  obtain ⟨E1, hE1⟩ : ∃ E1, E1 = num1 (emptied s) := ⟨_, rfl⟩
  obtain ⟨E2, hE2⟩ : ∃ E2, E2 = num2 (emptied s) := ⟨_, rfl⟩
  obtain ⟨E3, hE3⟩ : ∃ E3, E3 = num3 (emptied s) := ⟨_, rfl⟩
  obtain ⟨E4, hE4⟩ : ∃ E4, E4 = errOf (emptied s) := ⟨_, rfl⟩
  rw [← hE1, ← hE2, ← hE3, ← hE4] at HB0
  obtain ⟨N, hN⟩ : ∃ N, N = l.length := ⟨_, rfl⟩
  rw [← hN] at c1 d3 HTr
  obtain ⟨M, hM⟩ : ∃ M, M = (own l).length := ⟨_, rfl⟩
  rw [← hM] at HTr HCV
  have hNC : N ≤ C := by omega
  unfold maxLen at hcm
  clear e1 e2 e2' e3 e4 e4' e5 e6 e7 hown hh hcs htk hblk hqg hLh hol hN3 hw1 hw2 hw3 hb1 hb2 hN1 HBB hbk1 hbk2 hN3b hs1 hl hG hS hF hT hE h hE1 hE2 hE3 hE4 hN hM hlc hl25
  rcases hSF with ⟨rfl, rfl⟩ | ⟨rfl, rfl⟩ | ⟨rfl, rfl⟩
  all_goals
    go_enter Tryz.func116, Tryz.ntmps116
    go_upto_region 1 with fail
    rw [← HW1.out]
    go_wp2_with fail
    rw [← HW2.out]
    refine HTr.out.mono ?_
    rintro e x2 ⟨rfl, rfl⟩
    have hcv := HCV.out
    go_upto_region 3 with fail
    rw [← HW3.out]
    clear hcv c1 d3 f3
    go_wp2_with fail
    refine HFn.out.mono ?_
    rintro e w4 ⟨E, rfl, hc4, h0, h1⟩
    have HC4 := Lib.hid (HC2.out.trans hc4 (fun k hk => new_size hs3 k hk))
    by_cases hE : E = 0
    · subst hE
      have HD := Lib.hid ((h0 rfl).mono (O' := New O w) (fun k hk => .inl hk))
      rw [HES.out] at HD
      clear hc4 h0 h1 k0 kF
      go_wp2_with fail
      go_end0
      exact ⟨rfl, HD.out, HC4.out⟩
    · obtain ⟨h2, h3⟩ := h1 hE
      rw [HES.out] at h2
      have HST := Lib.hid h2
      rw [HB0.out] at h3
      have HFl := Lib.hid (fail_any g E1 E2 E3 _ E4 E w4 h3)
      have hne : ((E : Int) != 0) = true := by rw [bne_iff_ne]; omega
      clear hc4 h0 h1 h2 h3 k0 kF
      go_wp2_with fail
      refine HFl.out.mono ?_
      rintro e w5 ⟨rfl, hb5, hc5⟩
      have HD := Lib.hid (show Dec w5 (New O w) g (.bad E) from dec_over rfl (.inl hog) hb5)
      have HC5 := Lib.hid (HC4.out.trans hc5 (fun k hk => .inl (by subst hk; exact hog)))
      clear hb5 hc5
      go_wp2_with fail
      go_end0
      exact ⟨rfl, by rw [HST.out]; exact HD.out, HC5.out⟩
end Go.Proofs.YtcolnidgembniaaGreatDoor.Fr
/-
  A decoder's end at a line with no memory yet, and at any line. Conditions: a line of at most 1025 bytes; the tables.
-/
namespace Go.Proofs.YtcolnidgembniaaGreatDoor.Fr
open Go.RowKit Go.Proofs.YtcolnidgembniaaGreatDoor.Tk Go.Proofs.YtcolnidgembniaaGreatDoor.Fd Go.Proofs.YtcolnidgembniaaGreatDoor.Hd
set_option linter.unusedVariables false

theorem trim_none (q : Nat) (w : World) (hq : w.cell? ⟨q, 0, none⟩ = some (.int .u8 13)) :
    Calls Tryz.prog 114 #[.slice none 0 0, .slice (some ⟨q, 0, none⟩) 1 1] w fun e w' => e = .returned (.slice none 0 0) ∧ w = w' := by
  refine (Ln.bytes_TrimSuffix_all none (some ⟨q, 0, none⟩) 0 0 1 1 [] [13] w rfl rfl (Nat.le_refl _) (by omega) (Lib.BytesIn.nil _ _ _) (.of_cells fun i hi => ?_)).mono ?_
  · have : i = 0 := by omega
    subst this; rw [Addr.add_lit]; simpa using hq
  · rintro e w' ⟨rfl, rfl⟩
    exact ⟨rfl, rfl⟩
theorem At.cutNil {w : World} {O : Nat → Prop} {g : Nat} {s : St} (h : At w O g (.slice none 0 0) s) (hl : lineOf s = some []) :
    At (w.setCell ⟨g, 3, none⟩ (.slice none 0 0)) O g (.slice none 0 0) (emptied s) := by
  obtain ⟨e1, e2, e2', e3, e4, e4', e5, e6, e7⟩ := num_emptied hl
  have hb := h.blk
  rw [e2', e4'] at hb
  refine ⟨(by rw [e1, e2, e3, e4]; exact dc_put3 hb _), (by rw [e5]; exact OwnB.nil _), fun hf => rfl, h.og, fun k hk => by cases hk⟩
set_option maxRecDepth 100000 in
set_option maxHeartbeats 4000000 in
theorem lend_nil (O : Nat → Prop) (g S : Nat) (F : FuncId) (s : St) (w : World) (h : At w O g (.slice none 0 0) s) (hl : lineOf s = some []) (hG : Good s) (hS : num1 s = S) (hF : lineFn s = F) (hSF : LineFn S F)
    (hT : Tab w) (hE : ErrV w) (ho : ¬ O 0) (ho2 : ¬ O 3) :
    Calls Tryz.prog 116 #[.pointer (some ⟨g, 0, none⟩)] w (EndLPost O g (ended s []) w) := by
  obtain ⟨e1, e2, e2', e3, e4, e4', e5, e6, e7⟩ := num_emptied hl
  have hblk := h.blk
  have hgw := block_lt hblk
  obtain ⟨N3, hN3⟩ : ∃ N3, N3 = num3 s := ⟨_, rfl⟩
  rw [hS, e2', e4', ← hN3] at hblk
  have kc := fun (w : World) (C : Array Value) (n c : Nat) => Lib.run_convert_bytes_const (P := Tryz.prog) w 22 5 C n c Tryz.underlying22 Tryz.underlying5
  obtain ⟨w1, hw1⟩ : ∃ w1, w1 = w.alloc (.cells (fns g) 174) := ⟨_, rfl⟩
  have hb1 : Below w.heap.size w w1 := by rw [hw1]; exact (Below.refl _ _).alloc (Nat.le_refl _) _
  have hs1 : w1.heap.size = w.heap.size + 1 := by rw [hw1]; simp
  obtain ⟨w2, hw2⟩ : ∃ w2, w2 = w1.alloc (.cells #[.int .u8 13] 5 (1, 2)) := ⟨_, rfl⟩
  have hb2 : Below w1.heap.size w1 w2 := by rw [hw2]; exact (Below.refl _ _).alloc (Nat.le_refl _) _
  have hN1 : w1.heap[w.heap.size]? = some (.cells (fns g) 174 (0, 0)) := by rw [hw1]; exact new_block _ _
  have HN2 := Lib.hid (show w2.heap[w1.heap.size]? = some (.cells #[.int .u8 13] 5 (1, 2)) from by rw [hw2]; exact new_block _ _)
  have HBB := Bl.next hb1 hb2
  have hbk1 := Bl.old hb1 hgw hblk
  have hbk2 := Bl.old HBB hgw hblk
  have HA2 := Lib.hid ((h.below HBB).cutNil hl)
  have HC2 := Lib.hid ((Chg.of_below (O := O) HBB).put ⟨g, 3, none⟩ (.slice none 0 0) (.inl h.og))
  have HB0 := Lib.hid HA2.out.blk
  have c1 : w1.cell? ⟨g, 3, none⟩ = some (.slice none 0 0) := dc3 hbk1
  have d3 : w2.cell? ⟨g, 3, none⟩ = some (.slice none 0 0) := dc3 hbk2
  have f3 := free hbk2 3
  obtain ⟨w3, hw3⟩ : ∃ w3, w3 = w2.setCell ⟨g, 3, none⟩ (.slice none 0 0) := ⟨_, rfl⟩
  rw [← hw3] at HA2 HC2 HB0
  have k0 : w3.cell? ⟨g, 0, none⟩ = some (.int .i64 (S : Int)) := by rw [hw3]; exact dc0 (dc_put3 hbk2 _)
  have hN3b : w3.heap[w.heap.size]? = some (.cells (fns g) 174 (0, 0)) := by
    rw [hw3]; exact put_far (Bl.old hb2 (by omega) hN1) (by show w.heap.size ≠ g; omega)
  have kF : w3.cell? ⟨w.heap.size, S, none⟩ = some (.func (.func F) #[.pointer (some ⟨g, 0, none⟩)] #[]) := by
    rw [Lib.cell_of_heap hN3b]
    rcases hSF with ⟨rfl, rfl⟩ | ⟨rfl, rfl⟩ | ⟨rfl, rfl⟩ <;> rfl
  have HFn := Lib.hid (line_fn O g _ s [] [] w3 HA2.out hl hG (by simp) (tab_chg hT HC2.out ho) (hE.chg HC2.out ho2))
  rw [hF, txt_nil] at HFn
  have HTr := Lib.hid (trim_none w1.heap.size w2 (by rw [Lib.cell_of_heap HN2.out]; rfl))
  have hs3 : w.heap.size ≤ w3.heap.size := HC2.out.size
  have hog := h.og
  have HES := Lib.hid (ended_emptied s [])
  have hw1u := hw1
  unfold fns at hw1u
  have HW1 := Lib.hid hw1u
  clear hw1u
  have HW2 := Lib.hid hw2
  have HW3 := Lib.hid hw3
  obtain ⟨E1, hE1⟩ : ∃ E1, E1 = num1 (emptied s) := ⟨_, rfl⟩
  obtain ⟨E2, hE2⟩ : ∃ E2, E2 = num2 (emptied s) := ⟨_, rfl⟩
  obtain ⟨E3, hE3⟩ : ∃ E3, E3 = num3 (emptied s) := ⟨_, rfl⟩
  obtain ⟨E4, hE4⟩ : ∃ E4, E4 = errOf (emptied s) := ⟨_, rfl⟩
  rw [← hE1, ← hE2, ← hE3, ← hE4] at HB0
  clear e1 e2 e2' e3 e4 e4' e5 e6 e7 hblk hN3 hw1 hw2 hw3 hb1 hb2 hN1 HBB hbk1 hbk2 hN3b hs1 hl hG hS hF hT hE h hE1 hE2 hE3 hE4
  rcases hSF with ⟨rfl, rfl⟩ | ⟨rfl, rfl⟩ | ⟨rfl, rfl⟩
  all_goals
    go_enter Tryz.func116, Tryz.ntmps116
    go_upto_region 1 with fail
    rw [← HW1.out]
    go_wp2_with fail
    rw [← HW2.out]
    refine HTr.out.mono ?_
    rintro e x2 ⟨rfl, rfl⟩
    have hcv : (convert 22 9 (.slice none 0 0)).run Tryz.prog w2 = .ok (.string ⟨#[]⟩) w2 := run_convert_bytes_nil w2 22 5 Tryz.underlying22 Tryz.underlying5 0 0 9 Tryz.underlying9
    go_upto_region 3 with fail
    rw [← HW3.out]
    clear hcv c1 d3 f3
    go_wp2_with fail
    refine HFn.out.mono ?_
    rintro e w4 ⟨E, rfl, hc4, h0, h1⟩
    have HC4 := Lib.hid (HC2.out.trans hc4 (fun k hk => new_size hs3 k hk))
    by_cases hE : E = 0
    · subst hE
      have HD := Lib.hid ((h0 rfl).mono (O' := New O w) (fun k hk => .inl hk))
      rw [HES.out] at HD
      clear hc4 h0 h1 k0 kF
      go_wp2_with fail
      go_end0
      exact ⟨rfl, HD.out, HC4.out⟩
    · obtain ⟨h2, h3⟩ := h1 hE
      rw [HES.out] at h2
      have HST := Lib.hid h2
      rw [HB0.out] at h3
      have HFl := Lib.hid (fail_any g E1 E2 E3 _ E4 E w4 h3)
      have hne : ((E : Int) != 0) = true := by rw [bne_iff_ne]; omega
      clear hc4 h0 h1 h2 h3 k0 kF
      go_wp2_with fail
      refine HFl.out.mono ?_
      rintro e w5 ⟨rfl, hb5, hc5⟩
      have HD := Lib.hid (show Dec w5 (New O w) g (.bad E) from dec_over rfl (.inl hog) hb5)
      have HC5 := Lib.hid (HC4.out.trans hc5 (fun k hk => .inl (by subst hk; exact hog)))
      clear hb5 hc5
      go_wp2_with fail
      go_end0
      exact ⟨rfl, by rw [HST.out]; exact HD.out, HC5.out⟩
theorem lend_any (O : Nat → Prop) (g : Nat) (v : Value) (s : St) (l : Bs) (w : World) (h : At w O g v s) (hl : lineOf s = some l) (hG : Good s)
    (hT : Tab w) (hE : ErrV w) (ho : ¬ O 0) (ho2 : ¬ O 3) :
    Calls Tryz.prog 116 #[.pointer (some ⟨g, 0, none⟩)] w (EndLPost O g (ended s (own l)) w) := by
  have e6 := (num_emptied hl).2.2.2.2.2.2.2.1
  have hown := h.own
  rw [e6] at hown
  rcases hown.2 with ⟨hv, h0⟩ | ⟨q, C, cur, hv, _, hh, hlc, hcm, hcs, htk⟩
  · obtain rfl : l = [] := List.length_eq_zero_iff.1 h0
    subst hv
    exact lend_nil O g _ _ s w h hl hG rfl rfl (lineFn_is hl) hT hE ho ho2
  · subst hv
    exact lend_row O g q C _ _ s l w h hl hG rfl rfl (lineFn_is hl) hT hE ho ho2
end Go.Proofs.YtcolnidgembniaaGreatDoor.Fr
/-
  A piece of bytes. No condition but what a slice can have.
-/
namespace Go.Proofs.YtcolnidgembniaaGreatDoor.Fr
open Go.RowKit Go.Proofs.YtcolnidgembniaaGreatDoor.Tk Go.Proofs.YtcolnidgembniaaGreatDoor.Hd
set_option linter.unusedVariables false

theorem byts_cut {w : World} {B off cap k d : Nat} {b : Bs} (h : Byts w (.slice (some ⟨B, off, none⟩) b.length cap) b) (hb : B < w.heap.size) (hcap : b.length ≤ cap) (hcm : cap ≤ maxLen) (hk : k + d ≤ b.length) :
    Byts w (.slice (some ⟨B, off + k, none⟩) d (cap - k)) ((b.drop k).take d) := by
  have hl : ((b.drop k).take d).length = d := by rw [List.length_take, List.length_drop]; omega
  rcases h with ⟨h0, _⟩ | ⟨B', off', cap', hv, _, _, _, hh⟩
  · subst h0
    simp at hk
    obtain ⟨rfl, rfl⟩ := hk
    exact .inl ⟨by simp, _, _, rfl⟩
  · injection hv with e1 _ e3
    injection e1 with e1
    injection e1 with e1 e2
    subst e1 e2 e3
    refine .inr ⟨B, off + k, cap - k, by rw [hl], by rw [hl]; omega, by omega, hb, fun j hj => ?_⟩
    rw [hl] at hj
    have := hh (k + j) (by omega)
    rw [← Nat.add_assoc] at this
    rw [this]
    simp [List.getElem_take, List.getElem_drop]
end Go.Proofs.YtcolnidgembniaaGreatDoor.Fr
/-
  A decoder's line: what it returns and leaves. Conditions: a line of at most 1025 bytes so far; the tables.
-/
namespace Go.Proofs.YtcolnidgembniaaGreatDoor.Fr
open Go.RowKit Go.Proofs.YtcolnidgembniaaGreatDoor.Tk Go.Proofs.YtcolnidgembniaaGreatDoor.Fd Go.Proofs.YtcolnidgembniaaGreatDoor.Hd
set_option linter.unusedVariables false

theorem num_onto {s : St} {l : Bs} (h : lineOf s = some l) (x : Bs) : num1 (onto s x) = num1 s ∧ num2 (onto s x) = 0 ∧ num2 s = 0 ∧ num3 (onto s x) = num3 s ∧ errOf (onto s x) = 0 ∧ errOf s = 0 ∧ text (onto s x) = l ++ x ∧ text s = l ∧ lined (onto s x) = true := by
  cases s <;> first | (injection h with h; subst h; exact ⟨rfl, rfl, rfl, rfl, rfl, rfl, rfl, rfl, rfl⟩) | cases h
theorem good_onto {s : St} {l : Bs} (h : lineOf s = some l) (hG : Good s) {x : Bs} (hx : l.length + x.length ≤ 1025) : Good (onto s x) := by
  cases s <;> first | (injection h with h; subst h; exact ⟨hG.1, by rw [List.length_append]; exact hx⟩) | cases h
theorem At.drewN {w : World} {O : Nat → Prop} {g : Nat} {v : Value} {s : St} (h : At w O g v s) (n : Nat) : At (w.drewN n) O g v s := h.below (below_drewN (Below.refl _ _) n)
/-- What put leaves, stored. -/
theorem at_put {w w1 : World} {O : Nat → Prop} {g : Nat} {u lv : Value} {s : St} {l x : Bs} (h : At w O g u s) (hl : lineOf s = some l) (hown : OwnB w1 lv (l ++ x)) (hc : Chg (fun k => u.ownBlock = some k) w w1) (hn : ∀ k, lv.ownBlock = some k → u.ownBlock = some k ∨ w.heap.size ≤ k) :
    At (w1.setCell ⟨g, 3, none⟩ lv) (New O w) g lv (onto s x) ∧ Chg O w (w1.setCell ⟨g, 3, none⟩ lv) ∧ w1.cell? ⟨g, 3, none⟩ = some u ∧ w1.frozen? ⟨g, 3, none⟩ = false := by
  obtain ⟨e1, e2, e2', e3, e4, e4', e5, e6, e7⟩ := num_onto hl x
  have hug : u.ownBlock ≠ some g := fun hk => by
    obtain ⟨cur, hcur⟩ := row_type h.own hk
    exact apart_of hcur h.blk (by decide) rfl
  have hb := hc.old (k := g) hug h.blk
  refine ⟨⟨?_, ?_, fun hf => (by rw [e7] at hf; cases hf), .inl h.og, fun k hk => ?_⟩, ?_, dc3 hb, free hb 3⟩
  · rw [e2', e4'] at hb
    rw [e1, e2, e3, e4]; exact dc_put3 hb _
  · rw [e5]
    refine row_same hown fun k hk => ?_
    obtain ⟨cu, hcu⟩ := row_type hown (k := k) hk
    exact put_far rfl (by show k ≠ g; exact apart_of hcu hb (by decide))
  · rcases hn k hk with h1 | h1
    · exact .inl (h.ov k h1)
    · exact .inr h1
  · exact (show Chg O w w1 from ⟨hc.os, hc.tape, hc.output, hc.size, fun k hk hno => hc.block k hk (fun e => hno (h.ov k e))⟩).put _ _ (.inl h.og)
theorem took_line {s : St} {l b : Bs} {m : Nat} (h : lineOf s = some l) (hm : m = min b.length (1025 - l.length)) (hn : nl (b.take m) < m) (hl : l.length ≤ 1025) :
    Took s b 0 (nl (b.take m) + 1) (ended s (own (l ++ b.take (nl (b.take m))))) := by
  have htl : (b.take m).length = m := by rw [List.length_take]; omega
  obtain ⟨h1, h2, h3, h4⟩ := nl_split (b := b) (m := m) (by rw [htl]; exact hn)
  refine ⟨by omega, by omega, by omega, ?_, fun hG => good_ended hG h⟩
  have h5 := run_line (r := b.drop (nl (b.take m) + 1)) h h2 (by rw [List.length_take]; omega)
  rw [← h1, List.length_take, Nat.min_eq_left (by omega)] at h5
  rw [h5]; simp
theorem took_big {s : St} {l b : Bs} {m : Nat} (h : lineOf s = some l) (hm : m = min b.length (1025 - l.length)) (hn : ¬ nl (b.take m) < m) (hl : l.length ≤ 1025) (hb : 1025 - l.length < b.length) :
    Took s b 0 (1025 - l.length + 1) (.bad 3) := by
  have e : m = 1025 - l.length := by omega
  refine ⟨by omega, by omega, by omega, ?_, fun _ => .inl rfl⟩
  rw [run_big h hl (by rw [← e]; refine nl_none ?_; rw [List.length_take]; omega) hb, run_over (s := .bad 3) rfl]
  simp
theorem took_part {s : St} {l b : Bs} {m : Nat} (h : lineOf s = some l) (hm : m = min b.length (1025 - l.length)) (hn : ¬ nl (b.take m) < m) (hb : ¬ 1025 - l.length < b.length) (h0 : 0 < b.length) (hl : l.length ≤ 1025) :
    Took s b 0 b.length (onto s b) := by
  have e : m = b.length := by omega
  subst e
  rw [List.take_length] at hn
  refine ⟨by omega, by omega, by omega, ?_, fun hG => good_onto h hG (by omega)⟩
  rw [run_part h (nl_none hn) (by omega), List.drop_length, run_nil]
  simp
/-- What is fed, where it lies. -/
structure Fed (w : World) (B off cap : Nat) (b : Bs) : Prop where
  le : b.length ≤ cap
  max : cap ≤ maxLen
  lt : B < w.heap.size
  holds : Holds w B off b
theorem Fed.byts {w : World} {B off cap : Nat} {b : Bs} (h : Fed w B off cap b) {k : Nat} (hk : k ≤ b.length) : Byts w (.slice (some ⟨B, off, none⟩) k cap) (b.take k) := by
  have e : (b.take k).length = k := by rw [List.length_take]; omega
  refine .inr ⟨B, off, cap, by rw [e], by rw [e]; exact Nat.le_trans hk h.le, h.max, h.lt, Holds_take h.holds k⟩
theorem idx_at {w : World} {B off cap : Nat} {b : Bs} (h : Holds w B off b) {m : Nat} (hm : m ≤ b.length) :
    Calls Tryz.prog 77 #[.slice (some ⟨B, off, none⟩) m cap, .int .u8 10] w fun e w' => e = .returned (.int .i64 (if nl (b.take m) < m then ((nl (b.take m) : Nat) : Int) else -1)) ∧ w = w' := by
  have e : (b.take m).length = m := by rw [List.length_take]; omega
  have h1 := idx10_any B off cap (b.take m) w (Holds_take h m)
  rw [nl_index, e] at h1
  exact h1
set_option maxRecDepth 100000 in
set_option maxHeartbeats 4000000 in
theorem line_big (O : Nat → Prop) (g B off cap m : Nat) (s : St) (l b : Bs) (w : World) (h : Dec w O g s) (hl : lineOf s = some l) (hG : Good s) (hF : Fed w B off cap b) (hm : m = min b.length (1025 - l.length)) (hn : ¬ nl (b.take m) < m) (hb : 1025 - l.length < b.length) :
    Calls Tryz.prog 84 #[.pointer (some ⟨g, 0, none⟩), .slice (some ⟨B, off, none⟩) b.length cap] w (StepPost O g s b w) := by
  obtain ⟨u, h⟩ := h
  have hl25 : l.length ≤ 1025 := by cases s <;> first | (injection hl with hl; subst hl; exact hG.2) | cases hl
  have HTk := Lib.hid (took_big hl hm hn hl25 hb)
  have HI := Lib.hid (idx_at (cap := cap) hF.holds (m := m) (by omega))
  rw [if_neg hn] at HI
  have hown := h.own
  rw [(num_onto hl []).2.2.2.2.2.2.2.1] at hown
  obtain ⟨a, c, hu⟩ := hown.shape
  subst hu
  have c3 := dc3 h.blk
  have HFl := Lib.hid (fail_any g _ _ _ _ _ 3 w h.blk)
  have hog := h.og
  have hcap := hF.le
  have hmx := hF.max
  unfold maxLen at hmx
  obtain ⟨N, hN⟩ : ∃ N, N = b.length := ⟨_, rfl⟩
  obtain ⟨Ll, hLl⟩ : ∃ Ll, Ll = l.length := ⟨_, rfl⟩
  obtain ⟨R, hR⟩ : ∃ R, R = 1025 - Ll := ⟨_, rfl⟩
  have hmR : m = R := by omega
  have HTk2 := Lib.hid (show Took s b 0 (R + 1) (.bad 3) from by rw [hR, hLl]; exact HTk.out)
  subst hmR
  have hRI : (1025 : Int) - (Ll : Int) = (m : Int) := by omega
  have hmn : m < N := by omega
  have hmin : min (N : Int) (m : Int) = (m : Int) := by omega
  have hLl6 : Ll ≤ 1025 := by omega
  rw [← hN] at hcap ⊢
  rw [← hLl] at c3
  clear h hown hl hG hF hm hn hb hN hLl hR HTk hl25
  go_enter Tryz.func84, Tryz.ntmps84
  go_wp2_with fail
  refine HI.out.mono ?_
  rintro e w1 ⟨rfl, rfl⟩
  go_wp2_with fail
  refine HFl.out.mono ?_
  rintro e w2 ⟨rfl, hB, hC⟩
  have HD := Lib.hid (show Dec w2 (New O w) g (.bad 3) from dec_over rfl (.inl hog) hB)
  have HC2 := Lib.hid (chg_one hC hog)
  clear hB hC
  go_wp2_with fail
  go_ret2
  exact ⟨0, m + 1, _, rfl, HTk2.out, HD.out, HC2.out⟩
set_option maxRecDepth 100000 in
set_option maxHeartbeats 4000000 in
theorem line_part (O : Nat → Prop) (g B off cap m : Nat) (s : St) (l b : Bs) (w : World) (h : Dec w O g s) (hl : lineOf s = some l) (hG : Good s) (hF : Fed w B off cap b) (hOB : ¬ O B) (hm : m = min b.length (1025 - l.length)) (hn : ¬ nl (b.take m) < m) (hb : ¬ 1025 - l.length < b.length) (h0 : 0 < b.length) :
    Calls Tryz.prog 84 #[.pointer (some ⟨g, 0, none⟩), .slice (some ⟨B, off, none⟩) b.length cap] w (StepPost O g s b w) := by
  obtain ⟨u, h⟩ := h
  have hl25 : l.length ≤ 1025 := by cases s <;> first | (injection hl with hl; subst hl; exact hG.2) | cases hl
  have HTk := Lib.hid (took_part hl hm hn hb h0 hl25)
  have HI := Lib.hid (idx_at (cap := cap) hF.holds (m := m) (by omega))
  rw [if_neg hn] at HI
  have hown := h.own
  rw [(num_onto hl []).2.2.2.2.2.2.2.1] at hown
  obtain ⟨a, c, hu⟩ := hown.shape
  have c3 := dc3 h.blk
  have hby := hF.byts (Nat.le_refl b.length)
  rw [List.take_length] at hby
  have HPut := Lib.hid (put_any u _ l b w hown hby (fun k hk e => hOB (by injection e with e; subst e; exact h.ov _ hk)) (by omega))
  have HAP := Lib.hid (fun (lv : Value) (w1 : World) (ho : OwnB w1 lv (l ++ b)) (hc : Chg (fun k => u.ownBlock = some k) w w1) (hn : ∀ k, lv.ownBlock = some k → u.ownBlock = some k ∨ w.heap.size ≤ k) => at_put h hl ho hc hn)
  have hcap := hF.le
  have hmx := hF.max
  unfold maxLen at hmx
  have hmb : m = b.length := by omega
  obtain ⟨Ll, hLl⟩ : ∃ Ll, Ll = l.length := ⟨_, rfl⟩
  obtain ⟨R, hR⟩ : ∃ R, R = 1025 - Ll := ⟨_, rfl⟩
  have hRI : (1025 : Int) - (Ll : Int) = (R : Int) := by omega
  have hbR : b.length ≤ R := by omega
  obtain ⟨N, hN⟩ : ∃ N, N = b.length := ⟨_, rfl⟩
  rw [hmb, ← hN] at HI
  rw [← hN] at hbR hcap HPut HTk h0 ⊢
  have hmin : min (N : Int) (R : Int) = (N : Int) := by omega
  have hLl6 : Ll ≤ 1025 := by omega
  rw [hu, ← hLl] at c3
  rw [hu, ← hLl] at HPut
  rw [hu, ← hLl] at HAP
  clear h hown hl hG hF hm hn hb hLl hR hl25 hu hby hmb hN
  go_enter Tryz.func84, Tryz.ntmps84
  go_wp2_with fail
  refine HI.out.mono ?_
  rintro e w1 ⟨rfl, rfl⟩
  go_wp2_with fail
  refine HPut.out.mono ?_
  rintro e w2 ⟨lv, rfl, ho, hc, hnb⟩
  obtain ⟨hA, hC, d3, f3⟩ := HAP.out lv w2 ho hc hnb
  obtain ⟨la, lc, hlv⟩ := ho.shape
  obtain ⟨K, hK⟩ : ∃ K, K = (l ++ b).length := ⟨_, rfl⟩
  rw [← hK] at hlv
  subst hlv
  clear hK
  have HA := Lib.hid hA
  have HC := Lib.hid hC
  clear hA hC ho hc hnb c3
  go_wp2_with fail
  go_ret2
  exact ⟨0, N, _, rfl, HTk.out, ⟨_, HA.out⟩, HC.out⟩
set_option maxRecDepth 100000 in
set_option maxHeartbeats 4000000 in
theorem line_found (O : Nat → Prop) (g B off cap m : Nat) (s : St) (l b : Bs) (w : World) (h : Dec w O g s) (hl : lineOf s = some l) (hG : Good s) (hF : Fed w B off cap b) (hOB : ¬ O B) (hm : m = min b.length (1025 - l.length)) (hn : nl (b.take m) < m)
    (hT : Tab w) (hE : ErrV w) (ho : ¬ O 0) (ho2 : ¬ O 3) :
    Calls Tryz.prog 84 #[.pointer (some ⟨g, 0, none⟩), .slice (some ⟨B, off, none⟩) b.length cap] w (StepPost O g s b w) := by
  obtain ⟨u, h⟩ := h
  have hl25 : l.length ≤ 1025 := by cases s <;> first | (injection hl with hl; subst hl; exact hG.2) | cases hl
  have HTk := Lib.hid (took_line hl hm hn hl25)
  have HI := Lib.hid (idx_at (cap := cap) hF.holds (m := m) (by omega))
  rw [if_pos hn] at HI
  obtain ⟨J, hJ⟩ : ∃ J, J = nl (b.take m) := ⟨_, rfl⟩
  rw [← hJ] at hn HTk HI
  have hJb : J < b.length := by omega
  have hown := h.own
  rw [(num_onto hl []).2.2.2.2.2.2.2.1] at hown
  obtain ⟨a, c, hu⟩ := hown.shape
  have c3 := dc3 h.blk
  have hby := hF.byts (Nat.le_of_lt hJb)
  have hJt : (b.take J).length = J := by rw [List.length_take]; omega
  have HPut := Lib.hid (put_any u _ l (b.take J) w.drew (row_same hown (fun _ _ => rfl)) (hby.below (Below.refl w.heap.size w).drew (Nat.le_refl _)) (fun k hk e => hOB (by injection e with e; subst e; exact h.ov _ hk)) (by omega))
  have htl := hT.lt
  have hel := hE.lt
  have HAP := Lib.hid (fun (lv : Value) (w1 : World) (hown1 : OwnB w1 lv (l ++ b.take J)) (hc : Chg (fun k => u.ownBlock = some k) w.drew w1) (hn : ∀ k, lv.ownBlock = some k → u.ownBlock = some k ∨ w.drew.heap.size ≤ k) =>
    (show w1.cell? ⟨g, 3, none⟩ = some u ∧ w1.frozen? ⟨g, 3, none⟩ = false ∧ ∀ w2, w2 = w1.setCell ⟨g, 3, none⟩ lv → Calls Tryz.prog 116 #[.pointer (some ⟨g, 0, none⟩)] w2 fun e w3 => e = .returned (.tuple #[]) ∧ Dec w3 (New O w) g (ended s (own (l ++ b.take J))) ∧ Chg O w w3 from by
      obtain ⟨hA, hC, d3, f3⟩ := at_put h hl hown1 ((Chg.refl (fun k => u.ownBlock = some k) w).drew.trans hc (fun i hi => .inl hi)) hn
      refine ⟨d3, f3, ?_⟩
      rintro w2 rfl
      have hNT : ¬ New O w 0 := fun hk => by rcases hk with hk | hk; exact ho hk; omega
      have hNE : ¬ New O w 3 := fun hk => by rcases hk with hk | hk; exact ho2 hk; omega
      have hlo : lineOf (onto s (b.take J)) = some (l ++ b.take J) := line_onto hl _
      refine (lend_any (New O w) g lv _ _ _ hA hlo (good_onto hl hG (by omega)) (tab_chg hT hC ho) (hE.chg hC ho2) hNT hNE).mono ?_
      rintro e w3 ⟨rfl, hD, hC3⟩
      rw [ended_onto] at hD
      exact ⟨rfl, hD.mono (new_new hC.size), hC.again hC3⟩))
  have hcap := hF.le
  have hmx := hF.max
  unfold maxLen at hmx
  obtain ⟨Ll, hLl⟩ : ∃ Ll, Ll = l.length := ⟨_, rfl⟩
  obtain ⟨R, hR⟩ : ∃ R, R = 1025 - Ll := ⟨_, rfl⟩
  have hRI : (1025 : Int) - (Ll : Int) = (R : Int) := by omega
  obtain ⟨N, hN⟩ : ∃ N, N = b.length := ⟨_, rfl⟩
  have hmN : m ≤ N := by omega
  have hmR : m ≤ R := by omega
  have hmm : min (N : Int) (R : Int) = (m : Int) := by omega
  rw [← hN] at hcap hJb ⊢
  have hLl6 : Ll ≤ 1025 := by omega
  rw [hu, ← hLl] at c3
  rw [hu, ← hLl] at HPut
  rw [hu, ← hLl] at HAP
  clear h hown hl hG hF hm hLl hR hl25 hu hby hN hJ hT hE hJt htl hel
  go_enter Tryz.func84, Tryz.ntmps84
  go_wp2_with fail
  refine HI.out.mono ?_
  rintro e w1 ⟨rfl, rfl⟩
  go_upto_region 4 with fail
  go_region_with (go_at_call 86; refine HPut.out.mono ?_; rintro e w2 ⟨lv, rfl, hown1, hc, hnb⟩; obtain ⟨d3, f3, hnx⟩ := HAP.out lv w2 hown1 hc hnb; have HNX := Lib.hid hnx; obtain ⟨la, lc, hlv⟩ := hown1.shape; obtain ⟨K, hK⟩ : ∃ K, K = (l ++ b.take J).length := ⟨_, rfl⟩; rw [← hK] at hlv; subst hlv; clear hK hnx hown1 hc hnb)
  all_goals go_wp2_with fail
  all_goals
    refine (HNX.out _ rfl).mono ?_
    rintro e w3 ⟨rfl, hD, hC⟩
    have HD := Lib.hid hD
    have HC := Lib.hid hC
    clear hD hC
    go_wp2_with fail
    go_ret2
    exact ⟨0, J + 1, _, by first | rfl | go_num, HTk.out, HD.out, HC.out⟩
theorem line_any (O : Nat → Prop) (g B off cap : Nat) (s : St) (l b : Bs) (w : World) (h : Dec w O g s) (hl : lineOf s = some l) (hG : Good s) (hF : Fed w B off cap b) (hOB : ¬ O B) (h0 : 0 < b.length)
    (hT : Tab w) (hE : ErrV w) (ho : ¬ O 0) (ho2 : ¬ O 3) :
    Calls Tryz.prog 84 #[.pointer (some ⟨g, 0, none⟩), .slice (some ⟨B, off, none⟩) b.length cap] w (StepPost O g s b w) := by
  by_cases hn : nl (b.take (min b.length (1025 - l.length))) < min b.length (1025 - l.length)
  · exact line_found O g B off cap _ s l b w h hl hG hF hOB rfl hn hT hE ho ho2
  · by_cases hb : 1025 - l.length < b.length
    · exact line_big O g B off cap _ s l b w h hl hG hF rfl hn hb
    · exact line_part O g B off cap _ s l b w h hl hG hF hOB rfl hn hb h0
end Go.Proofs.YtcolnidgembniaaGreatDoor.Fr
/-
  A decoder that is nil, or that no call made: what its methods return. No condition.
-/
namespace Go.Proofs.YtcolnidgembniaaGreatDoor.Fr
open Go.RowKit Go.Proofs.YtcolnidgembniaaGreatDoor.Fd
set_option linter.unusedVariables false

theorem four_results {fn : Func} {a b c d : Tmp} (h : fn.results = #[.tmp a, .tmp b, .tmp c, .tmp d]) (tmps : Array Value) (P : Program) (w : World) :
    (results fn tmps).run P w = .ok (.tuple #[tmps.getD a undef, tmps.getD b undef, tmps.getD c undef, tmps.getD d undef]) w := by
  simp [results, h]
/-- A decoder that no call made: nil, or a plain one. -/
def NoDec (w : World) (p : Option Addr) : Prop := p = none ∨ ∃ g, p = some ⟨g, 0, none⟩ ∧ w.cell? ⟨g, 0, none⟩ = some (Value.int .i64 0)
set_option maxHeartbeats 1000000 in
theorem made_none (w : World) : Calls Tryz.prog 81 #[.pointer none] w fun e w' => e = .returned (.bool false) ∧ w = w' := by
  go_enter Tryz.func81, Tryz.ntmps81
  go_wp2_with fail
  go_ret
  exact ⟨rfl, rfl⟩
set_option maxHeartbeats 1000000 in
theorem made_plain (g : Nat) (w : World) (h : w.cell? ⟨g, 0, none⟩ = some (Value.int .i64 0)) : Calls Tryz.prog 81 #[.pointer (some ⟨g, 0, none⟩)] w fun e w' => e = .returned (.bool false) ∧ w = w' := by
  go_enter Tryz.func81, Tryz.ntmps81
  go_wp2_with fail
  go_ret
  exact ⟨rfl, rfl⟩
theorem made_no (p : Option Addr) (w : World) (h : NoDec w p) : Calls Tryz.prog 81 #[.pointer p] w fun e w' => e = .returned (.bool false) ∧ w = w' := by
  rcases h with rfl | ⟨g, rfl, h⟩
  · exact made_none w
  · exact made_plain g w h
set_option maxHeartbeats 1000000 in
theorem feed_no (p : Option Addr) (v : Value) (w : World) (h : NoDec w p) : Calls Tryz.prog 49 #[.pointer p, v] w fun e w' => e = .returned (.tuple #[.slice none 0 0, .int .i64 0, .bool false, .int .i64 1]) ∧ w = w' := by
  go_enter Tryz.func49, Tryz.ntmps49
  go_wp2_with fail
  refine (made_no p _ h).mono ?_
  rintro e w' ⟨rfl, rfl⟩
  go_wp2_with fail
  refine bodyPost_ret (four_results rfl _ _ _) rfl ?_
  exact ⟨rfl, rfl⟩
set_option maxHeartbeats 1000000 in
theorem end_no (p : Option Addr) (w : World) (h : NoDec w p) : Calls Tryz.prog 50 #[.pointer p] w fun e w' => e = .returned (.tuple #[.bool false, .int .i64 1]) ∧ w = w' := by
  go_enter Tryz.func50, Tryz.ntmps50
  go_wp2_with fail
  refine (made_no p _ h).mono ?_
  rintro e w' ⟨rfl, rfl⟩
  go_wp2_with fail
  go_ret2
  exact ⟨rfl, rfl⟩
end Go.Proofs.YtcolnidgembniaaGreatDoor.Fr
/-
  A decoder's Feed, step by step: where it stands at its loop's head, and what a step leaves. No condition.
-/
namespace Go.Proofs.YtcolnidgembniaaGreatDoor.Fr
open Go.RowKit Go.Proofs.YtcolnidgembniaaGreatDoor.Tk Go.Proofs.YtcolnidgembniaaGreatDoor.Fd Go.Proofs.YtcolnidgembniaaGreatDoor.Hd
set_option linter.unusedVariables false

def stepFn : St → FuncId
  | .len _ => 82
  | .opn _ => 83
  | .chunk _ _ => 85
  | _ => 84
def StepFn (S : Nat) (F : FuncId) : Prop := (S = 1 ∧ F = 82) ∨ (S = 2 ∧ F = 83) ∨ (S = 3 ∧ F = 84) ∨ (S = 4 ∧ F = 85) ∨ (S = 5 ∧ F = 84) ∨ (S = 6 ∧ F = 84)
theorem stepFn_is {s : St} (h : over s = false) : StepFn (num1 s) (stepFn s) := by
  cases s with
  | len n => exact .inl ⟨rfl, rfl⟩
  | opn n => exact .inr (.inl ⟨rfl, rfl⟩)
  | size m k => exact .inr (.inr (.inl ⟨rfl, rfl⟩))
  | chunk m n => exact .inr (.inr (.inr (.inl ⟨rfl, rfl⟩)))
  | gap m k => exact .inr (.inr (.inr (.inr (.inl ⟨rfl, rfl⟩))))
  | trail m k => exact .inr (.inr (.inr (.inr (.inr ⟨rfl, rfl⟩))))
  | done => cases h
  | bad e => cases h
def stepFns (g : Nat) : Array Value := #[.nilFunc, .func (.func 82) #[.pointer (some ⟨g, 0, none⟩)] #[], .func (.func 83) #[.pointer (some ⟨g, 0, none⟩)] #[], .func (.func 84) #[.pointer (some ⟨g, 0, none⟩)] #[], .func (.func 85) #[.pointer (some ⟨g, 0, none⟩)] #[], .func (.func 84) #[.pointer (some ⟨g, 0, none⟩)] #[], .func (.func 84) #[.pointer (some ⟨g, 0, none⟩)] #[], .nilFunc]
/-- A step, whichever. -/
theorem step_fn (O : Nat → Prop) (g B off cap : Nat) (s : St) (b : Bs) (w : World) (h : Dec w O g s) (hs : over s = false) (hG : Good s) (hF : Fed w B off cap b) (hOB : ¬ O B) (h0 : 0 < b.length)
    (hT : Tab w) (hE : ErrV w) (ho : ¬ O 0) (ho2 : ¬ O 3) :
    Calls Tryz.prog (stepFn s) #[.pointer (some ⟨g, 0, none⟩), .slice (some ⟨B, off, none⟩) b.length cap] w (StepPost O g s b w) := by
  cases s with
  | len n => exact known_any O g n _ b w h hG ⟨_, _, rfl⟩ h0
  | opn n => exact open_any O g n _ b w h hG ⟨_, _, rfl⟩ h0
  | chunk m n => exact dchunk_any O g m n _ b w h hG ⟨_, _, rfl⟩ h0
  | size m l => exact line_any O g B off cap _ l b w h rfl hG hF hOB h0 hT hE ho ho2
  | gap m l => exact line_any O g B off cap _ l b w h rfl hG hF hOB h0 hT hE ho ho2
  | trail m l => exact line_any O g B off cap _ l b w h rfl hG hF hOB h0 hT hE ho ho2
  | done => cases hs
  | bad e => cases hs
/-- Where a Feed stands at its loop's head. -/
structure FeedAt (O : Nat → Prop) (g : Nat) (s : St) (b : Bs) (w : World) (k : Nat) (acc : Bs) (st : St) (ov : Value) (wr : World) : Prop where
  le : k ≤ b.length
  eq : run s b = (acc ++ (run st (b.drop k)).1, k + (run st (b.drop k)).2.1, (run st (b.drop k)).2.2)
  good : Good st
  accLe : acc.length ≤ k
  own : OwnB wr ov acc
  new : ∀ j, ov.ownBlock = some j → w.heap.size ≤ j
  dec : Dec wr (fun j => New O w j ∧ ov.ownBlock ≠ some j) g st
  chg : Chg O w wr
theorem FeedAt.start {O : Nat → Prop} {g : Nat} {s : St} {b : Bs} {w : World} (h : Dec w O g s) (hG : Good s) : FeedAt O g s b w 0 [] s (.slice none 0 0) w :=
  ⟨Nat.zero_le _, by simp, hG, Nat.le_refl _, OwnB.nil _, fun j hj => (by cases hj), h.mono (fun k hk => ⟨.inl hk, fun e => (by cases e)⟩), Chg.refl _ _⟩
theorem FeedAt.ends {O : Nat → Prop} {g : Nat} {s : St} {b : Bs} {w : World} {k : Nat} {acc : Bs} {st : St} {ov : Value} {wr : World} (h : FeedAt O g s b w k acc st ov wr) (ho : over st = true ∨ k = b.length) : run s b = (acc, k, st) := by
  rw [h.eq]
  rcases ho with ho | ho
  · rw [run_over ho]; simp
  · rw [ho, List.drop_length, run_nil]; simp
theorem FeedAt.step {O : Nat → Prop} {g : Nat} {s : St} {b : Bs} {w : World} {k : Nat} {acc : Bs} {st : St} {ov : Value} {wr : World} (h : FeedAt O g s b w k acc st ov wr)
    {body taken : Nat} {st' : St} {w' w2 : World} {ov' : Value} (ht : Took st (b.drop k) body taken st') (hD : Dec w' (New (fun j => New O w j ∧ ov.ownBlock ≠ some j) wr) g st') (hC : Chg (fun j => New O w j ∧ ov.ownBlock ≠ some j) wr w')
    (hown : OwnB w2 ov' (acc ++ (b.drop k).take body)) (hC2 : Chg (fun j => ov.ownBlock = some j) w' w2) (hn : ∀ j, ov'.ownBlock = some j → ov.ownBlock = some j ∨ w'.heap.size ≤ j) :
    FeedAt O g s b w (k + taken) (acc ++ (b.drop k).take body) st' ov' w2 := by
  obtain ⟨h1, h2, h3, h4, h5⟩ := ht
  rw [List.length_drop] at h3
  have hle := h.le
  have hovl : ∀ j, ov.ownBlock = some j → j < wr.heap.size := fun j hj => (World.ownsRow.lt h.own j hj).2
  refine ⟨by omega, ?_, h5 h.good, ?_, hown, fun j hj => ?_, ?_, ?_⟩
  · rw [h.eq, h4, List.drop_drop]
    simp only [List.append_assoc, Prod.mk.injEq, true_and, and_true]
    omega
  · rw [List.length_append, List.length_take]; have := h.accLe; omega
  · rcases hn j hj with hj | hj
    · exact h.new j hj
    · have := h.chg.size; have := hC.size; omega
  · have hb := hD.bound
    have hk := hb.kept hC2 (fun j hj hov => by
      rcases hj.1 with hx | hx
      · exact hx.2 hov
      · have := hovl j hov; omega)
    refine hk.mono (fun j hj => ⟨?_, fun hov' => ?_⟩)
    · rcases hj.1 with hx | hx
      · exact hx.1
      · exact .inr (Nat.le_trans h.chg.size hx)
    · rcases hn j hov' with hov | hx
      · rcases hj.1 with hy | hy
        · exact hy.2 hov
        · have := hovl j hov; omega
      · have := hj.2; omega
  · refine (h.chg.trans hC (fun j hj => hj.1)).trans hC2 (fun j hj => .inr (h.new j hj))
/-- The decoder's numbers. -/
theorem Dec.nums {w : World} {O : Nat → Prop} {g : Nat} {s : St} (h : Dec w O g s) : w.cell? ⟨g, 0, none⟩ = some (.int .i64 (num1 s : Nat)) ∧ w.cell? ⟨g, 4, none⟩ = some (.int .i64 (errOf s : Nat)) := by
  obtain ⟨v, h⟩ := h; exact ⟨dc0 h.blk, dc4 h.blk⟩
theorem whole_eq {s : St} (hG : Good s) : decide (num1 s = 7 ∧ errOf s = 0) = doneOf s := by
  cases s <;> first | rfl | skip
  rename_i e
  show decide (7 = 7 ∧ e = 0) = false
  have : e ≠ 0 := by rcases hG with h | h | h | h <;> omega
  simp [this]
theorem over_num {s : St} (h : num1 s = 7) : over s = true := by cases s <;> first | rfl | (simp [num1] at h)
theorem num_pos (s : St) : 0 < num1 s := by cases s <;> simp [num1]
theorem not_over {s : St} (h : num1 s ≠ 7) : over s = false := by cases s <;> first | rfl | exact (h rfl).elim
def FeedPost (O : Nat → Prop) (g : Nat) (s : St) (b : Bs) (w : World) (e : Ending) (w' : World) : Prop :=
  ∃ ov, e = .returned (.tuple #[ov, .int .i64 ((run s b).2.1 : Nat), .bool (doneOf (run s b).2.2), .int .i64 (errOf (run s b).2.2 : Nat)]) ∧ OwnB w' ov (run s b).1 ∧ (∀ j, ov.ownBlock = some j → w.heap.size ≤ j) ∧
    Dec w' (fun j => New O w j ∧ ov.ownBlock ≠ some j) g (run s b).2.2 ∧ Chg O w w'
end Go.Proofs.YtcolnidgembniaaGreatDoor.Fr
/-
  A decoder's Feed: what it returns and leaves. Conditions: the tables; what is fed lies apart from the decoder.
-/
namespace Go.Proofs.YtcolnidgembniaaGreatDoor.Fr
open Go.RowKit Go.Proofs.YtcolnidgembniaaGreatDoor.Tk Go.Proofs.YtcolnidgembniaaGreatDoor.Fd Go.Proofs.YtcolnidgembniaaGreatDoor.Hd
set_option linter.unusedVariables false

theorem FeedAt.post {O : Nat → Prop} {g : Nat} {s : St} {b : Bs} {w0 w : World} {k : Nat} {acc : Bs} {st : St} {ov : Value} {wr : World} (h : FeedAt (fun j => O j ∧ j < w0.heap.size) g s b w k acc st ov wr) (hw : Below w0.heap.size w0 w) (ho : over st = true ∨ k = b.length) {n : Nat} :
    FeedPost O g s b w0 (.returned (.tuple #[ov, .int .i64 (k : Int), .bool (doneOf st), .int .i64 (errOf st : Nat)])) (wr.drewN n) := by
  have hx := h.ends ho
  unfold FeedPost
  rw [hx]
  refine ⟨ov, rfl, row_same h.own (fun _ _ => rfl), fun j hj => Nat.le_trans hw.size (h.new j hj), ?_, ?_⟩
  · refine (h.dec.below (below_drewN (Below.refl _ _) n)).mono (fun j hj => ⟨?_, hj.2⟩)
    rcases hj.1 with h1 | h1
    · exact .inl h1.1
    · exact .inr (Nat.le_trans hw.size h1)
  · exact ((Chg.of_below (O := O) hw).trans h.chg (fun j hj => .inl hj.1)).drewN n
set_option maxRecDepth 100000 in
set_option maxHeartbeats 8000000 in
theorem feed_any (O : Nat → Prop) (g : Nat) (s : St) (v : Value) (b : Bs) (w : World) (h : Dec w O g s) (hG : Good s) (hv : Byts w v b) (hvo : 0 < b.length → ∀ k, v.ownBlock = some k → ¬ O k) (hbl : b.length ≤ 1099511627776)
    (hT : Tab w) (hE : ErrV w) (ho : ¬ O 0) (ho2 : ¬ O 3) :
    Calls Tryz.prog 49 #[.pointer (some ⟨g, 0, none⟩), v] w (FeedPost O g s b w) := by
  obtain ⟨va, vc, hvs⟩ := hv.shape
  obtain ⟨c0, c4⟩ := h.nums
  have hgw : g < w.heap.size := by obtain ⟨u, h⟩ := h; exact block_lt h.blk
  obtain ⟨w1, hw1⟩ : ∃ w1, w1 = w.alloc (.cells (stepFns g) 151) := ⟨_, rfl⟩
  have hb1 : Below w.heap.size w w1 := by rw [hw1]; exact (Below.refl _ _).alloc (Nat.le_refl _) _
  have hs1 : w1.heap.size = w.heap.size + 1 := by rw [hw1]; simp
  have hN1 : w1.heap[w.heap.size]? = some (.cells (stepFns g) 151 (0, 0)) := by rw [hw1]; exact new_block _ _
  have HM := Lib.hid (made_yes g (num1 s) w (num_pos s) c0)
  have HF0 := Lib.hid (FeedAt.start (O := fun j => O j ∧ j < w.heap.size) (b := b) (h.bound.below hb1) hG)
  have HV := Lib.hid (hv.below hb1 (Nat.le_refl _))
  have HBl := Lib.hid hb1
  have htl := hT.lt
  have hel := hE.lt
  have hT1 : Tab w1 := tab_chg hT (Chg.of_below (O := fun _ => False) hb1) (fun h => h)
  have HT := Lib.hid hT1
  have HE := Lib.hid (hE.below hb1)
  have HN1 := Lib.hid hN1
  have hw1u := hw1
  unfold stepFns at hw1u
  have HW1 := Lib.hid hw1u
  subst hvs
  have HO1 := Lib.hid (show ∀ j, New (fun j => O j ∧ j < w.heap.size) w1 j → j < w1.heap.size → O j ∧ j < w.heap.size from fun j hj hl => by
    rcases hj with hj | hj
    · exact hj
    · omega)
  unfold maxLen at *
  clear h hv hT hE hG c0 c4 hw1u hw1 hT1 hN1 hb1
  go_enter Tryz.func49, Tryz.ntmps49
  go_wp2_with fail
  refine HM.out.mono ?_
  rintro e w0 ⟨rfl, rfl⟩
  go_upto_region 4 with fail
  rw [← HW1.out]
  go_loopw [4, 5, 9, 10] (fun vo vu v9 v10 wr => ∃ (k : Nat) (acc : Bs) (st : St), vu = .int .i64 (k : Int) ∧ FeedAt (fun j => O j ∧ j < w.heap.size) g s b w1 k acc st vo wr) (fun _ u _ _ _ => b.length - (intOf u).toNat)
  case atStart => exact ⟨0, [], s, rfl, HF0.out⟩
  case round =>
    obtain ⟨k, acc, st, rfl, hAt⟩ := hrel
    have HA := Lib.hid hAt
    have hk := hAt.le
    obtain ⟨c0, c4⟩ := hAt.dec.nums
    have HWe := Lib.hid (whole_eq hAt.good)
    obtain ⟨S, hS⟩ : ∃ S, S = num1 st := ⟨_, rfl⟩
    obtain ⟨E, hE⟩ : ∃ E, E = errOf st := ⟨_, rfl⟩
    rw [← hS] at c0 HWe
    rw [← hE] at c4 HWe
    have HWh := Lib.hid (whole_any g S E wr.drew c0 c4)
    rw [HWe.out] at HWh
    obtain ⟨D, hD⟩ : ∃ D, D = doneOf st := ⟨_, rfl⟩
    rw [← hD] at HWh
    have HP := Lib.hid (fun (ho : over st = true ∨ k = b.length) => (show FeedPost O g s b w (.returned (.tuple #[u4, .int .i64 (k : Int), .bool D, .int .i64 (E : Int)])) wr.drew from by rw [hD, hE]; exact hAt.post HBl.out ho (n := 1)))
    have HS := Lib.hid hS
    clear hAt hE hD hS
    by_cases hlt : k < b.length
    · by_cases h7 : S = 7
      · have HOv := Lib.hid (show over st = true from over_num (by rw [← HS.out]; exact h7))
        subst h7
        have c0' : wr.cell? ⟨g, 0, none⟩ = some (.int .i64 7) := c0
        clear c0
        go_upto_region 8 with fail
        go_region_with (go_at_call 87; refine HWh.out.mono ?_; rintro e w2 ⟨rfl, rfl⟩)
        all_goals go_wp2_with fail
        all_goals
          refine bodyPost_ret (four_results rfl _ _ _) rfl ?_
          exact HP.out (.inl HOv.out)
      · have h7' : ((S : Int) != 7) = true := by rw [bne_iff_ne]; omega
        have hov : over st = false := not_over (by rw [← HS.out]; exact h7)
        have hfn := stepFn_is hov
        rw [← HS.out] at hfn
        rcases HV.out with ⟨hb0, _⟩ | ⟨B, off, cap, hve, hcap, hcm, hB, hh⟩
        · rw [hb0] at hlt; simp at hlt
        injection hve with e1 e2 e3
        subst e1 e3
        have hOB : ¬ O B := hvo (by omega) B rfl
        have hOB1 : ¬ (O B ∧ B < w.heap.size) := fun hx => hOB hx.1
        have hNB : ¬ New (fun j => O j ∧ j < w.heap.size) w1 B := fun hn => by
          rcases hn with hn | hn
          · exact hOB1 hn
          · omega
        have hNT : ¬ New (fun j => O j ∧ j < w.heap.size) w1 0 := fun hn => by
          rcases hn with hn | hn
          · exact ho hn.1
          · omega
        have hNE : ¬ New (fun j => O j ∧ j < w.heap.size) w1 3 := fun hn => by
          rcases hn with hn | hn
          · exact ho2 hn.1
          · omega
        have hlt2 : B < wr.heap.size := Nat.lt_of_lt_of_le hB HA.out.chg.size
        have hFd : Fed wr B (off + k) (vc - k) (b.drop k) := ⟨by rw [List.length_drop]; omega, by omega, hlt2, by
          have h1 : Holds wr B off b := fun j hj => by rw [World.cell?_of_block (w := w1) (HA.out.chg.block B hB hOB1)]; exact hh j hj
          have h2 := h1.part k b.length (Nat.le_refl _)
          rwa [List.take_length] at h2⟩
        have hFd2 : Fed wr.drew B (off + k) (vc - k) (b.drop k) := ⟨hFd.le, hFd.max, hFd.lt, hFd.holds⟩
        have hTr : Tab wr := tab_chg HT.out HA.out.chg (fun hx => ho hx.1)
        have hEr : ErrV wr := HE.out.chg HA.out.chg (fun hx => ho2 hx.1)
        have hst := step_fn (fun j => New (fun j => O j ∧ j < w.heap.size) w1 j ∧ u4.ownBlock ≠ some j) g B (off + k) (vc - k) st (b.drop k) wr.drew (HA.out.dec.below (below_drewN (Below.refl _ _) 1)) hov HA.out.good hFd2 (fun hx => hNB hx.1) (by rw [List.length_drop]; omega) hTr hEr (fun hx => hNT hx.1) (fun hx => hNE hx.1)
        rw [List.length_drop] at hst
        have HSt := Lib.hid (fun (v' : Value) (hv' : v' = .slice (some ⟨B, off + k, none⟩) (b.length - k) (vc - k)) => (show Calls Tryz.prog (stepFn st) #[.pointer (some ⟨g, 0, none⟩), v'] wr.drew (StepPost (fun j => New (fun j => O j ∧ j < w.heap.size) w1 j ∧ u4.ownBlock ≠ some j) g st (b.drop k) wr.drew) from by subst hv'; exact hst))
        have kF : wr.cell? ⟨w.heap.size, S, none⟩ = some (.func (.func (stepFn st)) #[.pointer (some ⟨g, 0, none⟩)] #[]) := by
          rw [World.cell?_of_block (w := w1) (HA.out.chg.block w.heap.size (by omega) (fun hx => by omega)), Lib.cell_of_heap HN1.out]
          rcases hfn with ⟨rfl, h⟩ | ⟨rfl, h⟩ | ⟨rfl, h⟩ | ⟨rfl, h⟩ | ⟨rfl, h⟩ | ⟨rfl, h⟩ <;> (rw [h]; rfl)
        obtain ⟨F, hF⟩ : ∃ F, F = stepFn st := ⟨_, rfl⟩
        rw [← hF] at hfn HSt kF
        have hent : ∀ args w, (callFunc F args).run Tryz.prog w = .ok (.enter F args) w := by
          rcases hfn with ⟨_, rfl⟩ | ⟨_, rfl⟩ | ⟨_, rfl⟩ | ⟨_, rfl⟩ | ⟨_, rfl⟩ | ⟨_, rfl⟩
          · exact Go.Proofs.enters_of Tryz.func82 (by kernel_rfl) rfl
          · exact Go.Proofs.enters_of Tryz.func83 (by kernel_rfl) rfl
          · exact Go.Proofs.enters_of Tryz.func84 (by kernel_rfl) rfl
          · exact Go.Proofs.enters_of Tryz.func85 (by kernel_rfl) rfl
          · exact Go.Proofs.enters_of Tryz.func84 (by kernel_rfl) rfl
          · exact Go.Proofs.enters_of Tryz.func84 (by kernel_rfl) rfl
        have hS8 : S < 8 := by rcases hfn with ⟨rfl, _⟩ | ⟨rfl, _⟩ | ⟨rfl, _⟩ | ⟨rfl, _⟩ | ⟨rfl, _⟩ | ⟨rfl, _⟩ <;> omega
        have HFd := Lib.hid hFd
        have HNX := Lib.hid (fun (w' : World) (body taken : Nat) (st' : St) (ht : Took st (b.drop k) body taken st') (hD : Dec w' (New (fun j => New (fun j => O j ∧ j < w.heap.size) w1 j ∧ u4.ownBlock ≠ some j) wr.drew) g st') (hC : Chg (fun j => New (fun j => O j ∧ j < w.heap.size) w1 j ∧ u4.ownBlock ≠ some j) wr.drew w') =>
          (show body ≤ taken ∧ 0 < taken ∧ k + taken ≤ b.length ∧ ∀ v', v' = .slice (some ⟨B, off + k, none⟩) body (vc - k) → Calls Tryz.prog 86 #[u4, v'] w' fun e w3 => ∃ ov', e = .returned ov' ∧ FeedAt (fun j => O j ∧ j < w.heap.size) g s b w1 (k + taken) (acc ++ (b.drop k).take body) st' ov' w3 ∧ ∃ a n c, ov' = .slice a n c from by
            have hC' : Chg (fun j => New (fun j => O j ∧ j < w.heap.size) w1 j ∧ u4.ownBlock ≠ some j) wr w' := (Chg.refl _ wr).drew.trans hC (fun i hi => .inl hi)
            have h3 := ht.2.2.1
            rw [List.length_drop] at h3
            have hbt := ht.1
            refine ⟨hbt, ht.2.1, by omega, ?_⟩
            rintro v' rfl
            have hFd' : Fed w' B (off + k) (vc - k) (b.drop k) := ⟨HFd.out.le, HFd.out.max, Nat.lt_of_lt_of_le HFd.out.lt hC'.size, fun j hj => by
              rw [World.cell?_of_block (w := wr) (hC'.block B HFd.out.lt (fun hx => hNB hx.1))]; exact HFd.out.holds j hj⟩
            have hown : OwnB w' u4 acc := row_chg HA.out.own hC' (fun j (hj : u4.ownBlock = some j) => hj) (fun j hj hx => hx.2 hj)
            have hal := HA.out.accLe
            refine (put_any u4 _ acc ((b.drop k).take body) w' hown (hFd'.byts (by rw [List.length_drop]; omega)) (fun j hj e => ?_) (by rw [List.length_take, List.length_drop]; omega)).mono ?_
            · injection e with e
              subst e
              have h5 : w1.heap.size ≤ B := HA.out.new _ hj
              omega
            · rintro e w3 ⟨ov', rfl, h1, h2, h4⟩
              obtain ⟨a, c, hs⟩ := h1.shape
              exact ⟨ov', rfl, HA.out.step ht hD hC' h1 h2 h4, a, _, c, hs⟩))
        have hck : ¬ vc = k := by omega
        have hkc : k ≤ vc := by omega
        clear hov hfn hFd hFd2 hTr hEr hst hF hNB hNT hNE hOB1 hh e2 c4 HWh HWe
        go_upto_region 5 with fail
        go_region_with ((with_reducible show Calls _ F _ _ _); refine (HSt.out _ rfl).mono ?_; rintro e w2 ⟨body, taken, st', rfl, ht, hD, hC⟩; obtain ⟨hbt, ht0, htl2, hput⟩ := HNX.out _ _ _ _ ht hD hC; have HPut := Lib.hid hput; clear ht hD hC hput)
        all_goals
          have hbk : k + body ≤ b.length := by omega
          go_wp2_with fail
          refine (HPut.out _ (by first | rfl | (congr 1 <;> omega))).mono ?_
          rintro e w3 ⟨ov', rfl, hAt', a, n, c, hs⟩
          subst hs
          have HA' := Lib.hid hAt'
          clear hAt'
          go_wp2_with fail
          go_roundw
          case rel => exact ⟨k + taken, _, st', by go_num, HA'.out⟩
          case measure => simp [intOf]; omega
    · have hke : k = b.length := by omega
      have HKE := Lib.hid hke
      clear hke
      go_upto_region 8 with fail
      go_region_with (go_at_call 87; refine HWh.out.mono ?_; rintro e w2 ⟨rfl, rfl⟩)
      all_goals go_wp2_with fail
      all_goals
        refine bodyPost_ret (four_results rfl _ _ _) rfl ?_
        exact HP.out (.inr HKE.out)
end Go.Proofs.YtcolnidgembniaaGreatDoor.Fr
/-
  Bytes in memory of a call's own, however they came there; an append of bytes, of a text or of nothing to them: one law for both ways. Condition: at most 2^40 bytes.
-/
namespace Go.Proofs.YtcolnidgembniaaGreatDoor.Fr
open Go.RowKit Go.Proofs.YtcolnidgembniaaGreatDoor.Tk Go.Proofs.YtcolnidgembniaaGreatDoor.Fd Go.Proofs.YtcolnidgembniaaGreatDoor.Hd
set_option linter.unusedVariables false

/-- A slice of bytes in a block that was laid since base, with what room it has; or nil. -/
def Own (w : World) (base : Nat) (v : Value) (l : Bs) : Prop :=
  (v = .slice none 0 0 ∧ l = []) ∨ ∃ g cap, v = .slice (some ⟨g, 0, none⟩) l.length cap ∧ base ≤ g ∧ g < w.heap.size ∧ l.length ≤ cap ∧ cap ≤ maxLen ∧
    (∀ j, j < cap → (w.cell? ⟨g, j, none⟩).isSome = true ∧ w.frozen? ⟨g, j, none⟩ = false) ∧ Holds w g 0 l
theorem Own.nil (w : World) (base : Nat) : Own w base (.slice none 0 0) [] := .inl ⟨rfl, rfl⟩
theorem Own.mono {w : World} {base base' : Nat} {v : Value} {l : Bs} (h : Own w base v l) (hb : base' ≤ base) : Own w base' v l := by
  rcases h with h | ⟨g, cap, hv, h1, h2⟩
  · exact .inl h
  · exact .inr ⟨g, cap, hv, by omega, h2⟩
theorem Own.form {w : World} {base : Nat} {v : Value} {l : Bs} (h : Own w base v l) : ∃ a cap, v = .slice a l.length cap := by
  rcases h with ⟨rfl, rfl⟩ | ⟨g, cap, hv, _⟩
  · exact ⟨none, 0, rfl⟩
  · exact ⟨_, cap, hv⟩
theorem Own.byts {w : World} {base : Nat} {v : Value} {l : Bs} (h : Own w base v l) : Byts w v l := by
  rcases h with ⟨rfl, rfl⟩ | ⟨g, cap, hv, h1, h2, h3, h4, _, h5⟩
  · exact .inl ⟨rfl, _, _, rfl⟩
  · exact .inr ⟨g, 0, cap, hv, h3, h4, h2, h5⟩
theorem Own.lt {w : World} {base : Nat} {v : Value} {l : Bs} (h : Own w base v l) (k : Nat) (hk : v.ownBlock = some k) : base ≤ k ∧ k < w.heap.size := by
  rcases h with ⟨rfl, _⟩ | ⟨g, cap, rfl, h1, h2, _⟩
  · cases hk
  · injection hk with hk; subst hk; exact ⟨h1, h2⟩
theorem cell_same {w w' : World} {g : Nat} (h : w'.heap[g]? = w.heap[g]?) (j : Nat) : w'.cell? ⟨g, j, none⟩ = w.cell? ⟨g, j, none⟩ := World.cell?_of_block (w := w) (a := ⟨g, j, none⟩) h
theorem frozen_same {w w' : World} {g : Nat} (h : w'.heap[g]? = w.heap[g]?) (j : Nat) : w'.frozen? ⟨g, j, none⟩ = w.frozen? ⟨g, j, none⟩ := World.frozen?_of_block (a := ⟨g, j, none⟩) h
theorem Own.same {w w' : World} {base : Nat} {v : Value} {l : Bs} (h : Own w base v l) (hs : w.heap.size ≤ w'.heap.size) (hb : ∀ k, v.ownBlock = some k → w'.heap[k]? = w.heap[k]?) : Own w' base v l := by
  rcases h with h | ⟨g, cap, hv, h1, h2, h3, h4, h5, h6⟩
  · exact .inl h
  · have hg := hb g (by rw [hv]; rfl)
    refine .inr ⟨g, cap, hv, h1, by omega, h3, h4, fun j hj => ?_, fun j hj => ?_⟩
    · rw [cell_same hg, frozen_same hg]; exact h5 j hj
    · rw [cell_same hg]; exact h6 j hj
theorem Own.below {w w' : World} {base : Nat} {v : Value} {l : Bs} (h : Own w base v l) (hb : Below w.heap.size w w') : Own w' base v l :=
  h.same hb.size (fun k hk => hb.block k (h.lt k hk).2)
theorem Own.chg {O : Nat → Prop} {w w' : World} {base : Nat} {v : Value} {l : Bs} (h : Own w base v l) (hc : Chg O w w') (ho : ∀ k, v.ownBlock = some k → ¬ O k) : Own w' base v l :=
  h.same hc.size (fun k hk => hc.block k (h.lt k hk).2 (ho k hk))
/-- A row of the call's own is such a slice. -/
theorem Own.row {w : World} {base : Nat} {v : Value} {l : Bs} (h : w.ownsRow base 5 1 v l.length (bys l)) : Own w base v l := by
  rcases h.2 with ⟨hv, h0⟩ | ⟨g, cap, cur, hv, hg, hh, hlc, hcm, hcs, _⟩
  · exact .inl ⟨hv, List.length_eq_zero_iff.1 h0⟩
  · have hB : OwnB w v l := owns_mono h (Nat.zero_le _)
    refine .inr ⟨g, cap, hv, hg, block_lt hh, hlc, hcm, fun j hj => ⟨?_, free hh j⟩, hB.holds hv⟩
    rw [Lib.cell_of_heap hh, Array.getElem?_eq_getElem (by omega)]; rfl
theorem below_setCells {B b : Nat} : ∀ (vs : List Value) (o : Nat) (a w : World), Below B a w → B ≤ b → Below B a (w.setCells b o vs)
  | [], _, _, _, h, _ => h
  | v :: r, o, a, w, h, hb => below_setCells r (o + 1) a _ (h.setCell (p := ⟨b, o, none⟩) hb v) hb
theorem size_setCells (b : Nat) : ∀ (vs : List Value) (o : Nat) (w : World), (w.setCells b o vs).heap.size = w.heap.size
  | [], _, _ => rfl
  | v :: r, o, w => by rw [World.setCells, size_setCells b r]; simp [World.setCell]
theorem other_setCells {b k : Nat} (hk : k ≠ b) : ∀ (vs : List Value) (o : Nat) (w : World), (w.setCells b o vs).heap[k]? = w.heap[k]?
  | [], _, _ => rfl
  | v :: r, o, w => by rw [World.setCells, other_setCells hk r]; exact Below.heap_setCell w ⟨b, o, none⟩ v k hk
/-- What an append leaves. -/
def AppPost (base : Nat) (v : Value) (l m : Bs) (w : World) (v' : Value) (w' : World) : Prop :=
  Own w' base v' (l ++ m) ∧ Chg (fun k => v.ownBlock = some k) w w' ∧ (v'.ownBlock = v.ownBlock ∨ v'.ownBlock = some w.heap.size)
theorem run_append_nil {P : Program} (w : World) (t tx ty e : TypeId) (i : TypeInfo) (ht : P.underlying t = some (.slice e)) (hi : P.info? e = some i) (x : Value) (hs : Src P i.size tx x 0 [] w) :
    (Builtin.append_ #[t, tx] ty #[.slice none 0 0, x]).run P w = .ok (.slice none 0 0) w := by
  rcases hs.kind with ⟨e', hk⟩ | hk <;> simp [Builtin.append_, run_underlying ht, run_underlying hk, Go.sizeOf, typeInfo, hi, hs.len, hs.cells]
theorem firstCells_holds (w : World) (g n cap : Nat) (l : Bs) (hn : l.length = n) (h : Holds w g 0 l) : (Builtin.firstCells 1 n (.slice (some ⟨g, 0, none⟩) n cap)).run Tryz.prog w = .ok (bys l).toArray w := by
  refine run_firstCells_some w 1 n ⟨g, 0, none⟩ n cap (bys l) (by rw [bys_length, hn, Nat.mul_one]) (fun j u hj => ?_)
  have hjl : j < l.length := by have := (List.getElem?_eq_some_iff.1 hj).1; rwa [bys_length] at this
  rw [bys_at l j hjl] at hj
  rw [Addr.add_lit]
  have := h j hjl
  rw [this]; exact hj
theorem holds_cells {w : World} {g : Nat} {l m : Bs} {cap : Nat} (h : Holds w g 0 l) (hc : ∀ j, j < cap → (w.cell? ⟨g, j, none⟩).isSome = true) (hr : l.length + m.length ≤ cap) : Holds (w.setCells g l.length (bys m)) g 0 (l ++ m) := by
  intro j hj
  rw [List.length_append] at hj
  rw [Nat.zero_add]
  by_cases h1 : j < l.length
  · rw [World.cell?_setCells_out g (bys m) l.length w ⟨g, j, none⟩ (fun _ _ => .inl h1), List.getElem_append_left h1]
    have := h j h1
    rwa [Nat.zero_add] at this
  · obtain ⟨k, rfl⟩ : ∃ k, j = l.length + k := ⟨j - l.length, by omega⟩
    have hk : k < (bys m).length := by rw [bys_length]; omega
    have h3 := World.cell?_setCells_in g (bys m) l.length w (fun i hi => hc _ (by rw [bys_length] at hi; omega)) k hk
    rw [h3]
    simp [bys]
theorem cells_some {w : World} {g o : Nat} (vs : List Value) (j : Nat) (hall : ∀ i, i < vs.length → (w.cell? ⟨g, o + i, none⟩).isSome = true) (h : (w.cell? ⟨g, j, none⟩).isSome = true) : ((w.setCells g o vs).cell? ⟨g, j, none⟩).isSome = true := by
  by_cases h1 : o ≤ j ∧ j < o + vs.length
  · obtain ⟨k, rfl⟩ : ∃ k, j = o + k := ⟨j - o, by omega⟩
    rw [World.cell?_setCells_in g vs o w hall k (by omega)]; rfl
  · rw [World.cell?_setCells_out g vs o w ⟨g, j, none⟩ (fun _ _ => by show j < o ∨ o + vs.length ≤ j; omega)]; exact h
set_option maxRecDepth 100000 in
theorem run_append_own (w : World) (tx ty : TypeId) (base : Nat) (v x : Value) (l m : Bs) (hb : base ≤ w.heap.size) (h : Own w base v l) (hx : Src Tryz.prog 1 tx x m.length (bys m) w) (hl : l.length + m.length ≤ 1099511627776) :
    ∃ v' w', (Builtin.append_ #[22, tx] ty #[v, x]).run Tryz.prog w = .ok v' w' ∧ AppPost base v l m w v' w' := by
  obtain ⟨i0, hi, hz0, hz1, hz2⟩ := info_parts infoByte3
  have hx' : Src Tryz.prog i0.size tx x m.length (bys m) w := by rw [hz1]; exact hx
  have grow : ∀ (bo : Option Addr) (cap : Nat), v = .slice bo l.length cap → cap < l.length + m.length → (Builtin.firstCells 1 l.length (.slice bo l.length cap)).run Tryz.prog w.drew = .ok (bys l).toArray w.drew → ∃ v' w', (Builtin.append_ #[22, tx] ty #[v, x]).run Tryz.prog w = .ok v' w' ∧ AppPost base v l m w v' w' := by
    intro bo cap hv hc ho
    have hmx : (l ++ m).length = l.length + m.length := List.length_append
    have hgm := grownCap_le_maxLen w (l.length + m.length) cap 5 (by unfold maxLen; omega)
    have hge := grownCap_ge w (l.length + m.length) cap 5
    refine ⟨_, _, by rw [hv]; exact run_append_grow_src w 22 tx ty 5 i0 (.int .u8 0) Tryz.underlying22 hi hz0 bo l.length cap (bys l) (by rw [hz1]; exact ho) x m.length (bys m) hx' hc (by omega) (growslice_fits hc (by rw [hz2]; omega)), ?_, ?_, .inr rfl⟩
    · have hB := new_block' (g := w.heap.size) w.drew (.cells ((bys l ++ bys m).toArray ++ Builtin.zeroCells (Value.int .u8 0).cells (grownCap w (l.length + m.length) cap 5 - (l.length + m.length))) 5) rfl
      refine .inr ⟨w.heap.size, _, by rw [hmx], hb, by simp, by rw [hmx]; exact hge, hgm, fun j hj => ⟨?_, free hB j⟩, fun j hj => ?_⟩
      · rw [Lib.cell_of_heap hB, Array.getElem?_eq_getElem (by simp [size_zeroCells, bys_length, Value.cells]; omega)]; rfl
      · rw [hmx] at hj
        rw [Lib.cell_of_heap hB, Nat.zero_add, Array.getElem?_append_left (by simp [bys_length]; omega), List.getElem?_toArray, ← bys_append, bys_at _ j (by rw [hmx]; exact hj)]
    · exact (Chg.refl _ w).drew.alloc _
  rcases h with ⟨rfl, rfl⟩ | ⟨g, cap, rfl, h1, h2, h3, h4, h5, h6⟩
  · by_cases hm : m.length = 0
    · obtain rfl : m = [] := List.length_eq_zero_iff.1 hm
      exact ⟨_, _, run_append_nil w 22 tx ty 5 i0 Tryz.underlying22 hi x hx', Own.nil _ _, Chg.refl _ _, .inl rfl⟩
    · exact grow none 0 rfl (by simp; omega) (run_firstCells_none w.drew 1 0 0 0)
  · by_cases hr : l.length + m.length ≤ cap
    · have hc : ∀ j, j < (bys m).length → (w.cell? ⟨g, 0 + l.length * i0.size + j, none⟩).isSome = true := fun j hj => by rw [hz1, bys_length] at *; exact (h5 _ (by omega)).1
      have hf : ∀ j, j < (bys m).length → w.frozen? ⟨g, 0 + l.length * i0.size + j, none⟩ = false := fun j hj => by rw [hz1, bys_length] at *; exact (h5 _ (by omega)).2
      have hrun := run_append_room_src (P := Tryz.prog) w 22 tx ty 5 i0 Tryz.underlying22 hi g 0 l.length cap x m.length (bys m) hx' hr hc hf
      rw [hz1, Nat.mul_one, Nat.zero_add] at hrun
      have hb2 : Below g w (w.setCells g l.length (bys m)) := below_setCells _ _ _ _ (Below.refl _ _) (Nat.le_refl _)
      refine ⟨_, _, hrun, .inr ⟨g, cap, by rw [List.length_append], h1, by rw [size_setCells]; exact h2, by rw [List.length_append]; exact hr, h4, fun j hj => ⟨?_, ?_⟩, holds_cells h6 (fun j hj => (h5 j hj).1) hr⟩, ?_, .inl rfl⟩
      · exact cells_some _ _ (fun i hi => (h5 _ (by rw [bys_length] at hi; omega)).1) (h5 j hj).1
      · rw [World.frozen?_setCells]; exact (h5 j hj).2
      · refine ⟨hb2.os, hb2.tape, hb2.output, by rw [size_setCells]; exact Nat.le_refl _, fun k hk ho => other_setCells (fun e => ho (by rw [e]; rfl)) _ _ _⟩
    · exact grow _ cap rfl (by omega) (firstCells_holds w.drew g l.length cap l rfl h6)
/-- An append to bytes of the call's own, in one way. -/
theorem wpList_append_any (w : World) {ops : Array Oper} {rest : List Oper} {o : Oper} {a : Act} {Q : Exit → Act → World → Prop} (hg : o.guard = none) (s x : Operand) (tx : TypeId)
    (hop : o.op = Op.call { callee := Callee.builtin Builtin.append, args := #[s, x], argTypes := #[22, tx] }) (base : Nat) (v y : Value) (l m : Bs) (hs : a.eval s = v) (hy : a.eval x = y) (hb : base ≤ w.heap.size) (h : Own w base v l)
    (hx : Src Tryz.prog 1 tx y m.length (bys m) w) (hl : l.length + m.length ≤ 1099511627776)
    (hK : ∀ v' w', AppPost base v l m w v' w' → wpList Tryz.prog ops Q rest (a.put o.dst v') w') : wpList Tryz.prog ops Q (o :: rest) a w := by
  refine wpList_plain hg fun K hK' => ?_
  obtain ⟨v', w', hrun, hp⟩ := run_append_own w tx o.type base v y l m hb h hx hl
  unfold Oper.wp
  simp [execOp, hop, resolve, invoke, builtin, hs, hy, hrun, Result.andThen]
  exact hK' _ _ (hK v' w' hp)
/-- What is appended: bytes in memory, a text, or none. -/
theorem src_byts {w : World} {v : Value} {m : Bs} (h : Byts w v m) : Src Tryz.prog 1 22 v m.length (bys m) w := by
  rcases h with ⟨rfl, a, cap, rfl⟩ | ⟨b, off, cap, rfl, h1, h2, h3, h4⟩
  · cases a with
    | none => exact Src.ofNil w Tryz.underlying22 cap
    | some a => exact Src.ofSlice w Tryz.underlying22 a 0 cap [] rfl (fun j u hj => by simp at hj) (fun u hu => by simp at hu)
  · refine Src.ofSlice w Tryz.underlying22 ⟨b, off, none⟩ m.length cap (bys m) (by rw [bys_length, Nat.mul_one]) (fun j u hj => ?_) (bys_one m)
    have hjl : j < m.length := by have := (List.getElem?_eq_some_iff.1 hj).1; rwa [bys_length] at this
    rw [bys_at m j hjl] at hj
    rw [Addr.add_lit, h4 j hjl, hj]
theorem src_text (w : World) (s : ByteArray) : Src Tryz.prog 1 9 (.string s) s.data.toList.length (bys s.data.toList) w := by
  have h := Src.ofString (P := Tryz.prog) w Tryz.underlying9 s
  have e : s.data.toList.length = s.size := by simp
  rw [e]
  exact h
/-- Bytes of the call's own, as a text. -/
theorem conv_own {w : World} {base : Nat} {v : Value} {l : Bs} (h : Own w base v l) : (convert 22 9 v).run Tryz.prog w = .ok (.string ⟨l.toArray⟩) w := by
  rcases h with ⟨rfl, rfl⟩ | ⟨g, cap, rfl, _, _, _, _, _, h⟩
  · exact run_convert_bytes_nil w 22 5 Tryz.underlying22 Tryz.underlying5 0 0 9 Tryz.underlying9
  · exact Tk.run_back (P := Tryz.prog) w 22 9 5 g 0 cap l Tryz.underlying22 Tryz.underlying5 Tryz.underlying9 h
end Go.Proofs.YtcolnidgembniaaGreatDoor.Fr
