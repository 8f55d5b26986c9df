/-
  Texts that the law's proof stands on, 4 of them in one file; each one's head says what it proves and under which condition.
-/
import Derived.Test.YtoofdompafkddaaDoorHeadReadsP8
import Derived.Test.YtoofdompafkddaaDoorHeadReadsP5
import Derived.Laws.BytesArg
import Derived.Deep.QuietTactic
import Derived.BigQuiet
import Derived.Test.YtoofdompafkddaaDoorHeadReadsP2
import Derived.Test.YtoofdompafkddaaDoorHeadReadsP6
import Derived.Deep.RegionWith
import Derived.BigRegion
import Derived.OneCell
import Derived.Laws.Rows
/-
  line.cut, line.readMinor and line.readCode: what each returns. Conditions: at most 1024 bytes.
-/
namespace Go.Proofs.YtoofdompafkddaaDoor.Ln
open Go.RowKit Go.Proofs.YtoofdompafkddaaDoor.Tk

/-- The cells of block b from off on hold these bytes. -/
def Holds (w : World) (b off : Nat) (l : Bs) : Prop := ∀ j (hj : j < l.length), w.cell? ⟨b, off + j, none⟩ = some (.int .u8 (l[j].toNat : Int))
theorem Holds.part {w : World} {b off : Nat} {l : Bs} (h : Holds w b off l) (k m : Nat) (hm : m ≤ l.length) : Holds w b (off + k) ((l.take m).drop k) := by
  intro j hj
  have hj' := hj
  rw [part_length l k m hm] at hj'
  rw [part_get l k m j hm hj, Nat.add_assoc]
  exact h (k + j) (by omega)
theorem Holds.none (w : World) (b off : Nat) {l : Bs} (h : l.length = 0) : Holds w b off l := fun _ hj => by omega
theorem Holds.fst {w : World} {b off : Nat} {l : Bs} (h : Holds w b off l) : Holds w b off (fst l) := by
  have := h.part 0 (idx l) (idx_le l)
  simpa [Ln.fst] using this
theorem Holds.rst {w : World} {b off : Nat} {l : Bs} (h : Holds w b off l) : Holds w b (off + (idx l + 1)) (rst l) := by
  have := h.part (idx l + 1) l.length (Nat.le_refl _)
  simpa [Ln.rst] using this
/-- A slice that reads as these bytes, in a block from lo on. -/
def SB (lo : Nat) (w : World) (v : Value) (l : Bs) : Prop := (∃ b off cap, v = .slice (some ⟨b, off, none⟩) l.length cap ∧ l.length ≤ cap ∧ Holds w b off l ∧ lo ≤ b) ∨ (v = .slice none 0 0 ∧ l = [])
theorem SB.drawn {lo : Nat} {w : World} {v : Value} {l : Bs} (h : SB lo w v l) (n : Nat) : SB lo (w.drewN n) v l := h

theorem bytesOf_map (l : Bs) : Lib.bytesOf (l.map fun c => (c.toNat : Int)) = l := by
  induction l with
  | nil => rfl
  | cons c r ih => simp [Lib.bytesOf] at ih ⊢; exact ih
theorem index_any (b off cap : Nat) (l : Bs) (w : World) (h : Holds w b off l) :
    Calls Tryd.prog 69 #[.slice (some ⟨b, off, none⟩) l.length cap, .int .u8 32] w fun e w' => e = .returned (.int .i64 (Lib.indexByte l 32)) ∧ w = w' := by
  refine (bytes_IndexByte b off l.length cap (l.map fun c => (c.toNat : Int)) 32 w (by simp) ?_).mono ?_
  · intro i hi
    rw [h i hi]
    simp [hi]
  · rintro e w' ⟨rfl, rfl⟩
    rw [bytesOf_map]
    exact ⟨rfl, rfl⟩
theorem index_nil (w : World) :
    Calls Tryd.prog 69 #[.slice none 0 0, .int .u8 32] w fun e w' => e = .returned (.int .i64 (-1)) ∧ w = w' :=
  (bytes_IndexByte_nil 32 w).mono fun _ _ ⟨he, hw⟩ => ⟨he, hw.symm⟩

def CutPost (lo : Nat) (w : World) (l : Bs) (e : Ending) (w' : World) : Prop := ∃ a b, e = .returned (.tuple #[a, b]) ∧ SB lo w a (fst l) ∧ SB lo w b (rst l) ∧ ∃ n, w' = w.drewN n

set_option maxHeartbeats 1000000 in
theorem cut_nil (lo : Nat) (w : World) : Calls Tryd.prog 88 #[.slice none 0 0] w (CutPost lo w []) := by
  go_enter Tryd.func88, Tryd.ntmps88
  go_wp2_with (go_at_call 69; refine (index_nil _).mono ?_; rintro e w' ⟨rfl, rfl⟩)
  go_ret2
  exact ⟨_, _, rfl, .inr ⟨rfl, rfl⟩, .inr ⟨rfl, rfl⟩, 0, rfl⟩

set_option maxHeartbeats 1000000 in
theorem cut_some (lo b off cap : Nat) (l : Bs) (w : World) (hl : l.length ≤ 1024) (hcap : l.length ≤ cap) (hc : Holds w b off l) (hlo : lo ≤ b) :
    Calls Tryd.prog 88 #[.slice (some ⟨b, off, none⟩) l.length cap] w (CutPost lo w l) := by
  have HC := Lib.hid hc
  clear hc
  by_cases h : idx l < l.length
  · have HI := Lib.hid (show Lib.indexByte l 32 = (idx l : Int) from by rw [indexByte_eq, if_pos h])
    have HF := Lib.hid (fst_len l)
    have HR := Lib.hid (rst_len l)
    obtain ⟨k, hk⟩ : ∃ k, k = idx l := ⟨_, rfl⟩
    have HK := Lib.hid hk
    rw [← hk] at h HI HF HR
    clear hk
    by_cases h1 : k + 1 < l.length
    · go_enter Tryd.func88, Tryd.ntmps88
      go_wp2_with (go_at_call 69; refine (index_any _ _ _ l _ HC.out).mono ?_; rintro e w' ⟨rfl, rfl⟩; rw [HI.out])
      go_quiet (fail)
      go_wp2_with fail
      go_ret2
      exact ⟨_, _, rfl, .inl ⟨b, off, k, by rw [HF.out]; rfl, by rw [HF.out]; exact Nat.le_refl _, HC.out.fst, hlo⟩, .inl ⟨b, off + (k + 1), l.length - (k + 1), by rw [HR.out]; rfl, by rw [HR.out]; exact Nat.le_refl _, by have := HC.out.rst; rw [← HK.out] at this; exact this, hlo⟩, _, rfl⟩
    · go_enter Tryd.func88, Tryd.ntmps88
      go_wp2_with (go_at_call 69; refine (index_any _ _ _ l _ HC.out).mono ?_; rintro e w' ⟨rfl, rfl⟩; rw [HI.out])
      go_quiet (fail)
      go_wp2_with fail
      go_ret2
      exact ⟨_, _, rfl, .inl ⟨b, off, k, by rw [HF.out]; rfl, by rw [HF.out]; exact Nat.le_refl _, HC.out.fst, hlo⟩, .inl ⟨b, off, 0, by rw [HR.out, show l.length - (k + 1) = 0 from by omega]; rfl, by rw [HR.out]; omega, Holds.none _ _ _ (by rw [HR.out]; omega), hlo⟩, _, rfl⟩
  · have HI := Lib.hid (show Lib.indexByte l 32 = -1 from by rw [indexByte_eq, if_neg h])
    have HF := Lib.hid (fst_full h)
    have HR := Lib.hid (rst_full h)
    clear h
    go_enter Tryd.func88, Tryd.ntmps88
    go_wp2_with (go_at_call 69; refine (index_any _ _ _ l _ HC.out).mono ?_; rintro e w' ⟨rfl, rfl⟩; rw [HI.out])
    go_ret2
    exact ⟨_, _, rfl, by rw [HF.out]; exact .inl ⟨b, off, _, rfl, Nat.le_refl _, HC.out, hlo⟩, by rw [HR.out]; exact .inr ⟨rfl, rfl⟩, 0, rfl⟩

theorem cut_any (lo : Nat) (v : Value) (l : Bs) (w : World) (hl : l.length ≤ 1024) (h : SB lo w v l) : Calls Tryd.prog 88 #[v] w (CutPost lo w l) := by
  rcases h with ⟨b, off, cap, rfl, hcap, hc, hlo⟩ | ⟨rfl, rfl⟩
  · exact cut_some lo b off cap l w hl hcap hc hlo
  · exact cut_nil lo w

/-- 'string(b)' of bytes that lie so. -/
theorem run_back {lo : Nat} {v : Value} {l : Bs} (w : World) (h : SB lo w v l) : (convert 22 9 v).run Tryd.prog w = .ok (.string ⟨l.toArray⟩) w := by
  rcases h with ⟨b, off, cap, rfl, _, hc, _⟩ | ⟨rfl, rfl⟩
  · refine run_convert_bytes_back w 22 9 5 ⟨b, off, none⟩ cap l Tryd.underlying22 Tryd.underlying5 Tryd.underlying9 fun j hj => ?_
    have := hc j hj
    by_cases h0 : j = 0
    · subst h0; simpa [Addr.add] using this
    · simpa [Addr.add, h0] using this
  · exact run_convert_bytes_nil w 22 5 Tryd.underlying22 Tryd.underlying5 0 0 9 Tryd.underlying9

/-- The version's text of a minor 0 or 1. -/
theorem version_small (n : Nat) (hn : n < 2) (w : World) :
    Calls Tryd.prog 125 #[.int .i64 (n : Int)] w fun e w' => e = .returned (.string ⟨#[72, 84, 84, 80, 47, 49, 46, 48 + UInt8.ofNat n]⟩) ∧ w = w' := by
  have HD := Lib.hid (show Lib.decDigits n = [48 + UInt8.ofNat n] from
    match n, hn with
    | 0, _ => by kernel_rfl
    | 1, _ => by kernel_rfl)
  go_enter Tryd.func125, Tryd.ntmps125
  go_wp2_with fail
  refine (strconv_Itoa_small n (by omega) _).mono ?_
  rintro e w' ⟨rfl, rfl⟩
  rw [HD.out]
  go_wp2_with fail
  go_ret
  exact ⟨rfl, rfl⟩
end Go.Proofs.YtoofdompafkddaaDoor.Ln
/-
  line.readMinor and line.readCode: what each returns. Condition: at most 1024 bytes.
-/
namespace Go.Proofs.YtoofdompafkddaaDoor.Ln
open Go.RowKit Go.Proofs.YtoofdompafkddaaDoor.Tk

theorem version0 (w : World) : Calls Tryd.prog 125 #[.int .i64 0] w fun e w' => e = .returned (.string ⟨#[72, 84, 84, 80, 47, 49, 46, 48]⟩) ∧ w' = w :=
  (version_small 0 (by omega) w).mono fun _ _ ⟨he, hw⟩ => ⟨he, hw.symm⟩
theorem version1 (w : World) : Calls Tryd.prog 125 #[.int .i64 1] w fun e w' => e = .returned (.string ⟨#[72, 84, 84, 80, 47, 49, 46, 49]⟩) ∧ w' = w :=
  (version_small 1 (by omega) w).mono fun _ _ ⟨he, hw⟩ => ⟨he, hw.symm⟩
theorem mk_is {l m : Bs} (h : l = m) : (l == m) = true := by rw [h]; simp
theorem mk_not {l m : Bs} (h : l ≠ m) : (l == m) = false := by rw [beq_eq_false_iff_ne]; exact h

def MinPost (l : Bs) (w : World) (e : Ending) (w' : World) : Prop := e = .returned (.int .i64 (minorOf l)) ∧ ∃ n, w' = w.drewN n
def MinRel (l : Bs) (w : World) (i : Value) (wr : World) : Prop :=
  ∃ z : Int, i = .int .i64 z ∧ (z = 0 ∨ (z = 1 ∧ l ≠ ver0) ∨ (z = 2 ∧ l ≠ ver0 ∧ l ≠ ver1)) ∧ ∃ n, wr = w.drewN n

theorem drew_add {w : World} {a b : Nat} {x y : World} (h1 : x = w.drewN a) (h2 : y = x.drewN b) : ∃ n, y = w.drewN n := ⟨a + b, by rw [h2, h1, World.drewN_drewN]⟩

set_option maxHeartbeats 1000000 in
theorem readMinor_any (lo : Nat) (v : Value) (l : Bs) (w : World) (h : SB lo w v l) :
    Calls Tryd.prog 89 #[v] w (MinPost l w) := by
  have HS := Lib.hid h
  clear h
  go_enter Tryd.func89, Tryd.ntmps89
  go_wp2_with fail
  go_loopw [4] (fun i wr => MinRel l w i wr) (fun i _ => (2 - intOf i).toNat)
  case atStart => exact ⟨0, rfl, .inl rfl, 0, rfl⟩
  case round =>
    obtain ⟨z, rfl, hz, n0, hw⟩ := hrel
    have hback := fun m => run_back (wr.drewN m) (show SB lo (wr.drewN m) v l from by rw [hw]; exact HS.out.drawn n0)
    have HW := Lib.hid hw
    clear hw
    rcases hz with rfl | ⟨rfl, h0⟩ | ⟨rfl, h0, h1⟩
    · by_cases h : l = [72, 84, 84, 80, 47, 49, 46, 48]
      · have t := mk_is h
        have HV := Lib.hid (show minorOf l = 0 from by unfold minorOf ver0; rw [if_pos h])
        clear h
        go_wp2_with fail
        go_quiet ((go_at_call 125; exact Calls.quiet_of_same (version0 _)))
        go_wp2_with fail
        go_ret
        exact ⟨by rw [HV.out]; rfl, drew_add HW.out rfl⟩
      · have t := mk_not h
        have HN := Lib.hid h
        clear h
        go_wp2_with fail
        go_quiet ((go_at_call 125; exact Calls.quiet_of_same (version0 _)))
        go_wp2_with fail
        go_roundw
        case rel => exact ⟨1, rfl, .inr (.inl ⟨rfl, HN.out⟩), drew_add HW.out rfl⟩
        case measure => simp [intOf]
    · by_cases h : l = [72, 84, 84, 80, 47, 49, 46, 49]
      · have t := mk_is h
        have HV := Lib.hid (show minorOf l = 1 from by unfold minorOf; rw [if_neg h0, if_pos (show l = ver1 from h)])
        clear h h0
        go_wp2_with fail
        go_quiet ((go_at_call 125; exact Calls.quiet_of_same (version1 _)))
        go_wp2_with fail
        go_ret
        exact ⟨by rw [HV.out]; rfl, drew_add HW.out rfl⟩
      · have t := mk_not h
        have HN := Lib.hid h
        have HN0 := Lib.hid h0
        clear h h0
        go_wp2_with fail
        go_quiet ((go_at_call 125; exact Calls.quiet_of_same (version1 _)))
        go_wp2_with fail
        go_roundw
        case rel => exact ⟨2, rfl, .inr (.inr ⟨rfl, HN0.out, HN.out⟩), drew_add HW.out rfl⟩
        case measure => simp [intOf]
    · have HV := Lib.hid (show minorOf l = -1 from by unfold minorOf; rw [if_neg h0, if_neg h1])
      clear h0 h1
      go_wp2_with fail
      go_ret
      exact ⟨by rw [HV.out]; rfl, _, HW.out⟩

theorem code_short {l : Bs} (h : l.length ≠ 3) : codeOf l = -1 := by
  match l with
  | [] => rfl
  | [_] => rfl
  | [_, _] => rfl
  | [_, _, _] => exact absurd rfl h
  | _ :: _ :: _ :: _ :: _ => rfl
theorem code_of {l : Bs} {most : Int} (h : l.length = 3) (hm : 999 ≤ most) : codeOf l = if (Num.numOf ⟨l.toArray⟩ most).2 = true then (Num.numOf ⟨l.toArray⟩ most).1 else -1 := by
  match l, h with
  | [a, b, c], _ =>
    have h1 : (⟨#[a, b, c]⟩ : ByteArray).size = 3 := rfl
    have h2 : (⟨#[a, b, c]⟩ : ByteArray).data.toList = [a, b, c] := rfl
    have hd : ∀ c : UInt8, Num.dg c = dgt c := fun _ => rfl
    show codeOf [a, b, c] = if (Num.numOf ⟨#[a, b, c]⟩ most).2 = true then (Num.numOf ⟨#[a, b, c]⟩ most).1 else -1
    unfold Num.numOf codeOf
    rw [h1, h2]
    cases ha : dgt a <;> cases hb : dgt b <;> cases hc : dgt c
    all_goals simp only [List.all_cons, List.all_nil, hd, ha, hb, hc]
    all_goals first | (simp; done) | skip
    have hno : ¬ (3 = 0 ∨ most < 0 ∨ (true && (true && (true && true))) = false) := by simp; omega
    rw [if_pos (show (true && true && true) = true from rfl)]
    simp only [if_neg hno, if_true]
    have e1 := Num.dg_bd (c := a) ha
    have e2 := Num.dg_bd (c := b) hb
    have e3 := Num.dg_bd (c := c) hc
    simp only [Num.num, Num.step, List.foldl_cons, List.foldl_nil]
    rw [if_neg (by omega)]
    rw [if_neg (by omega)]
    rw [if_neg (by omega)]
    omega

set_option maxHeartbeats 1000000 in
theorem readCode_any (lo : Nat) (v : Value) (l : Bs) (w : World) (hl : l.length ≤ 1024) (h : SB lo w v l) :
    Calls Tryd.prog 95 #[v] w fun e w' => e = .returned (.int .i64 (codeOf l)) ∧ w = w' := by
  have hback := run_back w h
  have HL : ∃ a cap, v = .slice a l.length cap := by
    rcases h with ⟨b, off, cap, rfl, _, _, _⟩ | ⟨rfl, rfl⟩
    · exact ⟨_, _, rfl⟩
    · exact ⟨_, _, rfl⟩
  obtain ⟨a, cap, rfl⟩ := HL
  clear h
  by_cases h3 : l.length = 3
  · have HV := Lib.hid (code_of (most := 999) h3 (by omega))
    have t : ((l.length : Int) != 3) = false := by rw [h3]; rfl
    have HS := Lib.hid (show (⟨l.toArray⟩ : ByteArray).size ≤ maxLen from by show l.toArray.size ≤ _; rw [List.size_toArray]; unfold maxLen; omega)
    obtain ⟨N, hN⟩ : ∃ N, N = Num.numOf ⟨l.toArray⟩ 999 := ⟨_, rfl⟩
    have HN := Lib.hid hN
    rw [← hN] at HV
    clear h3 hN
    obtain ⟨N1, N2⟩ := N
    cases N2 with
    | true =>
      go_enter Tryd.func95, Tryd.ntmps95
      go_wp2_with (go_at_call 113; refine (Num.number_any _ 999 _ HS.out (by omega)).mono ?_; rintro e w' ⟨rfl, rfl⟩; rw [← HN.out])
      go_ret
      exact ⟨by rw [HV.out]; rfl, rfl⟩
    | false =>
      go_enter Tryd.func95, Tryd.ntmps95
      go_wp2_with (go_at_call 113; refine (Num.number_any _ 999 _ HS.out (by omega)).mono ?_; rintro e w' ⟨rfl, rfl⟩; rw [← HN.out])
      go_ret
      exact ⟨by rw [HV.out]; rfl, rfl⟩
  · have HV := Lib.hid (code_short h3)
    have t : ((l.length : Int) != 3) = true := by rw [bne_iff_ne]; omega
    clear h3
    go_enter Tryd.func95, Tryd.ntmps95
    go_wp2_with fail
    go_ret
    exact ⟨by rw [HV.out]; rfl, rfl⟩
end Go.Proofs.YtoofdompafkddaaDoor.Ln
/-
  In a seat that has token.Value, too: token.Is stands in TokIs. No condition.
-/

/-
  The closure of line.Request: what it returns, and what it stores. Conditions: at most 1024 bytes; the table of token bytes.
-/
namespace Go.Proofs.YtoofdompafkddaaDoor.Ln
open Go.RowKit Go.Proofs.YtoofdompafkddaaDoor.Tk

/-- Three cells that lie one behind the other. -/
structure C3 (g : Nat) (t0 t1 t2 : TypeId) (a b c : Value) (w : World) : Prop where
  h0 : w.heap[g]? = some (.cells #[a] t0 (0, 0))
  h1 : w.heap[g + 1]? = some (.cells #[b] t1 (0, 0))
  h2 : w.heap[g + 2]? = some (.cells #[c] t2 (0, 0))
theorem C3.put {g : Nat} {t0 t1 t2 : TypeId} {a b c : Value} {w : World} (h : C3 g t0 t1 t2 a b c w) (x y z : Value) :
    C3 g t0 t1 t2 x y z (((w.setCell ⟨g, 0, none⟩ x).setCell ⟨g + 1, 0, none⟩ y).setCell ⟨g + 2, 0, none⟩ z) := by
  have e1 : ∀ v : World, ∀ q : Value, v.heap[g]? = (v.setCell ⟨g + 1, 0, none⟩ q).heap[g]? := fun v q => (heap_setCell_other _ _ _ _ (by show g ≠ g + 1; omega)).symm
  refine ⟨?_, ?_, ?_⟩
  · rw [heap_setCell_other _ _ _ _ (by show g ≠ g + 2; omega), heap_setCell_other _ _ _ _ (by show g ≠ g + 1; omega)]; exact one_setCell h.h0
  · rw [heap_setCell_other _ _ _ _ (by show g + 1 ≠ g + 2; omega)]
    exact one_setCell (by rw [heap_setCell_other _ _ _ _ (by show g + 1 ≠ g; omega)]; exact h.h1)
  · exact one_setCell (by rw [heap_setCell_other _ _ _ _ (by show g + 2 ≠ g + 1; omega), heap_setCell_other _ _ _ _ (by show g + 2 ≠ g; omega)]; exact h.h2)

theorem C3.heap {g : Nat} {t0 t1 t2 : TypeId} {a b c : Value} {w W : World} (h : C3 g t0 t1 t2 a b c w) (e : W.heap = w.heap) : C3 g t0 t1 t2 a b c W := ⟨by rw [e]; exact h.h0, by rw [e]; exact h.h1, by rw [e]; exact h.h2⟩
def put3 (g : Nat) (w : World) (x y z : Value) : World := ((w.setCell ⟨g, 0, none⟩ x).setCell ⟨g + 1, 0, none⟩ y).setCell ⟨g + 2, 0, none⟩ z
theorem put3_below {g : Nat} {w0 w : World} (h : Below g w0 w) (x y z : Value) : Below g w0 (put3 g w x y z) :=
  ((h.setCell (p := ⟨g, 0, none⟩) (Nat.le_refl _) x).setCell (p := ⟨g + 1, 0, none⟩) (by show g ≤ g + 1; omega) y).setCell (p := ⟨g + 2, 0, none⟩) (by show g ≤ g + 2; omega) z
def ReqPost (g : Nat) (l : Bs) (w : World) (e : Ending) (w' : World) : Prop :=
  e = .returned (.bool (!reqOk l)) ∧ C3 g 9 9 3 (.string ⟨(fst l).toArray⟩) (.string ⟨(fst (rst l)).toArray⟩) (.int .i64 (minorOf (rst (rst l)))) w' ∧ Below g w w'

theorem cell_heap {w W : World} (e : W.heap = w.heap) (a : Addr) : W.cell? a = w.cell? a := by unfold World.cell?; rw [e]
theorem SB.heap {lo : Nat} {w W : World} {v : Value} {l : Bs} (h : SB lo w v l) (e : W.heap = w.heap) : SB lo W v l := by
  rcases h with ⟨b, off, cap, hv, hcap, hc, hlo⟩ | h
  · exact .inl ⟨b, off, cap, hv, hcap, fun j hj => by rw [cell_heap e]; exact hc j hj, hlo⟩
  · exact .inr h
theorem SB.set {lo : Nat} {w : World} {v : Value} {l : Bs} (h : SB lo w v l) (p : Addr) (x : Value) (hp : p.block < lo) : SB lo (w.setCell p x) v l := by
  rcases h with ⟨b, off, cap, hv, hcap, hc, hlo⟩ | h
  · refine .inl ⟨b, off, cap, hv, hcap, fun j hj => ?_, hlo⟩
    have e := hc j hj
    unfold World.cell? at e ⊢
    rw [heap_setCell_other _ _ _ _ (by show b ≠ p.block; omega)]
    exact e
  · exact .inr h
theorem tab_heap {w W : World} (h : Tab w) (e : W.heap = w.heap) : Tab W := fun n hn => by rw [cell_heap e]; exact h n hn
theorem tab_set {w : World} (h : Tab w) (p : Addr) (x : Value) (hp : 0 < p.block) : Tab (w.setCell p x) :=
  h.below (Below.setCell (Below.refl (0 + 1) w) (p := p) (by omega) x) (by omega)
theorem size_le {l : Bs} {n : Nat} (h : l.length ≤ n) : (⟨l.toArray⟩ : ByteArray).size ≤ n := by show l.toArray.size ≤ _; rw [List.size_toArray]; exact h

set_option maxHeartbeats 4000000 in
theorem reqClosure_any (g : Nat) (v : Value) (l : Bs) (w : World) (a b c : Value) (hl : l.length ≤ 1024) (hS : SB (g + 3) w v l) (hC : C3 g 9 9 3 a b c w) (hT : Tab w) (hg : 0 < g) :
    Calls Tryd.prog 87 #[v, .pointer (some ⟨g, 0, none⟩), .pointer (some ⟨g + 1, 0, none⟩), .pointer (some ⟨g + 2, 0, none⟩)] w (ReqPost g l w) := by
  have HS := Lib.hid hS
  have HT := Lib.hid hT
  have HC := Lib.hid hC
  clear hS hT hC
  go_enter Tryd.func87, Tryd.ntmps87
  go_wp2_with fail
  refine (cut_any (g + 3) v l _ hl HS.out).mono ?_
  rintro e w1 ⟨x1, y1, rfl, hx1, hy1, n1, hw1⟩
  have HX1 := Lib.hid hx1
  have HY1 := Lib.hid (show SB (g + 3) w1 y1 (rst l) from by rw [hw1]; exact hy1)
  have HW1 := Lib.hid hw1
  clear hx1 hy1 hw1
  go_wp2_with fail
  refine (cut_any (g + 3) y1 (rst l) _ (Nat.le_trans (rst_le l) hl) HY1.out).mono ?_
  rintro e w2 ⟨x2, y2, rfl, hx2, hy2, n2, hw2⟩
  have hw : w2.heap = w.heap := by rw [hw2, HW1.out]; rfl
  have HH := Lib.hid hw
  have HX := Lib.hid (HX1.out.heap hw)
  have HX2 := Lib.hid (hx2.heap (show w2.heap = w1.heap from by rw [hw2]; rfl))
  have HY2 := Lib.hid (hy2.heap (show w2.heap = w1.heap from by rw [hw2]; rfl))
  have hb1 : ∀ W : World, W.heap = w2.heap → (convert 22 9 x1).run Tryd.prog W = .ok (.string ⟨(fst l).toArray⟩) W := fun W e => run_back W (HX.out.heap e)
  have hb2 : ∀ W : World, W.heap = w2.heap → (convert 22 9 x2).run Tryd.prog W = .ok (.string ⟨(fst (rst l)).toArray⟩) W := fun W e => run_back W (HX2.out.heap e)
  have hb2s : ∀ (W : World) (x : Value), W.heap = (w2.setCell ⟨g, 0, none⟩ x).heap → (convert 22 9 x2).run Tryd.prog W = .ok (.string ⟨(fst (rst l)).toArray⟩) W := fun W x e => run_back W ((HX2.out.set ⟨g, 0, none⟩ x (by show g < g + 3; omega)).heap e)
  obtain ⟨A, hA⟩ : ∃ A : ByteArray, A = ⟨(fst l).toArray⟩ := ⟨_, rfl⟩
  obtain ⟨B, hB⟩ : ∃ B : ByteArray, B = ⟨(fst (rst l)).toArray⟩ := ⟨_, rfl⟩
  obtain ⟨M, hM⟩ : ∃ M : Int, M = minorOf (rst (rst l)) := ⟨_, rfl⟩
  have HA := Lib.hid hA
  have HB := Lib.hid hB
  have HM := Lib.hid hM
  have HSA := Lib.hid (show A.size ≤ maxLen from by rw [hA]; exact size_le (by unfold maxLen; have := fst_le l; omega))
  have HSB := Lib.hid (show B.size ≤ maxLen from by rw [hB]; exact size_le (by unfold maxLen; have := fst_le (rst l); have := rst_le l; omega))
  have HR := Lib.hid (show reqOk l = (isTok A.data.toList && isTgt B.data.toList && isMin M) from by rw [hA, hB, hM]; rfl)
  have c0 : w2.cell? ⟨g, 0, none⟩ = some a := by rw [cell_heap hw]; exact cell_of_one HC.out.h0
  have f0 : w2.frozen? ⟨g, 0, none⟩ = false := free_of_one (by rw [hw]; exact HC.out.h0)
  have c1 : w2.cell? ⟨g + 1, 0, none⟩ = some b := by rw [cell_heap hw]; exact cell_of_one HC.out.h1
  have f1 : w2.frozen? ⟨g + 1, 0, none⟩ = false := free_of_one (by rw [hw]; exact HC.out.h1)
  have c2 : w2.cell? ⟨g + 2, 0, none⟩ = some c := by rw [cell_heap hw]; exact cell_of_one HC.out.h2
  have f2 : w2.frozen? ⟨g + 2, 0, none⟩ = false := free_of_one (by rw [hw]; exact HC.out.h2)
  rw [← hA] at hb1
  rw [← hB] at hb2 hb2s
  have k1 := hb1 w2.drew rfl
  have k1m := fun m => hb1 (w2.drewN m) rfl
  have k2 := hb2 w2.drew rfl
  have k2m := fun m => hb2 (w2.drewN m) rfl
  have k2s := fun x => hb2s (w2.drew.setCell ⟨g, 0, none⟩ x) x rfl
  have k2t := fun x => hb2s (w2.setCell ⟨g, 0, none⟩ x).drew x rfl
  have k2sm := fun m x => hb2s ((w2.drewN m).setCell ⟨g, 0, none⟩ x) x rfl
  have k2tm := fun m x => hb2s ((w2.setCell ⟨g, 0, none⟩ x).drewN m) x rfl
  have s0 := Lib.hid HY2.out
  have s1 := Lib.hid fun x => HY2.out.set ⟨g, 0, none⟩ x (by show g < g + 3; omega)
  have s2 := Lib.hid fun x y => (HY2.out.set ⟨g, 0, none⟩ x (by show g < g + 3; omega)).set ⟨g + 1, 0, none⟩ y (by show g + 1 < g + 3; omega)
  have HTab := Lib.hid (show ∀ x y z, Tab (put3 g w2 x y z) from fun x y z => tab_set (tab_set (tab_set (tab_heap HT.out hw) ⟨g, 0, none⟩ x hg) ⟨g + 1, 0, none⟩ y (by show _ < g + 1; omega)) ⟨g + 2, 0, none⟩ z (by show _ < g + 2; omega))
  have HC3 := Lib.hid (show ∀ x y z, C3 g 9 9 3 x y z (put3 g w2 x y z) from fun x y z => (HC.out.heap hw).put x y z)
  have HBel := Lib.hid (show ∀ x y z, Below g w (put3 g w2 x y z) from fun x y z => put3_below (by rw [hw2, HW1.out]; exact Below.mk rfl rfl rfl (by exact Nat.le_refl _) (fun _ _ => rfl)) x y z)
  clear hb2s
  clear hb1 hb2
  clear hx2 hy2 hw2 hw hA hB hM HX1 HY1 HW1
  go_wp2_with fail
  go_region_with (first | (go_at_call 89; refine (readMinor_any (g + 3) y2 (rst (rst l)) _ (by first | exact s0.out.heap (by rfl) | exact (s1.out _).heap (by rfl) | exact (s2.out _ _).heap (by rfl))).mono ?_; rintro e w' ⟨rfl, m, rfl⟩; rw [← HM.out]))
  all_goals
    go_wp2_with fail
    refine (is_any A _ HSA.out (tab_heap (HTab.out _ _ _) (by rfl))).mono ?_
    rintro e w' ⟨rfl, rfl⟩
    cases h1 : isTok A.data.toList with
    | false =>
      have HV := Lib.hid (show reqOk l = false from by rw [HR.out, h1]; rfl)
      clear h1
      go_wp2_with fail
      go_ret
      exact ⟨by rw [HV.out]; rfl, by rw [← HA.out, ← HB.out, ← HM.out]; exact (HC3.out _ _ _).heap (by rfl), Below.mk (HBel.out (.string A) (.string B) (.int .i64 M)).os (HBel.out (.string A) (.string B) (.int .i64 M)).tape (HBel.out (.string A) (.string B) (.int .i64 M)).output (HBel.out (.string A) (.string B) (.int .i64 M)).size (HBel.out (.string A) (.string B) (.int .i64 M)).block⟩
    | true =>
      have HI1 := Lib.hid h1
      clear h1
      go_wp2_with fail
      refine (isTarget_any B _ HSB.out).mono ?_
      rintro e w' ⟨rfl, rfl⟩
      cases h2 : isTgt B.data.toList with
      | false =>
        have HV := Lib.hid (show reqOk l = false from by rw [HR.out, h2, HI1.out]; rfl)
        clear h2
        go_wp2_with fail
        go_ret
        exact ⟨by rw [HV.out]; rfl, by rw [← HA.out, ← HB.out, ← HM.out]; exact (HC3.out _ _ _).heap (by rfl), Below.mk (HBel.out (.string A) (.string B) (.int .i64 M)).os (HBel.out (.string A) (.string B) (.int .i64 M)).tape (HBel.out (.string A) (.string B) (.int .i64 M)).output (HBel.out (.string A) (.string B) (.int .i64 M)).size (HBel.out (.string A) (.string B) (.int .i64 M)).block⟩
      | true =>
        have HI2 := Lib.hid h2
        clear h2
        go_wp2_with fail
        refine (isMinor_any M _).mono ?_
        rintro e w' ⟨rfl, rfl⟩
        have HV := Lib.hid (show reqOk l = isMin M from by rw [HR.out, HI2.out, HI1.out]; rfl)
        go_wp2_with fail
        go_ret
        exact ⟨by rw [HV.out]; rfl, by rw [← HA.out, ← HB.out, ← HM.out]; exact (HC3.out _ _ _).heap (by rfl), Below.mk (HBel.out (.string A) (.string B) (.int .i64 M)).os (HBel.out (.string A) (.string B) (.int .i64 M)).tape (HBel.out (.string A) (.string B) (.int .i64 M)).output (HBel.out (.string A) (.string B) (.int .i64 M)).size (HBel.out (.string A) (.string B) (.int .i64 M)).block⟩
end Go.Proofs.YtoofdompafkddaaDoor.Ln
