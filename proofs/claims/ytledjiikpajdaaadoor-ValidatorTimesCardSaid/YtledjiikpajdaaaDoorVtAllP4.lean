/-
  Texts that the laws' proofs stand on, 3 of them in one file; each one's head says what it proves and under which condition.
-/
import Derived.Test.YtledjiikpajdaaaDoorVtAllP3
import Derived.BigRegion
import Derived.Laws.EntriesVeiled
import Derived.Laws.ResultCell
/-
  The closure of date.fieldReader at the letter e (a day of two digits, or a blank and one digit), and at whatever letter the forms have. Conditions: as for cutNumber and cutName.
-/
namespace Go.Proofs.YtledjiikpajdaaaDoor.Dp
open Go.RowKit Go.Proofs.YtledjiikpajdaaaDoor.Dt
set_option linter.unusedVariables false

theorem blank_any (c : UInt8) (w : World) :
    Calls Tryd.prog 83 #[.int .u8 (c.toNat : Int)] w fun e w' => e = .returned (.bool (c == 32 || c == 9)) ∧ w = w' := by
  by_cases h : c = 32
  · subst h
    go_enter Tryd.func83, Tryd.ntmps83
    go_wp2_with fail
    go_ret
    exact ⟨rfl, rfl⟩
  · by_cases h' : c = 9
    · subst h'
      go_enter Tryd.func83, Tryd.ntmps83
      go_wp2_with fail
      go_ret
      exact ⟨rfl, rfl⟩
    · have t1 : ((c.toNat : Int) == 32) = false := beq_eq_false_iff_ne.2 (by intro e; apply h; apply UInt8.toNat.inj; simpa using (by omega : c.toNat = 32))
      have t2 : ((c.toNat : Int) == 9) = false := beq_eq_false_iff_ne.2 (by intro e; apply h'; apply UInt8.toNat.inj; simpa using (by omega : c.toNat = 9))
      have HB := Lib.hid (show (c == 32 || c == 9) = false from by simp [h, h'])
      clear h h'
      go_enter Tryd.func83, Tryd.ntmps83
      go_wp2_with fail
      go_ret
      exact ⟨by rw [HB.out]; rfl, rfl⟩
theorem text_empty {s : ByteArray} (h : s.size = 0) : s.toList = [] := by
  rw [ByteArray.toList_eq, ← List.length_eq_zero_iff]; simpa using h
theorem text_full {s : ByteArray} (h : 0 < s.size) : s.toList.isEmpty = false := by
  rw [ByteArray.toList_eq]
  cases hl : s.data.toList with
  | nil => have h1 : s.data.toList.length = 0 := by rw [hl]; rfl
           rw [Array.length_toList] at h1
           have h2 : s.size = s.data.size := rfl
           omega
  | cons => rfl
abbrev ReadsE (w0 : World) (b : Nat) (X : Bool × List Int × Bs) (w : World) : Prop :=
  Calls Tryd.prog 81 #[.int .u8 101, .pointer (some ⟨b + 6, 0, none⟩), .pointer (some ⟨b + 3, 0, none⟩), .pointer (some ⟨b + 5, 0, none⟩), .pointer (some ⟨b + 4, 0, none⟩)] w
    fun e w' => e = .returned (.bool X.1) ∧ FInv w0 b X.2.1 X.2.2 w'
set_option maxHeartbeats 2000000 in
theorem reads_e0 (w0 w : World) (b : Nat) (R : List Int) (h : FInv w0 b R [] w) : ReadsE w0 b (numF 3 2 R []) w := by
  have c5 := cell_of_one h.fn
  have c3 := cell_of_one h.pr
  have c4 := cell_of_one h.ps
  have c0 := cell_of_one h.vs
  have HI := Lib.hid h
  obtain ⟨S, hS⟩ : ∃ S, S = B [] := ⟨_, rfl⟩
  have he := text_empty (s := S) (by rw [hS, B_size]; rfl)
  rw [← hS] at c0
  clear h hS
  go_enter Tryd.func81, Tryd.ntmps81
  go_wp2_with fail
  go_region_with (first | (go_at_call 77; refine (number_any w0 _ b 3 2 R [] (by omega) (by omega) (HI.out.drawn (n := 1) rfl)).mono ?_; rintro e w' ⟨rfl, hI⟩))
  all_goals
    go_wp2_with fail
    go_ret
    exact ⟨rfl, hI⟩
set_option maxHeartbeats 2000000 in
theorem reads_e1 (w0 w : World) (b : Nat) (R : List Int) (c : UInt8) (t : Bs) (hb : (c == 32 || c == 9) = false) (h : FInv w0 b R (c :: t) w) : ReadsE w0 b (numF 3 2 R (c :: t)) w := by
  have c5 := cell_of_one h.fn
  have c3 := cell_of_one h.pr
  have c4 := cell_of_one h.ps
  have c0 := cell_of_one h.vs
  have HI := Lib.hid h
  obtain ⟨S, hS⟩ : ∃ S, S = B (c :: t) := ⟨_, rfl⟩
  have hsz : S.size = t.length + 1 := by rw [hS, B_size]; rfl
  have he := text_full (s := S) (by omega)
  have h0 : S[0]'(by omega) = c := by subst hS; rfl
  have hpos : 0 < S.size := by omega
  rw [← hS] at c0
  have HB := Lib.hid hb
  clear h hS hb
  go_enter Tryd.func81, Tryd.ntmps81
  go_wp2_with fail
  refine (blank_any c _).mono ?_
  rintro e w' ⟨rfl, rfl⟩
  rw [HB.out]
  go_wp2_with fail
  go_region_with (first | (go_at_call 77; refine (number_any w0 _ b 3 2 R (c :: t) (by omega) (by omega) (HI.out.drawn (n := 1) rfl)).mono ?_; rintro e w' ⟨rfl, hI⟩))
  all_goals
    go_wp2_with fail
    go_ret
    exact ⟨rfl, hI⟩
set_option maxHeartbeats 2000000 in
theorem reads_e2 (w0 w : World) (b : Nat) (R : List Int) (c : UInt8) (t : Bs) (hb : (c == 32 || c == 9) = true) (h : FInv w0 b R (c :: t) w) : ReadsE w0 b (numF 3 1 R t) w := by
  have c5 := cell_of_one h.fn
  have c3 := cell_of_one h.pr
  have c4 := cell_of_one h.ps
  have c0 := cell_of_one h.vs
  have f0 := free_of_one h.vs
  have HI := Lib.hid (h.setS t (by simp))
  obtain ⟨S, hS⟩ : ∃ S, S = B (c :: t) := ⟨_, rfl⟩
  have hsz : S.size = t.length + 1 := by rw [hS, B_size]; rfl
  have he := text_full (s := S) (by omega)
  have h0 : S[0]'(by omega) = c := by subst hS; rfl
  have hpos : 0 < S.size := by omega
  have hpos1 : (1 : Int) ≤ (S.size : Int) := by omega
  obtain ⟨T, hT⟩ : ∃ T, T = B t := ⟨_, rfl⟩
  have hx : S.extract 1 S.size = T := by rw [B_drop, hS, B_list, hT]; rfl
  have hx' : S.extract 1 (t.length + 1) = T := by rw [← hsz]; exact hx
  rw [← hS] at c0
  rw [← hT] at HI
  have HB := Lib.hid hb
  have e5 : b ≠ b + 5 := by omega
  have e3 : b ≠ b + 3 := by omega
  clear h hS hb hT
  go_enter Tryd.func81, Tryd.ntmps81
  go_wp2_with fail
  refine (blank_any c _).mono ?_
  rintro e w' ⟨rfl, rfl⟩
  rw [HB.out]
  go_wp2_with fail
  go_region
  have hJ := HI.out.drawn (n := 1) (w' := (w.setCell ⟨b, 0, none⟩ (.string T)).drew) rfl
  clear HI
  generalize (w.setCell ⟨b, 0, none⟩ (.string T)).drew = wq at hJ ⊢
  have d5 := cell_of_one hJ.fn
  have d3 := cell_of_one hJ.pr
  have HJ := Lib.hid hJ
  clear hJ c5 c3 c4 c0 f0
  go_wp2_with fail
  go_region_with (first | (go_at_call 77; refine (number_any w0 _ b 3 1 R t (by omega) (by omega) (HJ.out.drawn (n := 1) rfl)).mono ?_; rintro e w' ⟨rfl, hI⟩))
  all_goals
    go_wp2_with fail
    go_ret
    exact ⟨rfl, hI⟩
theorem reads_e (w0 w : World) (b : Nat) (R : List Int) (s : Bs) (h : FInv w0 b R s w) : Reads w0 b 101 R s w := by
  have e : fieldF 101 R s = if isBlank s = true then numF 3 1 R (s.drop 1) else numF 3 2 R s := rfl
  show Calls Tryd.prog 81 #[.int .u8 101, .pointer (some ⟨b + 6, 0, none⟩), .pointer (some ⟨b + 3, 0, none⟩), .pointer (some ⟨b + 5, 0, none⟩), .pointer (some ⟨b + 4, 0, none⟩)] w
    fun e w' => e = .returned (.bool (fieldF 101 R s).1) ∧ FInv w0 b (fieldF 101 R s).2.1 (fieldF 101 R s).2.2 w'
  rw [e]
  match s, h with
  | [], h => rw [if_neg (by simp [isBlank])]; exact reads_e0 w0 w b R h
  | c :: t, h =>
    cases hb : (c == 32 || c == 9) with
    | true => rw [if_pos (by simpa [isBlank] using hb)]; exact reads_e2 w0 w b R c t hb h
    | false => rw [if_neg (by simpa [isBlank] using hb)]; exact reads_e1 w0 w b R c t hb h
/-- The letters of the forms. -/
def letters : Bs := [97, 65, 98, 100, 101, 89, 121, 104, 109, 115]
theorem reads_any (w0 w : World) (b : Nat) (c : UInt8) (R : List Int) (s : Bs) (hc : c ∈ letters) (hE : Env w0) (h : FInv w0 b R s w) : Reads w0 b c R s w := by
  simp only [letters, List.mem_cons, List.not_mem_nil, or_false] at hc
  rcases hc with rfl | rfl | rfl | rfl | rfl | rfl | rfl | rfl | rfl | rfl
  · exact reads_a w0 w b R s hE h
  · exact reads_A w0 w b R s hE h
  · exact reads_b w0 w b R s hE h
  · exact reads_d w0 w b R s h
  · exact reads_e w0 w b R s h
  · exact reads_Y w0 w b R s h
  · exact reads_y w0 w b R s h
  · exact reads_h w0 w b R s h
  · exact reads_m w0 w b R s h
  · exact reads_s w0 w b R s h
end Go.Proofs.YtledjiikpajdaaaDoor.Dp
/-
  How a text is read by a form: a plain function on bytes; and date.fieldReader: what it lays. No condition.
-/
namespace Go.Proofs.YtledjiikpajdaaaDoor.Dp
open Go.RowKit Go.Proofs.YtledjiikpajdaaaDoor.Dt
set_option linter.unusedVariables false

def zeros : List Int := [0, 0, 0, 0, 0, 0, 0]
def readF : Bs → List Int → Bs → Bool × List Int
  | [], R, s => (s.isEmpty, R)
  | [c], R, s => if c = 37 then (false, zeros) else match s with
    | [] => (false, zeros)
    | x :: t => if x = c then (t.isEmpty, R) else (false, zeros)
  | c :: l :: f, R, s => if c = 37 then (if (fieldF l R s).1 = true then readF f (fieldF l R s).2.1 (fieldF l R s).2.2 else (false, zeros)) else match s with
    | [] => (false, zeros)
    | x :: t => if x = c then readF (l :: f) R t else (false, zeros)
def okForm : Bs → Bool
  | [] => true
  | [c] => c != 37
  | c :: l :: f => if c = 37 then letters.contains l && okForm f else okForm (l :: f)
theorem readF_field {l : UInt8} {f : Bs} (R : List Int) (s : Bs) : readF (37 :: l :: f) R s = if (fieldF l R s).1 = true then readF f (fieldF l R s).2.1 (fieldF l R s).2.2 else (false, zeros) := by
  simp [readF]
theorem readF_none {c : UInt8} {f : Bs} (R : List Int) (hc : c ≠ 37) : readF (c :: f) R [] = (false, zeros) := by
  cases f <;> simp [readF, hc]
theorem readF_hit {c : UInt8} {f : Bs} (R : List Int) (t : Bs) (hc : c ≠ 37) : readF (c :: f) R (c :: t) = readF f R t := by
  cases f with
  | nil => simp [readF, hc]
  | cons l f => simp [readF, hc]
theorem readF_miss {c x : UInt8} {f : Bs} (R : List Int) (t : Bs) (hc : c ≠ 37) (hx : x ≠ c) : readF (c :: f) R (x :: t) = (false, zeros) := by
  cases f <;> simp [readF, hc, hx]
theorem okForm_field {f : Bs} (h : okForm (37 :: f) = true) : ∃ l r, f = l :: r ∧ l ∈ letters ∧ okForm r = true := by
  cases f with
  | nil => simp [okForm] at h
  | cons l r =>
    rw [okForm, if_pos rfl, Bool.and_eq_true] at h
    exact ⟨l, r, rfl, by simpa using h.1, h.2⟩
theorem okForm_plain {c : UInt8} {f : Bs} (hc : c ≠ 37) (h : okForm (c :: f) = true) : okForm f = true := by
  cases f with
  | nil => rfl
  | cons l r => rwa [okForm, if_neg hc] at h
set_option maxHeartbeats 1000000 in
theorem fieldReader_at (w : World) (p q : Addr) (n : Nat) (hn : w.heap.size = n) :
    Calls Tryd.prog 68 #[.pointer (some p), .pointer (some q)] w fun e w' =>
      e = .returned (.func (.func 81) #[] #[.pointer (some ⟨n + 3, 0, none⟩), .pointer (some ⟨n, 0, none⟩), .pointer (some ⟨n + 2, 0, none⟩), .pointer (some ⟨n + 1, 0, none⟩)]) ∧
      w' = (((w.alloc (.cells #[.pointer (some p)] 93)).alloc (.cells #[.pointer (some q)] 94)).alloc (.cells #[.func (.func 77) #[] #[.pointer (some ⟨n + 1, 0, none⟩)]] 102)).alloc
        (.cells #[.func (.func 79) #[] #[.pointer (some ⟨n + 1, 0, none⟩)]] 104) := by
  subst hn
  go_enter Tryd.func68, Tryd.ntmps68
  go_wp2_with fail
  go_ret
  exact ⟨rfl, rfl⟩
end Go.Proofs.YtledjiikpajdaaaDoor.Dp
/-
  date.read: what it returns of any text, by any form whose letters are those of the forms. Conditions: the tables hold what the program's text lays; a text of at most a million bytes.
-/
namespace Go.Proofs.YtledjiikpajdaaaDoor.Dp
open Go.RowKit Go.Proofs.YtledjiikpajdaaaDoor.Dt
set_option linter.unusedVariables false

/-- What read has laid when its loop begins. -/
theorem finv_start (w : World) (s : Bs) (hs : s.length ≤ 1000000) : FInv w w.heap.size zeros s
    (((((((w.alloc (.cells #[.string (B s)] 9)).alloc (.cells (ints zeros) 79)).alloc (.cells (ints zeros) 79)).alloc (.cells #[.pointer (some ⟨w.heap.size + 2, 0, none⟩)] 93)).alloc (.cells #[.pointer (some ⟨w.heap.size, 0, none⟩)] 94)).alloc (.cells #[.func (.func 77) #[] #[.pointer (some ⟨w.heap.size + 4, 0, none⟩)]] 102)).alloc
        (.cells #[.func (.func 79) #[] #[.pointer (some ⟨w.heap.size + 4, 0, none⟩)]] 104)) := by
  have hb : ∀ (a : World) (o : Obj), Below w.heap.size w a → Below w.heap.size w (a.alloc o) := fun a o h => h.alloc h.size o
  refine ⟨rfl, rfl, hs, ?_, ?_, ?_, ?_, ?_, ?_, ?_, hb _ _ (hb _ _ (hb _ _ (hb _ _ (hb _ _ (hb _ _ (hb _ _ (Below.refl _ _)))))))⟩
  all_goals
    show (((((((w.heap.push _).push _).push _).push _).push _).push _).push _)[_]? = _
    simp only [Array.getElem?_push, Array.size_push]
    repeat first | rw [if_pos (by omega)] | rw [if_neg (by omega)]
    try rfl
theorem reads_at (w0 w : World) (b : Nat) (c l : UInt8) (R : List Int) (s : Bs) (e : c = l) (hc : l ∈ letters) (hE : Env w0) (h : FInv w0 b R s w) :
    Calls Tryd.prog 81 #[.int .u8 (c.toNat : Int), .pointer (some ⟨b + 3 + 3, 0, none⟩), .pointer (some ⟨b + 3, 0, none⟩), .pointer (some ⟨b + 3 + 2, 0, none⟩), .pointer (some ⟨b + 3 + 1, 0, none⟩)] w
      fun e w' => e = .returned (.bool (fieldF l R s).1) ∧ FInv w0 b (fieldF l R s).2.1 (fieldF l R s).2.2 w' := by
  subst e; exact reads_any w0 w b c R s hc hE h
/-- The cells of what is handed back. -/
theorem seven_cells {w : World} {g : Nat} {t : TypeId} {R : List Int} (h : w.heap[g]? = some (.cells (ints R) t (0, 0))) (hR : R.length = 7) : ∃ a0 a1 a2 a3 a4 a5 a6 : Int, R = [a0, a1, a2, a3, a4, a5, a6] ∧
    w.cell? ⟨g, 0, none⟩ = some (.int .i64 a0) ∧ w.cell? ⟨g, 1, none⟩ = some (.int .i64 a1) ∧ w.cell? ⟨g, 2, none⟩ = some (.int .i64 a2) ∧ w.cell? ⟨g, 3, none⟩ = some (.int .i64 a3) ∧ w.cell? ⟨g, 4, none⟩ = some (.int .i64 a4) ∧ w.cell? ⟨g, 5, none⟩ = some (.int .i64 a5) ∧ w.cell? ⟨g, 6, none⟩ = some (.int .i64 a6) := by
  match R, hR with
  | [a0, a1, a2, a3, a4, a5, a6], hR =>
    refine ⟨a0, a1, a2, a3, a4, a5, a6, rfl, ?_⟩
    have k := fun i hi => ints_at h i hi
    exact ⟨k 0 (by simp), k 1 (by simp), k 2 (by simp), k 3 (by simp), k 4 (by simp), k 5 (by simp), k 6 (by simp)⟩
theorem seven_free {w : World} {g : Nat} {t : TypeId} {R : List Int} (h : w.heap[g]? = some (.cells (ints R) t (0, 0))) :
    w.frozen? ⟨g, 0, none⟩ = false ∧ w.frozen? ⟨g, 1, none⟩ = false ∧ w.frozen? ⟨g, 2, none⟩ = false ∧ w.frozen? ⟨g, 3, none⟩ = false ∧ w.frozen? ⟨g, 4, none⟩ = false ∧ w.frozen? ⟨g, 5, none⟩ = false ∧ w.frozen? ⟨g, 6, none⟩ = false :=
  ⟨ints_free h 0, ints_free h 1, ints_free h 2, ints_free h 3, ints_free h 4, ints_free h 5, ints_free h 6⟩
theorem results_pair {P : Program} {fn : Func} {p u : Tmp} {ty : TypeId} (h : fn.results = #[.cell p ty, .tmp u]) (tmps : Array Value) (w : World) (g : Nat) (t : TypeId) (cs : Array Value) (fr : Nat × Nat) (d : TypeDesc)
    (hp : tmps.getD p undef = .pointer (some ⟨g, 0, none⟩)) (hg : w.heap[g]? = some (.cells cs t fr))
    (hu : P.underlying ty = some d) (hd : (match d with | .struct _ | .array _ _ => true | _ => false) = true) (hi : (P.info? ty).map (·.size) = some cs.size) :
    (results fn tmps).run P w = .ok (.tuple #[.agg cs, tmps.getD u undef]) w := by
  rw [results_cell_tmp h, hp]
  simp [asAddr, run_loadVar_row w g t ty cs fr d hg hu hd hi]
theorem infoReading : (Tryd.prog.info? 79).map (·.size) = some 7 := by kernel_rfl
def put7 (w : World) (g : Nat) (a0 a1 a2 a3 a4 a5 a6 : Int) : World :=
  ((((((w.setCell ⟨g, 0, none⟩ (.int .i64 a0)).setCell ⟨g, 1, none⟩ (.int .i64 a1)).setCell ⟨g, 2, none⟩ (.int .i64 a2)).setCell ⟨g, 3, none⟩ (.int .i64 a3)).setCell ⟨g, 4, none⟩ (.int .i64 a4)).setCell ⟨g, 5, none⟩ (.int .i64 a5)).setCell ⟨g, 6, none⟩ (.int .i64 a6)
theorem put7_at {w : World} {g : Nat} {t : TypeId} {R : List Int} (h : w.heap[g]? = some (.cells (ints R) t (0, 0))) (hR : R.length = 7) (a0 a1 a2 a3 a4 a5 a6 : Int) :
    (put7 w g a0 a1 a2 a3 a4 a5 a6).heap[g]? = some (.cells (ints [a0, a1, a2, a3, a4, a5, a6]) t (0, 0)) := by
  match R, hR with
  | [b0, b1, b2, b3, b4, b5, b6], _ =>
    unfold put7
    have k : ∀ {w : World} {R : List Int} (i : Nat) (a : Int), w.heap[g]? = some (.cells (ints R) t (0, 0)) → (w.setCell ⟨g, i, none⟩ (.int .i64 a)).heap[g]? = some (.cells (ints (R.set i a)) t (0, 0)) := fun i a hh => by
      rw [heap_setCell_same _ _ _ _ _ _ hh, ints_set]
    exact k 6 a6 (k 5 a5 (k 4 a4 (k 3 a3 (k 2 a2 (k 1 a1 (k 0 a0 h))))))
theorem put7_below {w0 w : World} {g C : Nat} (h : Below C w0 w) (hg : C ≤ g) (a0 a1 a2 a3 a4 a5 a6 : Int) : Below C w0 (put7 w g a0 a1 a2 a3 a4 a5 a6) :=
  ((((((h.setCell (p := ⟨g, 0, none⟩) hg _).setCell (p := ⟨g, 1, none⟩) hg _).setCell (p := ⟨g, 2, none⟩) hg _).setCell (p := ⟨g, 3, none⟩) hg _).setCell (p := ⟨g, 4, none⟩) hg _).setCell (p := ⟨g, 5, none⟩) hg _).setCell (p := ⟨g, 6, none⟩) hg _
set_option maxHeartbeats 2000000 in
theorem read_any (s form : Bs) (w : World) (hs : s.length ≤ 1000000) (hf : form.length ≤ 1000000) (hok : okForm form = true) (hE : Env w) :
    Calls Tryd.prog 48 #[.string (B s), .string (B form)] w fun e w' => e = .returned (.tuple #[.agg (ints (readF form zeros s).2), .bool (readF form zeros s).1]) ∧ Below w.heap.size w w' := by
  have HE := Lib.hid hE
  have HS := Lib.hid hs
  have HOK := Lib.hid hok
  obtain ⟨F, hF⟩ : ∃ F, F = B form := ⟨_, rfl⟩
  have hFs : F.size = form.length := by rw [hF, B_size]
  have hFl : F.data.toList = form := by rw [hF, B_list]
  rw [← hF]
  have HFl := Lib.hid hFl
  have HFs := Lib.hid hFs
  have hlim : F.size ≤ 1000000 := by omega
  clear hE hs hok hF hFs hFl hf
  go_enter Tryd.func48, Tryd.ntmps48
  go_wp2_with fail
  refine (fieldReader_at _ _ _ (w.heap.size + 3) (by simp)).mono ?_
  rintro e w' ⟨rfl, hw'⟩
  have hI : FInv w w.heap.size zeros s w' := by rw [hw']; exact finv_start w s HS.out
  clear hw'
  have HI0 := Lib.hid hI
  clear hI HS
  go_wp2_with fail
  go_loopw [8] (fun i wr => ∃ (j : Nat) (R : List Int) (t : Bs), j ≤ F.size ∧ i = .int .i64 (j : Int) ∧ Hid (FInv w w.heap.size R t wr) ∧ Hid (readF form zeros s = readF (form.drop j) R t) ∧ Hid (okForm (form.drop j) = true)) (fun i _ => F.size - (intOf i).toNat)
  case atStart => exact ⟨0, zeros, s, Nat.zero_le _, rfl, HI0, Lib.hid rfl, HOK⟩
  case round =>
    obtain ⟨j, R, t, hj, rfl, HI, HR, HO⟩ := hrel
    by_cases hlt : j < F.size
    · have hdrop : form.drop j = F[j] :: form.drop (j + 1) := by
        have h1 : j < form.length := by rw [← HFs.out]; exact hlt
        have h2 : form[j] = F[j] := by
          have e := HFl.out
          subst e; rfl
        rw [List.drop_eq_getElem_cons h1, h2]
      by_cases hc : F[j] = 37
      · have hok := HO.out
        rw [hdrop, hc] at hok
        obtain ⟨l, r, hl, hlet, hokr⟩ := okForm_field hok
        have h1 : j + 1 < form.length := by
          rcases Nat.lt_or_ge (j + 1) form.length with h | h
          · exact h
          · rw [List.drop_eq_nil_of_le h] at hl; cases hl
        have h2 : j + 1 < F.size := by rw [HFs.out]; exact h1
        have h3 : F[j + 1] = l := by
          have e : form.drop (j + 1) = form[j + 1] :: form.drop (j + 1 + 1) := List.drop_eq_getElem_cons h1
          rw [hl] at e
          injection e with e1 e2
          rw [e1]
          have e := HFl.out
          subst e; rfl
        have h4 : form.drop (j + 1 + 1) = r := by
          have e : form.drop (j + 1) = form[j + 1] :: form.drop (j + 1 + 1) := List.drop_eq_getElem_cons h1
          rw [hl] at e
          injection e with e1 e2
          exact e2.symm
        have hrd : readF form zeros s = if (fieldF l R t).1 = true then readF r (fieldF l R t).2.1 (fieldF l R t).2.2 else (false, zeros) := by
          rw [HR.out, hdrop, hc, hl, readF_field]
        have t37 : ((F[j].toNat : Int) == 37) = true := by rw [hc]; rfl
        have HL := Lib.hid hlet
        have HO2 := Lib.hid hokr
        have H4 := Lib.hid h4
        have H3 := Lib.hid h3
        cases hok1 : (fieldF l R t).1 with
        | true =>
          rw [hok1, if_pos rfl] at hrd
          have HRD := Lib.hid hrd
          have HK1 := Lib.hid hok1
          clear hok hl hlet hokr h1 h4 hrd hdrop hc hok1 HO HR h3
          go_wp2_with fail
          refine (reads_at w _ w.heap.size _ l R t H3.out HL.out HE.out HI.out).mono ?_
          rintro e w2 ⟨rfl, hI2⟩
          have HI2 := Lib.hid hI2
          clear hI2
          rw [HK1.out]
          go_wp2_with fail
          go_roundw
          case rel => exact ⟨j + 1 + 1, _, _, by omega, by go_num, HI2, by rw [H4.out]; exact HRD, by rw [H4.out]; exact HO2⟩
          case measure => simp [intOf]; omega
        | false =>
          rw [hok1, if_neg (by simp)] at hrd
          have HRD := Lib.hid hrd
          have HK1 := Lib.hid hok1
          clear hok hl hlet hokr h1 h4 hrd hdrop hc hok1 HO HR h3
          go_wp2_with fail
          refine (reads_at w _ w.heap.size _ l R t H3.out HL.out HE.out HI.out).mono ?_
          rintro e w2 ⟨rfl, hI2⟩
          obtain ⟨_, _, _, _, _, _, _, hz, z0, z1, z2, z3, z4, z5, z6⟩ := seven_cells hI2.vq rfl
          obtain ⟨g0, g1, g2, g3, g4, g5, g6⟩ := seven_free hI2.vq
          injection hz with e0 hz; injection hz with e1 hz; injection hz with e2 hz; injection hz with e3 hz; injection hz with e4 hz; injection hz with e5 hz; injection hz with e6 hz
          subst e0 e1 e2 e3 e4 e5 e6
          have HI2 := Lib.hid hI2
          clear hI2 hz
          rw [HK1.out]
          go_wp2_with fail
          refine bodyPost_ret (results_pair rfl _ _ (w.heap.size + 1) 79 (ints zeros) (0, 0) _ rfl (put7_at HI2.out.vq rfl 0 0 0 0 0 0 0) Tryd.underlying79 rfl infoReading) rfl ?_
          exact ⟨by rw [HRD.out]; rfl, put7_below HI2.out.below (by omega) 0 0 0 0 0 0 0⟩
      · have hokr := okForm_plain hc (by have h := HO.out; rwa [hdrop] at h)
        have t37 : ((F[j].toNat : Int) == 37) = false := beq_eq_false_iff_ne.2 (by intro e; apply hc; apply UInt8.toNat.inj; simpa using (by omega : F[j].toNat = 37))
        have c0 := cell_of_one HI.out.vs
        have f0 := free_of_one HI.out.vs
        have HO2 := Lib.hid hokr
        have HI2 := HI
        cases t with
        | nil =>
          have hrd : readF form zeros s = (false, zeros) := by rw [HR.out, hdrop, readF_none R hc]
          have HRD := Lib.hid hrd
          obtain ⟨S, hS⟩ : ∃ S, S = B [] := ⟨_, rfl⟩
          have he := text_empty (s := S) (by rw [hS, B_size]; rfl)
          have he' : (S.toList == []) = true := by rw [he]; rfl
          rw [← hS] at c0
          obtain ⟨_, _, _, _, _, _, _, hz, z0, z1, z2, z3, z4, z5, z6⟩ := seven_cells HI2.out.vq rfl
          obtain ⟨g0, g1, g2, g3, g4, g5, g6⟩ := seven_free HI2.out.vq
          injection hz with e0 hz; injection hz with e1 hz; injection hz with e2 hz; injection hz with e3 hz; injection hz with e4 hz; injection hz with e5 hz; injection hz with e6 hz
          subst e0 e1 e2 e3 e4 e5 e6
          clear hz
          clear hrd hokr hdrop hc hS HO HR
          go_wp2_with fail
          go_quiet (fail)
          go_wp2_with fail
          refine bodyPost_ret (results_pair rfl _ _ (w.heap.size + 1) 79 (ints zeros) (0, 0) _ rfl (put7_at (HI2.out.drawn (n := nq) rfl).vq rfl 0 0 0 0 0 0 0) Tryd.underlying79 rfl infoReading) rfl ?_
          exact ⟨by rw [HRD.out]; rfl, put7_below (HI2.out.drawn (n := nq) rfl).below (by omega) 0 0 0 0 0 0 0⟩
        | cons x t =>
          obtain ⟨S, hS⟩ : ∃ S, S = B (x :: t) := ⟨_, rfl⟩
          have hsz : S.size = t.length + 1 := by rw [hS, B_size]; rfl
          have he := text_full (s := S) (by omega)
          have h0 : S[0]'(by omega) = x := by subst hS; rfl
          have hpos : 0 < S.size := by omega
          rw [← hS] at c0
          by_cases hx : x = F[j]
          · have hrd : readF form zeros s = readF (form.drop (j + 1)) R t := by rw [HR.out, hdrop, hx, readF_hit R t hc]
            have HRD := Lib.hid hrd
            have tx : ((x.toNat : Int) != (F[j].toNat : Int)) = false := by rw [hx]; simp
            obtain ⟨T, hT⟩ : ∃ T, T = B t := ⟨_, rfl⟩
            have hxt : S.extract 1 S.size = T := by rw [B_drop, hS, B_list, hT]; rfl
            have hxt' : S.extract 1 (t.length + 1) = T := by rw [← hsz]; exact hxt
            have hpos1 : (1 : Int) ≤ (S.size : Int) := by omega
            have HJ := Lib.hid (HI.out.setS t (by simp))
            rw [← hT] at HJ
            clear hrd hokr hdrop hc hS HO HR hx hT HI2
            go_wp2_with fail
            go_quiet (fail)
            go_wp2_with fail
            go_roundw
            case rel => exact ⟨j + 1, R, t, by omega, by go_num, Lib.hid (HJ.out.drawn rfl), HRD, HO2⟩
            case measure => simp [intOf]; omega
          · have hrd : readF form zeros s = (false, zeros) := by rw [HR.out, hdrop, readF_miss R t hc hx]
            have HRD := Lib.hid hrd
            have tx : ((x.toNat : Int) != (F[j].toNat : Int)) = true := by
              rw [bne_iff_ne]; intro e; apply hx; apply UInt8.toNat.inj; omega
            obtain ⟨_, _, _, _, _, _, _, hz, z0, z1, z2, z3, z4, z5, z6⟩ := seven_cells HI2.out.vq rfl
            obtain ⟨g0, g1, g2, g3, g4, g5, g6⟩ := seven_free HI2.out.vq
            injection hz with e0 hz; injection hz with e1 hz; injection hz with e2 hz; injection hz with e3 hz; injection hz with e4 hz; injection hz with e5 hz; injection hz with e6 hz
            subst e0 e1 e2 e3 e4 e5 e6
            clear hz
            clear hrd hokr hdrop hc hS HO HR hx
            go_wp2_with fail
            go_quiet (fail)
            go_wp2_with fail
            refine bodyPost_ret (results_pair rfl _ _ (w.heap.size + 1) 79 (ints zeros) (0, 0) _ rfl (put7_at (HI2.out.drawn (n := nq) rfl).vq rfl 0 0 0 0 0 0 0) Tryd.underlying79 rfl infoReading) rfl ?_
            exact ⟨by rw [HRD.out]; rfl, put7_below (HI2.out.drawn (n := nq) rfl).below (by omega) 0 0 0 0 0 0 0⟩
    · have hrd : readF form zeros s = (t.isEmpty, R) := by
        rw [HR.out, List.drop_eq_nil_of_le (by rw [← HFs.out]; omega), readF]
      have HRD := Lib.hid hrd
      have c0 := cell_of_one HI.out.vs
      obtain ⟨S, hS⟩ : ∃ S, S = B t := ⟨_, rfl⟩
      have he : S.toList.isEmpty = t.isEmpty := by rw [hS, ByteArray.toList_eq, B_list]
      rw [← hS] at c0
      obtain ⟨_, _, _, _, _, _, _, hz, z0, z1, z2, z3, z4, z5, z6⟩ := seven_cells HI.out.vq rfl
      obtain ⟨g0, g1, g2, g3, g4, g5, g6⟩ := seven_free HI.out.vq
      injection hz with e0 hz; injection hz with e1 hz; injection hz with e2 hz; injection hz with e3 hz; injection hz with e4 hz; injection hz with e5 hz; injection hz with e6 hz
      subst e0 e1 e2 e3 e4 e5 e6
      have vr' : wr.heap[w.heap.size + 1 + 1]? = some (.cells (ints R) 79 (0, 0)) := HI.out.vr
      obtain ⟨a0, a1, a2, a3, a4, a5, a6, hRR, r0, r1, r2, r3, r4, r5, r6⟩ := seven_cells vr' HI.out.len
      have HRR := Lib.hid hRR
      clear hrd hS HO HR hz vr' hRR
      go_wp2_with fail
      have hg : (put7 wr (w.heap.size + 1) a0 a1 a2 a3 a4 a5 a6).drew.heap[w.heap.size + 1]? = some (.cells (ints [a0, a1, a2, a3, a4, a5, a6]) 79 (0, 0)) := by rw [heap_drew]; exact put7_at HI.out.vq rfl a0 a1 a2 a3 a4 a5 a6
      have hb := (put7_below HI.out.below (show w.heap.size ≤ w.heap.size + 1 by omega) a0 a1 a2 a3 a4 a5 a6).drew
      unfold put7 at hg hb
      have HG := Lib.hid hg
      have HB := Lib.hid hb
      clear hg hb
      go_region
      go_wp2_with fail
      refine bodyPost_ret (results_pair rfl _ _ (w.heap.size + 1) 79 (ints [a0, a1, a2, a3, a4, a5, a6]) (0, 0) _ rfl HG.out Tryd.underlying79 rfl infoReading) rfl ?_
      exact ⟨by rw [HRD.out, HRR.out]; rfl, HB.out⟩
end Go.Proofs.YtledjiikpajdaaaDoor.Dp
