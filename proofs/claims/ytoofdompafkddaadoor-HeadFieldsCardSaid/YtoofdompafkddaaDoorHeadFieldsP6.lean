/-
  Texts that the law's proof stands on, 4 of them in one file; each one's head says what it proves and under which condition.
-/
import Derived.Test.YtoofdompafkddaaDoorHeadFieldsP5
import Derived.Test.YtoofdompafkddaaDoorHeadFieldsP4
/-
  field.Parse: what it returns. Conditions: a text of at most 2^46 bytes; the table of token bytes.
-/
namespace Go.Proofs.YtoofdompafkddaaDoor.Fd
open Go.RowKit Tk
set_option linter.unusedVariables false

/-- A line's name and value, as they lie about the first colon. -/
def pName (s : ByteArray) : ByteArray := s.extract 0 (colIdx s.data.toList)
def pVal (s : ByteArray) : ByteArray := ⟨(trim (s.extract (colIdx s.data.toList + 1) s.size).data.toList).toArray⟩
def parseOk (s : ByteArray) : Bool := decide (colIdx s.data.toList < s.size) && isFld (pName s).data.toList (pVal s).data.toList
/-- What Parse answers. -/
def parseVal (s : ByteArray) : Value :=
  if parseOk s then .tuple #[FV (pName s) (pVal s), .int .i64 0] else .tuple #[FV ⟨#[]⟩ ⟨#[]⟩, .int .i64 31]

theorem pVal_size (s : ByteArray) : (pVal s).size ≤ s.size := by
  have h := trim_length (s.extract (colIdx s.data.toList + 1) s.size).data.toList
  have e : (s.extract (colIdx s.data.toList + 1) s.size).data.toList.length = (s.extract (colIdx s.data.toList + 1) s.size).size := by simp
  have e2 : (s.extract (colIdx s.data.toList + 1) s.size).size ≤ s.size := by simp
  show (trim _).toArray.size ≤ _
  rw [List.size_toArray]; omega
theorem pName_size (s : ByteArray) : (pName s).size ≤ s.size := by unfold pName; simp; omega

set_option maxHeartbeats 2000000 in
theorem parse_any (s : ByteArray) (w : World) (hs : s.size ≤ 70368744177664) (hT : Tab w) :
    Calls Tryd.prog 98 #[.string s] w fun e w' => e = .returned (parseVal s) ∧ Below w.heap.size w w' := by
  have hg := hT.lt
  by_cases hc : colIdx s.data.toList < s.size
  · have HN := Lib.hid (show s.extract 0 (colIdx s.data.toList) = pName s from rfl)
    have HV := Lib.hid (show (⟨(trim (s.extract (colIdx s.data.toList + 1) s.size).data.toList).toArray⟩ : ByteArray) = pVal s from rfl)
    have HK := Lib.hid (show cutVal s = .tuple #[.string (pName s), .string (s.extract (colIdx s.data.toList + 1) s.size), .bool true] from by unfold cutVal; rw [if_pos hc]; rfl)
    have hn := pName_size s
    have hv := pVal_size s
    obtain ⟨T, hT'⟩ : ∃ T, T = s.extract (colIdx s.data.toList + 1) s.size := ⟨_, rfl⟩
    have hts : T.size ≤ s.size := by rw [hT']; simp
    have HP := Lib.hid (show parseOk s = isFld (pName s).data.toList (pVal s).data.toList from by unfold parseOk; simp [hc])
    rw [← hT'] at HK HV
    obtain ⟨n, hn'⟩ : ∃ n, n = pName s := ⟨_, rfl⟩
    obtain ⟨v, hv'⟩ : ∃ v, v = pVal s := ⟨_, rfl⟩
    have HPV := Lib.hid (show parseVal s = if isFld n.data.toList v.data.toList then .tuple #[FV n v, .int .i64 0] else .tuple #[FV ⟨#[]⟩ ⟨#[]⟩, .int .i64 31] from by unfold parseVal; rw [HP.out, hn', hv'])
    rw [← hn'] at HK hn
    rw [← hv'] at HV hv
    clear hT' hn' hv' hc HN HP
    have HT0 := Lib.hid hT
    clear hT
    cases hh : isFld n.data.toList v.data.toList
    all_goals
      have HH := Lib.hid hh
      rw [hh] at HPV
      clear hh
      go_enter Tryd.func98, Tryd.ntmps98
      go_wp2_with fail
      refine (cut_any s _ (by unfold maxLen; omega)).mono ?_
      rintro e w1 ⟨rfl, n1, hw1⟩
      rw [HK.out]
      have hb1 : Below w.heap.size w w1 := Bl.drewN' ((Below.refl _ _).alloc (Nat.le_refl _) _) hw1
      have hr1 : w1.heap[w.heap.size]? = some (.cells #[.string ⟨#[]⟩, .string ⟨#[]⟩] 56 (0, 0)) := by rw [hw1]; exact new_block _ _
      clear hw1
      go_wp2_with fail
      refine (clone_any n _ (by omega)).mono ?_
      rintro e w2 ⟨rfl, hb2⟩
      have hB2 := Bl.next hb1 hb2
      have hr2 := Bl.old hb2 (block_lt hr1) hr1
      clear hb1 hb2 hr1
      go_wp2_with fail
      refine (trim_any T _ (by unfold maxLen; omega)).mono ?_
      rintro e w3 ⟨rfl, hb3⟩
      rw [HV.out]
      have hB3 := Bl.next hB2 hb3
      have hr3 := Bl.old hb3 (block_lt hr2) hr2
      clear hB2 hb3 hr2
      go_wp2_with fail
      have hlt3 := block_lt hr3
      refine (isField_any n v _ (by unfold maxLen; omega) (by unfold maxLen; omega) ?tab).mono ?_
      case tab => exact HT0.out.below (hB3.alloc hB3.size _) hg
      rintro e w4 ⟨rfl, hb4⟩
      rw [HH.out]
      have hB4 := (hB3.alloc hB3.size (.cells #[.string n, .string v] 56)).trans (hb4.mono (by have := hB3.size; simp; omega))
      have hr4 := Bl.old hb4 (by simp; omega) ((old_block w3 (.cells #[.string n, .string v] 56) hlt3).trans hr3)
      have hf4 := Bl.old hb4 (by simp) (new_block w3 (.cells #[.string n, .string v] 56))
      have c0 := two0 hf4
      have c1 := two1 hf4
      have f0 := free hr4 0
      have f1 := free hr4 1
      have d0 := two0 hr4
      have d1 := two1 hr4
      have hz4 := hb4.size
      clear hB3 hb4 hr3 hf4
      go_wp2_with fail
      refine bodyPost_ret (results_pair rfl _ _ w.heap.size 56 _ (0, 0) _ rfl (put2 hr4 _ _) Tryd.underlying56 rfl infoFieldSize) rfl ?_
      exact ⟨by rw [HPV.out]; rfl, put2_below hB4 (Nat.le_refl _) _ _⟩
  · have HK := Lib.hid (show cutVal s = .tuple #[.string s, .string ⟨#[]⟩, .bool false] from by unfold cutVal; rw [if_neg hc])
    have HPV := Lib.hid (show parseVal s = .tuple #[FV ⟨#[]⟩ ⟨#[]⟩, .int .i64 31] from by unfold parseVal parseOk; simp [hc])
    have HV := Lib.hid (show (⟨(trim (⟨#[]⟩ : ByteArray).data.toList).toArray⟩ : ByteArray) = ⟨#[]⟩ from rfl)
    clear hc hT
    go_enter Tryd.func98, Tryd.ntmps98
    go_wp2_with fail
    refine (cut_any s _ (by unfold maxLen; omega)).mono ?_
    rintro e w1 ⟨rfl, n1, hw1⟩
    rw [HK.out]
    have hb1 : Below w.heap.size w w1 := Bl.drewN' ((Below.refl _ _).alloc (Nat.le_refl _) _) hw1
    have hr1 : w1.heap[w.heap.size]? = some (.cells #[.string ⟨#[]⟩, .string ⟨#[]⟩] 56 (0, 0)) := by rw [hw1]; exact new_block _ _
    clear hw1
    go_wp2_with fail
    refine (clone_any s _ (by omega)).mono ?_
    rintro e w2 ⟨rfl, hb2⟩
    have hB2 := Bl.next hb1 hb2
    have hr2 := Bl.old hb2 (block_lt hr1) hr1
    clear hb1 hb2 hr1
    go_wp2_with fail
    refine (trim_any ⟨#[]⟩ _ (Nat.zero_le _)).mono ?_
    rintro e w3 ⟨rfl, hb3⟩
    rw [HV.out]
    have hB3 := Bl.next hB2 hb3
    have hr3 := Bl.old hb3 (block_lt hr2) hr2
    clear hB2 hb3 hr2
    have f0 := free hr3 0
    have f1 := free hr3 1
    have d0 := two0 hr3
    have d1 := two1 hr3
    have hlt3 := block_lt hr3
    go_wp2_with fail
    refine bodyPost_ret (results_pair rfl _ _ w.heap.size 56 _ (0, 0) _ rfl ((old_block _ _ (by simp; exact hlt3)).trans (put2 hr3 _ _)) Tryd.underlying56 rfl infoFieldSize) rfl ?_
    exact ⟨by rw [HPV.out]; rfl, (put2_below hB3 (Nat.le_refl _) _ _).alloc (by simp; exact hB3.size) _⟩
end Go.Proofs.YtoofdompafkddaaDoor.Fd
/-
  A line that is told of a field is read as that field: plain functions. No program, no condition.
-/
namespace Go.Proofs.YtoofdompafkddaaDoor.Fd
open Tk

theorem col_at (l r : Bs) (h : ∀ c ∈ l, c ≠ 58) : colIdx (l ++ 58 :: r) = l.length := by
  induction l with
  | nil => simp [colIdx]
  | cons c t ih =>
    have hc : c ≠ 58 := h c (by simp)
    simp [colIdx, hc, ih (fun d hd => h d (by simp [hd]))]
theorem tok_no58 {l : Bs} (h : isTok l = true) : ∀ c ∈ l, c ≠ 58 := by
  intro c hc e
  subst e
  unfold isTok at h
  rw [Bool.and_eq_true] at h
  have h2 := List.all_eq_true.1 h.2 58 hc
  revert h2; decide
theorem trim_val {l : Bs} (h : isVal l = true) : trim (32 :: l) = l := by
  rw [trim_cons_blank l (by decide)]
  cases l with
  | nil => rfl
  | cons c t =>
    unfold isVal at h
    simp only [Bool.and_eq_true, List.isEmpty_cons, Bool.false_or, List.headD_cons, Bool.not_eq_true'] at h
    obtain ⟨_, hc, hl⟩ := h
    unfold trim
    rw [ltrim_cons_other t hc]
    rcases snoc_cases (c :: t) with h0 | ⟨i, d, h1⟩
    · cases h0
    · rw [h1]
      refine rtrim_snoc_other i ?_
      rw [List.getLastD_eq_getLast?, h1] at hl
      simpa using hl
theorem bytes_eq {a b : ByteArray} (h : a.data.toList = b.data.toList) : a = b := by
  cases a with | mk x => cases b with | mk y => cases x; cases y; simp at h; subst h; rfl
theorem line_data (n v : ByteArray) : (n ++ ⟨#[58, 32]⟩ ++ v).data.toList = n.data.toList ++ 58 :: 32 :: v.data.toList := by simp
theorem line_size (n v : ByteArray) : (n ++ ⟨#[58, 32]⟩ ++ v).size = n.size + 2 + v.size := by
  rw [ByteArray.size_append, ByteArray.size_append]; rfl
/-- A line that is told of a field is parsed to it. -/
theorem parse_line {n v : ByteArray} (h : isFld n.data.toList v.data.toList = true) : parseVal (n ++ ⟨#[58, 32]⟩ ++ v) = .tuple #[FV n v, .int .i64 0] := by
  have h' := h
  unfold isFld at h'
  rw [Bool.and_eq_true] at h'
  have hk : colIdx (n ++ ⟨#[58, 32]⟩ ++ v).data.toList = n.size := by
    rw [line_data, col_at _ _ (tok_no58 h'.1)]; simp
  have hsz := line_size n v
  have hn : pName (n ++ ⟨#[58, 32]⟩ ++ v) = n := by
    unfold pName; rw [hk]
    apply bytes_eq
    rw [ByteArray.data_extract, Array.toList_extract, line_data]
    have e : n.data.toList.length = n.size := by simp
    rw [← e, List.extract_eq_take_drop, List.drop_zero, Nat.sub_zero, List.take_left]
  have hv : pVal (n ++ ⟨#[58, 32]⟩ ++ v) = v := by
    unfold pVal; rw [hk]
    apply bytes_eq
    have e : ((n ++ ⟨#[58, 32]⟩ ++ v).extract (n.size + 1) (n ++ ⟨#[58, 32]⟩ ++ v).size).data.toList = 32 :: v.data.toList := by
      rw [ByteArray.data_extract, Array.toList_extract, line_data, hsz]
      have e : n.data.toList.length = n.size := by simp
      have e2 : v.data.toList.length = v.size := by simp
      rw [← e, ← e2, List.extract_eq_take_drop]
      rw [show n.data.toList ++ 58 :: 32 :: v.data.toList = (n.data.toList ++ [58]) ++ 32 :: v.data.toList from by simp]
      rw [List.drop_append_of_le_length (by simp), List.drop_of_length_le (by simp), List.nil_append]
      rw [List.take_of_length_le (by simp; omega)]
    rw [e, trim_val h'.2]
  unfold parseVal parseOk
  rw [hk, hn, hv, h, hsz]
  simp
  omega
/-- What Parse answers of a text: a field that has a line, or two empty texts and the error. -/
theorem parse_cases (s : ByteArray) : (parseOk s = true ∧ isFld (pName s).data.toList (pVal s).data.toList = true ∧ parseVal s = .tuple #[FV (pName s) (pVal s), .int .i64 0]) ∨ parseVal s = .tuple #[FV ⟨#[]⟩ ⟨#[]⟩, .int .i64 31] := by
  cases h : parseOk s with
  | true =>
    left
    refine ⟨rfl, ?_, by unfold parseVal; rw [h, if_pos rfl]⟩
    unfold parseOk at h; rw [Bool.and_eq_true] at h; exact h.2
  | false => right; unfold parseVal; rw [h, if_neg (by simp)]
end Go.Proofs.YtoofdompafkddaaDoor.Fd
/-
  A line without its end; a line's field and its error: plain functions on bytes. No program, no condition.
-/
namespace Go.Proofs.YtoofdompafkddaaDoor.Hd
open Go.Proofs.YtoofdompafkddaaDoor.Tk Go.Proofs.YtoofdompafkddaaDoor.Fd
set_option linter.unusedVariables false

/-- A line's field and its error. -/
def fldOf (s : ByteArray) : Fl × Nat := if parseOk s then ((pName s, pVal s), 0) else ((⟨#[]⟩, ⟨#[]⟩), 31)
theorem parseVal_of (s : ByteArray) : parseVal s = .tuple #[FV (fldOf s).1.1 (fldOf s).1.2, .int .i64 ((fldOf s).2 : Nat)] := by
  unfold parseVal fldOf; split <;> rfl

/-- A line without the byte 13 at its end. -/
def own (l : Bs) : Bs := if l.getLast? = some 13 then l.dropLast else l
def txt (l : Bs) : ByteArray := ⟨l.toArray⟩
theorem own_length (l : Bs) : (own l).length ≤ l.length := by
  unfold own; split
  · rw [List.length_dropLast]; omega
  · exact Nat.le_refl _
theorem fldOf_err (s : ByteArray) : (fldOf s).2 = 0 ∨ (fldOf s).2 = 31 := by
  unfold fldOf; split
  · exact .inl rfl
  · exact .inr rfl
theorem txt_size (l : Bs) : (txt l).size = l.length := by simp [txt, ByteArray.size]
theorem fldOf_size (s : ByteArray) (h : (fldOf s).2 = 0) : (fldOf s).1.1.size + (fldOf s).1.2.size + 1 ≤ s.size := by
  unfold fldOf at h ⊢
  split at h
  · rename_i hp
    rw [if_pos hp]
    unfold parseOk at hp
    rw [Bool.and_eq_true, decide_eq_true_eq] at hp
    have hk := hp.1
    have e1 : (pName s).size = colIdx s.data.toList := by unfold pName; simp; omega
    have h2 := trim_length (s.extract (colIdx s.data.toList + 1) s.size).data.toList
    have e3 : (s.extract (colIdx s.data.toList + 1) s.size).data.toList.length = s.size - (colIdx s.data.toList + 1) := by simp
    have e4 : (pVal s).size ≤ s.size - (colIdx s.data.toList + 1) := by
      unfold pVal; show (trim _).toArray.size ≤ _; rw [List.size_toArray]; omega
    show (pName s).size + (pVal s).size + 1 ≤ s.size
    omega
  · simp at h

end Go.Proofs.YtoofdompafkddaaDoor.Hd
/-
  A head, byte by byte: what a reader comes to, as plain functions on bytes. No program, no condition.
-/
namespace Go.Proofs.YtoofdompafkddaaDoor.Hd
open Go.Proofs.YtoofdompafkddaaDoor.Tk Go.Proofs.YtoofdompafkddaaDoor.Fd Go.Proofs.YtoofdompafkddaaDoor.Ln
set_option linter.unusedVariables false

/-- The parts of a first line: a request's method, target and minor, or a response's minor, code and reason. -/
structure Parts where
  m : Int
  c : Int
  a : ByteArray
  b : ByteArray
def Parts.none : Parts := ⟨0, 0, ⟨#[]⟩, ⟨#[]⟩⟩
/-- A first line's parts and its error. -/
def reqOf (s : ByteArray) : Parts × Nat :=
  if 1024 < s.size then (.none, 3)
  else if reqOk s.data.toList then (⟨minorOf (rst (rst s.data.toList)), 0, ⟨(fst s.data.toList).toArray⟩, ⟨(fst (rst s.data.toList)).toArray⟩⟩, 0)
  else (.none, 30)
def stOf (s : ByteArray) : Parts × Nat :=
  if 1024 < s.size then (.none, 3)
  else if stOk s.data.toList then (⟨minorOf (fst s.data.toList), codeOf (fst (rst s.data.toList)), ⟨(rst (rst s.data.toList)).toArray⟩, ⟨#[]⟩⟩, 0)
  else (.none, 30)
def firstOf (resp : Bool) (s : ByteArray) : Parts × Nat := if resp then stOf s else reqOf s
theorem reqVal_of (s : ByteArray) : reqVal s = .tuple #[.string (reqOf s).1.a, .string (reqOf s).1.b, .int .i64 (reqOf s).1.m, .int .i64 ((reqOf s).2 : Nat)] := by
  unfold reqVal reqOf
  split
  · rfl
  · split <;> rfl
theorem stVal_of (s : ByteArray) : stVal s = .tuple #[.int .i64 (stOf s).1.m, .int .i64 (stOf s).1.c, .string (stOf s).1.a, .int .i64 ((stOf s).2 : Nat)] := by
  unfold stVal stOf
  split
  · rfl
  · split <;> rfl
/-- Where a reader stands: reading (the first line's parts, if it was there; what was fed of a line; how many bytes; the fields), done, or failed. -/
inductive St where
  | on (p : Option Parts) (l : Bs) (n : Nat) (fs : List Fl)
  | done (p : Parts) (fs : List Fl)
  | bad (e : Nat)
def over : St → Bool
  | .on .. => false
  | _ => true
/-- A line that ended. -/
def ended (resp : Bool) (p : Option Parts) (n : Nat) (fs : List Fl) (t : Bs) : St :=
  match p with
  | none => if t = [] then .on none [] n fs else if (firstOf resp (txt t)).2 = 0 then .on (some (firstOf resp (txt t)).1) [] n fs else .bad (firstOf resp (txt t)).2
  | some q => if t = [] then .done q fs else if fs.length = 64 then .bad 3 else if (fldOf (txt t)).2 = 0 then .on (some q) [] n (fs ++ [(fldOf (txt t)).1]) else .bad (fldOf (txt t)).2
/-- How many bytes the line may have more. -/
def most (p : Option Parts) : Nat := if p.isNone then 1026 else 8192
def room (p : Option Parts) (l : Bs) (n : Nat) : Nat := min (8192 - n) (most p - l.length)
def step (resp : Bool) : St → UInt8 → St
  | .on p l n fs, c => if room p l n = 0 then .bad 3 else if c = 10 then ended resp p (n + 1) fs (own l) else .on p (l ++ [c]) (n + 1) fs
  | s, _ => s
/-- How many bytes are taken, and where the reader stands then. -/
def run (resp : Bool) : St → Bs → Nat × St
  | s, [] => (0, s)
  | s, c :: r => if over s then (0, s) else ((run resp (step resp s c) r).1 + 1, (run resp (step resp s c) r).2)

/-- What a reader keeps to. -/
def Good : St → Prop
  | .on p l n fs => l.length ≤ n ∧ n ≤ 8192 ∧ l.length ≤ most p ∧ fs.length ≤ 64 ∧ tot fs + l.length ≤ n ∧ (p = none → fs = [])
  | .done p fs => fs.length ≤ 64 ∧ tot fs ≤ 8192
  | .bad e => e = 3 ∨ e = 30 ∨ e = 31

theorem firstOf_err (resp : Bool) (s : ByteArray) : (firstOf resp s).2 = 0 ∨ (firstOf resp s).2 = 3 ∨ (firstOf resp s).2 = 30 := by
  unfold firstOf reqOf stOf
  split
  · split
    · exact .inr (.inl rfl)
    · split
      · exact .inl rfl
      · exact .inr (.inr rfl)
  · split
    · exact .inr (.inl rfl)
    · split
      · exact .inl rfl
      · exact .inr (.inr rfl)
theorem good_ended {resp : Bool} {p : Option Parts} {l : Bs} {n : Nat} {fs : List Fl} (h : Good (.on p l n fs)) (hr : room p l n ≠ 0) : Good (ended resp p (n + 1) fs (own l)) := by
  obtain ⟨h1, h2, h3, h4, h5, h6⟩ := h
  have hl := own_length l
  unfold room at hr
  have hn : n + 1 ≤ 8192 := by omega
  cases p with
  | none =>
    have hfs := h6 rfl
    subst hfs
    show Good (if own l = [] then _ else _)
    split
    · exact ⟨by simp, hn, by simp, by simp, by simp [tot], fun _ => rfl⟩
    · rcases firstOf_err resp (txt (own l)) with e | e
      · rw [if_pos e]; exact ⟨by simp, hn, by simp, by simp, by simp [tot], fun e => by cases e⟩
      · rw [if_neg (by omega)]
        rcases e with e | e
        · exact .inl e
        · exact .inr (.inl e)
  | some q =>
    show Good (if own l = [] then _ else _)
    split
    · exact ⟨h4, by omega⟩
    · by_cases h64 : fs.length = 64
      · rw [if_pos h64]; exact .inl rfl
      · rw [if_neg h64]
        rcases fldOf_err (txt (own l)) with e | e
        · rw [if_pos e]
          have hz := fldOf_size _ e
          rw [txt_size] at hz
          have ht : tot [(fldOf (txt (own l))).1] = (fldOf (txt (own l))).1.1.size + (fldOf (txt (own l))).1.2.size + 1 := by simp [tot]
          refine ⟨by simp, hn, by simp, by simp; omega, ?_, fun e => by cases e⟩
          rw [tot_append, ht]; simp only [List.length_nil]; omega
        · rw [if_neg (by omega)]; exact .inr (.inr e)
theorem good_step (resp : Bool) {s : St} (h : Good s) (c : UInt8) : Good (step resp s c) := by
  cases s with
  | on p l n fs =>
    show Good (if room p l n = 0 then _ else _)
    by_cases hr : room p l n = 0
    · rw [if_pos hr]; exact .inl rfl
    · rw [if_neg hr]
      split
      · exact good_ended h hr
      · obtain ⟨h1, h2, h3, h4, h5, h6⟩ := h
        unfold room at hr
        refine ⟨by simp; omega, by omega, by simp; omega, h4, by simp; omega, h6⟩
  | done => exact h
  | bad => exact h
theorem run_over {resp : Bool} {s : St} (h : over s = true) (b : Bs) : run resp s b = (0, s) := by
  cases b with
  | nil => rfl
  | cons c r => unfold run; rw [if_pos h]
theorem run_cons {resp : Bool} {s : St} (h : over s = false) (c : UInt8) (b : Bs) : run resp s (c :: b) = ((run resp (step resp s c) b).1 + 1, (run resp (step resp s c) b).2) := by
  conv => lhs; unfold run
  rw [if_neg (by rw [h]; simp)]
theorem good_run (resp : Bool) (b : Bs) {s : St} (h : Good s) : Good (run resp s b).2 := by
  induction b generalizing s with
  | nil => exact h
  | cons c r ih =>
    cases ho : over s with
    | true => rw [run_over ho]; exact h
    | false => rw [run_cons ho]; exact ih (good_step resp h c)
theorem run_le (resp : Bool) (b : Bs) (s : St) : (run resp s b).1 ≤ b.length := by
  induction b generalizing s with
  | nil => exact Nat.le_refl _
  | cons c r ih =>
    cases ho : over s with
    | true => rw [run_over ho]; simp
    | false => rw [run_cons ho]; have := ih (step resp s c); simp only [List.length_cons]; omega
/-- A piece that did not end the reading was taken whole. -/
theorem run_all {resp : Bool} (b : Bs) {s : St} (h : over (run resp s b).2 = false) : (run resp s b).1 = b.length := by
  induction b generalizing s with
  | nil => rfl
  | cons c r ih =>
    cases ho : over s with
    | true => rw [run_over ho] at h; rw [ho] at h; cases h
    | false => rw [run_cons ho] at h ⊢; have := ih h; simp only [List.length_cons]; omega
theorem run_nil (resp : Bool) (s : St) : run resp s [] = (0, s) := rfl
/-- Two pieces, one behind the other. -/
theorem run_append (resp : Bool) (a b : Bs) (s : St) : run resp s (a ++ b) = if over (run resp s a).2 then run resp s a else (a.length + (run resp (run resp s a).2 b).1, (run resp (run resp s a).2 b).2) := by
  induction a generalizing s with
  | nil =>
    rw [List.nil_append, run_nil]
    cases ho : over s with
    | true => rw [run_over ho]; simp
    | false => simp
  | cons c r ih =>
    rw [List.cons_append]
    cases ho : over s with
    | true => rw [run_over ho, run_over ho]; simp [ho]
    | false =>
      rw [run_cons ho, run_cons ho, ih]
      by_cases h : over (run resp (step resp s c) r).2 = true
      · simp [h]
      · simp [h]; omega

/-! A whole chunk of a line. -/
theorem step_on (resp : Bool) (p : Option Parts) (l : Bs) (n : Nat) (fs : List Fl) (c : UInt8) : step resp (.on p l n fs) c = if room p l n = 0 then .bad 3 else if c = 10 then ended resp p (n + 1) fs (own l) else .on p (l ++ [c]) (n + 1) fs := rfl
theorem room_next (p : Option Parts) (l : Bs) (n : Nat) (c : UInt8) : room p (l ++ [c]) (n + 1) = room p l n - 1 := by
  unfold room; rw [List.length_append, List.length_singleton]; omega
/-- Bytes of a line's midst, as many as there is room for. -/
theorem run_mid (resp : Bool) (b : Bs) (r : Bs) (p : Option Parts) (l : Bs) (n : Nat) (fs : List Fl) (h10 : ∀ c ∈ b, c ≠ 10) (hr : b.length ≤ room p l n) :
    run resp (.on p l n fs) (b ++ r) = (b.length + (run resp (.on p (l ++ b) (n + b.length) fs) r).1, (run resp (.on p (l ++ b) (n + b.length) fs) r).2) := by
  induction b generalizing l n with
  | nil => simp
  | cons c t ih =>
    have hc : c ≠ 10 := h10 c (by simp)
    rw [List.length_cons] at hr
    rw [List.cons_append, run_cons rfl, step_on, if_neg (by omega), if_neg hc, ih (l ++ [c]) (n + 1) (fun d hd => h10 d (by simp [hd])) (by rw [room_next]; omega)]
    simp only [List.append_assoc, List.singleton_append, List.length_cons]
    rw [show n + 1 + t.length = n + (t.length + 1) from by omega]
    congr 1
    omega
/-- The chunk ends the line. -/
theorem run_line {resp : Bool} {b : Bs} {r : Bs} {p : Option Parts} {l : Bs} {n : Nat} {fs : List Fl} (h10 : ∀ c ∈ b, c ≠ 10) (hr : b.length < room p l n) :
    run resp (.on p l n fs) (b ++ 10 :: r) = (b.length + 1 + (run resp (ended resp p (n + b.length + 1) fs (own (l ++ b))) r).1, (run resp (ended resp p (n + b.length + 1) fs (own (l ++ b))) r).2) := by
  have hrm : room p (l ++ b) (n + b.length) ≠ 0 := by unfold room at hr ⊢; rw [List.length_append]; omega
  rw [run_mid resp b (10 :: r) p l n fs h10 (by omega), run_cons rfl, step_on, if_neg hrm, if_pos rfl]
  simp only [Prod.mk.injEq, and_true]
  omega
theorem room_full (p : Option Parts) (l x : Bs) (n : Nat) (h : x.length = room p l n) : room p (l ++ x) (n + room p l n) = 0 := by
  have e : room p (l ++ x) (n + room p l n) = min (8192 - (n + room p l n)) (most p - (l.length + room p l n)) := by
    show min _ _ = _; rw [List.length_append, h]
  rw [e]; unfold room; omega
/-- The chunk is too long. -/
theorem run_big {resp : Bool} {b : Bs} {p : Option Parts} {l : Bs} {n : Nat} {fs : List Fl} (h10 : ∀ c ∈ b.take (room p l n), c ≠ 10) (hr : room p l n < b.length) :
    run resp (.on p l n fs) b = (room p l n + 1, .bad 3) := by
  have e : b = b.take (room p l n) ++ (b[room p l n] :: b.drop (room p l n + 1)) := by rw [List.getElem_cons_drop]; exact (List.take_append_drop _ _).symm
  have hl : (b.take (room p l n)).length = room p l n := by rw [List.length_take]; omega
  have h := run_mid resp (b.take (room p l n)) (b[room p l n] :: b.drop (room p l n + 1)) p l n fs h10 (by omega)
  rw [← e, hl] at h
  have h0 := room_full p l (b.take (room p l n)) n hl
  rw [h, run_cons rfl, step_on, if_pos h0, run_over rfl]
/-- The chunk lies in the line's midst. -/
theorem run_part {resp : Bool} {b : Bs} {p : Option Parts} {l : Bs} {n : Nat} {fs : List Fl} (h10 : ∀ c ∈ b, c ≠ 10) (hr : b.length ≤ room p l n) :
    run resp (.on p l n fs) b = (b.length, .on p (l ++ b) (n + b.length) fs) := by
  have := run_mid resp b [] p l n fs h10 hr
  rw [List.append_nil, run_nil] at this
  simpa using this

/-! What a reader answers. -/
def errOf : St → Nat
  | .bad e => e
  | _ => 0
def doneOf : St → Bool
  | .done .. => true
  | _ => false
/-- The head that is told: its parts and fields, and the error. -/
def headOf (resp same : Bool) : St → Parts × List Fl × Nat
  | .done p fs => if same then (p, fs, 0) else (.none, [], 16)
  | _ => (.none, [], 16)
def start : St := .on none [] 0 []
theorem good_start : Good start := ⟨by simp, by omega, by simp [most], by simp, by simp [tot], fun _ => rfl⟩
end Go.Proofs.YtoofdompafkddaaDoor.Hd
