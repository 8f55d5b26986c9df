/-
  A head, byte by byte: what a reader comes to, as plain functions on bytes. No program, no condition.
-/
import Derived.Test.YtlnlihkljnkhiaaDoorLnVal
import Derived.Test.YtlnlihkljnkhiaaDoorFdBackMath
namespace Go.Proofs.YtlnlihkljnkhiaaDoor.Hd
open Go.Proofs.YtlnlihkljnkhiaaDoor.Tk Go.Proofs.YtlnlihkljnkhiaaDoor.Fd Go.Proofs.YtlnlihkljnkhiaaDoor.Ln
set_option linter.unusedVariables false

/-- The parts of a first line: a request's method, target and minor, or a response's minor, code and reason. -/
structure Parts where
  m : Int
  c : Int
  a : ByteArray
  b : ByteArray
def Parts.none : Parts := ⟨0, 0, ⟨#[]⟩, ⟨#[]⟩⟩
/-- A first line's parts and its error. -/
def reqOf (s : ByteArray) : Parts × Nat :=
  if 1024 < s.size then (.none, 3)
  else if reqOk s.data.toList then (⟨minorOf (rst (rst s.data.toList)), 0, ⟨(fst s.data.toList).toArray⟩, ⟨(fst (rst s.data.toList)).toArray⟩⟩, 0)
  else (.none, 30)
def stOf (s : ByteArray) : Parts × Nat :=
  if 1024 < s.size then (.none, 3)
  else if stOk s.data.toList then (⟨minorOf (fst s.data.toList), codeOf (fst (rst s.data.toList)), ⟨(rst (rst s.data.toList)).toArray⟩, ⟨#[]⟩⟩, 0)
  else (.none, 30)
def firstOf (resp : Bool) (s : ByteArray) : Parts × Nat := if resp then stOf s else reqOf s
theorem reqVal_of (s : ByteArray) : reqVal s = .tuple #[.string (reqOf s).1.a, .string (reqOf s).1.b, .int .i64 (reqOf s).1.m, .int .i64 ((reqOf s).2 : Nat)] := by
  unfold reqVal reqOf
  split
  · rfl
  · split <;> rfl
theorem stVal_of (s : ByteArray) : stVal s = .tuple #[.int .i64 (stOf s).1.m, .int .i64 (stOf s).1.c, .string (stOf s).1.a, .int .i64 ((stOf s).2 : Nat)] := by
  unfold stVal stOf
  split
  · rfl
  · split <;> rfl
/-- A line's field and its error. -/
def fldOf (s : ByteArray) : Fl × Nat := if parseOk s then ((pName s, pVal s), 0) else ((⟨#[]⟩, ⟨#[]⟩), 31)
theorem parseVal_of (s : ByteArray) : parseVal s = .tuple #[FV (fldOf s).1.1 (fldOf s).1.2, .int .i64 ((fldOf s).2 : Nat)] := by
  unfold parseVal fldOf; split <;> rfl

/-- Where a reader stands: reading (the first line's parts, if it was there; what was fed of a line; how many bytes; the fields), done, or failed. -/
inductive St where
  | on (p : Option Parts) (l : Bs) (n : Nat) (fs : List Fl)
  | done (p : Parts) (fs : List Fl)
  | bad (e : Nat)
def over : St → Bool
  | .on .. => false
  | _ => true
/-- A line without the byte 13 at its end. -/
def own (l : Bs) : Bs := if l.getLast? = some 13 then l.dropLast else l
def txt (l : Bs) : ByteArray := ⟨l.toArray⟩
/-- A line that ended. -/
def ended (resp : Bool) (p : Option Parts) (n : Nat) (fs : List Fl) (t : Bs) : St :=
  match p with
  | none => if t = [] then .on none [] n fs else if (firstOf resp (txt t)).2 = 0 then .on (some (firstOf resp (txt t)).1) [] n fs else .bad (firstOf resp (txt t)).2
  | some q => if t = [] then .done q fs else if fs.length = 64 then .bad 3 else if (fldOf (txt t)).2 = 0 then .on (some q) [] n (fs ++ [(fldOf (txt t)).1]) else .bad (fldOf (txt t)).2
/-- How many bytes the line may have more. -/
def most (p : Option Parts) : Nat := if p.isNone then 1026 else 8192
def room (p : Option Parts) (l : Bs) (n : Nat) : Nat := min (8192 - n) (most p - l.length)
def step (resp : Bool) : St → UInt8 → St
  | .on p l n fs, c => if room p l n = 0 then .bad 3 else if c = 10 then ended resp p (n + 1) fs (own l) else .on p (l ++ [c]) (n + 1) fs
  | s, _ => s
/-- How many bytes are taken, and where the reader stands then. -/
def run (resp : Bool) : St → Bs → Nat × St
  | s, [] => (0, s)
  | s, c :: r => if over s then (0, s) else ((run resp (step resp s c) r).1 + 1, (run resp (step resp s c) r).2)

/-- What a reader keeps to. -/
def Good : St → Prop
  | .on p l n fs => l.length ≤ n ∧ n ≤ 8192 ∧ l.length ≤ most p ∧ fs.length ≤ 64 ∧ tot fs + l.length ≤ n ∧ (p = none → fs = [])
  | .done p fs => fs.length ≤ 64 ∧ tot fs ≤ 8192
  | .bad e => e = 3 ∨ e = 30 ∨ e = 31

theorem own_length (l : Bs) : (own l).length ≤ l.length := by
  unfold own; split
  · rw [List.length_dropLast]; omega
  · exact Nat.le_refl _
theorem firstOf_err (resp : Bool) (s : ByteArray) : (firstOf resp s).2 = 0 ∨ (firstOf resp s).2 = 3 ∨ (firstOf resp s).2 = 30 := by
  unfold firstOf reqOf stOf
  split
  · split
    · exact .inr (.inl rfl)
    · split
      · exact .inl rfl
      · exact .inr (.inr rfl)
  · split
    · exact .inr (.inl rfl)
    · split
      · exact .inl rfl
      · exact .inr (.inr rfl)
theorem fldOf_err (s : ByteArray) : (fldOf s).2 = 0 ∨ (fldOf s).2 = 31 := by
  unfold fldOf; split
  · exact .inl rfl
  · exact .inr rfl
theorem txt_size (l : Bs) : (txt l).size = l.length := by simp [txt, ByteArray.size]
theorem fldOf_size (s : ByteArray) (h : (fldOf s).2 = 0) : (fldOf s).1.1.size + (fldOf s).1.2.size + 1 ≤ s.size := by
  unfold fldOf at h ⊢
  split at h
  · rename_i hp
    rw [if_pos hp]
    unfold parseOk at hp
    rw [Bool.and_eq_true, decide_eq_true_eq] at hp
    have hk := hp.1
    have e1 : (pName s).size = colIdx s.data.toList := by unfold pName; simp; omega
    have h2 := trim_length (s.extract (colIdx s.data.toList + 1) s.size).data.toList
    have e3 : (s.extract (colIdx s.data.toList + 1) s.size).data.toList.length = s.size - (colIdx s.data.toList + 1) := by simp
    have e4 : (pVal s).size ≤ s.size - (colIdx s.data.toList + 1) := by
      unfold pVal; show (trim _).toArray.size ≤ _; rw [List.size_toArray]; omega
    show (pName s).size + (pVal s).size + 1 ≤ s.size
    omega
  · simp at h

theorem good_ended {resp : Bool} {p : Option Parts} {l : Bs} {n : Nat} {fs : List Fl} (h : Good (.on p l n fs)) (hr : room p l n ≠ 0) : Good (ended resp p (n + 1) fs (own l)) := by
  obtain ⟨h1, h2, h3, h4, h5, h6⟩ := h
  have hl := own_length l
  unfold room at hr
  have hn : n + 1 ≤ 8192 := by omega
  cases p with
  | none =>
    have hfs := h6 rfl
    subst hfs
    show Good (if own l = [] then _ else _)
    split
    · exact ⟨by simp, hn, by simp, by simp, by simp [tot], fun _ => rfl⟩
    · rcases firstOf_err resp (txt (own l)) with e | e
      · rw [if_pos e]; exact ⟨by simp, hn, by simp, by simp, by simp [tot], fun e => by cases e⟩
      · rw [if_neg (by omega)]
        rcases e with e | e
        · exact .inl e
        · exact .inr (.inl e)
  | some q =>
    show Good (if own l = [] then _ else _)
    split
    · exact ⟨h4, by omega⟩
    · by_cases h64 : fs.length = 64
      · rw [if_pos h64]; exact .inl rfl
      · rw [if_neg h64]
        rcases fldOf_err (txt (own l)) with e | e
        · rw [if_pos e]
          have hz := fldOf_size _ e
          rw [txt_size] at hz
          have ht : tot [(fldOf (txt (own l))).1] = (fldOf (txt (own l))).1.1.size + (fldOf (txt (own l))).1.2.size + 1 := by simp [tot]
          refine ⟨by simp, hn, by simp, by simp; omega, ?_, fun e => by cases e⟩
          rw [tot_append, ht]; simp only [List.length_nil]; omega
        · rw [if_neg (by omega)]; exact .inr (.inr e)
theorem good_step (resp : Bool) {s : St} (h : Good s) (c : UInt8) : Good (step resp s c) := by
  cases s with
  | on p l n fs =>
    show Good (if room p l n = 0 then _ else _)
    by_cases hr : room p l n = 0
    · rw [if_pos hr]; exact .inl rfl
    · rw [if_neg hr]
      split
      · exact good_ended h hr
      · obtain ⟨h1, h2, h3, h4, h5, h6⟩ := h
        unfold room at hr
        refine ⟨by simp; omega, by omega, by simp; omega, h4, by simp; omega, h6⟩
  | done => exact h
  | bad => exact h
theorem run_over {resp : Bool} {s : St} (h : over s = true) (b : Bs) : run resp s b = (0, s) := by
  cases b with
  | nil => rfl
  | cons c r => unfold run; rw [if_pos h]
theorem run_cons {resp : Bool} {s : St} (h : over s = false) (c : UInt8) (b : Bs) : run resp s (c :: b) = ((run resp (step resp s c) b).1 + 1, (run resp (step resp s c) b).2) := by
  conv => lhs; unfold run
  rw [if_neg (by rw [h]; simp)]
theorem good_run (resp : Bool) (b : Bs) {s : St} (h : Good s) : Good (run resp s b).2 := by
  induction b generalizing s with
  | nil => exact h
  | cons c r ih =>
    cases ho : over s with
    | true => rw [run_over ho]; exact h
    | false => rw [run_cons ho]; exact ih (good_step resp h c)
theorem run_le (resp : Bool) (b : Bs) (s : St) : (run resp s b).1 ≤ b.length := by
  induction b generalizing s with
  | nil => exact Nat.le_refl _
  | cons c r ih =>
    cases ho : over s with
    | true => rw [run_over ho]; simp
    | false => rw [run_cons ho]; have := ih (step resp s c); simp only [List.length_cons]; omega
/-- A piece that did not end the reading was taken whole. -/
theorem run_all {resp : Bool} (b : Bs) {s : St} (h : over (run resp s b).2 = false) : (run resp s b).1 = b.length := by
  induction b generalizing s with
  | nil => rfl
  | cons c r ih =>
    cases ho : over s with
    | true => rw [run_over ho] at h; rw [ho] at h; cases h
    | false => rw [run_cons ho] at h ⊢; have := ih h; simp only [List.length_cons]; omega
theorem run_nil (resp : Bool) (s : St) : run resp s [] = (0, s) := rfl
/-- Two pieces, one behind the other. -/
theorem run_append (resp : Bool) (a b : Bs) (s : St) : run resp s (a ++ b) = if over (run resp s a).2 then run resp s a else (a.length + (run resp (run resp s a).2 b).1, (run resp (run resp s a).2 b).2) := by
  induction a generalizing s with
  | nil =>
    rw [List.nil_append, run_nil]
    cases ho : over s with
    | true => rw [run_over ho]; simp
    | false => simp
  | cons c r ih =>
    rw [List.cons_append]
    cases ho : over s with
    | true => rw [run_over ho, run_over ho]; simp [ho]
    | false =>
      rw [run_cons ho, run_cons ho, ih]
      by_cases h : over (run resp (step resp s c) r).2 = true
      · simp [h]
      · simp [h]; omega

/-! A whole chunk of a line. -/
theorem step_on (resp : Bool) (p : Option Parts) (l : Bs) (n : Nat) (fs : List Fl) (c : UInt8) : step resp (.on p l n fs) c = if room p l n = 0 then .bad 3 else if c = 10 then ended resp p (n + 1) fs (own l) else .on p (l ++ [c]) (n + 1) fs := rfl
theorem room_next (p : Option Parts) (l : Bs) (n : Nat) (c : UInt8) : room p (l ++ [c]) (n + 1) = room p l n - 1 := by
  unfold room; rw [List.length_append, List.length_singleton]; omega
/-- Bytes of a line's midst, as many as there is room for. -/
theorem run_mid (resp : Bool) (b : Bs) (r : Bs) (p : Option Parts) (l : Bs) (n : Nat) (fs : List Fl) (h10 : ∀ c ∈ b, c ≠ 10) (hr : b.length ≤ room p l n) :
    run resp (.on p l n fs) (b ++ r) = (b.length + (run resp (.on p (l ++ b) (n + b.length) fs) r).1, (run resp (.on p (l ++ b) (n + b.length) fs) r).2) := by
  induction b generalizing l n with
  | nil => simp
  | cons c t ih =>
    have hc : c ≠ 10 := h10 c (by simp)
    rw [List.length_cons] at hr
    rw [List.cons_append, run_cons rfl, step_on, if_neg (by omega), if_neg hc, ih (l ++ [c]) (n + 1) (fun d hd => h10 d (by simp [hd])) (by rw [room_next]; omega)]
    simp only [List.append_assoc, List.singleton_append, List.length_cons]
    rw [show n + 1 + t.length = n + (t.length + 1) from by omega]
    congr 1
    omega
/-- The chunk ends the line. -/
theorem run_line {resp : Bool} {b : Bs} {r : Bs} {p : Option Parts} {l : Bs} {n : Nat} {fs : List Fl} (h10 : ∀ c ∈ b, c ≠ 10) (hr : b.length < room p l n) :
    run resp (.on p l n fs) (b ++ 10 :: r) = (b.length + 1 + (run resp (ended resp p (n + b.length + 1) fs (own (l ++ b))) r).1, (run resp (ended resp p (n + b.length + 1) fs (own (l ++ b))) r).2) := by
  have hrm : room p (l ++ b) (n + b.length) ≠ 0 := by unfold room at hr ⊢; rw [List.length_append]; omega
  rw [run_mid resp b (10 :: r) p l n fs h10 (by omega), run_cons rfl, step_on, if_neg hrm, if_pos rfl]
  simp only [Prod.mk.injEq, and_true]
  omega
theorem room_full (p : Option Parts) (l x : Bs) (n : Nat) (h : x.length = room p l n) : room p (l ++ x) (n + room p l n) = 0 := by
  have e : room p (l ++ x) (n + room p l n) = min (8192 - (n + room p l n)) (most p - (l.length + room p l n)) := by
    show min _ _ = _; rw [List.length_append, h]
  rw [e]; unfold room; omega
/-- The chunk is too long. -/
theorem run_big {resp : Bool} {b : Bs} {p : Option Parts} {l : Bs} {n : Nat} {fs : List Fl} (h10 : ∀ c ∈ b.take (room p l n), c ≠ 10) (hr : room p l n < b.length) :
    run resp (.on p l n fs) b = (room p l n + 1, .bad 3) := by
  have e : b = b.take (room p l n) ++ (b[room p l n] :: b.drop (room p l n + 1)) := by rw [List.getElem_cons_drop]; exact (List.take_append_drop _ _).symm
  have hl : (b.take (room p l n)).length = room p l n := by rw [List.length_take]; omega
  have h := run_mid resp (b.take (room p l n)) (b[room p l n] :: b.drop (room p l n + 1)) p l n fs h10 (by omega)
  rw [← e, hl] at h
  have h0 := room_full p l (b.take (room p l n)) n hl
  rw [h, run_cons rfl, step_on, if_pos h0, run_over rfl]
/-- The chunk lies in the line's midst. -/
theorem run_part {resp : Bool} {b : Bs} {p : Option Parts} {l : Bs} {n : Nat} {fs : List Fl} (h10 : ∀ c ∈ b, c ≠ 10) (hr : b.length ≤ room p l n) :
    run resp (.on p l n fs) b = (b.length, .on p (l ++ b) (n + b.length) fs) := by
  have := run_mid resp b [] p l n fs h10 hr
  rw [List.append_nil, run_nil] at this
  simpa using this

/-! What a reader answers. -/
def errOf : St → Nat
  | .bad e => e
  | _ => 0
def doneOf : St → Bool
  | .done .. => true
  | _ => false
/-- The head that is told: its parts and fields, and the error. -/
def headOf (resp same : Bool) : St → Parts × List Fl × Nat
  | .done p fs => if same then (p, fs, 0) else (.none, [], 16)
  | _ => (.none, [], 16)
def start : St := .on none [] 0 []
theorem good_start : Good start := ⟨by simp, by omega, by simp [most], by simp, by simp [tot], fun _ => rfl⟩
end Go.Proofs.YtlnlihkljnkhiaaDoor.Hd
