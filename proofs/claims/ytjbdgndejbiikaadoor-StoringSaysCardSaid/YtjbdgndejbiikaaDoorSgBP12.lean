/-
  Texts that the laws' proofs stand on, 3 of them in one file; each one's head says what it proves and under which condition.
-/
import Derived.Test.YtjbdgndejbiikaaDoorSgBP8
import Derived.Test.YtjbdgndejbiikaaDoorSgBP11
import Derived.Test.YtjbdgndejbiikaaDoorSgBP10
import Derived.Test.YtjbdgndejbiikaaDoorSgBP4
/-
  The fields that have none of some names: a plain function. No program, no condition.
-/
namespace Go.Proofs.YtjbdgndejbiikaaDoor.Fd
open Tk
set_option linter.unusedVariables false

/-- The fields whose name is none of these small-lettered names. -/
def keepF (fs : List Fl) (ls : List Bs) : List Fl := fs.filter fun f => !ls.contains (lower f.1.data.toList)
theorem keep_yes (fs : List Fl) (ls : List Bs) (k : Nat) (h : k < fs.length) (hp : ls.contains (lower fs[k].1.data.toList) = false) : keepF (fs.take (k + 1)) ls = keepF (fs.take k) ls ++ [fs[k]] := by
  unfold keepF; rw [filter_next _ _ _ h, hp]; rfl
theorem keep_no (fs : List Fl) (ls : List Bs) (k : Nat) (h : k < fs.length) (hp : ls.contains (lower fs[k].1.data.toList) = true) : keepF (fs.take (k + 1)) ls = keepF (fs.take k) ls := by
  unfold keepF; rw [filter_next _ _ _ h, hp]; simp
theorem keep_len (fs : List Fl) (ls : List Bs) (k : Nat) : (keepF (fs.take k) ls).length ≤ k := by
  unfold keepF; exact Nat.le_trans (List.length_filter_le _ _) (List.length_take_le _ _)
end Go.Proofs.YtjbdgndejbiikaaDoor.Fd
/-
  What Strip takes away: plain functions. No program, no condition.
-/
namespace Go.Proofs.YtjbdgndejbiikaaDoor.Fd
open Tk

/-- The names that are for one connection alone, as the program has them, and in small letters. -/
def sevenU : List Bs := [[67, 111, 110, 110, 101, 99, 116, 105, 111, 110], [75, 101, 101, 112, 45, 65, 108, 105, 118, 101], [80, 114, 111, 120, 121, 45, 67, 111, 110, 110, 101, 99, 116, 105, 111, 110], [84, 69], [84, 114, 97, 105, 108, 101, 114], [84, 114, 97, 110, 115, 102, 101, 114, 45, 69, 110, 99, 111, 100, 105, 110, 103], [85, 112, 103, 114, 97, 100, 101]]
def sevenL : List Bs := [[99, 111, 110, 110, 101, 99, 116, 105, 111, 110], [107, 101, 101, 112, 45, 97, 108, 105, 118, 101], [112, 114, 111, 120, 121, 45, 99, 111, 110, 110, 101, 99, 116, 105, 111, 110], [116, 101], [116, 114, 97, 105, 108, 101, 114], [116, 114, 97, 110, 115, 102, 101, 114, 45, 101, 110, 99, 111, 100, 105, 110, 103], [117, 112, 103, 114, 97, 100, 101]]
def connU : Bs := [67, 111, 110, 110, 101, 99, 116, 105, 111, 110]
def connL : Bs := [99, 111, 110, 110, 101, 99, 116, 105, 111, 110]
theorem seven_low : sevenU.map lower = sevenL := by decide +kernel
theorem sevenL_low : sevenL.map lower = sevenL := by decide +kernel
theorem conn_low : lower connU = lower connL := by decide +kernel
/-- The names that Connection's text lists; none, if one is no token. -/
def listed (fs : List Fl) : List Bs := match namesOf (getT fs connL) with
  | none => []
  | some ls => ls
def gone (fs : List Fl) : List Bs := listed fs ++ sevenL
def stripF (fs : List Fl) : List Fl := keepF fs (gone fs)

theorem has_congr {a b : Bs} (h : lower a = lower b) (f : Fl) : has a f = has b f := by unfold has alike; rw [h]
theorem getT_congr {a b : Bs} (h : lower a = lower b) (fs : List Fl) : getT fs a = getT fs b := by
  unfold getT sel
  rw [show has a = has b from funext (has_congr h)]
theorem names_low {t : Bs} {ls : List Bs} (h : namesOf t = some ls) : ls.map lower = ls := by
  unfold namesOf at h
  split at h
  · cases h
  · split at h
    · injection h with h; subst h; rw [List.map_map]; apply List.map_congr_left; intro x _; exact lower_lower x
    · cases h
theorem listed_low (fs : List Fl) : (listed fs).map lower = listed fs := by
  unfold listed
  split
  · rfl
  · rename_i ls h; exact names_low h
theorem gone_low (fs : List Fl) : (gone fs).map lower = gone fs := by unfold gone; rw [List.map_append, listed_low, sevenL_low]
theorem listed_some {fs : List Fl} {ls : List Bs} (h : namesOf (getT fs connU) = some ls) : listed fs = ls := by
  rw [getT_congr conn_low] at h; unfold listed; rw [h]
theorem listed_none {fs : List Fl} (h : namesOf (getT fs connU) = none) : listed fs = [] := by
  rw [getT_congr conn_low] at h; unfold listed; rw [h]
theorem strip_prog (fs : List Fl) : keepF fs ((listed fs ++ sevenU).map lower) = stripF fs := by
  unfold stripF gone; rw [List.map_append, listed_low, seven_low]
theorem listed_length (fs : List Fl) : (listed fs).length ≤ 2 * tot fs + 1 := by
  have hg := getT_length fs connL
  unfold listed
  split
  · simp
  · rename_i ls h; have := names_length h; omega
theorem listed_piece (fs : List Fl) : ∀ x ∈ listed fs, x.length ≤ 2 * tot fs := by
  have hg := getT_length fs connL
  unfold listed
  split
  · simp
  · rename_i ls h; intro x hx; have := names_piece h x hx; omega

/-- One name after another taken away. -/
def delAll (fs : List Fl) (ns : List Bs) : List Fl := ns.foldl del fs
theorem delAll_next (fs : List Fl) (ns : List Bs) (k : Nat) (h : k < ns.length) : delAll fs (ns.take (k + 1)) = del (delAll fs (ns.take k)) ns[k] := by
  unfold delAll; rw [take_next ns k h, List.foldl_append]; rfl
theorem delAll_filter (ns : List Bs) : ∀ fs : List Fl, delAll fs ns = fs.filter fun f => ns.all fun n => !has n f := by
  induction ns with
  | nil => intro fs; exact (List.filter_eq_self.2 (fun _ _ => rfl)).symm
  | cons n r ih =>
    intro fs
    show delAll (del fs n) r = _
    rw [ih]
    unfold del
    rw [List.filter_filter]
    congr 1
    funext f
    rw [List.all_cons, Bool.and_comm]
theorem tot_delAll (ns : List Bs) (fs : List Fl) : tot (delAll fs ns) ≤ tot fs := by rw [delAll_filter]; exact tot_filter _ fs
theorem all_not (ns : List Bs) (h : ns.map lower = ns) (f : Fl) : (ns.all fun n => !has n f) = !ns.contains (lower f.1.data.toList) := by
  induction ns with
  | nil => rfl
  | cons n r ih =>
    rw [List.map_cons] at h
    injection h with h1 h2
    rw [List.all_cons, List.contains_cons, ih h2, Bool.not_or]
    congr 2
    unfold has alike; rw [h1]
theorem keep_comm (fs : List Fl) (a b : List Bs) : keepF fs (a ++ b) = keepF fs (b ++ a) := by
  unfold keepF
  congr 1
  funext f
  congr 1
  rw [Bool.eq_iff_iff]
  simp only [List.contains_iff_mem, List.mem_append]
  exact Or.comm
theorem strip_ref (fs : List Fl) : delAll fs (sevenL ++ listed fs) = stripF fs := by
  rw [delAll_filter]
  unfold stripF gone
  rw [keep_comm]
  unfold keepF
  congr 1
  funext f
  exact all_not _ (by rw [List.map_append, listed_low, sevenL_low]) f

theorem mem_strip {fs : List Fl} {f : Fl} (h : f ∈ stripF fs) : (gone fs).contains (lower f.1.data.toList) = false := by
  unfold stripF keepF at h
  rw [List.mem_filter] at h
  simpa using h.2
theorem strip_none {fs : List Fl} {nm : Bs} (h : lower nm ∈ gone fs) : sel (stripF fs) nm = [] := by
  unfold sel
  have e : (stripF fs).filter (has nm) = [] := by
    rw [List.filter_eq_nil_iff]
    intro f hf hb
    have h1 := mem_strip hf
    unfold has alike at hb
    rw [beq_iff_eq] at hb
    rw [hb, List.contains_eq_mem, decide_eq_false_iff_not] at h1
    exact h1 h
  rw [e]; rfl
theorem strip_get {fs : List Fl} {nm : Bs} (h : lower nm ∈ sevenL) : getT (stripF fs) nm = [] ∧ getN (stripF fs) nm = 0 := by
  have := strip_none (fs := fs) (nm := nm) (by unfold gone; exact List.mem_append_right _ h)
  unfold getT getN; rw [this]; exact ⟨rfl, rfl⟩
theorem strip_strip (fs : List Fl) : stripF (stripF fs) = stripF fs := by
  have h1 : listed (stripF fs) = [] := by
    unfold listed
    rw [(strip_get (fs := fs) (nm := connL) (by decide +kernel)).1]
    rfl
  have h2 : gone (stripF fs) = sevenL := by unfold gone; rw [h1]; rfl
  show keepF (stripF fs) (gone (stripF fs)) = _
  rw [h2]
  unfold keepF
  rw [List.filter_eq_self]
  intro f hf
  have h3 := mem_strip hf
  rw [List.contains_eq_mem, decide_eq_false_iff_not] at h3
  rw [Bool.not_eq_true', List.contains_eq_mem, decide_eq_false_iff_not]
  intro h4
  exact h3 (by unfold gone; exact List.mem_append_right _ h4)
theorem tot_strip (fs : List Fl) : tot (stripF fs) ≤ tot fs := tot_filter _ fs
/-- The four fields of the law on Strip. -/
def four : List Fl := [(⟨#[65]⟩, ⟨#[49]⟩), (⟨#[99, 111, 110, 110, 101, 99, 116, 105, 111, 110]⟩, ⟨#[98, 44, 32, 97]⟩), (⟨#[66]⟩, ⟨#[50]⟩), (⟨#[67]⟩, ⟨#[51]⟩)]
theorem strip_four : stripF four = [(⟨#[67]⟩, ⟨#[51]⟩)] := by
  have h : listed four = [[98], [97]] := by
    unfold listed
    rw [show getT four connL = [98] ++ [44, 32] ++ [97] from rfl, names_two (a := [98]) (b := [97]) (by decide) (by decide)]
    rfl
  unfold stripF gone
  rw [h]
  rfl
end Go.Proofs.YtjbdgndejbiikaaDoor.Fd
/-
  What may be stored, and what a refresh leaves, as plain functions of fields; and what the laws of layer 10 say of them. No program, no condition.
-/
namespace Go.Proofs.YtjbdgndejbiikaaDoor.Sg
open Go.Proofs.YtjbdgndejbiikaaDoor.Tk Go.Proofs.YtjbdgndejbiikaaDoor.Fd Go.Proofs.YtjbdgndejbiikaaDoor.Ct Go.Proofs.YtjbdgndejbiikaaDoor.Fh
set_option linter.unusedVariables false
set_option linter.unusedSimpArgs false

/-! A text behind another one. -/
theorem sp_stuck : ∀ (n : Nat) (r : Bs), r.length ≤ n → (∀ c ∈ r, c ≠ 34) → ∀ own, sp true own r = none
  | 0, r, h, _, own => by
    have : r = [] := List.length_eq_zero_iff.1 (by omega)
    subst this; exact sp_nil_q own
  | n + 1, [], h, _, own => sp_nil_q own
  | n + 1, c :: r, h, hr, own => by
    have h34 : c ≠ 34 := hr c (by simp)
    have hl : r.length ≤ n := by simp at h; omega
    by_cases h92 : c = 92
    · subst h92
      match r with
      | [] => exact sp_q_last own
      | d :: r' =>
        rw [sp_q_back]
        exact sp_stuck n r' (by simp at hl; omega) (fun x hx => hr x (by simp [hx])) _
    · rw [sp_q_other _ _ h34 h92]
      exact sp_stuck n r hl (fun x hx => hr x (by simp [hx])) _
/-- A text that does not end stays so, with no quote behind it. -/
theorem sp_not : ∀ (n : Nat) (l : Bs), l.length ≤ n → ∀ (q : Bool) (own : Bs), sp q own l = none → ∀ r : Bs, (∀ c ∈ r, c ≠ 34) → sp q own (l ++ r) = none
  | 0, l, h, q, own, hs, r, hr => by
    have : l = [] := List.length_eq_zero_iff.1 (by omega)
    subst this
    cases q with
    | true => exact sp_stuck _ r (Nat.le_refl _) hr own
    | false => rw [sp_nil] at hs; cases hs
  | n + 1, [], h, q, own, hs, r, hr => by
    cases q with
    | true => exact sp_stuck _ r (Nat.le_refl _) hr own
    | false => rw [sp_nil] at hs; cases hs
  | n + 1, c :: l, h, q, own, hs, r, hr => by
    have hl : l.length ≤ n := by simp at h; omega
    rw [List.cons_append]
    cases q with
    | false =>
      by_cases h44 : c = 44
      · subst h44
        rw [sp_comma, Option.map_eq_none_iff] at hs ⊢
        exact sp_not n l hl _ _ hs r hr
      · by_cases h34 : c = 34
        · subst h34; rw [sp_open] at hs ⊢; exact sp_not n l hl _ _ hs r hr
        · rw [sp_other _ _ h44 h34] at hs ⊢; exact sp_not n l hl _ _ hs r hr
    | true =>
      by_cases h34 : c = 34
      · subst h34; rw [sp_q_close] at hs ⊢; exact sp_not n l hl _ _ hs r hr
      · by_cases h92 : c = 92
        · subst h92
          match l with
          | [] =>
            exact sp_stuck _ _ (Nat.le_refl _) (fun x hx => by
              rcases List.mem_cons.1 hx with rfl | hx
              · decide
              · exact hr x hx) own
          | d :: l' =>
            rw [List.cons_append]
            rw [sp_q_back] at hs ⊢
            exact sp_not n l' (by simp at hl; omega) _ _ hs r hr
        · rw [sp_q_other _ _ h34 h92] at hs ⊢; exact sp_not n l hl _ _ hs r hr
/-- What a field more of a name makes of the name's elements. -/
theorem split_more {l : List Fl} {nm v : ByteArray} {name : Bs} (hn : has name (nm, v) = true) (hv : ∀ c ∈ v.data.toList, c ≠ 34) {ls : List Bs} (hs : splitOf v.data.toList = some ls) :
    splitOf (getT (l ++ [(nm, v)]) name) = none ∨ ∃ pre, splitOf (getT (l ++ [(nm, v)]) name) = some (pre ++ ls) := by
  have e : sel (l ++ [(nm, v)]) name = sel l name ++ [v.data.toList] := by unfold sel; simp [hn]
  unfold getT
  rw [e, joinC_snoc]
  split
  · exact .inr ⟨[], hs⟩
  · have e2 : joinC (sel l name) ++ [44, 32] ++ v.data.toList = joinC (sel l name) ++ 44 :: (32 :: v.data.toList) := by simp
    rw [e2]
    cases h : splitOf (joinC (sel l name)) with
    | none =>
      exact .inl (sp_not _ _ (Nat.le_refl _) _ _ h _ (fun c hc => by
        rcases List.mem_cons.1 hc with rfl | hc
        · decide
        · rcases List.mem_cons.1 hc with rfl | hc
          · decide
          · exact hv c hc))
    | some pre => exact .inr ⟨pre, split_two h (by rw [split_lead]; exact hs)⟩
theorem getN_more {l : List Fl} {f : Fl} {name : Bs} (hn : has name f = true) : 0 < getN (l ++ [f]) name := by
  unfold getN sel; simp [hn]

/-! What may be stored. -/
def getM : Bs := [71, 69, 84]
def varyL : Bs := [118, 97, 114, 121]
def expL : Bs := [101, 120, 112, 105, 114, 101, 115]
def rngL : Bs := [114, 97, 110, 103, 101]
def autL : Bs := [97, 117, 116, 104, 111, 114, 105, 122, 97, 116, 105, 111, 110]
def varyOk (rs : List Fl) : Bool := match splitOf (getT rs varyL) with
  | none => false
  | some ls => !ls.contains [42]
/-- May it, of a method, what the request says, has a Range, an Authorization; a code, what the response says, has an Expires, and no Vary *. -/
def mayT (meth : Bs) (a : Con) (rng aut : Bool) (code : Int) (c : Con) (ex vy : Bool) : Bool :=
  meth == getM && !a.ns && !c.ns && !c.pr && decide (200 ≤ code ∧ code ≤ 599 ∧ code ≠ 304) && !(rng && decide (code ≠ 200 ∧ code ≠ 206 ∧ code < 300)) && vy &&
  !(aut && !c.pu && !c.mu && decide (c.sh < 0)) && (ex || c.pu || decide (0 ≤ c.ag) || decide (0 ≤ c.sh) || heurOf code)
def hasN (fs : List Fl) (nm : Bs) : Bool := decide (0 < getN fs nm)
def mayOf (meth : Bs) (rq : List Fl) (code : Int) (rs : List Fl) : Bool :=
  mayT meth (ofOf rq) (hasN rq rngL) (hasN rq autL) code (ofOf rs) (hasN rs expL) (varyOk rs)
theorem may_ns {meth : Bs} {rq : List Fl} {code : Int} {rs : List Fl} (h : (ofOf rs).ns = true) : mayOf meth rq code rs = false := by unfold mayOf mayT; simp [h]
theorem may_pr {meth : Bs} {rq : List Fl} {code : Int} {rs : List Fl} (h : (ofOf rs).pr = true) : mayOf meth rq code rs = false := by unfold mayOf mayT; simp [h]
theorem may_vy {meth : Bs} {rq : List Fl} {code : Int} {rs : List Fl} (h : varyOk rs = false) : mayOf meth rq code rs = false := by unfold mayOf mayT; simp [h]
theorem may_rq {meth : Bs} {rq : List Fl} {code : Int} {rs : List Fl} (h : (ofOf rq).ns = true) : mayOf meth rq code rs = false := by unfold mayOf mayT; simp [h]

/-! What says no. -/
def ccU : ByteArray := ⟨#[67, 97, 99, 104, 101, 45, 67, 111, 110, 116, 114, 111, 108]⟩
def ccLo : ByteArray := ⟨#[99, 97, 99, 104, 101, 45, 99, 111, 110, 116, 114, 111, 108]⟩
def varyU : ByteArray := ⟨#[86, 97, 114, 121]⟩
def nsV : ByteArray := ⟨#[110, 111, 45, 115, 116, 111, 114, 101]⟩
def prV : ByteArray := ⟨#[112, 114, 105, 118, 97, 116, 101]⟩
def starV : ByteArray := ⟨#[97, 44, 32, 42]⟩
def noneF : Nat → Fl
  | 0 => (ccU, nsV)
  | 1 => (ccLo, prV)
  | _ => (varyU, starV)
theorem of_last {l : List Fl} {nm v : ByteArray} (hn : has ccL (nm, v) = true) (hv : ∀ c ∈ v.data.toList, c ≠ 34) {e : Bs} (hs : splitOf v.data.toList = some [e]) :
    ofOf (l ++ [(nm, v)]) = .broken ∨ ∃ c, ofOf (l ++ [(nm, v)]) = elem c e := by
  unfold ofOf
  rw [if_pos (getN_more hn)]
  unfold parseOf
  rcases split_more (l := l) hn hv hs with h | ⟨pre, h⟩
  · left; rw [h]
  · right; rw [h]; exact ⟨pre.foldl elem .zero, by show List.foldl elem .zero (pre ++ [e]) = _; rw [List.foldl_append]; rfl⟩
theorem says_ns (l : List Fl) : (ofOf (l ++ [(ccU, nsV)])).ns = true := by
  rcases of_last (l := l) (nm := ccU) (v := nsV) (by decide +kernel) (by decide +kernel) (e := nst) (by decide +kernel) with h | ⟨c, h⟩
  · rw [h]; rfl
  · rw [h]
    have e : pairOf nst = some (nst, none) := by decide +kernel
    have e2 : lower nst = nst := by decide +kernel
    unfold elem; rw [e]; show (act c (lower nst) none).ns = true; rw [e2, act_ns]
theorem says_pr (l : List Fl) : (ofOf (l ++ [(ccLo, prV)])).ns = true ∨ (ofOf (l ++ [(ccLo, prV)])).pr = true := by
  rcases of_last (l := l) (nm := ccLo) (v := prV) (by decide +kernel) (by decide +kernel) (e := pri) (by decide +kernel) with h | ⟨c, h⟩
  · left; rw [h]; rfl
  · right; rw [h]
    have e : pairOf pri = some (pri, none) := by decide +kernel
    have e2 : lower pri = pri := by decide +kernel
    unfold elem; rw [e]; show (act c (lower pri) none).pr = true; rw [e2, act_pr]
theorem says_star (l : List Fl) : varyOk (l ++ [(varyU, starV)]) = false := by
  unfold varyOk
  rcases split_more (l := l) (nm := varyU) (v := starV) (name := varyL) (by decide +kernel) (by decide +kernel) (ls := [[97], [42]]) (by decide +kernel) with h | ⟨pre, h⟩
  · rw [h]
  · rw [h]; simp
theorem never (meth : Bs) (rq : List Fl) (code : Int) (l : List Fl) (k : Nat) : mayOf meth rq code (l ++ [noneF k]) = false := by
  match k with
  | 0 => exact may_ns (says_ns l)
  | 1 => rcases says_pr l with h | h
         · exact may_ns h
         · exact may_pr h
  | _ + 2 => exact may_vy (says_star l)
/-- Public, and no word against it. -/
def pubV : ByteArray := ⟨#[112, 117, 98, 108, 105, 99]⟩
def pubF : List Fl := [(ccU, pubV), (varyU, ⟨#[97]⟩)]
theorem may_pub (code : Int) (h0 : 200 ≤ code) (h1 : code ≤ 455) : mayOf getM [] code pubF = decide (code ≠ 304) := by
  have e1 : (ofOf ([] : List Fl)).ns = false := by decide +kernel
  have e2 : (ofOf pubF).ns = false ∧ (ofOf pubF).pr = false ∧ (ofOf pubF).pu = true := by decide +kernel
  have e3 : hasN ([] : List Fl) rngL = false := by decide +kernel
  have e4 : hasN ([] : List Fl) autL = false := by decide +kernel
  have e5 : varyOk pubF = true := by decide +kernel
  unfold mayOf mayT
  rw [e1, e2.1, e2.2.1, e2.2.2, e3, e4, e5]
  have : code ≤ 599 := by omega
  simp [h0, this]
theorem may_small (code : Int) (rq rs : List Fl) : mayOf [103, 101, 116] rq code rs = false := by
  have e : (([103, 101, 116] : Bs) == getM) = false := by decide
  unfold mayOf mayT; rw [e]; simp
theorem may_no (code : Int) (rs : List Fl) : mayOf getM [(ccU, nsV)] code rs = false := may_rq (says_ns [])
/-- A 200 with nothing more. -/
theorem may_bare : mayOf getM [] 200 [] = true := by decide +kernel

/-! What was asked for with Authorization. -/
def autB : ByteArray := ⟨autL.toArray⟩
def sayV : Nat → ByteArray
  | 0 => ⟨#[109, 97, 120, 45, 97, 103, 101, 61, 53]⟩
  | 1 => pubV
  | 2 => ⟨#[109, 97, 120, 45, 97, 103, 101, 61, 53, 44, 32, 109, 117, 115, 116, 45, 114, 101, 118, 97, 108, 105, 100, 97, 116, 101]⟩
  | 3 => ⟨#[115, 45, 109, 97, 120, 97, 103, 101, 61, 48]⟩
  | _ => ⟨#[112, 114, 111, 120, 121, 45, 114, 101, 118, 97, 108, 105, 100, 97, 116, 101, 44, 32, 109, 97, 120, 45, 97, 103, 101, 61, 53]⟩
def codeK : Nat → Int
  | 0 => 200
  | 1 => 404
  | 2 => 500
  | _ => 201
theorem auth_all : ∀ k : Fin 5, ∀ j : Fin 4, mayOf getM [] (codeK j.val) [(ccU, sayV k.val)] = true ∧ mayOf getM [(autB, ⟨#[120]⟩)] (codeK j.val) [(ccU, sayV k.val)] = decide (1 ≤ k.val ∧ k.val ≤ 3) := by decide +kernel

/-! A refresh. -/
def stay : List Bs := [[99, 111, 110, 116, 101, 110, 116, 45, 108, 101, 110, 103, 116, 104], [99, 111, 110, 116, 101, 110, 116, 45, 101, 110, 99, 111, 100, 105, 110, 103], [99, 111, 110, 116, 101, 110, 116, 45, 114, 97, 110, 103, 101], [99, 111, 110, 116, 101, 110, 116, 45, 116, 121, 112, 101], [116, 114, 97, 110, 115, 102, 101, 114, 45, 101, 110, 99, 111, 100, 105, 110, 103]]
def addOf (rs : List Fl) : List Fl := delAll (stripF rs) stay
def outOf (fs rs : List Fl) : List Fl := fs.filter (fun f => !hasN (addOf rs) f.1.data.toList) ++ addOf rs
theorem tot_add (rs : List Fl) : tot (addOf rs) ≤ tot rs := Nat.le_trans (tot_delAll _ _) (tot_strip _)
theorem tot_out (fs rs : List Fl) : tot (outOf fs rs) ≤ tot fs + tot rs := by
  unfold outOf; rw [tot_append]
  have := tot_add rs
  have := tot_filter (fun f => !hasN (addOf rs) f.1.data.toList) fs
  omega
def etagL : Bs := [101, 116, 97, 103]
def zzL : Bs := [122, 122]
def ctU : ByteArray := ⟨#[67, 111, 110, 116, 101, 110, 116, 45, 84, 121, 112, 101]⟩
def ctLo : ByteArray := ⟨#[99, 111, 110, 116, 101, 110, 116, 45, 116, 121, 112, 101]⟩
def etU : ByteArray := ⟨#[69, 84, 97, 103]⟩
def etLo : ByteArray := ⟨#[101, 116, 97, 103]⟩
def zzU : ByteArray := ⟨#[90, 122]⟩
def two1 : List Fl := [(ctU, ⟨#[97]⟩), (etU, ⟨#[34, 49, 34]⟩)]
def new3 : List Fl := [(etLo, ⟨#[34, 50, 34]⟩), (ctLo, ⟨#[98]⟩), (zzU, ⟨#[99]⟩)]
def add2 : List Fl := [(etLo, ⟨#[34, 50, 34]⟩), (zzU, ⟨#[99]⟩)]
theorem add_new : addOf new3 = add2 := by decide +kernel
theorem has_two {a : Bs} (h1 : alike a etagL = false) (h2 : alike a zzL = false) : hasN add2 a = false := by
  have e1 : has a (etLo, ⟨#[34, 50, 34]⟩) = false := by
    have : lower etLo.data.toList = lower etagL := rfl
    unfold alike at h1; unfold has alike; rw [this]; rw [beq_eq_false_iff_ne] at h1 ⊢; exact fun h => h1 h.symm
  have e2 : has a (zzU, ⟨#[99]⟩) = false := by
    have : lower zzU.data.toList = lower zzL := by decide +kernel
    unfold alike at h2; unfold has alike; rw [this]; rw [beq_eq_false_iff_ne] at h2 ⊢; exact fun h => h2 h.symm
  unfold hasN getN sel add2
  simp [e1, e2]
/-- What a refresh leaves of fields that have neither name. -/
theorem keeps (l : List Fl) (h : ∀ f ∈ l, has etagL f = false ∧ has zzL f = false) : outOf (l ++ two1) new3 = l ++ [(ctU, ⟨#[97]⟩)] ++ add2 := by
  unfold outOf
  rw [add_new, List.filter_append]
  have e1 : (l.filter fun f => !hasN add2 f.1.data.toList) = l := by
    rw [List.filter_eq_self]
    intro f hf
    rw [has_two (h f hf).1 (h f hf).2]; rfl
  have e2 : (two1.filter fun f => !hasN add2 f.1.data.toList) = [(ctU, ⟨#[97]⟩)] := by decide +kernel
  rw [e1, e2]
theorem keeps_tag (l : List Fl) (h : ∀ f ∈ l, has etagL f = false ∧ has zzL f = false) : getT (l ++ [(ctU, ⟨#[97]⟩)] ++ add2) etagL = [34, 50, 34] := by
  have e : sel l etagL = [] := by
    unfold sel
    rw [List.map_eq_nil_iff, List.filter_eq_nil_iff]
    intro f hf; rw [(h f hf).1]; simp
  have e2 : sel ([(ctU, ⟨#[97]⟩)] ++ add2) etagL = [[34, 50, 34]] := by decide +kernel
  unfold getT
  have e3 : sel (l ++ [(ctU, ⟨#[97]⟩)] ++ add2) etagL = sel l etagL ++ sel ([(ctU, ⟨#[97]⟩)] ++ add2) etagL := by
    rw [List.append_assoc]; unfold sel; rw [List.filter_append, List.map_append]
  rw [e3, e, e2]; rfl
end Go.Proofs.YtjbdgndejbiikaaDoor.Sg
