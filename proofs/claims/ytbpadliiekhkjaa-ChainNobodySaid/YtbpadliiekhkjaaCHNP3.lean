/-
  Texts that the laws' proofs stand on, 3 of them in one file; each one's head says what it proves and under which condition.
-/
import Derived.Test.YtbpadliiekhkjaaCHNP2
/-
  Several chains of one plain arena: each block is held as often as chains have it. No program, no condition.
-/
namespace Go.Proofs.Ytbpadliiekhkjaa.Ch
open Go.Proofs.Ytbpadliiekhkjaa.Tk Go.Proofs.Ytbpadliiekhkjaa.Sl
set_option linter.unusedVariables false
set_option linter.unusedSimpArgs false

theorem takeFrom_old {A A' : Ar} {c : Nat} {q h : Hd} {x : Blk} (hc : c < 4) (ht : takeFrom A c = some (q, A')) (hr : rightA A' h = some x) (hq : h ≠ q) : rightA A h = some x := by
  obtain ⟨d, i, b, h1, _, _, h4, h5, rfl, rfl⟩ := takeFrom_some hc ht
  obtain ⟨e, j, he, h6, h7, rfl⟩ := right_form hr
  by_cases hs : e = d ∧ j = i
  · obtain ⟨rfl, rfl⟩ := hs
    rw [upd_same, List.getElem?_set_self (List.getElem?_eq_some_iff.1 h4).1] at h6
    injection h6 with h6
    subst h6
    exact absurd rfl hq
  · rw [right_other he hs] at hr
    exact hr
theorem takeAll_old : ∀ (f : Nat) (A : Ar) (n : Nat) {h : Hd} {x : Blk}, rightA (takeAll f A n).2.1 h = some x → h ∉ (takeAll f A n).1 → rightA A h = some x
  | 0, A, n, h, x, hr, _ => hr
  | f + 1, A, n, h, x, hr, hm => by
    unfold takeAll at hr hm
    split at hr
    · exact hr
    · rename_i hn
      rw [if_neg hn] at hm
      cases ht : takeFrom A (classFor n) with
      | none => rw [ht] at hr; exact hr
      | some q =>
        obtain ⟨q, A'⟩ := q
        rw [ht] at hr hm
        replace hm : h ∉ q :: (takeAll f A' (n - sizeC q.1.toNat)).1 := hm
        exact takeFrom_old (classFor_lt n) ht (takeAll_old f A' _ hr (fun q2 => hm (List.mem_cons_of_mem _ q2))) (fun e => hm (by rw [e]; exact List.mem_cons_self ..))
theorem drop_old {A : Ar} {q h : Hd} {x : Blk} (hr : rightA (dropA A q).2 h = some x) : (h ≠ q ∧ rightA A h = some x) ∨ (h = q ∧ ∃ y, rightA A h = some y ∧ x = { y with held := y.held - 1 } ∧ 1 < y.held) := by
  unfold dropA at hr
  cases hb : rightA A q with
  | none =>
    rw [hb] at hr
    left
    exact ⟨fun e => (by subst e; rw [hb] at hr; cases hr), hr⟩
  | some b =>
    rw [hb] at hr
    obtain ⟨c, i, hc, h1, h2, rfl⟩ := right_form hb
    replace hr : rightA (putA A ((c : Int), (i : Int), (b.gen : Int)) { b with held := b.held - 1 }) h = some x := hr
    rw [put_at] at hr
    obtain ⟨d, j, hd, h3, h4, rfl⟩ := right_form hr
    by_cases hs : d = c ∧ j = i
    · obtain ⟨rfl, rfl⟩ := hs
      rw [upd_same, List.getElem?_set_self (List.getElem?_eq_some_iff.1 h1).1] at h3
      injection h3 with h3
      subst h3
      right
      refine ⟨rfl, b, hb, rfl, ?_⟩
      have : b.held - 1 ≠ 0 := h4
      omega
    · left
      rw [right_other hd hs] at hr
      refine ⟨fun e => ?_, hr⟩
      injection e with e1 e2
      injection e2 with e2 _
      exact hs ⟨by omega, by omega⟩
theorem drop_same {A : Ar} {q : Hd} {y : Blk} (hr : rightA A q = some y) : rightA (dropA A q).2 q = if y.held = 1 then none else some { y with held := y.held - 1 } := by
  obtain ⟨c, i, hc, h1, h2, rfl⟩ := right_form hr
  have hd : (dropA A ((c : Int), (i : Int), (y.gen : Int))).2 = upd A c ((A c).set i { y with held := y.held - 1 }) := by unfold dropA; rw [hr]; rfl
  rw [hd]
  split
  · rename_i h
    exact right_old hc (by rw [upd_same, List.getElem?_set_self (List.getElem?_eq_some_iff.1 h1).1]) (.inr (by show y.held - 1 = 0; omega))
  · rename_i h
    exact right_new (y := { y with held := y.held - 1 }) hc h1 (by show y.held - 1 ≠ 0; omega)
/-- Blocks that are let go, each once: how often the others, and they, are held. -/
theorem dropAll_old : ∀ (hs : List Hd) (A : Ar) {h : Hd} {x : Blk}, hs.Nodup → rightA (dropAll A hs) h = some x → ∃ y, rightA A h = some y ∧ x = { y with held := y.held - (if h ∈ hs then 1 else 0) } ∧ (h ∈ hs → 1 < y.held)
  | [], A, h, x, _, hr => ⟨x, hr, by simp, fun hm => by simp at hm⟩
  | q :: r, A, h, x, hn, hr => by
    rw [List.nodup_cons] at hn
    replace hr : rightA (dropAll (dropA A q).2 r) h = some x := hr
    obtain ⟨y, h1, h2, h3⟩ := dropAll_old r (dropA A q).2 hn.2 hr
    rcases drop_old h1 with ⟨hne, h4⟩ | ⟨rfl, z, h4, h5, h6⟩
    · refine ⟨y, h4, ?_, fun hm => h3 (by rcases List.mem_cons.1 hm with e | hm; exact absurd e hne; exact hm)⟩
      rw [h2]
      simp only [List.mem_cons, hne, false_or]
    · have hnr : h ∉ r := hn.1
      refine ⟨z, h4, ?_, fun _ => h6⟩
      rw [h2, h5, if_neg hnr, if_pos (List.mem_cons_self ..)]
      simp
theorem hold_right {A : Ar} {q h : Hd} {y : Blk} (hr : rightA A h = some y) (hy : y.held < 1048576) : rightA (holdA A q).2 h = some (if h = q then { y with held := y.held + 1 } else y) := by
  unfold holdA
  cases hb : rightA A q with
  | none =>
    have : h ≠ q := fun e => by subst e; rw [hb] at hr; cases hr
    rw [if_neg this]; exact hr
  | some b =>
    obtain ⟨c, i, hc, h1, h2, rfl⟩ := right_form hb
    by_cases hq : h = ((c : Int), (i : Int), (b.gen : Int))
    · subst hq
      rw [hb] at hr
      injection hr with hr
      subst hr
      rw [if_pos rfl]
      show rightA (if b.held = 1048576 then (3, A) else (0, putA A _ { b with held := b.held + 1 })).2 _ = _
      rw [if_neg (by omega)]
      show rightA (putA A _ _) _ = _
      rw [put_at]
      exact right_new (y := { b with held := b.held + 1 }) hc h1 (Nat.succ_ne_zero _)
    · rw [if_neg hq]
      show rightA (if b.held = 1048576 then (3, A) else (0, putA A _ { b with held := b.held + 1 })).2 _ = _
      split
      · exact hr
      · show rightA (putA A _ _) _ = _
        obtain ⟨d, j, hd, h3, h4, rfl⟩ := right_form hr
        rw [put_at, right_other hd (fun e => by
          obtain ⟨rfl, rfl⟩ := e
          rw [h1] at h3
          injection h3 with h3
          subst h3
          exact hq rfl)]
        exact hr
theorem holdAll_right : ∀ (hs : List Hd) (A : Ar) {h : Hd} {y : Blk}, hs.Nodup → rightA A h = some y → y.held < 1048576 → rightA (holdAll A hs) h = some { y with held := y.held + if h ∈ hs then 1 else 0 }
  | [], A, h, y, _, hr, _ => by simpa [holdAll] using hr
  | q :: r, A, h, y, hn, hr, hy => by
    rw [List.nodup_cons] at hn
    show rightA (holdAll (holdA A q).2 r) h = _
    have h1 := hold_right (q := q) hr hy
    by_cases hq : h = q
    · subst hq
      rw [if_pos rfl] at h1
      have hnr : h ∉ r := hn.1
      have h2 := holdAll_kept r (holdA A h).2 hnr h1
      rw [h2, if_pos (List.mem_cons_self ..)]
    · rw [if_neg hq] at h1
      have h2 := holdAll_right r (holdA A q).2 hn.2 h1 hy
      rw [h2]
      simp only [List.mem_cons, hq, false_or]
where
  holdAll_kept : ∀ (hs : List Hd) (A : Ar) {h : Hd} {y : Blk}, h ∉ hs → rightA A h = some y → rightA (holdAll A hs) h = some y
    | [], A, h, y, _, hr => hr
    | q :: r, A, h, y, hn, hr => by
      show rightA (holdAll (holdA A q).2 r) h = _
      have hq : h ≠ q := fun e => hn (by rw [e]; exact List.mem_cons_self ..)
      refine holdAll_kept r _ (fun hm => hn (List.mem_cons_of_mem _ hm)) ?_
      unfold holdA
      cases hb : rightA A q with
      | none => exact hr
      | some b =>
        show rightA (if b.held = 1048576 then (3, A) else (0, putA A q { b with held := b.held + 1 })).2 _ = _
        split
        · exact hr
        · obtain ⟨c, i, hc, h1, h2, rfl⟩ := right_form hb
          obtain ⟨d, j, hd, h3, h4, rfl⟩ := right_form hr
          show rightA (putA A _ _) _ = _
          rw [put_at, right_other hd (fun e => by
            obtain ⟨rfl, rfl⟩ := e
            rw [h1] at h3
            injection h3 with h3
            subst h3
            exact hq rfl)]
          exact hr
end Go.Proofs.Ytbpadliiekhkjaa.Ch
/-
  Several chains of one plain arena, call by call. No program, no condition.
-/
namespace Go.Proofs.Ytbpadliiekhkjaa.Ch
open Go.Proofs.Ytbpadliiekhkjaa.Tk Go.Proofs.Ytbpadliiekhkjaa.Sl
set_option linter.unusedVariables false
set_option linter.unusedSimpArgs false

/-- A chain that is not freed has this block. -/
def has (c : Chn) (h : Hd) : Bool := !c.freed && decide (h ∈ c.hs)
def uses (cs : List Chn) (h : Hd) : Nat := cs.countP fun c => has c h
theorem has_iff {c : Chn} {h : Hd} : has c h = true ↔ c.freed = false ∧ h ∈ c.hs := by
  unfold has; simp
theorem uses_set {cs : List Chn} {k : Nat} {c c' : Chn} (hc : cs[k]? = some c) (h : Hd) : uses (cs.set k c') h + (if has c h = true then 1 else 0) = uses cs h + if has c' h = true then 1 else 0 :=
  countP_swap (p := fun c => has c h) hc
theorem uses_pos {cs : List Chn} {k : Nat} {c : Chn} (hc : cs[k]? = some c) {h : Hd} (hh : has c h = true) : 0 < uses cs h := by
  unfold uses
  rw [List.countP_pos_iff]
  exact ⟨c, List.mem_of_getElem? hc, hh⟩
theorem uses_le (cs : List Chn) (h : Hd) : uses cs h ≤ cs.length := List.countP_le_length
theorem uses_snoc (cs : List Chn) (c : Chn) (h : Hd) : uses (cs ++ [c]) h = uses cs h + if has c h = true then 1 else 0 := by
  unfold uses; rw [List.countP_append, List.countP_cons, List.countP_nil, Nat.zero_add]
structure InvC (A : Ar) (cs : List Chn) : Prop where
  held : ∀ h b, rightA A h = some b → b.held = uses cs h
  right : ∀ (k : Nat) (c : Chn), cs[k]? = some c → ∀ h, has c h = true → ∃ b, rightA A h = some b
  nodup : ∀ (k : Nat) (c : Chn), cs[k]? = some c → c.hs.Nodup
  alone : ∀ (k : Nat) (c : Chn), cs[k]? = some c → c.shared = false → ∀ h, has c h = true → uses cs h = 1
theorem InvC.unused {A : Ar} {cs : List Chn} (v : InvC A cs) {h : Hd} (hn : rightA A h = none) : uses cs h = 0 := by
  unfold uses
  rw [List.countP_eq_zero]
  intro c hc hh
  obtain ⟨k, hk⟩ := List.getElem?_of_mem hc
  obtain ⟨b, hb⟩ := v.right k c hk h hh
  rw [hn] at hb; cases hb
/-- No chain, no block in use. -/
theorem InvC.start (ns : Nat → Nat) : InvC (newA ns) [] := by
  refine ⟨fun h b hb => ?_, fun k c hc => by simp at hc, fun k c hc => by simp at hc, fun k c hc => by simp at hc⟩
  obtain ⟨c, i, hc, h1, h2, _⟩ := right_form hb
  unfold newA at h1
  rw [List.getElem?_replicate] at h1
  split at h1
  · injection h1 with h1; subst h1; exact absurd rfl h2
  · cases h1
theorem snoc_at {cs : List Chn} {x c : Chn} {k : Nat} (h : (cs ++ [x])[k]? = some c) : cs[k]? = some c ∨ c = x := by
  rcases Nat.lt_or_ge k cs.length with hk | hk
  · rw [List.getElem?_append_left hk] at h; exact .inl h
  · rw [List.getElem?_append_right hk] at h
    obtain ⟨h1, h2⟩ := List.getElem?_eq_some_iff.1 h
    simp at h1 h2
    exact .inr (by rw [← h2])
theorem set_at {cs : List Chn} {x c : Chn} {k j : Nat} (h : (cs.set k x)[j]? = some c) : (j ≠ k ∧ cs[j]? = some c) ∨ (j = k ∧ c = x) := by
  by_cases e : k = j
  · subst e
    obtain ⟨h1, h2⟩ := List.getElem?_eq_some_iff.1 h
    rw [List.getElem_set_self] at h2
    exact .inr ⟨rfl, h2.symm⟩
  · rw [List.getElem?_set_ne e] at h; exact .inl ⟨Ne.symm e, h⟩
theorem InvC.new {A : Ar} {cs : List Chn} (v : InvC A cs) : InvC A (cs ++ [newC]) := by
  have hn : ∀ h, has newC h = false := fun h => by unfold has newC; simp
  have hu : ∀ h, uses (cs ++ [newC]) h = uses cs h := fun h => by rw [uses_snoc, hn]; simp
  refine ⟨fun h b hb => by rw [hu]; exact v.held h b hb, fun k c hc h hh => ?_, fun k c hc => ?_, fun k c hc hs h hh => ?_⟩
  · rcases snoc_at hc with hc | rfl
    · exact v.right k c hc h hh
    · rw [hn] at hh; cases hh
  · rcases snoc_at hc with hc | rfl
    · exact v.nodup k c hc
    · exact List.nodup_nil
  · rcases snoc_at hc with hc | rfl
    · rw [hu]; exact v.alone k c hc hs h hh
    · rw [hn] at hh; cases hh
/-- Blocks are taken for a chain. -/
theorem InvC.append {A : Ar} {cs : List Chn} (v : InvC A cs) {k : Nat} {c : Chn} (hc : cs[k]? = some c) (hf : c.freed = false) (hs : c.shared = false) (f n : Nat) (bs : Bs) :
    InvC (takeAll f A n).2.1 (cs.set k { c with hs := c.hs ++ (takeAll f A n).1, bytes := bs }) := by
  have hnew := fun h hm => (takeAll_new f A n h hm).1
  have hhas : ∀ h, has { c with hs := c.hs ++ (takeAll f A n).1, bytes := bs } h = true ↔ has c h = true ∨ h ∈ (takeAll f A n).1 := fun h => by
    rw [has_iff, has_iff]; simp [hf]
  have hold : ∀ h, h ∈ (takeAll f A n).1 → ¬ has c h = true := fun h hm hh => by
    obtain ⟨b, hb⟩ := v.right k c hc h hh
    rw [hnew h hm] at hb; cases hb
  have hu : ∀ h, uses (cs.set k { c with hs := c.hs ++ (takeAll f A n).1, bytes := bs }) h = if h ∈ (takeAll f A n).1 then 1 else uses cs h := fun h => by
    have h1 := uses_set (c' := { c with hs := c.hs ++ (takeAll f A n).1, bytes := bs }) hc h
    by_cases hm : h ∈ (takeAll f A n).1
    · rw [if_neg (hold h hm), if_pos ((hhas h).2 (.inr hm)), v.unused (hnew h hm)] at h1
      rw [if_pos hm]; omega
    · rw [if_neg hm]
      by_cases hh : has c h = true
      · rw [if_pos hh, if_pos ((hhas h).2 (.inl hh))] at h1; omega
      · rw [if_neg hh, if_neg (fun q => by rcases (hhas h).1 q with q | q; exact hh q; exact hm q)] at h1; omega
  refine ⟨fun h b hb => ?_, fun j x hx h hh => ?_, fun j x hx => ?_, fun j x hx hsx h hh => ?_⟩
  · rw [hu]
    by_cases hm : h ∈ (takeAll f A n).1
    · rw [if_pos hm]
      obtain ⟨_, d, i, g, _, _, h3⟩ := takeAll_new f A n h hm
      rw [hb] at h3
      injection h3 with h3
      rw [h3]
    · rw [if_neg hm]; exact v.held h b (takeAll_old f A n hb hm)
  · rcases set_at hx with ⟨_, hx⟩ | ⟨_, rfl⟩
    · obtain ⟨b, hb⟩ := v.right j x hx h hh
      exact ⟨b, takeAll_kept f A n hb⟩
    · rcases (hhas h).1 hh with hh | hm
      · obtain ⟨b, hb⟩ := v.right k c hc h hh
        exact ⟨b, takeAll_kept f A n hb⟩
      · obtain ⟨_, d, i, g, _, _, h3⟩ := takeAll_new f A n h hm
        exact ⟨_, h3⟩
  · rcases set_at hx with ⟨_, hx⟩ | ⟨_, rfl⟩
    · exact v.nodup j x hx
    · show (c.hs ++ (takeAll f A n).1).Nodup
      rw [List.nodup_append]
      refine ⟨v.nodup k c hc, takeAll_nodup f A n, fun a ha b hb e => ?_⟩
      subst e
      exact hold a hb (has_iff.2 ⟨hf, ha⟩)
  · rw [hu]
    rcases set_at hx with ⟨_, hx⟩ | ⟨_, rfl⟩
    · rw [if_neg (fun hm => by
        obtain ⟨b, hb⟩ := v.right j x hx h hh
        rw [hnew h hm] at hb; cases hb)]
      exact v.alone j x hx hsx h hh
    · rcases (hhas h).1 hh with hh | hm
      · rw [if_neg (fun hm => hold h hm hh)]
        exact v.alone k c hc hs h hh
      · rw [if_pos hm]
theorem dropAll_right : ∀ (hs : List Hd) (A : Ar) {h : Hd} {y : Blk}, hs.Nodup → rightA A h = some y → (h ∈ hs → 1 < y.held) → rightA (dropAll A hs) h = some { y with held := y.held - if h ∈ hs then 1 else 0 }
  | [], A, h, y, _, hr, _ => by simpa [dropAll] using hr
  | q :: r, A, h, y, hn, hr, hy => by
    rw [List.nodup_cons] at hn
    show rightA (dropAll (dropA A q).2 r) h = _
    by_cases hq : h = q
    · subst hq
      have h1 := drop_same hr
      have hy1 := hy (List.mem_cons_self ..)
      rw [if_neg (by omega)] at h1
      rw [dropAll_kept r _ hn.1 h1, if_pos (List.mem_cons_self ..)]
    · have h1 := drop_kept (fun e => hq e.symm) hr
      rw [dropAll_right r _ hn.2 h1 (fun hm => hy (List.mem_cons_of_mem _ hm))]
      simp only [List.mem_cons, hq, false_or]
/-- What was taken is let go again: as if nothing had been. -/
theorem InvC.none {A : Ar} {cs : List Chn} (v : InvC A cs) (f n : Nat) : InvC (dropAll (takeAll f A n).2.1 (takeAll f A n).1) cs := by
  have hnew := fun h hm => takeAll_new f A n h hm
  refine ⟨fun h b hb => ?_, fun k c hc h hh => ?_, v.nodup, v.alone⟩
  · obtain ⟨y, h1, h2, h3⟩ := dropAll_old _ _ (takeAll_nodup f A n) hb
    by_cases hm : h ∈ (takeAll f A n).1
    · obtain ⟨_, d, i, g, _, _, h5⟩ := hnew h hm
      rw [h1] at h5
      injection h5 with h5
      have h6 := h3 hm
      rw [h5] at h6
      exact absurd h6 (by show ¬ 1 < 1; decide)
    · rw [h2, if_neg hm]
      exact v.held h y (takeAll_old f A n h1 hm)
  · obtain ⟨b, hb⟩ := v.right k c hc h hh
    refine ⟨b, dropAll_kept _ _ (fun hm => ?_) (takeAll_kept f A n hb)⟩
    rw [(hnew h hm).1] at hb; cases hb
/-- A chain is freed. -/
theorem InvC.free {A : Ar} {cs : List Chn} (v : InvC A cs) {k : Nat} {c : Chn} (hc : cs[k]? = some c) (hf : c.freed = false) : InvC (dropAll A c.hs) (cs.set k { c with freed := true }) := by
  have hno : ∀ h, has { c with freed := true } h = false := fun h => by unfold has; simp
  have hu : ∀ h, uses (cs.set k { c with freed := true }) h + (if h ∈ c.hs then 1 else 0) = uses cs h := fun h => by
    have h1 := uses_set (c' := { c with freed := true }) hc h
    rw [hno] at h1
    by_cases hm : h ∈ c.hs
    · rw [if_pos (has_iff.2 ⟨hf, hm⟩)] at h1; rw [if_pos hm]; simpa using h1
    · rw [if_neg (fun q => hm (has_iff.1 q).2)] at h1; rw [if_neg hm]; simpa using h1
  have hnd := v.nodup k c hc
  refine ⟨fun h b hb => ?_, fun j x hx h hh => ?_, fun j x hx => ?_, fun j x hx hsx h hh => ?_⟩
  · obtain ⟨y, h1, h2, h3⟩ := dropAll_old _ _ hnd hb
    have h4 := v.held h y h1
    have h5 := hu h
    rw [h2]
    show y.held - _ = _
    omega
  · rcases set_at hx with ⟨hne, hx2⟩ | ⟨_, rfl⟩
    · obtain ⟨y, hy⟩ := v.right j x hx2 h hh
      refine ⟨_, dropAll_right _ _ hnd hy (fun hm => ?_)⟩
      have h4 := v.held h y hy
      have h5 := hu h
      rw [if_pos hm] at h5
      have h6 := uses_pos hx hh
      omega
    · rw [hno] at hh; cases hh
  · rcases set_at hx with ⟨_, hx⟩ | ⟨_, rfl⟩
    · exact v.nodup j x hx
    · exact hnd
  · rcases set_at hx with ⟨_, hx2⟩ | ⟨_, rfl⟩
    · have h1 := v.alone j x hx2 hsx h hh
      have h5 := hu h
      have h6 := uses_pos hx hh
      omega
    · rw [hno] at hh; cases hh
theorem hold_old {A : Ar} {q h : Hd} {x : Blk} (hr : rightA (holdA A q).2 h = some x) : ∃ y, rightA A h = some y := by
  unfold holdA at hr
  cases hb : rightA A q with
  | none => rw [hb] at hr; exact ⟨x, hr⟩
  | some b =>
    rw [hb] at hr
    simp only at hr
    split at hr
    · exact ⟨x, hr⟩
    · obtain ⟨c, i, hc, h1, h2, rfl⟩ := right_form hb
      replace hr : rightA (putA A ((c : Int), (i : Int), (b.gen : Int)) { b with held := b.held + 1 }) h = some x := hr
      rw [put_at] at hr
      obtain ⟨d, j, hd, h3, h4, rfl⟩ := right_form hr
      by_cases hs : d = c ∧ j = i
      · obtain ⟨rfl, rfl⟩ := hs
        rw [upd_same, List.getElem?_set_self (List.getElem?_eq_some_iff.1 h1).1] at h3
        injection h3 with h3
        subst h3
        exact ⟨b, hb⟩
      · rw [right_other hd hs] at hr
        exact ⟨x, hr⟩
theorem holdAll_old : ∀ (hs : List Hd) (A : Ar) {h : Hd} {x : Blk}, rightA (holdAll A hs) h = some x → ∃ y, rightA A h = some y
  | [], A, h, x, hr => ⟨x, hr⟩
  | q :: r, A, h, x, hr => by
    replace hr : rightA (holdAll (holdA A q).2 r) h = some x := hr
    obtain ⟨y, hy⟩ := holdAll_old r _ hr
    exact hold_old hy
/-- A chain is shared. -/
theorem InvC.share {A : Ar} {cs : List Chn} (v : InvC A cs) (hl : cs.length < 1048576) {k : Nat} {c : Chn} (hc : cs[k]? = some c) (hf : c.freed = false) :
    InvC (holdAll A c.hs) (cs.set k { c with shared := true } ++ [{ c with shared := true }]) := by
  have hsame : ∀ h, has { c with shared := true } h = has c h := fun h => rfl
  have hu : ∀ h, uses (cs.set k { c with shared := true } ++ [{ c with shared := true }]) h = uses cs h + if h ∈ c.hs then 1 else 0 := fun h => by
    have h1 := uses_set (c' := { c with shared := true }) hc h
    rw [hsame] at h1
    rw [uses_snoc, hsame]
    have h2 : (if has c h = true then 1 else 0) = if h ∈ c.hs then 1 else 0 := by
      by_cases hm : h ∈ c.hs
      · rw [if_pos (has_iff.2 ⟨hf, hm⟩), if_pos hm]
      · rw [if_neg (fun q => hm (has_iff.1 q).2), if_neg hm]
    rw [h2]; omega
  have hnd := v.nodup k c hc
  have hlt : ∀ h b, rightA A h = some b → b.held < 1048576 := fun h b hb => by
    have h1 := v.held h b hb
    have h2 := uses_le cs h
    omega
  have hat : ∀ j x, (cs.set k { c with shared := true } ++ [{ c with shared := true }])[j]? = some x → (∃ i, cs[i]? = some x) ∨ x = { c with shared := true } := fun j x hx => by
    rcases snoc_at hx with hx | rfl
    · rcases set_at hx with ⟨_, hx⟩ | ⟨_, rfl⟩
      · exact .inl ⟨j, hx⟩
      · exact .inr rfl
    · exact .inr rfl
  refine ⟨fun h b hb => ?_, fun j x hx h hh => ?_, fun j x hx => ?_, fun j x hx hsx h hh => ?_⟩
  · obtain ⟨y, hy⟩ := holdAll_old _ _ hb
    have h1 := holdAll_right c.hs A hnd hy (hlt h y hy)
    rw [hb] at h1
    injection h1 with h1
    rw [h1, hu]
    show y.held + _ = _
    rw [v.held h y hy]
  · have hx2 : ∃ y, rightA A h = some y := by
      rcases hat j x hx with ⟨i, hx⟩ | rfl
      · exact v.right i x hx h hh
      · exact v.right k c hc h hh
    obtain ⟨y, hy⟩ := hx2
    exact ⟨_, holdAll_right c.hs A hnd hy (hlt h y hy)⟩
  · rcases hat j x hx with ⟨i, hx⟩ | rfl
    · exact v.nodup i x hx
    · exact hnd
  · rcases hat j x hx with ⟨i, hx2⟩ | rfl
    · have h1 := v.alone i x hx2 hsx h hh
      rw [hu]
      by_cases hm : h ∈ c.hs
      · exfalso
        have hik : i ≠ k ∨ x = c := by
          by_cases e : i = k
          · subst e; rw [hc] at hx2; injection hx2 with hx2; exact .inr hx2.symm
          · exact .inl e
        rcases hik with hik | rfl
        · have h5 := uses_set (c' := { c with freed := true }) hc h
          have h6 : has { c with freed := true } h = false := by unfold has; simp
          rw [if_pos (has_iff.2 ⟨hf, hm⟩), h6] at h5
          have h7 : 0 < uses (cs.set k { c with freed := true }) h := uses_pos (k := i) (c := x) (by rw [List.getElem?_set_ne (Ne.symm hik)]; exact hx2) hh
          simp at h5
          omega
        · rcases snoc_at hx with hx | e
          · rcases set_at hx with ⟨hne, hx3⟩ | ⟨_, e⟩
            · have h5 := uses_set (c' := { x with freed := true }) hc h
              have h6 : has { x with freed := true } h = false := by unfold has; simp
              rw [if_pos (has_iff.2 ⟨hf, hm⟩), h6] at h5
              have h7 : 0 < uses (cs.set k { x with freed := true }) h := uses_pos (k := j) (c := x) (by rw [List.getElem?_set_ne (Ne.symm hne)]; exact hx3) hh
              simp at h5
              omega
            · rw [e] at hsx; cases hsx
          · rw [e] at hsx; cases hsx
      · rw [if_neg hm]; exact h1
    · cases hsx
end Go.Proofs.Ytbpadliiekhkjaa.Ch
/-
  What a chain's blocks hold, and what chain's laws ask of the plain arena. No program, no condition.
-/
namespace Go.Proofs.Ytbpadliiekhkjaa.Ch
open Go.Proofs.Ytbpadliiekhkjaa.Tk Go.Proofs.Ytbpadliiekhkjaa.Sl
set_option linter.unusedVariables false
set_option linter.unusedSimpArgs false

/-! What the blocks hold. -/
def blkMem (A : Ar) (h : Hd) : Bs := match rightA A h with
  | some b => b.mem
  | none => []
def memAll (A : Ar) (hs : List Hd) : Bs := hs.flatMap (blkMem A)
theorem blkMem_of {A : Ar} {h : Hd} {b : Blk} (hr : rightA A h = some b) : blkMem A h = b.mem := by unfold blkMem; rw [hr]
theorem memAll_cons (A : Ar) (h : Hd) (hs : List Hd) : memAll A (h :: hs) = blkMem A h ++ memAll A hs := rfl
theorem memAll_app (A : Ar) (a b : List Hd) : memAll A (a ++ b) = memAll A a ++ memAll A b := by simp [memAll]
theorem memAll_congr {A A' : Ar} {hs : List Hd} (h : ∀ x ∈ hs, blkMem A' x = blkMem A x) : memAll A' hs = memAll A hs := by
  induction hs with
  | nil => rfl
  | cons x r ih =>
    rw [memAll_cons, memAll_cons, h x (List.mem_cons_self ..), ih (fun y hy => h y (List.mem_cons_of_mem _ hy))]
theorem sizesOf_app (a b : List Hd) : sizesOf (a ++ b) = sizesOf a + sizesOf b := by simp [sizesOf]
theorem sizesOf_cons (h : Hd) (hs : List Hd) : sizesOf (h :: hs) = sizeC h.1.toNat + sizesOf hs := by simp [sizesOf]
theorem memAll_length {A : Ar} {hs : List Hd} (h : ∀ x ∈ hs, (blkMem A x).length = sizeC x.1.toNat) : (memAll A hs).length = sizesOf hs := by
  induction hs with
  | nil => rfl
  | cons x r ih =>
    rw [memAll_cons, List.length_append, sizesOf_cons, h x (List.mem_cons_self ..), ih (fun y hy => h y (List.mem_cons_of_mem _ hy))]
theorem blkMem_take {A : Ar} {h : Hd} {b : Blk} (f n : Nat) (hr : rightA A h = some b) : blkMem (takeAll f A n).2.1 h = blkMem A h := by
  rw [blkMem_of hr, blkMem_of (takeAll_kept f A n hr)]
theorem blkMem_hold {A : Ar} {hs : List Hd} {h : Hd} {b : Blk} (hn : hs.Nodup) (hr : rightA A h = some b) (hb : b.held < 1048576) : blkMem (holdAll A hs) h = blkMem A h := by
  rw [blkMem_of hr, blkMem_of (holdAll_right hs A hn hr hb)]
theorem blkMem_drop {A : Ar} {hs : List Hd} {h : Hd} {b : Blk} (hn : hs.Nodup) (hr : rightA A h = some b) (hb : h ∈ hs → 1 < b.held) : blkMem (dropAll A hs) h = blkMem A h := by
  rw [blkMem_of hr, blkMem_of (dropAll_right hs A hn hr hb)]
/-- Bytes are written in a block. -/
theorem write_fits {A : Ar} {h : Hd} {b : Blk} {i : Nat} {bs : Bs} (hr : rightA A h = some b) (hf : i + bs.length ≤ sizeC h.1.toNat) :
    (writeA A h (i : Int) bs).1 = 0 ∧ rightA (writeA A h (i : Int) bs).2 h = some { b with mem := lay b.mem i bs } ∧ ∀ q x, q ≠ h → rightA A q = some x → rightA (writeA A h (i : Int) bs).2 q = some x := by
  obtain ⟨c, j, hc, h1, h2, rfl⟩ := right_form hr
  have hfit : fitsI (c : Int) (i : Int) bs.length = true := by
    unfold fitsI sizesI
    rw [if_pos (by omega), Int.toNat_natCast, decide_eq_true_iff]
    simp only [Int.toNat_natCast] at hf
    omega
  have hw : writeA A ((c : Int), (j : Int), (b.gen : Int)) (i : Int) bs = (0, upd A c ((A c).set j { b with mem := lay b.mem i bs })) := by
    unfold writeA; rw [hr]
    show (if fitsI (c : Int) (i : Int) bs.length = true then _ else _) = _
    rw [if_pos hfit]; rfl
  rw [hw]
  refine ⟨rfl, right_new (y := { b with mem := lay b.mem i bs }) hc h1 h2, fun q x hq hx => ?_⟩
  obtain ⟨d, k, hd, h3, h4, rfl⟩ := right_form hx
  show rightA (upd A c _) _ = _
  rw [right_other hd (fun e => by
    obtain ⟨rfl, rfl⟩ := e
    rw [h1] at h3
    injection h3 with h3
    subst h3
    exact hq rfl)]
  exact hx
theorem write_old {A : Ar} {h q : Hd} {b x : Blk} {i : Nat} {bs : Bs} (hr : rightA A h = some b) (hf : i + bs.length ≤ sizeC h.1.toNat) (hx : rightA (writeA A h (i : Int) bs).2 q = some x) : ∃ y, rightA A q = some y ∧ x.held = y.held := by
  obtain ⟨_, w2, w3⟩ := write_fits hr hf
  by_cases hq : q = h
  · subst hq
    rw [w2] at hx
    injection hx with hx
    exact ⟨b, hr, by rw [← hx]⟩
  · obtain ⟨c, j, hc, h1, h2, rfl⟩ := right_form hr
    have hx2 := hx
    obtain ⟨d, k, hd, h3, h4, rfl⟩ := right_form hx
    cases hA : rightA A ((d : Int), (k : Int), (x.gen : Int)) with
    | some y =>
      rw [w3 _ y hq hA] at hx2
      injection hx2 with hx2
      exact ⟨y, rfl, by rw [← hx2]⟩
    | none =>
      exfalso
      have hfit : fitsI (c : Int) (i : Int) bs.length = true := by
        unfold fitsI sizesI
        rw [if_pos (by omega), Int.toNat_natCast, decide_eq_true_iff]
        simp only [Int.toNat_natCast] at hf
        omega
      have hw : writeA A ((c : Int), (j : Int), (b.gen : Int)) (i : Int) bs = (0, upd A c ((A c).set j { b with mem := lay b.mem i bs })) := by
        unfold writeA; rw [hr]
        show (if fitsI (c : Int) (i : Int) bs.length = true then _ else _) = _
        rw [if_pos hfit]; rfl
      rw [hw] at hx2
      replace hx2 : rightA (upd A c ((A c).set j { b with mem := lay b.mem i bs })) ((d : Int), (k : Int), (x.gen : Int)) = some x := hx2
      by_cases hs : d = c ∧ k = j
      · obtain ⟨rfl, rfl⟩ := hs
        obtain ⟨hl, _⟩ := List.getElem?_eq_some_iff.1 h1
        have h5 := right_at (A := upd A d ((A d).set k { b with mem := lay b.mem i bs })) (c := d) (i := k) (g := (x.gen : Int)) hd
        rw [upd_same, List.getElem?_set_self hl] at h5
        rw [hx2] at h5
        replace h5 : some x = if b.held ≠ 0 ∧ (b.gen : Int) = (x.gen : Int) then some { b with mem := lay b.mem i bs } else none := h5
        split at h5
        · rename_i hp
          exact hq (by rw [hp.2])
        · cases h5
      · rw [right_other hd hs] at hx2
        rw [hA] at hx2; cases hx2
theorem InvC.write {A : Ar} {cs : List Chn} (v : InvC A cs) {h : Hd} {b : Blk} {i : Nat} {bs : Bs} (hr : rightA A h = some b) (hf : i + bs.length ≤ sizeC h.1.toNat) : InvC (writeA A h (i : Int) bs).2 cs := by
  obtain ⟨_, w2, w3⟩ := write_fits hr hf
  refine ⟨fun q x hx => ?_, fun k c hc q hq => ?_, v.nodup, v.alone⟩
  · obtain ⟨y, h1, h2⟩ := write_old hr hf hx
    rw [h2]; exact v.held q y h1
  · obtain ⟨y, hy⟩ := v.right k c hc q hq
    by_cases e : q = h
    · subst e; exact ⟨_, w2⟩
    · exact ⟨y, w3 q y e hy⟩
theorem blkMem_write {A : Ar} {h q : Hd} {b x : Blk} {i : Nat} {bs : Bs} (hr : rightA A h = some b) (hf : i + bs.length ≤ sizeC h.1.toNat) (hq : rightA A q = some x) :
    blkMem (writeA A h (i : Int) bs).2 q = if q = h then lay b.mem i bs else blkMem A q := by
  obtain ⟨_, w2, w3⟩ := write_fits hr hf
  by_cases e : q = h
  · subst e; rw [if_pos rfl, blkMem_of w2]
  · rw [if_neg e, blkMem_of hq, blkMem_of (w3 q x e hq)]

/-! What the laws ask. -/
/-- Never a block more than is needed. -/
theorem takeAll_most : ∀ (f : Nat) (A : Ar) (n : Nat), 0 < n → sizesOf (takeAll f A n).1 < n + 4096
  | 0, A, n, hn => by simp [takeAll, sizesOf]
  | f + 1, A, n, hn => by
    unfold takeAll
    rw [if_neg (by omega)]
    cases ht : takeFrom A (classFor n) with
    | none => simp [sizesOf]
    | some q =>
      obtain ⟨q, A'⟩ := q
      obtain ⟨d, i, b, h1, _, _, _, _, rfl, _⟩ := takeFrom_some (classFor_lt n) ht
      have hd : d < 4 := by have := classFor_lt n; omega
      have hS : sizeC d ≤ 4096 := by
        rcases (by omega : d = 0 ∨ d = 1 ∨ d = 2 ∨ d = 3) with rfl | rfl | rfl | rfl <;> decide
      show sizesOf (((d : Int), (i : Int), (b.gen : Int) + 1) :: (takeAll f A' (n - sizeC ((d : Int)).toNat)).1) < _
      rw [sizesOf_cons, Int.toNat_natCast]
      by_cases hle : n ≤ sizeC d
      · have e : n - sizeC d = 0 := by omega
        rw [e]
        have : (takeAll f A' 0).1 = [] := by cases f with
          | zero => rfl
          | succ f => (unfold takeAll; rw [if_pos rfl]; try rfl)
        rw [this]
        show sizeC d + 0 < _
        omega
      · have ih := takeAll_most f A' (n - sizeC d) (by omega)
        omega
/-- Where a class that has enough has a free block, one is taken and serves. -/
theorem takeAll_one {A : Ar} {n : Nat} (f : Nat) (hn : 0 < n) (hm : n ≤ 4096) (hfree : ∃ b ∈ A (classN n), b.held = 0) : ∃ i g : Nat, (takeAll (f + 1) A n).1 = [((classN n : Int), (i : Int), (g : Int))] ∧ (takeAll (f + 1) A n).2.2 = true ∧
    (takeAll (f + 1) A n).2.1 = upd A (classN n) ((A (classN n)).set i ⟨g, 1, List.replicate (sizeC (classN n)) 0⟩) ∧ i = freeAt (A (classN n)) := by
  have hc : classFor n = classN n := by unfold classFor; rw [if_pos hm]
  have h4 := classN_lt n
  have hfit := classN_fit hm
  cases ht : takeFrom A (classN n) with
  | none =>
    obtain ⟨b, hb, h0⟩ := hfree
    exact absurd h0 (takeFrom_none h4 ht _ (Nat.le_refl _) b hb)
  | some q =>
    obtain ⟨q, A'⟩ := q
    obtain ⟨d, i, b, h1, h2, h3, h5, h6, rfl, rfl⟩ := takeFrom_some h4 ht
    have hd : d = classN n := by
      rcases Nat.lt_or_ge d (classN n) with h | h
      · obtain ⟨x, hx, hx0⟩ := hfree
        exact absurd hx0 (h2 _ h (Nat.le_refl _) x hx)
      · omega
    subst hd
    refine ⟨i, b.gen + 1, ?_, ?_, ?_, h3⟩
    all_goals
      unfold takeAll
      rw [if_neg (by omega), hc, ht]
      simp only [Int.toNat_natCast]
      have e : n - sizeC (classN n) = 0 := by omega
      rw [e]
      cases f with
      | zero => first | rfl | (simp [takeAll])
      | succ f => (unfold takeAll; rw [if_pos rfl]; try rfl)
end Go.Proofs.Ytbpadliiekhkjaa.Ch
