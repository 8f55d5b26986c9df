/-
  Texts that the laws' proofs stand on, 3 of them in one file; each one's head says what it proves and under which condition.
-/
import Derived.Test.YtbpadliiekhkjaaCHNP3
import Derived.Test.YtbpadliiekhkjaaRows
import Derived.Below
import Derived.WalkKit
import Derived.WalkLawsBesides
import Derived.Outline
import Derived.Lib.Hide
import Derived.Lib.Builder
import Derived.Laws.ResultCell
import Derived.Laws.Rows
import Derived.Maps.AppendAt
/-
  Two plain arenas that are alike but for the blocks' bytes: what each call tells of both is the same. No program, no condition.
-/
namespace Go.Proofs.Ytbpadliiekhkjaa.Ch
open Go.Proofs.Ytbpadliiekhkjaa.Tk Go.Proofs.Ytbpadliiekhkjaa.Sl
set_option linter.unusedVariables false
set_option linter.unusedSimpArgs false

def keyB (b : Blk) : Nat × Nat := (b.gen, b.held)
def Sh (A B : Ar) : Prop := ∀ c, (A c).map keyB = (B c).map keyB
theorem Sh.refl (A : Ar) : Sh A A := fun _ => rfl
theorem Sh.symm {A B : Ar} (h : Sh A B) : Sh B A := fun c => (h c).symm
theorem Sh.trans {A B C : Ar} (h : Sh A B) (k : Sh B C) : Sh A C := fun c => (h c).trans (k c)
theorem free_keys : ∀ {l m : List Blk}, l.map keyB = m.map keyB → freeAt l = freeAt m
  | [], [], _ => rfl
  | [], _ :: _, h => by cases h
  | _ :: _, [], h => by cases h
  | x :: l, y :: m, h => by
    injection h with h1 h2
    have e : x.held = y.held := congrArg Prod.snd h1
    unfold freeAt
    rw [e, free_keys h2]
theorem at_keys {l m : List Blk} (h : l.map keyB = m.map keyB) {i : Nat} {b : Blk} (hb : l[i]? = some b) : ∃ b', m[i]? = some b' ∧ b'.gen = b.gen ∧ b'.held = b.held := by
  have h1 : (m.map keyB)[i]? = some (keyB b) := by rw [← h, List.getElem?_map, hb]; rfl
  rw [List.getElem?_map] at h1
  cases hm : m[i]? with
  | none => rw [hm] at h1; cases h1
  | some b' =>
    rw [hm] at h1
    injection h1 with h1
    exact ⟨b', rfl, congrArg Prod.fst h1, congrArg Prod.snd h1⟩
theorem none_keys {l m : List Blk} (h : l.map keyB = m.map keyB) {i : Nat} (hb : l[i]? = none) : m[i]? = none := by
  cases hm : m[i]? with
  | none => rfl
  | some b' =>
    obtain ⟨b, h1, _⟩ := at_keys h.symm hm
    rw [hb] at h1; cases h1
theorem Sh.put {A B : Ar} (h : Sh A B) (c i : Nat) {x y : Blk} (hk : keyB x = keyB y) : Sh (upd A c ((A c).set i x)) (upd B c ((B c).set i y)) := fun d => by
  by_cases e : d = c
  · subst e; rw [upd_same, upd_same, List.map_set, List.map_set, h d, hk]
  · rw [upd_other _ _ e, upd_other _ _ e]; exact h d
theorem Sh.one {A : Ar} {c i : Nat} {b x : Blk} (hb : (A c)[i]? = some b) (hk : keyB x = keyB b) : Sh (upd A c ((A c).set i x)) A := fun d => by
  by_cases e : d = c
  · subst e
    rw [upd_same, List.map_set, hk]
    obtain ⟨hl, hb2⟩ := List.getElem?_eq_some_iff.1 hb
    apply List.ext_getElem?
    intro j
    by_cases hj : i = j
    · subst hj; rw [List.getElem?_set_self (by simpa using hl)]; simp [hl, hb2]
    · rw [List.getElem?_set_ne hj]
  · rw [upd_other _ _ e]
theorem Sh.alloc {A B : Ar} (h : Sh A B) (n : Int) : (allocA A n).1 = (allocA B n).1 ∧ (allocA A n).2.1 = (allocA B n).2.1 ∧ Sh (allocA A n).2.2 (allocA B n).2.2 := by
  unfold allocA
  split
  · exact ⟨rfl, rfl, h⟩
  · have hf := free_keys (h (classN n.toNat))
    cases hb : (A (classN n.toNat))[freeAt (A (classN n.toNat))]? with
    | none =>
      have := none_keys (h _) hb
      rw [hf] at this
      simp only [this]
      exact ⟨trivial, trivial, h⟩
    | some b =>
      obtain ⟨b', h1, h2, h3⟩ := at_keys (h _) hb
      rw [hf] at h1
      simp only [h1, hf, h2]
      refine ⟨trivial, trivial, ?_⟩
      exact h.put _ _ rfl
theorem Sh.right {A B : Ar} (h : Sh A B) {q : Hd} {b : Blk} (hr : rightA A q = some b) : ∃ b', rightA B q = some b' ∧ b'.gen = b.gen ∧ b'.held = b.held := by
  obtain ⟨c, i, hc, h1, h2, rfl⟩ := right_form hr
  obtain ⟨b', h3, h4, h5⟩ := at_keys (h c) h1
  refine ⟨b', ?_, h4, h5⟩
  rw [← h4]
  exact right_some hc h3 (by rw [h5]; exact h2)
theorem Sh.stale {A B : Ar} (h : Sh A B) {q : Hd} (hr : rightA A q = none) : rightA B q = none := by
  cases hb : rightA B q with
  | none => rfl
  | some b =>
    obtain ⟨b', h1, _⟩ := h.symm.right hb
    rw [hr] at h1; cases h1
theorem Sh.hold {A B : Ar} (h : Sh A B) (q : Hd) : (holdA A q).1 = (holdA B q).1 ∧ Sh (holdA A q).2 (holdA B q).2 := by
  unfold holdA
  cases hb : rightA A q with
  | none => rw [h.stale hb]; exact ⟨rfl, h⟩
  | some b =>
    obtain ⟨b', h1, h2, h3⟩ := h.right hb
    rw [h1]
    simp only [h3]
    split
    · exact ⟨rfl, h⟩
    · refine ⟨rfl, h.put _ _ ?_⟩
      unfold keyB; simp only [h2]
theorem Sh.drop {A B : Ar} (h : Sh A B) (q : Hd) : (dropA A q).1 = (dropA B q).1 ∧ Sh (dropA A q).2 (dropA B q).2 := by
  unfold dropA
  cases hb : rightA A q with
  | none => rw [h.stale hb]; exact ⟨rfl, h⟩
  | some b =>
    obtain ⟨b', h1, h2, h3⟩ := h.right hb
    rw [h1]
    refine ⟨rfl, h.put _ _ ?_⟩
    unfold keyB; simp only [h2, h3]
theorem Sh.write {A : Ar} (q : Hd) (i : Int) (bs : Bs) : Sh (writeA A q i bs).2 A := by
  unfold writeA
  cases hb : rightA A q with
  | none => exact .refl A
  | some b =>
    show Sh (if _ then _ else _ : Int × Ar).2 A
    split
    · obtain ⟨c, j, hc, h1, h2, rfl⟩ := right_form hb
      exact Sh.one h1 rfl
    · exact .refl A
theorem Sh.live {A B : Ar} (h : Sh A B) (c : Int) : liveA A c = liveA B c := by
  unfold liveA
  split
  · have e : ∀ l : List Blk, l.countP (fun b => b.held != 0) = (l.map keyB).countP (fun k => k.2 != 0) := fun l => by
      rw [List.countP_map]; rfl
    rw [e, e, h]
  · rfl
theorem Sh.takeOne {A B : Ar} (h : Sh A B) (c : Nat) : (takeOne A c = none ∧ takeOne B c = none) ∨ ∃ q A' B', takeOne A c = some (q, A') ∧ takeOne B c = some (q, B') ∧ Sh A' B' := by
  obtain ⟨h1, h2, h3⟩ := h.alloc (sizeC c : Nat)
  unfold Ch.takeOne
  rw [← h2]
  split
  · right; exact ⟨_, _, _, rfl, by rw [h1], h3⟩
  · left; exact ⟨rfl, rfl⟩
theorem Sh.takeFrom {A B : Ar} (h : Sh A B) : ∀ c : Nat, (takeFrom A c = none ∧ takeFrom B c = none) ∨ ∃ q A' B', takeFrom A c = some (q, A') ∧ takeFrom B c = some (q, B') ∧ Sh A' B'
  | 0 => h.takeOne 0
  | c + 1 => by
    unfold Ch.takeFrom
    rcases h.takeOne (c + 1) with ⟨h1, h2⟩ | ⟨q, A', B', h1, h2, h3⟩
    · rw [h1, h2]; exact h.takeFrom c
    · rw [h1, h2]; exact .inr ⟨q, A', B', rfl, rfl, h3⟩
theorem Sh.takeAll : ∀ (f : Nat) {A B : Ar} (h : Sh A B) (n : Nat), (takeAll f A n).1 = (takeAll f B n).1 ∧ (takeAll f A n).2.2 = (takeAll f B n).2.2 ∧ Sh (takeAll f A n).2.1 (takeAll f B n).2.1
  | 0, A, B, h, n => ⟨rfl, rfl, h⟩
  | f + 1, A, B, h, n => by
    unfold Ch.takeAll
    split
    · exact ⟨rfl, rfl, h⟩
    · rcases h.takeFrom (classFor n) with ⟨h1, h2⟩ | ⟨q, A', B', h1, h2, h3⟩
      · rw [h1, h2]; exact ⟨rfl, rfl, h⟩
      · rw [h1, h2]
        obtain ⟨e1, e2, e3⟩ := Sh.takeAll f h3 (n - sizeC q.1.toNat)
        refine ⟨?_, e2, e3⟩
        show q :: _ = q :: _
        rw [e1]
theorem Sh.dropAll : ∀ (hs : List Hd) {A B : Ar} (h : Sh A B), Sh (dropAll A hs) (dropAll B hs)
  | [], A, B, h => h
  | q :: r, A, B, h => Sh.dropAll r (h.drop q).2
theorem Sh.holdAll : ∀ (hs : List Hd) {A B : Ar} (h : Sh A B), Sh (holdAll A hs) (holdAll B hs)
  | [], A, B, h => h
  | q :: r, A, B, h => Sh.holdAll r (h.hold q).2
end Go.Proofs.Ytbpadliiekhkjaa.Ch
/-
  What chains' blocks hold behind each call: Append with its writes, Share, Free. No program, no condition.
-/
namespace Go.Proofs.Ytbpadliiekhkjaa.Ch
open Go.Proofs.Ytbpadliiekhkjaa.Tk Go.Proofs.Ytbpadliiekhkjaa.Sl
set_option linter.unusedVariables false
set_option linter.unusedSimpArgs false

def lastH (hs : List Hd) : Hd := hs.getLast?.getD (0, 0, 0)
theorem lastH_snoc (l : List Hd) (h : Hd) : lastH (l ++ [h]) = h := by simp [lastH]
theorem lastH_app (l m : List Hd) (hm : m ≠ []) : lastH (l ++ m) = lastH m := by
  unfold lastH
  rw [List.getLast?_append]
  cases h : m.getLast? with
  | none => rw [List.getLast?_eq_none_iff] at h; exact absurd h hm
  | some x => rfl
theorem lastH_mem {l : List Hd} (h : l ≠ []) : lastH l ∈ l := by
  unfold lastH
  cases e : l.getLast? with
  | none => rw [List.getLast?_eq_none_iff] at e; exact absurd e h
  | some x => exact List.mem_of_getLast? e
theorem snoc_of {l : List Hd} (h : l ≠ []) : ∃ p, l = p ++ [lastH l] := by
  refine ⟨l.dropLast, ?_⟩
  unfold lastH
  rw [List.getLast?_eq_some_getLast h]
  exact (List.dropLast_concat_getLast h).symm
def roomC (c : Chn) : Nat := sizesOf c.hs - c.bytes.length
def fillA (A : Ar) (c : Chn) (b : Bs) : Ar := if b.length = 0 then A else (writeA A (lastH c.hs) ((sizeC (lastH c.hs).1.toNat - roomC c : Nat) : Int) b).2
def layA : Ar → List Hd → Bs → Ar
  | A, [], _ => A
  | A, h :: r, b => layA (writeA A h ((0 : Nat) : Int) (b.take (sizeC h.1.toNat))).2 r (b.drop (sizeC h.1.toNat))
/-- What the program's Append tells and leaves. -/
def appendP (A : Ar) (c : Chn) (b : Bs) : Int × Ar × Chn :=
  if c.freed then (16, A, c) else if c.shared then (2, A, c) else if mostN - c.bytes.length < b.length then (3, A, c)
  else let r := takeAll (b.length + 1) A (b.length - roomC c)
    if r.2.2 then (0, layA (fillA r.2.1 c (b.take (roomC c))) r.1 (b.drop (roomC c)), { c with hs := c.hs ++ r.1, bytes := c.bytes ++ b }) else (14, dropAll r.2.1 r.1, c)

theorem Sh.layA : ∀ (T : List Hd) (A : Ar) (b : Bs), Sh (layA A T b) A
  | [], A, b => .refl A
  | h :: r, A, b => (Sh.layA r _ _).trans (Sh.write h _ _)
theorem Sh.fillA (A : Ar) (c : Chn) (b : Bs) : Sh (fillA A c b) A := by
  unfold Ch.fillA
  split
  · exact .refl A
  · exact Sh.write _ _ _
/-- Both arenas' Append tell the same. -/
theorem Sh.append {A B : Ar} (h : Sh A B) (c : Chn) (b : Bs) : (appendP A c b).1 = (appendC B c b).1 ∧ (appendP A c b).2.2 = (appendC B c b).2.2 ∧ Sh (appendP A c b).2.1 (appendC B c b).2.1 := by
  unfold appendP appendC
  split
  · exact ⟨rfl, rfl, h⟩
  · split
    · exact ⟨rfl, rfl, h⟩
    · split
      · exact ⟨rfl, rfl, h⟩
      · obtain ⟨e1, e2, e3⟩ := Sh.takeAll (b.length + 1) h (b.length - roomC c)
        have e4 : b.length - (sizesOf c.hs - c.bytes.length) = b.length - roomC c := rfl
        rw [e4]
        generalize Ch.takeAll (b.length + 1) A (b.length - roomC c) = r at *
        generalize Ch.takeAll (b.length + 1) B (b.length - roomC c) = s at *
        obtain ⟨r1, r2, r3⟩ := r
        obtain ⟨s1, s2, s3⟩ := s
        simp only at e1 e2 e3
        subst e1 e2
        cases r3 with
        | true => exact ⟨rfl, rfl, ((Sh.layA _ _ _).trans (Sh.fillA _ _ _)).trans e3⟩
        | false => exact ⟨rfl, rfl, Sh.dropAll _ e3⟩

/-- A chain's bytes lie in its blocks; each but the last one is full. -/
structure InvB (A : Ar) (c : Chn) : Prop where
  mem : ∀ h, h ∈ c.hs → ∃ b, rightA A h = some b ∧ b.mem.length = sizeC h.1.toNat
  bytes : (memAll A c.hs).take c.bytes.length = c.bytes
  fit : c.bytes.length ≤ sizesOf c.hs
  tail : c.hs ≠ [] → sizesOf c.hs < c.bytes.length + sizeC (lastH c.hs).1.toNat
  big : c.bytes.length ≤ mostN
theorem InvB.new (A : Ar) : InvB A newC := ⟨fun h hm => by simp [newC] at hm, rfl, Nat.le_refl _, fun h => absurd rfl h, by simp [newC]⟩
theorem InvB.same {A A' : Ar} {c : Chn} (v : InvB A c) (h : ∀ q, q ∈ c.hs → ∀ b, rightA A q = some b → ∃ b', rightA A' q = some b' ∧ b'.mem = b.mem) : InvB A' c := by
  refine ⟨fun q hq => ?_, ?_, v.fit, v.tail, v.big⟩
  · obtain ⟨b, h1, h2⟩ := v.mem q hq
    obtain ⟨b', h3, h4⟩ := h q hq b h1
    exact ⟨b', h3, by rw [h4]; exact h2⟩
  · rw [memAll_congr (A := A) (fun q hq => ?_)]
    · exact v.bytes
    · obtain ⟨b, h1, h2⟩ := v.mem q hq
      obtain ⟨b', h3, h4⟩ := h q hq b h1
      rw [blkMem_of h1, blkMem_of h3, h4]
theorem InvB.share {A : Ar} {c : Chn} (v : InvB A c) : InvB A { c with shared := true } := ⟨v.mem, v.bytes, v.fit, v.tail, v.big⟩
theorem right_lt {A : Ar} {h : Hd} {b : Blk} (hr : rightA A h = some b) : 0 ≤ h.1 ∧ h.1 ≤ 3 := by
  obtain ⟨c, i, hc, _, _, rfl⟩ := right_form hr
  show (0 : Int) ≤ (c : Int) ∧ (c : Int) ≤ 3
  omega
theorem layA_spec : ∀ (T : List Hd) (A : Ar) (b : Bs), T.Nodup → (∀ h, h ∈ T → ∃ k, rightA A h = some k ∧ k.mem.length = sizeC h.1.toNat) → b.length ≤ sizesOf T →
    (∀ q x, q ∉ T → rightA A q = some x → rightA (layA A T b) q = some x) ∧ (∀ h, h ∈ T → ∃ k, rightA (layA A T b) h = some k ∧ k.mem.length = sizeC h.1.toNat) ∧ (memAll (layA A T b) T).take b.length = b
  | [], A, b, _, _, hb => ⟨fun _ _ _ h => h, fun h hm => by simp at hm, by
      have : b = [] := List.length_eq_zero_iff.1 (by simpa [sizesOf] using hb)
      subst this; rfl⟩
  | h :: r, A, b, hn, hr, hb => by
    rw [List.nodup_cons] at hn
    rw [sizesOf_cons] at hb
    obtain ⟨k, hk, hkl⟩ := hr h (List.mem_cons_self ..)
    have hf : 0 + (b.take (sizeC h.1.toNat)).length ≤ sizeC h.1.toNat := by rw [List.length_take]; omega
    obtain ⟨_, w2, w3⟩ := write_fits hk hf
    have hr1 : ∀ q, q ∈ r → ∃ k, rightA (writeA A h ((0 : Nat) : Int) (b.take (sizeC h.1.toNat))).2 q = some k ∧ k.mem.length = sizeC q.1.toNat := fun q hq => by
      obtain ⟨x, hx, hxl⟩ := hr q (List.mem_cons_of_mem _ hq)
      exact ⟨x, w3 q x (fun e => hn.1 (by rw [← e]; exact hq)) hx, hxl⟩
    obtain ⟨i1, i2, i3⟩ := layA_spec r (writeA A h ((0 : Nat) : Int) (b.take (sizeC h.1.toNat))).2 (b.drop (sizeC h.1.toNat)) hn.2 hr1 (by rw [List.length_drop]; omega)
    have hh := i1 h _ hn.1 w2
    have hlen : (lay k.mem 0 (b.take (sizeC h.1.toNat))).length = sizeC h.1.toNat := by rw [lay_length (by omega), hkl]
    refine ⟨fun q x hq hx => ?_, fun q hq => ?_, ?_⟩
    · exact i1 q x (fun e => hq (List.mem_cons_of_mem _ e)) (w3 q x (fun e => hq (by rw [e]; exact List.mem_cons_self ..)) hx)
    · rcases List.mem_cons.1 hq with rfl | hq
      · exact ⟨_, hh, hlen⟩
      · exact i2 q hq
    · show (memAll (layA _ r _) (h :: r)).take _ = b
      rw [memAll_cons, blkMem_of hh]
      show (lay k.mem 0 (b.take (sizeC h.1.toNat)) ++ _).take _ = b
      have hl : lay k.mem 0 (b.take (sizeC h.1.toNat)) = b.take (sizeC h.1.toNat) ++ k.mem.drop (b.take (sizeC h.1.toNat)).length := by
        unfold lay; simp
      by_cases hle : b.length ≤ sizeC h.1.toNat
      · rw [hl, List.take_of_length_le (l := b) hle, List.append_assoc, List.take_left]
      · have e1 : (b.take (sizeC h.1.toNat)).length = sizeC h.1.toNat := by rw [List.length_take]; omega
        have e2 : k.mem.drop (sizeC h.1.toNat) = [] := List.drop_eq_nil_of_le (by omega)
        rw [hl, e1, e2, List.append_nil, List.take_append, e1]
        rw [List.take_of_length_le (l := b.take (sizeC h.1.toNat)) (by omega)]
        rw [List.length_drop] at i3
        rw [i3, List.take_append_drop]
theorem InvC.layA {cs : List Chn} : ∀ (T : List Hd) (A : Ar) (b : Bs), (∀ h, h ∈ T → ∃ k, rightA A h = some k) → InvC A cs → InvC (layA A T b) cs
  | [], A, b, _, v => v
  | h :: r, A, b, hr, v => by
    obtain ⟨k, hk⟩ := hr h (List.mem_cons_self ..)
    have hf : 0 + (b.take (sizeC h.1.toNat)).length ≤ sizeC h.1.toNat := by rw [List.length_take]; omega
    obtain ⟨_, w2, w3⟩ := write_fits hk hf
    refine InvC.layA r _ _ (fun q hq => ?_) (v.write hk hf)
    obtain ⟨x, hx⟩ := hr q (List.mem_cons_of_mem _ hq)
    by_cases e : q = h
    · subst e; exact ⟨_, w2⟩
    · exact ⟨x, w3 q x e hx⟩
theorem takeAll_tight : ∀ (f : Nat) (A : Ar) (n : Nat), (takeAll f A n).1 ≠ [] → sizesOf (takeAll f A n).1 < n + sizeC (lastH (takeAll f A n).1).1.toNat
  | 0, A, n, h => absurd rfl h
  | f + 1, A, n, h => by
    unfold takeAll at h ⊢
    split at h
    · exact absurd rfl h
    · rename_i hn
      rw [if_neg hn]
      cases ht : takeFrom A (classFor n) with
      | none => rw [ht] at h; exact absurd rfl h
      | some q =>
        obtain ⟨q, A'⟩ := q
        show sizesOf (q :: (takeAll f A' (n - sizeC q.1.toNat)).1) < n + sizeC (lastH (q :: (takeAll f A' (n - sizeC q.1.toNat)).1)).1.toNat
        rw [sizesOf_cons]
        by_cases hr : (takeAll f A' (n - sizeC q.1.toNat)).1 = []
        · rw [hr]
          show _ + 0 < n + sizeC (lastH [q]).1.toNat
          have : lastH [q] = q := lastH_snoc [] q
          rw [this]; omega
        · have ih := takeAll_tight f A' (n - sizeC q.1.toNat) hr
          have e : lastH (q :: (takeAll f A' (n - sizeC q.1.toNat)).1) = lastH (takeAll f A' (n - sizeC q.1.toNat)).1 := lastH_app [q] _ hr
          rw [e]
          have : n - sizeC q.1.toNat ≠ 0 := fun h0 => hr (by
            rw [h0]
            cases f with
            | zero => rfl
            | succ f => (unfold takeAll; rw [if_pos rfl]))
          omega
theorem takeAll_zero (f : Nat) (A : Ar) : takeAll f A 0 = ([], A, true) := by
  cases f with
  | zero => rfl
  | succ f => (unfold takeAll; rw [if_pos rfl])
/-- Bytes written in the last of some blocks. -/
theorem memAll_last {A : Ar} {p : List Hd} {h : Hd} {i : Nat} {bs : Bs} (hn : (p ++ [h]).Nodup) (hm : ∀ q, q ∈ p ++ [h] → ∃ b, rightA A q = some b ∧ b.mem.length = sizeC q.1.toNat) (hf : i + bs.length ≤ sizeC h.1.toNat) :
    memAll (writeA A h (i : Int) bs).2 (p ++ [h]) = lay (memAll A (p ++ [h])) (sizesOf p + i) bs := by
  obtain ⟨b, hb, hbl⟩ := hm h (by simp)
  obtain ⟨_, w2, w3⟩ := write_fits hb hf
  have hnp : h ∉ p := fun e => by
    rw [List.nodup_append] at hn
    exact hn.2.2 h e h (by simp) rfl
  have e1 : memAll (writeA A h (i : Int) bs).2 p = memAll A p := memAll_congr fun q hq => by
    obtain ⟨x, hx, _⟩ := hm q (by simp [hq])
    rw [blkMem_of hx, blkMem_of (w3 q x (fun e => hnp (by rw [← e]; exact hq)) hx)]
  have e2 : (memAll A p).length = sizesOf p := memAll_length fun q hq => by
    obtain ⟨x, hx, hl⟩ := hm q (by simp [hq])
    rw [blkMem_of hx]; exact hl
  have e3 : memAll (writeA A h (i : Int) bs).2 [h] = lay b.mem i bs := by
    show blkMem _ h ++ [] = _
    rw [List.append_nil, blkMem_of w2]
  have e4 : memAll A [h] = b.mem := by
    show blkMem _ h ++ [] = _
    rw [List.append_nil, blkMem_of hb]
  rw [memAll_app, memAll_app, e1, e3, e4]
  unfold lay
  rw [← e2, List.take_append, List.take_of_length_le (l := memAll A p) (by omega), Nat.add_sub_cancel_left, List.drop_append, List.drop_eq_nil_of_le («as» := memAll A p) (by omega)]
  simp only [List.append_assoc, List.nil_append]
  congr 4
  omega
theorem lay_take (m bs : Bs) (i : Nat) (h : i ≤ m.length) : (lay m i bs).take (i + bs.length) = m.take i ++ bs := by
  unfold lay
  rw [List.take_append_of_le_length (by rw [List.length_append, List.length_take]; omega), List.take_of_length_le (by rw [List.length_append, List.length_take]; omega)]
structure Inv (A : Ar) (cs : List Chn) : Prop where
  c : InvC A cs
  b : ∀ (k : Nat) (c : Chn), cs[k]? = some c → c.freed = false → InvB A c
theorem set_same {cs : List Chn} {k : Nat} {c : Chn} (hc : cs[k]? = some c) : cs.set k c = cs := by
  obtain ⟨h, e⟩ := List.getElem?_eq_some_iff.1 hc
  rw [← e]
  exact List.set_getElem_self h
/-- Two chains that have a block use it twice. -/
theorem uses_two {cs : List Chn} {j k : Nat} {x c : Chn} (hj : cs[j]? = some x) (hk : cs[k]? = some c) (hne : j ≠ k) {h : Hd} (h1 : has x h = true) (h2 : has c h = true) : 2 ≤ uses cs h := by
  have h5 := uses_set (c' := { c with freed := true }) hk h
  have h6 : has { c with freed := true } h = false := by unfold has; simp
  rw [if_pos h2, h6] at h5
  have h7 : 0 < uses (cs.set k { c with freed := true }) h := uses_pos (k := j) (c := x) (by rw [List.getElem?_set_ne (Ne.symm hne)]; exact hj) h1
  simp at h5
  omega
theorem Inv.start (ns : Nat → Nat) : Inv (newA ns) [] := ⟨InvC.start ns, fun k c hc => by simp at hc⟩
theorem Inv.new {A : Ar} {cs : List Chn} (v : Inv A cs) : Inv A (cs ++ [newC]) := ⟨v.c.new, fun k c hc hf => by
  rcases snoc_at hc with hc | rfl
  · exact v.b k c hc hf
  · exact InvB.new A⟩
/-- The chain's memory behind an Append that went well; all other blocks. -/
theorem append_ok {A : Ar} {cs : List Chn} (v : Inv A cs) {k : Nat} {c : Chn} (hc : cs[k]? = some c) (hf : c.freed = false) (hs : c.shared = false) (b : Bs) (hb : b.length ≤ mostN - c.bytes.length)
    (hok : (takeAll (b.length + 1) A (b.length - roomC c)).2.2 = true) :
    Inv (layA (fillA (takeAll (b.length + 1) A (b.length - roomC c)).2.1 c (b.take (roomC c))) (takeAll (b.length + 1) A (b.length - roomC c)).1 (b.drop (roomC c)))
      (cs.set k { c with hs := c.hs ++ (takeAll (b.length + 1) A (b.length - roomC c)).1, bytes := c.bytes ++ b }) := by
  have vb := v.b k c hc hf
  have v1 := v.c.append hc hf hs (b.length + 1) (b.length - roomC c) (c.bytes ++ b)
  have hen := takeAll_enough (b.length + 1) A (b.length - roomC c) hok
  have htight := takeAll_tight (b.length + 1) A (b.length - roomC c)
  have hnew := fun h hm => takeAll_new (b.length + 1) A (b.length - roomC c) h hm
  have hnd := takeAll_nodup (b.length + 1) A (b.length - roomC c)
  have hkept := fun {h : Hd} {x : Blk} (hr : rightA A h = some x) => takeAll_kept (b.length + 1) A (b.length - roomC c) hr
  have hzero : b.length - roomC c = 0 → (takeAll (b.length + 1) A (b.length - roomC c)).1 = [] := fun h0 => by rw [h0, takeAll_zero]
  generalize takeAll (b.length + 1) A (b.length - roomC c) = r at *
  obtain ⟨T, A1, ok⟩ := r
  simp only at *
  have hroom : roomC c = sizesOf c.hs - c.bytes.length := rfl
  -- the old blocks, and the ones that were taken
  have hold : ∀ q, q ∈ c.hs → ∃ x, rightA A1 q = some x ∧ x.mem.length = sizeC q.1.toNat := fun q hq => by
    obtain ⟨x, hx, hl⟩ := vb.mem q hq
    exact ⟨x, hkept hx, hl⟩
  have hT : ∀ q, q ∈ T → ∃ x, rightA A1 q = some x ∧ x.mem.length = sizeC q.1.toNat := fun q hq => by
    obtain ⟨_, d, i, g, hd, rfl, hr⟩ := hnew q hq
    exact ⟨_, hr, by simp⟩
  have hTn : ∀ q, q ∈ T → ∀ x, rightA A q ≠ some x := fun q hq x hx => by rw [(hnew q hq).1] at hx; cases hx
  have hapart : ∀ q, q ∈ c.hs → q ∉ T := fun q hq hT => by
    obtain ⟨x, hx, _⟩ := vb.mem q hq
    exact hTn q hT x hx
  -- the room is filled
  have hb1l : (b.take (roomC c)).length = min (roomC c) b.length := List.length_take
  have hfill : InvC (fillA A1 c (b.take (roomC c))) (cs.set k { c with hs := c.hs ++ T, bytes := c.bytes ++ b }) ∧
      (∀ q x, (q ∉ c.hs ∨ (b.take (roomC c)).length = 0 ∨ q ≠ lastH c.hs) → rightA A1 q = some x → rightA (fillA A1 c (b.take (roomC c))) q = some x) ∧
      (∀ q, q ∈ c.hs → ∃ x, rightA (fillA A1 c (b.take (roomC c))) q = some x ∧ x.mem.length = sizeC q.1.toNat) ∧
      (memAll (fillA A1 c (b.take (roomC c))) c.hs).take (c.bytes.length + (b.take (roomC c)).length) = c.bytes ++ b.take (roomC c) := by
    have hmA : memAll A1 c.hs = memAll A c.hs := memAll_congr fun q hq => by
      obtain ⟨x, hx, _⟩ := vb.mem q hq
      rw [blkMem_of hx, blkMem_of (hkept hx)]
    unfold fillA
    split
    · rename_i h0
      refine ⟨v1, fun q x _ h => h, hold, ?_⟩
      have : b.take (roomC c) = [] := List.length_eq_zero_iff.1 h0
      rw [this, List.append_nil, hmA]
      simpa using vb.bytes
    · rename_i h0
      have hne : c.hs ≠ [] := fun e => by
        have : roomC c = 0 := by unfold roomC; rw [e]; simp [sizesOf]
        rw [this] at h0; simp at h0
      have htail := vb.tail hne
      obtain ⟨p, hp⟩ := snoc_of hne
      have hlm := lastH_mem hne
      obtain ⟨x, hx, hxl⟩ := hold _ hlm
      generalize lastH c.hs = L at *
      have hsz : sizesOf c.hs = sizesOf p + sizeC L.1.toNat := by
        rw [hp, sizesOf_app, sizesOf_cons]; rfl
      have hfit := vb.fit
      have hfits : (sizeC L.1.toNat - roomC c) + (b.take (roomC c)).length ≤ sizeC L.1.toNat := by rw [hb1l]; omega
      obtain ⟨_, w2, w3⟩ := write_fits hx hfits
      refine ⟨v1.write hx hfits, fun q y hq hy => ?_, fun q hq => ?_, ?_⟩
      · refine w3 q y (fun e => ?_) hy
        rcases hq with hq | hq | hq
        · exact hq (by rw [e]; exact hlm)
        · exact h0 hq
        · exact hq e
      · by_cases e : q = L
        · subst e
          exact ⟨_, w2, by show (lay x.mem _ _).length = _; rw [lay_length (by omega)]; exact hxl⟩
        · obtain ⟨y, hy, hyl⟩ := hold q hq
          exact ⟨y, w3 q y e hy, hyl⟩
      · have hnd0 := v.c.nodup k c hc
        have hmm := hold
        rw [hp] at hnd0 hmm
        have hlay := memAll_last hnd0 hmm hfits
        rw [← hp] at hlay
        have hplace : sizesOf p + (sizeC L.1.toNat - roomC c) = c.bytes.length := by omega
        have hml : (memAll A1 c.hs).length = sizesOf c.hs := memAll_length fun q hq => by
          obtain ⟨y, hy, hyl⟩ := hold q hq
          rw [blkMem_of hy]; exact hyl
        rw [hlay, hplace, lay_take _ _ _ (by omega), hmA, vb.bytes]
  obtain ⟨f1, f2, f3, f4⟩ := hfill
  generalize fillA A1 c (b.take (roomC c)) = A2 at *
  have hT2 : ∀ q, q ∈ T → ∃ x, rightA A2 q = some x ∧ x.mem.length = sizeC q.1.toNat := fun q hq => by
    obtain ⟨x, hx, hl⟩ := hT q hq
    exact ⟨x, f2 q x (.inl (fun e => hapart q e hq)) hx, hl⟩
  have hb2 : (b.drop (roomC c)).length ≤ sizesOf T := by rw [List.length_drop]; exact hen
  obtain ⟨l1, l2, l3⟩ := layA_spec T A2 (b.drop (roomC c)) hnd hT2 hb2
  refine ⟨InvC.layA T A2 _ (fun q hq => by obtain ⟨x, hx, _⟩ := hT2 q hq; exact ⟨x, hx⟩) f1, fun j x hx hxf => ?_⟩
  rcases set_at hx with ⟨hne, hx⟩ | ⟨_, rfl⟩
  · refine (v.b j x hx hxf).same fun q hq y hy => ⟨y, ?_, rfl⟩
    refine l1 q y (fun hm => hTn q hm y hy) (f2 q y (.inl (fun hm => ?_)) (hkept hy))
    have h2 := uses_two hx hc hne (has_iff.2 ⟨hxf, hq⟩) (has_iff.2 ⟨hf, hm⟩)
    have h1 := v.c.alone k c hc hs q (has_iff.2 ⟨hf, hm⟩)
    omega
  · have hfit := vb.fit
    have hmm : memAll (layA A2 T (b.drop (roomC c))) c.hs = memAll A2 c.hs := memAll_congr fun q hq => by
      obtain ⟨y, hy, _⟩ := f3 q hq
      rw [blkMem_of hy, blkMem_of (l1 q y (hapart q hq) hy)]
    have hml : (memAll A2 c.hs).length = sizesOf c.hs := memAll_length fun q hq => by
      obtain ⟨y, hy, hyl⟩ := f3 q hq
      rw [blkMem_of hy]; exact hyl
    refine ⟨fun q hq => ?_, ?_, ?_, ?_, ?_⟩
    · rcases List.mem_append.1 hq with hq | hq
      · obtain ⟨y, hy, hyl⟩ := f3 q hq
        exact ⟨y, l1 q y (hapart q hq) hy, hyl⟩
      · exact l2 q hq
    · show (memAll _ (c.hs ++ T)).take (c.bytes ++ b).length = c.bytes ++ b
      rw [memAll_app, hmm, List.length_append]
      by_cases hle : b.length ≤ roomC c
      · have e1 : b.take (roomC c) = b := List.take_of_length_le hle
        rw [e1] at f4
        rw [List.take_append_of_le_length (by omega), f4]
      · have e1 : (b.take (roomC c)).length = roomC c := by omega
        have e2 : c.bytes.length + roomC c = sizesOf c.hs := by omega
        rw [e1, e2, List.take_of_length_le (by omega)] at f4
        rw [List.take_append, f4, List.length_append, e1]
        rw [List.take_of_length_le (l := c.bytes ++ b.take (roomC c)) (by rw [List.length_append, e1]; omega)]
        have e3 : c.bytes.length + b.length - (c.bytes.length + roomC c) = (b.drop (roomC c)).length := by rw [List.length_drop]; omega
        rw [e3, l3, List.append_assoc, List.take_append_drop]
    · show (c.bytes ++ b).length ≤ sizesOf (c.hs ++ T)
      rw [List.length_append, sizesOf_app]
      omega
    · intro _
      show sizesOf (c.hs ++ T) < (c.bytes ++ b).length + sizeC (lastH (c.hs ++ T)).1.toNat
      rw [List.length_append, sizesOf_app]
      by_cases hTe : T = []
      · subst hTe
        rw [List.append_nil]
        by_cases hce : c.hs = []
        · rename_i hnn
          exact absurd (by show c.hs ++ [] = []; rw [hce]; rfl) hnn
        · have := vb.tail hce
          show _ + 0 < _
          omega
      · rw [lastH_app _ _ hTe]
        have := htight hTe
        have : b.length - roomC c ≠ 0 := fun h0 => hTe (hzero h0)
        omega
    · show (c.bytes ++ b).length ≤ mostN
      rw [List.length_append]
      have := vb.big
      omega
theorem Inv.append {A : Ar} {cs : List Chn} (v : Inv A cs) {k : Nat} {c : Chn} (hc : cs[k]? = some c) (b : Bs) : Inv (appendP A c b).2.1 (cs.set k (appendP A c b).2.2) := by
  unfold appendP
  split
  · show Inv A (cs.set k c); rw [set_same hc]; exact v
  · rename_i hf
    split
    · show Inv A (cs.set k c); rw [set_same hc]; exact v
    · rename_i hs
      split
      · show Inv A (cs.set k c); rw [set_same hc]; exact v
      · rename_i hb
        have hf : c.freed = false := by simpa using hf
        have hs : c.shared = false := by simpa using hs
        cases hok : (takeAll (b.length + 1) A (b.length - roomC c)).2.2 with
        | true =>
          simp only [hok, if_true]
          exact append_ok v hc hf hs b (by omega) hok
        | false =>
          simp only [hok]
          show Inv (dropAll _ _) (cs.set k c)
          rw [set_same hc]
          refine ⟨v.c.none _ _, fun j x hx hxf => (v.b j x hx hxf).same fun q hq y hy => ⟨y, dropAll_kept _ _ (fun hm => ?_) (takeAll_kept _ A _ hy), rfl⟩⟩
          rw [(takeAll_new _ A _ q hm).1] at hy; cases hy
theorem Inv.share {A : Ar} {cs : List Chn} (v : Inv A cs) (hl : cs.length < 1048576) {k : Nat} {c : Chn} (hc : cs[k]? = some c) (hf : c.freed = false) :
    Inv (holdAll A c.hs) (cs.set k { c with shared := true } ++ [{ c with shared := true }]) := by
  have hnd := v.c.nodup k c hc
  have hmem : ∀ q b, rightA A q = some b → ∃ b', rightA (holdAll A c.hs) q = some b' ∧ b'.mem = b.mem := fun q b hq => by
    have h1 := v.c.held q b hq
    have h2 := uses_le cs q
    exact ⟨_, holdAll_right c.hs A hnd hq (by omega), rfl⟩
  refine ⟨v.c.share hl hc hf, fun j x hx hxf => ?_⟩
  rcases snoc_at hx with hx | rfl
  · rcases set_at hx with ⟨_, hx⟩ | ⟨_, rfl⟩
    · exact (v.b j x hx hxf).same fun q _ b hb => hmem q b hb
    · exact (v.b k c hc hf).share.same fun q _ b hb => hmem q b hb
  · exact (v.b k c hc hf).share.same fun q _ b hb => hmem q b hb
theorem Inv.free {A : Ar} {cs : List Chn} (v : Inv A cs) {k : Nat} {c : Chn} (hc : cs[k]? = some c) (hf : c.freed = false) : Inv (dropAll A c.hs) (cs.set k { c with freed := true }) := by
  have hnd := v.c.nodup k c hc
  refine ⟨v.c.free hc hf, fun j x hx hxf => ?_⟩
  rcases set_at hx with ⟨hne, hx⟩ | ⟨_, rfl⟩
  · refine (v.b j x hx hxf).same fun q hq b hb => ⟨_, dropAll_right c.hs A hnd hb (fun hm => ?_), rfl⟩
    have h1 := v.c.held q b hb
    have h2 := uses_two hx hc hne (has_iff.2 ⟨hxf, hq⟩) (has_iff.2 ⟨hf, hm⟩)
    omega
  · cases hxf
/-- How all blocks of a chain are held is no more than how many chains there are. -/
theorem Inv.few {A : Ar} {cs : List Chn} (v : Inv A cs) (hl : cs.length < 1048576) {q : Hd} {b : Blk} (hb : rightA A q = some b) : b.held < 1048576 := by
  have h1 := v.c.held q b hb
  have h2 := uses_le cs q
  omega
end Go.Proofs.Ytbpadliiekhkjaa.Ch
/-
  Small lemmas on worlds: blocks of two cells, what a call that makes memory leaves; results that are structs. No condition.
-/
namespace Go.Proofs.Ytbpadliiekhkjaa.Fd
open Go.RowKit

theorem Bl.drewN {B : Nat} {a w : World} (h : Below B a w) (n : Nat) : Below B a (w.drewN n) := ⟨h.os, h.tape, h.output, h.size, h.block⟩
theorem Bl.drewN' {B : Nat} {a w w' : World} {n : Nat} (h : Below B a w) (e : w' = w.drewN n) : Below B a w' := by subst e; exact Bl.drewN h n
/-- A call on top of another: what was made since is kept, too. -/
theorem Bl.next {a w w' : World} (h : Below a.heap.size a w) (k : Below w.heap.size w w') : Below a.heap.size a w' := h.trans (k.mono h.size)
theorem Bl.old {B : Nat} {w w' : World} (h : Below B w w') {b : Nat} (hb : b < B) {x : Option Obj} (e : w.heap[b]? = x) : w'.heap[b]? = x := (h.block b hb).trans e
theorem new_block (w : World) (o : Obj) : (w.alloc o).heap[w.heap.size]? = some o := by show (w.heap.push o)[w.heap.size]? = _; simp
theorem new_block' (w : World) (o : Obj) {g : Nat} (h : g = w.heap.size) : (w.alloc o).heap[g]? = some o := by subst h; exact new_block w o
theorem old_block (w : World) (o : Obj) {b : Nat} (h : b < w.heap.size) : (w.alloc o).heap[b]? = w.heap[b]? := Below.heap_alloc w o b h
theorem block_lt {w : World} {b : Nat} {o : Obj} (h : w.heap[b]? = some o) : b < w.heap.size := by
  rcases Nat.lt_or_ge b w.heap.size with h' | h'
  · exact h'
  · simp [Array.getElem?_eq_none h'] at h
theorem two0 {w : World} {g : Nat} {x y : Value} {t : TypeId} {fr : Nat × Nat} (h : w.heap[g]? = some (.cells #[x, y] t fr)) : w.cell? ⟨g, 0, none⟩ = some x := by rw [Lib.cell_of_heap h]; rfl
theorem two1 {w : World} {g : Nat} {x y : Value} {t : TypeId} {fr : Nat × Nat} (h : w.heap[g]? = some (.cells #[x, y] t fr)) : w.cell? ⟨g, 1, none⟩ = some y := by rw [Lib.cell_of_heap h]; rfl
theorem free {w : World} {g : Nat} {cs : Array Value} {t : TypeId} (h : w.heap[g]? = some (.cells cs t (0, 0))) (j : Nat) : w.frozen? ⟨g, j, none⟩ = false := Lib.frozen_of_heap h j
theorem heap_put {w : World} {g : Nat} {cs : Array Value} {t : TypeId} {fr : Nat × Nat} (h : w.heap[g]? = some (.cells cs t fr)) (i : Nat) (x : Value) :
    (w.setCell ⟨g, i, none⟩ x).heap[g]? = some (.cells (cs.setIfInBounds i x) t fr) := by
  simp [World.setCell, Array.getElem?_modify, h]
theorem put2 {w : World} {g : Nat} {a b : Value} {t : TypeId} {fr : Nat × Nat} (h : w.heap[g]? = some (.cells #[a, b] t fr)) (x y : Value) :
    ((w.setCell ⟨g, 0, none⟩ x).setCell ⟨g, 1, none⟩ y).heap[g]? = some (.cells #[x, y] t fr) := by
  rw [heap_put (heap_put h 0 x) 1 y]; rfl
theorem put2_below {B : Nat} {w0 w : World} {g : Nat} (h : Below B w0 w) (hg : B ≤ g) (x y : Value) : Below B w0 ((w.setCell ⟨g, 0, none⟩ x).setCell ⟨g, 1, none⟩ y) :=
  (h.setCell (p := ⟨g, 0, none⟩) hg _).setCell (p := ⟨g, 1, none⟩) hg _

/-- A struct's result in a cell, and a second one. -/
theorem results_pair {P : Program} {fn : Func} {p u : Tmp} {ty : TypeId} (h : fn.results = #[.cell p ty, .tmp u]) (tmps : Array Value) (w : World) (g : Nat) (t : TypeId) (cs : Array Value) (fr : Nat × Nat) (d : TypeDesc)
    (hp : tmps.getD p undef = .pointer (some ⟨g, 0, none⟩)) (hg : w.heap[g]? = some (.cells cs t fr))
    (hu : P.underlying ty = some d) (hd : (match d with | .struct _ | .array _ _ => true | _ => false) = true) (hi : (P.info? ty).map (·.size) = some cs.size) :
    (results fn tmps).run P w = .ok (.tuple #[.agg cs, tmps.getD u undef]) w := by
  rw [results_cell_tmp h, hp]
  simp [asAddr, run_loadVar_row w g t ty cs fr d hg hu hd hi]
/-- A struct's result in a cell, alone. -/
theorem results_one {P : Program} {fn : Func} {p : Tmp} {ty : TypeId} (h : fn.results = #[.cell p ty]) (tmps : Array Value) (w : World) (g : Nat) (t : TypeId) (cs : Array Value) (fr : Nat × Nat) (d : TypeDesc)
    (hp : tmps.getD p undef = .pointer (some ⟨g, 0, none⟩)) (hg : w.heap[g]? = some (.cells cs t fr))
    (hu : P.underlying ty = some d) (hd : (match d with | .struct _ | .array _ _ => true | _ => false) = true) (hi : (P.info? ty).map (·.size) = some cs.size) :
    (results fn tmps).run P w = .ok (.agg cs) w := by
  have e : (results fn tmps).run P w = ((asAddr (tmps.getD p undef)).run P w).andThen fun a w₁ => (loadVar ty a).run P w₁ := by
    simp only [results, h]
    simp [Sem.run_bind, Result.andThen]
  rw [e, hp]
  simp [asAddr, run_loadVar_row w g t ty cs fr d hg hu hd hi, Result.andThen]
end Go.Proofs.Ytbpadliiekhkjaa.Fd
