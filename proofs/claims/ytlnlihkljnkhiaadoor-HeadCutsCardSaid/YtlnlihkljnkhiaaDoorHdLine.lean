/-
  A line that ended, by either function: where the reader stands then. Conditions: at most 8192 bytes; the table of token bytes.
-/
import Derived.Test.YtlnlihkljnkhiaaDoorHdTrim
namespace Go.Proofs.YtlnlihkljnkhiaaDoor.Hd
open Go.RowKit Go.Proofs.YtlnlihkljnkhiaaDoor.Tk Go.Proofs.YtlnlihkljnkhiaaDoor.Fd
set_option linter.unusedVariables false

theorem On.kept {w w' : World} {O O' : Nat → Prop} {resp : Bool} {g gb : Nat} {lv fv : Value} {p : Option Parts} {l : Bs} {n : Nat} {fs : List Fl} (h : On w O resp g gb lv fv p l n fs) (hc : Chg O' w w') (hd : ∀ k, O k → ¬ O' k) : On w' O resp g gb lv fv p l n fs :=
  ⟨hc.old (hd _ h.og) h.blk, hc.old (hd _ h.ob) h.box, row_chg h.line hc h.ol hd, row_chg h.flds hc h.of hd, h.og, h.ob, h.ol, h.of⟩
theorem On.below {w w' : World} {O : Nat → Prop} {resp : Bool} {g gb : Nat} {lv fv : Value} {p : Option Parts} {l : Bs} {n : Nat} {fs : List Fl} (h : On w O resp g gb lv fv p l n fs) (hb : Below w.heap.size w w') : On w' O resp g gb lv fv p l n fs :=
  h.kept (O' := fun _ => False) (Chg.of_below hb) (fun _ _ hf => hf)
/-- A row cut to nothing. -/
theorem row_cut {w : World} {q n C : Nat} {l : Bs} (h : OwnB w (.slice (some ⟨q, 0, none⟩) n C) l) : OwnB w (.slice (some ⟨q, 0, none⟩) 0 C) [] := by
  refine ⟨by simp [bys], .inr ?_⟩
  rcases h.2 with ⟨hv, _⟩ | ⟨g, cap, cur, hv, hg, hh, hlc, hcm, hcs, htk⟩
  · cases hv
  · injection hv with h1 h2 h3
    injection h1 with h1
    injection h1 with h1
    subst h1 h3
    exact ⟨q, C, cur, rfl, hg, hh, Nat.zero_le _, hcm, hcs, by simp [bys]⟩
theorem On.cut {w : World} {O : Nat → Prop} {resp : Bool} {g gb q m C : Nat} {fv : Value} {p : Option Parts} {l : Bs} {n : Nat} {fs : List Fl} (h : On w O resp g gb (.slice (some ⟨q, 0, none⟩) m C) fv p l n fs) :
    On (w.setCell ⟨g, 3, none⟩ (.slice (some ⟨q, 0, none⟩) 0 C)) O resp g gb (.slice (some ⟨q, 0, none⟩) 0 C) fv p [] n fs := by
  have hxg : gb ≠ g := apart_of h.box h.blk (by decide)
  refine ⟨rc_put3 h.blk _, put_far h.box (by show gb ≠ g; exact hxg), row_same (row_cut h.line) fun k hk => ?_, row_same h.flds fun k hk => ?_, h.og, h.ob, h.ol, h.of⟩
  · obtain ⟨cu, hcu⟩ := row_type h.line (k := k) hk
    exact put_far rfl (by show k ≠ g; exact apart_of hcu h.blk (by decide))
  · obtain ⟨cu, hcu⟩ := row_type h.flds hk
    exact put_far rfl (by show k ≠ g; exact apart_of hcu h.blk (by decide))
theorem new_size {O : Nat → Prop} {a b : World} (hs : a.heap.size ≤ b.heap.size) (k : Nat) (h : New O b k) : New O a k := by
  rcases h with h | h
  · exact .inl h
  · exact .inr (by omega)

def LinePost (O : Nat → Prop) (resp : Bool) (g : Nat) (st : St) (w : World) (e : Ending) (w' : World) : Prop :=
  ∃ e0 : Nat, e = .returned (.int .i64 (e0 : Int)) ∧ Chg O w w' ∧
    ((e0 = 0 ∧ Rdr w' (New O w) resp g st) ∨ (e0 ≠ 0 ∧ st = .bad e0 ∧ ∃ M F lv n wh e1 q fv, IsFn F ∧ w'.heap[g]? = some (.cells (rc resp M F lv n wh e1 resp q fv) 64 (0, 0))))
theorem chg_one {O : Nat → Prop} {g : Nat} {w w' : World} (h : Chg (fun k => k = g) w w') (hg : O g) : Chg O w w' :=
  ⟨h.os, h.tape, h.output, h.size, fun k hk hn => h.block k hk (fun e => hn (e ▸ hg))⟩
theorem Chg.mono {O O' : Nat → Prop} {w w' : World} (h : Chg O' w w') (hO : ∀ k, O' k → O k) : Chg O w w' := ⟨h.os, h.tape, h.output, h.size, fun k hk hn => h.block k hk (fun e => hn (hO k e))⟩
theorem txt_pos {t : Bs} (h : t ≠ []) : 0 < (txt t).size := by rw [txt_size]; exact List.length_pos_iff.2 h
/-- A row of another type than the reader's stands. -/
theorem row_apart {w w' : World} {g : Nat} {cs : Array Value} {s e : TypeId} {base sz n : Nat} {v : Value} {xs : List Value} (hg : w.heap[g]? = some (.cells cs s (0, 0))) (hne : e ≠ s) (h : w.ownsRow base e sz v n xs) (hc : Chg (fun k => k = g) w w') :
    w'.ownsRow base e sz v n xs :=
  row_same h fun k hk => by
    obtain ⟨cu, hcu⟩ := row_type h hk
    exact hc.block k (block_lt hcu) (apart_of hcu hg hne)

theorem opening_line (O : Nat → Prop) (resp : Bool) (g gb : Nat) (lv fv : Value) (n : Nat) (fs : List Fl) (t : Bs) (w : World) (h : On w O resp g gb lv fv none [] n fs) (hT : Tab w) (ho : ¬ O 0) :
    Calls Tryd.prog 31 #[.pointer (some ⟨g, 0, none⟩), .string (txt t), .pointer (some ⟨gb, 0, none⟩)] w (LinePost O resp g (ended resp none n fs t) w) := by
  have hg : g ≠ 0 := fun e => ho (e ▸ h.og)
  by_cases ht : t = []
  · subst ht
    refine (opening_empty g gb w).mono ?_
    rintro e w' ⟨rfl, rfl⟩
    exact ⟨0, rfl, Chg.refl _ _, .inl ⟨rfl, Rdr.mono (s := .on none [] n fs) ⟨gb, lv, fv, h⟩ (fun k hk => .inl hk)⟩⟩
  · refine (opening_any resp g gb (most none) (fnOf gb none) lv n _ fv (txt t) w h.blk h.box hT hg (txt_pos ht)).mono ?_
    rintro e w' ⟨rfl, hb, hc⟩
    refine ⟨_, rfl, chg_one hc h.og, ?_⟩
    have he : ended resp none n fs t = if (firstOf resp (txt t)).2 = 0 then .on (some (firstOf resp (txt t)).1) [] n fs else .bad (firstOf resp (txt t)).2 := by
      show (if t = [] then _ else _) = _; rw [if_neg ht]
    rw [he]
    by_cases h0 : (firstOf resp (txt t)).2 = 0
    · rw [if_pos h0]
      have hxg : gb ≠ g := apart_of h.box h.blk (by decide)
      exact .inl ⟨h0, gb, lv, fv, hb, hc.old hxg h.box, row_apart h.blk (by decide) h.line hc, row_apart h.blk (by decide) h.flds hc, .inl h.og, .inl h.ob, fun k hk => .inl (h.ol k hk), fun k hk => .inl (h.of k hk)⟩
    · rw [if_neg h0]
      exact .inr ⟨h0, rfl, 8192, _, lv, n, false, 0, _, fv, ⟨_, _, _, rfl⟩, hb⟩

theorem field_line (O : Nat → Prop) (resp : Bool) (g gb : Nat) (lv fv : Value) (q : Parts) (n : Nat) (fs : List Fl) (t : Bs) (w : World) (h : On w O resp g gb lv fv (some q) [] n fs) (hT : Tab w) (ho : ¬ O 0)
    (hl : fs.length ≤ 64) (ht8 : t.length ≤ 8192) :
    Calls Tryd.prog 32 #[.pointer (some ⟨g, 0, none⟩), .string (txt t)] w (LinePost O resp g (ended resp (some q) n fs t) w) := by
  by_cases ht : t = []
  · subst ht
    refine (field_empty resp g 8192 (fnOf gb (some q)) lv n q fv w h.blk).mono ?_
    rintro e w' ⟨rfl, hb, hc⟩
    exact ⟨0, rfl, chg_one hc h.og, .inl ⟨rfl, 8192, fnOf gb (some q), _, n, fv, fnOf_is _ _, hb, row_apart h.blk (by decide) h.flds hc, .inl h.og, fun k hk => .inl (h.of k hk)⟩⟩
  · have he : ended resp (some q) n fs t = if fs.length = 64 then .bad 3 else if (fldOf (txt t)).2 = 0 then .on (some q) [] n (fs ++ [(fldOf (txt t)).1]) else .bad (fldOf (txt t)).2 := by
      show (if t = [] then _ else _) = _; rw [if_neg ht]
    rw [he]
    by_cases h64 : fs.length = 64
    · rw [if_pos h64]
      obtain ⟨a, c, hfv⟩ := OwnF.form h.flds
      subst hfv
      have hB := h.blk
      rw [h64] at hB
      rw [h64] at h
      refine (field_full resp g 8192 (fnOf gb (some q)) lv n q a c (txt t) w hB (txt_pos ht)).mono ?_
      rintro e w' ⟨rfl, rfl⟩
      exact ⟨3, rfl, Chg.refl _ _, .inr ⟨by omega, rfl, 8192, _, lv, n, false, 0, q, _, fnOf_is gb (some q), hB⟩⟩
    · rw [if_neg h64]
      refine (field_any (fun k => k = g ∨ fv.ownBlock = some k) resp g 8192 (fnOf gb (some q)) lv n q fv fs (txt t) w h.blk h.flds (by omega) (.inl rfl) (fun k hk => .inr hk) hT (txt_pos ht) (by rw [txt_size]; omega)).mono ?_
      rintro e w' ⟨rfl, ⟨fv', hb, hf, hn⟩, hc⟩
      have hO : ∀ k, (k = g ∨ fv.ownBlock = some k) → O k := fun k hk => by
        rcases hk with hk | hk
        · subst hk; exact h.og
        · exact h.of k hk
      refine ⟨_, rfl, Chg.mono hc hO, ?_⟩
      by_cases h0 : (fldOf (txt t)).2 = 0
      · rw [if_pos h0]
        refine .inl ⟨h0, gb, lv, fv', hb, hc.old (fun hk => ?_) h.box, row_same h.line (fun k hk => ?_), hf, .inl h.og, .inl h.ob, fun k hk => .inl (h.ol k hk), fun k hk => ?_⟩
        · rcases hk with hk | hk
          · exact apart_of h.box h.blk (by decide) hk
          · obtain ⟨cu, hcu⟩ := row_type h.flds hk; exact apart_of hcu h.box (by decide) rfl
        · obtain ⟨cu, hcu⟩ := row_type h.line hk
          refine hc.block k (block_lt hcu) (fun hk2 => ?_)
          rcases hk2 with hk2 | hk2
          · exact apart_of hcu h.blk (by decide) hk2
          · obtain ⟨cv, hcv⟩ := row_type h.flds hk2; exact apart_of hcv hcu (by decide) rfl
        · rcases hn k hk with h1 | h1
          · exact .inl (hO k h1)
          · exact .inr h1
      · rw [if_neg h0]
        exact .inr ⟨h0, rfl, 8192, _, lv, n, false, 0, q, fv', fnOf_is gb (some q), hb⟩
end Go.Proofs.YtlnlihkljnkhiaaDoor.Hd
