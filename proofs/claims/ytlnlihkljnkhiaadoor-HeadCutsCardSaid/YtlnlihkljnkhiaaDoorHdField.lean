/-
  A reader's fieldLine: what it leaves. Conditions: fields of at most 8192 bytes in all; the table of token bytes.
-/
import Derived.Test.YtlnlihkljnkhiaaDoorHdClos
import Derived.Deep.RegionHeld3
import Derived.Deep.AppendLies
namespace Go.Proofs.YtlnlihkljnkhiaaDoor.Hd
open Go.RowKit Go.Proofs.YtlnlihkljnkhiaaDoor.Tk Go.Proofs.YtlnlihkljnkhiaaDoor.Fd
set_option linter.unusedVariables false

set_option maxRecDepth 100000 in
set_option maxHeartbeats 4000000 in
theorem field_empty (resp : Bool) (g : Nat) (M : Nat) (F lv : Value) (n : Nat) (q : Parts) (fv : Value) (w : World) (h : w.heap[g]? = some (.cells (rc resp M F lv n false 0 resp q fv) 64 (0, 0))) :
    Calls Tryd.prog 32 #[.pointer (some ⟨g, 0, none⟩), .string ⟨#[]⟩] w (ClosPost g (rc resp M F (.slice none 0 0) n true 0 resp q fv) 0 w) := by
  have c5 := rc5 h
  have c3 := rc3 h
  have f5 := free h 5
  have f3 := free h 3
  have HK := Lib.hid (rc_put3 (rc_put5 h true) (.slice none 0 0))
  clear h
  go_enter Tryd.func32, Tryd.ntmps32
  go_wp2_with fail
  go_ret
  exact ⟨rfl, HK.out, ((Chg.refl (fun k => k = g) w).put _ _ (.inl rfl)).put _ _ (.inl rfl)⟩
set_option maxHeartbeats 4000000 in
theorem field_full (resp : Bool) (g : Nat) (M : Nat) (F lv : Value) (n : Nat) (q : Parts) (a : Option Addr) (c : Nat) (t : ByteArray) (w : World) (h : w.heap[g]? = some (.cells (rc resp M F lv n false 0 resp q (.slice a 64 c)) 64 (0, 0))) (ht : 0 < t.size) :
    Calls Tryd.prog 32 #[.pointer (some ⟨g, 0, none⟩), .string t] w fun e w' => e = .returned (.int .i64 3) ∧ w = w' := by
  have ht0 : t.toList.isEmpty = false := text_full ht
  have c15 := rc15 h
  clear h
  go_enter Tryd.func32, Tryd.ntmps32
  go_wp2_with fail
  go_ret
  exact ⟨rfl, rfl⟩

theorem old2 {w : World} {k : Nat} {x o : Obj} (h : w.heap[k]? = some x) : (w.drew.alloc o).heap[k]? = some x := (old_block w.drew o (block_lt h)).trans h
def FieldPost (O : Nat → Prop) (resp : Bool) (g : Nat) (M : Nat) (F lv : Value) (n : Nat) (q : Parts) (fs : List Fl) (e0 : Nat) (w : World) (e : Ending) (w' : World) : Prop :=
  e = .returned (.int .i64 (e0 : Int)) ∧ (∃ fv, w'.heap[g]? = some (.cells (rc resp M F lv n false 0 resp q fv) 64 (0, 0)) ∧ OwnF w' 0 fv fs ∧ ∀ k, fv.ownBlock = some k → New O w k) ∧ Chg O w w'

set_option maxRecDepth 100000 in
set_option maxHeartbeats 4000000 in
theorem field_any (O : Nat → Prop) (resp : Bool) (g : Nat) (M : Nat) (F lv : Value) (n : Nat) (q : Parts) (fv : Value) (fs : List Fl) (t : ByteArray) (w : World) (h : w.heap[g]? = some (.cells (rc resp M F lv n false 0 resp q fv) 64 (0, 0)))
    (hf : OwnF w 0 fv fs) (hl : fs.length < 64) (og : O g) (of : ∀ k, fv.ownBlock = some k → O k) (hT : Tab w) (ht : 0 < t.size) (hts : t.size ≤ 70368744177664) :
    Calls Tryd.prog 32 #[.pointer (some ⟨g, 0, none⟩), .string t] w (FieldPost O resp g M F lv n q (fs ++ [(fldOf t).1]) (fldOf t).2 w) := by
  have ht0 : t.toList.isEmpty = false := text_full ht
  obtain ⟨i0, hi, hz0, hz1, hz2⟩ := info_parts infoField
  have HV := Lib.hid (parseVal_of t)
  obtain ⟨⟨⟨a, b⟩, e0⟩, hR⟩ : ∃ R, R = fldOf t := ⟨_, rfl⟩
  rw [← hR] at HV
  rw [← hR]
  have HB := Lib.hid h
  have HF := Lib.hid hf
  obtain ⟨fa, fc, hfv⟩ := hf.form
  subst hfv
  have c15 := rc15 h
  have h64 : ¬ ((fs.length : Int) = 64) := by omega
  clear hR h hf
  go_enter Tryd.func32, Tryd.ntmps32
  go_wp2_with fail
  refine (parse_any t _ hts hT).mono ?_
  rintro e w1 ⟨rfl, hb1⟩
  rw [HV.out]
  unfold FV
  have hK1 := Bl.old hb1 (block_lt HB.out) HB.out
  have hG1 := block_lt hK1
  have HF1 := Lib.hid (owns_kept HF.out hb1)
  have HC1 := Lib.hid (Chg.of_below (O := O) hb1)
  have HK2 := Lib.hid ((old_block w1 (.cells #[.string a, .string b] 56) hG1).trans hK1)
  have HN2 := Lib.hid (new_block w1 (.cells #[.string a, .string b] 56))
  clear c15 hb1 hK1
  go_wp2_with fail
  have HO2 := Lib.hid (owns_kept HF1.out ((Below.refl w1.heap.size w1).alloc (Nat.le_refl _) (.cells #[.string a, .string b] 56)))
  have HC2 := Lib.hid (HC1.out.alloc (.cells #[.string a, .string b] 56))
  obtain ⟨G, hG⟩ : ∃ G, G = w1.heap.size := ⟨_, rfl⟩
  rw [← hG] at HN2
  rw [← hG]
  obtain ⟨w2, hw2⟩ : ∃ w2, w2 = w1.alloc (.cells #[.string a, .string b] 56) := ⟨_, rfl⟩
  rw [← hw2] at HK2 HN2 HO2 HC2
  rw [← hw2]
  have hgw : g < w2.heap.size := block_lt HK2.out
  have hGw : G < w2.heap.size := block_lt HN2.out
  have hrg : some g ≠ (Value.slice fa fs.length fc).ownBlock := fun e => by obtain ⟨cu, hcu⟩ := row_type HO2.out e.symm; exact apart_of hcu HK2.out (by decide) rfl
  have hrG : some G ≠ (Value.slice fa fs.length fc).ownBlock := fun e => by
    have h1 := World.ownsRow.lt HF1.out G e.symm
    omega
  have hGg : G ≠ g := apart_of HN2.out HK2.out (by decide)
  have HO3 := Lib.hid (fun o => owns_kept HO2.out ((Below.refl w2.heap.size w2).drew.alloc (Nat.le_refl _) o))
  clear hG hw2 HF1 HC1 hG1
  have HK3 := Lib.hid (old2 (o := (.cells #[.string a, .string b] 56)) HK2.out)
  have c15 := rc15 HK2.out
  have c15' : (w2.alloc (.cells #[.string a, .string b] 56)).cell? ⟨g, 15, none⟩ = some (.slice fa fs.length fc) := rc15 (w := (w2.drew.alloc (.cells #[.string a, .string b] 56))) HK3.out
  have cG0 := two0 HN2.out
  have cG1 := two1 HN2.out
  go_region_law ((refine step_append_lies _ (by rfl) _ _ 27 (by rfl) 0 56 i0 (.agg #[.string ⟨#[]⟩, .string ⟨#[]⟩]) 2 32 Tryd.underlying27 hi hz0 hz1 hz2 rfl (by decide) _ _ _ (by rfl) (HO3.out _) ⟨w2.heap.size, 0, none⟩ 1 1 [.string a, .string b] (by rfl) rfl (news_at (new_block w2.drew _)) (one_cells a b) (by omega) (by unfold maxLen; omega) (by omega) (Nat.zero_le _) _ rfl ?_; intro g3 cap3 w3 hown3 hgrow hat3 hlt3; have hK4 := (hgrow.block g (by simp; omega) hrg).trans HK3.out; have d15 := rc15 hK4; have df := free hK4 15))
  all_goals
    go_wp2_with fail
    go_ret
    have hsz := HC2.out.size
    have hrow3 : OwnF w3 0 (.slice (some ⟨g3, 0, none⟩) (fs.length + 1) cap3) (fs ++ [(a, b)]) := by
      unfold OwnF; rw [flat_snoc, List.length_append]; exact hown3
    obtain ⟨cu, hcu⟩ := row_type hrow3 rfl
    have hgg : g3 ≠ g := apart_of hcu hK4 (by decide)
    refine ⟨rfl, ⟨_, rc_put15 hK4 _, row_same hrow3 fun k hk => ?_, fun k hk => ?_⟩, ?_⟩
    · injection hk with hk; subst hk; exact put_far rfl (by show g3 ≠ g; exact hgg)
    · injection hk with hk; subst hk
      rcases hat3 with h3 | h3
      · exact .inl (of _ h3)
      · refine .inr ?_
        show w.heap.size ≤ g3
        have : g3 = w2.heap.size + 1 := by simpa using h3
        omega
    · exact ((((HC2.out.drew).alloc _).grown hgrow (fun k hk => .inl (of k hk))).put _ _ (.inl og))
end Go.Proofs.YtlnlihkljnkhiaaDoor.Hd
