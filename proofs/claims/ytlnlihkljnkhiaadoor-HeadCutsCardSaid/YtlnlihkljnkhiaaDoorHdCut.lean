/-
  A piece of bytes; a reader that is fed one more piece; a whole head of one line. Plain steps.
-/
import Derived.Test.YtlnlihkljnkhiaaDoorHdFeed
import Derived.Test.YtlnlihkljnkhiaaDoorHdRunMath
import Derived.Test.YtlnlihkljnkhiaaDoorHdLawKit
namespace Go.Proofs.YtlnlihkljnkhiaaDoor.Hd
open Go.RowKit Go.Proofs.YtlnlihkljnkhiaaDoor.Tk Go.Proofs.YtlnlihkljnkhiaaDoor.Fd
set_option linter.unusedVariables false

theorem byts_cut {w : World} {B off cap k d : Nat} {b : Bs} (h : Byts w (.slice (some ⟨B, off, none⟩) b.length cap) b) (hb : B < w.heap.size) (hcap : b.length ≤ cap) (hcm : cap ≤ maxLen) (hk : k + d ≤ b.length) :
    Byts w (.slice (some ⟨B, off + k, none⟩) d (cap - k)) ((b.drop k).take d) := by
  have hl : ((b.drop k).take d).length = d := by rw [List.length_take, List.length_drop]; omega
  rcases h with ⟨h0, _⟩ | ⟨B', off', cap', hv, _, _, _, hh⟩
  · subst h0
    simp at hk
    obtain ⟨rfl, rfl⟩ := hk
    exact .inl ⟨by simp, _, _, rfl⟩
  · injection hv with e1 _ e3
    injection e1 with e1
    injection e1 with e1 e2
    subst e1 e2 e3
    refine .inr ⟨B, off + k, cap - k, by rw [hl], by rw [hl]; omega, by omega, hb, fun j hj => ?_⟩
    rw [hl] at hj
    have := hh (k + j) (by omega)
    rw [← Nat.add_assoc] at this
    rw [this]
    simp [List.getElem_take, List.getElem_drop]
theorem cut_next {O : Nat → Prop} {resp : Bool} {g : Nat} {s : St} {b : Bs} {w : World} {k d : Nat} {st : St} {wr w' : World} (h : FeedAt O resp g s b w k st wr) (hd : k + d ≤ b.length)
    (hR : Rdr w' (New (New O w) wr) resp g (run resp st ((b.drop k).take d)).2) (hC : Chg (New O w) wr w') :
    FeedAt O resp g s b w (k + (run resp st ((b.drop k).take d)).1) (run resp st ((b.drop k).take d)).2 w' ∧ (over (run resp st ((b.drop k).take d)).2 = false → (run resp st ((b.drop k).take d)).1 = d) := by
  obtain ⟨hk, hr, hG, hR0, hC0⟩ := h
  have hl : ((b.drop k).take d).length = d := by rw [List.length_take, List.length_drop]; omega
  have hle := run_le resp ((b.drop k).take d) st
  have hsp : run resp st (b.drop k) = run resp st ((b.drop k).take d ++ (b.drop k).drop d) := by rw [List.take_append_drop]
  rw [run_append] at hsp
  refine ⟨⟨by omega, ?_, good_run resp _ hG, hR.mono (new_new hC0.size), hC0.again hC⟩, fun ho => by rw [run_all _ ho, hl]⟩
  rw [hr]
  by_cases ho : over (run resp st ((b.drop k).take d)).2 = true
  · rw [if_pos ho] at hsp
    rw [hsp, run_over ho]
    rfl
  · rw [Bool.not_eq_true] at ho
    have ha := run_all _ ho
    rw [hl] at ha
    rw [if_neg (by rw [ho]; simp), hl, List.drop_drop] at hsp
    rw [hsp, ha]
    simp only [Prod.mk.injEq, and_true]
    omega
theorem FeedAt.drewN {O : Nat → Prop} {resp : Bool} {g : Nat} {s : St} {b : Bs} {w : World} {k : Nat} {st : St} {wr : World} (h : FeedAt O resp g s b w k st wr) (n : Nat) : FeedAt O resp g s b w k st (wr.drewN n) :=
  ⟨h.1, h.2.1, h.2.2.1, h.2.2.2.1.below ⟨rfl, rfl, rfl, Nat.le_refl _, fun _ _ => rfl⟩, h.2.2.2.2.drewN n⟩
theorem below_drewN {B : Nat} {w w' : World} (h : Below B w w') (n : Nat) : Below B w (w'.drewN n) := ⟨h.os, h.tape, h.output, h.size, h.block⟩
theorem headOf_len {resp same : Bool} {s : St} (h : Good s) : (headOf resp same s).2.1.length ≤ 64 := by
  cases s with
  | on => simp [headOf]
  | done q fs =>
    cases same with
    | true => exact h.1
    | false => simp [headOf]
  | bad => simp [headOf]
/-- GET / HTTP/1.1, with both line ends, and a byte behind it. -/
def oneL : Bs := getL ++ [13, 10, 13, 10, 120]
theorem one_run : (run false start oneL).1 = 18 := by
  have h := run_whole (resp := false) (p := none) (n := 0) (fs := []) (t := getL ++ [13]) (r := [13] ++ 10 :: [120]) (by decide) (by decide) (by decide)
  have e : ended false none (0 + (getL ++ [13]).length + 1) [] (own (getL ++ [13])) = .on (some getP) [] 16 [] := by
    have h2 := ended_first (resp := false) (t := getL) (n := 16) (fs := []) (by decide) (by rw [get_first])
    rw [get_first] at h2
    exact h2
  rw [e] at h
  have h3 := run_whole (resp := false) (p := some getP) (n := 16) (fs := []) (t := [13]) (r := [120]) (by decide) (by decide) (by decide)
  rw [show own [13] = [] from by decide, ended_last, run_over (s := .done getP []) rfl] at h3
  rw [show oneL = (getL ++ [13]) ++ 10 :: ([13] ++ 10 :: [120]) from rfl, show start = .on none [] 0 [] from rfl, h, h3]
  rfl
end Go.Proofs.YtlnlihkljnkhiaaDoor.Hd
