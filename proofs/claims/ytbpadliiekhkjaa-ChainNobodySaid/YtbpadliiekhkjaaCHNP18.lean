/-
  Texts that the laws' proofs stand on, 3 of them in one file; each one's head says what it proves and under which condition.
-/
import Derived.Test.YtbpadliiekhkjaaCHNP14
import Derived.Test.YtbpadliiekhkjaaCHNP17
import Derived.BigRegion
import Derived.Test.YtbpadliiekhkjaaCHNP10
import Derived.Deep.AppendLies
/-
  The program's fill: bytes in the last block's room. Condition: the arena and the plain one are related ahead; no more bytes than there is room.
-/
namespace Go.Proofs.Ytbpadliiekhkjaa.Ch
open Go.RowKit Go.Proofs.Ytbpadliiekhkjaa.Fd Go.Proofs.Ytbpadliiekhkjaa.Sl
set_option maxRecDepth 100000
set_option linter.unusedVariables false
set_option linter.unusedSimpArgs false

/-- A slice that reads as these bytes, in no block of O. -/
def Byo (w : World) (O : Nat → Prop) (v : Value) (l : Tk.Bs) : Prop := ∃ a cap, v = .slice a l.length cap ∧ l.length ≤ cap ∧ cap ≤ maxLen ∧
  ((a = none ∧ cap = 0) ∨ ∃ g off, a = some ⟨g, off, none⟩ ∧ g < w.heap.size ∧ ¬ O g ∧ (∃ cs fr, w.heap[g]? = some (.cells cs 5 fr)) ∧ ∀ j (hj : j < l.length), w.cell? ⟨g, off + j, none⟩ = some (.int .u8 (l[j].toNat : Int)))
theorem Byo.form {w : World} {O : Nat → Prop} {v : Value} {l : Tk.Bs} (h : Byo w O v l) : ∃ a cap, v = .slice a l.length cap ∧ l.length ≤ cap ∧ cap ≤ maxLen := by
  obtain ⟨a, cap, h1, h2, h3, _⟩ := h
  exact ⟨a, cap, h1, h2, h3⟩
theorem Byo.reads {w : World} {O : Nat → Prop} {v : Value} {l : Tk.Bs} (h : Byo w O v l) : ReadsB w v l := by
  obtain ⟨a, cap, h1, h2, h3, h4⟩ := h
  rcases h4 with ⟨rfl, rfl⟩ | ⟨g, off, rfl, h5, h6, _, h7⟩
  · obtain rfl : l = [] := List.length_eq_zero_iff.1 (by omega)
    exact .inl ⟨rfl, none, 0, h1⟩
  · exact .inr ⟨g, off, cap, h1, h5, h7⟩
theorem Byo.kept {w w' : World} {O : Nat → Prop} {v : Value} {l : Tk.Bs} (h : Byo w O v l) (hs : w.heap.size ≤ w'.heap.size) (hb : ∀ g, g < w.heap.size → ¬ O g → (∃ cs fr, w.heap[g]? = some (.cells cs 5 fr)) → w'.heap[g]? = w.heap[g]?) : Byo w' O v l := by
  obtain ⟨a, cap, h1, h2, h3, h4⟩ := h
  refine ⟨a, cap, h1, h2, h3, ?_⟩
  rcases h4 with h4 | ⟨g, off, e, h5, h6, ⟨cs, fr, h8⟩, h7⟩
  · exact .inl h4
  · have e2 := hb g h5 h6 ⟨cs, fr, h8⟩
    exact .inr ⟨g, off, e, by omega, h6, ⟨cs, fr, e2.trans h8⟩, fun j hj => by
      rw [← h7 j hj, World.cell?_of_block e2]⟩
theorem Byo.next {w w' : World} {O : Nat → Prop} {v : Value} {l : Tk.Bs} (h : Byo w O v l) (hb : Below w.heap.size w w') : Byo w' O v l := h.kept hb.size (fun g hg _ _ => hb.block g hg)
theorem Byo.so {T : TypeId → Bool} {w w' : World} {O : Nat → Prop} {v : Value} {l : Tk.Bs} (h : Byo w O v l) (ht : So.Tn T O w w') : Byo w' O v l := h.kept ht.size (fun g hg hn _ => ht.block g hg (.inl hn))
theorem Byo.ck {w w' : World} {O S : Nat → Prop} {v : Value} {l : Tk.Bs} (h : Byo w O v l) (hc : Ck S w w') (hS : ∀ g, g < w.heap.size → ¬ O g → (∃ cs fr, w.heap[g]? = some (.cells cs 5 fr)) → ¬ S g) : Byo w' O v l := h.kept hc.size (fun g hg hn ht => hc.block g hg (hS g hg hn ht))
/-- The first k bytes; those behind them. -/
theorem Byo.take {w : World} {O : Nat → Prop} {a : Option Addr} {n cap : Nat} {l : Tk.Bs} (h : Byo w O (.slice a n cap) l) (k : Nat) (hk : k ≤ l.length) : Byo w O (.slice a k cap) (l.take k) := by
  obtain ⟨a', cap', h1, h2, h3, h4⟩ := h
  injection h1 with e1 e2 e3
  subst e1 e3
  have hl : (l.take k).length = k := by rw [List.length_take]; omega
  refine ⟨a, cap, by rw [hl], by omega, h3, ?_⟩
  rcases h4 with h4 | ⟨g, off, e, h5, h6, h8, h7⟩
  · exact .inl h4
  · exact .inr ⟨g, off, e, h5, h6, h8, fun j hj => by
      rw [hl] at hj
      rw [h7 j (by omega)]
      simp⟩
/-- A cell of the chain's object is stored. -/
structure ObjPut (w : World) (cp j : Nat) (u : Value) (cs : Array Value) : Prop where
  rel : ∀ {O : Nat → Prop} {ap : Nat} {n : Nat → Nat} {A : Ar} {G : Nat}, So.PRel w O ap n A G → So.PRel (w.setCell ⟨cp, j, none⟩ u) O ap n A G
  own : ∀ {base : Nat} {v : Value} {l : List Hd}, OwnH w base v l → OwnH (w.setCell ⟨cp, j, none⟩ u) base v l
  bx : ∀ {b : Nat} {q : Hd}, Bx b q w → Bx b q (w.setCell ⟨cp, j, none⟩ u)
  rd : ∀ {O : Nat → Prop} {v : Value} {l : Tk.Bs}, Byo w O v l → Byo (w.setCell ⟨cp, j, none⟩ u) O v l
  obj : (w.setCell ⟨cp, j, none⟩ u).heap[cp]? = some (.cells (cs.setIfInBounds j u) 60 (0, 0))
theorem obj_put {w : World} {cp : Nat} {cs : Array Value} (ho : w.heap[cp]? = some (.cells cs 60 (0, 0))) (j : Nat) (u : Value) : ObjPut w cp j u cs := by
  have hk : Ck (fun k => k = cp) w (w.setCell ⟨cp, j, none⟩ u) := Ck.set (S := fun k => k = cp) rfl _
  have hne : ∀ k cs t fr, w.heap[k]? = some (.cells cs t fr) → t ≠ 60 → ¬ k = cp := fun k cs t fr h1 h2 e => by
    subst e
    rw [ho] at h1
    injection h1 with h1
    injection h1 with _ h1
    exact h2 h1.symm
  refine ⟨fun h => PRel.ck h hk (fun k cs t fr h1 h2 => hne k cs t fr h1 (fun e => by rw [e] at h2; cases h2)), fun h => ⟨h.1, ?_⟩, fun h => hk.old (hne _ _ _ _ h (by decide)) h, fun h => h.ck hk (fun g _ _ ht => by obtain ⟨cs, fr, h1⟩ := ht; exact hne _ _ _ _ h1 (by decide)), heap_put ho _ _⟩
  rcases h.2 with ⟨h1, h2⟩ | ⟨g, cap, cur, h1, h2, h3, h4⟩
  · exact .inl ⟨h1, h2⟩
  · exact .inr ⟨g, cap, cur, h1, h2, hk.old (hne _ _ _ _ h3 (by decide)) h3, h4⟩
theorem PC.size {w : World} {cp ap : Nat} {hv : Value} {c : Chn} (h : PC w cp ap hv c) (hf : c.freed = false) (bs : Tk.Bs) : PC (w.setCell ⟨cp, 2, none⟩ (.int .i64 ((c.bytes.length + bs.length : Nat) : Int))) cp ap hv { c with bytes := c.bytes ++ bs } := by
  have hp := obj_put h.obj 2 (.int .i64 ((c.bytes.length + bs.length : Nat) : Int))
  refine ⟨?_, hp.own h.own⟩
  rw [hp.obj]
  unfold objC
  simp only [hf, List.length_append]
  rfl
/-- While the room is filled. -/
structure Kf (w : World) (O : Nat → Prop) (ap cp : Nat) (n : Nat → Nat) (A : Ar) (G : Nat) (hv : Value) (c : Chn) (b : Nat) (q : Hd) (bv : Value) (bs : Tk.Bs) (W : World) : Prop where
  rel : So.PRel W O ap n A G
  pc : PC W cp ap hv c
  bx : Bx b q W
  rd : Byo W O bv bs
  ck : Ck (fun k => (O k ∧ IsT TP w k) ∨ k = cp) w W
section
variable {w : World} {O : Nat → Prop} {ap cp : Nat} {n : Nat → Nat} {A A' : Ar} {G G' : Nat} {hv : Value} {c : Chn} {b : Nat} {q : Hd} {bv : Value} {bs : Tk.Bs} {W V : World}
theorem Kf.next (h : Kf w O ap cp n A G hv c b q bv bs W) (hb : Below W.heap.size W V) : Kf w O ap cp n A G hv c b q bv bs V :=
  ⟨h.rel.same hb, h.pc.same hb, h.bx.next hb, h.rd.next hb, h.ck.next hb⟩
theorem Kf.call (h : Kf w O ap cp n A G hv c b q bv bs W) (hr : So.PRel V O ap n A' G') (ht : So.Tn TP O W V) : Kf w O ap cp n A' G' hv c b q bv bs V :=
  ⟨hr, h.pc.so ht rfl rfl, bx_so h.bx ht rfl, h.rd.so ht, h.ck.call (R := fun k => k = cp) ht⟩
end
def FillP (O : Nat → Prop) (ap cp : Nat) (n : Nat → Nat) (A : Ar) (G : Nat) (hv : Value) (c : Chn) (w : World) (e : Ending) (w' : World) : Prop :=
  e = .returned (.int .i64 0) ∧ So.PRel w' O ap n A G ∧ PC w' cp ap hv c ∧ Ck (fun k => (O k ∧ IsT TP w k) ∨ k = cp) w w'
set_option maxHeartbeats 8000000 in
theorem fill_any {O : Nat → Prop} {ap cp : Nat} {n : Nat → Nat} {A : Ar} {G : Nat} {hv : Value} {c : Chn} (bv : Value) (bs : Tk.Bs) (w : World) (h : So.PRel w O ap n A G) (hp : PC w cp ap hv c) (hf : c.freed = false) (hb : Byo w O bv bs) (hl : bs.length ≤ roomC c)
    (hm : ∀ q, q ∈ c.hs → ∃ b, rightA A q = some b) (htail : c.hs ≠ [] → sizesOf c.hs < c.bytes.length + sizeC (lastH c.hs).1.toNat) (hN : c.hs.length ≤ 1048576) (hB : c.bytes.length ≤ 1048576) (hbs : bs.length ≤ 1048576) :
    Calls Try.prog 33 #[.pointer (some ⟨cp, 0, none⟩), bv] w (FillP O ap cp n (fillA A c bs) G hv { c with bytes := c.bytes ++ bs } w) := by
  obtain ⟨ba, bc, hbv, _, _⟩ := hb.form
  subst hbv
  by_cases h0 : bs.length = 0
  · obtain rfl : bs = [] := List.length_eq_zero_iff.1 h0
    have HF := Lib.hid (show FillP O ap cp n (fillA A c []) G hv { c with bytes := c.bytes ++ [] } w (.returned (.int .i64 0)) w from ⟨rfl, h, by rw [List.append_nil]; exact hp, Ck.refl _ _⟩)
    clear h hp hb hm htail h0
    go_enter Try.func33, Try.ntmps33
    go_wp2_with fail
    go_ret
    exact HF.out
  · have hne : c.hs ≠ [] := fun e => by
      have : roomC c = 0 := by unfold roomC; rw [e]; simp [sizesOf]
      omega
    have ht := htail hne
    obtain ⟨b0, hb0⟩ := hm _ (lastH_mem hne)
    obtain ⟨hr0, hr3⟩ := right_lt hb0
    obtain ⟨pre, hpre⟩ := snoc_of hne
    obtain ⟨⟨qc, qi, qg⟩, hq⟩ : ∃ q, q = lastH c.hs := ⟨_, rfl⟩
    rw [← hq] at hb0 hr0 hr3 ht hpre
    replace hr0 : 0 ≤ qc := hr0
    replace hr3 : qc ≤ 3 := hr3
    replace ht : sizesOf c.hs < c.bytes.length + sizeC qc.toNat := ht
    have hroom : roomC c = sizesOf c.hs - c.bytes.length := rfl
    have hKl : c.hs.length = pre.length + 1 := by rw [hpre]; simp
    obtain ⟨K, hK⟩ : ∃ K, K = pre.length := ⟨_, rfl⟩
    have hlast : ∀ hk : K < c.hs.length, c.hs[K] = (qc, qi, qg) := fun hk => by
      have : c.hs[K]? = some (qc, qi, qg) := by rw [hpre, hK]; simp
      rw [List.getElem?_eq_getElem hk] at this
      injection this
    obtain ⟨g, cap, hv2, hg, _, d0, d1, d2, _⟩ := hp.own.entry (k := K) (by omega)
    rw [hlast (by omega)] at d0 d1 d2
    replace d0 : w.cell? ⟨g, K * 3, none⟩ = some (.int .i64 qc) := d0
    replace d1 : w.cell? ⟨g, K * 3 + 1, none⟩ = some (.int .i64 qi) := d1
    replace d2 : w.cell? ⟨g, K * 3 + 2, none⟩ = some (.int .i64 qg) := d2
    rw [hKl, ← hK] at hv2
    have hfit : (sizeC qc.toNat - roomC c) + bs.length ≤ sizeC qc.toNat := by omega
    have HA := Lib.hid (show writeA A (qc, qi, qg) ((sizeC qc.toNat - roomC c : Nat) : Int) bs = (0, fillA A c bs) from by
      have h1 := (write_fits hb0 hfit).1
      have h2 : fillA A c bs = (writeA A (qc, qi, qg) ((sizeC qc.toNat - roomC c : Nat) : Int) bs).2 := by
        unfold fillA; rw [if_neg h0, ← hq]
      rw [h2, ← h1])
    have hs4 := sizeC_le (c := qc.toNat) (by omega)
    have hch : sizesOf c.hs ≤ 1048576 + 4096 := by omega
    obtain ⟨c0, c1, c2, c3, _, _⟩ := hp.cells hf
    rw [hv2] at c1
    have HP := Lib.hid hp
    have HH := Lib.hid h
    have HBy := Lib.hid hb
    obtain ⟨BL, hBL⟩ : ∃ BL, BL = c.bytes.length := ⟨_, rfl⟩
    obtain ⟨CH, hCH⟩ : ∃ CH, CH = sizesOf c.hs := ⟨_, rfl⟩
    obtain ⟨S, hS⟩ : ∃ S, S = sizeC qc.toNat := ⟨_, rfl⟩
    obtain ⟨N, hNb⟩ : ∃ N, N = bs.length := ⟨_, rfl⟩
    have HZ := Lib.hid (fun V => (show Calls Try.prog 25 #[.int .i64 qc] V fun e w' => e = .returned (.int .i64 (S : Int)) ∧ Below V.heap.size V w' from by
      have h1 := sizesP_any qc V
      rw [show sizesI qc = (S : Int) from by unfold sizesI; rw [if_pos ⟨hr0, hr3⟩, hS]] at h1
      exact h1))
    have HWr := Lib.hid (fun V (hV : So.PRel V O ap n A G) (hr : ReadsB V (.slice ba N bc) bs) => (show Calls Try.prog 50 #[.pointer (some ⟨ap, 0, none⟩), .agg #[.int .i64 qc, .int .i64 qi, .int .i64 qg], .int .i64 ((S : Int) - ((CH : Int) - (BL : Int))), .slice ba N bc] V (So.DoneP O ap n (0, fillA A c bs) G V) from by
      have h1 := So.pwrite_any qc qi qg ((sizeC qc.toNat - roomC c : Nat) : Int) (.slice ba N bc) bs V hV hr (by omega)
      rw [HA.out] at h1
      rw [show (S : Int) - ((CH : Int) - (BL : Int)) = ((sizeC qc.toNat - roomC c : Nat) : Int) from by omega]
      exact h1))
    rw [← hBL] at c2
    rw [← hCH] at c3
    have q1 : S ≤ 4096 := by omega
    have q2 : CH ≤ 1052672 := by omega
    have q3 : BL ≤ 1048576 := by omega
    have q4 : BL ≤ CH := by omega
    have q5 : CH < BL + S := by omega
    have q6 : N ≤ 1048576 := by omega
    have q7 : ¬ N = 0 := by omega
    have q8 : K ≤ 1048576 := by omega
    rw [← hNb]
    rw [← hNb] at HBy
    have HNb := Lib.hid hNb
    have HBL := Lib.hid hBL
    have HCH := Lib.hid hCH
    clear h hp hb hm htail ht h0 hq hpre hlast hKl hK hfit hs4 hch hBL hCH hS hNb hroom hl hbs hN hB hb0 hne HA hv2
    go_enter Try.func33, Try.ntmps33
    go_wp2_with fail
    have hcp := block_lt HP.out.obj
    have hwK : IntKind.i64.wrap (K : Int) = (K : Int) := IntWalk.i64_in _ (by omega)
    have c1a : ∀ o, (w.alloc o).cell? ⟨cp, 1, none⟩ = some (.slice (some ⟨g, 0, none⟩) (K + 1) cap) := fun o => (Below.cell ((Below.refl w.heap.size w).alloc (Nat.le_refl _) o) (p := ⟨cp, 1, none⟩) hcp).trans c1
    have d0a : ∀ o, (w.alloc o).cell? ⟨g, K * 3, none⟩ = some (.int .i64 qc) := fun o => (Below.cell ((Below.refl w.heap.size w).alloc (Nat.le_refl _) o) (p := ⟨g, K * 3, none⟩) hg).trans d0
    have d1a : ∀ o, (w.alloc o).cell? ⟨g, K * 3 + 1, none⟩ = some (.int .i64 qi) := fun o => (Below.cell ((Below.refl w.heap.size w).alloc (Nat.le_refl _) o) (p := ⟨g, K * 3 + 1, none⟩) hg).trans d1
    have d2a : ∀ o, (w.alloc o).cell? ⟨g, K * 3 + 2, none⟩ = some (.int .i64 qg) := fun o => (Below.cell ((Below.refl w.heap.size w).alloc (Nat.le_refl _) o) (p := ⟨g, K * 3 + 2, none⟩) hg).trans d2
    go_region
    have hB2 := ((Below.refl w.heap.size w).alloc (Nat.le_refl _) (.cells #[.int .i64 qc, .int .i64 qi, .int .i64 qg] 78)).drew
    have hX2 : Bx w.heap.size (qc, qi, qg) (w.alloc (.cells #[.int .i64 qc, .int .i64 qi, .int .i64 qg] 78)).drew := new_block w (.cells #[.int .i64 qc, .int .i64 qi, .int .i64 qg] 78)
    obtain ⟨w2, hw2⟩ : ∃ w2, w2 = (w.alloc (.cells #[.int .i64 qc, .int .i64 qi, .int .i64 qg] 78)).drew := ⟨_, rfl⟩
    rw [← hw2] at hB2 hX2 ⊢
    have HK := Lib.hid (show Kf w O ap cp n A G hv c w.heap.size (qc, qi, qg) (.slice ba N bc) bs w2 from ⟨HH.out.same hB2, HP.out.same hB2, hX2, HBy.out.next hB2, Ck.of_below hB2⟩)
    have HCl := Lib.hid (fun (V : World) (A2 : Ar) (h : Kf w O ap cp n A2 G hv c w.heap.size (qc, qi, qg) (.slice ba N bc) bs V) => (show V.cell? ⟨cp, 0, none⟩ = some (.pointer (some ⟨ap, 0, none⟩)) ∧ V.cell? ⟨cp, 2, none⟩ = some (.int .i64 (BL : Int)) ∧ V.cell? ⟨cp, 3, none⟩ = some (.int .i64 (CH : Int)) ∧ V.cell? ⟨w.heap.size, 0, none⟩ = some (.int .i64 qc) ∧ V.cell? ⟨w.heap.size, 1, none⟩ = some (.int .i64 qi) ∧ V.cell? ⟨w.heap.size, 2, none⟩ = some (.int .i64 qg) from by
      obtain ⟨h0, h1, h2, h3, _, _⟩ := h.pc.cells hf
      rw [← HBL.out] at h2
      rw [← HCH.out] at h3
      exact ⟨h0, h2, h3, h.bx.cells⟩))
    have hs1 : IntKind.i64.wrap ((CH : Int) - (BL : Int)) = (CH : Int) - (BL : Int) := IntWalk.i64_in _ (by omega)
    have hs2 : IntKind.i64.wrap ((S : Int) - ((CH : Int) - (BL : Int))) = (S : Int) - ((CH : Int) - (BL : Int)) := IntWalk.i64_in _ (by omega)
    clear c0 c1 c2 c3 d0 d1 d2 c1a d0a d1a d2a hB2 hX2 hw2
    go_upto_region 4 with fail
    have HT := Lib.hid (HK.out.next (Below.drew (Below.refl _ _)))
    go_region_held3 (fun W => W.cell? ⟨cp, 0, none⟩ = some (.pointer (some ⟨ap, 0, none⟩)) ∧ W.cell? ⟨cp, 2, none⟩ = some (.int .i64 (BL : Int)) ∧ W.cell? ⟨cp, 3, none⟩ = some (.int .i64 (CH : Int)) ∧ W.cell? ⟨w.heap.size, 0, none⟩ = some (.int .i64 qc) ∧ W.cell? ⟨w.heap.size, 1, none⟩ = some (.int .i64 qi) ∧ W.cell? ⟨w.heap.size, 2, none⟩ = some (.int .i64 qg))
      (exact HCl.out _ _ HT.out)
      (first
        | (go_at_call 25; refine (HZ.out _).mono ?_; rintro e w9 ⟨rfl, hb9⟩; replace HT := Lib.hid (HT.out.next hb9); clear hb9)
        | (go_at_call 50; refine (HWr.out _ HT.out.rel HT.out.rd.reads).mono ?_; rintro e w9 ⟨rfl, hr9, ht9⟩; replace HT := Lib.hid (HT.out.call hr9 ht9); clear hr9 ht9))
    all_goals
      obtain ⟨_, y2, _⟩ := HCl.out _ _ HT.out
      have y2f := free HT.out.pc.obj 2
      have hsum : IntKind.i64.wrap ((BL : Int) + (N : Int)) = ((BL + N : Nat) : Int) := by rw [IntWalk.i64_in _ (by omega)]; omega
      go_wp2_with fail
      go_ret
      have hsz := HT.out.pc.size hf bs
      rw [← HBL.out, ← HNb.out] at hsz
      exact ⟨rfl, (obj_put HT.out.pc.obj 2 _).rel HT.out.rel, hsz, HT.out.ck.trans (Ck.set (S := fun k => (O k ∧ IsT TP w k) ∨ k = cp) (.inr rfl) _)⟩
end Go.Proofs.Ytbpadliiekhkjaa.Ch
/-
  The program's lay: blocks that were taken are put behind, with bytes. Condition: the arena and the plain one are related ahead; the blocks' classes are classes.
-/
namespace Go.Proofs.Ytbpadliiekhkjaa.Ch
open Go.RowKit Go.Proofs.Ytbpadliiekhkjaa.Fd Go.Proofs.Ytbpadliiekhkjaa.Sl
set_option maxRecDepth 100000
set_option linter.unusedVariables false
set_option linter.unusedSimpArgs false

theorem Ck.then {S S' : Nat → Prop} {a b c : World} (h : Ck S a b) (k : Ck S' b c) (hs : ∀ i, i < a.heap.size → S' i → S i) : Ck S a c :=
  ⟨k.os.trans h.os, k.tape.trans h.tape, k.output.trans h.output, Nat.le_trans h.size k.size, fun i hi hn => (k.block i (Nat.lt_of_lt_of_le hi h.size) (fun q => hn (hs i hi q))).trans (h.block i hi hn)⟩
def offA (a : Option Addr) (cap k : Nat) : Option Addr := if cap = k then a else a.map (·.add k)
theorem run_slice_drop (W : World) (a : Option Addr) (n cap k : Nat) (hk : k ≤ n) : (Instr.slice 36 (.slice a n cap) (some (.int .i64 (k : Int))) none none).run Try.prog W = .ok (.slice (offA a cap k) (n - k) (cap - k)) W := by
  have ht : Try.prog.underlying 36 = some (.slice 5) := Try.underlying36
  have ht' : Try.prog.underlying 36 = some (.slice (Try.prog.elem 36)) := by simp [Program.elem, ht]
  have he : Try.prog.elem 36 = 5 := by simp [Program.elem, ht]
  obtain ⟨i, hi, _, hs, _⟩ := info_parts8 infoU8
  have hz : (Go.sizeOf 5).run Try.prog W = .ok 1 W := by simp [Go.sizeOf, typeInfo, hi, hs]
  rw [run_slice_l W 36 _ _ _ ht' .i64 _ (by omega) (by omega), he, hz]
  simp [Result.andThen, sliced, offA]
theorem add_none (a : Option Addr) : a.map (·.add 0) = a := by
  cases a with
  | none => rfl
  | some ad => obtain ⟨b, o, sp⟩ := ad; simp [Addr.add]
theorem run_slice_first (W : World) (a : Option Addr) (n cap k : Nat) (hk : k ≤ cap) : (Instr.slice 36 (.slice a n cap) none (some (.int .i64 (k : Int))) none).run Try.prog W = .ok (.slice a k cap) W := by
  have ht : Try.prog.underlying 36 = some (.slice 5) := Try.underlying36
  have ht' : Try.prog.underlying 36 = some (.slice (Try.prog.elem 36)) := by simp [Program.elem, ht]
  have he : Try.prog.elem 36 = 5 := by simp [Program.elem, ht]
  obtain ⟨i, hi, _, hs, _⟩ := info_parts8 infoU8
  have hz : (Go.sizeOf 5).run Try.prog W = .ok 1 W := by simp [Go.sizeOf, typeInfo, hi, hs]
  rw [run_slice_h W 36 _ _ _ ht' .i64 _ (by omega) (by omega), he, hz]
  simp only [Result.andThen, sliced, Nat.zero_mul, add_none, ite_self, Int.toNat_natCast, Nat.sub_zero]
theorem Byo.drop {w : World} {O : Nat → Prop} {a : Option Addr} {n cap : Nat} {l : Tk.Bs} (h : Byo w O (.slice a n cap) l) (k : Nat) (hk : k ≤ l.length) : Byo w O (.slice (offA a cap k) (n - k) (cap - k)) (l.drop k) := by
  obtain ⟨a', cap', h1, h2, h3, h4⟩ := h
  injection h1 with e1 e2 e3
  subst e1 e3
  have hl : (l.drop k).length = n - k := by rw [List.length_drop]; omega
  refine ⟨offA a cap k, cap - k, by rw [hl], by omega, by omega, ?_⟩
  rcases h4 with ⟨rfl, rfl⟩ | ⟨g, off, rfl, h5, h6, h8, h7⟩
  · left; exact ⟨by unfold offA; split <;> rfl, by omega⟩
  · right
    by_cases hc : cap = k
    · refine ⟨g, off, by unfold offA; rw [if_pos hc], h5, h6, h8, fun j hj => ?_⟩
      rw [hl] at hj
      omega
    · refine ⟨g, off + k, by unfold offA; rw [if_neg hc, Option.map_some, Addr.add_lit], h5, h6, h8, fun j hj => ?_⟩
      rw [hl] at hj
      have := h7 (k + j) (by omega)
      rw [show off + k + j = off + (k + j) from by omega, this]
      simp
theorem sizes_most : ∀ (hs : List Hd), (∀ q, q ∈ hs → 0 ≤ q.1 ∧ q.1 ≤ 3) → sizesOf hs ≤ hs.length * 4096
  | [], _ => by simp [sizesOf]
  | h :: r, hc => by
    rw [sizesOf_cons, List.length_cons]
    have h1 := hc h (List.mem_cons_self ..)
    have h2 := sizeC_le (c := h.1.toNat) (by omega)
    have h3 := sizes_most r (fun x hx => hc x (List.mem_cons_of_mem _ hx))
    omega
/-- While blocks are put behind. -/
structure Kl (w : World) (O : Nat → Prop) (ap cp : Nat) (n : Nat → Nat) (G : Nat) (hv0 : Value) (sh : Bool) (tv : Value) (T : List Hd) (A : Ar) (hv : Value) (l : List Hd) (sz ch : Int) (bv : Value) (s : Tk.Bs) (W : World) : Prop where
  rel : So.PRel W O ap n A G
  obj : W.heap[cp]? = some (.cells #[.pointer (some ⟨ap, 0, none⟩), hv, .int .i64 sz, .int .i64 ch, .bool sh, .bool false] 60 (0, 0))
  own : OwnH W 0 hv l
  tk : OwnH W 0 tv T
  apart : ∀ k, hv.ownBlock = some k → tv.ownBlock ≠ some k
  rd : Byo W O bv s
  new : ∀ k, hv.ownBlock = some k → hv0.ownBlock = some k ∨ w.heap.size ≤ k
  ck : Ck (fun k => (O k ∧ IsT TP w k) ∨ k = cp ∨ hv0.ownBlock = some k) w W
section
variable {w : World} {O : Nat → Prop} {ap cp : Nat} {n : Nat → Nat} {A A' : Ar} {G : Nat} {hv0 hv hv' tv bv bv' : Value} {sh : Bool} {T l l' : List Hd} {sz ch : Int} {s s' : Tk.Bs} {W V : World}
theorem Kl.next (h : Kl w O ap cp n G hv0 sh tv T A hv l sz ch bv s W) (hb : Below W.heap.size W V) : Kl w O ap cp n G hv0 sh tv T A hv l sz ch bv s V :=
  ⟨h.rel.same hb, Bl.old hb (block_lt h.obj) h.obj, h.own.kept hb, h.tk.kept hb, h.apart, h.rd.next hb, h.new, h.ck.next hb⟩
theorem Kl.call (h : Kl w O ap cp n G hv0 sh tv T A hv l sz ch bv s W) (hr : So.PRel V O ap n A' G) (ht : So.Tn TP O W V) : Kl w O ap cp n G hv0 sh tv T A' hv l sz ch bv s V :=
  ⟨hr, ht.other h.obj rfl, h.own.so ht rfl, h.tk.so ht rfl, h.apart, h.rd.so ht, h.new, h.ck.call (R := fun k => k = cp ∨ hv0.ownBlock = some k) ht⟩
theorem Kl.rest (h : Kl w O ap cp n G hv0 sh tv T A hv l sz ch bv s W) (hb : Byo W O bv' s') : Kl w O ap cp n G hv0 sh tv T A hv l sz ch bv' s' W := ⟨h.rel, h.obj, h.own, h.tk, h.apart, hb, h.new, h.ck⟩
theorem Kl.cells (h : Kl w O ap cp n G hv0 sh tv T A hv l sz ch bv s W) : W.cell? ⟨cp, 0, none⟩ = some (.pointer (some ⟨ap, 0, none⟩)) ∧ W.cell? ⟨cp, 1, none⟩ = some hv ∧ W.cell? ⟨cp, 2, none⟩ = some (.int .i64 sz) ∧ W.cell? ⟨cp, 3, none⟩ = some (.int .i64 ch) := by
  refine ⟨?_, ?_, ?_, ?_⟩ <;> (rw [Lib.cell_of_heap h.obj]; rfl)
theorem Kl.size (h : Kl w O ap cp n G hv0 sh tv T A hv l sz ch bv s W) (x : Int) : Kl w O ap cp n G hv0 sh tv T A hv l x ch bv s (W.setCell ⟨cp, 2, none⟩ (.int .i64 x)) := by
  have hp := obj_put h.obj 2 (.int .i64 x)
  exact ⟨hp.rel h.rel, hp.obj, hp.own h.own, hp.own h.tk, h.apart, hp.rd h.rd, h.new, h.ck.trans (Ck.set (S := fun k => (O k ∧ IsT TP w k) ∨ k = cp ∨ hv0.ownBlock = some k) (.inr (.inl rfl)) _)⟩
theorem Kl.charge (h : Kl w O ap cp n G hv0 sh tv T A hv l sz ch bv s W) (x : Int) : Kl w O ap cp n G hv0 sh tv T A hv l sz x bv s (W.setCell ⟨cp, 3, none⟩ (.int .i64 x)) := by
  have hp := obj_put h.obj 3 (.int .i64 x)
  exact ⟨hp.rel h.rel, hp.obj, hp.own h.own, hp.own h.tk, h.apart, hp.rd h.rd, h.new, h.ck.trans (Ck.set (S := fun k => (O k ∧ IsT TP w k) ∨ k = cp ∨ hv0.ownBlock = some k) (.inr (.inl rfl)) _)⟩
/-- A handle is put behind, the slice stored. -/
theorem Kl.app (h : Kl w O ap cp n G hv0 sh tv T A hv l sz ch bv s W) (ho : OwnH V 0 hv' l') (hg : W.grownBy V hv.ownBlock) (hn : ∀ k, hv'.ownBlock = some k → hv.ownBlock = some k ∨ W.heap.size ≤ k) :
    V.heap[cp]? = some (.cells #[.pointer (some ⟨ap, 0, none⟩), hv, .int .i64 sz, .int .i64 ch, .bool sh, .bool false] 60 (0, 0)) ∧
    Kl w O ap cp n G hv0 sh tv T A hv' l' sz ch bv s (V.setCell ⟨cp, 1, none⟩ hv') ∧ (∀ {b : Nat} {q : Hd}, Bx b q W → hv.ownBlock ≠ some b → Bx b q (V.setCell ⟨cp, 1, none⟩ hv')) := by
  have hk : Ck (fun k => hv.ownBlock = some k) W V := Ck.grown hg (fun k hk => hk)
  have hne : ∀ k cs t fr, W.heap[k]? = some (.cells cs t fr) → t ≠ 78 → ¬ hv.ownBlock = some k := fun k cs t fr h1 h2 e => by
    obtain ⟨⟨cs2, t2, fr2, h3, h4⟩, _⟩ := h.own.row k e
    rw [h1] at h3
    injection h3 with h3
    injection h3 with _ h3
    subst h3
    unfold TH at h4
    exact h2 (by simpa using h4)
  have ho1 := hk.old (hne _ _ _ _ h.obj (by decide)) h.obj
  have hp := obj_put ho1 1 hv'
  refine ⟨ho1, ⟨hp.rel (PRel.ck h.rel hk (fun k cs t fr h1 h2 => hne k cs t fr h1 (fun e => by rw [e] at h2; cases h2))), hp.obj, hp.own ho, hp.own (h.tk.kept2 fun k hk1 hk2 => hk.block k hk1 (fun q => h.apart k q hk2)), fun k hk1 hk2 => ?_,
    hp.rd (h.rd.ck hk (fun g _ _ ht => by obtain ⟨cs, fr, h1⟩ := ht; exact hne _ _ _ _ h1 (by decide))), fun k hk1 => ?_, ?_⟩, fun {b} {q} hb hnb => hp.bx (show Bx b q V from hk.old hnb hb)⟩
  · rcases hn k hk1 with q | q
    · exact h.apart k q hk2
    · have := (h.tk.row k hk2).1
      obtain ⟨cs, t, fr, h3, _⟩ := this
      have := block_lt h3
      omega
  · rcases hn k hk1 with q | q
    · exact h.new k q
    · right; have := h.ck.size; omega
  · refine (h.ck.then hk (fun i hi q => ?_)).trans (Ck.set (S := fun k => (O k ∧ IsT TP w k) ∨ k = cp ∨ hv0.ownBlock = some k) (.inr (.inl rfl)) _)
    rcases h.new i q with q | q
    · exact .inr (.inr q)
    · omega
end
/-- A box of a handle stays. -/
theorem Kl.bx {w : World} {O : Nat → Prop} {ap cp : Nat} {n : Nat → Nat} {A : Ar} {G : Nat} {hv0 hv tv bv : Value} {sh : Bool} {T l : List Hd} {sz ch : Int} {s : Tk.Bs} {W : World} (h : Kl w O ap cp n G hv0 sh tv T A hv l sz ch bv s W) {b : Nat} (hb : W.heap.size ≤ b) : hv.ownBlock ≠ some b := fun e => by
  have := (World.ownsRow.lt h.own b e).2
  omega
theorem layA_step (A : Ar) (T : List Hd) (k : Nat) (s : Tk.Bs) (h : k < T.length) : layA A (T.drop k) s = layA (writeA A T[k] ((0 : Nat) : Int) (s.take (sizeC T[k].1.toNat))).2 (T.drop (k + 1)) (s.drop (sizeC T[k].1.toNat)) := by
  rw [List.drop_eq_getElem_cons h]; rfl
/-- What lay leaves. -/
def LayP (O : Nat → Prop) (ap cp : Nat) (n : Nat → Nat) (A : Ar) (G : Nat) (hv : Value) (c : Chn) (w : World) (e : Ending) (w' : World) : Prop :=
  e = .returned (.tuple #[]) ∧ So.PRel w' O ap n A G ∧ (∃ hv', PC w' cp ap hv' c ∧ ∀ k, hv'.ownBlock = some k → hv.ownBlock = some k ∨ w.heap.size ≤ k) ∧ Ck (fun k => (O k ∧ IsT TP w k) ∨ k = cp ∨ hv.ownBlock = some k) w w'
set_option maxHeartbeats 8000000 in
theorem lay_any {O : Nat → Prop} {ap cp : Nat} {n : Nat → Nat} {A : Ar} {G : Nat} {hv : Value} {c : Chn} (tv : Value) (T : List Hd) (bv : Value) (bs : Tk.Bs) (w : World) (h : So.PRel w O ap n A G) (hp : PC w cp ap hv c) (hf : c.freed = false) (ht : OwnH w 0 tv T) (hap : ∀ k, hv.ownBlock = some k → tv.ownBlock ≠ some k) (hb : Byo w O bv bs)
    (hc : ∀ q, q ∈ T → 0 ≤ q.1 ∧ q.1 ≤ 3) (hfit : bs.length ≤ sizesOf T) (hT : T.length ≤ 1048576) (hN : c.hs.length ≤ 1048576) (hB : c.bytes.length ≤ 1048576) (hbs : bs.length ≤ 1048576) (hch : sizesOf c.hs ≤ 1099511627776) :
    Calls Try.prog 35 #[.pointer (some ⟨cp, 0, none⟩), tv, bv] w (LayP O ap cp n (layA A T bs) G hv { c with hs := c.hs ++ T, bytes := c.bytes ++ bs } w) := by
  obtain ⟨ta, tc, htv⟩ := ht.form
  subst htv
  obtain ⟨L, hL⟩ : ∃ L, L = T.length := ⟨_, rfl⟩
  have HL := Lib.hid hL
  rw [← hL] at hT ht ⊢
  have hobj := hp.obj
  unfold objC at hobj
  rw [hf] at hobj
  have HK := Lib.hid (show Kl w O ap cp n G hv c.shared (.slice ta L tc) T A hv (c.hs ++ T.take 0) ((c.bytes.length : Nat) : Int) ((sizesOf (c.hs ++ T.take 0) : Nat) : Int) bv bs w from ⟨h, by rw [List.take_zero, List.append_nil]; exact hobj, by rw [List.take_zero, List.append_nil]; exact hp.own, ht, by rw [hL] at *; exact hap, hb, fun k hk => .inl hk, Ck.refl _ _⟩)
  clear h hp ht hap hb hobj hL
  go_enter Try.func35, Try.ntmps35
  go_wp2_with fail
  go_loopw [2, 11] (fun s2 s11 wr => ∃ (k : Nat) (A1 : Ar) (hv1 : Value) (p s : Tk.Bs), k ≤ L ∧ s11 = .int .i64 (k : Int) ∧ bs = p ++ s ∧ layA A T bs = layA A1 (T.drop k) s ∧ s.length ≤ sizesOf (T.drop k) ∧ Kl w O ap cp n G hv c.shared (.slice ta L tc) T A1 hv1 (c.hs ++ T.take k) ((c.bytes.length + p.length : Nat) : Int) ((sizesOf (c.hs ++ T.take k) : Nat) : Int) s2 s wr) (fun _ s11 _ => L - (intOf s11).toNat)
  case atStart => exact ⟨0, A, hv, [], bs, Nat.zero_le _, rfl, rfl, rfl, hfit, HK.out⟩
  case round =>
    obtain ⟨k, A1, hv1, p, s, hk, rfl, hps, hlay, hsf, hK⟩ := hrel
    obtain ⟨BL, hBL⟩ : ∃ BL, BL = c.bytes.length + p.length := ⟨_, rfl⟩
    rw [← hBL] at hK
    have HBL := Lib.hid hBL
    clear hBL
    by_cases hlt : k < L
    · have hkT : k < T.length := by rw [← HL.out]; exact hlt
      obtain ⟨g, cap, hv2, hg, _, d0, d1, d2, _⟩ := hK.tk.entry hkT
      rw [← HL.out] at hv2
      injection hv2 with e1 e2 e3
      subst e1 e3
      clear e2
      have hq := hc _ (List.getElem_mem hkT)
      have hstep := layA_step A1 T k s hkT
      have hsz := sizesOf_cons T[k] (T.drop (k + 1))
      rw [← List.drop_eq_getElem_cons hkT] at hsz
      have htake : c.hs ++ T.take (k + 1) = (c.hs ++ T.take k) ++ [T[k]] := by rw [List.take_succ_eq_append_getElem hkT, List.append_assoc]
      obtain ⟨⟨qc, qi, qg⟩, hqe⟩ : ∃ q, q = T[k] := ⟨_, rfl⟩
      rw [← hqe] at d0 d1 d2 hq hstep hsz htake
      replace hq : 0 ≤ qc ∧ qc ≤ 3 := hq
      have hs4 := sizeC_le (c := qc.toNat) (by omega)
      obtain ⟨S, hS⟩ : ∃ S, S = sizeC qc.toNat := ⟨_, rfl⟩
      have HZ := Lib.hid (fun V => (show Calls Try.prog 25 #[.int .i64 qc] V fun e w' => e = .returned (.int .i64 (S : Int)) ∧ Below V.heap.size V w' from by
        have h1 := sizesP_any qc V
        rw [show sizesI qc = (S : Int) from by unfold sizesI; rw [if_pos hq, hS]] at h1
        exact h1))
      have HStep := Lib.hid (show layA A1 (T.drop k) s = layA (writeA A1 (qc, qi, qg) 0 (s.take S)).2 (T.drop (k + 1)) (s.drop S) from by rw [hS]; exact hstep)
      have HTk := Lib.hid htake
      replace hsz : sizesOf (T.drop k) = S + sizesOf (T.drop (k + 1)) := by rw [hS]; exact hsz
      rw [← hS] at hs4
      have HSz := Lib.hid hsz
      have hsl : s.length ≤ 1048576 := by have := congrArg List.length hps; rw [List.length_append] at this; omega
      have hpl : p.length ≤ 1048576 := by have := congrArg List.length hps; rw [List.length_append] at this; omega
      obtain ⟨ba, bc, hbv, hbc, hbm⟩ := hK.rd.form
      subst hbv
      obtain ⟨SL, hSL⟩ : ∃ SL, SL = s.length := ⟨_, rfl⟩
      rw [← hSL] at hsl hbc hK hsf ⊢
      have HSL := Lib.hid hSL
      have HKr := Lib.hid hK
      have HPs := Lib.hid hps
      have HLay := Lib.hid hlay
      have HQe := Lib.hid hqe
      have hx : Bx wr.heap.size (qc, qi, qg) (wr.alloc (.cells #[.int .i64 qc, .int .i64 qi, .int .i64 qg] 78)) := new_block _ _
      obtain ⟨w2, hw2⟩ : ∃ w2, w2 = wr.alloc (.cells #[.int .i64 qc, .int .i64 qi, .int .i64 qg] 78) := ⟨_, rfl⟩
      have hB2 := (Below.refl wr.heap.size wr).alloc (Nat.le_refl _) (.cells #[.int .i64 qc, .int .i64 qi, .int .i64 qg] 78)
      rw [← hw2] at hx hB2
      have HK2 := Lib.hid (hK.next hB2)
      have HX2 := Lib.hid hx
      have HNb := Lib.hid (hK.bx (b := wr.heap.size) (Nat.le_refl _))
      have HW2 := Lib.hid hw2
      obtain ⟨x0, x1, x2⟩ := hx.cells
      have HSF := Lib.hid hsf
      clear hK hps hlay hstep htake hsz hqe hS hSL hx hw2 hB2 hsf
      go_upto_region 3 with fail
      rw [← HW2.out]
      go_upto_region 4 with (go_at_call 25; refine (HZ.out _).mono ?_; rintro e w3 ⟨rfl, hb3⟩; have HK3 := Lib.hid (HK2.out.next hb3); have HX3 := Lib.hid (HX2.out.next hb3); clear hb3)
      obtain ⟨M, hM⟩ : ∃ M, M = min S SL := ⟨_, rfl⟩
      rw [show (if SL < S then (SL : Int) else (S : Int)) = (M : Int) from by split <;> omega]
      have htk : s.take M = s.take S := by
        by_cases hle : S ≤ SL
        · rw [show M = S from by omega]
        · rw [List.take_of_length_le (by rw [← HSL.out]; omega), List.take_of_length_le (by rw [← HSL.out]; omega)]
      have hdr : s.drop M = s.drop S := by
        by_cases hle : S ≤ SL
        · rw [show M = S from by omega]
        · rw [List.drop_of_length_le (by rw [← HSL.out]; omega), List.drop_of_length_le (by rw [← HSL.out]; omega)]
      have hps2 : p ++ s.take S ++ s.drop S = p ++ s := by rw [List.append_assoc, List.take_append_drop]
      have HPs2 := Lib.hid (show bs = (p ++ s.take S) ++ s.drop S from by rw [hps2]; exact HPs.out)
      have HMl := Lib.hid (show (p ++ s.take S).length = p.length + M from by rw [List.length_append, ← htk, List.length_take, ← HSL.out]; omega)
      have hMS : M ≤ S := by omega
      have hML : M ≤ SL := by omega
      have HMd := Lib.hid (show (s.drop S).length ≤ sizesOf (T.drop (k + 1)) from by rw [List.length_drop, ← HSL.out]; have := HSz.out; have := HSF.out; omega)
      have hsl1 := fun W => run_slice_first W ba SL bc M (by omega)
      have hsl2 := fun W => run_slice_drop W ba SL bc M (by omega)
      have HBd := Lib.hid (fun V (h : Byo V O (.slice ba SL bc) s) => (show Byo V O (.slice (offA ba bc M) (SL - M) (bc - M)) (s.drop S) from by rw [← hdr]; exact h.drop M (by rw [← HSL.out]; omega)))
      have HWr := Lib.hid (fun V (hV : So.PRel V O ap n A1 G) (hb : Byo V O (.slice ba SL bc) s) => (show Calls Try.prog 50 #[.pointer (some ⟨ap, 0, none⟩), .agg #[.int .i64 qc, .int .i64 qi, .int .i64 qg], .int .i64 0, .slice ba M bc] V (So.DoneP O ap n (writeA A1 (qc, qi, qg) 0 (s.take S)) G V) from by
        have hr := (hb.take M (by rw [← HSL.out]; omega)).reads
        rw [htk] at hr
        exact So.pwrite_any qc qi qg 0 (.slice ba M bc) (s.take S) V hV hr (by rw [List.length_take]; omega)))
      obtain ⟨⟨we, A2⟩, hA2⟩ : ∃ r, r = writeA A1 (qc, qi, qg) 0 (s.take S) := ⟨_, rfl⟩
      have HA2 := Lib.hid (show layA A1 (T.drop k) s = layA A2 (T.drop (k + 1)) (s.drop S) from by rw [HStep.out, ← hA2])
      rw [← hA2] at HWr
      clear htk hdr hps2 hA2 hM HStep x0 x1 x2
      have HT := Lib.hid (HK3.out.next (Below.drew (Below.refl _ _)))
      have HY := Lib.hid (HX3.out.next (Below.drew (Below.refl _ _)))
      go_region_held3 (fun W => W.cell? ⟨cp, 0, none⟩ = some (.pointer (some ⟨ap, 0, none⟩)) ∧ W.cell? ⟨wr.heap.size, 0, none⟩ = some (.int .i64 qc) ∧ W.cell? ⟨wr.heap.size, 1, none⟩ = some (.int .i64 qi) ∧ W.cell? ⟨wr.heap.size, 2, none⟩ = some (.int .i64 qg))
        (exact ⟨HT.out.cells.1, HY.out.cells⟩)
        (first
          | (go_at_call 50; refine (HWr.out _ HT.out.rel HT.out.rd).mono ?_; rintro e w9 ⟨rfl, hr9, ht9⟩; replace HT := Lib.hid (HT.out.call hr9 ht9); replace HY := Lib.hid (bx_so HY.out ht9 rfl); clear hr9 ht9))
      have HK9 := Lib.hid (HT.out.rest (HBd.out _ HT.out.rd))
      have HX9 := Lib.hid HY.out
      clear HT HY HK3 HX3 HWr HBd
      go_upto_region 6 with fail
      go_cut [] from 30 to 42 (fun wx => ∃ hv2, Kl w O ap cp n G hv c.shared (.slice (some ⟨g, 0, none⟩) L tc) T A2 hv2 (c.hs ++ T.take (k + 1)) (BL : Int) ((sizesOf (c.hs ++ T.take k) : Nat) : Int) (.slice (offA ba bc M) (SL - M) (bc - M)) (s.drop S) wx ∧ Bx wr.heap.size (qc, qi, qg) wx)
      case first =>
        obtain ⟨ha, hc1, hvf⟩ := HK9.out.own.form
        subst hvf
        obtain ⟨i0, hi, hz0, hz1, hz2⟩ := info_partsB infoHd
        obtain ⟨_, y1, _, _⟩ := HK9.out.cells
        obtain ⟨x0, x1, x2⟩ := HX9.out.cells
        have hwb := block_lt HX9.out
        have HKa := Lib.hid (fun o => HK9.out.next ((Below.refl w9.heap.size w9).drew.alloc (Nat.le_refl _) o))
        have HXa := Lib.hid (fun o => HX9.out.next ((Below.refl w9.heap.size w9).drew.alloc (Nat.le_refl _) o))
        have y1a : ∀ o, (w9.alloc o).cell? ⟨cp, 1, none⟩ = some (.slice ha (c.hs ++ T.take k).length hc1) := fun o => (HKa.out o).cells.2.1
        obtain ⟨NN, hNN⟩ : ∃ NN, NN = (c.hs ++ T.take k).length := ⟨_, rfl⟩
        have hNl : NN ≤ 2097152 := by rw [hNN, List.length_append, List.length_take]; omega
        have HNN := Lib.hid hNN
        have hown : ∀ o, (w9.drew.alloc o).ownsRow 0 78 3 (.slice ha NN hc1) NN (flatH (c.hs ++ T.take k)) := fun o => by rw [hNN]; exact (HKa.out o).own
        rw [← hNN] at y1 y1a
        have HOw := Lib.hid hown
        have HAp := Lib.hid (fun (o : Obj) (g3 cap3 : Nat) (w3 : World) (h1 : w3.ownsRow 0 78 3 (.slice (some ⟨g3, 0, none⟩) (NN + 1) cap3) (NN + 1) (flatH (c.hs ++ T.take k) ++ [.int .i64 qc, .int .i64 qi, .int .i64 qg])) (h2 : (w9.drew.alloc o).grownBy w3 (Value.slice ha NN hc1).ownBlock) (h3 : (Value.slice ha NN hc1).ownBlock = some g3 ∨ g3 = (w9.drew.alloc o).heap.size) =>
          (show w3.heap[cp]? = some (.cells #[.pointer (some ⟨ap, 0, none⟩), .slice ha NN hc1, .int .i64 (BL : Int), .int .i64 ((sizesOf (c.hs ++ T.take k) : Nat) : Int), .bool c.shared, .bool false] 60 (0, 0)) ∧
            Kl w O ap cp n G hv c.shared (.slice (some ⟨g, 0, none⟩) L tc) T A2 (.slice (some ⟨g3, 0, none⟩) (NN + 1) cap3) (c.hs ++ T.take (k + 1)) (BL : Int) ((sizesOf (c.hs ++ T.take k) : Nat) : Int) (.slice (offA ba bc M) (SL - M) (bc - M)) (s.drop S) (w3.setCell ⟨cp, 1, none⟩ (.slice (some ⟨g3, 0, none⟩) (NN + 1) cap3)) ∧ Bx wr.heap.size (qc, qi, qg) (w3.setCell ⟨cp, 1, none⟩ (.slice (some ⟨g3, 0, none⟩) (NN + 1) cap3)) from by
          have h0 := HKa.out o
          rw [← HNN.out] at h0
          obtain ⟨r1, r2, r3⟩ := h0.app (hv' := .slice (some ⟨g3, 0, none⟩) (NN + 1) cap3) (l' := c.hs ++ T.take (k + 1)) (V := w3) (by
            rw [HTk.out]
            unfold OwnH
            rw [List.length_append, flatH_snoc, ← HNN.out]
            exact h1) h2 (fun j hj => by
              injection hj with hj
              subst hj
              rcases h3 with h3 | h3
              · exact .inl h3
              · exact .inr (Nat.le_of_eq h3.symm))
          exact ⟨r1, r2, r3 (HXa.out o) (by rw [HNN.out]; exact HNb.out)⟩))
        clear hown hNN
        go_region_law ((refine step_append_lies _ (by rfl) _ _ 58 (by rfl) 0 78 i0 (.agg #[.int .i64 0, .int .i64 0, .int .i64 0]) 3 24 Try.underlying58 hi hz0 hz1 hz2 rfl (by decide) _ _ _ (by rfl) (HOw.out _) ⟨w9.heap.size, 0, none⟩ 1 1 [.int .i64 qc, .int .i64 qi, .int .i64 qg] (by rfl) rfl (World.news_of_block (new_block w9.drew _)) (fun u hu => by simp at hu; rcases hu with rfl | rfl | rfl <;> rfl) (by omega) (by unfold maxLen; omega) (by omega) (Nat.zero_le _) _ rfl ?_; intro g3 cap3 w3 hown3 hgrow hat3 hlt3; have hob := (HAp.out _ _ _ _ hown3 hgrow hat3).1; have HZ3 := Lib.hid (HAp.out _ _ _ _ hown3 hgrow hat3).2; have c1w := Lib.cell_of_heap hob 1; have f1w := free hob 1; clear hob hown3 hgrow hat3))
        all_goals
          go_wp2_with fail
          go_meet
          exact ⟨_, HZ3.out⟩
      case rest =>
        obtain ⟨hv2, hK, hX⟩ := hcut
        obtain ⟨_, _, c2, _⟩ := hK.cells
        have f2 := free hK.obj 2
        obtain ⟨BM, hBM⟩ : ∃ BM, BM = BL + M := ⟨_, rfl⟩
        have hBLb : BL ≤ 2097152 := by have := HBL.out; omega
        have hsum : IntKind.i64.wrap ((BL : Int) + (M : Int)) = (BM : Int) := by rw [IntWalk.i64_in _ (by omega)]; omega
        have HK10 := Lib.hid (hK.size (BM : Int))
        have HX10 := Lib.hid ((obj_put hK.obj 2 (.int .i64 (BM : Int))).bx hX)
        obtain ⟨w10, hw10⟩ : ∃ w10, w10 = wc.setCell ⟨cp, 2, none⟩ (.int .i64 (BM : Int)) := ⟨_, rfl⟩
        rw [← hw10] at HK10 HX10
        have HW10 := Lib.hid hw10
        have HBM := Lib.hid (show BM = c.bytes.length + (p ++ s.take S).length from by rw [HMl.out, hBM, HBL.out]; omega)
        have hCHb : sizesOf (c.hs ++ T.take k) ≤ 1099511627776 + 4294967296 := by
          rw [sizesOf_app]
          have := sizes_most (T.take k) (fun x hx => hc x (List.mem_of_mem_take hx))
          rw [List.length_take] at this
          omega
        obtain ⟨CH, hCH⟩ : ∃ CH, CH = sizesOf (c.hs ++ T.take k) := ⟨_, rfl⟩
        rw [← hCH] at HK10 hCHb
        have HCH2 := Lib.hid (show sizesOf (c.hs ++ T.take (k + 1)) = CH + S from by
          rw [HTk.out, sizesOf_app, ← hCH, sizesOf_cons]
          have h1 := HSz.out
          rw [List.drop_eq_getElem_cons hkT, sizesOf_cons, ← HQe.out] at h1
          show CH + (sizeC qc.toNat + 0) = CH + S
          replace h1 : sizeC qc.toNat + sizesOf (T.drop (k + 1)) = S + sizesOf (T.drop (k + 1)) := h1
          omega)
        clear hK hX hw10 hBM hCH
        go_upto_region 8 with fail
        rw [← HW10.out]
        clear c2 f2 hsum
        have hs3 : IntKind.i64.wrap ((CH : Int) + (S : Int)) = ((CH + S : Nat) : Int) := by rw [IntWalk.i64_in _ (by omega)]; omega
        obtain ⟨_, _, _, c3⟩ := HK10.out.cells
        have f3 := free HK10.out.obj 3
        obtain ⟨x0, _, _⟩ := HX10.out.cells
        have HT := Lib.hid (HK10.out.next (Below.drew (Below.refl _ _)))
        have HY := Lib.hid (HX10.out.next (Below.drew (Below.refl _ _)))
        go_region_law (first
          | (go_simp; go_at_call 25; refine (HZ.out _).mono ?_; rintro e w11 ⟨rfl, hb11⟩; have HT2 := Lib.hid (HT.out.next hb11); have HY2 := Lib.hid (HY.out.next hb11); obtain ⟨_, _, _, e3⟩ := HT2.out.cells; have g3 := free HT2.out.obj 3; clear hb11))
        all_goals
          have HK12 := Lib.hid (HT2.out.charge ((CH : Int) + (S : Int)))
          have HF := Lib.hid (show Kl w O ap cp n G hv c.shared (.slice (some ⟨g, 0, none⟩) L tc) T A2 hv2 (c.hs ++ T.take (k + 1)) ((c.bytes.length + (p ++ s.take S).length : Nat) : Int) ((sizesOf (c.hs ++ T.take (k + 1)) : Nat) : Int) (.slice (offA ba bc M) (SL - M) (bc - M)) (s.drop S) _ from by
            rw [← HBM.out, HCH2.out, show ((CH + S : Nat) : Int) = (CH : Int) + (S : Int) from by omega]
            exact HK12.out)
          clear HK12 HT2 HY2 HT HY
          go_wp2_with fail
          go_roundw
          case rel => exact ⟨k + 1, A2, hv2, p ++ s.take S, s.drop S, by omega, by go_num, HPs2.out, HLay.out.trans HA2.out, HMd.out, HF.out⟩
          case measure => simp [intOf]; omega
    · obtain rfl : k = L := by omega
      have hd : T.drop k = [] := List.drop_of_length_le (by rw [← HL.out]; exact Nat.le_refl _)
      rw [hd] at hlay hsf
      have hs0 : s = [] := List.length_eq_zero_iff.1 (by simpa [sizesOf] using hsf)
      subst hs0
      rw [List.append_nil] at hps
      subst hps
      rw [List.take_of_length_le (l := T) (by rw [← HL.out]; exact Nat.le_refl _)] at hK
      have HF := Lib.hid (show LayP O ap cp n (layA A T bs) G hv { c with hs := c.hs ++ T, bytes := c.bytes ++ bs } w (.returned (.tuple #[])) wr from ⟨rfl, by rw [hlay]; exact hK.rel, ⟨hv1, ⟨by
        rw [hK.obj]
        unfold objC
        simp only [hf, List.length_append]
        rw [HBL.out]
        rfl, hK.own⟩, hK.new⟩, hK.ck⟩)
      obtain ⟨ba, bc, hbv, _, _⟩ := hK.rd.form
      subst hbv
      clear hK hlay hsf hd
      go_wp2_with fail
      go_end0
      exact HF.out
end Go.Proofs.Ytbpadliiekhkjaa.Ch
/-
  The program's Append. Condition: the arena and the plain one are related ahead, the chain's bytes lie in its blocks.
-/
namespace Go.Proofs.Ytbpadliiekhkjaa.Ch
open Go.RowKit Go.Proofs.Ytbpadliiekhkjaa.Fd Go.Proofs.Ytbpadliiekhkjaa.Sl
set_option maxRecDepth 100000
set_option linter.unusedVariables false
set_option linter.unusedSimpArgs false

theorem sizes_least : ∀ (hs : List Hd), (∀ q, q ∈ hs → 0 ≤ q.1 ∧ q.1 ≤ 3) → hs.length * 64 ≤ sizesOf hs
  | [], _ => by simp [sizesOf]
  | h :: r, hc => by
    rw [sizesOf_cons, List.length_cons]
    have h1 := hc h (List.mem_cons_self ..)
    have h2 := sizeC_pos (c := h.1.toNat) (by omega)
    have h3 := sizes_least r (fun x hx => hc x (List.mem_cons_of_mem _ hx))
    omega
theorem InvB.few {A : Ar} {c : Chn} (v : InvB A c) : sizesOf c.hs ≤ 1052672 ∧ c.hs.length ≤ 16448 ∧ c.bytes.length ≤ 1048576 := by
  have hb : c.bytes.length ≤ 1048576 := v.big
  have hl := sizes_least c.hs (fun q hq => by obtain ⟨b, h1, _⟩ := v.mem q hq; exact right_lt h1)
  have hs : sizesOf c.hs ≤ 1052672 := by
    by_cases hne : c.hs = []
    · rw [hne]; simp [sizesOf]
    · have h1 := v.tail hne
      obtain ⟨b, h2, _⟩ := v.mem _ (lastH_mem hne)
      have h3 := right_lt h2
      have h4 := sizeC_le (c := (lastH c.hs).1.toNat) (by omega)
      omega
  exact ⟨hs, by omega, hb⟩
theorem Ck.arena {T : TypeId → Bool} {O R R' : Nat → Prop} {a b c : World} (h : Ck (fun k => (O k ∧ IsT T a k) ∨ R k) a b) (k : Ck (fun k => (O k ∧ IsT T b k) ∨ R' k) b c) (hs : ∀ i, i < a.heap.size → R' i → R i) : Ck (fun k => (O k ∧ IsT T a k) ∨ R k) a c :=
  ⟨k.os.trans h.os, k.tape.trans h.tape, k.output.trans h.output, Nat.le_trans h.size k.size, fun i hi hn => by
    have e := h.block i hi hn
    refine (k.block i (Nat.lt_of_lt_of_le hi h.size) (fun q => ?_)).trans e
    rcases q with ⟨q1, cs, t, fr, h1, h2⟩ | q
    · exact hn (.inl ⟨q1, cs, t, fr, by rw [← e]; exact h1, h2⟩)
    · exact hn (.inr (hs i hi q))⟩
theorem ck_type {T : TypeId → Bool} {O R : Nat → Prop} {W V : World} (hc : Ck (fun k => (O k ∧ IsT T W k) ∨ R k) W V) {k : Nat} {cs : Array Value} {t : TypeId} {fr : Nat × Nat} (e : W.heap[k]? = some (.cells cs t fr)) (h1 : T t = false) (h2 : ¬ R k) : V.heap[k]? = some (.cells cs t fr) := by
  refine hc.old ?_ e
  rintro (⟨_, cs2, t2, fr2, h3, h4⟩ | q)
  · rw [e] at h3
    injection h3 with h3
    injection h3 with _ h3
    subst h3
    rw [h1] at h4; cases h4
  · exact h2 q
/-- What Append tells and leaves. -/
def AppendP (O : Nat → Prop) (ap cp : Nat) (n : Nat → Nat) (r : Int × Ar × Chn) (G : Nat) (hv : Value) (c : Chn) (w : World) (e : Ending) (w' : World) : Prop :=
  e = .returned (.int .i64 r.1) ∧ So.PRel w' O ap n r.2.1 (G + 1048576) ∧ (∃ hv', PC w' cp ap hv' r.2.2 ∧ (c.freed = false → c.shared = false → ∀ k, hv'.ownBlock = some k → hv.ownBlock = some k ∨ w.heap.size ≤ k) ∧ (c.freed = true ∨ c.shared = true → hv' = hv)) ∧
    Ck (fun k => (O k ∧ IsT TP w k) ∨ (c.freed = false ∧ c.shared = false ∧ (k = cp ∨ hv.ownBlock = some k))) w w'
set_option maxHeartbeats 8000000 in
theorem append_any {O : Nat → Prop} {ap cp : Nat} {n : Nat → Nat} {A : Ar} {G : Nat} {hv : Value} {c : Chn} (bv : Value) (bs : Tk.Bs) (w : World) (h : So.PRel w O ap n A G) (hp : PC w cp ap hv c) (hb : Byo w O bv bs) (hi : c.freed = false → InvB A c) (hnd : c.hs.Nodup)
    (hG : G + 1048577 ≤ 1099511627776) (hO : ∀ k, w.heap.size ≤ k → O k) (hbs : bs.length ≤ 1099511627776) :
    Calls Try.prog 10 #[.pointer (some ⟨cp, 0, none⟩), bv] w (AppendP O ap cp n (appendP A c bs) G hv c w) := by
  obtain ⟨ba, bc, hbv, hbc, _⟩ := hb.form
  subst hbv
  have HU := Lib.hid (usable_any hp)
  cases hf : c.freed with
  | true =>
    have HF := Lib.hid (show AppendP O ap cp n (appendP A c bs) G hv c w (.returned (.int .i64 16)) w from by
      have e : appendP A c bs = (16, A, c) := by unfold appendP; rw [hf]; rfl
      rw [e]
      exact ⟨rfl, h.more (by omega) (by omega), ⟨hv, hp, fun q => absurd hf (by rw [q]; decide), fun _ => rfl⟩, Ck.refl _ _⟩)
    rw [hf] at HU
    clear h hp hb hi hf
    go_enter Try.func10, Try.ntmps10
    go_wp2_with fail
    refine HU.out.mono ?_
    rintro e w1 ⟨rfl, hw⟩
    subst hw
    go_wp2_with fail
    go_ret
    exact HF.out
  | false =>
    obtain ⟨c0, c1, c2, c3, c4, _⟩ := hp.cells hf
    rw [hf] at HU
    cases hs : c.shared with
    | true =>
      have HF := Lib.hid (show AppendP O ap cp n (appendP A c bs) G hv c w (.returned (.int .i64 2)) w from by
        have e : appendP A c bs = (2, A, c) := by unfold appendP; rw [hf, hs]; rfl
        rw [e]
        exact ⟨rfl, h.more (by omega) (by omega), ⟨hv, hp, fun _ q => absurd hs (by rw [q]; decide), fun _ => rfl⟩, Ck.refl _ _⟩)
      rw [hs] at c4
      clear h hp hb hi hf hs c0 c1 c2 c3
      go_enter Try.func10, Try.ntmps10
      go_wp2_with fail
      refine HU.out.mono ?_
      rintro e w1 ⟨rfl, hw⟩
      subst hw
      go_wp2_with fail
      go_ret
      exact HF.out
    | false =>
      have vb := hi hf
      obtain ⟨b1, b2, b3⟩ := vb.few
      rw [hs] at c4
      by_cases hbig : mostN - c.bytes.length < bs.length
      · have HF := Lib.hid (show AppendP O ap cp n (appendP A c bs) G hv c w (.returned (.int .i64 3)) w from by
          have e : appendP A c bs = (3, A, c) := by unfold appendP; rw [hf, hs, if_pos hbig]; rfl
          rw [e]
          exact ⟨rfl, h.more (by omega) (by omega), ⟨hv, hp, fun _ _ k hk => .inl hk, fun _ => rfl⟩, Ck.refl _ _⟩)
        have hbig2 : (1048576 : Int) - (c.bytes.length : Int) < (bs.length : Int) := by unfold mostN at hbig; omega
        obtain ⟨BL, hBL⟩ : ∃ BL, BL = c.bytes.length := ⟨_, rfl⟩
        obtain ⟨N, hN⟩ : ∃ N, N = bs.length := ⟨_, rfl⟩
        rw [← hBL] at c2 hbig2 b3
        rw [← hN] at hbig2 hbs ⊢
        clear h hp hb hi hf hs c0 c1 c3 hbig hBL hN vb
        go_enter Try.func10, Try.ntmps10
        go_wp2_with fail
        refine HU.out.mono ?_
        rintro e w1 ⟨rfl, hw⟩
        subst hw
        go_wp2_with fail
        go_ret
        exact HF.out
      · have hsmall : ¬ ((1048576 : Int) - (c.bytes.length : Int) < (bs.length : Int)) := by unfold mostN at hbig; omega
        obtain ⟨BL, hBL⟩ : ∃ BL, BL = c.bytes.length := ⟨_, rfl⟩
        obtain ⟨CH, hCH⟩ : ∃ CH, CH = sizesOf c.hs := ⟨_, rfl⟩
        obtain ⟨N, hN⟩ : ∃ N, N = bs.length := ⟨_, rfl⟩
        have hfit := vb.fit
        rw [← hBL] at c2 hsmall b3 hfit
        rw [← hCH] at c3 b1 hfit
        rw [← hN] at hsmall hbs hbc hb ⊢
        have HH := Lib.hid h
        have HP := Lib.hid hp
        have HB := Lib.hid hb
        have HVb := Lib.hid vb
        have HN := Lib.hid hN
        have HBL := Lib.hid hBL
        have HCH := Lib.hid hCH
        clear h hp hb hi vb hN hBL hCH c1
        go_enter Try.func10, Try.ntmps10
        go_wp2_with fail
        refine HU.out.mono ?_
        rintro e w1 ⟨rfl, hw⟩
        subst hw
        go_upto_region 8 with fail
        have hs1 : IntKind.i64.wrap ((CH : Int) - (BL : Int)) = (CH : Int) - (BL : Int) := IntWalk.i64_in _ (by omega)
        go_region
        obtain ⟨R, hR⟩ : ∃ R, R = min (CH - BL) N := ⟨_, rfl⟩
        rw [show (if (N : Int) < (CH : Int) - (BL : Int) then (N : Int) else (CH : Int) - (BL : Int)) = (R : Int) from by split <;> omega]
        obtain ⟨n0, hn0⟩ : ∃ n0, n0 = N - R := ⟨_, rfl⟩
        have hsub : IntKind.i64.wrap ((N : Int) - (R : Int)) = (n0 : Int) := by rw [IntWalk.i64_in _ (by omega)]; omega
        have hroom : roomC c = CH - BL := by unfold roomC; rw [← HBL.out, ← HCH.out]
        have hRN : R ≤ N := by omega
        have hRr : R ≤ roomC c := by omega
        have htk : bs.take R = bs.take (roomC c) := by
          by_cases hle : CH - BL ≤ N
          · rw [hroom, show R = CH - BL from by omega]
          · rw [List.take_of_length_le (by rw [← HN.out]; omega), List.take_of_length_le (by rw [← HN.out]; omega)]
        have hdr : bs.drop R = bs.drop (roomC c) := by
          by_cases hle : CH - BL ≤ N
          · rw [hroom, show R = CH - BL from by omega]
          · rw [List.drop_of_length_le (by rw [← HN.out]; omega), List.drop_of_length_le (by rw [← HN.out]; omega)]
        have hta : takeAll (bs.length + 1) A (bs.length - roomC c) = takeAll (n0 + 1) A n0 := by
          rw [← HN.out, show N - roomC c = n0 from by omega]
          exact takeAll_more _ _ _ _ (by omega) (by omega)
        have hap : appendP A c bs = if (takeAll (n0 + 1) A n0).2.2 then (0, layA (fillA (takeAll (n0 + 1) A n0).2.1 c (bs.take R)) (takeAll (n0 + 1) A n0).1 (bs.drop R), { c with hs := c.hs ++ (takeAll (n0 + 1) A n0).1, bytes := c.bytes ++ bs }) else (14, dropAll (takeAll (n0 + 1) A n0).2.1 (takeAll (n0 + 1) A n0).1, c) := by
          unfold appendP
          rw [hf, hs, if_neg hbig, hta, htk, hdr]
          rfl
        have hB0 : Below w.heap.size w w.drew := (Below.refl _ _).drew
        have HAp := Lib.hid hap
        have HTk := Lib.hid (take_any (A := A) (G := G) cp n0 w.drew (HH.out.same hB0) (HP.out.ob.next hB0) (by omega) (by omega) hO)
        have HP0 := Lib.hid (HP.out.same hB0)
        have HBy0 := Lib.hid (HB.out.next hB0)
        have HC0 := Lib.hid (show Ck (fun k => (O k ∧ IsT TP w k) ∨ (c.freed = false ∧ c.shared = false ∧ (k = cp ∨ hv.ownBlock = some k))) w w.drew from Ck.of_below hB0)
        have HRl := Lib.hid (show (bs.take R).length = R from by rw [List.length_take, ← HN.out]; omega)
        have hnew := fun q hq => takeAll_new (n0 + 1) A n0 q hq
        have hkept := fun {q : Hd} {x : Blk} (hr : rightA A q = some x) => takeAll_kept (n0 + 1) A n0 hr
        have hen := takeAll_enough (n0 + 1) A n0
        have hlen := takeAll_len (n0 + 1) A n0
        have HRm := Lib.hid (show ∀ q, q ∈ c.hs → ∃ b, rightA (takeAll (n0 + 1) A n0).2.1 q = some b from fun q hq => by
          obtain ⟨b, h1, _⟩ := HVb.out.mem q hq
          exact ⟨b, hkept h1⟩)
        have HTc := Lib.hid (show ∀ q, q ∈ (takeAll (n0 + 1) A n0).1 → 0 ≤ q.1 ∧ q.1 ≤ 3 from fun q hq => by
          obtain ⟨_, d, i, g, hd, rfl, _⟩ := hnew q hq
          exact ⟨by show (0 : Int) ≤ (d : Int); omega, by show (d : Int) ≤ 3; omega⟩)
        have HN0 := Lib.hid hn0
        have hRb : R ≤ 1052672 := by omega
        have hn0b : n0 ≤ 1048576 := by omega
        clear c0 c2 c3 c4 hsmall hap hta hnew hkept HU htk hdr hbig hn0 hR hroom
        obtain ⟨w0, hw0⟩ : ∃ w0, w0 = w.drew := ⟨_, rfl⟩
        rw [← hw0] at HTk HP0 HBy0 HC0 ⊢
        have hsz0 : w.heap.size = w0.heap.size := by rw [hw0]; rfl
        clear hw0 hB0
        unfold TakeP at HTk
        generalize takeAll (n0 + 1) A n0 = r at *
        obtain ⟨T, A1, ok⟩ := r
        simp only at HAp HTc HRm hen hlen
        go_wp2_with fail
        refine HTk.out.mono ?_
        rintro e w2 ⟨ht2, h2⟩
        (try simp only at h2)
        have HP2 := Lib.hid (HP0.out.so ht2 rfl rfl)
        have HBy2 := Lib.hid (HBy0.out.so ht2)
        have HC2 := Lib.hid (HC0.out.call (R := fun k => c.freed = false ∧ c.shared = false ∧ (k = cp ∨ hv.ownBlock = some k)) ht2)
        have hsz2 := ht2.size
        clear ht2
        rcases h2 with ⟨rfl, tv, rfl, hot, hr2⟩ | ⟨rfl, rfl, hr2⟩
        · have HF := Lib.hid (fill_any (.slice ba R bc) (bs.take R) w2 hr2 HP2.out hf (HBy2.out.take R (by rw [← HN.out]; exact hRN)) (by rw [HRl.out]; exact hRr) HRm.out HVb.out.tail (by omega) (by rw [← HBL.out]; exact b3) (by rw [HRl.out]; omega))
          have hsl1 := fun W => run_slice_first W ba N bc R (by omega)
          have hsl2 := fun W => run_slice_drop W ba N bc R hRN
          have HOt := Lib.hid hot
          obtain ⟨tva, tvc, htv⟩ := hot.form
          subst htv
          clear hot hr2 HTk
          go_wp2_with fail
          refine HF.out.mono ?_
          rintro e w3 ⟨rfl, hr3, hp3, hc3⟩
          have hsz3 := hc3.size
          have hot3 : OwnH w3 0 (.slice tva T.length tvc) T := by
            refine ⟨HOt.out.1, ?_⟩
            rcases HOt.out.2 with ⟨h1, h2⟩ | ⟨g, cap, cur, h1, h2, h3, h4⟩
            · exact .inl ⟨h1, h2⟩
            · exact .inr ⟨g, cap, cur, h1, Nat.zero_le _, ck_type hc3 h3 rfl (fun q => by
                rw [q] at h3
                have h5 := HP2.out.obj
                rw [h3] at h5
                injection h5 with h5
                injection h5 with _ h5
                cases h5), h4⟩
          have hapt : ∀ k, hv.ownBlock = some k → (Value.slice tva T.length tvc).ownBlock ≠ some k := fun k hk q => by
            have h1 := (World.ownsRow.lt HP.out.own k hk).2
            have h2 := (HOt.out.row k q).2
            omega
          have hby3 : Byo w3 O (.slice ba N bc) bs := HBy2.out.ck hc3 (fun g _ hn ht => by
            rintro (⟨q, _⟩ | rfl)
            · exact hn q
            · obtain ⟨cs, fr, h1⟩ := ht
              have h5 := HP2.out.obj
              rw [h1] at h5
              injection h5 with h5
              injection h5 with _ h5
              cases h5)
          have HL := Lib.hid (lay_any (.slice tva T.length tvc) T (.slice (offA ba bc R) (N - R) (bc - R)) (bs.drop R) w3 hr3 hp3 hf hot3 hapt (hby3.drop R (by rw [← HN.out]; exact hRN)) HTc.out (by rw [List.length_drop, ← HN.out, ← HN0.out]; exact hen (by trivial)) (by omega) (by show c.hs.length ≤ _; omega) (by show (c.bytes ++ bs.take R).length ≤ _; rw [List.length_append, HRl.out, ← HBL.out]; omega) (by rw [List.length_drop, ← HN.out]; omega) (by show sizesOf c.hs ≤ _; rw [← HCH.out]; omega))
          have HC3 := Lib.hid (HC2.out.arena hc3 (fun i hi q => by exact ⟨hf, hs, .inl q⟩))
          clear hr3 hp3 hc3 hot3 hapt hby3 HF
          go_wp2_with fail
          refine HL.out.mono ?_
          rintro e w4 ⟨rfl, hr4, ⟨hv', hp4, hn4⟩, hc4⟩
          have HE := Lib.hid (show AppendP O ap cp n (appendP A c bs) G hv c w (.returned (.int .i64 0)) w4 from by
            rw [HAp.out]
            refine ⟨rfl, hr4.more (by omega) (by omega), ⟨hv', ?_, fun _ _ k hk => ?_, fun q => ?_⟩, HC3.out.arena hc4 (fun i hi q => ⟨hf, hs, q⟩)⟩
            · have e : ({ c with hs := c.hs ++ T, bytes := (c.bytes ++ bs.take R) ++ bs.drop R } : Chn) = { c with hs := c.hs ++ T, bytes := c.bytes ++ bs } := by rw [List.append_assoc, List.take_append_drop]
              show PC w4 cp ap hv' { c with hs := c.hs ++ T, bytes := c.bytes ++ bs }
              rw [← e]
              exact hp4
            · rcases hn4 k hk with q | q
              · exact .inl q
              · exact .inr (by omega)
            · rcases q with q | q
              · rw [hf] at q; cases q
              · rw [hs] at q; cases q)
          clear hr4 hp4 hn4 hc4 HL
          go_wp2_with fail
          go_ret
          exact HE.out
        · have HE := Lib.hid (show AppendP O ap cp n (appendP A c bs) G hv c w (.returned (.int .i64 14)) w2 from by
            rw [HAp.out]
            exact ⟨rfl, hr2.more (by omega) (by omega), ⟨hv, HP2.out, fun _ _ k hk => .inl hk, fun _ => rfl⟩, HC2.out⟩)
          clear hr2
          go_wp2_with fail
          go_ret
          exact HE.out
end Go.Proofs.Ytbpadliiekhkjaa.Ch
