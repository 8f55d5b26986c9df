/-
  The program's Write beside the plain arena. Condition: they are related ahead; the bytes lie in a block that is older than the arena.
-/
import Derived.Test.YtheljldoboiekaaSlPPart
import Derived.Test.YtheljldoboiekaaSlWrite
import Derived.Laws.CopyOwn
namespace Go.Proofs.Ytheljldoboiekaa.Sl
open Go.RowKit Go.Proofs.Ytheljldoboiekaa.Fd
set_option maxRecDepth 100000
set_option linter.unusedVariables false
set_option linter.unusedSimpArgs false

theorem infoByteS : (Try.prog.info? 5).map (·.size) = some 1 := by kernel_rfl
def u8L (m : Tk.Bs) : List Value := m.map fun b => Value.int .u8 (b.toNat : Int)
theorem u8L_length (m : Tk.Bs) : (u8L m).length = m.length := by simp [u8L]
theorem u8V_list (m : Tk.Bs) : (u8V m).toList = u8L m := by simp [u8V, u8L]
theorem lay_cells (m bs : Tk.Bs) (i : Nat) : ((u8V m).toList.take i ++ (u8L bs ++ (u8V m).toList.drop (i + (u8L bs).length))).toArray = u8V (lay m i bs) := by
  rw [u8V_list, u8L_length]
  unfold u8V lay u8L
  simp [List.map_take, List.map_drop]
theorem u8L_one (m : Tk.Bs) : ∀ v ∈ u8L m, v.oneCell' = true := by
  intro v hv; obtain ⟨c, _, rfl⟩ := List.mem_map.1 hv; rfl
theorem write_of {A : Ar} {c i g at' : Int} {bs : Tk.Bs} {b : Blk} (h : rightA A (c, i, g) = some b) : writeA A (c, i, g) at' bs = if fitsI c at' bs.length then (0, putA A (c, i, g) { b with mem := lay b.mem at'.toNat bs }) else (2, A) := by unfold writeA; rw [h]
set_option maxHeartbeats 4000000 in
theorem pwrite_any {base p : Nat} {n : Nat → Nat} {A : Ar} {G : Nat} (c i g at' : Int) (bv : Value) (bs : Tk.Bs) (w : World) (h : PRel w base p n A G) (hbs : BytesL w base bv bs) (hbl : bs.length ≤ 1099511627776) :
    Calls Try.prog 17 #[.pointer (some ⟨p, 0, none⟩), .agg #[.int .i64 c, .int .i64 i, .int .i64 g], .int .i64 at', bv] w (DoneP base p n (writeA A (c, i, g) at' bs) G w) := by
  obtain ⟨ba, bc, rfl⟩ := hbs.form
  obtain ⟨gs, Q, M, hP, hG⟩ := h.it
  have hB1 := (Below.refl w.heap.size w).alloc (Nat.le_refl _) (.cells #[.int .i64 c, .int .i64 i, .int .i64 g] 34)
  have HR := Lib.hid (part_any c i g at' (bs.length : Int) _ (hP.same hB1) hG h.few (by omega))
  have HH := Lib.hid h
  have HP := Lib.hid hP
  have HG := Lib.hid hG
  have HS := Lib.hid hbs
  have hbase : base ≤ w.heap.size := Nat.le_trans hP.apP (Nat.le_of_lt hP.lt)
  clear h hP hG hbs
  go_enter Try.func17, Try.ntmps17
  go_wp2_with fail
  refine HR.out.mono ?_
  rintro e w2 ⟨hb2, h2⟩
  have HB := Lib.hid (Bl.next hB1 hb2)
  clear hb2 hB1 HR
  rcases h2 with ⟨h1, rfl⟩ | ⟨b, h1, hf, rfl⟩ | ⟨c, i, q, an, mn, cap, b, ad, rfl, rfl, rfl, hmn, c4, hb, hh, rfl, h1, hf, hq, hle, hcap, had, rfl⟩
  · have HV := Lib.hid (show writeA A (c, i, g) at' bs = (15, A) from by unfold writeA; rw [h1])
    clear h1
    go_wp2_with ((with_reducible show wpList _ _ _ (⟨some 22, _, _, _, _, _⟩ :: _) _ _); refine wpList_copy_nothing rfl (.tmp 20) (.tmp 21) 35 35 rfl 5 Try.underlying35 infoByteS none ba 0 0 bs.length bc (by rfl) (by rfl) (by simp) ?_)
    go_ret
    exact ⟨by rw [HV.out]; rfl, by rw [HV.out]; exact HH.out.same HB.out, Tn.of_below HB.out⟩
  · have HV := Lib.hid (show writeA A (c, i, g) at' bs = (2, A) from by rw [write_of h1, hf]; rfl)
    clear h1 hf
    go_wp2_with ((with_reducible show wpList _ _ _ (⟨some 22, _, _, _, _, _⟩ :: _) _ _); refine wpList_copy_nothing rfl (.tmp 20) (.tmp 21) 35 35 rfl 5 Try.underlying35 infoByteS none ba 0 0 bs.length bc (by rfl) (by rfl) (by simp) ?_)
    go_ret
    exact ⟨by rw [HV.out]; rfl, by rw [HV.out]; exact HH.out.same HB.out, Tn.of_below HB.out⟩
  · obtain rfl : mn = bs.length := by omega
    have HV := Lib.hid (show writeA A ((c : Int), (i : Int), (b.gen : Int)) an bs = (0, upd A c ((A c).set i { b with mem := lay b.mem an bs })) from by rw [write_of h1, hf]; rfl)
    have hP2 := HP.out.same HB.out
    obtain ⟨hge, _, hmem⟩ := HG.out.busy c i b c4 hb hh
    obtain ⟨hsm1, hsm2⟩ := HG.out.small c i b c4 hb
    obtain ⟨m1, m2⟩ := hP2.mem c i q hq
    rw [hmem] at m1 m2
    have HF := Lib.hid (show ∀ W : World, PAt W base p n gs Q (updM M c i (lay b.mem an bs)) A → PRel W base p n (upd A c ((A c).set i { b with mem := lay b.mem an bs })) G from fun W hW => by
      refine ⟨⟨gs, Q, _, ?_, HG.out.put (fun _ _ _ => rfl) (fun d j hn => updM_other _ _ hn) (Nat.le_refl _) (fun _ => ⟨hge, ⟨q, hq⟩, updM_same _ _ _ _⟩) (fun z => absurd z hh) ⟨hsm1, hsm2⟩⟩, HH.out.few, HH.out.small⟩
      obtain ⟨cur, h3, h4⟩ := hW.row c c4
      refine hW.put c4 h3 ⟨by rw [List.length_set]; exact h4.size, fun j x hx t ht => ?_⟩ (by simp) (fun _ _ => rfl)
      by_cases e : i = j
      · subst e
        rw [List.getElem?_set_self (List.getElem?_eq_some_iff.1 hb).1] at hx
        injection hx with hx
        subst hx
        exact h4.is i b hb t ht
      · rw [List.getElem?_set_ne e] at hx
        exact h4.is j x hx t ht)
    by_cases h0 : bs.length = 0
    · obtain rfl : bs = [] := List.length_eq_zero_iff.1 h0
      have HE := Lib.hid (HF.out w2 (by rw [show lay b.mem an ([] : Tk.Bs) = b.mem from lay_none _ _]; exact hP2.bytes hq m1 m2 (fun _ _ => rfl)))
      clear h1 hf hP2 m1 m2 hmem hge hsm1 hsm2 hcap had
      go_wp2_with ((with_reducible show wpList _ _ _ (⟨some 22, _, _, _, _, _⟩ :: _) _ _); refine wpList_copy_nothing rfl (.tmp 20) (.tmp 21) 35 35 rfl 5 Try.underlying35 infoByteS (some ad) ba 0 cap 0 bc (by rfl) (by rfl) (by simp) ?_)
      go_ret
      exact ⟨by rw [HV.out]; rfl, by rw [HV.out]; exact HE.out, Tn.of_below HB.out⟩
    · obtain rfl := had (by omega)
      obtain ⟨bg, bo, rfl, hbg, hsrc⟩ : ∃ g off, ba = some ⟨g, off, none⟩ ∧ g < base ∧ ∀ j (hj : j < bs.length), w.cell? ⟨g, off + j, none⟩ = some (.int .u8 (bs[j].toNat : Int)) := by
        rcases HS.out with ⟨h, _⟩ | ⟨g, off, cap2, hbv, hgb, hj⟩
        · rw [h] at h0; exact absurd rfl h0
        · injection hbv with e1 e2 e3
          exact ⟨g, off, e1, hgb, hj⟩
      have HSrc := Lib.hid (show ∀ j v, (u8L bs)[j]? = some v → w2.cell? ((⟨bg, bo, none⟩ : Addr).add j) = some v from fun j v hv => by
        obtain ⟨hj, hv⟩ := List.getElem?_eq_some_iff.1 hv
        rw [u8L_length] at hj
        rw [Addr.add_lit, (HB.out.cell (p := ⟨bg, bo + j, none⟩) (by show bg < _; omega)).trans (hsrc j hj), ← hv]
        simp [u8L])
      have HM1 := Lib.hid m1
      have HE := Lib.hid (HF.out _ (hP2.bytes (w' := w2.setRow q (u8V (lay b.mem an bs))) (m := lay b.mem an bs) hq (setRow_heap _ _ _ _ _ _ m1) (by rw [lay_len (by omega)]; exact m2) (fun k hk => setRow_other _ _ _ _ hk)))
      have HT := Lib.hid ((Tn.of_below (T := TP) (base := base) HB.out).trans (Tn.row (hP2.memIs hq).1 (hP2.memIs hq).2 (u8V (lay b.mem an bs))))
      have HCe := Lib.hid (lay_cells b.mem bs an)
      clear h1 hf hP2 m1 hmem hge hsm1 hsm2 hcap had hsrc
      go_wp2_with ((with_reducible show wpList _ _ _ (⟨some 22, _, _, _, _, _⟩ :: _) _ _); refine wpList_copy_own rfl (.tmp 20) (.tmp 21) 35 35 rfl 5 Try.underlying35 infoByteS q an bs.length cap ⟨bg, bo, none⟩ bs.length bc (by rfl) (by rfl) (u8V b.mem) 5 HM1.out (u8L bs) (by rw [u8L_length]; simp) HSrc.out (by rw [u8L_length, u8V_size]; omega) (u8L_one bs) ?_; rw [HCe.out])
      go_ret
      exact ⟨by rw [HV.out]; rfl, by rw [HV.out]; exact HE.out, HT.out⟩
end Go.Proofs.Ytheljldoboiekaa.Sl
