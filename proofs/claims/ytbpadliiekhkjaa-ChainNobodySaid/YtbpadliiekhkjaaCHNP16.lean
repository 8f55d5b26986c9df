/-
  Texts that the laws' proofs stand on, 3 of them in one file; each one's head says what it proves and under which condition.
-/
import Derived.Test.YtbpadliiekhkjaaCHNP14
import Derived.Test.YtbpadliiekhkjaaCHNP15
import Derived.Laws.CopyOwn
import Derived.Laws.AppendOwnNone
import Derived.WalkSpells
import Derived.Lib.LazyBuf
import Derived.Test.YtbpadliiekhkjaaRows
import Derived.Test.YtbpadliiekhkjaaCHNP1
import Derived.WalkKit
import Derived.WalkLawsBesides
import Derived.Outline
import Derived.Lib.Hide
/-
  The program's Write beside the plain arena. Condition: they are related ahead; the bytes lie in a block that is older than the arena.
-/
namespace Go.Proofs.Ytbpadliiekhkjaa.Sl
open Go.RowKit Go.Proofs.Ytbpadliiekhkjaa.Fd
set_option maxRecDepth 100000
set_option linter.unusedVariables false
set_option linter.unusedSimpArgs false

theorem infoByteS : (Try.prog.info? 5).map (·.size) = some 1 := by kernel_rfl
def u8L (m : Tk.Bs) : List Value := m.map fun b => Value.int .u8 (b.toNat : Int)
theorem u8L_length (m : Tk.Bs) : (u8L m).length = m.length := by simp [u8L]
theorem u8V_list (m : Tk.Bs) : (u8V m).toList = u8L m := by simp [u8V, u8L]
theorem lay_cells (m bs : Tk.Bs) (i : Nat) : ((u8V m).toList.take i ++ (u8L bs ++ (u8V m).toList.drop (i + (u8L bs).length))).toArray = u8V (lay m i bs) := by
  rw [u8V_list, u8L_length]
  unfold u8V lay u8L
  simp [List.map_take, List.map_drop]
theorem u8L_one (m : Tk.Bs) : ∀ v ∈ u8L m, v.oneCell' = true := by
  intro v hv; obtain ⟨c, _, rfl⟩ := List.mem_map.1 hv; rfl
theorem write_of {A : Ar} {c i g at' : Int} {bs : Tk.Bs} {b : Blk} (h : rightA A (c, i, g) = some b) : writeA A (c, i, g) at' bs = if fitsI c at' bs.length then (0, putA A (c, i, g) { b with mem := lay b.mem at'.toNat bs }) else (2, A) := by unfold writeA; rw [h]
set_option maxHeartbeats 4000000 in
theorem pwrite_any {base p : Nat} {n : Nat → Nat} {A : Ar} {G : Nat} (c i g at' : Int) (bv : Value) (bs : Tk.Bs) (w : World) (h : PRel w base p n A G) (hbs : BytesL w base bv bs) (hbl : bs.length ≤ 1099511627776) :
    Calls Try.prog 50 #[.pointer (some ⟨p, 0, none⟩), .agg #[.int .i64 c, .int .i64 i, .int .i64 g], .int .i64 at', bv] w (DoneP base p n (writeA A (c, i, g) at' bs) G w) := by
  obtain ⟨ba, bc, rfl⟩ := hbs.form
  obtain ⟨gs, Q, M, hP, hG⟩ := h.it
  have hB1 := (Below.refl w.heap.size w).alloc (Nat.le_refl _) (.cells #[.int .i64 c, .int .i64 i, .int .i64 g] 78)
  have HR := Lib.hid (part_any c i g at' (bs.length : Int) _ (hP.same hB1) hG h.few (by omega))
  have HH := Lib.hid h
  have HP := Lib.hid hP
  have HG := Lib.hid hG
  have HS := Lib.hid hbs
  have hbase : base ≤ w.heap.size := Nat.le_trans hP.apP (Nat.le_of_lt hP.lt)
  clear h hP hG hbs
  go_enter Try.func50, Try.ntmps50
  go_wp2_with fail
  refine HR.out.mono ?_
  rintro e w2 ⟨hb2, h2⟩
  have HB := Lib.hid (Bl.next hB1 hb2)
  clear hb2 hB1 HR
  rcases h2 with ⟨h1, rfl⟩ | ⟨b, h1, hf, rfl⟩ | ⟨c, i, q, an, mn, cap, b, ad, rfl, rfl, rfl, hmn, c4, hb, hh, rfl, h1, hf, hq, hle, hcap, had, rfl⟩
  · have HV := Lib.hid (show writeA A (c, i, g) at' bs = (15, A) from by unfold writeA; rw [h1])
    clear h1
    go_wp2_with ((with_reducible show wpList _ _ _ (⟨some 22, _, _, _, _, _⟩ :: _) _ _); refine wpList_copy_nothing rfl (.tmp 20) (.tmp 21) 36 36 rfl 5 Try.underlying36 infoByteS none ba 0 0 bs.length bc (by rfl) (by rfl) (by simp) ?_)
    go_ret
    exact ⟨by rw [HV.out]; rfl, by rw [HV.out]; exact HH.out.same HB.out, Tn.of_below HB.out⟩
  · have HV := Lib.hid (show writeA A (c, i, g) at' bs = (2, A) from by rw [write_of h1, hf]; rfl)
    clear h1 hf
    go_wp2_with ((with_reducible show wpList _ _ _ (⟨some 22, _, _, _, _, _⟩ :: _) _ _); refine wpList_copy_nothing rfl (.tmp 20) (.tmp 21) 36 36 rfl 5 Try.underlying36 infoByteS none ba 0 0 bs.length bc (by rfl) (by rfl) (by simp) ?_)
    go_ret
    exact ⟨by rw [HV.out]; rfl, by rw [HV.out]; exact HH.out.same HB.out, Tn.of_below HB.out⟩
  · obtain rfl : mn = bs.length := by omega
    have HV := Lib.hid (show writeA A ((c : Int), (i : Int), (b.gen : Int)) an bs = (0, upd A c ((A c).set i { b with mem := lay b.mem an bs })) from by rw [write_of h1, hf]; rfl)
    have hP2 := HP.out.same HB.out
    obtain ⟨hge, _, hmem⟩ := HG.out.busy c i b c4 hb hh
    obtain ⟨hsm1, hsm2⟩ := HG.out.small c i b c4 hb
    obtain ⟨m1, m2⟩ := hP2.mem c i q hq
    rw [hmem] at m1 m2
    have HF := Lib.hid (show ∀ W : World, PAt W base p n gs Q (updM M c i (lay b.mem an bs)) A → PRel W base p n (upd A c ((A c).set i { b with mem := lay b.mem an bs })) G from fun W hW => by
      refine ⟨⟨gs, Q, _, ?_, HG.out.put (fun _ _ _ => rfl) (fun d j hn => updM_other _ _ hn) (Nat.le_refl _) (fun _ => ⟨hge, ⟨q, hq⟩, updM_same _ _ _ _⟩) (fun z => absurd z hh) ⟨hsm1, hsm2⟩⟩, HH.out.few, HH.out.small⟩
      obtain ⟨cur, h3, h4⟩ := hW.row c c4
      refine hW.put c4 h3 ⟨by rw [List.length_set]; exact h4.size, fun j x hx t ht => ?_⟩ (by simp) (fun _ _ => rfl)
      by_cases e : i = j
      · subst e
        rw [List.getElem?_set_self (List.getElem?_eq_some_iff.1 hb).1] at hx
        injection hx with hx
        subst hx
        exact h4.is i b hb t ht
      · rw [List.getElem?_set_ne e] at hx
        exact h4.is j x hx t ht)
    by_cases h0 : bs.length = 0
    · obtain rfl : bs = [] := List.length_eq_zero_iff.1 h0
      have HE := Lib.hid (HF.out w2 (by rw [show lay b.mem an ([] : Tk.Bs) = b.mem from lay_none _ _]; exact hP2.bytes hq m1 m2 (fun _ _ => rfl)))
      clear h1 hf hP2 m1 m2 hmem hge hsm1 hsm2 hcap had
      go_wp2_with ((with_reducible show wpList _ _ _ (⟨some 22, _, _, _, _, _⟩ :: _) _ _); refine wpList_copy_nothing rfl (.tmp 20) (.tmp 21) 36 36 rfl 5 Try.underlying36 infoByteS (some ad) ba 0 cap 0 bc (by rfl) (by rfl) (by simp) ?_)
      go_ret
      exact ⟨by rw [HV.out]; rfl, by rw [HV.out]; exact HE.out, Tn.of_below HB.out⟩
    · obtain rfl := had (by omega)
      obtain ⟨bg, bo, rfl, hbg, hsrc⟩ : ∃ g off, ba = some ⟨g, off, none⟩ ∧ g < base ∧ ∀ j (hj : j < bs.length), w.cell? ⟨g, off + j, none⟩ = some (.int .u8 (bs[j].toNat : Int)) := by
        rcases HS.out with ⟨h, _⟩ | ⟨g, off, cap2, hbv, hgb, hj⟩
        · rw [h] at h0; exact absurd rfl h0
        · injection hbv with e1 e2 e3
          exact ⟨g, off, e1, hgb, hj⟩
      have HSrc := Lib.hid (show ∀ j v, (u8L bs)[j]? = some v → w2.cell? ((⟨bg, bo, none⟩ : Addr).add j) = some v from fun j v hv => by
        obtain ⟨hj, hv⟩ := List.getElem?_eq_some_iff.1 hv
        rw [u8L_length] at hj
        rw [Addr.add_lit, (HB.out.cell (p := ⟨bg, bo + j, none⟩) (by show bg < _; omega)).trans (hsrc j hj), ← hv]
        simp [u8L])
      have HM1 := Lib.hid m1
      have HE := Lib.hid (HF.out _ (hP2.bytes (w' := w2.setRow q (u8V (lay b.mem an bs))) (m := lay b.mem an bs) hq (setRow_heap _ _ _ _ _ _ m1) (by rw [lay_len (by omega)]; exact m2) (fun k hk => setRow_other _ _ _ _ hk)))
      have HT := Lib.hid ((Tn.of_below (T := TP) (base := base) HB.out).trans (Tn.row (hP2.memIs hq).1 (hP2.memIs hq).2 (u8V (lay b.mem an bs))))
      have HCe := Lib.hid (lay_cells b.mem bs an)
      clear h1 hf hP2 m1 hmem hge hsm1 hsm2 hcap had hsrc
      go_wp2_with ((with_reducible show wpList _ _ _ (⟨some 22, _, _, _, _, _⟩ :: _) _ _); refine wpList_copy_own rfl (.tmp 20) (.tmp 21) 36 36 rfl 5 Try.underlying36 infoByteS q an bs.length cap ⟨bg, bo, none⟩ bs.length bc (by rfl) (by rfl) (u8V b.mem) 5 HM1.out (u8L bs) (by rw [u8L_length]; simp) HSrc.out (by rw [u8L_length, u8V_size]; omega) (u8L_one bs) ?_; rw [HCe.out])
      go_ret
      exact ⟨by rw [HV.out]; rfl, by rw [HV.out]; exact HE.out, HT.out⟩
end Go.Proofs.Ytbpadliiekhkjaa.Sl
/-
  The program's Read beside the plain arena. Condition: they are related ahead.
-/
namespace Go.Proofs.Ytbpadliiekhkjaa.Sl
open Go.RowKit Go.Proofs.Ytbpadliiekhkjaa.Fd
set_option maxRecDepth 100000
set_option linter.unusedVariables false
set_option linter.unusedSimpArgs false

def u8l (m : Tk.Bs) : List Value := m.map fun b => Value.int .u8 (b.toNat : Int)
theorem u8l_length (m : Tk.Bs) : (u8l m).length = m.length := by simp [u8l]
theorem u8l_one (m : Tk.Bs) : ∀ v ∈ u8l m, v.oneCell' = true := by
  intro v hv; obtain ⟨c, _, rfl⟩ := List.mem_map.1 hv; rfl
theorem infoB : (Try.prog.info? 5).map (fun i => (i.zero, i.size, i.bytes)) = some (some (.int .u8 0), 1, 1) := by kernel_rfl
/-- A slice of bytes that a call made. -/
def BytesP (w : World) (base : Nat) (v : Value) (m : Tk.Bs) : Prop := w.ownsRow base 5 1 v m.length (u8l m)
theorem BytesP.nil (w : World) (base : Nat) : BytesP w base (.slice none 0 0) [] := World.ownsRow_nil _ _ _ _
theorem BytesP.form {w : World} {base : Nat} {v : Value} {m : Tk.Bs} (h : BytesP w base v m) : ∃ a cap, v = .slice a m.length cap := by
  rcases h.2 with ⟨h1, h2⟩ | ⟨g, cap, cur, h1, _⟩
  · exact ⟨none, 0, by rw [h1, h2]⟩
  · exact ⟨_, _, h1⟩
theorem BytesP.kept {w w' : World} {base : Nat} {v : Value} {m : Tk.Bs} (h : BytesP w base v m) (hb : Below w.heap.size w w') : BytesP w' base v m := by
  refine ⟨h.1, ?_⟩
  rcases h.2 with ⟨h1, h2⟩ | ⟨g, cap, cur, h1, h2, h3, h4⟩
  · exact .inl ⟨h1, h2⟩
  · exact .inr ⟨g, cap, cur, h1, h2, Bl.old hb (block_lt h3) h3, h4⟩
def CloneP (m : Tk.Bs) (w : World) (e : Ending) (w' : World) : Prop := ∃ v, e = .returned v ∧ BytesP w' w.heap.size v m ∧ Below w.heap.size w w'
set_option maxHeartbeats 4000000 in
theorem cloneB_any (ad : Addr) (cap : Nat) (m : Tk.Bs) (w : World) (hc : ∀ j (hj : j < m.length), w.cell? (ad.add j) = some (.int .u8 (m[j].toNat : Int))) (hal : 0 < m.length → ad.block < w.heap.size) (hl : m.length ≤ 1048576) (hcap : m.length ≤ cap) :
    Calls Try.prog 56 #[.slice (some ad) m.length cap] w (CloneP m w) := by
  have hq := fun (w : World) (a : Option Addr) (n c : Nat) => Lib.run_eql_slice_nil (P := Try.prog) w 36 5 a n c 0 0 Try.underlying36
  obtain ⟨i0, hi, hz0, hz1, hz2⟩ := info_parts infoB
  have HW := Lib.hid (show (w.alloc (.cells #[] 5)).ownsRow w.heap.size 5 1 (.slice (some ⟨w.heap.size, 0, none⟩) 0 0) 0 [] from ⟨rfl, .inr ⟨w.heap.size, 0, _, rfl, Nat.le_refl _, new_block w _, Nat.le_refl _, by unfold maxLen; omega, rfl, rfl⟩⟩)
  have hB1 := (Below.refl w.heap.size w).alloc (Nat.le_refl _) (.cells #[] 5)
  have HN := Lib.hid (show ∀ j v, (u8l m)[j]? = some v → (w.alloc (.cells #[] 5)).cell? (ad.add j) = some v from fun j v hv => by
    obtain ⟨hj, hv⟩ := List.getElem?_eq_some_iff.1 hv
    rw [u8l_length] at hj
    have hbl : (ad.add j).block < w.heap.size := by
      have : (ad.add j).block = ad.block := by unfold Addr.add; split <;> rfl
      rw [this]; exact hal (by omega)
    rw [hB1.cell hbl, hc j hj, ← hv]
    simp [u8l])
  clear hc
  go_enter Try.func56, Try.ntmps56
  go_wp2_with (at_builtin; refine wpList_append_own _ rfl _ _ 36 rfl w.heap.size 5 i0 (.int .u8 0) 1 1 Try.underlying36 hi hz0 hz1 hz2 rfl (by decide) _ _ _ rfl HW.out ad m.length cap (u8l m) rfl (by rw [u8l_length]; simp) HN.out (fun y hy => u8l_one _ y hy) (by unfold maxLen; omega) (by omega) hB1.size ?_; intro v' w6 hown' hgrow hnil)
  have HB6 := Lib.hid (hB1.grown hgrow hB1.size (fun k hk => by injection hk with hk; subst hk; exact Nat.le_refl _))
  have HO6 := Lib.hid (show BytesP w6 w.heap.size v' m from by unfold BytesP; rw [Nat.zero_add, List.nil_append] at hown'; exact hown')
  clear hown' hgrow hnil
  go_wp2_with fail
  go_ret
  exact ⟨_, rfl, HO6.out, HB6.out⟩
set_option maxHeartbeats 4000000 in
theorem cloneB_nil (w : World) : Calls Try.prog 56 #[.slice none 0 0] w (CloneP [] w) := by
  have hq := fun (w : World) (a : Option Addr) (n c : Nat) => Lib.run_eql_slice_nil (P := Try.prog) w 36 5 a n c 0 0 Try.underlying36
  go_enter Try.func56, Try.ntmps56
  go_wp2_with fail
  go_ret
  exact ⟨_, rfl, BytesP.nil _ _, Below.refl _ _⟩
def ReadP (r : Tk.Bs × Int) (w : World) (e : Ending) (w' : World) : Prop := ∃ v, e = .returned (.tuple #[v, .int .i64 r.2]) ∧ BytesP w' w.heap.size v r.1 ∧ Below w.heap.size w w'
theorem BytesP.mono {w : World} {base base' : Nat} {v : Value} {m : Tk.Bs} (h : BytesP w base v m) (hb : base' ≤ base) : BytesP w base' v m := by
  refine ⟨h.1, ?_⟩
  rcases h.2 with ⟨h1, h2⟩ | ⟨g, cap, cur, h1, h2, h3, h4⟩
  · exact .inl ⟨h1, h2⟩
  · exact .inr ⟨g, cap, cur, h1, Nat.le_trans hb h2, h3, h4⟩
set_option maxHeartbeats 4000000 in
theorem pread_any {base p : Nat} {n : Nat → Nat} {A : Ar} {G : Nat} (c i g at' m : Int) (w : World) (h : PRel w base p n A G) (hm : m ≤ 9223372036854775807) :
    Calls Try.prog 41 #[.pointer (some ⟨p, 0, none⟩), .agg #[.int .i64 c, .int .i64 i, .int .i64 g], .int .i64 at', .int .i64 m] w (ReadP (readA A (c, i, g) at' m) w) := by
  obtain ⟨gs, Q, M, hP, hG⟩ := h.it
  have hB1 := (Below.refl w.heap.size w).alloc (Nat.le_refl _) (.cells #[.int .i64 c, .int .i64 i, .int .i64 g] 78)
  have HR := Lib.hid (part_any c i g at' m _ (hP.same hB1) hG h.few hm)
  have HP := Lib.hid hP
  have HG := Lib.hid hG
  clear h hP hG
  go_enter Try.func41, Try.ntmps41
  go_wp2_with fail
  refine HR.out.mono ?_
  rintro e w2 ⟨hb2, h2⟩
  have HB := Lib.hid (Bl.next hB1 hb2)
  clear hb2 hB1 HR
  rcases h2 with ⟨h1, rfl⟩ | ⟨b, h1, hf, rfl⟩ | ⟨c, i, q, an, mn, cap, b, ad, rfl, rfl, rfl, rfl, c4, hb, hh, rfl, h1, hf, hq, hle, hcap, had, rfl⟩
  · have HV := Lib.hid (show readA A (c, i, g) at' m = ([], 15) from by unfold readA; rw [h1])
    clear h1
    go_wp2_with fail
    refine (cloneB_nil _).mono ?_
    rintro e w3 ⟨v, rfl, hv, hb3⟩
    have HB3 := Lib.hid (Bl.next HB.out hb3)
    have HBP := Lib.hid (hv.mono HB.out.size)
    clear hb3 hv
    go_wp2_with fail
    go_ret2
    exact ⟨_, by rw [HV.out]; rfl, by rw [HV.out]; exact HBP.out, HB3.out⟩
  · have HV := Lib.hid (show readA A (c, i, g) at' m = ([], 2) from by unfold readA; rw [h1, hf]; rfl)
    clear h1 hf
    go_wp2_with fail
    refine (cloneB_nil _).mono ?_
    rintro e w3 ⟨v, rfl, hv, hb3⟩
    have HB3 := Lib.hid (Bl.next HB.out hb3)
    have HBP := Lib.hid (hv.mono HB.out.size)
    clear hb3 hv
    go_wp2_with fail
    go_ret2
    exact ⟨_, by rw [HV.out]; rfl, by rw [HV.out]; exact HBP.out, HB3.out⟩
  · have HV := Lib.hid (show readA A ((c : Int), (i : Int), (b.gen : Int)) an mn = ((b.mem.drop an).take mn, 0) from by unfold readA; rw [h1, hf]; rfl)
    have hP2 := HP.out.same HB.out
    obtain ⟨hge, _, hmem⟩ := HG.out.busy c i b c4 hb hh
    obtain ⟨m1, m2⟩ := hP2.mem c i q hq
    rw [hmem] at m1 m2
    have hS : sizeC c ≤ 4096 := by
      rcases (by omega : c = 0 ∨ c = 1 ∨ c = 2 ∨ c = 3) with rfl | rfl | rfl | rfl <;> decide
    have hlen : ((b.mem.drop an).take mn).length = mn := by rw [List.length_take, List.length_drop]; omega
    have HC := Lib.hid (cloneB_any ad cap ((b.mem.drop an).take mn) w2 (fun j hj => by
      rw [had (by omega), Addr.add_lit, Lib.cell_of_heap m1]
      unfold u8V
      rw [hlen] at hj
      simp [List.getElem?_map]
      exact ⟨b.mem[an + j], by rw [List.getElem?_eq_getElem (by omega)], by simp⟩) (fun hj => by rw [had (by omega)]; exact block_lt m1) (by omega) (by omega))
    rw [hlen] at HC
    clear h1 hf hP2 m1 m2 hmem hge had hb hh
    generalize (b.mem.drop an).take mn = R at *
    go_wp2_with fail
    refine HC.out.mono ?_
    rintro e w3 ⟨v, rfl, hv, hb3⟩
    have HB3 := Lib.hid (Bl.next HB.out hb3)
    have HBP := Lib.hid (hv.mono HB.out.size)
    clear hb3 hv
    go_wp2_with fail
    go_ret2
    exact ⟨_, by rw [HV.out]; rfl, by rw [HV.out]; exact HBP.out, HB3.out⟩
end Go.Proofs.Ytbpadliiekhkjaa.Sl
/-
  Bytes in memory: what holds of them. No condition.
-/
namespace Go.Proofs.Ytbpadliiekhkjaa.Tk
open Go.RowKit

/-- The cells of block b from off on hold these bytes. -/
def Holds (w : World) (b off : Nat) (l : Bs) : Prop := ∀ j (hj : j < l.length), w.cell? ⟨b, off + j, none⟩ = some (.int .u8 (l[j].toNat : Int))
theorem Holds.part {w : World} {b off : Nat} {l : Bs} (h : Holds w b off l) (k m : Nat) (hm : m ≤ l.length) : Holds w b (off + k) ((l.take m).drop k) := by
  intro j hj
  have hj' := hj
  rw [part_length l k m hm] at hj'
  rw [part_get l k m j hm hj, Nat.add_assoc]
  exact h (k + j) (by omega)
theorem Holds.nil (w : World) (b off : Nat) : Holds w b off [] := fun _ hj => by simp at hj

/-- What '[]byte(s)' lays holds the bytes of s, and below it all is as it was. -/
theorem holds_new (w : World) (s : ByteArray) (cap : Nat) (t : TypeId) (fr : Nat × Nat) : Holds (w.alloc (.cells (bytesRow s cap) t fr)) w.heap.size 0 s.data.toList := by
  intro j hj
  rw [Nat.zero_add, World.cell?_alloc_mark, bytesRow_at s cap j (by simpa using hj)]
  simp
theorem holds_drew {w : World} {b off : Nat} {l : Bs} (h : Holds w b off l) : Holds w.drew b off l := h
/-- 'string(b)' of bytes that lie so. -/
theorem run_back {P : Program} (w : World) (src dst e : TypeId) (b off cap : Nat) (l : Bs) (hs : P.underlying src = some (.slice e)) (he : P.underlying e = some (.int .u8)) (hd : P.underlying dst = some .string)
    (hc : Holds w b off l) : (convert src dst (.slice (some ⟨b, off, none⟩) l.length cap)).run P w = .ok (.string ⟨l.toArray⟩) w :=
  run_convert_bytes_back w src dst e ⟨b, off, none⟩ cap l hs he hd fun j hj => by
    have := hc j hj
    by_cases h0 : j = 0
    · subst h0; simpa [Addr.add] using this
    · simpa [Addr.add, h0] using this
end Go.Proofs.Ytbpadliiekhkjaa.Tk
