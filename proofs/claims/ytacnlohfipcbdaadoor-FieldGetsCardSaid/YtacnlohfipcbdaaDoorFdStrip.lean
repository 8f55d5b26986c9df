/-
  field.Strip: what it returns. Conditions: fields of at most 2^20 bytes in all (2^18); the table of token bytes.
-/
import Derived.Test.YtacnlohfipcbdaaDoorFdStripMath
import Derived.Test.YtacnlohfipcbdaaDoorFdNames
import Derived.Test.YtacnlohfipcbdaaDoorFdWithout
import Derived.Test.YtacnlohfipcbdaaDoorFdRefNames
import Derived.Laws.AppendOwnNone
namespace Go.Proofs.YtacnlohfipcbdaaDoor.Fd
open Go.RowKit Tk
set_option linter.unusedVariables false

/-- Seven texts that lie in a block, as the cells of a row. -/
theorem cells_seven {w : World} {g : Nat} {xs : Array Value} {t : TypeId} (h : w.heap[g]? = some (.cells xs t (0, 0))) : ∀ j u, xs.toList[j]? = some u → w.cell? ((⟨g, 0, none⟩ : Addr).add j) = some u := by
  intro j u hu
  rw [Addr.add_lit, Nat.zero_add, Lib.cell_of_heap h]
  simpa using hu
def rowU : Array Value := #[.string ⟨#[67, 111, 110, 110, 101, 99, 116, 105, 111, 110]⟩, .string ⟨#[75, 101, 101, 112, 45, 65, 108, 105, 118, 101]⟩, .string ⟨#[80, 114, 111, 120, 121, 45, 67, 111, 110, 110, 101, 99, 116, 105, 111, 110]⟩, .string ⟨#[84, 69]⟩, .string ⟨#[84, 114, 97, 105, 108, 101, 114]⟩, .string ⟨#[84, 114, 97, 110, 115, 102, 101, 114, 45, 69, 110, 99, 111, 100, 105, 110, 103]⟩, .string ⟨#[85, 112, 103, 114, 97, 100, 101]⟩]
theorem rowU_eq : rowU.toList = sevenU.map TS := by kernel_rfl
theorem rowU_one : ∀ u ∈ rowU.toList, u.oneCell' = true := by rw [rowU_eq]; intro u hu; obtain ⟨x, _, rfl⟩ := List.mem_map.1 hu; rfl
theorem texts_of_row {w : World} {base : Nat} {v : Value} {ls : List Bs} (h : w.ownsRow base 9 1 v ls.length (ls.map TS)) : Texts w v ls := Texts.of_owns h rfl

set_option maxHeartbeats 4000000 in
theorem strip_any (v : Value) (fs : List Fl) (w : World) (hf : Flds w v fs) (ht : tot fs ≤ 262144) (hT : Tab w) :
    Calls Tryd.prog 23 #[v] w (KeepPost (stripF fs) w) := by
  have HF := Lib.hid hf
  have hll := listed_length fs
  have HLP := Lib.hid (listed_piece fs)
  have HSP := Lib.hid (strip_prog fs)
  obtain ⟨i0, hi, hz0, hz1, hz2⟩ := info_parts infoText
  clear hf
  go_enter Tryd.func23, Tryd.ntmps23
  go_wp2_with fail
  refine (names_any v fs ⟨#[67, 111, 110, 110, 101, 99, 116, 105, 111, 110]⟩ _ HF.out (by omega) (by decide) hT).mono ?_
  rintro e x1 ⟨hB1, h1⟩
  have hN : ∃ u b, e = .returned (.tuple #[u, .bool b]) ∧ x1.ownsRow w.heap.size 9 1 u (listed fs).length ((listed fs).map TS) := by
    rcases h1 with ⟨h, he⟩ | ⟨ls, u, h, he, ho⟩
    · rw [listed_none h]; exact ⟨_, _, he, World.ownsRow_nil _ _ _ _⟩
    · rw [listed_some h]; exact ⟨_, _, he, ho⟩
  obtain ⟨u, b, rfl, hO⟩ := hN
  have HR := Lib.hid (cells_seven (new_block x1 (.cells rowU 9)))
  have HO := Lib.hid (owns_kept hO ((Below.refl _ _).alloc (Nat.le_refl _) (.cells rowU 9)))
  have hB2 := hB1.alloc hB1.size (.cells rowU 9)
  have hsz := hB1.size
  clear h1 hO
  go_wp2_with (at_builtin; refine wpList_append_own _ rfl _ _ 37 rfl w.heap.size 9 i0 (.string ⟨#[]⟩) 1 16 Tryd.underlying37 hi hz0 hz1 hz2 rfl (by decide) _ _ _ rfl HO.out ⟨x1.heap.size, 0, none⟩ 7 7 rowU.toList rfl rfl HR.out rowU_one (by unfold maxLen; omega) (by omega) (by simp; omega) ?_; intro v' x2 hown' hgrow hnil)
  have hB3 := hB2.grown hgrow hB2.size (fun q hq => (World.ownsRow.lt HO.out q hq).1)
  have HT2 := Lib.hid (show Texts x2 v' (listed fs ++ sevenU) from texts_of_row (base := w.heap.size) (by
    rw [List.length_append, List.map_append, ← rowU_eq]; exact hown'))
  clear hown' hgrow hnil
  refine (without_any v v' fs (listed fs ++ sevenU) _ (HF.out.below hB3 (Nat.le_refl _)) (by omega) HT2.out (by rw [List.length_append]; show _ + 7 ≤ _; omega) (fun x hx => ?_)).mono ?_
  · rw [List.mem_append] at hx
    rcases hx with hx | hx
    · have := HLP.out x hx; omega
    · have h7 : ∀ y ∈ sevenU, y.length ≤ 17 := by decide
      have := h7 x hx; omega
  rintro e x3 ⟨r, rfl, hO3, hb3⟩
  rw [HSP.out] at hO3
  have HO3 := Lib.hid hO3
  obtain ⟨ra, rc, hr⟩ := hO3.form
  clear hO3
  rw [hr] at HO3
  rw [hr]
  clear hr
  have hB4 := Bl.next hB3 hb3
  go_wp2_with fail
  go_ret
  exact ⟨_, rfl, owns_mono HO3.out hB3.size, hB4⟩
end Go.Proofs.YtacnlohfipcbdaaDoor.Fd
