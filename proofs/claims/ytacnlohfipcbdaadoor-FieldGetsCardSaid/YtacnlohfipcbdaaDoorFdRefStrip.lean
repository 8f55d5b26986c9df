/-
  gatepostref04.Strip: what it returns. Conditions: fields of at most 2^18 bytes in all.
-/
import Derived.Test.YtacnlohfipcbdaaDoorFdStrip
import Derived.Test.YtacnlohfipcbdaaDoorFdRefDel
namespace Go.Proofs.YtacnlohfipcbdaaDoor.Fd
open Go.RowKit Tk
set_option linter.unusedVariables false

def rowL : Array Value := #[.string ⟨#[99, 111, 110, 110, 101, 99, 116, 105, 111, 110]⟩, .string ⟨#[107, 101, 101, 112, 45, 97, 108, 105, 118, 101]⟩, .string ⟨#[112, 114, 111, 120, 121, 45, 99, 111, 110, 110, 101, 99, 116, 105, 111, 110]⟩, .string ⟨#[116, 101]⟩, .string ⟨#[116, 114, 97, 105, 108, 101, 114]⟩, .string ⟨#[116, 114, 97, 110, 115, 102, 101, 114, 45, 101, 110, 99, 111, 100, 105, 110, 103]⟩, .string ⟨#[117, 112, 103, 114, 97, 100, 101]⟩]
theorem rowL_eq : rowL.toList = sevenL.map TS := by kernel_rfl
/-- The names that go, as the reference lists them. -/
def goneR (fs : List Fl) : List Bs := sevenL ++ listed fs
/-- The list behind k rounds: what came in, or a list of the call's own. -/
def StepL (w : World) (base : Nat) (v o : Value) (fs : List Fl) (ns : List Bs) (k : Nat) : Prop := (k = 0 ∧ o = v) ∨ (0 < k ∧ OwnF w base o (delAll fs (ns.take k)))

theorem flat_one (fs : List Fl) : ∀ u ∈ flat fs, u.oneCell' = true := by
  intro u hu
  unfold flat at hu
  rw [List.mem_flatMap] at hu
  obtain ⟨f, _, hf⟩ := hu
  exact one_cells f.1 f.2 u hf

set_option maxHeartbeats 8000000 in
theorem refStrip_any (v : Value) (fs : List Fl) (w : World) (hf : Flds w v fs) (ht : tot fs ≤ 262144) :
    Calls Tryd.prog 24 #[v] w (KeepPost (stripF fs) w) := by
  have HF := Lib.hid hf
  have hll := listed_length fs
  have HLP := Lib.hid (listed_piece fs)
  have HSR := Lib.hid (strip_ref fs)
  obtain ⟨i0, hi, hz0, hz1, hz2⟩ := info_parts infoText
  clear hf
  go_enter Tryd.func24, Tryd.ntmps24
  go_wp2_with fail
  refine (refNames_any v fs ⟨#[99, 111, 110, 110, 101, 99, 116, 105, 111, 110]⟩ _ HF.out (by omega) (by decide)).mono ?_
  rintro e x1 ⟨hB1, h1⟩
  have hN : ∃ u b, e = .returned (.tuple #[u, .bool b]) ∧ x1.ownsRow w.heap.size 9 1 u (listed fs).length ((listed fs).map TS) := by
    rcases h1 with ⟨h, he⟩ | ⟨ls, u, h, he, ho⟩
    · rw [listed_none (by rw [getT_congr conn_low]; exact h)]; exact ⟨_, _, he, World.ownsRow_nil _ _ _ _⟩
    · rw [listed_some (by rw [getT_congr conn_low]; exact h)]; exact ⟨_, _, he, ho⟩
  obtain ⟨u, b, rfl, hO⟩ := hN
  have hsz := hB1.size
  have HRW := Lib.hid (show (x1.alloc (.cells rowL 9)).ownsRow w.heap.size 9 1 (.slice (some ⟨x1.heap.size, 0, none⟩) 7 7) 7 rowL.toList from World.ownsRow_lit (base := w.heap.size) (e := 9) (size := 1) x1 rowL 7 hsz (by unfold maxLen; omega) rfl)
  have HU := Lib.hid (owns_kept hO ((Below.refl _ _).alloc (Nat.le_refl _) (.cells rowL 9)))
  have hB2 := hB1.alloc hsz (.cells rowL 9)
  clear h1 hO
  rcases HU.out.2 with ⟨hu, h0⟩ | ⟨g, cu, cur, hu, hg, hheap, hcap, hcm, hcs, htk⟩
  case' inr =>
    have HN2 := Lib.hid (show ∀ j y, ((listed fs).map TS)[j]? = some y → (x1.alloc (.cells rowL 9)).cell? ((⟨g, 0, none⟩ : Addr).add j) = some y from World.ownsRow.cells HU.out (by rw [hu]; rfl))
    rw [hu]
    clear hu hg hheap hcap hcm hcs htk HU
    go_wp2_with (at_builtin; refine wpList_append_own _ rfl _ _ 37 rfl w.heap.size 9 i0 (.string ⟨#[]⟩) 1 16 Tryd.underlying37 hi hz0 hz1 hz2 rfl (by decide) _ _ _ rfl HRW.out ⟨g, 0, none⟩ (listed fs).length cu ((listed fs).map TS) rfl (by simp) HN2.out (fun y hy => by obtain ⟨z, _, rfl⟩ := List.mem_map.1 hy; rfl) (by unfold maxLen; omega) (by omega) hB2.size ?_; intro v' X hown' hgrow hnil)
    have hBX := hB2.grown hgrow hB2.size (fun q hq => (World.ownsRow.lt HRW.out q hq).1)
    obtain ⟨n, hn⟩ : ∃ n, n = 7 + (listed fs).length := ⟨_, rfl⟩
    rw [← hn, rowL_eq, ← List.map_append] at hown'
    obtain ⟨G, cap, hv⟩ := owns_shape hown' (by omega)
    rw [hv] at hown'
    rw [hv]
    have HG := Lib.hid hown'
    have HNN := Lib.hid (show n = (goneR fs).length from by rw [hn]; show 7 + _ = (sevenL ++ listed fs).length; rw [List.length_append]; rfl)
    have hnb : n ≤ 600000 := by omega
    have hn7 : 7 ≤ n := by omega
    clear hv hown' hgrow hnil hn HRW HN2 hB2
  case' inl =>
    rw [hu]
    have HL0 := Lib.hid (show listed fs = [] from List.length_eq_zero_iff.1 h0)
    clear hu h0 HU
    go_wp2_with (at_builtin; refine wpList_append_own_none _ rfl _ _ 37 rfl w.heap.size 9 i0 1 Tryd.underlying37 hi _ 7 rowL.toList rfl HRW.out rfl ?_)
    obtain ⟨n, hn⟩ : ∃ n : Nat, n = 7 := ⟨_, rfl⟩
    obtain ⟨X, hX⟩ : ∃ X, X = x1.alloc (.cells #[.string ⟨#[99, 111, 110, 110, 101, 99, 116, 105, 111, 110]⟩, .string ⟨#[107, 101, 101, 112, 45, 97, 108, 105, 118, 101]⟩, .string ⟨#[112, 114, 111, 120, 121, 45, 99, 111, 110, 110, 101, 99, 116, 105, 111, 110]⟩, .string ⟨#[116, 101]⟩, .string ⟨#[116, 114, 97, 105, 108, 101, 114]⟩, .string ⟨#[116, 114, 97, 110, 115, 102, 101, 114, 45, 101, 110, 99, 111, 100, 105, 110, 103]⟩, .string ⟨#[117, 112, 103, 114, 97, 100, 101]⟩] 9) := ⟨_, rfl⟩
    obtain ⟨G, hG⟩ : ∃ G, G = x1.heap.size := ⟨_, rfl⟩
    obtain ⟨cap, hcap⟩ : ∃ c : Nat, c = 7 := ⟨_, rfl⟩
    have HG := Lib.hid (show X.ownsRow w.heap.size 9 1 (.slice (some ⟨G, 0, none⟩) n cap) n ((goneR fs).map TS) from by
      rw [hX, hG, hcap, hn]; unfold goneR; rw [HL0.out, List.append_nil, ← rowL_eq]; exact HRW.out)
    have HNN := Lib.hid (show n = (goneR fs).length from by rw [hn]; unfold goneR; rw [HL0.out]; rfl)
    have hnb : n ≤ 600000 := by omega
    have hn7 : 7 ≤ n := by omega
    have hBX : Below w.heap.size w X := by rw [hX]; exact hB2
    rw [show Value.slice (some ⟨x1.heap.size, 0, none⟩) 7 7 = Value.slice (some ⟨G, 0, none⟩) n cap from by rw [hn, hG, hcap]]
    clear hcap hG hn HRW hB2 HL0
    rw [← hX]
    clear hX
  all_goals
    have hln : (listed fs).length ≤ 524289 := by omega
    clear hB1 hsz hll
    go_wp2_with fail
    go_loopw [6, 7] (fun o i wr => ∃ k : Nat, k ≤ n ∧ i = .int .i64 (k : Int) ∧ StepL wr X.heap.size v o fs (goneR fs) k ∧ Below X.heap.size X wr) (fun _ i _ => n - (intOf i).toNat)
    case atStart => exact ⟨0, Nat.zero_le _, rfl, .inl ⟨rfl, rfl⟩, Below.refl _ _⟩
    case round =>
      obtain ⟨k, hk, rfl, hS, hB⟩ := hrel
      have HS := Lib.hid hS
      have hszX := hB.size
      have hBW := Bl.next hBX hB
      clear hS
      by_cases hlt2 : k < n
      · have hlt3 : k < (goneR fs).length := by rw [← HNN.out]; exact hlt2
        have c1 : wr.cell? ⟨G, k, none⟩ = some (.string ⟨(goneR fs)[k].toArray⟩) := row_at (owns_kept HG.out hB) k hlt2 (List.getElem?_eq_getElem hlt3)
        have hz : (goneR fs)[k].length ≤ 524288 := by
          have hm := List.getElem_mem hlt3
          unfold goneR at hm
          rw [List.mem_append] at hm
          rcases hm with hm | hm
          · have h7 : ∀ y ∈ sevenL, y.length ≤ 17 := by decide
            have := h7 _ hm; unfold goneR; omega
          · have := HLP.out _ hm; unfold goneR; omega
        obtain ⟨x, hx⟩ : ∃ x : ByteArray, x = ⟨(goneR fs)[k].toArray⟩ := ⟨_, rfl⟩
        have hxs : x.size ≤ maxLen := by rw [hx]; show (goneR fs)[k].toArray.size ≤ _; rw [List.size_toArray]; unfold maxLen; omega
        have HD := Lib.hid (show del (delAll fs ((goneR fs).take k)) x.data.toList = delAll fs ((goneR fs).take (k + 1)) from by rw [delAll_next fs _ k hlt3, hx])
        have HFL := Lib.hid (show Flds wr u6 (delAll fs ((goneR fs).take k)) from by
          rcases HS.out with ⟨h0, h1⟩ | ⟨_, h1⟩
          · rw [h0, h1]; exact HF.out.below hBW (Nat.le_refl _)
          · exact h1.flds)
        have htk := tot_delAll ((goneR fs).take k) fs
        rw [← hx] at c1
        clear hx hz HS
        go_wp2_with fail
        refine (refDel_any u6 _ x _ HFL.out (by omega) hxs).mono ?_
        rintro e w5 ⟨r, rfl, hO5, hb5⟩
        rw [HD.out] at hO5
        have HO5 := Lib.hid (owns_mono hO5 hszX)
        have hB5 := Bl.next hB hb5
        clear hO5 hb5 c1
        go_wp2_with fail
        go_roundw
        case rel => exact ⟨k + 1, by omega, by go_num, .inr ⟨by omega, HO5.out⟩, hB5⟩
        case measure => simp [intOf]; omega
      · have HO := Lib.hid (show OwnF wr X.heap.size u6 (stripF fs) from by
          rcases HS.out with ⟨h0, _⟩ | ⟨_, h1⟩
          · omega
          · rw [List.take_of_length_le (by rw [← HNN.out]; omega)] at h1
            rw [← HSR.out]; exact h1)
        have hst : (stripF fs).length ≤ 262144 := by have := tot_len (stripF fs); have := tot_strip fs; omega
        have HNIL := Lib.hid (World.ownsRow_nil wr w.heap.size 23 2)
        obtain ⟨j0, ki, kz0, kz1, kz2⟩ := info_parts infoField
        clear HS
        rcases HO.out.2 with ⟨ho, h0⟩ | ⟨g3, c3, cur3, ho, hg3, hheap3, _⟩
        · have HE := Lib.hid (show stripF fs = [] from List.length_eq_zero_iff.1 h0)
          rw [ho]
          clear ho h0 HO
          go_wp2_with (at_builtin; refine wpList_append_own_none _ rfl _ _ 25 rfl w.heap.size 23 j0 2 Tryd.underlying25 ki _ 0 [] rfl HNIL.out rfl ?_)
          go_ret
          exact ⟨_, rfl, by rw [HE.out]; exact OwnF.nil _ _, hBW⟩
        · have HN3 := Lib.hid (show ∀ j y, (flat (stripF fs))[j]? = some y → wr.cell? ((⟨g3, 0, none⟩ : Addr).add j) = some y from World.ownsRow.cells HO.out (by rw [ho]; rfl))
          rw [ho]
          clear ho hg3 hheap3 HO
          go_wp2_with (at_builtin; refine wpList_append_own _ rfl _ _ 25 rfl w.heap.size 23 j0 (.agg #[.string ⟨#[]⟩, .string ⟨#[]⟩]) 2 32 Tryd.underlying25 ki kz0 kz1 kz2 rfl (by decide) _ _ _ rfl HNIL.out ⟨g3, 0, none⟩ (stripF fs).length c3 (flat (stripF fs)) rfl (flat_length _) HN3.out (fun y hy => flat_one _ y hy) (by unfold maxLen; omega) (by omega) hBW.size ?_; intro v' w6 hown' hgrow hnil)
          have hB6 := hBW.grown hgrow hBW.size (fun q hq => by cases hq)
          have HO6 := Lib.hid (show OwnF w6 w.heap.size v' (stripF fs) from by unfold OwnF; rw [Nat.zero_add, List.nil_append] at hown'; exact hown')
          obtain ⟨ra, rc, hr⟩ := HO6.out.form
          rw [hr] at HO6
          rw [hr]
          clear hr hown' hgrow hnil
          go_wp2_with fail
          go_ret
          exact ⟨_, rfl, HO6.out, hB6⟩
end Go.Proofs.YtacnlohfipcbdaaDoor.Fd
