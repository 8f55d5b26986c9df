/-
  Texts that the law's proof stands on, 4 of them in one file; each one's head says what it proves and under which condition.
-/
import Derived.Shelf.LaysM
import Derived.Shelf.Strconv.Itoa3
import Derived.Shelf.Bytes.SlSmallAll
import Derived.Shelf.Bytes.Small
import Derived.Shelf.Bytes.IndexByte
import Derived.Shelf.Spec.SlicesGrow
import Derived.Test.YtoofdompafkddaaDoorProg
import Derived.Test.YtoofdompafkddaaDoorHeadFieldsP7
import Derived.Test.YtoofdompafkddaaDoorHeadFieldsP6
import Derived.Test.YtoofdompafkddaaDoorRows
import Derived.Test.YtoofdompafkddaaDoorHeadFieldsP4
import Derived.WalkKit
import Derived.WalkLawsBesides
import Derived.Outline
import Derived.Lib.Hide
/-
  The library's contracts of strconv.Itoa, bytes.IndexByte, bytes.TrimSuffix and slices.Grow, at this translation: each one application. No condition but what each states.
-/
namespace Go.Proofs.YtoofdompafkddaaDoor.Ln
open Go.Shelf Go.RowKit
def laysM171_ren : Go.Shelf.Ren := ⟨fun | 171 => 145 | 243 => 157 | 246 => 86 | 283 => 121 | 284 => 122 | 285 => 123 | 286 => 124 | 129 => 141 | 317 => 140 | 318 => 142 | 319 => 143 | 320 => 144 | 337 => 155 | 338 => 156 | n => n, fun | 3 => 3 | 9 => 9 | 2 => 2 | 4 => 4 | 171 => 158 | 0 => 0 | 53 => 159 | 37 => 22 | 5 => 5 | 173 => 162 | 212 => 178 | 51 => 179 | 20 => 20 | 213 => 180 | 46 => 181 | 232 => 198 | 233 => 199 | n => n, fun | 17 => 2 | 18 => 3 | 19 => 4 | n => n⟩
theorem laysM171 : Go.Proofs.LaysM.n171 Tryd.prog laysM171_ren := {
  mixed := by kernel_rfl
  f129 := Tryd.func141.trans (congrArg some (by kernel_rfl))
  f171 := Tryd.func145.trans (congrArg some (by kernel_rfl))
  f243 := Tryd.func157.trans (congrArg some (by kernel_rfl))
  f246 := Tryd.func86.trans (congrArg some (by kernel_rfl))
  f283 := Tryd.func121.trans (congrArg some (by kernel_rfl))
  f284 := Tryd.func122.trans (congrArg some (by kernel_rfl))
  f285 := Tryd.func123.trans (congrArg some (by kernel_rfl))
  f286 := Tryd.func124.trans (congrArg some (by kernel_rfl))
  f317 := Tryd.func140.trans (congrArg some (by kernel_rfl))
  f318 := Tryd.func142.trans (congrArg some (by kernel_rfl))
  f319 := Tryd.func143.trans (congrArg some (by kernel_rfl))
  f320 := Tryd.func144.trans (congrArg some (by kernel_rfl))
  f337 := Tryd.func155.trans (congrArg some (by kernel_rfl))
  f338 := Tryd.func156.trans (congrArg some (by kernel_rfl))
  t0 := Tryd.underlying0
  a0 := Tryd.isAgg0
  z0 := Tryd.sizeOf0
  v0 := Tryd.zeroValue0
  t2 := Tryd.underlying2
  a2 := Tryd.isAgg2
  z2 := Tryd.sizeOf2
  v2 := Tryd.zeroValue2
  t3 := Tryd.underlying3
  a3 := Tryd.isAgg3
  z3 := Tryd.sizeOf3
  v3 := Tryd.zeroValue3
  t4 := Tryd.underlying4
  a4 := Tryd.isAgg4
  z4 := Tryd.sizeOf4
  v4 := Tryd.zeroValue4
  t5 := Tryd.underlying5
  a5 := Tryd.isAgg5
  z5 := Tryd.sizeOf5
  v5 := Tryd.zeroValue5
  t9 := Tryd.underlying9
  a9 := Tryd.isAgg9
  z9 := Tryd.sizeOf9
  v9 := Tryd.zeroValue9
  t20 := Tryd.underlying20
  a20 := Tryd.isAgg20
  z20 := Tryd.sizeOf20
  v20 := Tryd.zeroValue20
  t37 := Tryd.underlying22
  a37 := Tryd.isAgg22
  z37 := Tryd.sizeOf22
  v37 := Tryd.zeroValue22
  t46 := Tryd.underlying181
  a46 := Tryd.isAgg181
  z46 := Tryd.sizeOf181
  v46 := Tryd.zeroValue181
  t51 := Tryd.underlying179
  a51 := Tryd.isAgg179
  z51 := Tryd.sizeOf179
  v51 := Tryd.zeroValue179
  t53 := Tryd.underlying159
  a53 := Tryd.isAgg159
  z53 := Tryd.sizeOf159
  v53 := Tryd.zeroValue159
  t171 := Tryd.underlying158
  a171 := Tryd.isAgg158
  z171 := Tryd.sizeOf158
  v171 := Tryd.zeroValue158
  t173 := Tryd.underlying162
  a173 := Tryd.isAgg162
  z173 := Tryd.sizeOf162
  v173 := Tryd.zeroValue162
  t212 := Tryd.underlying178
  a212 := Tryd.isAgg178
  z212 := Tryd.sizeOf178
  v212 := Tryd.zeroValue178
  t213 := Tryd.underlying180
  a213 := Tryd.isAgg180
  z213 := Tryd.sizeOf180
  t232 := Tryd.underlying198
  a232 := Tryd.isAgg198
  z232 := Tryd.sizeOf198
  v232 := Tryd.zeroValue198
  t233 := Tryd.underlying199
  a233 := Tryd.isAgg199
  z233 := Tryd.sizeOf199
  v233 := Tryd.zeroValue199
  g17 := by kernel_rfl
  g18 := by kernel_rfl
  g19 := by kernel_rfl
  i0 := by kernel_rfl
  i2 := by kernel_rfl
  i3 := by kernel_rfl
  i4 := by kernel_rfl
  i5 := by kernel_rfl
  i9 := by kernel_rfl
  i20 := by kernel_rfl
  i37 := by kernel_rfl
  i46 := by kernel_rfl
  i51 := by kernel_rfl
  i53 := by kernel_rfl
  i171 := by kernel_rfl
  i173 := by kernel_rfl
  i212 := by kernel_rfl
  i232 := by kernel_rfl
  i233 := by kernel_rfl
  m17 := by kernel_rfl
  m18 := by kernel_rfl
  m19 := by kernel_rfl }
open Go.RowKit Go.Sort Go.Lib in
theorem strconv_Itoa (n : Int) (h0 : -9223372036854775808 ≤ n) (h1 : n ≤ 9223372036854775807) (w : World) (htab : Lib.TabIs Tryd.prog w "internal/strconv.uint64pow10" .u64 Lib.pow10Tab) :
    Calls Tryd.prog 145 #[.int .i64 n] w fun e w' => e = .returned (.string ⟨(Lib.itoa n).toArray⟩) ∧ ∃ k os, w' = grow (w.drewN k) os := Any.strconv_Itoa laysM171 n h0 h1 w htab
def lays171_ren : Go.Shelf.Ren := ⟨fun | 171 => 145 | 243 => 157 | 246 => 86 | 283 => 121 | 284 => 122 | 285 => 123 | 286 => 124 | 129 => 141 | 317 => 140 | 318 => 142 | 319 => 143 | 320 => 144 | 337 => 155 | 338 => 156 | n => n, fun | 3 => 3 | 9 => 9 | 2 => 2 | 4 => 4 | 171 => 158 | 0 => 0 | 53 => 159 | 37 => 22 | 5 => 5 | 173 => 162 | 212 => 178 | 51 => 179 | 20 => 20 | 213 => 180 | 46 => 181 | 232 => 198 | 233 => 199 | n => n, fun | 17 => 2 | 18 => 3 | 19 => 4 | n => n⟩
theorem lays171 : Go.Proofs.Lays.n171 Tryd.prog lays171_ren := {
  mixed := by kernel_rfl
  f129 := Tryd.func141.trans (congrArg some (by kernel_rfl))
  f171 := Tryd.func145.trans (congrArg some (by kernel_rfl))
  f243 := Tryd.func157.trans (congrArg some (by kernel_rfl))
  f246 := Tryd.func86.trans (congrArg some (by kernel_rfl))
  f283 := Tryd.func121.trans (congrArg some (by kernel_rfl))
  f284 := Tryd.func122.trans (congrArg some (by kernel_rfl))
  f285 := Tryd.func123.trans (congrArg some (by kernel_rfl))
  f286 := Tryd.func124.trans (congrArg some (by kernel_rfl))
  f317 := Tryd.func140.trans (congrArg some (by kernel_rfl))
  f318 := Tryd.func142.trans (congrArg some (by kernel_rfl))
  f319 := Tryd.func143.trans (congrArg some (by kernel_rfl))
  f320 := Tryd.func144.trans (congrArg some (by kernel_rfl))
  f337 := Tryd.func155.trans (congrArg some (by kernel_rfl))
  f338 := Tryd.func156.trans (congrArg some (by kernel_rfl))
  t0 := Tryd.underlying0
  a0 := Tryd.isAgg0
  z0 := Tryd.sizeOf0
  v0 := Tryd.zeroValue0
  t2 := Tryd.underlying2
  a2 := Tryd.isAgg2
  z2 := Tryd.sizeOf2
  v2 := Tryd.zeroValue2
  t3 := Tryd.underlying3
  a3 := Tryd.isAgg3
  z3 := Tryd.sizeOf3
  v3 := Tryd.zeroValue3
  t4 := Tryd.underlying4
  a4 := Tryd.isAgg4
  z4 := Tryd.sizeOf4
  v4 := Tryd.zeroValue4
  t5 := Tryd.underlying5
  a5 := Tryd.isAgg5
  z5 := Tryd.sizeOf5
  v5 := Tryd.zeroValue5
  t9 := Tryd.underlying9
  a9 := Tryd.isAgg9
  z9 := Tryd.sizeOf9
  v9 := Tryd.zeroValue9
  t20 := Tryd.underlying20
  a20 := Tryd.isAgg20
  z20 := Tryd.sizeOf20
  v20 := Tryd.zeroValue20
  t37 := Tryd.underlying22
  a37 := Tryd.isAgg22
  z37 := Tryd.sizeOf22
  v37 := Tryd.zeroValue22
  t46 := Tryd.underlying181
  a46 := Tryd.isAgg181
  z46 := Tryd.sizeOf181
  v46 := Tryd.zeroValue181
  t51 := Tryd.underlying179
  a51 := Tryd.isAgg179
  z51 := Tryd.sizeOf179
  v51 := Tryd.zeroValue179
  t53 := Tryd.underlying159
  a53 := Tryd.isAgg159
  z53 := Tryd.sizeOf159
  v53 := Tryd.zeroValue159
  t171 := Tryd.underlying158
  a171 := Tryd.isAgg158
  z171 := Tryd.sizeOf158
  v171 := Tryd.zeroValue158
  t173 := Tryd.underlying162
  a173 := Tryd.isAgg162
  z173 := Tryd.sizeOf162
  v173 := Tryd.zeroValue162
  t212 := Tryd.underlying178
  a212 := Tryd.isAgg178
  z212 := Tryd.sizeOf178
  v212 := Tryd.zeroValue178
  t213 := Tryd.underlying180
  a213 := Tryd.isAgg180
  z213 := Tryd.sizeOf180
  t232 := Tryd.underlying198
  a232 := Tryd.isAgg198
  z232 := Tryd.sizeOf198
  v232 := Tryd.zeroValue198
  t233 := Tryd.underlying199
  a233 := Tryd.isAgg199
  z233 := Tryd.sizeOf199
  v233 := Tryd.zeroValue199
  g17 := by kernel_rfl
  g18 := by kernel_rfl
  g19 := by kernel_rfl }
open Go.RowKit Go.Sort Go.Lib in
theorem strconv_Itoa_small (i : Nat) (hi : i < 100) (w : World) :
    Calls Tryd.prog 145 #[.int .i64 i] w fun e w' => e = .returned (.string ⟨(Lib.decDigits i).toArray⟩) ∧ w' = w := Any.strconv_Itoa_small lays171 i hi w
def laysnb140_ren : Go.Shelf.Ren := ⟨fun | 140 => 100 | 117 => 130 | 115 => 149 | n => n, fun | 37 => 22 | 4 => 4 | 3 => 3 | 9 => 9 | 5 => 5 | n => n, fun | n => n⟩
theorem laysnb140 : Go.Proofs.Lays.nb140 Tryd.prog laysnb140_ren := {
  mixed := by kernel_rfl
  f115 := Tryd.func149.trans (congrArg some (by kernel_rfl))
  f117 := Tryd.func130.trans (congrArg some (by kernel_rfl))
  f140 := Tryd.func100.trans (congrArg some (by kernel_rfl))
  t3 := Tryd.underlying3
  a3 := Tryd.isAgg3
  z3 := Tryd.sizeOf3
  v3 := Tryd.zeroValue3
  t4 := Tryd.underlying4
  a4 := Tryd.isAgg4
  z4 := Tryd.sizeOf4
  v4 := Tryd.zeroValue4
  t9 := Tryd.underlying9
  a9 := Tryd.isAgg9
  z9 := Tryd.sizeOf9
  v9 := Tryd.zeroValue9
  t37 := Tryd.underlying22
  a37 := Tryd.isAgg22
  z37 := Tryd.sizeOf22
  v37 := Tryd.zeroValue22
  t5 := Tryd.underlying5
  a5 := Tryd.isAgg5
  z5 := Tryd.sizeOf5
  v5 := Tryd.zeroValue5 }
theorem bytes_TrimSuffix_all (p1 p2 : Option Addr) (n c m d : Nat) (xs ys : List Int) (w : World) (hx : xs.length = n) (hy : ys.length = m) (hnc : n ≤ c) (hbig : n ≤ 9223372036854775807) (h1 : Lib.BytesIn w p1 n xs) (h2 : Lib.BytesIn w p2 m ys) :
    Calls Tryd.prog 100 #[.slice p1 n c, .slice p2 m d] w fun e w' => e = .returned (Lib.trimSuffixV p1 n c xs ys) ∧ w' = w := Any.bytes_TrimSuffix_all laysnb140 p1 p2 n c m d xs ys w hx hy hnc hbig h1 h2
def lays187_ren : Go.Shelf.Ren := ⟨fun | 187 => 69 | 255 => 99 | n => n, fun | 37 => 22 | 5 => 5 | 3 => 3 | n => n, fun | n => n⟩
theorem lays187 : Go.Proofs.Lays.n187 Tryd.prog lays187_ren := {
  mixed := by kernel_rfl
  f187 := Tryd.func69.trans (congrArg some (by kernel_rfl))
  f255 := Tryd.func99.trans (congrArg some (by kernel_rfl))
  t3 := Tryd.underlying3
  a3 := Tryd.isAgg3
  z3 := Tryd.sizeOf3
  v3 := Tryd.zeroValue3
  t5 := Tryd.underlying5
  a5 := Tryd.isAgg5
  z5 := Tryd.sizeOf5
  v5 := Tryd.zeroValue5
  t37 := Tryd.underlying22
  a37 := Tryd.isAgg22
  z37 := Tryd.sizeOf22
  v37 := Tryd.zeroValue22 }
theorem bytes_IndexByte (b o n c : Nat) (xs : List Int) (cv : Int) (w : World) (hx : xs.length = n) (hc : ∀ i, i < n → w.cell? ⟨b, o + i, none⟩ = some (.int .u8 (xs.getD i 0))) :
    Calls Tryd.prog 69 #[.slice (some ⟨b, o, none⟩) n c, .int .u8 cv] w fun e w' => e = .returned (.int .i64 (Lib.indexByte (Lib.bytesOf xs) cv.toNat.toUInt8)) ∧ w' = w := Any.bytes_IndexByte lays187 b o n c xs cv w hx hc
theorem bytes_IndexByte_nil (cv : Int) (w : World) :
    Calls Tryd.prog 69 #[.slice none 0 0, .int .u8 cv] w fun e w' => e = .returned (.int .i64 (-1)) ∧ w' = w := Any.bytes_IndexByte_nil lays187 cv w
def laysGrow_ren : Go.Shelf.Ren := ⟨fun | 4 => 84 | n => n, fun | 22 => 22 | 25 => 5 | 3 => 3 | 4 => 4 | 9 => 9 | 20 => 20 | 0 => 0 | n => n, fun | n => n⟩
theorem laysGrow : Go.Proofs.Lays8.n4 Tryd.prog laysGrow_ren := {
  mixed := by kernel_rfl
  f4 := ⟨Tryd.f84.name, by decide, Tryd.func84.trans (congrArg some (by kernel_rfl))⟩
  t0 := Tryd.underlying0
  a0 := Tryd.isAgg0
  z0 := Tryd.sizeOf0
  v0 := Tryd.zeroValue0
  t3 := Tryd.underlying3
  a3 := Tryd.isAgg3
  z3 := Tryd.sizeOf3
  v3 := Tryd.zeroValue3
  t4 := Tryd.underlying4
  a4 := Tryd.isAgg4
  z4 := Tryd.sizeOf4
  v4 := Tryd.zeroValue4
  t9 := Tryd.underlying9
  a9 := Tryd.isAgg9
  z9 := Tryd.sizeOf9
  v9 := Tryd.zeroValue9
  t20 := Tryd.underlying20
  a20 := Tryd.isAgg20
  z20 := Tryd.sizeOf20
  v20 := Tryd.zeroValue20
  t22 := Tryd.underlying22
  a22 := Tryd.isAgg22
  z22 := Tryd.sizeOf22
  v22 := Tryd.zeroValue22 }
theorem slices_Grow_room (base : Option Addr) (l c n : Nat) (w : World) (hlc : l ≤ c) (hc63 : c ≤ 9223372036854775807) (hn63 : n ≤ 9223372036854775807) (hroom : l + n ≤ c) :
    Calls Tryd.prog 84 #[.slice base l c, .int .i64 n] w fun e w' => e = .returned (.slice base l c) ∧ w' = w := Any8.slices_Grow_room laysGrow base l c n w hlc hc63 hn63 hroom
end Go.Proofs.YtoofdompafkddaaDoor.Ln
/-
  slices.Grow at bytes: what it leaves. Condition: at most 2^40 bytes.
-/
namespace Go.Proofs.YtoofdompafkddaaDoor.Hd
open Go.RowKit Go.Proofs.YtoofdompafkddaaDoor.Tk Go.Proofs.YtoofdompafkddaaDoor.Fd
set_option linter.unusedVariables false

theorem infoByte : (Tryd.prog.info? 5).map (·.size) = some 1 := by kernel_rfl
theorem infoByte3 : (Tryd.prog.info? 5).map (fun i => (i.zero, i.size, i.bytes)) = some (some (.int .u8 0), 1, 1) := by kernel_rfl
/-- A row with room: its block, its cells. -/
structure RowB (w : World) (q C : Nat) (cur : Array Value) (l : Bs) (m : Nat) : Prop where
  blk : w.heap[q]? = some (.cells cur 5 (0, 0))
  size : cur.size = C
  cap : C ≤ maxLen
  room : l.length + m ≤ C
  here : cur.toList.take l.length = bys l
def GrowPost (w : World) (lv : Value) (l : Bs) (m : Nat) (e : Ending) (w' : World) : Prop :=
  ∃ q C cur, e = .returned (.slice (some ⟨q, 0, none⟩) l.length C) ∧ RowB w' q C cur l m ∧ Below w.heap.size w w' ∧ (lv.ownBlock = some q ∨ q = w.heap.size)
theorem grown_size (w : World) (cs : List Value) (l n c : Nat) (t : TypeId) (z : Array Value) (hz : z.size = 1) (hc : cs.length = c) (h : c < l + n) :
    (cs.toArray ++ Builtin.zeroCells z (l + n - c) ++ Builtin.zeroCells z (grownCap w (l + n) c t - (l + n))).size = grownCap w (l + n) c t := by
  have hg := grownCap_ge w (l + n) c t
  simp only [Array.size_append, List.size_toArray, size_zeroCells, hz, hc]
  omega
set_option maxRecDepth 100000 in
theorem grow_any (lv : Value) (l : Bs) (m : Nat) (w : World) (h : OwnB w lv l) (hm : 0 < m) (hb : l.length + m ≤ 1099511627776) :
    Calls Tryd.prog 84 #[lv, .int .i64 (m : Int)] w (GrowPost w lv l m) := by
  obtain ⟨i0, hi, hz0, hz1, hz2⟩ := info_parts infoByte3
  rcases h.2 with ⟨rfl, h0⟩ | ⟨q, C, cur, hv, _, hh, hlc, hcm, hcs, htk⟩
  · have hl : l = [] := List.length_eq_zero_iff.1 h0
    subst hl
    refine (Any8.slices_Grow_grow Ln.laysGrow i0 _ hi hz0 (by rw [hz1]; omega) none 0 0 m [] w (Nat.le_refl _) (by omega) (by rw [hz2]; simp at hb ⊢; omega) (by simp at hb ⊢; omega) (by simp) (fun _ => rfl) (fun a ha => by cases ha)).mono ?_
    rintro e w' ⟨rfl, rfl⟩
    refine ⟨_, _, _, rfl, ⟨new_block' _ _ rfl, grown_size w [] 0 m 0 _ _ rfl rfl (by omega), ?_, ?_, by simp [bys]⟩, (Below.refl _ _).drew.alloc (Nat.le_refl _) _, .inr rfl⟩
    · exact grownCap_le_maxLen w (0 + m) 0 _ (by unfold maxLen; simp at hb; omega)
    · exact grownCap_ge w (0 + m) 0 _
  · subst hv
    by_cases hr : l.length + m ≤ C
    · refine (Ln.slices_Grow_room _ l.length C m w hlc (by unfold maxLen at hcm; omega) (by omega) hr).mono ?_
      rintro e w' ⟨rfl, rfl⟩
      exact ⟨q, C, cur, rfl, ⟨hh, by omega, hcm, hr, by simpa using htk⟩, Below.refl _ _, .inl rfl⟩
    · refine (Any8.slices_Grow_grow Ln.laysGrow i0 _ hi hz0 (by rw [hz1]; omega) (some ⟨q, 0, none⟩) l.length C m cur.toList w hlc (by omega) (by rw [hz2]; omega) (by omega) (by rw [hz1]; simpa using hcs) (fun h => by cases h)
        (fun a ha j v hj => by injection ha with ha; subst ha; exact World.news_of_block hh j v hj)).mono ?_
      rintro e w' ⟨rfl, rfl⟩
      have hcl : cur.toList.length = C := by simpa using hcs
      refine ⟨_, _, _, rfl, ⟨new_block' _ _ rfl, grown_size w cur.toList l.length m C _ _ rfl hcl (by omega), ?_, ?_, ?_⟩, (Below.refl _ _).drew.alloc (Nat.le_refl _) _, .inr rfl⟩
      · exact grownCap_le_maxLen w (l.length + m) C _ (by unfold maxLen; omega)
      · exact grownCap_ge w (l.length + m) C _
      · rw [Array.toList_append, Array.toList_append, List.append_assoc, List.take_append_of_le_length (by simp; omega)]
        simpa using htk

theorem RowB.owns {w : World} {q C : Nat} {cur : Array Value} {l b : Bs} (h : RowB w q C cur l b.length) :
    OwnB (w.setRow q (cur.toList.take l.length ++ (bys b ++ cur.toList.drop (l.length + (bys b).length))).toArray) (.slice (some ⟨q, 0, none⟩) (l ++ b).length C) (l ++ b) := by
  have hr := h.room
  have hs : cur.toList.length = C := by simpa using h.size
  have hlt : l.length ≤ cur.toList.length := by omega
  refine ⟨by rw [bys_length, Nat.mul_one], .inr ⟨q, C, _, rfl, Nat.zero_le _, setRow_heap w q cur _ _ _ h.blk, by simpa using hr, h.cap, ?_, ?_⟩⟩
  · simp only [List.size_toArray, List.length_append, List.length_take, List.length_drop, bys_length]; omega
  · rw [bys_append, ← h.here, List.length_append]
    have e1 : (cur.toList.take l.length).length = l.length := by rw [List.length_take]; omega
    show (cur.toList.take l.length ++ (bys b ++ _)).take _ = _
    rw [← List.append_assoc, Nat.mul_one, List.take_append_of_le_length (by rw [List.length_append, e1, bys_length]; omega), List.take_of_length_le (by rw [List.length_append, e1, bys_length]; omega)]

end Go.Proofs.YtoofdompafkddaaDoor.Hd
/-
  A reader of the program in memory: its block, its line's and its fields' rows; what keeps them. No condition.
-/
namespace Go.Proofs.YtoofdompafkddaaDoor.Hd
open Go.RowKit Go.Proofs.YtoofdompafkddaaDoor.Tk Go.Proofs.YtoofdompafkddaaDoor.Fd
set_option linter.unusedVariables false

def qA (resp : Bool) (q : Parts) : ByteArray := if resp then ⟨#[]⟩ else q.a
def qB (resp : Bool) (q : Parts) : ByteArray := if resp then ⟨#[]⟩ else q.b
def qM (resp : Bool) (q : Parts) : Int := if resp then 0 else q.m
def sM (resp : Bool) (q : Parts) : Int := if resp then q.m else 0
def sC (resp : Bool) (q : Parts) : Int := if resp then q.c else 0
def sA (resp : Bool) (q : Parts) : ByteArray := if resp then q.a else ⟨#[]⟩
/-- A reader's cells. -/
def rc (resp : Bool) (M : Nat) (F lv : Value) (n : Nat) (wh : Bool) (e : Nat) (rq : Bool) (q : Parts) (fv : Value) : Array Value :=
  #[.bool resp, .int .i64 (M : Int), F, lv, .int .i64 (n : Int), .bool wh, .int .i64 (e : Int), .string (qA rq q), .string (qB rq q), .int .i64 (qM rq q), .slice none 0 0,
    .int .i64 (sM rq q), .int .i64 (sC rq q), .string (sA rq q), .slice none 0 0, fv]
/-- What is done with a line that ended. -/
def fnOf (gb : Nat) : Option Parts → Value
  | none => .func (.func 67) #[] #[.pointer (some ⟨gb, 0, none⟩)]
  | some _ => .func (.func 68) #[] #[]
def firstFn (resp : Bool) : Value := .func (.func (if resp then 44 else 43)) #[] #[]
def IsFn (F : Value) : Prop := ∃ fn fi ca, F = .func fn fi ca
theorem fnOf_is (gb : Nat) (p : Option Parts) : IsFn (fnOf gb p) := by cases p <;> exact ⟨_, _, _, rfl⟩

/-- A reader that goes on. -/
structure On (w : World) (O : Nat → Prop) (resp : Bool) (g gb : Nat) (lv fv : Value) (p : Option Parts) (l : Bs) (n : Nat) (fs : List Fl) : Prop where
  blk : w.heap[g]? = some (.cells (rc resp (most p) (fnOf gb p) lv n false 0 resp (p.getD .none) fv) 97 (0, 0))
  box : w.heap[gb]? = some (.cells #[firstFn resp] 91 (0, 0))
  line : OwnB w lv l
  flds : OwnF w 0 fv fs
  og : O g
  ob : O gb
  ol : ∀ k, lv.ownBlock = some k → O k
  of : ∀ k, fv.ownBlock = some k → O k
def Rdr (w : World) (O : Nat → Prop) (resp : Bool) (g : Nat) : St → Prop
  | .on p l n fs => ∃ gb lv fv, On w O resp g gb lv fv p l n fs
  | .done q fs => ∃ M F lv n fv, IsFn F ∧ w.heap[g]? = some (.cells (rc resp M F lv n true 0 resp q fv) 97 (0, 0)) ∧ OwnF w 0 fv fs ∧ O g ∧ ∀ k, fv.ownBlock = some k → O k
  | .bad e => ∃ M F, IsFn F ∧ w.heap[g]? = some (.cells (rc false M F (.slice none 0 0) 0 false e false .none (.slice none 0 0)) 97 (0, 0)) ∧ O g

theorem Rdr.mono {w : World} {O O' : Nat → Prop} {resp : Bool} {g : Nat} {s : St} (h : Rdr w O resp g s) (hO : ∀ k, O k → O' k) : Rdr w O' resp g s := by
  cases s with
  | on p l n fs => obtain ⟨gb, lv, fv, h⟩ := h; exact ⟨gb, lv, fv, h.blk, h.box, h.line, h.flds, hO _ h.og, hO _ h.ob, fun k hk => hO _ (h.ol k hk), fun k hk => hO _ (h.of k hk)⟩
  | done q fs => obtain ⟨M, F, lv, n, fv, hF, hb, hf, hg, ho⟩ := h; exact ⟨M, F, lv, n, fv, hF, hb, hf, hO _ hg, fun k hk => hO _ (ho k hk)⟩
  | bad e => obtain ⟨M, F, hF, hb, hg⟩ := h; exact ⟨M, F, hF, hb, hO _ hg⟩
/-- What turns other blocks alone keeps a reader. -/
theorem Rdr.kept {w w' : World} {O O' : Nat → Prop} {resp : Bool} {g : Nat} {s : St} (h : Rdr w O resp g s) (hc : Chg O' w w') (hd : ∀ k, O k → ¬ O' k) : Rdr w' O resp g s := by
  cases s with
  | on p l n fs =>
    obtain ⟨gb, lv, fv, h⟩ := h
    exact ⟨gb, lv, fv, hc.old (hd _ h.og) h.blk, hc.old (hd _ h.ob) h.box, row_chg h.line hc h.ol hd, row_chg h.flds hc h.of hd, h.og, h.ob, h.ol, h.of⟩
  | done q fs => obtain ⟨M, F, lv, n, fv, hF, hb, hf, hg, ho⟩ := h; exact ⟨M, F, lv, n, fv, hF, hc.old (hd _ hg) hb, row_chg hf hc ho hd, hg, ho⟩
  | bad e => obtain ⟨M, F, hF, hb, hg⟩ := h; exact ⟨M, F, hF, hc.old (hd _ hg) hb, hg⟩
theorem Rdr.below {w w' : World} {O : Nat → Prop} {resp : Bool} {g : Nat} {s : St} (h : Rdr w O resp g s) (hb : Below w.heap.size w w') : Rdr w' O resp g s :=
  h.kept (O' := fun _ => False) (Chg.of_below hb) (fun _ _ hf => hf)
/-- A reader's blocks are there. -/
theorem Rdr.bound {w : World} {O : Nat → Prop} {resp : Bool} {g : Nat} {s : St} (h : Rdr w O resp g s) : Rdr w (fun k => O k ∧ k < w.heap.size) resp g s := by
  cases s with
  | on p l n fs =>
    obtain ⟨gb, lv, fv, h⟩ := h
    exact ⟨gb, lv, fv, h.blk, h.box, h.line, h.flds, ⟨h.og, block_lt h.blk⟩, ⟨h.ob, block_lt h.box⟩, fun k hk => ⟨h.ol k hk, (World.ownsRow.lt h.line k hk).2⟩, fun k hk => ⟨h.of k hk, (World.ownsRow.lt h.flds k hk).2⟩⟩
  | done q fs => obtain ⟨M, F, lv, n, fv, hF, hb, hf, hg, ho⟩ := h; exact ⟨M, F, lv, n, fv, hF, hb, hf, ⟨hg, block_lt hb⟩, fun k hk => ⟨ho k hk, (World.ownsRow.lt hf k hk).2⟩⟩
  | bad e => obtain ⟨M, F, hF, hb, hg⟩ := h; exact ⟨M, F, hF, hb, hg, block_lt hb⟩

/-! A reader's cells. -/
section
variable {w : World} {g : Nat} {resp : Bool} {M : Nat} {F lv : Value} {n : Nat} {wh : Bool} {e : Nat} {rq : Bool} {q : Parts} {fv : Value}
theorem rc0 (h : w.heap[g]? = some (.cells (rc resp M F lv n wh e rq q fv) 97 (0, 0))) : w.cell? ⟨g, 0, none⟩ = some (.bool resp) := by rw [Lib.cell_of_heap h]; rfl
theorem rc1 (h : w.heap[g]? = some (.cells (rc resp M F lv n wh e rq q fv) 97 (0, 0))) : w.cell? ⟨g, 1, none⟩ = some (.int .i64 (M : Int)) := by rw [Lib.cell_of_heap h]; rfl
theorem rc2 (h : w.heap[g]? = some (.cells (rc resp M F lv n wh e rq q fv) 97 (0, 0))) : w.cell? ⟨g, 2, none⟩ = some F := by rw [Lib.cell_of_heap h]; rfl
theorem rc3 (h : w.heap[g]? = some (.cells (rc resp M F lv n wh e rq q fv) 97 (0, 0))) : w.cell? ⟨g, 3, none⟩ = some lv := by rw [Lib.cell_of_heap h]; rfl
theorem rc4 (h : w.heap[g]? = some (.cells (rc resp M F lv n wh e rq q fv) 97 (0, 0))) : w.cell? ⟨g, 4, none⟩ = some (.int .i64 (n : Int)) := by rw [Lib.cell_of_heap h]; rfl
theorem rc5 (h : w.heap[g]? = some (.cells (rc resp M F lv n wh e rq q fv) 97 (0, 0))) : w.cell? ⟨g, 5, none⟩ = some (.bool wh) := by rw [Lib.cell_of_heap h]; rfl
theorem rc6 (h : w.heap[g]? = some (.cells (rc resp M F lv n wh e rq q fv) 97 (0, 0))) : w.cell? ⟨g, 6, none⟩ = some (.int .i64 (e : Int)) := by rw [Lib.cell_of_heap h]; rfl
theorem rc15 (h : w.heap[g]? = some (.cells (rc resp M F lv n wh e rq q fv) 97 (0, 0))) : w.cell? ⟨g, 15, none⟩ = some fv := by rw [Lib.cell_of_heap h]; rfl
theorem rc_put3 (h : w.heap[g]? = some (.cells (rc resp M F lv n wh e rq q fv) 97 (0, 0))) (lv' : Value) : (w.setCell ⟨g, 3, none⟩ lv').heap[g]? = some (.cells (rc resp M F lv' n wh e rq q fv) 97 (0, 0)) := heap_put h 3 lv'
theorem rc_put4 (h : w.heap[g]? = some (.cells (rc resp M F lv n wh e rq q fv) 97 (0, 0))) (m : Nat) : (w.setCell ⟨g, 4, none⟩ (.int .i64 (m : Int))).heap[g]? = some (.cells (rc resp M F lv m wh e rq q fv) 97 (0, 0)) := heap_put h 4 _
theorem rc_put5 (h : w.heap[g]? = some (.cells (rc resp M F lv n wh e rq q fv) 97 (0, 0))) (b : Bool) : (w.setCell ⟨g, 5, none⟩ (.bool b)).heap[g]? = some (.cells (rc resp M F lv n b e rq q fv) 97 (0, 0)) := heap_put h 5 _
theorem rc_put15 (h : w.heap[g]? = some (.cells (rc resp M F lv n wh e rq q fv) 97 (0, 0))) (fv' : Value) : (w.setCell ⟨g, 15, none⟩ fv').heap[g]? = some (.cells (rc resp M F lv n wh e rq q fv') 97 (0, 0)) := heap_put h 15 fv'
end
end Go.Proofs.YtoofdompafkddaaDoor.Hd
/-
  line.isTarget and the reference's target: what each returns. Condition: a text of at most 2^47 bytes.
-/
namespace Go.Proofs.YtoofdompafkddaaDoor.Ln
open Go.RowKit Go.Proofs.YtoofdompafkddaaDoor.Tk

set_option maxHeartbeats 1000000 in
theorem isTarget_any (s : ByteArray) (w : World) (hs : s.size ≤ maxLen) :
    Calls Tryd.prog 91 #[.string s] w fun e w' => e = .returned (.bool (isTgt s.data.toList)) ∧ w = w' := by
  unfold maxLen at hs
  go_enter Tryd.func91, Tryd.ntmps91
  go_wp2_with fail
  go_loop [6] (fun i => ∃ k : Nat, k ≤ s.size ∧ i = .int .i64 (k : Int) ∧ (s.data.toList.take k).all tg = true) (fun i => s.size - (intOf i).toNat)
  case atStart => exact ⟨0, Nat.zero_le _, rfl, rfl⟩
  case round =>
    obtain ⟨k, hk, rfl, hal⟩ := hrel
    have HAL := Lib.hid hal
    clear hal
    by_cases hlt : k < s.size
    · cases ht : tg s[k] with
      | true =>
        have HA := Lib.hid (show (s.data.toList.take (k + 1)).all tg = true from by rw [all_snoc tg s k hlt, HAL.out, ht]; rfl)
        obtain ⟨t1, t2⟩ := tg_yes ht
        clear ht
        go_wp2_with fail
        go_round
        case rel => exact ⟨k + 1, by omega, by go_num, HA.out⟩
        case measure => simp [intOf]; omega
      | false =>
        have HN := Lib.hid (isTgt_no s k hlt ht)
        rcases tg_no ht with t | ⟨t1, t2⟩
        all_goals
          clear ht
          go_wp2_with fail
          go_ret
          exact ⟨by rw [HN.out]; rfl, rfl⟩
    · by_cases h0 : s.size = 0
      · have he := text_empty h0
        have HN := Lib.hid (isTgt_nil h0)
        clear h0
        go_wp2_with fail
        go_ret
        exact ⟨by rw [HN.out]; rfl, rfl⟩
      · obtain rfl : k = s.size := by omega
        have he := text_full (s := s) (by omega)
        have HY := Lib.hid (isTgt_yes (by omega) HAL.out)
        clear h0
        go_wp2_with fail
        go_ret
        exact ⟨by rw [HY.out]; rfl, rfl⟩

set_option maxHeartbeats 1000000 in
theorem refTarget_any (s : ByteArray) (w : World) (hs : s.size ≤ maxLen) :
    Calls Tryd.prog 105 #[.string s] w fun e w' => e = .returned (.bool (isTgt s.data.toList)) ∧ w = w' := by
  unfold maxLen at hs
  go_enter Tryd.func105, Tryd.ntmps105
  go_wp2_with fail
  go_loop [3] (fun i => ∃ k : Nat, k ≤ s.size ∧ i = .int .i64 (k : Int) ∧ (s.data.toList.take k).all tg = true) (fun i => s.size - (intOf i).toNat)
  case atStart => exact ⟨0, Nat.zero_le _, rfl, rfl⟩
  case round =>
    obtain ⟨k, hk, rfl, hal⟩ := hrel
    have HAL := Lib.hid hal
    clear hal
    by_cases hlt : k < s.size
    · cases ht : tg s[k] with
      | true =>
        have HA := Lib.hid (show (s.data.toList.take (k + 1)).all tg = true from by rw [all_snoc tg s k hlt, HAL.out, ht]; rfl)
        obtain ⟨t1, t2⟩ := tg_yes ht
        clear ht
        go_wp2_with fail
        go_round
        case rel => exact ⟨k + 1, by omega, by go_num, HA.out⟩
        case measure => simp [intOf]; omega
      | false =>
        have HN := Lib.hid (isTgt_no s k hlt ht)
        rcases tg_no ht with t | ⟨t1, t2⟩
        all_goals
          clear ht
          go_wp2_with fail
          go_ret
          exact ⟨by rw [HN.out]; rfl, rfl⟩
    · by_cases h0 : s.size = 0
      · have HN := Lib.hid (isTgt_nil h0)
        have hd : decide (0 < s.size) = false := by rw [decide_eq_false_iff_not]; omega
        clear h0
        go_wp2_with fail
        go_ret
        exact ⟨by rw [HN.out]; rfl, rfl⟩
      · obtain rfl : k = s.size := by omega
        have HY := Lib.hid (isTgt_yes (by omega) HAL.out)
        have hd : decide (0 < s.size) = true := by rw [decide_eq_true_iff]; omega
        clear h0
        go_wp2_with fail
        go_ret
        exact ⟨by rw [HY.out]; rfl, rfl⟩
end Go.Proofs.YtoofdompafkddaaDoor.Ln
