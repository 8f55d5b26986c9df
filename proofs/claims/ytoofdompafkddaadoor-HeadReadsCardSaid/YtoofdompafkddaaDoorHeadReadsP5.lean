/-
  Texts that the law's proof stands on, 4 of them in one file; each one's head says what it proves and under which condition.
-/
import Derived.Shelf.LaysM
import Derived.Shelf.Strconv.Itoa3
import Derived.Shelf.Bytes.SlSmallAll
import Derived.Shelf.Bytes.Small
import Derived.Shelf.Bytes.IndexByte
import Derived.Shelf.Spec.SlicesGrow
import Derived.Test.YtoofdompafkddaaDoorProg
import Derived.Test.YtoofdompafkddaaDoorHeadReadsP4
import Derived.Test.YtoofdompafkddaaDoorHeadReadsP2
import Derived.Lib.Bytealg
import Derived.Test.YtoofdompafkddaaDoorRows
/-
  The library's contracts of strconv.Itoa, bytes.IndexByte, bytes.TrimSuffix and slices.Grow, at this translation: each one application. No condition but what each states.
-/
namespace Go.Proofs.YtoofdompafkddaaDoor.Ln
open Go.Shelf Go.RowKit
def laysM171_ren : Go.Shelf.Ren := ⟨fun | 171 => 145 | 243 => 157 | 246 => 86 | 283 => 121 | 284 => 122 | 285 => 123 | 286 => 124 | 129 => 141 | 317 => 140 | 318 => 142 | 319 => 143 | 320 => 144 | 337 => 155 | 338 => 156 | n => n, fun | 3 => 3 | 9 => 9 | 2 => 2 | 4 => 4 | 171 => 158 | 0 => 0 | 53 => 159 | 37 => 22 | 5 => 5 | 173 => 162 | 212 => 178 | 51 => 179 | 20 => 20 | 213 => 180 | 46 => 181 | 232 => 198 | 233 => 199 | n => n, fun | 17 => 2 | 18 => 3 | 19 => 4 | n => n⟩
theorem laysM171 : Go.Proofs.LaysM.n171 Tryd.prog laysM171_ren := {
  mixed := by kernel_rfl
  f129 := Tryd.func141.trans (congrArg some (by kernel_rfl))
  f171 := Tryd.func145.trans (congrArg some (by kernel_rfl))
  f243 := Tryd.func157.trans (congrArg some (by kernel_rfl))
  f246 := Tryd.func86.trans (congrArg some (by kernel_rfl))
  f283 := Tryd.func121.trans (congrArg some (by kernel_rfl))
  f284 := Tryd.func122.trans (congrArg some (by kernel_rfl))
  f285 := Tryd.func123.trans (congrArg some (by kernel_rfl))
  f286 := Tryd.func124.trans (congrArg some (by kernel_rfl))
  f317 := Tryd.func140.trans (congrArg some (by kernel_rfl))
  f318 := Tryd.func142.trans (congrArg some (by kernel_rfl))
  f319 := Tryd.func143.trans (congrArg some (by kernel_rfl))
  f320 := Tryd.func144.trans (congrArg some (by kernel_rfl))
  f337 := Tryd.func155.trans (congrArg some (by kernel_rfl))
  f338 := Tryd.func156.trans (congrArg some (by kernel_rfl))
  t0 := Tryd.underlying0
  a0 := Tryd.isAgg0
  z0 := Tryd.sizeOf0
  v0 := Tryd.zeroValue0
  t2 := Tryd.underlying2
  a2 := Tryd.isAgg2
  z2 := Tryd.sizeOf2
  v2 := Tryd.zeroValue2
  t3 := Tryd.underlying3
  a3 := Tryd.isAgg3
  z3 := Tryd.sizeOf3
  v3 := Tryd.zeroValue3
  t4 := Tryd.underlying4
  a4 := Tryd.isAgg4
  z4 := Tryd.sizeOf4
  v4 := Tryd.zeroValue4
  t5 := Tryd.underlying5
  a5 := Tryd.isAgg5
  z5 := Tryd.sizeOf5
  v5 := Tryd.zeroValue5
  t9 := Tryd.underlying9
  a9 := Tryd.isAgg9
  z9 := Tryd.sizeOf9
  v9 := Tryd.zeroValue9
  t20 := Tryd.underlying20
  a20 := Tryd.isAgg20
  z20 := Tryd.sizeOf20
  v20 := Tryd.zeroValue20
  t37 := Tryd.underlying22
  a37 := Tryd.isAgg22
  z37 := Tryd.sizeOf22
  v37 := Tryd.zeroValue22
  t46 := Tryd.underlying181
  a46 := Tryd.isAgg181
  z46 := Tryd.sizeOf181
  v46 := Tryd.zeroValue181
  t51 := Tryd.underlying179
  a51 := Tryd.isAgg179
  z51 := Tryd.sizeOf179
  v51 := Tryd.zeroValue179
  t53 := Tryd.underlying159
  a53 := Tryd.isAgg159
  z53 := Tryd.sizeOf159
  v53 := Tryd.zeroValue159
  t171 := Tryd.underlying158
  a171 := Tryd.isAgg158
  z171 := Tryd.sizeOf158
  v171 := Tryd.zeroValue158
  t173 := Tryd.underlying162
  a173 := Tryd.isAgg162
  z173 := Tryd.sizeOf162
  v173 := Tryd.zeroValue162
  t212 := Tryd.underlying178
  a212 := Tryd.isAgg178
  z212 := Tryd.sizeOf178
  v212 := Tryd.zeroValue178
  t213 := Tryd.underlying180
  a213 := Tryd.isAgg180
  z213 := Tryd.sizeOf180
  t232 := Tryd.underlying198
  a232 := Tryd.isAgg198
  z232 := Tryd.sizeOf198
  v232 := Tryd.zeroValue198
  t233 := Tryd.underlying199
  a233 := Tryd.isAgg199
  z233 := Tryd.sizeOf199
  v233 := Tryd.zeroValue199
  g17 := by kernel_rfl
  g18 := by kernel_rfl
  g19 := by kernel_rfl
  i0 := by kernel_rfl
  i2 := by kernel_rfl
  i3 := by kernel_rfl
  i4 := by kernel_rfl
  i5 := by kernel_rfl
  i9 := by kernel_rfl
  i20 := by kernel_rfl
  i37 := by kernel_rfl
  i46 := by kernel_rfl
  i51 := by kernel_rfl
  i53 := by kernel_rfl
  i171 := by kernel_rfl
  i173 := by kernel_rfl
  i212 := by kernel_rfl
  i232 := by kernel_rfl
  i233 := by kernel_rfl
  m17 := by kernel_rfl
  m18 := by kernel_rfl
  m19 := by kernel_rfl }
open Go.RowKit Go.Sort Go.Lib in
theorem strconv_Itoa (n : Int) (h0 : -9223372036854775808 ≤ n) (h1 : n ≤ 9223372036854775807) (w : World) (htab : Lib.TabIs Tryd.prog w "internal/strconv.uint64pow10" .u64 Lib.pow10Tab) :
    Calls Tryd.prog 145 #[.int .i64 n] w fun e w' => e = .returned (.string ⟨(Lib.itoa n).toArray⟩) ∧ ∃ k os, w' = grow (w.drewN k) os := Any.strconv_Itoa laysM171 n h0 h1 w htab
def lays171_ren : Go.Shelf.Ren := ⟨fun | 171 => 145 | 243 => 157 | 246 => 86 | 283 => 121 | 284 => 122 | 285 => 123 | 286 => 124 | 129 => 141 | 317 => 140 | 318 => 142 | 319 => 143 | 320 => 144 | 337 => 155 | 338 => 156 | n => n, fun | 3 => 3 | 9 => 9 | 2 => 2 | 4 => 4 | 171 => 158 | 0 => 0 | 53 => 159 | 37 => 22 | 5 => 5 | 173 => 162 | 212 => 178 | 51 => 179 | 20 => 20 | 213 => 180 | 46 => 181 | 232 => 198 | 233 => 199 | n => n, fun | 17 => 2 | 18 => 3 | 19 => 4 | n => n⟩
theorem lays171 : Go.Proofs.Lays.n171 Tryd.prog lays171_ren := {
  mixed := by kernel_rfl
  f129 := Tryd.func141.trans (congrArg some (by kernel_rfl))
  f171 := Tryd.func145.trans (congrArg some (by kernel_rfl))
  f243 := Tryd.func157.trans (congrArg some (by kernel_rfl))
  f246 := Tryd.func86.trans (congrArg some (by kernel_rfl))
  f283 := Tryd.func121.trans (congrArg some (by kernel_rfl))
  f284 := Tryd.func122.trans (congrArg some (by kernel_rfl))
  f285 := Tryd.func123.trans (congrArg some (by kernel_rfl))
  f286 := Tryd.func124.trans (congrArg some (by kernel_rfl))
  f317 := Tryd.func140.trans (congrArg some (by kernel_rfl))
  f318 := Tryd.func142.trans (congrArg some (by kernel_rfl))
  f319 := Tryd.func143.trans (congrArg some (by kernel_rfl))
  f320 := Tryd.func144.trans (congrArg some (by kernel_rfl))
  f337 := Tryd.func155.trans (congrArg some (by kernel_rfl))
  f338 := Tryd.func156.trans (congrArg some (by kernel_rfl))
  t0 := Tryd.underlying0
  a0 := Tryd.isAgg0
  z0 := Tryd.sizeOf0
  v0 := Tryd.zeroValue0
  t2 := Tryd.underlying2
  a2 := Tryd.isAgg2
  z2 := Tryd.sizeOf2
  v2 := Tryd.zeroValue2
  t3 := Tryd.underlying3
  a3 := Tryd.isAgg3
  z3 := Tryd.sizeOf3
  v3 := Tryd.zeroValue3
  t4 := Tryd.underlying4
  a4 := Tryd.isAgg4
  z4 := Tryd.sizeOf4
  v4 := Tryd.zeroValue4
  t5 := Tryd.underlying5
  a5 := Tryd.isAgg5
  z5 := Tryd.sizeOf5
  v5 := Tryd.zeroValue5
  t9 := Tryd.underlying9
  a9 := Tryd.isAgg9
  z9 := Tryd.sizeOf9
  v9 := Tryd.zeroValue9
  t20 := Tryd.underlying20
  a20 := Tryd.isAgg20
  z20 := Tryd.sizeOf20
  v20 := Tryd.zeroValue20
  t37 := Tryd.underlying22
  a37 := Tryd.isAgg22
  z37 := Tryd.sizeOf22
  v37 := Tryd.zeroValue22
  t46 := Tryd.underlying181
  a46 := Tryd.isAgg181
  z46 := Tryd.sizeOf181
  v46 := Tryd.zeroValue181
  t51 := Tryd.underlying179
  a51 := Tryd.isAgg179
  z51 := Tryd.sizeOf179
  v51 := Tryd.zeroValue179
  t53 := Tryd.underlying159
  a53 := Tryd.isAgg159
  z53 := Tryd.sizeOf159
  v53 := Tryd.zeroValue159
  t171 := Tryd.underlying158
  a171 := Tryd.isAgg158
  z171 := Tryd.sizeOf158
  v171 := Tryd.zeroValue158
  t173 := Tryd.underlying162
  a173 := Tryd.isAgg162
  z173 := Tryd.sizeOf162
  v173 := Tryd.zeroValue162
  t212 := Tryd.underlying178
  a212 := Tryd.isAgg178
  z212 := Tryd.sizeOf178
  v212 := Tryd.zeroValue178
  t213 := Tryd.underlying180
  a213 := Tryd.isAgg180
  z213 := Tryd.sizeOf180
  t232 := Tryd.underlying198
  a232 := Tryd.isAgg198
  z232 := Tryd.sizeOf198
  v232 := Tryd.zeroValue198
  t233 := Tryd.underlying199
  a233 := Tryd.isAgg199
  z233 := Tryd.sizeOf199
  v233 := Tryd.zeroValue199
  g17 := by kernel_rfl
  g18 := by kernel_rfl
  g19 := by kernel_rfl }
open Go.RowKit Go.Sort Go.Lib in
theorem strconv_Itoa_small (i : Nat) (hi : i < 100) (w : World) :
    Calls Tryd.prog 145 #[.int .i64 i] w fun e w' => e = .returned (.string ⟨(Lib.decDigits i).toArray⟩) ∧ w' = w := Any.strconv_Itoa_small lays171 i hi w
def laysnb140_ren : Go.Shelf.Ren := ⟨fun | 140 => 100 | 117 => 130 | 115 => 149 | n => n, fun | 37 => 22 | 4 => 4 | 3 => 3 | 9 => 9 | 5 => 5 | n => n, fun | n => n⟩
theorem laysnb140 : Go.Proofs.Lays.nb140 Tryd.prog laysnb140_ren := {
  mixed := by kernel_rfl
  f115 := Tryd.func149.trans (congrArg some (by kernel_rfl))
  f117 := Tryd.func130.trans (congrArg some (by kernel_rfl))
  f140 := Tryd.func100.trans (congrArg some (by kernel_rfl))
  t3 := Tryd.underlying3
  a3 := Tryd.isAgg3
  z3 := Tryd.sizeOf3
  v3 := Tryd.zeroValue3
  t4 := Tryd.underlying4
  a4 := Tryd.isAgg4
  z4 := Tryd.sizeOf4
  v4 := Tryd.zeroValue4
  t9 := Tryd.underlying9
  a9 := Tryd.isAgg9
  z9 := Tryd.sizeOf9
  v9 := Tryd.zeroValue9
  t37 := Tryd.underlying22
  a37 := Tryd.isAgg22
  z37 := Tryd.sizeOf22
  v37 := Tryd.zeroValue22
  t5 := Tryd.underlying5
  a5 := Tryd.isAgg5
  z5 := Tryd.sizeOf5
  v5 := Tryd.zeroValue5 }
theorem bytes_TrimSuffix_all (p1 p2 : Option Addr) (n c m d : Nat) (xs ys : List Int) (w : World) (hx : xs.length = n) (hy : ys.length = m) (hnc : n ≤ c) (hbig : n ≤ 9223372036854775807) (h1 : Lib.BytesIn w p1 n xs) (h2 : Lib.BytesIn w p2 m ys) :
    Calls Tryd.prog 100 #[.slice p1 n c, .slice p2 m d] w fun e w' => e = .returned (Lib.trimSuffixV p1 n c xs ys) ∧ w' = w := Any.bytes_TrimSuffix_all laysnb140 p1 p2 n c m d xs ys w hx hy hnc hbig h1 h2
def lays187_ren : Go.Shelf.Ren := ⟨fun | 187 => 69 | 255 => 99 | n => n, fun | 37 => 22 | 5 => 5 | 3 => 3 | n => n, fun | n => n⟩
theorem lays187 : Go.Proofs.Lays.n187 Tryd.prog lays187_ren := {
  mixed := by kernel_rfl
  f187 := Tryd.func69.trans (congrArg some (by kernel_rfl))
  f255 := Tryd.func99.trans (congrArg some (by kernel_rfl))
  t3 := Tryd.underlying3
  a3 := Tryd.isAgg3
  z3 := Tryd.sizeOf3
  v3 := Tryd.zeroValue3
  t5 := Tryd.underlying5
  a5 := Tryd.isAgg5
  z5 := Tryd.sizeOf5
  v5 := Tryd.zeroValue5
  t37 := Tryd.underlying22
  a37 := Tryd.isAgg22
  z37 := Tryd.sizeOf22
  v37 := Tryd.zeroValue22 }
theorem bytes_IndexByte (b o n c : Nat) (xs : List Int) (cv : Int) (w : World) (hx : xs.length = n) (hc : ∀ i, i < n → w.cell? ⟨b, o + i, none⟩ = some (.int .u8 (xs.getD i 0))) :
    Calls Tryd.prog 69 #[.slice (some ⟨b, o, none⟩) n c, .int .u8 cv] w fun e w' => e = .returned (.int .i64 (Lib.indexByte (Lib.bytesOf xs) cv.toNat.toUInt8)) ∧ w' = w := Any.bytes_IndexByte lays187 b o n c xs cv w hx hc
theorem bytes_IndexByte_nil (cv : Int) (w : World) :
    Calls Tryd.prog 69 #[.slice none 0 0, .int .u8 cv] w fun e w' => e = .returned (.int .i64 (-1)) ∧ w' = w := Any.bytes_IndexByte_nil lays187 cv w
def laysGrow_ren : Go.Shelf.Ren := ⟨fun | 4 => 84 | n => n, fun | 22 => 22 | 25 => 5 | 3 => 3 | 4 => 4 | 9 => 9 | 20 => 20 | 0 => 0 | n => n, fun | n => n⟩
theorem laysGrow : Go.Proofs.Lays8.n4 Tryd.prog laysGrow_ren := {
  mixed := by kernel_rfl
  f4 := ⟨Tryd.f84.name, by decide, Tryd.func84.trans (congrArg some (by kernel_rfl))⟩
  t0 := Tryd.underlying0
  a0 := Tryd.isAgg0
  z0 := Tryd.sizeOf0
  v0 := Tryd.zeroValue0
  t3 := Tryd.underlying3
  a3 := Tryd.isAgg3
  z3 := Tryd.sizeOf3
  v3 := Tryd.zeroValue3
  t4 := Tryd.underlying4
  a4 := Tryd.isAgg4
  z4 := Tryd.sizeOf4
  v4 := Tryd.zeroValue4
  t9 := Tryd.underlying9
  a9 := Tryd.isAgg9
  z9 := Tryd.sizeOf9
  v9 := Tryd.zeroValue9
  t20 := Tryd.underlying20
  a20 := Tryd.isAgg20
  z20 := Tryd.sizeOf20
  v20 := Tryd.zeroValue20
  t22 := Tryd.underlying22
  a22 := Tryd.isAgg22
  z22 := Tryd.sizeOf22
  v22 := Tryd.zeroValue22 }
theorem slices_Grow_room (base : Option Addr) (l c n : Nat) (w : World) (hlc : l ≤ c) (hc63 : c ≤ 9223372036854775807) (hn63 : n ≤ 9223372036854775807) (hroom : l + n ≤ c) :
    Calls Tryd.prog 84 #[.slice base l c, .int .i64 n] w fun e w' => e = .returned (.slice base l c) ∧ w' = w := Any8.slices_Grow_room laysGrow base l c n w hlc hc63 hn63 hroom
end Go.Proofs.YtoofdompafkddaaDoor.Ln
/-
  slices.Grow at bytes: what it leaves. Condition: at most 2^40 bytes.
-/
namespace Go.Proofs.YtoofdompafkddaaDoor.Hd
open Go.RowKit Go.Proofs.YtoofdompafkddaaDoor.Tk Go.Proofs.YtoofdompafkddaaDoor.Fd
set_option linter.unusedVariables false

theorem infoByte : (Tryd.prog.info? 5).map (·.size) = some 1 := by kernel_rfl
theorem infoByte3 : (Tryd.prog.info? 5).map (fun i => (i.zero, i.size, i.bytes)) = some (some (.int .u8 0), 1, 1) := by kernel_rfl
/-- A row with room: its block, its cells. -/
structure RowB (w : World) (q C : Nat) (cur : Array Value) (l : Bs) (m : Nat) : Prop where
  blk : w.heap[q]? = some (.cells cur 5 (0, 0))
  size : cur.size = C
  cap : C ≤ maxLen
  room : l.length + m ≤ C
  here : cur.toList.take l.length = bys l
def GrowPost (w : World) (lv : Value) (l : Bs) (m : Nat) (e : Ending) (w' : World) : Prop :=
  ∃ q C cur, e = .returned (.slice (some ⟨q, 0, none⟩) l.length C) ∧ RowB w' q C cur l m ∧ Below w.heap.size w w' ∧ (lv.ownBlock = some q ∨ q = w.heap.size)
theorem grown_size (w : World) (cs : List Value) (l n c : Nat) (t : TypeId) (z : Array Value) (hz : z.size = 1) (hc : cs.length = c) (h : c < l + n) :
    (cs.toArray ++ Builtin.zeroCells z (l + n - c) ++ Builtin.zeroCells z (grownCap w (l + n) c t - (l + n))).size = grownCap w (l + n) c t := by
  have hg := grownCap_ge w (l + n) c t
  simp only [Array.size_append, List.size_toArray, size_zeroCells, hz, hc]
  omega
set_option maxRecDepth 100000 in
theorem grow_any (lv : Value) (l : Bs) (m : Nat) (w : World) (h : OwnB w lv l) (hm : 0 < m) (hb : l.length + m ≤ 1099511627776) :
    Calls Tryd.prog 84 #[lv, .int .i64 (m : Int)] w (GrowPost w lv l m) := by
  obtain ⟨i0, hi, hz0, hz1, hz2⟩ := info_parts infoByte3
  rcases h.2 with ⟨rfl, h0⟩ | ⟨q, C, cur, hv, _, hh, hlc, hcm, hcs, htk⟩
  · have hl : l = [] := List.length_eq_zero_iff.1 h0
    subst hl
    refine (Any8.slices_Grow_grow Ln.laysGrow i0 _ hi hz0 (by rw [hz1]; omega) none 0 0 m [] w (Nat.le_refl _) (by omega) (by rw [hz2]; simp at hb ⊢; omega) (by simp at hb ⊢; omega) (by simp) (fun _ => rfl) (fun a ha => by cases ha)).mono ?_
    rintro e w' ⟨rfl, rfl⟩
    refine ⟨_, _, _, rfl, ⟨new_block' _ _ rfl, grown_size w [] 0 m 0 _ _ rfl rfl (by omega), ?_, ?_, by simp [bys]⟩, (Below.refl _ _).drew.alloc (Nat.le_refl _) _, .inr rfl⟩
    · exact grownCap_le_maxLen w (0 + m) 0 _ (by unfold maxLen; simp at hb; omega)
    · exact grownCap_ge w (0 + m) 0 _
  · subst hv
    by_cases hr : l.length + m ≤ C
    · refine (Ln.slices_Grow_room _ l.length C m w hlc (by unfold maxLen at hcm; omega) (by omega) hr).mono ?_
      rintro e w' ⟨rfl, rfl⟩
      exact ⟨q, C, cur, rfl, ⟨hh, by omega, hcm, hr, by simpa using htk⟩, Below.refl _ _, .inl rfl⟩
    · refine (Any8.slices_Grow_grow Ln.laysGrow i0 _ hi hz0 (by rw [hz1]; omega) (some ⟨q, 0, none⟩) l.length C m cur.toList w hlc (by omega) (by rw [hz2]; omega) (by omega) (by rw [hz1]; simpa using hcs) (fun h => by cases h)
        (fun a ha j v hj => by injection ha with ha; subst ha; exact World.news_of_block hh j v hj)).mono ?_
      rintro e w' ⟨rfl, rfl⟩
      have hcl : cur.toList.length = C := by simpa using hcs
      refine ⟨_, _, _, rfl, ⟨new_block' _ _ rfl, grown_size w cur.toList l.length m C _ _ rfl hcl (by omega), ?_, ?_, ?_⟩, (Below.refl _ _).drew.alloc (Nat.le_refl _) _, .inr rfl⟩
      · exact grownCap_le_maxLen w (l.length + m) C _ (by unfold maxLen; omega)
      · exact grownCap_ge w (l.length + m) C _
      · rw [Array.toList_append, Array.toList_append, List.append_assoc, List.take_append_of_le_length (by simp; omega)]
        simpa using htk

theorem RowB.owns {w : World} {q C : Nat} {cur : Array Value} {l b : Bs} (h : RowB w q C cur l b.length) :
    OwnB (w.setRow q (cur.toList.take l.length ++ (bys b ++ cur.toList.drop (l.length + (bys b).length))).toArray) (.slice (some ⟨q, 0, none⟩) (l ++ b).length C) (l ++ b) := by
  have hr := h.room
  have hs : cur.toList.length = C := by simpa using h.size
  have hlt : l.length ≤ cur.toList.length := by omega
  refine ⟨by rw [bys_length, Nat.mul_one], .inr ⟨q, C, _, rfl, Nat.zero_le _, setRow_heap w q cur _ _ _ h.blk, by simpa using hr, h.cap, ?_, ?_⟩⟩
  · simp only [List.size_toArray, List.length_append, List.length_take, List.length_drop, bys_length]; omega
  · rw [bys_append, ← h.here, List.length_append]
    have e1 : (cur.toList.take l.length).length = l.length := by rw [List.length_take]; omega
    show (cur.toList.take l.length ++ (bys b ++ _)).take _ = _
    rw [← List.append_assoc, Nat.mul_one, List.take_append_of_le_length (by rw [List.length_append, e1, bys_length]; omega), List.take_of_length_le (by rw [List.length_append, e1, bys_length]; omega)]

end Go.Proofs.YtoofdompafkddaaDoor.Hd
/-
  The parts of a line: plain functions on bytes. No program, no condition.
-/
namespace Go.Proofs.YtoofdompafkddaaDoor.Ln
open Go.Proofs.YtoofdompafkddaaDoor.Tk

/-- May a byte stand in a target; in a reason? -/
def tg (c : UInt8) : Bool := 33 ≤ c.toNat && c.toNat ≤ 126
def rs (c : UInt8) : Bool := (c.toNat == 9 || 32 ≤ c.toNat) && c.toNat != 127
def isTgt (l : Bs) : Bool := !l.isEmpty && l.all tg
def isRsn (l : Bs) : Bool := l.all rs
def ver0 : Bs := [72, 84, 84, 80, 47, 49, 46, 48]
def ver1 : Bs := [72, 84, 84, 80, 47, 49, 46, 49]
def minorOf (l : Bs) : Int := if l = ver0 then 0 else if l = ver1 then 1 else -1
def isMin (n : Int) : Bool := n == 0 || n == 1
def isCod (n : Int) : Bool := decide (100 ≤ n) && decide (n ≤ 599)
def dgt (c : UInt8) : Bool := 48 ≤ c.toNat && c.toNat ≤ 57
/-- The number of three digits; -1: they are none. -/
def codeOf : Bs → Int
  | [a, b, c] => if dgt a && dgt b && dgt c then ((a.toNat : Int) - 48) * 100 + ((b.toNat : Int) - 48) * 10 + ((c.toNat : Int) - 48) else -1
  | _ => -1
/-- The place of the first byte 32, or the end. -/
def idx : Bs → Nat
  | [] => 0
  | c :: r => if c = 32 then 0 else idx r + 1
def fst (l : Bs) : Bs := l.take (idx l)
def rst (l : Bs) : Bs := l.drop (idx l + 1)

theorem idx_le (l : Bs) : idx l ≤ l.length := by
  induction l with
  | nil => exact Nat.le_refl _
  | cons c r ih => unfold idx; split <;> simp; omega
theorem idx_at (l : Bs) (h : idx l < l.length) : l[idx l] = 32 := by
  induction l with
  | nil => simp at h
  | cons c r ih =>
    by_cases hc : c = 32
    · simp [idx, hc]
    · have h' : idx r < r.length := by simp [idx, hc] at h; omega
      simp [idx, hc, ih h']
theorem idx_before (l : Bs) (j : Nat) (hj : j < idx l) : l[j]'(by have := idx_le l; omega) ≠ 32 := by
  induction l generalizing j with
  | nil => simp [idx] at hj
  | cons c r ih =>
    by_cases hc : c = 32
    · simp [idx, hc] at hj
    · cases j with
      | zero => simpa using hc
      | succ j => simp only [idx, hc, if_false] at hj; simpa using ih j (by omega)
theorem indexByte_eq (l : Bs) : Lib.indexByte l 32 = if idx l < l.length then (idx l : Int) else -1 := by
  induction l with
  | nil => simp [Lib.indexByte, idx]
  | cons c r ih =>
    unfold Lib.indexByte idx
    by_cases hc : c = 32
    · simp [hc]
    · have hb : (c == 32) = false := by simpa using hc
      rw [if_neg hc, hb, ih, List.length_cons]
      by_cases h : idx r < r.length
      · have h2 : idx r + 1 < r.length + 1 := by omega
        have h3 : ((idx r : Int) == -1) = false := by rw [beq_eq_false_iff_ne]; omega
        rw [if_pos h, if_pos h2, h3]; simp
      · have h2 : ¬ idx r + 1 < r.length + 1 := by omega
        rw [if_neg h, if_neg h2]; rfl
theorem fst_full {l : Bs} (h : ¬ idx l < l.length) : fst l = l := by unfold fst; exact List.take_of_length_le (by omega)
theorem rst_full {l : Bs} (h : ¬ idx l < l.length) : rst l = [] := by unfold rst; exact List.drop_eq_nil_of_le (by omega)
theorem fst_len (l : Bs) : (fst l).length = idx l := by unfold fst; rw [List.length_take]; have := idx_le l; omega
theorem rst_len (l : Bs) : (rst l).length = l.length - (idx l + 1) := by unfold rst; rw [List.length_drop]
theorem fst_le (l : Bs) : (fst l).length ≤ l.length := by rw [fst_len]; exact idx_le l
theorem rst_le (l : Bs) : (rst l).length ≤ l.length := by rw [rst_len]; omega
theorem split_at {l : Bs} (h : idx l < l.length) : l = fst l ++ 32 :: rst l := by
  unfold fst rst
  conv => lhs; rw [← List.take_append_drop (idx l) l]
  rw [List.drop_eq_getElem_cons h, idx_at l h]
/-- A text without a byte 32, a byte 32, and whatever else. -/
theorem idx_mk {a b : Bs} (ha : ∀ c ∈ a, c ≠ 32) : idx (a ++ 32 :: b) = a.length := by
  induction a with
  | nil => rfl
  | cons c r ih => simp only [List.cons_append, idx, ha c (by simp), if_false, List.length_cons]; rw [ih fun c hc => ha c (by simp [hc])]
theorem idx_none {a : Bs} (ha : ∀ c ∈ a, c ≠ 32) : idx a = a.length := by
  induction a with
  | nil => rfl
  | cons c r ih => simp only [idx, ha c (by simp), if_false, List.length_cons]; rw [ih fun c hc => ha c (by simp [hc])]
theorem fst_mk {a b : Bs} (ha : ∀ c ∈ a, c ≠ 32) : fst (a ++ 32 :: b) = a := by unfold fst; rw [idx_mk ha, List.take_left]
theorem rst_mk {a b : Bs} (ha : ∀ c ∈ a, c ≠ 32) : rst (a ++ 32 :: b) = b := by
  unfold rst; rw [idx_mk ha, ← List.drop_drop, List.drop_left]; rfl
theorem fst_none {a : Bs} (ha : ∀ c ∈ a, c ≠ 32) : fst a = a := by unfold fst; rw [idx_none ha, List.take_length]
theorem rst_none {a : Bs} (ha : ∀ c ∈ a, c ≠ 32) : rst a = [] := by unfold rst; rw [idx_none ha]; exact List.drop_eq_nil_of_le (by omega)
theorem fst_no (l : Bs) : ∀ c ∈ fst l, c ≠ 32 := by
  intro c hc
  have hc' : c ∈ l.take (idx l) := hc
  obtain ⟨j, hj, rfl⟩ := List.getElem_of_mem hc'
  have h1 : j < idx l := by rw [← fst_len l]; exact hj
  rw [List.getElem_take]; exact idx_before l j h1

theorem tok_no {l : Bs} (h : isTok l = true) : ∀ c ∈ l, c ≠ 32 := by
  intro c hc e
  simp [isTok] at h
  have := h.2 c hc
  rw [e] at this
  exact absurd this (by decide)
theorem tgt_no {l : Bs} (h : isTgt l = true) : ∀ c ∈ l, c ≠ 32 := by
  intro c hc e
  simp [isTgt] at h
  have := h.2 c hc
  rw [e] at this
  exact absurd this (by decide)
theorem tg_yes {c : UInt8} (h : tg c = true) : 33 ≤ (c.toNat : Int) ∧ (c.toNat : Int) ≤ 126 := by simp [tg] at h; omega
theorem tg_no {c : UInt8} (h : tg c = false) : (c.toNat : Int) < 33 ∨ (33 ≤ (c.toNat : Int) ∧ 126 < (c.toNat : Int)) := by simp [tg] at h; omega
theorem rs_yes {c : UInt8} (h : rs c = true) : (c.toNat : Int) = 9 ∨ (32 ≤ (c.toNat : Int) ∧ (c.toNat : Int) ≠ 127) := by simp [rs] at h; omega
theorem rs_no {c : UInt8} (h : rs c = false) : ((c.toNat : Int) < 32 ∧ (c.toNat : Int) ≠ 9) ∨ (c.toNat : Int) = 127 := by simp [rs] at h; omega
theorem isTgt_nil {s : ByteArray} (h : s.size = 0) : isTgt s.data.toList = false := by rw [nil_of_size h]; rfl
theorem isTgt_no (s : ByteArray) (k : Nat) (h : k < s.size) (hd : tg s[k] = false) : isTgt s.data.toList = false := by
  unfold isTgt; rw [not_all tg s k h hd]; simp
theorem isTgt_yes {s : ByteArray} (h : 0 < s.size) (ha : (s.data.toList.take s.size).all tg = true) : isTgt s.data.toList = true := by
  unfold isTgt; rw [cons_of_size h, all_of_take ha]; rfl
theorem isRsn_no (s : ByteArray) (k : Nat) (h : k < s.size) (hd : rs s[k] = false) : isRsn s.data.toList = false := not_all rs s k h hd
theorem isRsn_yes {s : ByteArray} (ha : (s.data.toList.take s.size).all rs = true) : isRsn s.data.toList = true := all_of_take ha

/-- Is it a request's line; a status line? -/
def reqOk (l : Bs) : Bool := isTok (fst l) && isTgt (fst (rst l)) && isMin (minorOf (rst (rst l)))
def stOk (l : Bs) : Bool := isMin (minorOf (fst l)) && isCod (codeOf (fst (rst l))) && isRsn (rst (rst l))
theorem minor_cases (l : Bs) : minorOf l = 0 ∨ minorOf l = 1 ∨ minorOf l = -1 := by
  unfold minorOf; split
  · exact .inl rfl
  · split
    · exact .inr (.inl rfl)
    · exact .inr (.inr rfl)
theorem minor_bd (l : Bs) : -1 ≤ minorOf l ∧ minorOf l ≤ 1 := by rcases minor_cases l with h | h | h <;> omega
theorem isMin_minor (l : Bs) : isMin (minorOf l) = decide (0 ≤ minorOf l) := by rcases minor_cases l with h | h | h <;> rw [h] <;> rfl
theorem ver_no {l : Bs} (h : isMin (minorOf l) = true) : ∀ c ∈ l, c ≠ 32 := by
  unfold minorOf at h
  split at h
  · rename_i e; rw [e]; decide
  · split at h
    · rename_i e; rw [e]; decide
    · exact absurd h (by decide)
theorem code_bd (l : Bs) : -1 ≤ codeOf l ∧ codeOf l ≤ 999 := by
  unfold codeOf
  split
  · split
    · rename_i h; simp [dgt] at h; omega
    · omega
  · omega
end Go.Proofs.YtoofdompafkddaaDoor.Ln
/-
  What line's functions answer, as values. No condition.
-/
namespace Go.Proofs.YtoofdompafkddaaDoor.Ln

/-- What Request answers. -/
def reqVal (s : ByteArray) : Value :=
  if 1024 < s.size then .tuple #[.string ⟨#[]⟩, .string ⟨#[]⟩, .int .i64 0, .int .i64 3]
  else if reqOk s.data.toList then .tuple #[.string ⟨(fst s.data.toList).toArray⟩, .string ⟨(fst (rst s.data.toList)).toArray⟩, .int .i64 (minorOf (rst (rst s.data.toList))), .int .i64 0]
  else .tuple #[.string ⟨#[]⟩, .string ⟨#[]⟩, .int .i64 0, .int .i64 30]
/-- What Status answers. -/
def stVal (s : ByteArray) : Value :=
  if 1024 < s.size then .tuple #[.int .i64 0, .int .i64 0, .string ⟨#[]⟩, .int .i64 3]
  else if stOk s.data.toList then .tuple #[.int .i64 (minorOf (fst s.data.toList)), .int .i64 (codeOf (fst (rst s.data.toList))), .string ⟨(rst (rst s.data.toList)).toArray⟩, .int .i64 0]
  else .tuple #[.int .i64 0, .int .i64 0, .string ⟨#[]⟩, .int .i64 30]
end Go.Proofs.YtoofdompafkddaaDoor.Ln
