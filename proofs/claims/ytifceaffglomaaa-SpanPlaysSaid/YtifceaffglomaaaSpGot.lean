/-
  What the laws of layer 13 keep of a world; what calls at literals tell. No condition.
-/
import Derived.Test.YtifceaffglomaaaSpTopA
import Derived.Test.YtifceaffglomaaaSpTopC
import Derived.Test.YtifceaffglomaaaSpLw
namespace Go.Proofs.Ytifceaffglomaaa.Sn
open Go.RowKit Go.Proofs.Ytifceaffglomaaa.Fd
set_option linter.unusedVariables false

/-- Boxes of spans, and slices that read as lists of spans. -/
structure Got (w : World) (bx : List (Nat × Sp)) (gs : List (Value × List Sp)) (W : World) : Prop where
  bel : Below w.heap.size w W
  box : ∀ p ∈ bx, W.heap[p.1]? = some (.cells #[.int .i64 p.2.1, .int .i64 p.2.2] 24 (0, 0))
  got : ∀ p ∈ gs, Spans W p.1 p.2
theorem Got.start {w : World} : Got w [] [] w := ⟨Below.refl _ _, by simp, by simp⟩
theorem Got.more {w W W' : World} {bx : List (Nat × Sp)} {gs : List (Value × List Sp)} (h : Got w bx gs W) (hb : Below W.heap.size W W') : Got w bx gs W' :=
  ⟨Bl.next h.bel hb, fun p hp => Bl.old hb (block_lt (h.box p hp)) (h.box p hp), fun p hp => (h.got p hp).next hb⟩
theorem Got.drew {w W : World} {bx : List (Nat × Sp)} {gs : List (Value × List Sp)} (h : Got w bx gs W) : Got w bx gs W.drew := h.more ((Below.refl W.heap.size W).drew)
theorem Got.add {w W : World} {bx : List (Nat × Sp)} {gs : List (Value × List Sp)} (h : Got w bx gs W) {v : Value} {l : List Sp} (hs : Spans W v l) : Got w bx ((v, l) :: gs) W :=
  ⟨h.bel, h.box, fun p hp => by rcases List.mem_cons.1 hp with rfl | hp <;> first | exact hs | exact h.got p hp⟩
theorem Got.new {w W : World} {bx : List (Nat × Sp)} {gs : List (Value × List Sp)} (h : Got w bx gs W) (x y : Int) : Got w ((W.heap.size, (x, y)) :: bx) gs (W.alloc (.cells #[.int .i64 x, .int .i64 y] 24)) := by
  have h2 := h.more ((Below.refl W.heap.size W).alloc (Nat.le_refl _) (.cells #[.int .i64 x, .int .i64 y] 24))
  exact ⟨h2.bel, fun p hp => by (rcases List.mem_cons.1 hp with rfl | hp <;> first | exact new_block W _ | exact h2.box p hp), h2.got⟩
/-- A list of one span, just made. -/
theorem Got.lit {w W : World} {bx : List (Nat × Sp)} {gs : List (Value × List Sp)} (h : Got w bx gs W) (x y : Int) : Got w bx ((.slice (some ⟨W.heap.size, 0, none⟩) 1 1, [(x, y)]) :: gs) (W.alloc (.cells #[.int .i64 x, .int .i64 y] 24)) :=
  (h.more ((Below.refl W.heap.size W).alloc (Nat.le_refl _) _)).add ((own_one (base := 0) (Nat.zero_le _) (new_block W _)).spans)
theorem Got.c0 {w W : World} {bx : List (Nat × Sp)} {gs : List (Value × List Sp)} (h : Got w bx gs W) {g : Nat} {x y : Int} (hp : (g, (x, y)) ∈ bx) : W.cell? ⟨g, 0, none⟩ = some (.int .i64 x) := two0 (h.box _ hp)
theorem Got.c1 {w W : World} {bx : List (Nat × Sp)} {gs : List (Value × List Sp)} (h : Got w bx gs W) {g : Nat} {x y : Int} (hp : (g, (x, y)) ∈ bx) : W.cell? ⟨g, 1, none⟩ = some (.int .i64 y) := two1 (h.box _ hp)
theorem Got.lt {w W : World} {bx : List (Nat × Sp)} {gs : List (Value × List Sp)} (h : Got w bx gs W) {g : Nat} {s : Sp} (hp : (g, s) ∈ bx) : g < W.heap.size := block_lt (h.box _ hp)
theorem Got.sp {w W : World} {bx : List (Nat × Sp)} {gs : List (Value × List Sp)} (h : Got w bx gs W) {v : Value} {l : List Sp} (hp : (v, l) ∈ gs) : Spans W v l := h.got _ hp
theorem Got.less {w W : World} {bx : List (Nat × Sp)} {gs gs' : List (Value × List Sp)} (h : Got w bx gs W) (hs : ∀ p ∈ gs', p ∈ gs) : Got w bx gs' W := ⟨h.bel, h.box, fun p hp => h.got p (hs p hp)⟩
/-- The three ways of a change. -/
theorem err_ways (b : Bool) (out : List Sp) : (errOf b out = 0 ∧ b = true ∧ out.length ≤ 32 ∧ tellOf b out = out) ∨ ((errOf b out = 2 ∧ b = false ∨ errOf b out = 14 ∧ b = true ∧ 32 < out.length) ∧ tellOf b out = []) := by
  cases b
  · exact .inr ⟨.inl ⟨rfl, rfl⟩, rfl⟩
  · by_cases h : out.length ≤ 32
    · exact .inl ⟨by simp [errOf, h], rfl, h, by simp [tellOf, h]⟩
    · exact .inr ⟨.inr ⟨by simp [errOf, h], rfl, by omega⟩, by simp [tellOf, h]⟩
theorem tell_len (b : Bool) (out : List Sp) : (tellOf b out).length ≤ 32 := by
  unfold tellOf
  split
  · split
    · assumption
    · simp
  · simp
theorem IsSet.valid {what : Int} {l : List Sp} {s : Sp} {out : List Sp} (h : IsSet what l s out) (hl : Valid l) (hs : Right s) (hn : out.length ≤ 32) : Valid out := ⟨hn, h.good, h.top hl.good hl.top hs⟩
theorem add56 : errOf (okB [] (5, 6)) (addOf [] (5, 6)) = 0 ∧ tellOf (okB [] (5, 6)) (addOf [] (5, 6)) = [(5, 6)] := by decide
theorem rem56 : errOf (okB [(5, 6)] (5, 6)) (remOf [(5, 6)] (5, 6)) = 0 ∧ tellOf (okB [(5, 6)] (5, 6)) (remOf [(5, 6)] (5, 6)) = [] := by decide
theorem size56 : sizeB [(5, 6)] = 1 := by decide
theorem add13 : errOf (okB [] (1, 3)) (addOf [] (1, 3)) = 0 ∧ tellOf (okB [] (1, 3)) (addOf [] (1, 3)) = [(1, 3)] := by decide
theorem rem09 : errOf (okB [(0, 9)] (3, 4)) (remOf [(0, 9)] (3, 4)) = 0 ∧ tellOf (okB [(0, 9)] (3, 4)) (remOf [(0, 9)] (3, 4)) = [(0, 3), (4, 9)] := by decide
theorem size14 : sizeB [(1, 4)] = 3 := by decide
/-- What is added is there, and all else is as it was. -/
theorem add_keeps {l : List Sp} {s : Sp} (hb : okB l s = true) (hn : (addOf l s).length ≤ 32) : validB (addOf l s) = true ∧ hasL (addOf l s) s = true ∧ ∀ z, memB (addOf l s) z = (memB l z || own s z) := by
  obtain ⟨hv, hr⟩ := (okB_iff l s).1 hb
  have hset := add_set hv.good hr
  have hval := hset.valid hv hr hn
  obtain ⟨h1, h2⟩ := added hset
  refine ⟨(validB_iff _).2 hval, ?_, h1⟩
  have hok : okB (addOf l s) s = true := (okB_iff _ _).2 ⟨hval, hr⟩
  unfold hasL gapsL
  rw [hok, h2 _ (gaps_set hval.good hr)]
  rfl
theorem rem_keeps {l : List Sp} {s : Sp} (hb : okB l s = true) (hn : (remOf l s).length ≤ 32) : validB (remOf l s) = true ∧ cutL (remOf l s) s = [] ∧ ∀ z, memB (remOf l s) z = (memB l z && !own s z) := by
  obtain ⟨hv, hr⟩ := (okB_iff l s).1 hb
  have hset := rem_set hv.good hr
  have hval := hset.valid hv hr hn
  obtain ⟨h1, h2⟩ := removed hset
  refine ⟨(validB_iff _).2 hval, ?_, h1⟩
  have hok : okB (remOf l s) s = true := (okB_iff _ _).2 ⟨hval, hr⟩
  unfold cutL
  rw [hok]
  exact h2 _ (cut_set hval.good hr)
end Go.Proofs.Ytifceaffglomaaa.Sn
