/-
  date.weekday, shortWeekday, longWeekday, monthName and twoDigits: what each returns. Condition: the tables hold what the program's text lays.
-/
import Derived.Test.YtipooddkpbkfhaaDoorDateTab
import Derived.Test.YtipooddkpbkfhaaDoorDtShelf
import Derived.Sort.Grow
namespace Go.Proofs.YtipooddkpbkfhaaDoor.Dt
open Go.RowKit

abbrev Bs := List UInt8
def two (n : Nat) : Bs := [UInt8.ofNat (48 + n / 10), UInt8.ofNat (48 + n % 10)]
def short (k : Nat) : Bs := (longNames.getD k []).take 3

theorem weekday_any (d : Int) (w : World) (h0 : 0 ≤ d) (h1 : d ≤ 3000000) :
    Calls Tryd.prog 31 #[.int .i64 d] w fun e w' => e = .returned (.int .i64 ((d + 3) % 7)) ∧ w = w' := by
  go_enter Tryd.func31, Tryd.ntmps31
  go_wp2_with fail
  go_ret
  exact ⟨rfl, rfl⟩

theorem monthName_any (k : Nat) (w : World) (hk : k < 12) (hM : MN w) :
    Calls Tryd.prog 32 #[.int .i64 (k : Int)] w fun e w' => e = .returned (.string ⟨(monNames.getD k []).toArray⟩) ∧ w = w' := by
  have hc := hM k hk
  clear hM
  go_enter Tryd.func32, Tryd.ntmps32
  go_wp2_with fail
  go_ret
  exact ⟨rfl, rfl⟩

theorem longWeekday_any (k : Nat) (w : World) (hk : k < 7) (hM : WD w) :
    Calls Tryd.prog 44 #[.int .i64 (k : Int)] w fun e w' => e = .returned (.string ⟨(longNames.getD k []).toArray⟩) ∧ w = w' := by
  have hc := hM k hk
  clear hM
  go_enter Tryd.func44, Tryd.ntmps44
  go_wp2_with fail
  go_ret
  exact ⟨rfl, rfl⟩

theorem shortWeekday_any (k : Nat) (w : World) (hk : k < 7) (hM : WD w) :
    Calls Tryd.prog 30 #[.int .i64 (k : Int)] w fun e w' => e = .returned (.string ⟨(short k).toArray⟩) ∧ w = w' := by
  have hc := hM k hk
  clear hM
  match k, hk, hc with
  | 0, _, hc | 1, _, hc | 2, _, hc | 3, _, hc | 4, _, hc | 5, _, hc | 6, _, hc =>
    simp only [longNames, List.getD_cons_zero, List.getD_cons_succ] at hc
    go_enter Tryd.func30, Tryd.ntmps30
    go_wp2_with fail
    go_ret
    exact ⟨rfl, rfl⟩

theorem run_two_back (wr : World) (x y : Int) (a b : UInt8) (hx : x = (a.toNat : Int)) (hy : y = (b.toNat : Int)) :
    (convert 50 9 (.slice (some ⟨wr.heap.size, 0, none⟩) 2 2)).run Tryd.prog (wr.alloc (.cells #[.int .u8 x, .int .u8 y] 5)) = .ok (.string ⟨#[a, b]⟩) (wr.alloc (.cells #[.int .u8 x, .int .u8 y] 5)) := by
  subst hx hy
  exact run_convert_bytes_back (P := Tryd.prog) (wr.alloc (.cells #[.int .u8 (a.toNat : Int), .int .u8 (b.toNat : Int)] 5)) 50 9 5 ⟨wr.heap.size, 0, none⟩ 2 [a, b] Tryd.underlying50 Tryd.underlying5 Tryd.underlying9 fun j hj => by
    match j, hj with
    | 0, _ => simp [Addr.add]
    | 1, _ => simp [Addr.add]

/-- A text of these bytes. -/
def B (l : Bs) : ByteArray := ⟨l.toArray⟩
theorem B_size (l : Bs) : (B l).size = l.length := by unfold B; simp [ByteArray.size]
theorem B_append (a b : Bs) : B a ++ B b = B (a ++ b) := by unfold B; apply ByteArray.ext; simp
theorem B_list (l : Bs) : (B l).data.toList = l := by unfold B; simp
theorem B_of (s : ByteArray) : B s.data.toList = s := by unfold B; apply ByteArray.ext; simp

theorem twoDigits_any (x : Int) (w : World) (h0 : 0 ≤ x) (h1 : x < 100) :
    Calls Tryd.prog 29 #[.int .i64 x] w fun e w' => e = .returned (.string (B (two x.toNat))) ∧ Below w.heap.size w w' := by
  have HB := Lib.hid (show (⟨#[UInt8.ofNat (48 + x.toNat / 10), UInt8.ofNat (48 + x.toNat % 10)]⟩ : ByteArray) = B (two x.toNat) from rfl)
  obtain ⟨a, ha⟩ : ∃ a, a = UInt8.ofNat (48 + x.toNat / 10) := ⟨_, rfl⟩
  obtain ⟨b, hb⟩ : ∃ b, b = UInt8.ofNat (48 + x.toNat % 10) := ⟨_, rfl⟩
  have hback := run_two_back w (48 + x / 10) (48 + x % 10) a b (by rw [ha, UInt8.toNat_ofNat']; omega) (by rw [hb, UInt8.toNat_ofNat']; omega)
  rw [← ha, ← hb] at HB
  clear ha hb
  go_enter Tryd.func29, Tryd.ntmps29
  go_wp2_with fail
  go_ret
  exact ⟨by rw [← HB.out]; rfl, (Below.refl _ _).alloc (Nat.le_refl _) _⟩

def four (y : Nat) : Bs := two (y / 100) ++ two (y % 100)
theorem itoa_four (y : Int) (h0 : 1000 ≤ y) (h1 : y ≤ 9999) : Lib.itoa y = four y.toNat := by
  obtain ⟨n, rfl⟩ := Int.eq_ofNat_of_zero_le (show 0 ≤ y by omega)
  have e : Lib.itoa (n : Int) = Lib.decDigits n := by unfold Lib.itoa; rw [if_neg (by omega)]; rfl
  rw [e, Lib.decDigits_eq, Lib.nDigits_unique 3 n (by show 1000 ≤ n; omega) (by show n < 10000; omega)]
  simp only [List.range, List.range.loop, four, two, Lib.dg, List.map_cons, List.map_nil, List.cons_append, List.nil_append, Int.toNat_natCast, List.cons.injEq, and_true, Nat.reduceAdd, Nat.reduceSub, Nat.reducePow]
  refine ⟨?_, ?_, ?_, ?_⟩
  · rw [show n / 1000 % 10 = n / 100 / 10 by omega]
  · trivial
  · rw [show n / 10 % 10 = n % 100 / 10 by omega]
  · rw [show n / 1 % 10 = n % 100 % 10 by omega]

theorem WD.lt {w : World} (h : WD w) : 2 < w.heap.size := World.block_lt_of_cell? w _ (h 0 (by omega))
theorem MN.lt {w : World} (h : MN w) : 3 < w.heap.size := World.block_lt_of_cell? w _ (h 0 (by omega))
theorem FM.lt {w : World} (h : FM w) : 0 < w.heap.size := World.block_lt_of_cell? w _ (h 0 (by omega))
theorem var_below {P : Program} {w w' : World} {n : String} {g C : Nat} {cs : Array Value} (h : w.var? P n = some cs) (hg : P.globalNamed n = some g) (hb : Below C w w') (hlt : g < C) : w'.var? P n = some cs := by
  unfold World.var? at h ⊢
  rw [hg] at h ⊢
  simp only [Option.bind_some] at h ⊢
  rw [hb.block g hlt]; exact h
theorem P10.lt {w : World} (h : P10 w) : 4 < w.heap.size := World.block_lt_of_cell? w _ (Lib.TabIs.cell h gPT 0 (by rw [Lib.pow10Tab_length]; omega))
/-- What was there when the calls began stays. -/
theorem FM.below {C : Nat} {w w' : World} (h : FM w) (hb : Below C w w') (hC : w.heap.size ≤ C) : FM w' := fun n hn => (hb.cell (p := ⟨0, n, none⟩) (Nat.lt_of_lt_of_le h.lt hC)).trans (h n hn)
theorem Env.below {C : Nat} {w w' : World} (h : Env w) (hb : Below C w w') (hC : w.heap.size ≤ C) : Env w' where
  md := h.md.below hb (Nat.lt_of_lt_of_le h.md.lt hC)
  wd := fun n hn => (hb.cell (p := ⟨2, n, none⟩) (Nat.lt_of_lt_of_le h.wd.lt hC)).trans (h.wd n hn)
  mn := fun n hn => (hb.cell (p := ⟨3, n, none⟩) (Nat.lt_of_lt_of_le h.mn.lt hC)).trans (h.mn n hn)
  p10 := var_below h.p10 gPT hb (Nat.lt_of_lt_of_le h.p10.lt hC)
/-- One call behind another. -/
theorem below_then {a b c : World} (h : Below a.heap.size a b) (k : Below b.heap.size b c) : Below a.heap.size a c := h.trans (k.mono h.size)
theorem below_grow {w : World} (k : Nat) (os : Array Obj) : Below w.heap.size w (Sort.grow (w.drewN k) os) :=
  ⟨rfl, rfl, rfl, by show w.heap.size ≤ (w.heap ++ os).size; rw [Array.size_append]; omega, fun j hj => by show (w.heap ++ os)[j]? = w.heap[j]?; rw [Array.getElem?_append_left hj]⟩
theorem short_length (k : Nat) (hk : k < 7) : (short k).length = 3 := by
  match k, hk with
  | 0, _ | 1, _ | 2, _ | 3, _ | 4, _ | 5, _ | 6, _ => rfl
theorem mon_length (k : Nat) (hk : k < 12) : (monNames.getD k []).length = 3 := by
  match k, hk with
  | 0, _ | 1, _ | 2, _ | 3, _ | 4, _ | 5, _ | 6, _ | 7, _ | 8, _ | 9, _ | 10, _ | 11, _ => rfl

end Go.Proofs.YtipooddkpbkfhaaDoor.Dt
