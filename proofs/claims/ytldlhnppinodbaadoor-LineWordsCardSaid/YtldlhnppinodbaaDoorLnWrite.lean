/-
  line.version, line.tell and the closures of line.RequestLine and line.StatusLine: what each returns. Conditions: the listed tables; texts of at most 2^21 bytes.
-/
import Derived.Test.YtldlhnppinodbaaDoorLnSt
import Derived.Test.YtldlhnppinodbaaDoorTabs
import Derived.Lib.ItoaLen
namespace Go.Proofs.YtldlhnppinodbaaDoor.Ln
open Go.RowKit Go.Proofs.YtldlhnppinodbaaDoor.Tk

theorem var_below {P : Program} {w w' : World} {n : String} {g C : Nat} {cs : Array Value} (h : w.var? P n = some cs) (hg : P.globalNamed n = some g) (hb : Below C w w') (hlt : g < C) : w'.var? P n = some cs := by
  unfold World.var? at h ⊢
  rw [hg] at h ⊢
  simp only [Option.bind_some] at h ⊢
  rw [hb.block g hlt]; exact h
theorem p10_lt {w : World} (h : Tb.P10 w) : 2 < w.heap.size := World.block_lt_of_cell? w _ (Lib.TabIs.cell h Tb.gPT 0 (by rw [Lib.pow10Tab_length]; omega))
/-- What the calls read of the tables. -/
structure Env (w : World) : Prop where
  tab : Tab w
  p10 : Tb.P10 w
theorem Env.below {C : Nat} {w w' : World} (h : Env w) (hb : Below C w w') (hC : w.heap.size ≤ C) : Env w' :=
  ⟨h.tab.below hb (Nat.lt_of_lt_of_le h.tab.lt hC), var_below h.p10 Tb.gPT hb (Nat.lt_of_lt_of_le (p10_lt h.p10) hC)⟩
theorem below_grow {w : World} (k : Nat) (os : Array Obj) : Below w.heap.size w (Sort.grow (w.drewN k) os) :=
  ⟨rfl, rfl, rfl, by show w.heap.size ≤ (w.heap ++ os).size; rw [Array.size_append]; omega, fun j hj => by show (w.heap ++ os)[j]? = w.heap[j]?; rw [Array.getElem?_append_left hj]⟩
theorem below_then {a b c : World} (h : Below a.heap.size a b) (k : Below b.heap.size b c) : Below a.heap.size a c := h.trans (k.mono h.size)

def verText (n : Int) : Bs := [72, 84, 84, 80, 47, 49, 46] ++ Lib.itoa n
theorem ver_text (n : Int) : (⟨#[72, 84, 84, 80, 47, 49, 46]⟩ : ByteArray) ++ ⟨(Lib.itoa n).toArray⟩ = ⟨(verText n).toArray⟩ := by
  apply ByteArray.ext; simp [verText]
theorem verText_len (n : Int) (h0 : -9223372036854775808 ≤ n) (h1 : n ≤ 9223372036854775807) : (verText n).length ≤ 28 := by
  have := Lib.itoa_length_le n h0 h1
  unfold verText; simp; omega
theorem itoa_size (n : Int) (h0 : -9223372036854775808 ≤ n) (h1 : n ≤ 9223372036854775807) : (⟨(Lib.itoa n).toArray⟩ : ByteArray).size ≤ 21 := by
  have := Lib.itoa_length_le n h0 h1
  show (Lib.itoa n).toArray.size ≤ 21
  rw [List.size_toArray]; exact this

set_option maxHeartbeats 1000000 in
theorem version_any (n : Int) (w : World) (h0 : -9223372036854775808 ≤ n) (h1 : n ≤ 9223372036854775807) (hE : Env w) :
    Calls Tryd.prog 34 #[.int .i64 n] w fun e w' => e = .returned (.string ⟨(verText n).toArray⟩) ∧ Below w.heap.size w w' := by
  have HE := Lib.hid hE
  have hsz := itoa_size n h0 h1
  obtain ⟨T, hT⟩ : ∃ T : ByteArray, T = ⟨(Lib.itoa n).toArray⟩ := ⟨_, rfl⟩
  have HT := Lib.hid hT
  have HV := Lib.hid (show (⟨#[72, 84, 84, 80, 47, 49, 46]⟩ : ByteArray) ++ T = ⟨(verText n).toArray⟩ from by rw [hT]; exact ver_text n)
  rw [← hT] at hsz
  clear hE hT
  go_enter Tryd.func34, Tryd.ntmps34
  go_wp2_with fail
  refine (strconv_Itoa n h0 h1 _ HE.out.p10).mono ?_
  rintro e w1 ⟨rfl, k, os, hw⟩
  rw [← HT.out]
  have HB := Lib.hid (show Below w.heap.size w w1 from by rw [hw]; exact below_grow k os)
  clear hw
  go_wp2_with fail
  go_ret
  exact ⟨by rw [← HV.out]; rfl, HB.out⟩

/-- A request's parts are wrong. -/
def reqBad (a b : ByteArray) (n : Int) : Bool := !(isTok a.data.toList && isTgt b.data.toList && isMin n)
def stBad (n c : Int) (r : ByteArray) : Bool := !(isMin n && isCod c && isRsn r.data.toList)

set_option maxHeartbeats 1000000 in
theorem reqWrong_any (g : Nat) (a b : ByteArray) (n : Int) (w : World) (ha : a.size ≤ maxLen) (hb : b.size ≤ maxLen) (hC : C3 g 9 9 3 (.string a) (.string b) (.int .i64 n) w) (hT : Tab w) :
    Calls Tryd.prog 32 #[.pointer (some ⟨g, 0, none⟩), .pointer (some ⟨g + 1, 0, none⟩), .pointer (some ⟨g + 2, 0, none⟩)] w fun e w' => e = .returned (.bool (reqBad a b n)) ∧ w' = w := by
  have c0 := cell_of_one hC.h0
  have c1 := cell_of_one hC.h1
  have c2 := cell_of_one hC.h2
  have HT := Lib.hid hT
  have HA := Lib.hid ha
  have HB := Lib.hid hb
  clear hC hT ha hb
  cases h1 : isTok a.data.toList with
  | false =>
    have HV := Lib.hid (show reqBad a b n = true from by unfold reqBad; rw [h1]; rfl)
    have H1 := Lib.hid h1
    clear h1
    go_enter Tryd.func32, Tryd.ntmps32
    go_wp2_with fail
    refine (is_any a _ HA.out HT.out).mono ?_
    rintro e w' ⟨rfl, rfl⟩
    rw [H1.out]
    go_wp2_with fail
    go_ret
    exact ⟨by rw [HV.out]; rfl, rfl⟩
  | true =>
    have H1 := Lib.hid h1
    cases h2 : isTgt b.data.toList with
    | false =>
      have HV := Lib.hid (show reqBad a b n = true from by unfold reqBad; rw [h1, h2]; rfl)
      have H2 := Lib.hid h2
      clear h1 h2
      go_enter Tryd.func32, Tryd.ntmps32
      go_wp2_with fail
      refine (is_any a _ HA.out HT.out).mono ?_
      rintro e w' ⟨rfl, rfl⟩
      rw [H1.out]
      go_wp2_with fail
      refine (isTarget_any b _ HB.out).mono ?_
      rintro e w' ⟨rfl, rfl⟩
      rw [H2.out]
      go_wp2_with fail
      go_ret
      exact ⟨by rw [HV.out]; rfl, rfl⟩
    | true =>
      have HV := Lib.hid (show reqBad a b n = !isMin n from by unfold reqBad; rw [h1, h2]; rfl)
      have H2 := Lib.hid h2
      clear h1 h2
      go_enter Tryd.func32, Tryd.ntmps32
      go_wp2_with fail
      refine (is_any a _ HA.out HT.out).mono ?_
      rintro e w' ⟨rfl, rfl⟩
      rw [H1.out]
      go_wp2_with fail
      refine (isTarget_any b _ HB.out).mono ?_
      rintro e w' ⟨rfl, rfl⟩
      rw [H2.out]
      go_wp2_with fail
      refine (isMinor_any n _).mono ?_
      rintro e w' ⟨rfl, rfl⟩
      go_wp2_with fail
      go_ret
      exact ⟨by rw [HV.out]; rfl, rfl⟩

set_option maxHeartbeats 1000000 in
theorem stWrong_any (g : Nat) (n c : Int) (r : ByteArray) (w : World) (hr : r.size ≤ maxLen) (hC : C3 g 3 3 9 (.int .i64 n) (.int .i64 c) (.string r) w) :
    Calls Tryd.prog 35 #[.pointer (some ⟨g, 0, none⟩), .pointer (some ⟨g + 1, 0, none⟩), .pointer (some ⟨g + 2, 0, none⟩)] w fun e w' => e = .returned (.bool (stBad n c r)) ∧ w' = w := by
  have c0 := cell_of_one hC.h0
  have c1 := cell_of_one hC.h1
  have c2 := cell_of_one hC.h2
  have HB := Lib.hid hr
  clear hC hr
  cases h1 : isMin n with
  | false =>
    have HV := Lib.hid (show stBad n c r = true from by unfold stBad; rw [h1]; rfl)
    have H1 := Lib.hid h1
    clear h1
    go_enter Tryd.func35, Tryd.ntmps35
    go_wp2_with fail
    refine (isMinor_any n _).mono ?_
    rintro e w' ⟨rfl, rfl⟩
    rw [H1.out]
    go_wp2_with fail
    go_ret
    exact ⟨by rw [HV.out]; rfl, rfl⟩
  | true =>
    have H1 := Lib.hid h1
    cases h2 : isCod c with
    | false =>
      have HV := Lib.hid (show stBad n c r = true from by unfold stBad; rw [h1, h2]; rfl)
      have H2 := Lib.hid h2
      clear h1 h2
      go_enter Tryd.func35, Tryd.ntmps35
      go_wp2_with fail
      refine (isMinor_any n _).mono ?_
      rintro e w' ⟨rfl, rfl⟩
      rw [H1.out]
      go_wp2_with fail
      refine (isCode_any c _).mono ?_
      rintro e w' ⟨rfl, rfl⟩
      rw [H2.out]
      go_wp2_with fail
      go_ret
      exact ⟨by rw [HV.out]; rfl, rfl⟩
    | true =>
      have HV := Lib.hid (show stBad n c r = !isRsn r.data.toList from by unfold stBad; rw [h1, h2]; rfl)
      have H2 := Lib.hid h2
      clear h1 h2
      go_enter Tryd.func35, Tryd.ntmps35
      go_wp2_with fail
      refine (isMinor_any n _).mono ?_
      rintro e w' ⟨rfl, rfl⟩
      rw [H1.out]
      go_wp2_with fail
      refine (isCode_any c _).mono ?_
      rintro e w' ⟨rfl, rfl⟩
      rw [H2.out]
      go_wp2_with fail
      refine (isReason_any r _ HB.out).mono ?_
      rintro e w' ⟨rfl, rfl⟩
      go_wp2_with fail
      go_ret
      exact ⟨by rw [HV.out]; rfl, rfl⟩

/-- What tell answers of three parts. -/
def tellVal (bad : Bool) (J : ByteArray) : Value :=
  if bad then .tuple #[.string ⟨#[]⟩, .int .i64 2] else if 1024 < J.size then .tuple #[.string ⟨#[]⟩, .int .i64 3] else .tuple #[.string J, .int .i64 0]
def three (x y z : ByteArray) : ByteArray := ⟨(x.data.toList ++ 32 :: y.data.toList ++ 32 :: z.data.toList).toArray⟩
theorem join_three (x y z : ByteArray) : Lib.join ([x, y, z].map (·.data.toList)) (⟨#[32]⟩ : ByteArray).data.toList = x.data.toList ++ 32 :: y.data.toList ++ 32 :: z.data.toList := by
  show Lib.join (x.data.toList :: [y.data.toList, z.data.toList]) [32] = _
  rw [Lib.join_cons]
  simp [Lib.joinTail]
theorem three_size (x y z : ByteArray) : (three x y z).size = x.size + y.size + z.size + 2 := by
  show (x.data.toList ++ 32 :: y.data.toList ++ 32 :: z.data.toList).toArray.size = _
  rw [List.size_toArray]
  simp
  have e1 : x.data.size = x.size := rfl
  have e2 : y.data.size = y.size := rfl
  have e3 : z.data.size = z.size := rfl
  omega

set_option maxHeartbeats 1000000 in
theorem tell_any (f : FuncId) (p q r : Value) (bad : Bool) (bk : Nat) (x y z : ByteArray) (w : World)
    (he : ∀ args w, (callFunc f args).run Tryd.prog w = .ok (.enter f args) w) (hw : Calls Tryd.prog f #[p, q, r] w fun e w' => e = .returned (.bool bad) ∧ w' = w)
    (hx : x.size ≤ 2097152) (hy : y.size ≤ 2097152) (hz : z.size ≤ 2097152)
    (h0 : w.cell? ⟨bk, 0, none⟩ = some (.string x)) (h1 : w.cell? ⟨bk, 1, none⟩ = some (.string y)) (h2 : w.cell? ⟨bk, 2, none⟩ = some (.string z)) :
    Calls Tryd.prog 33 #[.func (.func f) #[] #[p, q, r], .slice (some ⟨bk, 0, none⟩) 3 3] w fun e w' => e = .returned (tellVal bad (three x y z)) ∧ Below w.heap.size w w' := by
  have hbk : bk < w.heap.size := World.block_lt_of_cell? w _ h0
  have hsz := three_size x y z
  have HJ := Lib.hid (strings_Join bk 0 3 [x, y, z] ⟨#[32]⟩ w (by
    intro j s hs
    match j with
    | 0 => injection hs with hs; rw [← hs]; exact h0
    | 1 => injection hs with hs; rw [← hs]; exact h1
    | 2 => injection hs with hs; rw [← hs]; exact h2
    | j + 3 => simp at hs) hbk (by simp) (by simp) (by
    rw [join_three]
    have e : (three x y z).size = (x.data.toList ++ 32 :: y.data.toList ++ 32 :: z.data.toList).length := by
      show (x.data.toList ++ 32 :: y.data.toList ++ 32 :: z.data.toList).toArray.size = _
      rw [List.size_toArray]
    omega))
  have HW := Lib.hid hw
  clear hw h0 h1 h2
  cases bad with
  | true =>
    go_enter Tryd.func33, Tryd.ntmps33
    go_wp2_with fail
    refine HW.out.mono ?_
    rintro e w' ⟨rfl, rfl⟩
    go_wp2_with fail
    go_ret2
    exact ⟨rfl, Below.refl _ _⟩
  | false =>
    obtain ⟨J, hJ⟩ : ∃ J, J = three x y z := ⟨_, rfl⟩
    rw [← hJ] at hsz
    have hJs : J.size ≤ 6291458 := by omega
    clear hsz
    have HJe := Lib.hid (show (⟨(Lib.join ([x, y, z].map (·.data.toList)) (⟨#[32]⟩ : ByteArray).data.toList).toArray⟩ : ByteArray) = J from by rw [join_three, hJ]; rfl)
    have HT := Lib.hid hJ
    clear hJ
    by_cases hbig : 1024 < J.size
    · have HV := Lib.hid (show tellVal false (three x y z) = .tuple #[.string ⟨#[]⟩, .int .i64 3] from by rw [← HT.out]; unfold tellVal; rw [if_neg (by decide), if_pos hbig])
      go_enter Tryd.func33, Tryd.ntmps33
      go_wp2_with fail
      refine HW.out.mono ?_
      rintro e w' ⟨rfl, rfl⟩
      go_wp2_with fail
      refine HJ.out.mono ?_
      rintro e w1 ⟨rfl, hb⟩
      rw [HJe.out]
      go_wp2_with fail
      go_ret2
      exact ⟨by rw [HV.out]; rfl, hb⟩
    · have HV := Lib.hid (show tellVal false (three x y z) = .tuple #[.string J, .int .i64 0] from by rw [← HT.out]; unfold tellVal; rw [if_neg (by decide), if_neg hbig])
      go_enter Tryd.func33, Tryd.ntmps33
      go_wp2_with fail
      refine HW.out.mono ?_
      rintro e w' ⟨rfl, rfl⟩
      go_wp2_with fail
      refine HJ.out.mono ?_
      rintro e w1 ⟨rfl, hb⟩
      rw [HJe.out]
      go_wp2_with fail
      go_ret2
      exact ⟨by rw [HV.out]; rfl, hb⟩
end Go.Proofs.YtldlhnppinodbaaDoor.Ln
