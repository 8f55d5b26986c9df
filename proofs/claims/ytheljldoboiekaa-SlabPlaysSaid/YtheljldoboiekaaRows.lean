/-
  No cell of these rows narrows 'for every input' (looked for: loops, veiled, ifaces, maps, wideKeys, modest, calm, conditions, laid).
  DERIVED. THE GIVEN ROWS OF THIS SEAT. 5 by the template 'for every input the law returns true; each argument reads behind the call as it read before'; 0 by the template 'total and deterministic' (their statements: YtheljldoboiekaaTotals.lean).
  GIVEN WITH THE SEED: the statements are not yours to turn. If you find one false, say at which input.
  Laid BY PROGRAM, IN A SANDBOX (cutbox-rows.mjs): the forced cells as the released guide's own fill.sh prints them over the translation 5b38bae79d7a49e0… (all of the seat's roots in one cut). By AI agents, Wed Nov 11 2026. No macro, syntax, notation, axiom, sorry.
-/
import Derived.Test.YtheljldoboiekaaChecked
import GoSem.Claim
import GoSem.ClaimJoined
import GoSem.ClaimMapViews
import Derived.JoinedTies
import Derived.KernelRfl
namespace Go.Proofs.Ytheljldoboiekaa
/- THE CELL 'sum', in the pinned program and in every row, IS THE sha256 OF THE DUMP (.gsa) THAT YtheljldoboiekaaProg.lean LOADS. Nothing in Lean hashes anything: it is a label: what it is worth is what the hold of that sum in a sandbox is worth. -/
noncomputable def Try.pinned : Pinned := { name := "ytheljldoboiekaa", sum := "5b38bae79d7a49e0219cf4fa8a690e776c0749a9f90e78e12f655173e5e871dc", checked := Try.checked }
namespace Rows
def none {H : Type} : Left H := { results := [], args := [] }

/-- 'gatepostlaw15.SlabPlays': WHATEVER THE INPUT: true; the input reads as it did. -/
def slabPlaysSpec : ChangeSpec := { name := "slabPlays", fn := fun _ => fun
  | [d1, d2] => { results := [.lit (.bool true)], args := [d1, d2] }
  | _ => none }
def slabPlaysRow : OpenClaim := { program := "ytheljldoboiekaa", sum := "5b38bae79d7a49e0219cf4fa8a690e776c0749a9f90e78e12f655173e5e871dc", func := "gatepost/gatepostlaw15.SlabPlays", spec := "slabPlays", unfollowed := true, recurses := true, apart := false }
def SlabPlaysSaid : Prop := slabPlaysRow.holds Try.pinned (OpenSpec.ofChange slabPlaysSpec)

/-- ITS FALSE NEIGHBOUR: 'it returns false'. Refute it at one input. -/
def slabPlaysWrong : ChangeSpec := { name := "slabPlays", fn := fun _ => fun
  | [d1, d2] => { results := [.lit (.bool false)], args := [d1, d2] }
  | _ => none }
def SlabPlaysWrongFalsely : Prop := slabPlaysRow.holds Try.pinned (OpenSpec.ofChange slabPlaysWrong)

/-- 'gatepostlaw15.SlabNobody': WHATEVER THE INPUT: true; the input reads as it did. -/
def slabNobodySpec : ChangeSpec := { name := "slabNobody", fn := fun _ => fun
  | [d] => { results := [.lit (.bool true)], args := [d] }
  | _ => none }
def slabNobodyRow : OpenClaim := { program := "ytheljldoboiekaa", sum := "5b38bae79d7a49e0219cf4fa8a690e776c0749a9f90e78e12f655173e5e871dc", func := "gatepost/gatepostlaw15.SlabNobody", spec := "slabNobody", unfollowed := true, recurses := true, apart := false }
def SlabNobodySaid : Prop := slabNobodyRow.holds Try.pinned (OpenSpec.ofChange slabNobodySpec)

/-- ITS FALSE NEIGHBOUR: 'it returns false'. Refute it at one input. -/
def slabNobodyWrong : ChangeSpec := { name := "slabNobody", fn := fun _ => fun
  | [d] => { results := [.lit (.bool false)], args := [d] }
  | _ => none }
def SlabNobodyWrongFalsely : Prop := slabNobodyRow.holds Try.pinned (OpenSpec.ofChange slabNobodyWrong)

/-- 'gatepostlaw15.SlabBack': WHATEVER THE INPUT: true; the input reads as it did. -/
def slabBackSpec : ChangeSpec := { name := "slabBack", fn := fun _ => fun
  | [d1, d2, d3] => { results := [.lit (.bool true)], args := [d1, d2, d3] }
  | _ => none }
def slabBackRow : OpenClaim := { program := "ytheljldoboiekaa", sum := "5b38bae79d7a49e0219cf4fa8a690e776c0749a9f90e78e12f655173e5e871dc", func := "gatepost/gatepostlaw15.SlabBack", spec := "slabBack", unfollowed := true, recurses := true, apart := false }
def SlabBackSaid : Prop := slabBackRow.holds Try.pinned (OpenSpec.ofChange slabBackSpec)

/-- ITS FALSE NEIGHBOUR: 'it returns false'. Refute it at one input. -/
def slabBackWrong : ChangeSpec := { name := "slabBack", fn := fun _ => fun
  | [d1, d2, d3] => { results := [.lit (.bool false)], args := [d1, d2, d3] }
  | _ => none }
def SlabBackWrongFalsely : Prop := slabBackRow.holds Try.pinned (OpenSpec.ofChange slabBackWrong)

/-- 'gatepostlaw15.SlabFills': WHATEVER THE INPUT: true; the input reads as it did. -/
def slabFillsSpec : ChangeSpec := { name := "slabFills", fn := fun _ => fun
  | [d1, d2, d3] => { results := [.lit (.bool true)], args := [d1, d2, d3] }
  | _ => none }
def slabFillsRow : OpenClaim := { program := "ytheljldoboiekaa", sum := "5b38bae79d7a49e0219cf4fa8a690e776c0749a9f90e78e12f655173e5e871dc", func := "gatepost/gatepostlaw15.SlabFills", spec := "slabFills", unfollowed := true, recurses := true, apart := false }
def SlabFillsSaid : Prop := slabFillsRow.holds Try.pinned (OpenSpec.ofChange slabFillsSpec)

/-- ITS FALSE NEIGHBOUR: 'it returns false'. Refute it at one input. -/
def slabFillsWrong : ChangeSpec := { name := "slabFills", fn := fun _ => fun
  | [d1, d2, d3] => { results := [.lit (.bool false)], args := [d1, d2, d3] }
  | _ => none }
def SlabFillsWrongFalsely : Prop := slabFillsRow.holds Try.pinned (OpenSpec.ofChange slabFillsWrong)

/-- 'gatepostlaw15.SlabGens': WHATEVER THE INPUT: true; the input reads as it did. -/
def slabGensSpec : ChangeSpec := { name := "slabGens", fn := fun _ => fun
  | [d1, d2] => { results := [.lit (.bool true)], args := [d1, d2] }
  | _ => none }
def slabGensRow : OpenClaim := { program := "ytheljldoboiekaa", sum := "5b38bae79d7a49e0219cf4fa8a690e776c0749a9f90e78e12f655173e5e871dc", func := "gatepost/gatepostlaw15.SlabGens", spec := "slabGens", unfollowed := true, recurses := true, apart := false }
def SlabGensSaid : Prop := slabGensRow.holds Try.pinned (OpenSpec.ofChange slabGensSpec)

/-- ITS FALSE NEIGHBOUR: 'it returns false'. Refute it at one input. -/
def slabGensWrong : ChangeSpec := { name := "slabGens", fn := fun _ => fun
  | [d1, d2] => { results := [.lit (.bool false)], args := [d1, d2] }
  | _ => none }
def SlabGensWrongFalsely : Prop := slabGensRow.holds Try.pinned (OpenSpec.ofChange slabGensWrong)

/- THE SECOND FORM. 'bulk': how many values and letters a reading holds, each counted each time it is reached (what is shared counts as often as it is met; a slice's spare places count too). A statement '..UptoSaid' is the law's where the arguments, and the package variables that the reading takes, are together of bulk at most 1048576: NARROWER than '..Said'. Prove '..Said' where nothing that the law and all that it calls make is longer than what came in: it says more and counts as full. Else prove '..UptoSaid'. A law counts once. -/
mutual
def uptoBulk {H : Type} : DataW H → Nat
  | .lit (.string bytes) => bytes.length + 1
  | .lit _ => 1
  | .nil => 1
  | .ptr d => uptoBulk d + 1
  | .slice elems spare => uptoBulkAll elems + uptoBulkAll spare + 1
  | .agg parts => uptoBulkAll parts + 1
  | .iface _ d => uptoBulk d + 1
  | .map entries => uptoBulkEntries entries + 1
  | .held _ => 1
def uptoBulkAll {H : Type} : List (DataW H) → Nat
  | [] => 0
  | d :: r => uptoBulk d + uptoBulkAll r
def uptoBulkEntries {H : Type} : List (Lit × DataW H) → Nat
  | [] => 0
  | x :: r => uptoBulkEntry x + uptoBulkEntries r
def uptoBulkEntry {H : Type} : Lit × DataW H → Nat
  | (.string bytes, d) => bytes.length + uptoBulk d + 1
  | (_, d) => uptoBulk d + 1
 end
def uptoSmall : (H : Type) → List (DataW H) → Bool := fun _ ds => decide (uptoBulkAll ds ≤ 1048576)
def OpenSpec.upto (s : _root_.Go.ChangeSpec) : _root_.Go.OpenSpec := { _root_.Go.OpenSpec.ofChange s with cond := some uptoSmall }

/-- 'gatepostlaw15.SlabPlays', WHERE WHAT IT READS IS OF BULK AT MOST 1048576: true; the input reads as it did. -/
def slabPlaysUptoRow : OpenClaim := { program := "ytheljldoboiekaa", sum := "5b38bae79d7a49e0219cf4fa8a690e776c0749a9f90e78e12f655173e5e871dc", func := "gatepost/gatepostlaw15.SlabPlays", spec := "slabPlays", unfollowed := true, recurses := true, apart := false, narrowed := true }
def SlabPlaysUptoSaid : Prop := slabPlaysUptoRow.holds Try.pinned (OpenSpec.upto slabPlaysSpec)

/-- 'gatepostlaw15.SlabNobody', WHERE WHAT IT READS IS OF BULK AT MOST 1048576: true; the input reads as it did. -/
def slabNobodyUptoRow : OpenClaim := { program := "ytheljldoboiekaa", sum := "5b38bae79d7a49e0219cf4fa8a690e776c0749a9f90e78e12f655173e5e871dc", func := "gatepost/gatepostlaw15.SlabNobody", spec := "slabNobody", unfollowed := true, recurses := true, apart := false, narrowed := true }
def SlabNobodyUptoSaid : Prop := slabNobodyUptoRow.holds Try.pinned (OpenSpec.upto slabNobodySpec)

/-- 'gatepostlaw15.SlabBack', WHERE WHAT IT READS IS OF BULK AT MOST 1048576: true; the input reads as it did. -/
def slabBackUptoRow : OpenClaim := { program := "ytheljldoboiekaa", sum := "5b38bae79d7a49e0219cf4fa8a690e776c0749a9f90e78e12f655173e5e871dc", func := "gatepost/gatepostlaw15.SlabBack", spec := "slabBack", unfollowed := true, recurses := true, apart := false, narrowed := true }
def SlabBackUptoSaid : Prop := slabBackUptoRow.holds Try.pinned (OpenSpec.upto slabBackSpec)

/-- 'gatepostlaw15.SlabFills', WHERE WHAT IT READS IS OF BULK AT MOST 1048576: true; the input reads as it did. -/
def slabFillsUptoRow : OpenClaim := { program := "ytheljldoboiekaa", sum := "5b38bae79d7a49e0219cf4fa8a690e776c0749a9f90e78e12f655173e5e871dc", func := "gatepost/gatepostlaw15.SlabFills", spec := "slabFills", unfollowed := true, recurses := true, apart := false, narrowed := true }
def SlabFillsUptoSaid : Prop := slabFillsUptoRow.holds Try.pinned (OpenSpec.upto slabFillsSpec)

/-- 'gatepostlaw15.SlabGens', WHERE WHAT IT READS IS OF BULK AT MOST 1048576: true; the input reads as it did. -/
def slabGensUptoRow : OpenClaim := { program := "ytheljldoboiekaa", sum := "5b38bae79d7a49e0219cf4fa8a690e776c0749a9f90e78e12f655173e5e871dc", func := "gatepost/gatepostlaw15.SlabGens", spec := "slabGens", unfollowed := true, recurses := true, apart := false, narrowed := true }
def SlabGensUptoSaid : Prop := slabGensUptoRow.holds Try.pinned (OpenSpec.upto slabGensSpec)

end Rows
end Go.Proofs.Ytheljldoboiekaa
