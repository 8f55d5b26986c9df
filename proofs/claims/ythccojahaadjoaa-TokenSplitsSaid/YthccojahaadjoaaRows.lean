/-
  No cell of these rows narrows 'for every input' (looked for: loops, veiled, ifaces, maps, wideKeys, modest, calm, conditions, laid).
  DERIVED. THE GIVEN ROWS OF THIS SEAT. 4 by the template 'for every input the law returns true; each argument reads behind the call as it read before'; 0 by the template 'total and deterministic' (their statements: YthccojahaadjoaaTotals.lean).
  GIVEN WITH THE SEED: the statements are not yours to turn. If you find one false, say at which input.
  Laid BY PROGRAM, IN A SANDBOX (cutbox-rows.mjs): the forced cells as the released guide's own fill.sh prints them over the translation 0cb4fe79a2a8ad29… (all of the seat's roots in one cut). By AI agents, Wed Nov 11 2026. No macro, syntax, notation, axiom, sorry.
-/
import Derived.Test.YthccojahaadjoaaChecked
import GoSem.Claim
import GoSem.ClaimJoined
import GoSem.ClaimMapViews
import Derived.JoinedTies
import Derived.KernelRfl
namespace Go.Proofs.Ythccojahaadjoaa
/- THE CELL 'sum', in the pinned program and in every row, IS THE sha256 OF THE DUMP (.gsa) THAT YthccojahaadjoaaProg.lean LOADS. Nothing in Lean hashes anything: it is a label: what it is worth is what the hold of that sum in a sandbox is worth. -/
noncomputable def Try.pinned : Pinned := { name := "ythccojahaadjoaa", sum := "0cb4fe79a2a8ad293209b8db74f9a0b6ef4cfcd90287415858789d8a7649a1be", checked := Try.checked }
namespace Rows
def none {H : Type} : Left H := { results := [], args := [] }

/-- 'gatepostlaw01.TokenSplits': WHATEVER THE INPUT: true; the input reads as it did. -/
def tokenSplitsSpec : ChangeSpec := { name := "tokenSplits", fn := fun _ => fun
  | [d] => { results := [.lit (.bool true)], args := [d] }
  | _ => none }
def tokenSplitsRow : OpenClaim := { program := "ythccojahaadjoaa", sum := "0cb4fe79a2a8ad293209b8db74f9a0b6ef4cfcd90287415858789d8a7649a1be", func := "gatepost/gatepostlaw01.TokenSplits", spec := "tokenSplits", unfollowed := true, recurses := true, apart := false }
def TokenSplitsSaid : Prop := tokenSplitsRow.holds Try.pinned (OpenSpec.ofChange tokenSplitsSpec)

/-- ITS FALSE NEIGHBOUR: 'it returns false'. Refute it at one input. -/
def tokenSplitsWrong : ChangeSpec := { name := "tokenSplits", fn := fun _ => fun
  | [d] => { results := [.lit (.bool false)], args := [d] }
  | _ => none }
def TokenSplitsWrongFalsely : Prop := tokenSplitsRow.holds Try.pinned (OpenSpec.ofChange tokenSplitsWrong)

/-- 'gatepostlaw01.TokenNumbers': WHATEVER THE INPUT: true; the input reads as it did. -/
def tokenNumbersSpec : ChangeSpec := { name := "tokenNumbers", fn := fun _ => fun
  | [d1, d2] => { results := [.lit (.bool true)], args := [d1, d2] }
  | _ => none }
def tokenNumbersRow : OpenClaim := { program := "ythccojahaadjoaa", sum := "0cb4fe79a2a8ad293209b8db74f9a0b6ef4cfcd90287415858789d8a7649a1be", func := "gatepost/gatepostlaw01.TokenNumbers", spec := "tokenNumbers", apart := false }
def TokenNumbersSaid : Prop := tokenNumbersRow.holds Try.pinned (OpenSpec.ofChange tokenNumbersSpec)

/-- ITS FALSE NEIGHBOUR: 'it returns false'. Refute it at one input. -/
def tokenNumbersWrong : ChangeSpec := { name := "tokenNumbers", fn := fun _ => fun
  | [d1, d2] => { results := [.lit (.bool false)], args := [d1, d2] }
  | _ => none }
def TokenNumbersWrongFalsely : Prop := tokenNumbersRow.holds Try.pinned (OpenSpec.ofChange tokenNumbersWrong)

/-- 'gatepostlaw01.TokenLowers': WHATEVER THE INPUT: true; the input reads as it did. -/
def tokenLowersSpec : ChangeSpec := { name := "tokenLowers", fn := fun _ => fun
  | [d1, d2] => { results := [.lit (.bool true)], args := [d1, d2] }
  | _ => none }
def tokenLowersRow : OpenClaim := { program := "ythccojahaadjoaa", sum := "0cb4fe79a2a8ad293209b8db74f9a0b6ef4cfcd90287415858789d8a7649a1be", func := "gatepost/gatepostlaw01.TokenLowers", spec := "tokenLowers", apart := false }
def TokenLowersSaid : Prop := tokenLowersRow.holds Try.pinned (OpenSpec.ofChange tokenLowersSpec)

/-- ITS FALSE NEIGHBOUR: 'it returns false'. Refute it at one input. -/
def tokenLowersWrong : ChangeSpec := { name := "tokenLowers", fn := fun _ => fun
  | [d1, d2] => { results := [.lit (.bool false)], args := [d1, d2] }
  | _ => none }
def TokenLowersWrongFalsely : Prop := tokenLowersRow.holds Try.pinned (OpenSpec.ofChange tokenLowersWrong)

/-- 'gatepostlaw01.TokenTrims': WHATEVER THE INPUT: true; the input reads as it did. -/
def tokenTrimsSpec : ChangeSpec := { name := "tokenTrims", fn := fun _ => fun
  | [d1, d2, d3] => { results := [.lit (.bool true)], args := [d1, d2, d3] }
  | _ => none }
def tokenTrimsRow : OpenClaim := { program := "ythccojahaadjoaa", sum := "0cb4fe79a2a8ad293209b8db74f9a0b6ef4cfcd90287415858789d8a7649a1be", func := "gatepost/gatepostlaw01.TokenTrims", spec := "tokenTrims", apart := false }
def TokenTrimsSaid : Prop := tokenTrimsRow.holds Try.pinned (OpenSpec.ofChange tokenTrimsSpec)

/-- ITS FALSE NEIGHBOUR: 'it returns false'. Refute it at one input. -/
def tokenTrimsWrong : ChangeSpec := { name := "tokenTrims", fn := fun _ => fun
  | [d1, d2, d3] => { results := [.lit (.bool false)], args := [d1, d2, d3] }
  | _ => none }
def TokenTrimsWrongFalsely : Prop := tokenTrimsRow.holds Try.pinned (OpenSpec.ofChange tokenTrimsWrong)

/- THE SECOND FORM. 'bulk': how many values and letters a reading holds, each counted each time it is reached (what is shared counts as often as it is met; a slice's spare places count too). A statement '..UptoSaid' is the law's where the arguments, and the package variables that the reading takes, are together of bulk at most 1048576: NARROWER than '..Said'. Prove '..Said' where nothing that the law and all that it calls make is longer than what came in: it says more and counts as full. Else prove '..UptoSaid'. A law counts once. -/
mutual
def uptoBulk {H : Type} : DataW H → Nat
  | .lit (.string bytes) => bytes.length + 1
  | .lit _ => 1
  | .nil => 1
  | .ptr d => uptoBulk d + 1
  | .slice elems spare => uptoBulkAll elems + uptoBulkAll spare + 1
  | .agg parts => uptoBulkAll parts + 1
  | .iface _ d => uptoBulk d + 1
  | .map entries => uptoBulkEntries entries + 1
  | .held _ => 1
def uptoBulkAll {H : Type} : List (DataW H) → Nat
  | [] => 0
  | d :: r => uptoBulk d + uptoBulkAll r
def uptoBulkEntries {H : Type} : List (Lit × DataW H) → Nat
  | [] => 0
  | x :: r => uptoBulkEntry x + uptoBulkEntries r
def uptoBulkEntry {H : Type} : Lit × DataW H → Nat
  | (.string bytes, d) => bytes.length + uptoBulk d + 1
  | (_, d) => uptoBulk d + 1
 end
def uptoSmall : (H : Type) → List (DataW H) → Bool := fun _ ds => decide (uptoBulkAll ds ≤ 1048576)
def OpenSpec.upto (s : _root_.Go.ChangeSpec) : _root_.Go.OpenSpec := { _root_.Go.OpenSpec.ofChange s with cond := some uptoSmall }

/-- 'gatepostlaw01.TokenSplits', WHERE WHAT IT READS IS OF BULK AT MOST 1048576: true; the input reads as it did. -/
def tokenSplitsUptoRow : OpenClaim := { program := "ythccojahaadjoaa", sum := "0cb4fe79a2a8ad293209b8db74f9a0b6ef4cfcd90287415858789d8a7649a1be", func := "gatepost/gatepostlaw01.TokenSplits", spec := "tokenSplits", unfollowed := true, recurses := true, apart := false, narrowed := true }
def TokenSplitsUptoSaid : Prop := tokenSplitsUptoRow.holds Try.pinned (OpenSpec.upto tokenSplitsSpec)

/-- 'gatepostlaw01.TokenNumbers', WHERE WHAT IT READS IS OF BULK AT MOST 1048576: true; the input reads as it did. -/
def tokenNumbersUptoRow : OpenClaim := { program := "ythccojahaadjoaa", sum := "0cb4fe79a2a8ad293209b8db74f9a0b6ef4cfcd90287415858789d8a7649a1be", func := "gatepost/gatepostlaw01.TokenNumbers", spec := "tokenNumbers", apart := false, narrowed := true }
def TokenNumbersUptoSaid : Prop := tokenNumbersUptoRow.holds Try.pinned (OpenSpec.upto tokenNumbersSpec)

/-- 'gatepostlaw01.TokenLowers', WHERE WHAT IT READS IS OF BULK AT MOST 1048576: true; the input reads as it did. -/
def tokenLowersUptoRow : OpenClaim := { program := "ythccojahaadjoaa", sum := "0cb4fe79a2a8ad293209b8db74f9a0b6ef4cfcd90287415858789d8a7649a1be", func := "gatepost/gatepostlaw01.TokenLowers", spec := "tokenLowers", apart := false, narrowed := true }
def TokenLowersUptoSaid : Prop := tokenLowersUptoRow.holds Try.pinned (OpenSpec.upto tokenLowersSpec)

/-- 'gatepostlaw01.TokenTrims', WHERE WHAT IT READS IS OF BULK AT MOST 1048576: true; the input reads as it did. -/
def tokenTrimsUptoRow : OpenClaim := { program := "ythccojahaadjoaa", sum := "0cb4fe79a2a8ad293209b8db74f9a0b6ef4cfcd90287415858789d8a7649a1be", func := "gatepost/gatepostlaw01.TokenTrims", spec := "tokenTrims", apart := false, narrowed := true }
def TokenTrimsUptoSaid : Prop := tokenTrimsUptoRow.holds Try.pinned (OpenSpec.upto tokenTrimsSpec)

end Rows
end Go.Proofs.Ythccojahaadjoaa
