/-
  NARROWER THAN 'FOR EVERY INPUT', by the rows' own cells (each row's printed sentence says how): FreshTells: laid · FreshGrows: laid · FreshAsks: laid · FreshLonger: laid · FreshAges: laid.
  DERIVED. THE GIVEN ROWS OF THIS SEAT. 5 by the template 'for every input the law returns true; each argument reads behind the call as it read before'; 0 by the template 'total and deterministic' (their statements: YtbignmccpbccoaaDoorTotals.lean).
  GIVEN WITH THE SEED: the statements are not yours to turn. If you find one false, say at which input.
  Laid BY PROGRAM, IN A SANDBOX (cutbox-rows.mjs): the forced cells as the released guide's own fill.sh prints them over the translation 85d8f4dd65c92c13… (all of the seat's roots in one cut). By AI agents, Wed Nov 11 2026. No macro, syntax, notation, axiom, sorry.
-/
import Derived.Test.YtbignmccpbccoaaDoorChecked
import GoSem.Claim
import GoSem.ClaimJoined
import GoSem.ClaimMapViews
import Derived.JoinedTies
import Derived.KernelRfl
namespace Go.Proofs.YtbignmccpbccoaaDoor
/- THE CELL 'sum', in the pinned program and in every row, IS THE sha256 OF THE DUMP (.gsa) THAT YtbignmccpbccoaaDoorProg.lean LOADS. Nothing in Lean hashes anything: it is a label: what it is worth is what the hold of that sum in a sandbox is worth. -/
noncomputable def Tryd.pinned : Pinned := { name := "ytbignmccpbccoaadoor", sum := "85d8f4dd65c92c130bc3b914af8735b425d1009f0ccfb30bfe1f9ad3606bf878", checked := Tryd.checked }
namespace Rows
def none {H : Type} : Left H := { results := [], args := [] }

/- WHAT THE LISTED PACKAGE-LEVEL VARIABLES READ AS WHEN THE CALL BEGINS. Each datum BY PROGRAM (the guide's laid-datum.mjs) off the statement by which the dump's own 'gosem.cut.vars' lays the variable. In a bare row this is a premise. The card (YtbignmccpbccoaaDoorCards.lean) ties it to the program's text. -/
def laid_gatepost_fresh_kept {H : Type} : DataW H := .agg [.lit (.int .i64 200), .lit (.int .i64 203), .lit (.int .i64 204), .lit (.int .i64 206), .lit (.int .i64 300), .lit (.int .i64 301), .lit (.int .i64 308), .lit (.int .i64 404), .lit (.int .i64 405), .lit (.int .i64 410), .lit (.int .i64 414), .lit (.int .i64 501)]

/-- 'gatepostlaw09.FreshTells': WHATEVER THE INPUT: true; the input reads as it did. -/
def freshTellsSpec : ChangeSpec := { name := "freshTells", fn := fun _ => fun
  | [d1, d2, d3] => { results := [.lit (.bool true)], args := [d1, d2, d3] }
  | _ => none }
def freshTellsRow : OpenClaim := { program := "ytbignmccpbccoaadoor", sum := "85d8f4dd65c92c130bc3b914af8735b425d1009f0ccfb30bfe1f9ad3606bf878", func := "gatepost/gatepostlaw09.FreshTells", spec := "freshTells", unfollowed := true, recurses := true, named := ["gatepost/fresh.kept"], apart := false, laid := [("gatepost/fresh.kept", laid_gatepost_fresh_kept)] }
def FreshTellsSaid : Prop := freshTellsRow.holds Tryd.pinned (OpenSpec.ofChange freshTellsSpec)

/-- ITS FALSE NEIGHBOUR: 'it returns false'. Refute it at one input. -/
def freshTellsWrong : ChangeSpec := { name := "freshTells", fn := fun _ => fun
  | [d1, d2, d3] => { results := [.lit (.bool false)], args := [d1, d2, d3] }
  | _ => none }
def FreshTellsWrongFalsely : Prop := freshTellsRow.holds Tryd.pinned (OpenSpec.ofChange freshTellsWrong)

/-- 'gatepostlaw09.FreshGrows': WHATEVER THE INPUT: true; the input reads as it did. -/
def freshGrowsSpec : ChangeSpec := { name := "freshGrows", fn := fun _ => fun
  | [d1, d2] => { results := [.lit (.bool true)], args := [d1, d2] }
  | _ => none }
def freshGrowsRow : OpenClaim := { program := "ytbignmccpbccoaadoor", sum := "85d8f4dd65c92c130bc3b914af8735b425d1009f0ccfb30bfe1f9ad3606bf878", func := "gatepost/gatepostlaw09.FreshGrows", spec := "freshGrows", unfollowed := true, recurses := true, named := ["gatepost/fresh.kept"], apart := false, laid := [("gatepost/fresh.kept", laid_gatepost_fresh_kept)] }
def FreshGrowsSaid : Prop := freshGrowsRow.holds Tryd.pinned (OpenSpec.ofChange freshGrowsSpec)

/-- ITS FALSE NEIGHBOUR: 'it returns false'. Refute it at one input. -/
def freshGrowsWrong : ChangeSpec := { name := "freshGrows", fn := fun _ => fun
  | [d1, d2] => { results := [.lit (.bool false)], args := [d1, d2] }
  | _ => none }
def FreshGrowsWrongFalsely : Prop := freshGrowsRow.holds Tryd.pinned (OpenSpec.ofChange freshGrowsWrong)

/-- 'gatepostlaw09.FreshAsks': WHATEVER THE INPUT: true; the input reads as it did. -/
def freshAsksSpec : ChangeSpec := { name := "freshAsks", fn := fun _ => fun
  | [d1, d2, d3] => { results := [.lit (.bool true)], args := [d1, d2, d3] }
  | _ => none }
def freshAsksRow : OpenClaim := { program := "ytbignmccpbccoaadoor", sum := "85d8f4dd65c92c130bc3b914af8735b425d1009f0ccfb30bfe1f9ad3606bf878", func := "gatepost/gatepostlaw09.FreshAsks", spec := "freshAsks", unfollowed := true, recurses := true, named := ["gatepost/fresh.kept"], apart := false, laid := [("gatepost/fresh.kept", laid_gatepost_fresh_kept)] }
def FreshAsksSaid : Prop := freshAsksRow.holds Tryd.pinned (OpenSpec.ofChange freshAsksSpec)

/-- ITS FALSE NEIGHBOUR: 'it returns false'. Refute it at one input. -/
def freshAsksWrong : ChangeSpec := { name := "freshAsks", fn := fun _ => fun
  | [d1, d2, d3] => { results := [.lit (.bool false)], args := [d1, d2, d3] }
  | _ => none }
def FreshAsksWrongFalsely : Prop := freshAsksRow.holds Tryd.pinned (OpenSpec.ofChange freshAsksWrong)

/-- 'gatepostlaw09.FreshLonger': WHATEVER THE INPUT: true; the input reads as it did. -/
def freshLongerSpec : ChangeSpec := { name := "freshLonger", fn := fun _ => fun
  | [d1, d2, d3] => { results := [.lit (.bool true)], args := [d1, d2, d3] }
  | _ => none }
def freshLongerRow : OpenClaim := { program := "ytbignmccpbccoaadoor", sum := "85d8f4dd65c92c130bc3b914af8735b425d1009f0ccfb30bfe1f9ad3606bf878", func := "gatepost/gatepostlaw09.FreshLonger", spec := "freshLonger", unfollowed := true, recurses := true, named := ["gatepost/fresh.kept"], apart := false, laid := [("gatepost/fresh.kept", laid_gatepost_fresh_kept)] }
def FreshLongerSaid : Prop := freshLongerRow.holds Tryd.pinned (OpenSpec.ofChange freshLongerSpec)

/-- ITS FALSE NEIGHBOUR: 'it returns false'. Refute it at one input. -/
def freshLongerWrong : ChangeSpec := { name := "freshLonger", fn := fun _ => fun
  | [d1, d2, d3] => { results := [.lit (.bool false)], args := [d1, d2, d3] }
  | _ => none }
def FreshLongerWrongFalsely : Prop := freshLongerRow.holds Tryd.pinned (OpenSpec.ofChange freshLongerWrong)

/-- 'gatepostlaw09.FreshAges': WHATEVER THE INPUT: true; the input reads as it did. -/
def freshAgesSpec : ChangeSpec := { name := "freshAges", fn := fun _ => fun
  | [d1, d2, d3] => { results := [.lit (.bool true)], args := [d1, d2, d3] }
  | _ => none }
def freshAgesRow : OpenClaim := { program := "ytbignmccpbccoaadoor", sum := "85d8f4dd65c92c130bc3b914af8735b425d1009f0ccfb30bfe1f9ad3606bf878", func := "gatepost/gatepostlaw09.FreshAges", spec := "freshAges", unfollowed := true, recurses := true, named := ["gatepost/fresh.kept"], apart := false, laid := [("gatepost/fresh.kept", laid_gatepost_fresh_kept)] }
def FreshAgesSaid : Prop := freshAgesRow.holds Tryd.pinned (OpenSpec.ofChange freshAgesSpec)

/-- ITS FALSE NEIGHBOUR: 'it returns false'. Refute it at one input. -/
def freshAgesWrong : ChangeSpec := { name := "freshAges", fn := fun _ => fun
  | [d1, d2, d3] => { results := [.lit (.bool false)], args := [d1, d2, d3] }
  | _ => none }
def FreshAgesWrongFalsely : Prop := freshAgesRow.holds Tryd.pinned (OpenSpec.ofChange freshAgesWrong)

/- THE SECOND FORM. 'bulk': how many values and letters a reading holds, each counted each time it is reached (what is shared counts as often as it is met; a slice's spare places count too). A statement '..UptoSaid' is the law's where the arguments, and the package variables that the reading takes, are together of bulk at most 1048576: NARROWER than '..Said'. Prove '..Said' where nothing that the law and all that it calls make is longer than what came in: it says more and counts as full. Else prove '..UptoSaid'. A law counts once. -/
mutual
def uptoBulk {H : Type} : DataW H → Nat
  | .lit (.string bytes) => bytes.length + 1
  | .lit _ => 1
  | .nil => 1
  | .ptr d => uptoBulk d + 1
  | .slice elems spare => uptoBulkAll elems + uptoBulkAll spare + 1
  | .agg parts => uptoBulkAll parts + 1
  | .iface _ d => uptoBulk d + 1
  | .map entries => uptoBulkEntries entries + 1
  | .held _ => 1
def uptoBulkAll {H : Type} : List (DataW H) → Nat
  | [] => 0
  | d :: r => uptoBulk d + uptoBulkAll r
def uptoBulkEntries {H : Type} : List (Lit × DataW H) → Nat
  | [] => 0
  | x :: r => uptoBulkEntry x + uptoBulkEntries r
def uptoBulkEntry {H : Type} : Lit × DataW H → Nat
  | (.string bytes, d) => bytes.length + uptoBulk d + 1
  | (_, d) => uptoBulk d + 1
 end
def uptoSmall : (H : Type) → List (DataW H) → Bool := fun _ ds => decide (uptoBulkAll ds ≤ 1048576)
def OpenSpec.upto (s : _root_.Go.ChangeSpec) : _root_.Go.OpenSpec := { _root_.Go.OpenSpec.ofChange s with cond := some uptoSmall }

/-- 'gatepostlaw09.FreshTells', WHERE WHAT IT READS IS OF BULK AT MOST 1048576: true; the input reads as it did. -/
def freshTellsUptoRow : OpenClaim := { program := "ytbignmccpbccoaadoor", sum := "85d8f4dd65c92c130bc3b914af8735b425d1009f0ccfb30bfe1f9ad3606bf878", func := "gatepost/gatepostlaw09.FreshTells", spec := "freshTells", unfollowed := true, recurses := true, named := ["gatepost/fresh.kept"], apart := false, laid := [("gatepost/fresh.kept", laid_gatepost_fresh_kept)], narrowed := true }
def FreshTellsUptoSaid : Prop := freshTellsUptoRow.holds Tryd.pinned (OpenSpec.upto freshTellsSpec)

/-- 'gatepostlaw09.FreshGrows', WHERE WHAT IT READS IS OF BULK AT MOST 1048576: true; the input reads as it did. -/
def freshGrowsUptoRow : OpenClaim := { program := "ytbignmccpbccoaadoor", sum := "85d8f4dd65c92c130bc3b914af8735b425d1009f0ccfb30bfe1f9ad3606bf878", func := "gatepost/gatepostlaw09.FreshGrows", spec := "freshGrows", unfollowed := true, recurses := true, named := ["gatepost/fresh.kept"], apart := false, laid := [("gatepost/fresh.kept", laid_gatepost_fresh_kept)], narrowed := true }
def FreshGrowsUptoSaid : Prop := freshGrowsUptoRow.holds Tryd.pinned (OpenSpec.upto freshGrowsSpec)

/-- 'gatepostlaw09.FreshAsks', WHERE WHAT IT READS IS OF BULK AT MOST 1048576: true; the input reads as it did. -/
def freshAsksUptoRow : OpenClaim := { program := "ytbignmccpbccoaadoor", sum := "85d8f4dd65c92c130bc3b914af8735b425d1009f0ccfb30bfe1f9ad3606bf878", func := "gatepost/gatepostlaw09.FreshAsks", spec := "freshAsks", unfollowed := true, recurses := true, named := ["gatepost/fresh.kept"], apart := false, laid := [("gatepost/fresh.kept", laid_gatepost_fresh_kept)], narrowed := true }
def FreshAsksUptoSaid : Prop := freshAsksUptoRow.holds Tryd.pinned (OpenSpec.upto freshAsksSpec)

/-- 'gatepostlaw09.FreshLonger', WHERE WHAT IT READS IS OF BULK AT MOST 1048576: true; the input reads as it did. -/
def freshLongerUptoRow : OpenClaim := { program := "ytbignmccpbccoaadoor", sum := "85d8f4dd65c92c130bc3b914af8735b425d1009f0ccfb30bfe1f9ad3606bf878", func := "gatepost/gatepostlaw09.FreshLonger", spec := "freshLonger", unfollowed := true, recurses := true, named := ["gatepost/fresh.kept"], apart := false, laid := [("gatepost/fresh.kept", laid_gatepost_fresh_kept)], narrowed := true }
def FreshLongerUptoSaid : Prop := freshLongerUptoRow.holds Tryd.pinned (OpenSpec.upto freshLongerSpec)

/-- 'gatepostlaw09.FreshAges', WHERE WHAT IT READS IS OF BULK AT MOST 1048576: true; the input reads as it did. -/
def freshAgesUptoRow : OpenClaim := { program := "ytbignmccpbccoaadoor", sum := "85d8f4dd65c92c130bc3b914af8735b425d1009f0ccfb30bfe1f9ad3606bf878", func := "gatepost/gatepostlaw09.FreshAges", spec := "freshAges", unfollowed := true, recurses := true, named := ["gatepost/fresh.kept"], apart := false, laid := [("gatepost/fresh.kept", laid_gatepost_fresh_kept)], narrowed := true }
def FreshAgesUptoSaid : Prop := freshAgesUptoRow.holds Tryd.pinned (OpenSpec.upto freshAgesSpec)

end Rows
end Go.Proofs.YtbignmccpbccoaaDoor
