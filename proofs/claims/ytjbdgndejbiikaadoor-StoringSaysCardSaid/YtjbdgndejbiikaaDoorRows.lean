/-
  NARROWER THAN 'FOR EVERY INPUT', by the rows' own cells (each row's printed sentence says how): StoringSays: laid · StoringKeeps: laid · StoringAuth: laid.
  DERIVED. THE GIVEN ROWS OF THIS SEAT. 3 by the template 'for every input the law returns true; each argument reads behind the call as it read before'; 0 by the template 'total and deterministic' (their statements: YtjbdgndejbiikaaDoorTotals.lean).
  GIVEN WITH THE SEED: the statements are not yours to turn. If you find one false, say at which input.
  Laid BY PROGRAM, IN A SANDBOX (cutbox-rows.mjs): the forced cells as the released guide's own fill.sh prints them over the translation 27190ef6e525d1df… (all of the seat's roots in one cut). By AI agents, Wed Nov 11 2026. No macro, syntax, notation, axiom, sorry.
-/
import Derived.Test.YtjbdgndejbiikaaDoorChecked
import GoSem.Claim
import GoSem.ClaimJoined
import GoSem.ClaimMapViews
import Derived.JoinedTies
import Derived.KernelRfl
namespace Go.Proofs.YtjbdgndejbiikaaDoor
/- THE CELL 'sum', in the pinned program and in every row, IS THE sha256 OF THE DUMP (.gsa) THAT YtjbdgndejbiikaaDoorProg.lean LOADS. Nothing in Lean hashes anything: it is a label: what it is worth is what the hold of that sum in a sandbox is worth. -/
noncomputable def Tryd.pinned : Pinned := { name := "ytjbdgndejbiikaadoor", sum := "27190ef6e525d1df24e9c4f605c58edd1be4be6e0a9c388647eb93b58d6de211", checked := Tryd.checked }
namespace Rows
def none {H : Type} : Left H := { results := [], args := [] }

/- WHAT THE LISTED PACKAGE-LEVEL VARIABLES READ AS WHEN THE CALL BEGINS. Each datum BY PROGRAM (the guide's laid-datum.mjs) off the statement by which the dump's own 'gosem.cut.vars' lays the variable. In a bare row this is a premise. The card (YtjbdgndejbiikaaDoorCards.lean) ties it to the program's text. -/
def laid_gatepost_fresh_kept {H : Type} : DataW H := .agg [.lit (.int .i64 200), .lit (.int .i64 203), .lit (.int .i64 204), .lit (.int .i64 206), .lit (.int .i64 300), .lit (.int .i64 301), .lit (.int .i64 308), .lit (.int .i64 404), .lit (.int .i64 405), .lit (.int .i64 410), .lit (.int .i64 414), .lit (.int .i64 501)]
def laid_gatepost_date_weekdays {H : Type} : DataW H := .agg [.lit (.string [77, 111, 110, 100, 97, 121]), .lit (.string [84, 117, 101, 115, 100, 97, 121]), .lit (.string [87, 101, 100, 110, 101, 115, 100, 97, 121]), .lit (.string [84, 104, 117, 114, 115, 100, 97, 121]), .lit (.string [70, 114, 105, 100, 97, 121]), .lit (.string [83, 97, 116, 117, 114, 100, 97, 121]), .lit (.string [83, 117, 110, 100, 97, 121])]
def laid_gatepost_date_months {H : Type} : DataW H := .agg [.lit (.string [74, 97, 110]), .lit (.string [70, 101, 98]), .lit (.string [77, 97, 114]), .lit (.string [65, 112, 114]), .lit (.string [77, 97, 121]), .lit (.string [74, 117, 110]), .lit (.string [74, 117, 108]), .lit (.string [65, 117, 103]), .lit (.string [83, 101, 112]), .lit (.string [79, 99, 116]), .lit (.string [78, 111, 118]), .lit (.string [68, 101, 99])]
def laid_gatepost_date_monthDays {H : Type} : DataW H := .agg [.lit (.int .i64 31), .lit (.int .i64 28), .lit (.int .i64 31), .lit (.int .i64 30), .lit (.int .i64 31), .lit (.int .i64 30), .lit (.int .i64 31), .lit (.int .i64 31), .lit (.int .i64 30), .lit (.int .i64 31), .lit (.int .i64 30), .lit (.int .i64 31)]
def laid_gatepost_date_forms {H : Type} : DataW H := .agg [.lit (.string [37, 97, 44, 32, 37, 100, 32, 37, 98, 32, 37, 89, 32, 37, 104, 58, 37, 109, 58, 37, 115, 32, 71, 77, 84]), .lit (.string [37, 65, 44, 32, 37, 100, 45, 37, 98, 45, 37, 121, 32, 37, 104, 58, 37, 109, 58, 37, 115, 32, 71, 77, 84]), .lit (.string [37, 97, 32, 37, 98, 32, 37, 101, 32, 37, 104, 58, 37, 109, 58, 37, 115, 32, 37, 89])]
def laid_gatepost_token_tokenByte {H : Type} : DataW H := .agg [.lit (.bool false), .lit (.bool false), .lit (.bool false), .lit (.bool false), .lit (.bool false), .lit (.bool false), .lit (.bool false), .lit (.bool false), .lit (.bool false), .lit (.bool false), .lit (.bool false), .lit (.bool false), .lit (.bool false), .lit (.bool false), .lit (.bool false), .lit (.bool false), .lit (.bool false), .lit (.bool false), .lit (.bool false), .lit (.bool false), .lit (.bool false), .lit (.bool false), .lit (.bool false), .lit (.bool false), .lit (.bool false), .lit (.bool false), .lit (.bool false), .lit (.bool false), .lit (.bool false), .lit (.bool false), .lit (.bool false), .lit (.bool false), .lit (.bool false), .lit (.bool true), .lit (.bool false), .lit (.bool true), .lit (.bool true), .lit (.bool true), .lit (.bool true), .lit (.bool true), .lit (.bool false), .lit (.bool false), .lit (.bool true), .lit (.bool true), .lit (.bool false), .lit (.bool true), .lit (.bool true), .lit (.bool false), .lit (.bool true), .lit (.bool true), .lit (.bool true), .lit (.bool true), .lit (.bool true), .lit (.bool true), .lit (.bool true), .lit (.bool true), .lit (.bool true), .lit (.bool true), .lit (.bool false), .lit (.bool false), .lit (.bool false), .lit (.bool false), .lit (.bool false), .lit (.bool false), .lit (.bool false), .lit (.bool true), .lit (.bool true), .lit (.bool true), .lit (.bool true), .lit (.bool true), .lit (.bool true), .lit (.bool true), .lit (.bool true), .lit (.bool true), .lit (.bool true), .lit (.bool true), .lit (.bool true), .lit (.bool true), .lit (.bool true), .lit (.bool true), .lit (.bool true), .lit (.bool true), .lit (.bool true), .lit (.bool true), .lit (.bool true), .lit (.bool true), .lit (.bool true), .lit (.bool true), .lit (.bool true), .lit (.bool true), .lit (.bool true), .lit (.bool false), .lit (.bool false), .lit (.bool false), .lit (.bool true), .lit (.bool true), .lit (.bool true), .lit (.bool true), .lit (.bool true), .lit (.bool true), .lit (.bool true), .lit (.bool true), .lit (.bool true), .lit (.bool true), .lit (.bool true), .lit (.bool true), .lit (.bool true), .lit (.bool true), .lit (.bool true), .lit (.bool true), .lit (.bool true), .lit (.bool true), .lit (.bool true), .lit (.bool true), .lit (.bool true), .lit (.bool true), .lit (.bool true), .lit (.bool true), .lit (.bool true), .lit (.bool true), .lit (.bool true), .lit (.bool true), .lit (.bool true), .lit (.bool false), .lit (.bool true), .lit (.bool false), .lit (.bool true), .lit (.bool false)]

/-- 'gatepostlaw10.StoringSays': WHATEVER THE INPUT: true; the input reads as it did. -/
def storingSaysSpec : ChangeSpec := { name := "storingSays", fn := fun _ => fun
  | [d1, d2, d3] => { results := [.lit (.bool true)], args := [d1, d2, d3] }
  | _ => none }
def storingSaysRow : OpenClaim := { program := "ytjbdgndejbiikaadoor", sum := "27190ef6e525d1df24e9c4f605c58edd1be4be6e0a9c388647eb93b58d6de211", func := "gatepost/gatepostlaw10.StoringSays", spec := "storingSays", inPlace := ["internal/abi.NoEscape", "internal/bytealg.IndexByteString", "internal/bytealg.IndexString"], unfollowed := true, recurses := true, named := ["gatepost/date.forms", "gatepost/date.weekdays", "gatepost/date.months", "gatepost/date.monthDays", "internal/bytealg.MaxLen", "gatepost/token.tokenByte", "gatepost/fresh.kept"], apart := false, laid := [("gatepost/fresh.kept", laid_gatepost_fresh_kept), ("gatepost/date.weekdays", laid_gatepost_date_weekdays), ("gatepost/date.months", laid_gatepost_date_months), ("gatepost/date.monthDays", laid_gatepost_date_monthDays), ("gatepost/date.forms", laid_gatepost_date_forms), ("gatepost/token.tokenByte", laid_gatepost_token_tokenByte)] }
def StoringSaysSaid : Prop := storingSaysRow.holds Tryd.pinned (OpenSpec.ofChange storingSaysSpec)

/-- ITS FALSE NEIGHBOUR: 'it returns false'. Refute it at one input. -/
def storingSaysWrong : ChangeSpec := { name := "storingSays", fn := fun _ => fun
  | [d1, d2, d3] => { results := [.lit (.bool false)], args := [d1, d2, d3] }
  | _ => none }
def StoringSaysWrongFalsely : Prop := storingSaysRow.holds Tryd.pinned (OpenSpec.ofChange storingSaysWrong)

/-- 'gatepostlaw10.StoringKeeps': WHATEVER THE INPUT: true; the input reads as it did. -/
def storingKeepsSpec : ChangeSpec := { name := "storingKeeps", fn := fun _ => fun
  | [d1, d2, d3] => { results := [.lit (.bool true)], args := [d1, d2, d3] }
  | _ => none }
def storingKeepsRow : OpenClaim := { program := "ytjbdgndejbiikaadoor", sum := "27190ef6e525d1df24e9c4f605c58edd1be4be6e0a9c388647eb93b58d6de211", func := "gatepost/gatepostlaw10.StoringKeeps", spec := "storingKeeps", inPlace := ["internal/abi.NoEscape", "internal/bytealg.IndexByteString", "internal/bytealg.IndexString"], unfollowed := true, recurses := true, named := ["gatepost/token.tokenByte", "gatepost/date.forms", "gatepost/date.weekdays", "gatepost/date.months", "gatepost/date.monthDays", "internal/bytealg.MaxLen"], apart := false, laid := [("gatepost/date.weekdays", laid_gatepost_date_weekdays), ("gatepost/date.months", laid_gatepost_date_months), ("gatepost/date.monthDays", laid_gatepost_date_monthDays), ("gatepost/date.forms", laid_gatepost_date_forms), ("gatepost/token.tokenByte", laid_gatepost_token_tokenByte)] }
def StoringKeepsSaid : Prop := storingKeepsRow.holds Tryd.pinned (OpenSpec.ofChange storingKeepsSpec)

/-- ITS FALSE NEIGHBOUR: 'it returns false'. Refute it at one input. -/
def storingKeepsWrong : ChangeSpec := { name := "storingKeeps", fn := fun _ => fun
  | [d1, d2, d3] => { results := [.lit (.bool false)], args := [d1, d2, d3] }
  | _ => none }
def StoringKeepsWrongFalsely : Prop := storingKeepsRow.holds Tryd.pinned (OpenSpec.ofChange storingKeepsWrong)

/-- 'gatepostlaw10.StoringAuth': WHATEVER THE INPUT: true; the input reads as it did. -/
def storingAuthSpec : ChangeSpec := { name := "storingAuth", fn := fun _ => fun
  | [d1, d2] => { results := [.lit (.bool true)], args := [d1, d2] }
  | _ => none }
def storingAuthRow : OpenClaim := { program := "ytjbdgndejbiikaadoor", sum := "27190ef6e525d1df24e9c4f605c58edd1be4be6e0a9c388647eb93b58d6de211", func := "gatepost/gatepostlaw10.StoringAuth", spec := "storingAuth", inPlace := ["internal/abi.NoEscape", "internal/bytealg.IndexByteString", "internal/bytealg.IndexString"], unfollowed := true, recurses := true, named := ["gatepost/date.forms", "gatepost/date.weekdays", "gatepost/date.months", "gatepost/date.monthDays", "internal/bytealg.MaxLen", "gatepost/token.tokenByte", "gatepost/fresh.kept"], apart := false, laid := [("gatepost/fresh.kept", laid_gatepost_fresh_kept), ("gatepost/date.weekdays", laid_gatepost_date_weekdays), ("gatepost/date.months", laid_gatepost_date_months), ("gatepost/date.monthDays", laid_gatepost_date_monthDays), ("gatepost/date.forms", laid_gatepost_date_forms), ("gatepost/token.tokenByte", laid_gatepost_token_tokenByte)] }
def StoringAuthSaid : Prop := storingAuthRow.holds Tryd.pinned (OpenSpec.ofChange storingAuthSpec)

/-- ITS FALSE NEIGHBOUR: 'it returns false'. Refute it at one input. -/
def storingAuthWrong : ChangeSpec := { name := "storingAuth", fn := fun _ => fun
  | [d1, d2] => { results := [.lit (.bool false)], args := [d1, d2] }
  | _ => none }
def StoringAuthWrongFalsely : Prop := storingAuthRow.holds Tryd.pinned (OpenSpec.ofChange storingAuthWrong)

/- THE SECOND FORM. 'bulk': how many values and letters a reading holds, each counted each time it is reached (what is shared counts as often as it is met; a slice's spare places count too). A statement '..UptoSaid' is the law's where the arguments, and the package variables that the reading takes, are together of bulk at most 1048576: NARROWER than '..Said'. Prove '..Said' where nothing that the law and all that it calls make is longer than what came in: it says more and counts as full. Else prove '..UptoSaid'. A law counts once. -/
mutual
def uptoBulk {H : Type} : DataW H → Nat
  | .lit (.string bytes) => bytes.length + 1
  | .lit _ => 1
  | .nil => 1
  | .ptr d => uptoBulk d + 1
  | .slice elems spare => uptoBulkAll elems + uptoBulkAll spare + 1
  | .agg parts => uptoBulkAll parts + 1
  | .iface _ d => uptoBulk d + 1
  | .map entries => uptoBulkEntries entries + 1
  | .held _ => 1
def uptoBulkAll {H : Type} : List (DataW H) → Nat
  | [] => 0
  | d :: r => uptoBulk d + uptoBulkAll r
def uptoBulkEntries {H : Type} : List (Lit × DataW H) → Nat
  | [] => 0
  | x :: r => uptoBulkEntry x + uptoBulkEntries r
def uptoBulkEntry {H : Type} : Lit × DataW H → Nat
  | (.string bytes, d) => bytes.length + uptoBulk d + 1
  | (_, d) => uptoBulk d + 1
 end
def uptoSmall : (H : Type) → List (DataW H) → Bool := fun _ ds => decide (uptoBulkAll ds ≤ 1048576)
def OpenSpec.upto (s : _root_.Go.ChangeSpec) : _root_.Go.OpenSpec := { _root_.Go.OpenSpec.ofChange s with cond := some uptoSmall }

/-- 'gatepostlaw10.StoringSays', WHERE WHAT IT READS IS OF BULK AT MOST 1048576: true; the input reads as it did. -/
def storingSaysUptoRow : OpenClaim := { program := "ytjbdgndejbiikaadoor", sum := "27190ef6e525d1df24e9c4f605c58edd1be4be6e0a9c388647eb93b58d6de211", func := "gatepost/gatepostlaw10.StoringSays", spec := "storingSays", inPlace := ["internal/abi.NoEscape", "internal/bytealg.IndexByteString", "internal/bytealg.IndexString"], unfollowed := true, recurses := true, named := ["gatepost/date.forms", "gatepost/date.weekdays", "gatepost/date.months", "gatepost/date.monthDays", "internal/bytealg.MaxLen", "gatepost/token.tokenByte", "gatepost/fresh.kept"], apart := false, laid := [("gatepost/fresh.kept", laid_gatepost_fresh_kept), ("gatepost/date.weekdays", laid_gatepost_date_weekdays), ("gatepost/date.months", laid_gatepost_date_months), ("gatepost/date.monthDays", laid_gatepost_date_monthDays), ("gatepost/date.forms", laid_gatepost_date_forms), ("gatepost/token.tokenByte", laid_gatepost_token_tokenByte)], narrowed := true }
def StoringSaysUptoSaid : Prop := storingSaysUptoRow.holds Tryd.pinned (OpenSpec.upto storingSaysSpec)

/-- 'gatepostlaw10.StoringKeeps', WHERE WHAT IT READS IS OF BULK AT MOST 1048576: true; the input reads as it did. -/
def storingKeepsUptoRow : OpenClaim := { program := "ytjbdgndejbiikaadoor", sum := "27190ef6e525d1df24e9c4f605c58edd1be4be6e0a9c388647eb93b58d6de211", func := "gatepost/gatepostlaw10.StoringKeeps", spec := "storingKeeps", inPlace := ["internal/abi.NoEscape", "internal/bytealg.IndexByteString", "internal/bytealg.IndexString"], unfollowed := true, recurses := true, named := ["gatepost/token.tokenByte", "gatepost/date.forms", "gatepost/date.weekdays", "gatepost/date.months", "gatepost/date.monthDays", "internal/bytealg.MaxLen"], apart := false, laid := [("gatepost/date.weekdays", laid_gatepost_date_weekdays), ("gatepost/date.months", laid_gatepost_date_months), ("gatepost/date.monthDays", laid_gatepost_date_monthDays), ("gatepost/date.forms", laid_gatepost_date_forms), ("gatepost/token.tokenByte", laid_gatepost_token_tokenByte)], narrowed := true }
def StoringKeepsUptoSaid : Prop := storingKeepsUptoRow.holds Tryd.pinned (OpenSpec.upto storingKeepsSpec)

/-- 'gatepostlaw10.StoringAuth', WHERE WHAT IT READS IS OF BULK AT MOST 1048576: true; the input reads as it did. -/
def storingAuthUptoRow : OpenClaim := { program := "ytjbdgndejbiikaadoor", sum := "27190ef6e525d1df24e9c4f605c58edd1be4be6e0a9c388647eb93b58d6de211", func := "gatepost/gatepostlaw10.StoringAuth", spec := "storingAuth", inPlace := ["internal/abi.NoEscape", "internal/bytealg.IndexByteString", "internal/bytealg.IndexString"], unfollowed := true, recurses := true, named := ["gatepost/date.forms", "gatepost/date.weekdays", "gatepost/date.months", "gatepost/date.monthDays", "internal/bytealg.MaxLen", "gatepost/token.tokenByte", "gatepost/fresh.kept"], apart := false, laid := [("gatepost/fresh.kept", laid_gatepost_fresh_kept), ("gatepost/date.weekdays", laid_gatepost_date_weekdays), ("gatepost/date.months", laid_gatepost_date_months), ("gatepost/date.monthDays", laid_gatepost_date_monthDays), ("gatepost/date.forms", laid_gatepost_date_forms), ("gatepost/token.tokenByte", laid_gatepost_token_tokenByte)], narrowed := true }
def StoringAuthUptoSaid : Prop := storingAuthUptoRow.holds Tryd.pinned (OpenSpec.upto storingAuthSpec)

end Rows
end Go.Proofs.YtjbdgndejbiikaaDoor
