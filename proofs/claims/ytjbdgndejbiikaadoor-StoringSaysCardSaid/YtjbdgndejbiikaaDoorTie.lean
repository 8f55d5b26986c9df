/-
  DERIVED. GIVEN WITH THE SEED: THE PROGRAM's TIES (one call each: nine closed facts by the kernel) AND EACH ROW's TIE, after the 31st guide's Derived/Test/Toyas{Tie, Card}.lean. No idea stands in it: it is a product of the set-up. Laid BY PROGRAM, IN A SANDBOX (cutbox-door.mjs). By AI agents, Wed Nov 11 2026. No macro, syntax, notation, axiom, sorry.
-/
import Derived.Test.YtjbdgndejbiikaaDoorRows
import Derived.LaidByTextLater
import Derived.SevenTiedAt
import Derived.LaidSub
import Derived.LaidOnce
namespace Go.Proofs.YtjbdgndejbiikaaDoor
open Go
set_option maxRecDepth 100000
theorem seatTie1 : Tryd.prog.laidByTextLater [("gatepost/fresh.kept", Rows.laid_gatepost_fresh_kept), ("gatepost/date.weekdays", Rows.laid_gatepost_date_weekdays), ("gatepost/date.months", Rows.laid_gatepost_date_months), ("gatepost/date.monthDays", Rows.laid_gatepost_date_monthDays), ("gatepost/date.forms", Rows.laid_gatepost_date_forms), ("gatepost/token.tokenByte", Rows.laid_gatepost_token_tokenByte)] [.data, .data, .data, .data, .data, .data] true :=
  Program.laidByTextLater_by_one 39 8 129 (by kernel_rfl) (by kernel_rfl) (by kernel_rfl) (by kernel_rfl) (by kernel_rfl) (by kernel_rfl) (fun _ _ => by kernel_rfl)
theorem noOwnUnsafe : Tryd.pinned.checked.prog.headLifts.contains "ownunsafe" = false := by kernel_rfl
theorem tie : Tryd.prog.laidByTextLater [("gatepost/fresh.kept", Rows.laid_gatepost_fresh_kept), ("gatepost/date.weekdays", Rows.laid_gatepost_date_weekdays), ("gatepost/date.months", Rows.laid_gatepost_date_months), ("gatepost/date.monthDays", Rows.laid_gatepost_date_monthDays), ("gatepost/date.forms", Rows.laid_gatepost_date_forms), ("gatepost/token.tokenByte", Rows.laid_gatepost_token_tokenByte)] [.data, .data, .data, .data, .data, .data] true :=
  Program.laidByTextLater.sub seatTie1 ["gatepost/fresh.kept", "gatepost/date.weekdays", "gatepost/date.months", "gatepost/date.monthDays", "gatepost/date.forms", "gatepost/token.tokenByte"] (by kernel_rfl) (by kernel_rfl)
theorem storingSays_row_tie : Rows.storingSaysRow.laidByTextAt .later Tryd.pinned [.data, .data, .data, .data, .data, .data] true :=
  OpenClaim.laidByTextAt_later rfl rfl tie noOwnUnsafe
theorem storingAuth_row_tie : Rows.storingAuthRow.laidByTextAt .later Tryd.pinned [.data, .data, .data, .data, .data, .data] true :=
  OpenClaim.laidByTextAt_later rfl rfl tie noOwnUnsafe
theorem tie2 : Tryd.prog.laidByTextLater [("gatepost/date.weekdays", Rows.laid_gatepost_date_weekdays), ("gatepost/date.months", Rows.laid_gatepost_date_months), ("gatepost/date.monthDays", Rows.laid_gatepost_date_monthDays), ("gatepost/date.forms", Rows.laid_gatepost_date_forms), ("gatepost/token.tokenByte", Rows.laid_gatepost_token_tokenByte)] [.data, .data, .data, .data, .data] true :=
  Program.laidByTextLater.sub seatTie1 ["gatepost/date.weekdays", "gatepost/date.months", "gatepost/date.monthDays", "gatepost/date.forms", "gatepost/token.tokenByte"] (by kernel_rfl) (by kernel_rfl)
theorem storingKeeps_row_tie : Rows.storingKeepsRow.laidByTextAt .later Tryd.pinned [.data, .data, .data, .data, .data] true :=
  OpenClaim.laidByTextAt_later rfl rfl tie2 noOwnUnsafe
theorem storingSaysUpto_row_tie : Rows.storingSaysUptoRow.laidByTextAt .later Tryd.pinned [.data, .data, .data, .data, .data, .data] true :=
  OpenClaim.laidByTextAt_later rfl rfl tie noOwnUnsafe
theorem storingKeepsUpto_row_tie : Rows.storingKeepsUptoRow.laidByTextAt .later Tryd.pinned [.data, .data, .data, .data, .data] true :=
  OpenClaim.laidByTextAt_later rfl rfl tie2 noOwnUnsafe
theorem storingAuthUpto_row_tie : Rows.storingAuthUptoRow.laidByTextAt .later Tryd.pinned [.data, .data, .data, .data, .data, .data] true :=
  OpenClaim.laidByTextAt_later rfl rfl tie noOwnUnsafe
end Go.Proofs.YtjbdgndejbiikaaDoor
