/-
  DERIVED. GIVEN WITH THE SEED: THE CARDS: each row of YtmdjfgnmjelmhaaDoorRows.lean that lists a variable, with what it lists TIED to the program's text (the seventh form; the later family's looks); each row that meets fmt, with fmt's text TOLD by the authors' own Lean function (tested against real Go, not proved from fmt's source: count such statements apart). THE CARD IS WHAT COUNTS. Prove the row's statement (the work); the ties are given (YtmdjfgnmjelmhaaDoorTie.lean); close each card by the builder's one call (the guide's Derived/Test/ToyasCard.lean, 'card_holds'). Laid BY PROGRAM, IN A SANDBOX (cutbox-door.mjs). By AI agents, Wed Nov 11 2026. No macro, syntax, notation, axiom, sorry.
-/
import Derived.Test.YtmdjfgnmjelmhaaDoorRows
import GoSem.ClaimSeven
namespace Go.Proofs.YtmdjfgnmjelmhaaDoor
namespace Rows

/-- THE TIED CARD OF 'laws.FnExactFsRead'. -/
def fnExactFsReadCard : Claim7 := { stood := { row := fnExactFsReadRow, standIns := [], harness := (true, "a7a2410b12c9774450dbf46dcf151823b5d0c840fc825236f3b999095bbac739"), looks := true }, kinds := [], alts := [], laidByText := true, laidKinds := [.sentinel, .sentinel, .sentinel, .sentinel, .sentinel], laidTests := true, laidLooks := .later }
def FnExactFsReadCardSaid : Prop := Claim7.holds Tryd.pinned (.plain (OpenSpec.ofChange fnExactFsReadSpec)) fnExactFsReadCard

/-- THE TIED CARD OF 'laws.FnExactFsAppend'. -/
def fnExactFsAppendCard : Claim7 := { stood := { row := fnExactFsAppendRow, standIns := [], harness := (true, "a7a2410b12c9774450dbf46dcf151823b5d0c840fc825236f3b999095bbac739"), looks := true }, kinds := [], alts := [], laidByText := true, laidKinds := [.sentinel, .sentinel, .sentinel, .sentinel, .sentinel], laidTests := true, laidLooks := .later }
def FnExactFsAppendCardSaid : Prop := Claim7.holds Tryd.pinned (.plain (OpenSpec.ofChange fnExactFsAppendSpec)) fnExactFsAppendCard

/-- THE TIED CARD OF 'laws.FnExactFsCut'. -/
def fnExactFsCutCard : Claim7 := { stood := { row := fnExactFsCutRow, standIns := [], harness := (true, "a7a2410b12c9774450dbf46dcf151823b5d0c840fc825236f3b999095bbac739"), looks := true }, kinds := [], alts := [], laidByText := true, laidKinds := [.sentinel, .sentinel, .sentinel, .sentinel, .sentinel], laidTests := true, laidLooks := .later }
def FnExactFsCutCardSaid : Prop := Claim7.holds Tryd.pinned (.plain (OpenSpec.ofChange fnExactFsCutSpec)) fnExactFsCutCard

/-- THE TIED CARD OF 'laws.FnExactFsSync'. -/
def fnExactFsSyncCard : Claim7 := { stood := { row := fnExactFsSyncRow, standIns := [], harness := (true, "a7a2410b12c9774450dbf46dcf151823b5d0c840fc825236f3b999095bbac739"), looks := true }, kinds := [], alts := [], laidByText := true, laidKinds := [.sentinel, .sentinel, .sentinel, .sentinel, .sentinel], laidTests := true, laidLooks := .later }
def FnExactFsSyncCardSaid : Prop := Claim7.holds Tryd.pinned (.plain (OpenSpec.ofChange fnExactFsSyncSpec)) fnExactFsSyncCard

/-- THE TIED CARD OF 'laws.FnExactFsRename'. -/
def fnExactFsRenameCard : Claim7 := { stood := { row := fnExactFsRenameRow, standIns := [], harness := (true, "a7a2410b12c9774450dbf46dcf151823b5d0c840fc825236f3b999095bbac739"), looks := true }, kinds := [], alts := [], laidByText := true, laidKinds := [.sentinel, .sentinel, .sentinel, .sentinel, .sentinel], laidTests := true, laidLooks := .later }
def FnExactFsRenameCardSaid : Prop := Claim7.holds Tryd.pinned (.plain (OpenSpec.ofChange fnExactFsRenameSpec)) fnExactFsRenameCard

/-- THE TIED CARD OF 'laws.FnExactFsRemove'. -/
def fnExactFsRemoveCard : Claim7 := { stood := { row := fnExactFsRemoveRow, standIns := [], harness := (true, "a7a2410b12c9774450dbf46dcf151823b5d0c840fc825236f3b999095bbac739"), looks := true }, kinds := [], alts := [], laidByText := true, laidKinds := [.sentinel, .sentinel, .sentinel, .sentinel, .sentinel], laidTests := true, laidLooks := .later }
def FnExactFsRemoveCardSaid : Prop := Claim7.holds Tryd.pinned (.plain (OpenSpec.ofChange fnExactFsRemoveSpec)) fnExactFsRemoveCard

/-- THE SECOND FORM's CARD OF 'laws.FnExactFsRead'. -/
def fnExactFsReadUptoCard : Claim7 := { stood := { row := fnExactFsReadUptoRow, standIns := [], harness := (true, "a7a2410b12c9774450dbf46dcf151823b5d0c840fc825236f3b999095bbac739"), looks := true }, kinds := [], alts := [], laidByText := true, laidKinds := [.sentinel, .sentinel, .sentinel, .sentinel, .sentinel], laidTests := true, laidLooks := .later }
def FnExactFsReadUptoCardSaid : Prop := Claim7.holds Tryd.pinned (.plain (OpenSpec.upto fnExactFsReadSpec)) fnExactFsReadUptoCard

/-- THE SECOND FORM's CARD OF 'laws.FnExactFsAppend'. -/
def fnExactFsAppendUptoCard : Claim7 := { stood := { row := fnExactFsAppendUptoRow, standIns := [], harness := (true, "a7a2410b12c9774450dbf46dcf151823b5d0c840fc825236f3b999095bbac739"), looks := true }, kinds := [], alts := [], laidByText := true, laidKinds := [.sentinel, .sentinel, .sentinel, .sentinel, .sentinel], laidTests := true, laidLooks := .later }
def FnExactFsAppendUptoCardSaid : Prop := Claim7.holds Tryd.pinned (.plain (OpenSpec.upto fnExactFsAppendSpec)) fnExactFsAppendUptoCard

/-- THE SECOND FORM's CARD OF 'laws.FnExactFsCut'. -/
def fnExactFsCutUptoCard : Claim7 := { stood := { row := fnExactFsCutUptoRow, standIns := [], harness := (true, "a7a2410b12c9774450dbf46dcf151823b5d0c840fc825236f3b999095bbac739"), looks := true }, kinds := [], alts := [], laidByText := true, laidKinds := [.sentinel, .sentinel, .sentinel, .sentinel, .sentinel], laidTests := true, laidLooks := .later }
def FnExactFsCutUptoCardSaid : Prop := Claim7.holds Tryd.pinned (.plain (OpenSpec.upto fnExactFsCutSpec)) fnExactFsCutUptoCard

/-- THE SECOND FORM's CARD OF 'laws.FnExactFsSync'. -/
def fnExactFsSyncUptoCard : Claim7 := { stood := { row := fnExactFsSyncUptoRow, standIns := [], harness := (true, "a7a2410b12c9774450dbf46dcf151823b5d0c840fc825236f3b999095bbac739"), looks := true }, kinds := [], alts := [], laidByText := true, laidKinds := [.sentinel, .sentinel, .sentinel, .sentinel, .sentinel], laidTests := true, laidLooks := .later }
def FnExactFsSyncUptoCardSaid : Prop := Claim7.holds Tryd.pinned (.plain (OpenSpec.upto fnExactFsSyncSpec)) fnExactFsSyncUptoCard

/-- THE SECOND FORM's CARD OF 'laws.FnExactFsRename'. -/
def fnExactFsRenameUptoCard : Claim7 := { stood := { row := fnExactFsRenameUptoRow, standIns := [], harness := (true, "a7a2410b12c9774450dbf46dcf151823b5d0c840fc825236f3b999095bbac739"), looks := true }, kinds := [], alts := [], laidByText := true, laidKinds := [.sentinel, .sentinel, .sentinel, .sentinel, .sentinel], laidTests := true, laidLooks := .later }
def FnExactFsRenameUptoCardSaid : Prop := Claim7.holds Tryd.pinned (.plain (OpenSpec.upto fnExactFsRenameSpec)) fnExactFsRenameUptoCard

/-- THE SECOND FORM's CARD OF 'laws.FnExactFsRemove'. -/
def fnExactFsRemoveUptoCard : Claim7 := { stood := { row := fnExactFsRemoveUptoRow, standIns := [], harness := (true, "a7a2410b12c9774450dbf46dcf151823b5d0c840fc825236f3b999095bbac739"), looks := true }, kinds := [], alts := [], laidByText := true, laidKinds := [.sentinel, .sentinel, .sentinel, .sentinel, .sentinel], laidTests := true, laidLooks := .later }
def FnExactFsRemoveUptoCardSaid : Prop := Claim7.holds Tryd.pinned (.plain (OpenSpec.upto fnExactFsRemoveSpec)) fnExactFsRemoveUptoCard
end Rows
end Go.Proofs.YtmdjfgnmjelmhaaDoor
