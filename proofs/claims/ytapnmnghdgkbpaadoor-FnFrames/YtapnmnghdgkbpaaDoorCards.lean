/-
  DERIVED. GIVEN WITH THE SEED: THE CARDS: each row of YtapnmnghdgkbpaaDoorRows.lean that lists a variable, with what it lists TIED to the program's text (the seventh form; the later family's looks); each row that meets fmt, with fmt's text TOLD by the authors' own Lean function (tested against real Go, not proved from fmt's source: count such statements apart). THE CARD IS WHAT COUNTS. Prove the row's statement (the work); the ties are given (YtapnmnghdgkbpaaDoorTie.lean); close each card by the builder's one call (the guide's Derived/Test/ToyasCard.lean, 'card_holds'). Laid BY PROGRAM, IN A SANDBOX (cutbox-door.mjs). By AI agents, Wed Nov 11 2026. No macro, syntax, notation, axiom, sorry.
-/
import Derived.Test.YtapnmnghdgkbpaaDoorRows
import GoSem.ClaimSeven
namespace Go.Proofs.YtapnmnghdgkbpaaDoor
namespace Rows

/-- THE TIED CARD OF 'laws.FnFrames'. -/
def fnFramesCard : Claim7 := { stood := { row := fnFramesRow, standIns := [], harness := (true, "fb97b748268e035577fc538d3587ab7422d4b289c28dd5dc110c261308068f1e"), looks := true }, kinds := [], alts := [], laidByText := true, laidKinds := [.handle], laidTests := true, laidLooks := .later }
def FnFramesCardSaid : Prop := Claim7.holds Tryd.pinned (.plain (OpenSpec.ofChange fnFramesSpec)) fnFramesCard

/-- THE TIED CARD OF 'laws.FnExactFrameAt'. -/
def fnExactFrameAtCard : Claim7 := { stood := { row := fnExactFrameAtRow, standIns := [], harness := (true, "fb97b748268e035577fc538d3587ab7422d4b289c28dd5dc110c261308068f1e"), looks := true }, kinds := [], alts := [], laidByText := true, laidKinds := [.handle], laidTests := true, laidLooks := .later }
def FnExactFrameAtCardSaid : Prop := Claim7.holds Tryd.pinned (.plain (OpenSpec.ofChange fnExactFrameAtSpec)) fnExactFrameAtCard

/-- THE TIED CARD OF 'laws.FnExactFramesRead'. -/
def fnExactFramesReadCard : Claim7 := { stood := { row := fnExactFramesReadRow, standIns := [], harness := (true, "fb97b748268e035577fc538d3587ab7422d4b289c28dd5dc110c261308068f1e"), looks := true }, kinds := [], alts := [], laidByText := true, laidKinds := [.handle], laidTests := true, laidLooks := .later }
def FnExactFramesReadCardSaid : Prop := Claim7.holds Tryd.pinned (.plain (OpenSpec.ofChange fnExactFramesReadSpec)) fnExactFramesReadCard

/-- THE TIED CARD OF 'laws.FnExactFsSync'. -/
def fnExactFsSyncCard : Claim7 := { stood := { row := fnExactFsSyncRow, standIns := [], harness := (true, "fb97b748268e035577fc538d3587ab7422d4b289c28dd5dc110c261308068f1e"), looks := true }, kinds := [], alts := [], laidByText := true, laidKinds := [.sentinel, .sentinel, .sentinel, .sentinel, .sentinel], laidTests := true, laidLooks := .later }
def FnExactFsSyncCardSaid : Prop := Claim7.holds Tryd.pinned (.plain (OpenSpec.ofChange fnExactFsSyncSpec)) fnExactFsSyncCard

/-- THE TIED CARD OF 'laws.FnExactFsRemove'. -/
def fnExactFsRemoveCard : Claim7 := { stood := { row := fnExactFsRemoveRow, standIns := [], harness := (true, "fb97b748268e035577fc538d3587ab7422d4b289c28dd5dc110c261308068f1e"), looks := true }, kinds := [], alts := [], laidByText := true, laidKinds := [.sentinel, .sentinel, .sentinel, .sentinel, .sentinel], laidTests := true, laidLooks := .later }
def FnExactFsRemoveCardSaid : Prop := Claim7.holds Tryd.pinned (.plain (OpenSpec.ofChange fnExactFsRemoveSpec)) fnExactFsRemoveCard

/-- THE TIED CARD OF 'laws.FnExactFsCut'. -/
def fnExactFsCutCard : Claim7 := { stood := { row := fnExactFsCutRow, standIns := [], harness := (true, "fb97b748268e035577fc538d3587ab7422d4b289c28dd5dc110c261308068f1e"), looks := true }, kinds := [], alts := [], laidByText := true, laidKinds := [.sentinel, .sentinel, .sentinel, .sentinel, .sentinel], laidTests := true, laidLooks := .later }
def FnExactFsCutCardSaid : Prop := Claim7.holds Tryd.pinned (.plain (OpenSpec.ofChange fnExactFsCutSpec)) fnExactFsCutCard

/-- THE TIED CARD OF 'laws.FnExactFsRename'. -/
def fnExactFsRenameCard : Claim7 := { stood := { row := fnExactFsRenameRow, standIns := [], harness := (true, "fb97b748268e035577fc538d3587ab7422d4b289c28dd5dc110c261308068f1e"), looks := true }, kinds := [], alts := [], laidByText := true, laidKinds := [.sentinel, .sentinel, .sentinel, .sentinel, .sentinel], laidTests := true, laidLooks := .later }
def FnExactFsRenameCardSaid : Prop := Claim7.holds Tryd.pinned (.plain (OpenSpec.ofChange fnExactFsRenameSpec)) fnExactFsRenameCard

/-- THE TIED CARD OF 'laws.FnExactFsAppend'. -/
def fnExactFsAppendCard : Claim7 := { stood := { row := fnExactFsAppendRow, standIns := [], harness := (true, "fb97b748268e035577fc538d3587ab7422d4b289c28dd5dc110c261308068f1e"), looks := true }, kinds := [], alts := [], laidByText := true, laidKinds := [.sentinel, .sentinel, .sentinel, .sentinel, .sentinel], laidTests := true, laidLooks := .later }
def FnExactFsAppendCardSaid : Prop := Claim7.holds Tryd.pinned (.plain (OpenSpec.ofChange fnExactFsAppendSpec)) fnExactFsAppendCard

/-- THE SECOND FORM's CARD OF 'laws.FnFrames'. -/
def fnFramesUptoCard : Claim7 := { stood := { row := fnFramesUptoRow, standIns := [], harness := (true, "fb97b748268e035577fc538d3587ab7422d4b289c28dd5dc110c261308068f1e"), looks := true }, kinds := [], alts := [], laidByText := true, laidKinds := [.handle], laidTests := true, laidLooks := .later }
def FnFramesUptoCardSaid : Prop := Claim7.holds Tryd.pinned (.plain (OpenSpec.upto fnFramesSpec)) fnFramesUptoCard

/-- THE SECOND FORM's CARD OF 'laws.FnExactFrameAt'. -/
def fnExactFrameAtUptoCard : Claim7 := { stood := { row := fnExactFrameAtUptoRow, standIns := [], harness := (true, "fb97b748268e035577fc538d3587ab7422d4b289c28dd5dc110c261308068f1e"), looks := true }, kinds := [], alts := [], laidByText := true, laidKinds := [.handle], laidTests := true, laidLooks := .later }
def FnExactFrameAtUptoCardSaid : Prop := Claim7.holds Tryd.pinned (.plain (OpenSpec.upto fnExactFrameAtSpec)) fnExactFrameAtUptoCard

/-- THE SECOND FORM's CARD OF 'laws.FnExactFramesRead'. -/
def fnExactFramesReadUptoCard : Claim7 := { stood := { row := fnExactFramesReadUptoRow, standIns := [], harness := (true, "fb97b748268e035577fc538d3587ab7422d4b289c28dd5dc110c261308068f1e"), looks := true }, kinds := [], alts := [], laidByText := true, laidKinds := [.handle], laidTests := true, laidLooks := .later }
def FnExactFramesReadUptoCardSaid : Prop := Claim7.holds Tryd.pinned (.plain (OpenSpec.upto fnExactFramesReadSpec)) fnExactFramesReadUptoCard

/-- THE SECOND FORM's CARD OF 'laws.FnExactFsSync'. -/
def fnExactFsSyncUptoCard : Claim7 := { stood := { row := fnExactFsSyncUptoRow, standIns := [], harness := (true, "fb97b748268e035577fc538d3587ab7422d4b289c28dd5dc110c261308068f1e"), looks := true }, kinds := [], alts := [], laidByText := true, laidKinds := [.sentinel, .sentinel, .sentinel, .sentinel, .sentinel], laidTests := true, laidLooks := .later }
def FnExactFsSyncUptoCardSaid : Prop := Claim7.holds Tryd.pinned (.plain (OpenSpec.upto fnExactFsSyncSpec)) fnExactFsSyncUptoCard

/-- THE SECOND FORM's CARD OF 'laws.FnExactFsRemove'. -/
def fnExactFsRemoveUptoCard : Claim7 := { stood := { row := fnExactFsRemoveUptoRow, standIns := [], harness := (true, "fb97b748268e035577fc538d3587ab7422d4b289c28dd5dc110c261308068f1e"), looks := true }, kinds := [], alts := [], laidByText := true, laidKinds := [.sentinel, .sentinel, .sentinel, .sentinel, .sentinel], laidTests := true, laidLooks := .later }
def FnExactFsRemoveUptoCardSaid : Prop := Claim7.holds Tryd.pinned (.plain (OpenSpec.upto fnExactFsRemoveSpec)) fnExactFsRemoveUptoCard

/-- THE SECOND FORM's CARD OF 'laws.FnExactFsCut'. -/
def fnExactFsCutUptoCard : Claim7 := { stood := { row := fnExactFsCutUptoRow, standIns := [], harness := (true, "fb97b748268e035577fc538d3587ab7422d4b289c28dd5dc110c261308068f1e"), looks := true }, kinds := [], alts := [], laidByText := true, laidKinds := [.sentinel, .sentinel, .sentinel, .sentinel, .sentinel], laidTests := true, laidLooks := .later }
def FnExactFsCutUptoCardSaid : Prop := Claim7.holds Tryd.pinned (.plain (OpenSpec.upto fnExactFsCutSpec)) fnExactFsCutUptoCard

/-- THE SECOND FORM's CARD OF 'laws.FnExactFsRename'. -/
def fnExactFsRenameUptoCard : Claim7 := { stood := { row := fnExactFsRenameUptoRow, standIns := [], harness := (true, "fb97b748268e035577fc538d3587ab7422d4b289c28dd5dc110c261308068f1e"), looks := true }, kinds := [], alts := [], laidByText := true, laidKinds := [.sentinel, .sentinel, .sentinel, .sentinel, .sentinel], laidTests := true, laidLooks := .later }
def FnExactFsRenameUptoCardSaid : Prop := Claim7.holds Tryd.pinned (.plain (OpenSpec.upto fnExactFsRenameSpec)) fnExactFsRenameUptoCard

/-- THE SECOND FORM's CARD OF 'laws.FnExactFsAppend'. -/
def fnExactFsAppendUptoCard : Claim7 := { stood := { row := fnExactFsAppendUptoRow, standIns := [], harness := (true, "fb97b748268e035577fc538d3587ab7422d4b289c28dd5dc110c261308068f1e"), looks := true }, kinds := [], alts := [], laidByText := true, laidKinds := [.sentinel, .sentinel, .sentinel, .sentinel, .sentinel], laidTests := true, laidLooks := .later }
def FnExactFsAppendUptoCardSaid : Prop := Claim7.holds Tryd.pinned (.plain (OpenSpec.upto fnExactFsAppendSpec)) fnExactFsAppendUptoCard
end Rows
end Go.Proofs.YtapnmnghdgkbpaaDoor
