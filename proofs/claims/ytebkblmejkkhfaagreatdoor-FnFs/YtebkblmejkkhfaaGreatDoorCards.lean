/-
  DERIVED. GIVEN WITH THE SEED: THE CARDS: each row of YtebkblmejkkhfaaGreatDoorRows.lean that lists a variable, with what it lists TIED to the program's text (the seventh form; the later family's looks); each row that meets fmt, with fmt's text TOLD by the authors' own Lean function (tested against real Go, not proved from fmt's source: count such statements apart). THE CARD IS WHAT COUNTS. Prove the row's statement (the work); the ties are given (YtebkblmejkkhfaaGreatDoorTie.lean); close each card by the builder's one call (the guide's Derived/Test/ToyasCard.lean, 'card_holds'). Laid BY PROGRAM, IN A SANDBOX (cutbox-door.mjs). By AI agents, Wed Nov 11 2026. No macro, syntax, notation, axiom, sorry.
-/
import Derived.Test.YtebkblmejkkhfaaGreatDoorRows
import GoSem.ClaimSeven
namespace Go.Proofs.YtebkblmejkkhfaaGreatDoor
namespace Rows

/-- THE TIED CARD OF 'laws.FnFs'. -/
def fnFsCard : Claim7 := { stood := { row := fnFsRow, standIns := [], harness := (true, "3c9bba6abad9c0b0fa126f33aa2c1fa34a695eec17d2380eb67179b5ead3fd54"), looks := true }, kinds := [], alts := [], laidByText := true, laidKinds := [.sentinel, .sentinel, .sentinel, .sentinel, .sentinel], laidTests := true, laidLooks := .later }
def FnFsCardSaid : Prop := Claim7.holds Tryz.pinned (.plain (OpenSpec.ofChange fnFsSpec)) fnFsCard

/-- THE TIED CARD OF 'laws.FnFsCrash'. -/
def fnFsCrashCard : Claim7 := { stood := { row := fnFsCrashRow, standIns := [], harness := (true, "3c9bba6abad9c0b0fa126f33aa2c1fa34a695eec17d2380eb67179b5ead3fd54"), looks := true }, kinds := [], alts := [], laidByText := true, laidKinds := [.sentinel, .sentinel, .sentinel, .sentinel, .sentinel], laidTests := true, laidLooks := .later }
def FnFsCrashCardSaid : Prop := Claim7.holds Tryz.pinned (.plain (OpenSpec.ofChange fnFsCrashSpec)) fnFsCrashCard

/-- THE TIED CARD OF 'laws.FnExactSeglogAdd'. -/
def fnExactSeglogAddCard : Claim7 := { stood := { row := fnExactSeglogAddRow, standIns := [], harness := (true, "3c9bba6abad9c0b0fa126f33aa2c1fa34a695eec17d2380eb67179b5ead3fd54"), looks := true }, kinds := [], alts := [], laidByText := true, laidKinds := [.data, .data, .data, .handle, .sentinel, .sentinel, .sentinel, .sentinel, .sentinel, .sentinel], laidTests := true, laidLooks := .later }
def FnExactSeglogAddCardSaid : Prop := Claim7.holds Tryz.pinned (.plain (OpenSpec.ofChange fnExactSeglogAddSpec)) fnExactSeglogAddCard

/-- THE TIED CARD OF 'laws.FnExactSeglogSync'. -/
def fnExactSeglogSyncCard : Claim7 := { stood := { row := fnExactSeglogSyncRow, standIns := [], harness := (true, "3c9bba6abad9c0b0fa126f33aa2c1fa34a695eec17d2380eb67179b5ead3fd54"), looks := true }, kinds := [], alts := [], laidByText := true, laidKinds := [.data, .data, .data, .handle, .sentinel], laidTests := true, laidLooks := .later }
def FnExactSeglogSyncCardSaid : Prop := Claim7.holds Tryz.pinned (.plain (OpenSpec.ofChange fnExactSeglogSyncSpec)) fnExactSeglogSyncCard

/-- THE TIED CARD OF 'laws.FnExactSeglogAll'. -/
def fnExactSeglogAllCard : Claim7 := { stood := { row := fnExactSeglogAllRow, standIns := [], harness := (true, "3c9bba6abad9c0b0fa126f33aa2c1fa34a695eec17d2380eb67179b5ead3fd54"), looks := true }, kinds := [], alts := [], laidByText := true, laidKinds := [.data, .data, .data, .handle, .sentinel], laidTests := true, laidLooks := .later }
def FnExactSeglogAllCardSaid : Prop := Claim7.holds Tryz.pinned (.plain (OpenSpec.ofChange fnExactSeglogAllSpec)) fnExactSeglogAllCard

/-- THE TIED CARD OF 'laws.FnExactSeglogDrop'. -/
def fnExactSeglogDropCard : Claim7 := { stood := { row := fnExactSeglogDropRow, standIns := [], harness := (true, "3c9bba6abad9c0b0fa126f33aa2c1fa34a695eec17d2380eb67179b5ead3fd54"), looks := true }, kinds := [], alts := [], laidByText := true, laidKinds := [.data, .data, .data, .handle, .sentinel], laidTests := true, laidLooks := .later }
def FnExactSeglogDropCardSaid : Prop := Claim7.holds Tryz.pinned (.plain (OpenSpec.ofChange fnExactSeglogDropSpec)) fnExactSeglogDropCard

/-- THE TIED CARD OF 'laws.FnExactSeglogOpen'. -/
def fnExactSeglogOpenCard : Claim7 := { stood := { row := fnExactSeglogOpenRow, standIns := [], harness := (true, "3c9bba6abad9c0b0fa126f33aa2c1fa34a695eec17d2380eb67179b5ead3fd54"), looks := true }, kinds := [], alts := [], laidByText := true, laidKinds := [.data, .data, .data, .handle, .sentinel, .sentinel, .sentinel, .sentinel, .sentinel, .sentinel, .sentinel, .sentinel], laidTests := true, laidLooks := .later }
def FnExactSeglogOpenCardSaid : Prop := Claim7.holds Tryz.pinned (.plain (OpenSpec.ofChange fnExactSeglogOpenSpec)) fnExactSeglogOpenCard

/-- THE TIED CARD OF 'laws.FnExactSeglogCrash'. -/
def fnExactSeglogCrashCard : Claim7 := { stood := { row := fnExactSeglogCrashRow, standIns := [], harness := (true, "3c9bba6abad9c0b0fa126f33aa2c1fa34a695eec17d2380eb67179b5ead3fd54"), looks := true }, kinds := [], alts := [], laidByText := true, laidKinds := [.data, .data, .data, .handle, .sentinel, .sentinel, .sentinel, .sentinel, .sentinel, .sentinel, .sentinel, .sentinel], laidTests := true, laidLooks := .later }
def FnExactSeglogCrashCardSaid : Prop := Claim7.holds Tryz.pinned (.plain (OpenSpec.ofChange fnExactSeglogCrashSpec)) fnExactSeglogCrashCard

/-- THE SECOND FORM's CARD OF 'laws.FnFs'. -/
def fnFsUptoCard : Claim7 := { stood := { row := fnFsUptoRow, standIns := [], harness := (true, "3c9bba6abad9c0b0fa126f33aa2c1fa34a695eec17d2380eb67179b5ead3fd54"), looks := true }, kinds := [], alts := [], laidByText := true, laidKinds := [.sentinel, .sentinel, .sentinel, .sentinel, .sentinel], laidTests := true, laidLooks := .later }
def FnFsUptoCardSaid : Prop := Claim7.holds Tryz.pinned (.plain (OpenSpec.upto fnFsSpec)) fnFsUptoCard

/-- THE SECOND FORM's CARD OF 'laws.FnFsCrash'. -/
def fnFsCrashUptoCard : Claim7 := { stood := { row := fnFsCrashUptoRow, standIns := [], harness := (true, "3c9bba6abad9c0b0fa126f33aa2c1fa34a695eec17d2380eb67179b5ead3fd54"), looks := true }, kinds := [], alts := [], laidByText := true, laidKinds := [.sentinel, .sentinel, .sentinel, .sentinel, .sentinel], laidTests := true, laidLooks := .later }
def FnFsCrashUptoCardSaid : Prop := Claim7.holds Tryz.pinned (.plain (OpenSpec.upto fnFsCrashSpec)) fnFsCrashUptoCard

/-- THE SECOND FORM's CARD OF 'laws.FnExactSeglogAdd'. -/
def fnExactSeglogAddUptoCard : Claim7 := { stood := { row := fnExactSeglogAddUptoRow, standIns := [], harness := (true, "3c9bba6abad9c0b0fa126f33aa2c1fa34a695eec17d2380eb67179b5ead3fd54"), looks := true }, kinds := [], alts := [], laidByText := true, laidKinds := [.data, .data, .data, .handle, .sentinel, .sentinel, .sentinel, .sentinel, .sentinel, .sentinel], laidTests := true, laidLooks := .later }
def FnExactSeglogAddUptoCardSaid : Prop := Claim7.holds Tryz.pinned (.plain (OpenSpec.upto fnExactSeglogAddSpec)) fnExactSeglogAddUptoCard

/-- THE SECOND FORM's CARD OF 'laws.FnExactSeglogSync'. -/
def fnExactSeglogSyncUptoCard : Claim7 := { stood := { row := fnExactSeglogSyncUptoRow, standIns := [], harness := (true, "3c9bba6abad9c0b0fa126f33aa2c1fa34a695eec17d2380eb67179b5ead3fd54"), looks := true }, kinds := [], alts := [], laidByText := true, laidKinds := [.data, .data, .data, .handle, .sentinel], laidTests := true, laidLooks := .later }
def FnExactSeglogSyncUptoCardSaid : Prop := Claim7.holds Tryz.pinned (.plain (OpenSpec.upto fnExactSeglogSyncSpec)) fnExactSeglogSyncUptoCard

/-- THE SECOND FORM's CARD OF 'laws.FnExactSeglogAll'. -/
def fnExactSeglogAllUptoCard : Claim7 := { stood := { row := fnExactSeglogAllUptoRow, standIns := [], harness := (true, "3c9bba6abad9c0b0fa126f33aa2c1fa34a695eec17d2380eb67179b5ead3fd54"), looks := true }, kinds := [], alts := [], laidByText := true, laidKinds := [.data, .data, .data, .handle, .sentinel], laidTests := true, laidLooks := .later }
def FnExactSeglogAllUptoCardSaid : Prop := Claim7.holds Tryz.pinned (.plain (OpenSpec.upto fnExactSeglogAllSpec)) fnExactSeglogAllUptoCard

/-- THE SECOND FORM's CARD OF 'laws.FnExactSeglogDrop'. -/
def fnExactSeglogDropUptoCard : Claim7 := { stood := { row := fnExactSeglogDropUptoRow, standIns := [], harness := (true, "3c9bba6abad9c0b0fa126f33aa2c1fa34a695eec17d2380eb67179b5ead3fd54"), looks := true }, kinds := [], alts := [], laidByText := true, laidKinds := [.data, .data, .data, .handle, .sentinel], laidTests := true, laidLooks := .later }
def FnExactSeglogDropUptoCardSaid : Prop := Claim7.holds Tryz.pinned (.plain (OpenSpec.upto fnExactSeglogDropSpec)) fnExactSeglogDropUptoCard

/-- THE SECOND FORM's CARD OF 'laws.FnExactSeglogOpen'. -/
def fnExactSeglogOpenUptoCard : Claim7 := { stood := { row := fnExactSeglogOpenUptoRow, standIns := [], harness := (true, "3c9bba6abad9c0b0fa126f33aa2c1fa34a695eec17d2380eb67179b5ead3fd54"), looks := true }, kinds := [], alts := [], laidByText := true, laidKinds := [.data, .data, .data, .handle, .sentinel, .sentinel, .sentinel, .sentinel, .sentinel, .sentinel, .sentinel, .sentinel], laidTests := true, laidLooks := .later }
def FnExactSeglogOpenUptoCardSaid : Prop := Claim7.holds Tryz.pinned (.plain (OpenSpec.upto fnExactSeglogOpenSpec)) fnExactSeglogOpenUptoCard

/-- THE SECOND FORM's CARD OF 'laws.FnExactSeglogCrash'. -/
def fnExactSeglogCrashUptoCard : Claim7 := { stood := { row := fnExactSeglogCrashUptoRow, standIns := [], harness := (true, "3c9bba6abad9c0b0fa126f33aa2c1fa34a695eec17d2380eb67179b5ead3fd54"), looks := true }, kinds := [], alts := [], laidByText := true, laidKinds := [.data, .data, .data, .handle, .sentinel, .sentinel, .sentinel, .sentinel, .sentinel, .sentinel, .sentinel, .sentinel], laidTests := true, laidLooks := .later }
def FnExactSeglogCrashUptoCardSaid : Prop := Claim7.holds Tryz.pinned (.plain (OpenSpec.upto fnExactSeglogCrashSpec)) fnExactSeglogCrashUptoCard
end Rows
end Go.Proofs.YtebkblmejkkhfaaGreatDoor
