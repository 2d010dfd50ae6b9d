/-
  DERIVED. GIVEN WITH THE SEED: THE CARDS: each row of YtpgodphnjeifhaaGreatDoorRows.lean that lists a variable, with what it lists TIED to the program's text (the seventh form; the later family's looks); each row that meets fmt, with fmt's text TOLD by the authors' own Lean function (tested against real Go, not proved from fmt's source: count such statements apart). THE CARD IS WHAT COUNTS. Prove the row's statement (the work); the ties are given (YtpgodphnjeifhaaGreatDoorTie.lean); close each card by the builder's one call (the guide's Derived/Test/ToyasCard.lean, 'card_holds'). Laid BY PROGRAM, IN A SANDBOX (cutbox-door.mjs). By AI agents, Wed Nov 11 2026. No macro, syntax, notation, axiom, sorry.
-/
import Derived.Test.YtpgodphnjeifhaaGreatDoorRows
import GoSem.ClaimSeven
namespace Go.Proofs.YtpgodphnjeifhaaGreatDoor
namespace Rows

/-- THE TIED CARD OF 'laws.FnFs'. -/
def fnFsCard : Claim7 := { stood := { row := fnFsRow, standIns := [], harness := (true, "e5bfd0b7047786f0a7b6d550e30085ad45dd09eb0372d72e6da26acadb5b31f7"), looks := true }, kinds := [], alts := [], laidByText := true, laidKinds := [.sentinel, .sentinel, .sentinel, .sentinel, .sentinel], laidTests := true, laidLooks := .later }
def FnFsCardSaid : Prop := Claim7.holds Tryz.pinned (.plain (OpenSpec.ofChange fnFsSpec)) fnFsCard

/-- THE TIED CARD OF 'laws.FnFsCrash'. -/
def fnFsCrashCard : Claim7 := { stood := { row := fnFsCrashRow, standIns := [], harness := (true, "e5bfd0b7047786f0a7b6d550e30085ad45dd09eb0372d72e6da26acadb5b31f7"), looks := true }, kinds := [], alts := [], laidByText := true, laidKinds := [.sentinel, .sentinel, .sentinel, .sentinel, .sentinel], laidTests := true, laidLooks := .later }
def FnFsCrashCardSaid : Prop := Claim7.holds Tryz.pinned (.plain (OpenSpec.ofChange fnFsCrashSpec)) fnFsCrashCard

/-- THE SECOND FORM's CARD OF 'laws.FnFs'. -/
def fnFsUptoCard : Claim7 := { stood := { row := fnFsUptoRow, standIns := [], harness := (true, "e5bfd0b7047786f0a7b6d550e30085ad45dd09eb0372d72e6da26acadb5b31f7"), looks := true }, kinds := [], alts := [], laidByText := true, laidKinds := [.sentinel, .sentinel, .sentinel, .sentinel, .sentinel], laidTests := true, laidLooks := .later }
def FnFsUptoCardSaid : Prop := Claim7.holds Tryz.pinned (.plain (OpenSpec.upto fnFsSpec)) fnFsUptoCard

/-- THE SECOND FORM's CARD OF 'laws.FnFsCrash'. -/
def fnFsCrashUptoCard : Claim7 := { stood := { row := fnFsCrashUptoRow, standIns := [], harness := (true, "e5bfd0b7047786f0a7b6d550e30085ad45dd09eb0372d72e6da26acadb5b31f7"), looks := true }, kinds := [], alts := [], laidByText := true, laidKinds := [.sentinel, .sentinel, .sentinel, .sentinel, .sentinel], laidTests := true, laidLooks := .later }
def FnFsCrashUptoCardSaid : Prop := Claim7.holds Tryz.pinned (.plain (OpenSpec.upto fnFsCrashSpec)) fnFsCrashUptoCard
end Rows
end Go.Proofs.YtpgodphnjeifhaaGreatDoor
