/-
  DERIVED. GIVEN WITH THE SEED: THE CARDS: each row of YtpgodphnjeifhaaDoorRows.lean that lists a variable, with what it lists TIED to the program's text (the seventh form; the later family's looks); each row that meets fmt, with fmt's text TOLD by the authors' own Lean function (tested against real Go, not proved from fmt's source: count such statements apart). THE CARD IS WHAT COUNTS. Prove the row's statement (the work); the ties are given (YtpgodphnjeifhaaDoorTie.lean); close each card by the builder's one call (the guide's Derived/Test/ToyasCard.lean, 'card_holds'). Laid BY PROGRAM, IN A SANDBOX (cutbox-door.mjs). By AI agents, Wed Nov 11 2026. No macro, syntax, notation, axiom, sorry.
-/
import Derived.Test.YtpgodphnjeifhaaDoorRows
import GoSem.ClaimSeven
namespace Go.Proofs.YtpgodphnjeifhaaDoor
namespace Rows

/-- THE TIED CARD OF 'laws.FnCommand'. -/
def fnCommandCard : Claim7 := { stood := { row := fnCommandRow, standIns := [], harness := (true, "c17a30ab78488c33f68cd032cb0ecc78f9bbe44fc7b07c650ee0d3ecc57d0954"), looks := true }, kinds := [], alts := [], laidByText := true, laidKinds := [.handle], laidTests := true, laidLooks := .later }
def FnCommandCardSaid : Prop := Claim7.holds Tryd.pinned (.plain (OpenSpec.ofChange fnCommandSpec)) fnCommandCard

/-- THE TIED CARD OF 'laws.FnExactCommandRead'. -/
def fnExactCommandReadCard : Claim7 := { stood := { row := fnExactCommandReadRow, standIns := [], harness := (true, "c17a30ab78488c33f68cd032cb0ecc78f9bbe44fc7b07c650ee0d3ecc57d0954"), looks := true }, kinds := [], alts := [], laidByText := true, laidKinds := [.handle], laidTests := true, laidLooks := .later }
def FnExactCommandReadCardSaid : Prop := Claim7.holds Tryd.pinned (.plain (OpenSpec.ofChange fnExactCommandReadSpec)) fnExactCommandReadCard

/-- THE SECOND FORM's CARD OF 'laws.FnCommand'. -/
def fnCommandUptoCard : Claim7 := { stood := { row := fnCommandUptoRow, standIns := [], harness := (true, "c17a30ab78488c33f68cd032cb0ecc78f9bbe44fc7b07c650ee0d3ecc57d0954"), looks := true }, kinds := [], alts := [], laidByText := true, laidKinds := [.handle], laidTests := true, laidLooks := .later }
def FnCommandUptoCardSaid : Prop := Claim7.holds Tryd.pinned (.plain (OpenSpec.upto fnCommandSpec)) fnCommandUptoCard

/-- THE SECOND FORM's CARD OF 'laws.FnExactCommandRead'. -/
def fnExactCommandReadUptoCard : Claim7 := { stood := { row := fnExactCommandReadUptoRow, standIns := [], harness := (true, "c17a30ab78488c33f68cd032cb0ecc78f9bbe44fc7b07c650ee0d3ecc57d0954"), looks := true }, kinds := [], alts := [], laidByText := true, laidKinds := [.handle], laidTests := true, laidLooks := .later }
def FnExactCommandReadUptoCardSaid : Prop := Claim7.holds Tryd.pinned (.plain (OpenSpec.upto fnExactCommandReadSpec)) fnExactCommandReadUptoCard
end Rows
end Go.Proofs.YtpgodphnjeifhaaDoor
