/-
  DERIVED. GIVEN WITH THE SEED: THE CARDS: each row of YtjnbhppnchmeoaaDoorRows.lean that lists a variable, with what it lists TIED to the program's text (the seventh form; the later family's looks); each row that meets fmt, with fmt's text TOLD by the authors' own Lean function (tested against real Go, not proved from fmt's source: count such statements apart). THE CARD IS WHAT COUNTS. Prove the row's statement (the work); the ties are given (YtjnbhppnchmeoaaDoorTie.lean); close each card by the builder's one call (the guide's Derived/Test/ToyasCard.lean, 'card_holds'). Laid BY PROGRAM, IN A SANDBOX (cutbox-door.mjs). By AI agents, Wed Nov 11 2026. No macro, syntax, notation, axiom, sorry.
-/
import Derived.Test.YtjnbhppnchmeoaaDoorRows
import GoSem.ClaimSeven
namespace Go.Proofs.YtjnbhppnchmeoaaDoor
namespace Rows

/-- THE TIED CARD OF 'laws.FnExactBrokerRead'. -/
def fnExactBrokerReadCard : Claim7 := { stood := { row := fnExactBrokerReadRow, standIns := [], harness := (true, "c299891a812f5fb0db742856c86f96838cb56a0114d6a57d470eb3e146da1710"), looks := true }, kinds := [], alts := [], laidByText := true, laidKinds := [.handle], laidTests := true, laidLooks := .later }
def FnExactBrokerReadCardSaid : Prop := Claim7.holds Tryd.pinned (.plain (OpenSpec.ofChange fnExactBrokerReadSpec)) fnExactBrokerReadCard

/-- THE TIED CARD OF 'laws.FnExactSayRead'. -/
def fnExactSayReadCard : Claim7 := { stood := { row := fnExactSayReadRow, standIns := [], harness := (true, "c299891a812f5fb0db742856c86f96838cb56a0114d6a57d470eb3e146da1710"), looks := true }, kinds := [], alts := [], laidByText := true, laidKinds := [.handle], laidTests := true, laidLooks := .later }
def FnExactSayReadCardSaid : Prop := Claim7.holds Tryd.pinned (.plain (OpenSpec.ofChange fnExactSayReadSpec)) fnExactSayReadCard

/-- THE SECOND FORM's CARD OF 'laws.FnExactBrokerRead'. -/
def fnExactBrokerReadUptoCard : Claim7 := { stood := { row := fnExactBrokerReadUptoRow, standIns := [], harness := (true, "c299891a812f5fb0db742856c86f96838cb56a0114d6a57d470eb3e146da1710"), looks := true }, kinds := [], alts := [], laidByText := true, laidKinds := [.handle], laidTests := true, laidLooks := .later }
def FnExactBrokerReadUptoCardSaid : Prop := Claim7.holds Tryd.pinned (.plain (OpenSpec.upto fnExactBrokerReadSpec)) fnExactBrokerReadUptoCard

/-- THE SECOND FORM's CARD OF 'laws.FnExactSayRead'. -/
def fnExactSayReadUptoCard : Claim7 := { stood := { row := fnExactSayReadUptoRow, standIns := [], harness := (true, "c299891a812f5fb0db742856c86f96838cb56a0114d6a57d470eb3e146da1710"), looks := true }, kinds := [], alts := [], laidByText := true, laidKinds := [.handle], laidTests := true, laidLooks := .later }
def FnExactSayReadUptoCardSaid : Prop := Claim7.holds Tryd.pinned (.plain (OpenSpec.upto fnExactSayReadSpec)) fnExactSayReadUptoCard
end Rows
end Go.Proofs.YtjnbhppnchmeoaaDoor
