/-
  DERIVED. GIVEN WITH THE SEED: THE CARDS: each row of YtebkblmejkkhfaaDoorRows.lean that lists a variable, with what it lists TIED to the program's text (the seventh form; the later family's looks); each row that meets fmt, with fmt's text TOLD by the authors' own Lean function (tested against real Go, not proved from fmt's source: count such statements apart). THE CARD IS WHAT COUNTS. Prove the row's statement (the work); the ties are given (YtebkblmejkkhfaaDoorTie.lean); close each card by the builder's one call (the guide's Derived/Test/ToyasCard.lean, 'card_holds'). Laid BY PROGRAM, IN A SANDBOX (cutbox-door.mjs). By AI agents, Wed Nov 11 2026. No macro, syntax, notation, axiom, sorry.
-/
import Derived.Test.YtebkblmejkkhfaaDoorRows
import GoSem.ClaimSeven
namespace Go.Proofs.YtebkblmejkkhfaaDoor
namespace Rows

/-- THE TIED CARD OF 'laws.FnExactSegName'. -/
def fnExactSegNameCard : Claim7 := { stood := { row := fnExactSegNameRow, standIns := [], harness := (true, "ff7fcdc39019870dd352d5cae668f290adf93ffe118ad2dc48c21659148a79aa"), looks := true }, kinds := [], alts := [], laidByText := true, laidKinds := [.data, .data, .data], laidTests := true, laidLooks := .later }
def FnExactSegNameCardSaid : Prop := Claim7.holds Tryd.pinned (.plain (OpenSpec.ofChange fnExactSegNameSpec)) fnExactSegNameCard

/-- THE TIED CARD OF 'laws.FnExactSeglogRight'. -/
def fnExactSeglogRightCard : Claim7 := { stood := { row := fnExactSeglogRightRow, standIns := [], harness := (true, "ff7fcdc39019870dd352d5cae668f290adf93ffe118ad2dc48c21659148a79aa"), looks := true }, kinds := [], alts := [], laidByText := true, laidKinds := [.data, .data, .data, .handle, .sentinel], laidTests := true, laidLooks := .later }
def FnExactSeglogRightCardSaid : Prop := Claim7.holds Tryd.pinned (.plain (OpenSpec.ofChange fnExactSeglogRightSpec)) fnExactSeglogRightCard

/-- THE TIED CARD OF 'laws.FnExactSeglogNew'. -/
def fnExactSeglogNewCard : Claim7 := { stood := { row := fnExactSeglogNewRow, standIns := [], harness := (true, "ff7fcdc39019870dd352d5cae668f290adf93ffe118ad2dc48c21659148a79aa"), looks := true }, kinds := [], alts := [], laidByText := true, laidKinds := [.data, .data, .data], laidTests := true, laidLooks := .later }
def FnExactSeglogNewCardSaid : Prop := Claim7.holds Tryd.pinned (.plain (OpenSpec.ofChange fnExactSeglogNewSpec)) fnExactSeglogNewCard

/-- THE TIED CARD OF 'laws.FnExactSeglogAt'. -/
def fnExactSeglogAtCard : Claim7 := { stood := { row := fnExactSeglogAtRow, standIns := [], harness := (true, "ff7fcdc39019870dd352d5cae668f290adf93ffe118ad2dc48c21659148a79aa"), looks := true }, kinds := [], alts := [], laidByText := true, laidKinds := [.data, .data, .data, .handle, .sentinel], laidTests := true, laidLooks := .later }
def FnExactSeglogAtCardSaid : Prop := Claim7.holds Tryd.pinned (.plain (OpenSpec.ofChange fnExactSeglogAtSpec)) fnExactSeglogAtCard

/-- THE SECOND FORM's CARD OF 'laws.FnExactSegName'. -/
def fnExactSegNameUptoCard : Claim7 := { stood := { row := fnExactSegNameUptoRow, standIns := [], harness := (true, "ff7fcdc39019870dd352d5cae668f290adf93ffe118ad2dc48c21659148a79aa"), looks := true }, kinds := [], alts := [], laidByText := true, laidKinds := [.data, .data, .data], laidTests := true, laidLooks := .later }
def FnExactSegNameUptoCardSaid : Prop := Claim7.holds Tryd.pinned (.plain (OpenSpec.upto fnExactSegNameSpec)) fnExactSegNameUptoCard

/-- THE SECOND FORM's CARD OF 'laws.FnExactSeglogRight'. -/
def fnExactSeglogRightUptoCard : Claim7 := { stood := { row := fnExactSeglogRightUptoRow, standIns := [], harness := (true, "ff7fcdc39019870dd352d5cae668f290adf93ffe118ad2dc48c21659148a79aa"), looks := true }, kinds := [], alts := [], laidByText := true, laidKinds := [.data, .data, .data, .handle, .sentinel], laidTests := true, laidLooks := .later }
def FnExactSeglogRightUptoCardSaid : Prop := Claim7.holds Tryd.pinned (.plain (OpenSpec.upto fnExactSeglogRightSpec)) fnExactSeglogRightUptoCard

/-- THE SECOND FORM's CARD OF 'laws.FnExactSeglogNew'. -/
def fnExactSeglogNewUptoCard : Claim7 := { stood := { row := fnExactSeglogNewUptoRow, standIns := [], harness := (true, "ff7fcdc39019870dd352d5cae668f290adf93ffe118ad2dc48c21659148a79aa"), looks := true }, kinds := [], alts := [], laidByText := true, laidKinds := [.data, .data, .data], laidTests := true, laidLooks := .later }
def FnExactSeglogNewUptoCardSaid : Prop := Claim7.holds Tryd.pinned (.plain (OpenSpec.upto fnExactSeglogNewSpec)) fnExactSeglogNewUptoCard

/-- THE SECOND FORM's CARD OF 'laws.FnExactSeglogAt'. -/
def fnExactSeglogAtUptoCard : Claim7 := { stood := { row := fnExactSeglogAtUptoRow, standIns := [], harness := (true, "ff7fcdc39019870dd352d5cae668f290adf93ffe118ad2dc48c21659148a79aa"), looks := true }, kinds := [], alts := [], laidByText := true, laidKinds := [.data, .data, .data, .handle, .sentinel], laidTests := true, laidLooks := .later }
def FnExactSeglogAtUptoCardSaid : Prop := Claim7.holds Tryd.pinned (.plain (OpenSpec.upto fnExactSeglogAtSpec)) fnExactSeglogAtUptoCard
end Rows
end Go.Proofs.YtebkblmejkkhfaaDoor
