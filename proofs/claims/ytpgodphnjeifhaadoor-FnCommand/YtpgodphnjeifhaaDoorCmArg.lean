/- An argument that is a command; toCommand, szCommand. -/
import Derived.Test.YtpgodphnjeifhaaDoorCmI
import Derived.Test.YtpgodphnjeifhaaDoorBlk
import Derived.WideShapes
import Derived.ChangeSame
namespace Go.Proofs.YtpgodphnjeifhaaDoor
open Go.RowKit Go.ChangeShapes Go.WideShapes
set_option linter.unusedVariables false
set_option maxRecDepth 1000000
/-- The facts of a command that came in. -/
def Cmd.fits (c : Cmd) : Prop := (-9223372036854775808 ≤ c.client ∧ c.client ≤ 9223372036854775807) ∧ (-9223372036854775808 ≤ c.number ∧ c.number ≤ 9223372036854775807) ∧ (-9223372036854775808 ≤ c.kind ∧ c.kind ≤ 9223372036854775807) ∧ (-9223372036854775808 ≤ c.n ∧ c.n ≤ 9223372036854775807) ∧ c.small
end Go.Proofs.YtpgodphnjeifhaaDoor
