/- Marks on file systems: written and found again. -/
import Derived.Test.YtapnmnghdgkbpaaMark
namespace Go.Proofs.Ytapnmnghdgkbpaa
open Go.RowKit
set_option linter.unusedVariables false
end Go.Proofs.Ytapnmnghdgkbpaa
