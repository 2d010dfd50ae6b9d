/- The comparison that the exact laws make of two file systems: true where both hold the same files. -/
import Derived.Test.YtapnmnghdgkbpaaFilOwn
import Derived.Test.YtapnmnghdgkbpaaKept
namespace Go.Proofs.Ytapnmnghdgkbpaa
open Go.RowKit
set_option linter.unusedVariables false
end Go.Proofs.Ytapnmnghdgkbpaa
