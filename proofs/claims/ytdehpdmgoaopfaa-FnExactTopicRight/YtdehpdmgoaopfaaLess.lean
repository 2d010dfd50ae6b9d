/- Strings in order. -/
import Derived.Test.YtdehpdmgoaopfaaMem
namespace Go.Proofs.Ytdehpdmgoaopfaa
open Go.RowKit
set_option linter.unusedVariables false
def lessB (a b : ByteArray) : Bool := Op.bytesLess a.toList b.toList
end Go.Proofs.Ytdehpdmgoaopfaa
