/- Contract of spec.l03Is: whether a number lies within two others. -/
import Derived.Test.YtdehpdmgoaopfaaMem
import Derived.WalkKit
import Derived.Below
import Derived.Lib.Hide
namespace Go.Proofs.Ytdehpdmgoaopfaa
open Go.RowKit
set_option linter.unusedVariables false

theorem l03Is_any (n a b : Int) (w : World) : Calls Try.prog 68 #[.int .i64 n, .int .i64 a, .int .i64 b] w fun e w' => e = .returned (.bool (decide (a ≤ n) && decide (n ≤ b))) ∧ w' = w := by
  by_cases h : a ≤ n
  · go_enter Try.func68, Try.ntmps68
    go_wp2
    go_ret
    simp [h]
  · go_enter Try.func68, Try.ntmps68
    go_wp2
    go_ret
    have h' : n < a := by omega
    simp
    intro h2
    omega
end Go.Proofs.Ytdehpdmgoaopfaa
