/- Contract of spec.l03Is: whether a number lies within two others. -/
import Derived.Test.YtpgodphnjeifhaaDoorMem
import Derived.WalkKit
import Derived.Below
import Derived.Lib.Hide
namespace Go.Proofs.YtpgodphnjeifhaaDoor
open Go.RowKit
set_option linter.unusedVariables false

theorem l03Is_any (n a b : Int) (w : World) : Calls Tryd.prog 28 #[.int .i64 n, .int .i64 a, .int .i64 b] w fun e w' => e = .returned (.bool (decide (a ≤ n) && decide (n ≤ b))) ∧ w' = w := by
  by_cases h : a ≤ n
  · go_enter Tryd.func28, Tryd.ntmps28
    go_wp2
    go_ret
    simp [h]
  · go_enter Tryd.func28, Tryd.ntmps28
    go_wp2
    go_ret
    have h' : n < a := by omega
    simp
    intro h2
    omega
end Go.Proofs.YtpgodphnjeifhaaDoor
