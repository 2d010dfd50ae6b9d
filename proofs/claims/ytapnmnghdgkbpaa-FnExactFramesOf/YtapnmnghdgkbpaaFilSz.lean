/- The size that the exact laws reckon of a file system, and the copy that they make of it. -/
import Derived.Test.YtapnmnghdgkbpaaFil
namespace Go.Proofs.Ytapnmnghdgkbpaa
open Go.RowKit
set_option linter.unusedVariables false

/-- szFile. -/
def szF (f : Fil) (left : Int) : Int := if left - f.name.size < 0 then -1 else if left - f.name.size - f.data.size < 0 then -1 else left - f.name.size - f.data.size

theorem szF_lo (f : Fil) (left : Int) (h : 0 ≤ left) : -1 ≤ szF f left ∧ szF f left ≤ left := by unfold szF; split <;> (try split) <;> omega
theorem szF_ok {f : Fil} {left : Int} (h1 : left ≤ 1048576) (h : 0 ≤ szF f left) : f.name.size ≤ 1048576 ∧ f.data.size ≤ 1048576 := by
  unfold szF at h
  split at h
  · omega
  · split at h <;> omega

/-- A file system of no great size. -/
def Small (L : List Fil) : Prop := L.length ≤ 1048576 ∧ ∀ i (h : i < L.length), L[i].name.size ≤ 1048576 ∧ L[i].data.size ≤ 1048576

end Go.Proofs.Ytapnmnghdgkbpaa
