/-
  No cell of these rows narrows 'for every input' (looked for: loops, veiled, ifaces, maps, wideKeys, modest, calm, conditions, laid).
  DERIVED. THE GIVEN ROWS OF THIS SEAT. 3 by the template 'for every input the law returns true; each argument reads behind the call as it read before'; 0 by the template 'total and deterministic' (their statements: YtpgodphnjeifhaaTotals.lean).
  GIVEN WITH THE SEED: the statements are not yours to turn. If you find one false, say at which input.
  Laid BY PROGRAM, IN A SANDBOX (cutbox-rows.mjs): the forced cells as the released guide's own fill.sh prints them over the translation 250ad5555ee02190… (all of the seat's roots in one cut). By AI agents, Wed Nov 11 2026. No macro, syntax, notation, axiom, sorry.
-/
import Derived.Test.YtpgodphnjeifhaaChecked
import GoSem.Claim
import GoSem.ClaimJoined
import GoSem.ClaimMapViews
import Derived.JoinedTies
import Derived.KernelRfl
namespace Go.Proofs.Ytpgodphnjeifhaa
/- THE CELL 'sum', in the pinned program and in every row, IS THE sha256 OF THE DUMP (.gsa) THAT YtpgodphnjeifhaaProg.lean LOADS. Nothing in Lean hashes anything: it is a label: what it is worth is what the hold of that sum in a sandbox is worth. -/
noncomputable def Try.pinned : Pinned := { name := "ytpgodphnjeifhaa", sum := "250ad5555ee02190ca60309ed39cb355b4755b3c99f420921a545fe7da2786ef", checked := Try.checked }
namespace Rows
def none {H : Type} : Left H := { results := [], args := [] }

/-- 'laws.FnExactCommandRight': WHATEVER THE INPUT: true; the input reads as it did. -/
def fnExactCommandRightSpec : ChangeSpec := { name := "fnExactCommandRight", fn := fun _ => fun
  | [d] => { results := [.lit (.bool true)], args := [d] }
  | _ => none }
def fnExactCommandRightRow : OpenClaim := { program := "ytpgodphnjeifhaa", sum := "250ad5555ee02190ca60309ed39cb355b4755b3c99f420921a545fe7da2786ef", func := "loop.example/g00386/laws.FnExactCommandRight", spec := "fnExactCommandRight", apart := false }
def FnExactCommandRightSaid : Prop := fnExactCommandRightRow.holds Try.pinned (OpenSpec.ofChange fnExactCommandRightSpec)

/-- ITS FALSE NEIGHBOUR: 'it returns false'. Refute it at one input. -/
def fnExactCommandRightWrong : ChangeSpec := { name := "fnExactCommandRight", fn := fun _ => fun
  | [d] => { results := [.lit (.bool false)], args := [d] }
  | _ => none }
def FnExactCommandRightWrongFalsely : Prop := fnExactCommandRightRow.holds Try.pinned (OpenSpec.ofChange fnExactCommandRightWrong)

/-- 'laws.FnExactCommandName': WHATEVER THE INPUT: true; the input reads as it did. -/
def fnExactCommandNameSpec : ChangeSpec := { name := "fnExactCommandName", fn := fun _ => fun
  | [d] => { results := [.lit (.bool true)], args := [d] }
  | _ => none }
def fnExactCommandNameRow : OpenClaim := { program := "ytpgodphnjeifhaa", sum := "250ad5555ee02190ca60309ed39cb355b4755b3c99f420921a545fe7da2786ef", func := "loop.example/g00386/laws.FnExactCommandName", spec := "fnExactCommandName", apart := false }
def FnExactCommandNameSaid : Prop := fnExactCommandNameRow.holds Try.pinned (OpenSpec.ofChange fnExactCommandNameSpec)

/-- ITS FALSE NEIGHBOUR: 'it returns false'. Refute it at one input. -/
def fnExactCommandNameWrong : ChangeSpec := { name := "fnExactCommandName", fn := fun _ => fun
  | [d] => { results := [.lit (.bool false)], args := [d] }
  | _ => none }
def FnExactCommandNameWrongFalsely : Prop := fnExactCommandNameRow.holds Try.pinned (OpenSpec.ofChange fnExactCommandNameWrong)

/-- 'laws.FnExactCommandBytes': WHATEVER THE INPUT: true; the input reads as it did. -/
def fnExactCommandBytesSpec : ChangeSpec := { name := "fnExactCommandBytes", fn := fun _ => fun
  | [d] => { results := [.lit (.bool true)], args := [d] }
  | _ => none }
def fnExactCommandBytesRow : OpenClaim := { program := "ytpgodphnjeifhaa", sum := "250ad5555ee02190ca60309ed39cb355b4755b3c99f420921a545fe7da2786ef", func := "loop.example/g00386/laws.FnExactCommandBytes", spec := "fnExactCommandBytes", apart := false }
def FnExactCommandBytesSaid : Prop := fnExactCommandBytesRow.holds Try.pinned (OpenSpec.ofChange fnExactCommandBytesSpec)

/-- ITS FALSE NEIGHBOUR: 'it returns false'. Refute it at one input. -/
def fnExactCommandBytesWrong : ChangeSpec := { name := "fnExactCommandBytes", fn := fun _ => fun
  | [d] => { results := [.lit (.bool false)], args := [d] }
  | _ => none }
def FnExactCommandBytesWrongFalsely : Prop := fnExactCommandBytesRow.holds Try.pinned (OpenSpec.ofChange fnExactCommandBytesWrong)

/- THE SECOND FORM. 'bulk': how many values and letters a reading holds, each counted each time it is reached (what is shared counts as often as it is met; a slice's spare places count too). A statement '..UptoSaid' is the law's where the arguments, and the package variables that the reading takes, are together of bulk at most 1048576: NARROWER than '..Said'. Prove '..Said' where nothing that the law and all that it calls make is longer than what came in: it says more and counts as full. Else prove '..UptoSaid'. A law counts once. -/
mutual
def uptoBulk {H : Type} : DataW H → Nat
  | .lit (.string bytes) => bytes.length + 1
  | .lit _ => 1
  | .nil => 1
  | .ptr d => uptoBulk d + 1
  | .slice elems spare => uptoBulkAll elems + uptoBulkAll spare + 1
  | .agg parts => uptoBulkAll parts + 1
  | .iface _ d => uptoBulk d + 1
  | .map entries => uptoBulkEntries entries + 1
  | .held _ => 1
def uptoBulkAll {H : Type} : List (DataW H) → Nat
  | [] => 0
  | d :: r => uptoBulk d + uptoBulkAll r
def uptoBulkEntries {H : Type} : List (Lit × DataW H) → Nat
  | [] => 0
  | x :: r => uptoBulkEntry x + uptoBulkEntries r
def uptoBulkEntry {H : Type} : Lit × DataW H → Nat
  | (.string bytes, d) => bytes.length + uptoBulk d + 1
  | (_, d) => uptoBulk d + 1
 end
def uptoSmall : (H : Type) → List (DataW H) → Bool := fun _ ds => decide (uptoBulkAll ds ≤ 1048576)
def OpenSpec.upto (s : _root_.Go.ChangeSpec) : _root_.Go.OpenSpec := { _root_.Go.OpenSpec.ofChange s with cond := some uptoSmall }

/-- 'laws.FnExactCommandRight', WHERE WHAT IT READS IS OF BULK AT MOST 1048576: true; the input reads as it did. -/
def fnExactCommandRightUptoRow : OpenClaim := { program := "ytpgodphnjeifhaa", sum := "250ad5555ee02190ca60309ed39cb355b4755b3c99f420921a545fe7da2786ef", func := "loop.example/g00386/laws.FnExactCommandRight", spec := "fnExactCommandRight", apart := false, narrowed := true }
def FnExactCommandRightUptoSaid : Prop := fnExactCommandRightUptoRow.holds Try.pinned (OpenSpec.upto fnExactCommandRightSpec)

/-- 'laws.FnExactCommandName', WHERE WHAT IT READS IS OF BULK AT MOST 1048576: true; the input reads as it did. -/
def fnExactCommandNameUptoRow : OpenClaim := { program := "ytpgodphnjeifhaa", sum := "250ad5555ee02190ca60309ed39cb355b4755b3c99f420921a545fe7da2786ef", func := "loop.example/g00386/laws.FnExactCommandName", spec := "fnExactCommandName", apart := false, narrowed := true }
def FnExactCommandNameUptoSaid : Prop := fnExactCommandNameUptoRow.holds Try.pinned (OpenSpec.upto fnExactCommandNameSpec)

/-- 'laws.FnExactCommandBytes', WHERE WHAT IT READS IS OF BULK AT MOST 1048576: true; the input reads as it did. -/
def fnExactCommandBytesUptoRow : OpenClaim := { program := "ytpgodphnjeifhaa", sum := "250ad5555ee02190ca60309ed39cb355b4755b3c99f420921a545fe7da2786ef", func := "loop.example/g00386/laws.FnExactCommandBytes", spec := "fnExactCommandBytes", apart := false, narrowed := true }
def FnExactCommandBytesUptoSaid : Prop := fnExactCommandBytesUptoRow.holds Try.pinned (OpenSpec.upto fnExactCommandBytesSpec)

end Rows
end Go.Proofs.Ytpgodphnjeifhaa
