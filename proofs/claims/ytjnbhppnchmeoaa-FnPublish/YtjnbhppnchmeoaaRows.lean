/-
  No cell of these rows narrows 'for every input' (looked for: loops, veiled, ifaces, maps, wideKeys, modest, calm, conditions, laid).
  DERIVED. THE GIVEN ROWS OF THIS SEAT. 7 by the template 'for every input the law returns true; each argument reads behind the call as it read before'; 0 by the template 'total and deterministic' (their statements: YtjnbhppnchmeoaaTotals.lean).
  GIVEN WITH THE SEED: the statements are not yours to turn. If you find one false, say at which input.
  Laid BY PROGRAM, IN A SANDBOX (cutbox-rows.mjs): the forced cells as the released guide's own fill.sh prints them over the translation 9533eae9e9b4dd20… (all of the seat's roots in one cut). By AI agents, Wed Nov 11 2026. No macro, syntax, notation, axiom, sorry.
-/
import Derived.Test.YtjnbhppnchmeoaaChecked
import GoSem.Claim
import GoSem.ClaimJoined
import GoSem.ClaimMapViews
import Derived.JoinedTies
import Derived.KernelRfl
namespace Go.Proofs.Ytjnbhppnchmeoaa
/- THE CELL 'sum', in the pinned program and in every row, IS THE sha256 OF THE DUMP (.gsa) THAT YtjnbhppnchmeoaaProg.lean LOADS. Nothing in Lean hashes anything: it is a label: what it is worth is what the hold of that sum in a sandbox is worth. -/
noncomputable def Try.pinned : Pinned := { name := "ytjnbhppnchmeoaa", sum := "9533eae9e9b4dd20e36f4afe0a14580dfff2c7e142b7cf795b7a82e61a535813", checked := Try.checked }
namespace Rows
def none {H : Type} : Left H := { results := [], args := [] }

/-- 'laws.FnPublish': WHATEVER THE INPUT: true; the input reads as it did. -/
def fnPublishSpec : ChangeSpec := { name := "fnPublish", fn := fun _ => fun
  | [d1, d2] => { results := [.lit (.bool true)], args := [d1, d2] }
  | _ => none }
def fnPublishRow : OpenClaim := { program := "ytjnbhppnchmeoaa", sum := "9533eae9e9b4dd20e36f4afe0a14580dfff2c7e142b7cf795b7a82e61a535813", func := "loop.example/g00386/laws.FnPublish", spec := "fnPublish", unfollowed := true, recurses := true, apart := false }
def FnPublishSaid : Prop := fnPublishRow.holds Try.pinned (OpenSpec.ofChange fnPublishSpec)

/-- ITS FALSE NEIGHBOUR: 'it returns false'. Refute it at one input. -/
def fnPublishWrong : ChangeSpec := { name := "fnPublish", fn := fun _ => fun
  | [d1, d2] => { results := [.lit (.bool false)], args := [d1, d2] }
  | _ => none }
def FnPublishWrongFalsely : Prop := fnPublishRow.holds Try.pinned (OpenSpec.ofChange fnPublishWrong)

/-- 'laws.FnFetch': WHATEVER THE INPUT: true; the input reads as it did. -/
def fnFetchSpec : ChangeSpec := { name := "fnFetch", fn := fun _ => fun
  | [d1, d2] => { results := [.lit (.bool true)], args := [d1, d2] }
  | _ => none }
def fnFetchRow : OpenClaim := { program := "ytjnbhppnchmeoaa", sum := "9533eae9e9b4dd20e36f4afe0a14580dfff2c7e142b7cf795b7a82e61a535813", func := "loop.example/g00386/laws.FnFetch", spec := "fnFetch", inPlace := ["internal/bytealg.abigen_runtime_cmpstring", "slices.overlaps[loop.example/g00386/impl.Group]"], unfollowed := true, recurses := true, apart := false }
def FnFetchSaid : Prop := fnFetchRow.holds Try.pinned (OpenSpec.ofChange fnFetchSpec)

/-- ITS FALSE NEIGHBOUR: 'it returns false'. Refute it at one input. -/
def fnFetchWrong : ChangeSpec := { name := "fnFetch", fn := fun _ => fun
  | [d1, d2] => { results := [.lit (.bool false)], args := [d1, d2] }
  | _ => none }
def FnFetchWrongFalsely : Prop := fnFetchRow.holds Try.pinned (OpenSpec.ofChange fnFetchWrong)

/-- 'laws.FnExactOpRight': WHATEVER THE INPUT: true; the input reads as it did. -/
def fnExactOpRightSpec : ChangeSpec := { name := "fnExactOpRight", fn := fun _ => fun
  | [d] => { results := [.lit (.bool true)], args := [d] }
  | _ => none }
def fnExactOpRightRow : OpenClaim := { program := "ytjnbhppnchmeoaa", sum := "9533eae9e9b4dd20e36f4afe0a14580dfff2c7e142b7cf795b7a82e61a535813", func := "loop.example/g00386/laws.FnExactOpRight", spec := "fnExactOpRight", apart := false }
def FnExactOpRightSaid : Prop := fnExactOpRightRow.holds Try.pinned (OpenSpec.ofChange fnExactOpRightSpec)

/-- ITS FALSE NEIGHBOUR: 'it returns false'. Refute it at one input. -/
def fnExactOpRightWrong : ChangeSpec := { name := "fnExactOpRight", fn := fun _ => fun
  | [d] => { results := [.lit (.bool false)], args := [d] }
  | _ => none }
def FnExactOpRightWrongFalsely : Prop := fnExactOpRightRow.holds Try.pinned (OpenSpec.ofChange fnExactOpRightWrong)

/-- 'laws.FnExactProofRight': WHATEVER THE INPUT: true; the input reads as it did. -/
def fnExactProofRightSpec : ChangeSpec := { name := "fnExactProofRight", fn := fun _ => fun
  | [d] => { results := [.lit (.bool true)], args := [d] }
  | _ => none }
def fnExactProofRightRow : OpenClaim := { program := "ytjnbhppnchmeoaa", sum := "9533eae9e9b4dd20e36f4afe0a14580dfff2c7e142b7cf795b7a82e61a535813", func := "loop.example/g00386/laws.FnExactProofRight", spec := "fnExactProofRight", apart := false }
def FnExactProofRightSaid : Prop := fnExactProofRightRow.holds Try.pinned (OpenSpec.ofChange fnExactProofRightSpec)

/-- ITS FALSE NEIGHBOUR: 'it returns false'. Refute it at one input. -/
def fnExactProofRightWrong : ChangeSpec := { name := "fnExactProofRight", fn := fun _ => fun
  | [d] => { results := [.lit (.bool false)], args := [d] }
  | _ => none }
def FnExactProofRightWrongFalsely : Prop := fnExactProofRightRow.holds Try.pinned (OpenSpec.ofChange fnExactProofRightWrong)

/-- 'laws.FnExactChangeRight': WHATEVER THE INPUT: true; the input reads as it did. -/
def fnExactChangeRightSpec : ChangeSpec := { name := "fnExactChangeRight", fn := fun _ => fun
  | [d] => { results := [.lit (.bool true)], args := [d] }
  | _ => none }
def fnExactChangeRightRow : OpenClaim := { program := "ytjnbhppnchmeoaa", sum := "9533eae9e9b4dd20e36f4afe0a14580dfff2c7e142b7cf795b7a82e61a535813", func := "loop.example/g00386/laws.FnExactChangeRight", spec := "fnExactChangeRight", apart := false }
def FnExactChangeRightSaid : Prop := fnExactChangeRightRow.holds Try.pinned (OpenSpec.ofChange fnExactChangeRightSpec)

/-- ITS FALSE NEIGHBOUR: 'it returns false'. Refute it at one input. -/
def fnExactChangeRightWrong : ChangeSpec := { name := "fnExactChangeRight", fn := fun _ => fun
  | [d] => { results := [.lit (.bool false)], args := [d] }
  | _ => none }
def FnExactChangeRightWrongFalsely : Prop := fnExactChangeRightRow.holds Try.pinned (OpenSpec.ofChange fnExactChangeRightWrong)

/-- 'laws.FnExactSayRight': WHATEVER THE INPUT: true; the input reads as it did. -/
def fnExactSayRightSpec : ChangeSpec := { name := "fnExactSayRight", fn := fun _ => fun
  | [d] => { results := [.lit (.bool true)], args := [d] }
  | _ => none }
def fnExactSayRightRow : OpenClaim := { program := "ytjnbhppnchmeoaa", sum := "9533eae9e9b4dd20e36f4afe0a14580dfff2c7e142b7cf795b7a82e61a535813", func := "loop.example/g00386/laws.FnExactSayRight", spec := "fnExactSayRight", apart := false }
def FnExactSayRightSaid : Prop := fnExactSayRightRow.holds Try.pinned (OpenSpec.ofChange fnExactSayRightSpec)

/-- ITS FALSE NEIGHBOUR: 'it returns false'. Refute it at one input. -/
def fnExactSayRightWrong : ChangeSpec := { name := "fnExactSayRight", fn := fun _ => fun
  | [d] => { results := [.lit (.bool false)], args := [d] }
  | _ => none }
def FnExactSayRightWrongFalsely : Prop := fnExactSayRightRow.holds Try.pinned (OpenSpec.ofChange fnExactSayRightWrong)

/-- 'laws.FnExactSayBytes': WHATEVER THE INPUT: true; the input reads as it did. -/
def fnExactSayBytesSpec : ChangeSpec := { name := "fnExactSayBytes", fn := fun _ => fun
  | [d] => { results := [.lit (.bool true)], args := [d] }
  | _ => none }
def fnExactSayBytesRow : OpenClaim := { program := "ytjnbhppnchmeoaa", sum := "9533eae9e9b4dd20e36f4afe0a14580dfff2c7e142b7cf795b7a82e61a535813", func := "loop.example/g00386/laws.FnExactSayBytes", spec := "fnExactSayBytes", apart := false }
def FnExactSayBytesSaid : Prop := fnExactSayBytesRow.holds Try.pinned (OpenSpec.ofChange fnExactSayBytesSpec)

/-- ITS FALSE NEIGHBOUR: 'it returns false'. Refute it at one input. -/
def fnExactSayBytesWrong : ChangeSpec := { name := "fnExactSayBytes", fn := fun _ => fun
  | [d] => { results := [.lit (.bool false)], args := [d] }
  | _ => none }
def FnExactSayBytesWrongFalsely : Prop := fnExactSayBytesRow.holds Try.pinned (OpenSpec.ofChange fnExactSayBytesWrong)

/- THE SECOND FORM. 'bulk': how many values and letters a reading holds, each counted each time it is reached (what is shared counts as often as it is met; a slice's spare places count too). A statement '..UptoSaid' is the law's where the arguments, and the package variables that the reading takes, are together of bulk at most 1048576: NARROWER than '..Said'. Prove '..Said' where nothing that the law and all that it calls make is longer than what came in: it says more and counts as full. Else prove '..UptoSaid'. A law counts once. -/
mutual
def uptoBulk {H : Type} : DataW H → Nat
  | .lit (.string bytes) => bytes.length + 1
  | .lit _ => 1
  | .nil => 1
  | .ptr d => uptoBulk d + 1
  | .slice elems spare => uptoBulkAll elems + uptoBulkAll spare + 1
  | .agg parts => uptoBulkAll parts + 1
  | .iface _ d => uptoBulk d + 1
  | .map entries => uptoBulkEntries entries + 1
  | .held _ => 1
def uptoBulkAll {H : Type} : List (DataW H) → Nat
  | [] => 0
  | d :: r => uptoBulk d + uptoBulkAll r
def uptoBulkEntries {H : Type} : List (Lit × DataW H) → Nat
  | [] => 0
  | x :: r => uptoBulkEntry x + uptoBulkEntries r
def uptoBulkEntry {H : Type} : Lit × DataW H → Nat
  | (.string bytes, d) => bytes.length + uptoBulk d + 1
  | (_, d) => uptoBulk d + 1
 end
def uptoSmall : (H : Type) → List (DataW H) → Bool := fun _ ds => decide (uptoBulkAll ds ≤ 1048576)
def OpenSpec.upto (s : _root_.Go.ChangeSpec) : _root_.Go.OpenSpec := { _root_.Go.OpenSpec.ofChange s with cond := some uptoSmall }

/-- 'laws.FnPublish', WHERE WHAT IT READS IS OF BULK AT MOST 1048576: true; the input reads as it did. -/
def fnPublishUptoRow : OpenClaim := { program := "ytjnbhppnchmeoaa", sum := "9533eae9e9b4dd20e36f4afe0a14580dfff2c7e142b7cf795b7a82e61a535813", func := "loop.example/g00386/laws.FnPublish", spec := "fnPublish", unfollowed := true, recurses := true, apart := false, narrowed := true }
def FnPublishUptoSaid : Prop := fnPublishUptoRow.holds Try.pinned (OpenSpec.upto fnPublishSpec)

/-- 'laws.FnFetch', WHERE WHAT IT READS IS OF BULK AT MOST 1048576: true; the input reads as it did. -/
def fnFetchUptoRow : OpenClaim := { program := "ytjnbhppnchmeoaa", sum := "9533eae9e9b4dd20e36f4afe0a14580dfff2c7e142b7cf795b7a82e61a535813", func := "loop.example/g00386/laws.FnFetch", spec := "fnFetch", inPlace := ["internal/bytealg.abigen_runtime_cmpstring", "slices.overlaps[loop.example/g00386/impl.Group]"], unfollowed := true, recurses := true, apart := false, narrowed := true }
def FnFetchUptoSaid : Prop := fnFetchUptoRow.holds Try.pinned (OpenSpec.upto fnFetchSpec)

/-- 'laws.FnExactOpRight', WHERE WHAT IT READS IS OF BULK AT MOST 1048576: true; the input reads as it did. -/
def fnExactOpRightUptoRow : OpenClaim := { program := "ytjnbhppnchmeoaa", sum := "9533eae9e9b4dd20e36f4afe0a14580dfff2c7e142b7cf795b7a82e61a535813", func := "loop.example/g00386/laws.FnExactOpRight", spec := "fnExactOpRight", apart := false, narrowed := true }
def FnExactOpRightUptoSaid : Prop := fnExactOpRightUptoRow.holds Try.pinned (OpenSpec.upto fnExactOpRightSpec)

/-- 'laws.FnExactProofRight', WHERE WHAT IT READS IS OF BULK AT MOST 1048576: true; the input reads as it did. -/
def fnExactProofRightUptoRow : OpenClaim := { program := "ytjnbhppnchmeoaa", sum := "9533eae9e9b4dd20e36f4afe0a14580dfff2c7e142b7cf795b7a82e61a535813", func := "loop.example/g00386/laws.FnExactProofRight", spec := "fnExactProofRight", apart := false, narrowed := true }
def FnExactProofRightUptoSaid : Prop := fnExactProofRightUptoRow.holds Try.pinned (OpenSpec.upto fnExactProofRightSpec)

/-- 'laws.FnExactChangeRight', WHERE WHAT IT READS IS OF BULK AT MOST 1048576: true; the input reads as it did. -/
def fnExactChangeRightUptoRow : OpenClaim := { program := "ytjnbhppnchmeoaa", sum := "9533eae9e9b4dd20e36f4afe0a14580dfff2c7e142b7cf795b7a82e61a535813", func := "loop.example/g00386/laws.FnExactChangeRight", spec := "fnExactChangeRight", apart := false, narrowed := true }
def FnExactChangeRightUptoSaid : Prop := fnExactChangeRightUptoRow.holds Try.pinned (OpenSpec.upto fnExactChangeRightSpec)

/-- 'laws.FnExactSayRight', WHERE WHAT IT READS IS OF BULK AT MOST 1048576: true; the input reads as it did. -/
def fnExactSayRightUptoRow : OpenClaim := { program := "ytjnbhppnchmeoaa", sum := "9533eae9e9b4dd20e36f4afe0a14580dfff2c7e142b7cf795b7a82e61a535813", func := "loop.example/g00386/laws.FnExactSayRight", spec := "fnExactSayRight", apart := false, narrowed := true }
def FnExactSayRightUptoSaid : Prop := fnExactSayRightUptoRow.holds Try.pinned (OpenSpec.upto fnExactSayRightSpec)

/-- 'laws.FnExactSayBytes', WHERE WHAT IT READS IS OF BULK AT MOST 1048576: true; the input reads as it did. -/
def fnExactSayBytesUptoRow : OpenClaim := { program := "ytjnbhppnchmeoaa", sum := "9533eae9e9b4dd20e36f4afe0a14580dfff2c7e142b7cf795b7a82e61a535813", func := "loop.example/g00386/laws.FnExactSayBytes", spec := "fnExactSayBytes", apart := false, narrowed := true }
def FnExactSayBytesUptoSaid : Prop := fnExactSayBytesUptoRow.holds Try.pinned (OpenSpec.upto fnExactSayBytesSpec)

end Rows
end Go.Proofs.Ytjnbhppnchmeoaa
