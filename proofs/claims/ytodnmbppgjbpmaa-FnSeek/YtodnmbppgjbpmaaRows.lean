/-
  No cell of these rows narrows 'for every input' (looked for: loops, veiled, ifaces, maps, wideKeys, modest, calm, conditions, laid).
  DERIVED. THE GIVEN ROWS OF THIS SEAT. 6 by the template 'for every input the law returns true; each argument reads behind the call as it read before'; 0 by the template 'total and deterministic' (their statements: YtodnmbppgjbpmaaTotals.lean).
  GIVEN WITH THE SEED: the statements are not yours to turn. If you find one false, say at which input.
  Laid BY PROGRAM, IN A SANDBOX (cutbox-rows.mjs): the forced cells as the released guide's own fill.sh prints them over the translation 63c6d7bf7e6d6179… (all of the seat's roots in one cut). By AI agents, Wed Nov 11 2026. No macro, syntax, notation, axiom, sorry.
-/
import Derived.Test.YtodnmbppgjbpmaaChecked
import GoSem.Claim
import GoSem.ClaimJoined
import GoSem.ClaimMapViews
import Derived.JoinedTies
import Derived.KernelRfl
namespace Go.Proofs.Ytodnmbppgjbpmaa
/- THE CELL 'sum', in the pinned program and in every row, IS THE sha256 OF THE DUMP (.gsa) THAT YtodnmbppgjbpmaaProg.lean LOADS. Nothing in Lean hashes anything: it is a label: what it is worth is what the hold of that sum in a sandbox is worth. -/
noncomputable def Try.pinned : Pinned := { name := "ytodnmbppgjbpmaa", sum := "63c6d7bf7e6d6179747df8f7c1471ef2965963d6ffd228f7d669fde2f9fe6b00", checked := Try.checked }
namespace Rows
def none {H : Type} : Left H := { results := [], args := [] }

/-- 'laws.FnExactLeader': WHATEVER THE INPUT: true; the input reads as it did. -/
def fnExactLeaderSpec : ChangeSpec := { name := "fnExactLeader", fn := fun _ => fun
  | [d] => { results := [.lit (.bool true)], args := [d] }
  | _ => none }
def fnExactLeaderRow : OpenClaim := { program := "ytodnmbppgjbpmaa", sum := "63c6d7bf7e6d6179747df8f7c1471ef2965963d6ffd228f7d669fde2f9fe6b00", func := "loop.example/g00386/laws.FnExactLeader", spec := "fnExactLeader", apart := false }
def FnExactLeaderSaid : Prop := fnExactLeaderRow.holds Try.pinned (OpenSpec.ofChange fnExactLeaderSpec)

/-- ITS FALSE NEIGHBOUR: 'it returns false'. Refute it at one input. -/
def fnExactLeaderWrong : ChangeSpec := { name := "fnExactLeader", fn := fun _ => fun
  | [d] => { results := [.lit (.bool false)], args := [d] }
  | _ => none }
def FnExactLeaderWrongFalsely : Prop := fnExactLeaderRow.holds Try.pinned (OpenSpec.ofChange fnExactLeaderWrong)

/-- 'laws.FnExactQuorumRight': WHATEVER THE INPUT: true; the input reads as it did. -/
def fnExactQuorumRightSpec : ChangeSpec := { name := "fnExactQuorumRight", fn := fun _ => fun
  | [d] => { results := [.lit (.bool true)], args := [d] }
  | _ => none }
def fnExactQuorumRightRow : OpenClaim := { program := "ytodnmbppgjbpmaa", sum := "63c6d7bf7e6d6179747df8f7c1471ef2965963d6ffd228f7d669fde2f9fe6b00", func := "loop.example/g00386/laws.FnExactQuorumRight", spec := "fnExactQuorumRight", apart := false }
def FnExactQuorumRightSaid : Prop := fnExactQuorumRightRow.holds Try.pinned (OpenSpec.ofChange fnExactQuorumRightSpec)

/-- ITS FALSE NEIGHBOUR: 'it returns false'. Refute it at one input. -/
def fnExactQuorumRightWrong : ChangeSpec := { name := "fnExactQuorumRight", fn := fun _ => fun
  | [d] => { results := [.lit (.bool false)], args := [d] }
  | _ => none }
def FnExactQuorumRightWrongFalsely : Prop := fnExactQuorumRightRow.holds Try.pinned (OpenSpec.ofChange fnExactQuorumRightWrong)

/-- 'laws.FnPublish': WHATEVER THE INPUT: true; the input reads as it did. -/
def fnPublishSpec : ChangeSpec := { name := "fnPublish", fn := fun _ => fun
  | [d1, d2] => { results := [.lit (.bool true)], args := [d1, d2] }
  | _ => none }
def fnPublishRow : OpenClaim := { program := "ytodnmbppgjbpmaa", sum := "63c6d7bf7e6d6179747df8f7c1471ef2965963d6ffd228f7d669fde2f9fe6b00", func := "loop.example/g00386/laws.FnPublish", spec := "fnPublish", unfollowed := true, recurses := true, apart := false }
def FnPublishSaid : Prop := fnPublishRow.holds Try.pinned (OpenSpec.ofChange fnPublishSpec)

/-- ITS FALSE NEIGHBOUR: 'it returns false'. Refute it at one input. -/
def fnPublishWrong : ChangeSpec := { name := "fnPublish", fn := fun _ => fun
  | [d1, d2] => { results := [.lit (.bool false)], args := [d1, d2] }
  | _ => none }
def FnPublishWrongFalsely : Prop := fnPublishRow.holds Try.pinned (OpenSpec.ofChange fnPublishWrong)

/-- 'laws.FnFetch': WHATEVER THE INPUT: true; the input reads as it did. -/
def fnFetchSpec : ChangeSpec := { name := "fnFetch", fn := fun _ => fun
  | [d1, d2] => { results := [.lit (.bool true)], args := [d1, d2] }
  | _ => none }
def fnFetchRow : OpenClaim := { program := "ytodnmbppgjbpmaa", sum := "63c6d7bf7e6d6179747df8f7c1471ef2965963d6ffd228f7d669fde2f9fe6b00", func := "loop.example/g00386/laws.FnFetch", spec := "fnFetch", inPlace := ["internal/bytealg.abigen_runtime_cmpstring", "slices.overlaps[loop.example/g00386/impl.Group]"], unfollowed := true, recurses := true, apart := false }
def FnFetchSaid : Prop := fnFetchRow.holds Try.pinned (OpenSpec.ofChange fnFetchSpec)

/-- ITS FALSE NEIGHBOUR: 'it returns false'. Refute it at one input. -/
def fnFetchWrong : ChangeSpec := { name := "fnFetch", fn := fun _ => fun
  | [d1, d2] => { results := [.lit (.bool false)], args := [d1, d2] }
  | _ => none }
def FnFetchWrongFalsely : Prop := fnFetchRow.holds Try.pinned (OpenSpec.ofChange fnFetchWrong)

/-- 'laws.FnSeek': WHATEVER THE INPUT: true; the input reads as it did. -/
def fnSeekSpec : ChangeSpec := { name := "fnSeek", fn := fun _ => fun
  | [d1, d2] => { results := [.lit (.bool true)], args := [d1, d2] }
  | _ => none }
def fnSeekRow : OpenClaim := { program := "ytodnmbppgjbpmaa", sum := "63c6d7bf7e6d6179747df8f7c1471ef2965963d6ffd228f7d669fde2f9fe6b00", func := "loop.example/g00386/laws.FnSeek", spec := "fnSeek", inPlace := ["internal/bytealg.abigen_runtime_cmpstring", "slices.overlaps[loop.example/g00386/impl.Group]"], unfollowed := true, recurses := true, apart := false }
def FnSeekSaid : Prop := fnSeekRow.holds Try.pinned (OpenSpec.ofChange fnSeekSpec)

/-- ITS FALSE NEIGHBOUR: 'it returns false'. Refute it at one input. -/
def fnSeekWrong : ChangeSpec := { name := "fnSeek", fn := fun _ => fun
  | [d1, d2] => { results := [.lit (.bool false)], args := [d1, d2] }
  | _ => none }
def FnSeekWrongFalsely : Prop := fnSeekRow.holds Try.pinned (OpenSpec.ofChange fnSeekWrong)

/-- 'laws.FnRetain': WHATEVER THE INPUT: true; the input reads as it did. -/
def fnRetainSpec : ChangeSpec := { name := "fnRetain", fn := fun _ => fun
  | [d] => { results := [.lit (.bool true)], args := [d] }
  | _ => none }
def fnRetainRow : OpenClaim := { program := "ytodnmbppgjbpmaa", sum := "63c6d7bf7e6d6179747df8f7c1471ef2965963d6ffd228f7d669fde2f9fe6b00", func := "loop.example/g00386/laws.FnRetain", spec := "fnRetain", unfollowed := true, recurses := true, apart := false }
def FnRetainSaid : Prop := fnRetainRow.holds Try.pinned (OpenSpec.ofChange fnRetainSpec)

/-- ITS FALSE NEIGHBOUR: 'it returns false'. Refute it at one input. -/
def fnRetainWrong : ChangeSpec := { name := "fnRetain", fn := fun _ => fun
  | [d] => { results := [.lit (.bool false)], args := [d] }
  | _ => none }
def FnRetainWrongFalsely : Prop := fnRetainRow.holds Try.pinned (OpenSpec.ofChange fnRetainWrong)

/- THE SECOND FORM. 'bulk': how many values and letters a reading holds, each counted each time it is reached (what is shared counts as often as it is met; a slice's spare places count too). A statement '..UptoSaid' is the law's where the arguments, and the package variables that the reading takes, are together of bulk at most 1048576: NARROWER than '..Said'. Prove '..Said' where nothing that the law and all that it calls make is longer than what came in: it says more and counts as full. Else prove '..UptoSaid'. A law counts once. -/
mutual
def uptoBulk {H : Type} : DataW H → Nat
  | .lit (.string bytes) => bytes.length + 1
  | .lit _ => 1
  | .nil => 1
  | .ptr d => uptoBulk d + 1
  | .slice elems spare => uptoBulkAll elems + uptoBulkAll spare + 1
  | .agg parts => uptoBulkAll parts + 1
  | .iface _ d => uptoBulk d + 1
  | .map entries => uptoBulkEntries entries + 1
  | .held _ => 1
def uptoBulkAll {H : Type} : List (DataW H) → Nat
  | [] => 0
  | d :: r => uptoBulk d + uptoBulkAll r
def uptoBulkEntries {H : Type} : List (Lit × DataW H) → Nat
  | [] => 0
  | x :: r => uptoBulkEntry x + uptoBulkEntries r
def uptoBulkEntry {H : Type} : Lit × DataW H → Nat
  | (.string bytes, d) => bytes.length + uptoBulk d + 1
  | (_, d) => uptoBulk d + 1
 end
def uptoSmall : (H : Type) → List (DataW H) → Bool := fun _ ds => decide (uptoBulkAll ds ≤ 1048576)
def OpenSpec.upto (s : _root_.Go.ChangeSpec) : _root_.Go.OpenSpec := { _root_.Go.OpenSpec.ofChange s with cond := some uptoSmall }

/-- 'laws.FnExactLeader', WHERE WHAT IT READS IS OF BULK AT MOST 1048576: true; the input reads as it did. -/
def fnExactLeaderUptoRow : OpenClaim := { program := "ytodnmbppgjbpmaa", sum := "63c6d7bf7e6d6179747df8f7c1471ef2965963d6ffd228f7d669fde2f9fe6b00", func := "loop.example/g00386/laws.FnExactLeader", spec := "fnExactLeader", apart := false, narrowed := true }
def FnExactLeaderUptoSaid : Prop := fnExactLeaderUptoRow.holds Try.pinned (OpenSpec.upto fnExactLeaderSpec)

/-- 'laws.FnExactQuorumRight', WHERE WHAT IT READS IS OF BULK AT MOST 1048576: true; the input reads as it did. -/
def fnExactQuorumRightUptoRow : OpenClaim := { program := "ytodnmbppgjbpmaa", sum := "63c6d7bf7e6d6179747df8f7c1471ef2965963d6ffd228f7d669fde2f9fe6b00", func := "loop.example/g00386/laws.FnExactQuorumRight", spec := "fnExactQuorumRight", apart := false, narrowed := true }
def FnExactQuorumRightUptoSaid : Prop := fnExactQuorumRightUptoRow.holds Try.pinned (OpenSpec.upto fnExactQuorumRightSpec)

/-- 'laws.FnPublish', WHERE WHAT IT READS IS OF BULK AT MOST 1048576: true; the input reads as it did. -/
def fnPublishUptoRow : OpenClaim := { program := "ytodnmbppgjbpmaa", sum := "63c6d7bf7e6d6179747df8f7c1471ef2965963d6ffd228f7d669fde2f9fe6b00", func := "loop.example/g00386/laws.FnPublish", spec := "fnPublish", unfollowed := true, recurses := true, apart := false, narrowed := true }
def FnPublishUptoSaid : Prop := fnPublishUptoRow.holds Try.pinned (OpenSpec.upto fnPublishSpec)

/-- 'laws.FnFetch', WHERE WHAT IT READS IS OF BULK AT MOST 1048576: true; the input reads as it did. -/
def fnFetchUptoRow : OpenClaim := { program := "ytodnmbppgjbpmaa", sum := "63c6d7bf7e6d6179747df8f7c1471ef2965963d6ffd228f7d669fde2f9fe6b00", func := "loop.example/g00386/laws.FnFetch", spec := "fnFetch", inPlace := ["internal/bytealg.abigen_runtime_cmpstring", "slices.overlaps[loop.example/g00386/impl.Group]"], unfollowed := true, recurses := true, apart := false, narrowed := true }
def FnFetchUptoSaid : Prop := fnFetchUptoRow.holds Try.pinned (OpenSpec.upto fnFetchSpec)

/-- 'laws.FnSeek', WHERE WHAT IT READS IS OF BULK AT MOST 1048576: true; the input reads as it did. -/
def fnSeekUptoRow : OpenClaim := { program := "ytodnmbppgjbpmaa", sum := "63c6d7bf7e6d6179747df8f7c1471ef2965963d6ffd228f7d669fde2f9fe6b00", func := "loop.example/g00386/laws.FnSeek", spec := "fnSeek", inPlace := ["internal/bytealg.abigen_runtime_cmpstring", "slices.overlaps[loop.example/g00386/impl.Group]"], unfollowed := true, recurses := true, apart := false, narrowed := true }
def FnSeekUptoSaid : Prop := fnSeekUptoRow.holds Try.pinned (OpenSpec.upto fnSeekSpec)

/-- 'laws.FnRetain', WHERE WHAT IT READS IS OF BULK AT MOST 1048576: true; the input reads as it did. -/
def fnRetainUptoRow : OpenClaim := { program := "ytodnmbppgjbpmaa", sum := "63c6d7bf7e6d6179747df8f7c1471ef2965963d6ffd228f7d669fde2f9fe6b00", func := "loop.example/g00386/laws.FnRetain", spec := "fnRetain", unfollowed := true, recurses := true, apart := false, narrowed := true }
def FnRetainUptoSaid : Prop := fnRetainUptoRow.holds Try.pinned (OpenSpec.upto fnRetainSpec)

end Rows
end Go.Proofs.Ytodnmbppgjbpmaa
