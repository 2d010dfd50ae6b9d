/-
  NARROWER THAN 'FOR EVERY INPUT', by the rows' own cells (each row's printed sentence says how): FnFrames: laid · FnExactFrameAt: laid · FnExactFramesRead: laid · FnExactFsSync: ifaces, laid · FnExactFsRemove: ifaces, laid · FnExactFsCut: ifaces, laid · FnExactFsRename: ifaces, laid · FnExactFsAppend: ifaces, laid.
  DERIVED. THE GIVEN ROWS OF THIS SEAT. 8 by the template 'for every input the law returns true; each argument reads behind the call as it read before'; 0 by the template 'total and deterministic' (their statements: YtapnmnghdgkbpaaDoorTotals.lean).
  GIVEN WITH THE SEED: the statements are not yours to turn. If you find one false, say at which input.
  Laid BY PROGRAM, IN A SANDBOX (cutbox-rows.mjs): the forced cells as the released guide's own fill.sh prints them over the translation 29962ff9294d6e1a… (all of the seat's roots in one cut). By AI agents, Wed Nov 11 2026. No macro, syntax, notation, axiom, sorry.
-/
import Derived.Test.YtapnmnghdgkbpaaDoorChecked
import GoSem.Claim
import GoSem.ClaimJoined
import GoSem.ClaimMapViews
import Derived.JoinedTies
import Derived.KernelRfl
namespace Go.Proofs.YtapnmnghdgkbpaaDoor
/- THE CELL 'sum', in the pinned program and in every row, IS THE sha256 OF THE DUMP (.gsa) THAT YtapnmnghdgkbpaaDoorProg.lean LOADS. Nothing in Lean hashes anything: it is a label: what it is worth is what the hold of that sum in a sandbox is worth. -/
noncomputable def Tryd.pinned : Pinned := { name := "ytapnmnghdgkbpaadoor", sum := "29962ff9294d6e1a62d24a9e4250cf88f44cc3858300c4d92d682a973bfd3269", checked := Tryd.checked }
namespace Rows
def none {H : Type} : Left H := { results := [], args := [] }

/- WHAT THE LISTED PACKAGE-LEVEL VARIABLES READ AS WHEN THE CALL BEGINS. Each datum BY PROGRAM (the guide's laid-datum.mjs) off the statement by which the dump's own 'gosem.cut.vars' lays the variable. In a bare row this is a premise. The card (YtapnmnghdgkbpaaDoorCards.lean) ties it to the program's text. -/
def laid_errors_errorType {H : Type} : DataW H := .iface "internal/reflectlite.rtype" (.agg [.ptr (.lit (.string [101, 114, 114, 111, 114]))])
def laid_loop_example_g00386_impl_errLongName {H : Type} : DataW H := .iface "*errors.errorString" (.ptr (.agg [.lit (.string [97, 32, 110, 97, 109, 101, 32, 105, 115, 32, 116, 111, 111, 32, 108, 111, 110, 103])]))
def laid_loop_example_g00386_impl_errBadFiles {H : Type} : DataW H := .iface "*errors.errorString" (.ptr (.agg [.lit (.string [116, 104, 101, 32, 102, 105, 108, 101, 32, 115, 121, 115, 116, 101, 109, 32, 111, 114, 32, 97, 32, 110, 97, 109, 101, 32, 105, 115, 32, 105, 110, 118, 97, 108, 105, 100])]))
def laid_loop_example_g00386_impl_errNoFile {H : Type} : DataW H := .iface "*errors.errorString" (.ptr (.agg [.lit (.string [116, 104, 101, 114, 101, 32, 105, 115, 32, 110, 111, 32, 115, 117, 99, 104, 32, 102, 105, 108, 101])]))
def laid_loop_example_g00386_impl_errBadSize {H : Type} : DataW H := .iface "*errors.errorString" (.ptr (.agg [.lit (.string [116, 104, 101, 32, 102, 105, 108, 101, 32, 105, 115, 32, 115, 104, 111, 114, 116, 101, 114, 32, 116, 104, 97, 110, 32, 116, 104, 97, 116])]))
def laid_loop_example_g00386_impl_errNoRoom {H : Type} : DataW H := .iface "*errors.errorString" (.ptr (.agg [.lit (.string [116, 104, 101, 114, 101, 32, 105, 115, 32, 110, 111, 32, 114, 111, 111, 109, 32, 102, 111, 114, 32, 116, 104, 97, 116])]))

/-- 'laws.FnFrames': WHATEVER THE INPUT: true; the input reads as it did. -/
def fnFramesSpec : ChangeSpec := { name := "fnFrames", fn := fun _ => fun
  | [d1, d2] => { results := [.lit (.bool true)], args := [d1, d2] }
  | _ => none }
def fnFramesRow : OpenClaim := { program := "ytapnmnghdgkbpaadoor", sum := "29962ff9294d6e1a62d24a9e4250cf88f44cc3858300c4d92d682a973bfd3269", func := "loop.example/g00386/laws.FnFrames", spec := "fnFrames", inPlace := ["internal/reflectlite.ValueOf", "(internal/reflectlite.Value).Type", "(internal/reflectlite.Value).IsNil", "internal/reflectlite.TypeOf", "(internal/reflectlite.Value).Elem", "(internal/reflectlite.Value).Set"], unfollowed := true, recurses := true, named := ["errors.errorType"], apart := false, laid := [("errors.errorType", laid_errors_errorType)] }
def FnFramesSaid : Prop := fnFramesRow.holds Tryd.pinned (OpenSpec.ofChange fnFramesSpec)

/-- ITS FALSE NEIGHBOUR: 'it returns false'. Refute it at one input. -/
def fnFramesWrong : ChangeSpec := { name := "fnFrames", fn := fun _ => fun
  | [d1, d2] => { results := [.lit (.bool false)], args := [d1, d2] }
  | _ => none }
def FnFramesWrongFalsely : Prop := fnFramesRow.holds Tryd.pinned (OpenSpec.ofChange fnFramesWrong)

/-- 'laws.FnExactFrameAt': WHATEVER THE INPUT: true; the input reads as it did. -/
def fnExactFrameAtSpec : ChangeSpec := { name := "fnExactFrameAt", fn := fun _ => fun
  | [d1, d2] => { results := [.lit (.bool true)], args := [d1, d2] }
  | _ => none }
def fnExactFrameAtRow : OpenClaim := { program := "ytapnmnghdgkbpaadoor", sum := "29962ff9294d6e1a62d24a9e4250cf88f44cc3858300c4d92d682a973bfd3269", func := "loop.example/g00386/laws.FnExactFrameAt", spec := "fnExactFrameAt", inPlace := ["internal/reflectlite.ValueOf", "(internal/reflectlite.Value).Type", "(internal/reflectlite.Value).IsNil", "internal/reflectlite.TypeOf", "(internal/reflectlite.Value).Elem", "(internal/reflectlite.Value).Set"], unfollowed := true, recurses := true, named := ["errors.errorType"], apart := false, laid := [("errors.errorType", laid_errors_errorType)] }
def FnExactFrameAtSaid : Prop := fnExactFrameAtRow.holds Tryd.pinned (OpenSpec.ofChange fnExactFrameAtSpec)

/-- ITS FALSE NEIGHBOUR: 'it returns false'. Refute it at one input. -/
def fnExactFrameAtWrong : ChangeSpec := { name := "fnExactFrameAt", fn := fun _ => fun
  | [d1, d2] => { results := [.lit (.bool false)], args := [d1, d2] }
  | _ => none }
def FnExactFrameAtWrongFalsely : Prop := fnExactFrameAtRow.holds Tryd.pinned (OpenSpec.ofChange fnExactFrameAtWrong)

/-- 'laws.FnExactFramesRead': WHATEVER THE INPUT: true; the input reads as it did. -/
def fnExactFramesReadSpec : ChangeSpec := { name := "fnExactFramesRead", fn := fun _ => fun
  | [d] => { results := [.lit (.bool true)], args := [d] }
  | _ => none }
def fnExactFramesReadRow : OpenClaim := { program := "ytapnmnghdgkbpaadoor", sum := "29962ff9294d6e1a62d24a9e4250cf88f44cc3858300c4d92d682a973bfd3269", func := "loop.example/g00386/laws.FnExactFramesRead", spec := "fnExactFramesRead", inPlace := ["internal/reflectlite.ValueOf", "(internal/reflectlite.Value).Type", "(internal/reflectlite.Value).IsNil", "internal/reflectlite.TypeOf", "(internal/reflectlite.Value).Elem", "(internal/reflectlite.Value).Set"], unfollowed := true, recurses := true, named := ["errors.errorType"], apart := false, laid := [("errors.errorType", laid_errors_errorType)] }
def FnExactFramesReadSaid : Prop := fnExactFramesReadRow.holds Tryd.pinned (OpenSpec.ofChange fnExactFramesReadSpec)

/-- ITS FALSE NEIGHBOUR: 'it returns false'. Refute it at one input. -/
def fnExactFramesReadWrong : ChangeSpec := { name := "fnExactFramesRead", fn := fun _ => fun
  | [d] => { results := [.lit (.bool false)], args := [d] }
  | _ => none }
def FnExactFramesReadWrongFalsely : Prop := fnExactFramesReadRow.holds Tryd.pinned (OpenSpec.ofChange fnExactFramesReadWrong)

/-- 'laws.FnExactFsSync': WHATEVER THE INPUT: true; the input reads as it did. -/
def fnExactFsSyncSpec : ChangeSpec := { name := "fnExactFsSync", vars := ["loop.example/g00386/impl.errNoFile", "loop.example/g00386/impl.errLongName", "loop.example/g00386/impl.errBadFiles", "loop.example/g00386/impl.errBadSize", "loop.example/g00386/impl.errNoRoom"], fn := fun _ => fun
  | [d1, d2, g1, g2, g3, g4, g5] => { results := [.lit (.bool true)], args := [d1, d2], vars := [g1, g2, g3, g4, g5] }
  | _ => none }
def fnExactFsSyncRow : OpenClaim := { program := "ytapnmnghdgkbpaadoor", sum := "29962ff9294d6e1a62d24a9e4250cf88f44cc3858300c4d92d682a973bfd3269", func := "loop.example/g00386/laws.FnExactFsSync", spec := "fnExactFsSync", inPlace := ["internal/reflectlite.TypeOf"], unfollowed := true, recurses := true, named := ["loop.example/g00386/impl.errNoFile", "loop.example/g00386/impl.errLongName", "loop.example/g00386/impl.errBadFiles", "loop.example/g00386/impl.errBadSize", "loop.example/g00386/impl.errNoRoom"], ifaces := true, apart := false, laid := [("loop.example/g00386/impl.errLongName", laid_loop_example_g00386_impl_errLongName), ("loop.example/g00386/impl.errBadFiles", laid_loop_example_g00386_impl_errBadFiles), ("loop.example/g00386/impl.errNoFile", laid_loop_example_g00386_impl_errNoFile), ("loop.example/g00386/impl.errBadSize", laid_loop_example_g00386_impl_errBadSize), ("loop.example/g00386/impl.errNoRoom", laid_loop_example_g00386_impl_errNoRoom)] }
def FnExactFsSyncSaid : Prop := fnExactFsSyncRow.holds Tryd.pinned (OpenSpec.ofChange fnExactFsSyncSpec)

/-- ITS FALSE NEIGHBOUR: 'it returns false'. Refute it at one input. -/
def fnExactFsSyncWrong : ChangeSpec := { name := "fnExactFsSync", vars := ["loop.example/g00386/impl.errNoFile", "loop.example/g00386/impl.errLongName", "loop.example/g00386/impl.errBadFiles", "loop.example/g00386/impl.errBadSize", "loop.example/g00386/impl.errNoRoom"], fn := fun _ => fun
  | [d1, d2, g1, g2, g3, g4, g5] => { results := [.lit (.bool false)], args := [d1, d2], vars := [g1, g2, g3, g4, g5] }
  | _ => none }
def FnExactFsSyncWrongFalsely : Prop := fnExactFsSyncRow.holds Tryd.pinned (OpenSpec.ofChange fnExactFsSyncWrong)

/-- 'laws.FnExactFsRemove': WHATEVER THE INPUT: true; the input reads as it did. -/
def fnExactFsRemoveSpec : ChangeSpec := { name := "fnExactFsRemove", vars := ["loop.example/g00386/impl.errNoFile", "loop.example/g00386/impl.errLongName", "loop.example/g00386/impl.errBadFiles", "loop.example/g00386/impl.errBadSize", "loop.example/g00386/impl.errNoRoom"], fn := fun _ => fun
  | [d1, d2, g1, g2, g3, g4, g5] => { results := [.lit (.bool true)], args := [d1, d2], vars := [g1, g2, g3, g4, g5] }
  | _ => none }
def fnExactFsRemoveRow : OpenClaim := { program := "ytapnmnghdgkbpaadoor", sum := "29962ff9294d6e1a62d24a9e4250cf88f44cc3858300c4d92d682a973bfd3269", func := "loop.example/g00386/laws.FnExactFsRemove", spec := "fnExactFsRemove", inPlace := ["internal/reflectlite.TypeOf"], unfollowed := true, recurses := true, named := ["loop.example/g00386/impl.errNoFile", "loop.example/g00386/impl.errLongName", "loop.example/g00386/impl.errBadFiles", "loop.example/g00386/impl.errBadSize", "loop.example/g00386/impl.errNoRoom"], ifaces := true, apart := false, laid := [("loop.example/g00386/impl.errLongName", laid_loop_example_g00386_impl_errLongName), ("loop.example/g00386/impl.errBadFiles", laid_loop_example_g00386_impl_errBadFiles), ("loop.example/g00386/impl.errNoFile", laid_loop_example_g00386_impl_errNoFile), ("loop.example/g00386/impl.errBadSize", laid_loop_example_g00386_impl_errBadSize), ("loop.example/g00386/impl.errNoRoom", laid_loop_example_g00386_impl_errNoRoom)] }
def FnExactFsRemoveSaid : Prop := fnExactFsRemoveRow.holds Tryd.pinned (OpenSpec.ofChange fnExactFsRemoveSpec)

/-- ITS FALSE NEIGHBOUR: 'it returns false'. Refute it at one input. -/
def fnExactFsRemoveWrong : ChangeSpec := { name := "fnExactFsRemove", vars := ["loop.example/g00386/impl.errNoFile", "loop.example/g00386/impl.errLongName", "loop.example/g00386/impl.errBadFiles", "loop.example/g00386/impl.errBadSize", "loop.example/g00386/impl.errNoRoom"], fn := fun _ => fun
  | [d1, d2, g1, g2, g3, g4, g5] => { results := [.lit (.bool false)], args := [d1, d2], vars := [g1, g2, g3, g4, g5] }
  | _ => none }
def FnExactFsRemoveWrongFalsely : Prop := fnExactFsRemoveRow.holds Tryd.pinned (OpenSpec.ofChange fnExactFsRemoveWrong)

/-- 'laws.FnExactFsCut': WHATEVER THE INPUT: true; the input reads as it did. -/
def fnExactFsCutSpec : ChangeSpec := { name := "fnExactFsCut", vars := ["loop.example/g00386/impl.errBadSize", "loop.example/g00386/impl.errNoFile", "loop.example/g00386/impl.errLongName", "loop.example/g00386/impl.errBadFiles", "loop.example/g00386/impl.errNoRoom"], fn := fun _ => fun
  | [d1, d2, d3, g1, g2, g3, g4, g5] => { results := [.lit (.bool true)], args := [d1, d2, d3], vars := [g1, g2, g3, g4, g5] }
  | _ => none }
def fnExactFsCutRow : OpenClaim := { program := "ytapnmnghdgkbpaadoor", sum := "29962ff9294d6e1a62d24a9e4250cf88f44cc3858300c4d92d682a973bfd3269", func := "loop.example/g00386/laws.FnExactFsCut", spec := "fnExactFsCut", inPlace := ["internal/reflectlite.TypeOf"], unfollowed := true, recurses := true, named := ["loop.example/g00386/impl.errBadSize", "loop.example/g00386/impl.errNoFile", "loop.example/g00386/impl.errLongName", "loop.example/g00386/impl.errBadFiles", "loop.example/g00386/impl.errNoRoom"], ifaces := true, apart := false, laid := [("loop.example/g00386/impl.errLongName", laid_loop_example_g00386_impl_errLongName), ("loop.example/g00386/impl.errBadFiles", laid_loop_example_g00386_impl_errBadFiles), ("loop.example/g00386/impl.errNoFile", laid_loop_example_g00386_impl_errNoFile), ("loop.example/g00386/impl.errBadSize", laid_loop_example_g00386_impl_errBadSize), ("loop.example/g00386/impl.errNoRoom", laid_loop_example_g00386_impl_errNoRoom)] }
def FnExactFsCutSaid : Prop := fnExactFsCutRow.holds Tryd.pinned (OpenSpec.ofChange fnExactFsCutSpec)

/-- ITS FALSE NEIGHBOUR: 'it returns false'. Refute it at one input. -/
def fnExactFsCutWrong : ChangeSpec := { name := "fnExactFsCut", vars := ["loop.example/g00386/impl.errBadSize", "loop.example/g00386/impl.errNoFile", "loop.example/g00386/impl.errLongName", "loop.example/g00386/impl.errBadFiles", "loop.example/g00386/impl.errNoRoom"], fn := fun _ => fun
  | [d1, d2, d3, g1, g2, g3, g4, g5] => { results := [.lit (.bool false)], args := [d1, d2, d3], vars := [g1, g2, g3, g4, g5] }
  | _ => none }
def FnExactFsCutWrongFalsely : Prop := fnExactFsCutRow.holds Tryd.pinned (OpenSpec.ofChange fnExactFsCutWrong)

/-- 'laws.FnExactFsRename': WHATEVER THE INPUT: true; the input reads as it did. -/
def fnExactFsRenameSpec : ChangeSpec := { name := "fnExactFsRename", vars := ["loop.example/g00386/impl.errNoFile", "loop.example/g00386/impl.errLongName", "loop.example/g00386/impl.errBadFiles", "loop.example/g00386/impl.errBadSize", "loop.example/g00386/impl.errNoRoom"], fn := fun _ => fun
  | [d1, d2, d3, g1, g2, g3, g4, g5] => { results := [.lit (.bool true)], args := [d1, d2, d3], vars := [g1, g2, g3, g4, g5] }
  | _ => none }
def fnExactFsRenameRow : OpenClaim := { program := "ytapnmnghdgkbpaadoor", sum := "29962ff9294d6e1a62d24a9e4250cf88f44cc3858300c4d92d682a973bfd3269", func := "loop.example/g00386/laws.FnExactFsRename", spec := "fnExactFsRename", inPlace := ["internal/reflectlite.TypeOf"], unfollowed := true, recurses := true, named := ["loop.example/g00386/impl.errNoFile", "loop.example/g00386/impl.errLongName", "loop.example/g00386/impl.errBadFiles", "loop.example/g00386/impl.errBadSize", "loop.example/g00386/impl.errNoRoom"], ifaces := true, apart := false, laid := [("loop.example/g00386/impl.errLongName", laid_loop_example_g00386_impl_errLongName), ("loop.example/g00386/impl.errBadFiles", laid_loop_example_g00386_impl_errBadFiles), ("loop.example/g00386/impl.errNoFile", laid_loop_example_g00386_impl_errNoFile), ("loop.example/g00386/impl.errBadSize", laid_loop_example_g00386_impl_errBadSize), ("loop.example/g00386/impl.errNoRoom", laid_loop_example_g00386_impl_errNoRoom)] }
def FnExactFsRenameSaid : Prop := fnExactFsRenameRow.holds Tryd.pinned (OpenSpec.ofChange fnExactFsRenameSpec)

/-- ITS FALSE NEIGHBOUR: 'it returns false'. Refute it at one input. -/
def fnExactFsRenameWrong : ChangeSpec := { name := "fnExactFsRename", vars := ["loop.example/g00386/impl.errNoFile", "loop.example/g00386/impl.errLongName", "loop.example/g00386/impl.errBadFiles", "loop.example/g00386/impl.errBadSize", "loop.example/g00386/impl.errNoRoom"], fn := fun _ => fun
  | [d1, d2, d3, g1, g2, g3, g4, g5] => { results := [.lit (.bool false)], args := [d1, d2, d3], vars := [g1, g2, g3, g4, g5] }
  | _ => none }
def FnExactFsRenameWrongFalsely : Prop := fnExactFsRenameRow.holds Tryd.pinned (OpenSpec.ofChange fnExactFsRenameWrong)

/-- 'laws.FnExactFsAppend': WHATEVER THE INPUT: true; the input reads as it did. -/
def fnExactFsAppendSpec : ChangeSpec := { name := "fnExactFsAppend", vars := ["loop.example/g00386/impl.errNoRoom", "loop.example/g00386/impl.errNoFile", "loop.example/g00386/impl.errLongName", "loop.example/g00386/impl.errBadFiles", "loop.example/g00386/impl.errBadSize"], fn := fun _ => fun
  | [d1, d2, d3, g1, g2, g3, g4, g5] => { results := [.lit (.bool true)], args := [d1, d2, d3], vars := [g1, g2, g3, g4, g5] }
  | _ => none }
def fnExactFsAppendRow : OpenClaim := { program := "ytapnmnghdgkbpaadoor", sum := "29962ff9294d6e1a62d24a9e4250cf88f44cc3858300c4d92d682a973bfd3269", func := "loop.example/g00386/laws.FnExactFsAppend", spec := "fnExactFsAppend", inPlace := ["internal/reflectlite.TypeOf"], unfollowed := true, recurses := true, named := ["loop.example/g00386/impl.errNoRoom", "loop.example/g00386/impl.errNoFile", "loop.example/g00386/impl.errLongName", "loop.example/g00386/impl.errBadFiles", "loop.example/g00386/impl.errBadSize"], ifaces := true, apart := false, laid := [("loop.example/g00386/impl.errLongName", laid_loop_example_g00386_impl_errLongName), ("loop.example/g00386/impl.errBadFiles", laid_loop_example_g00386_impl_errBadFiles), ("loop.example/g00386/impl.errNoFile", laid_loop_example_g00386_impl_errNoFile), ("loop.example/g00386/impl.errBadSize", laid_loop_example_g00386_impl_errBadSize), ("loop.example/g00386/impl.errNoRoom", laid_loop_example_g00386_impl_errNoRoom)] }
def FnExactFsAppendSaid : Prop := fnExactFsAppendRow.holds Tryd.pinned (OpenSpec.ofChange fnExactFsAppendSpec)

/-- ITS FALSE NEIGHBOUR: 'it returns false'. Refute it at one input. -/
def fnExactFsAppendWrong : ChangeSpec := { name := "fnExactFsAppend", vars := ["loop.example/g00386/impl.errNoRoom", "loop.example/g00386/impl.errNoFile", "loop.example/g00386/impl.errLongName", "loop.example/g00386/impl.errBadFiles", "loop.example/g00386/impl.errBadSize"], fn := fun _ => fun
  | [d1, d2, d3, g1, g2, g3, g4, g5] => { results := [.lit (.bool false)], args := [d1, d2, d3], vars := [g1, g2, g3, g4, g5] }
  | _ => none }
def FnExactFsAppendWrongFalsely : Prop := fnExactFsAppendRow.holds Tryd.pinned (OpenSpec.ofChange fnExactFsAppendWrong)

/- THE SECOND FORM. 'bulk': how many values and letters a reading holds, each counted each time it is reached (what is shared counts as often as it is met; a slice's spare places count too). A statement '..UptoSaid' is the law's where the arguments, and the package variables that the reading takes, are together of bulk at most 1048576: NARROWER than '..Said'. Prove '..Said' where nothing that the law and all that it calls make is longer than what came in: it says more and counts as full. Else prove '..UptoSaid'. A law counts once. -/
mutual
def uptoBulk {H : Type} : DataW H → Nat
  | .lit (.string bytes) => bytes.length + 1
  | .lit _ => 1
  | .nil => 1
  | .ptr d => uptoBulk d + 1
  | .slice elems spare => uptoBulkAll elems + uptoBulkAll spare + 1
  | .agg parts => uptoBulkAll parts + 1
  | .iface _ d => uptoBulk d + 1
  | .map entries => uptoBulkEntries entries + 1
  | .held _ => 1
def uptoBulkAll {H : Type} : List (DataW H) → Nat
  | [] => 0
  | d :: r => uptoBulk d + uptoBulkAll r
def uptoBulkEntries {H : Type} : List (Lit × DataW H) → Nat
  | [] => 0
  | x :: r => uptoBulkEntry x + uptoBulkEntries r
def uptoBulkEntry {H : Type} : Lit × DataW H → Nat
  | (.string bytes, d) => bytes.length + uptoBulk d + 1
  | (_, d) => uptoBulk d + 1
 end
def uptoSmall : (H : Type) → List (DataW H) → Bool := fun _ ds => decide (uptoBulkAll ds ≤ 1048576)
def OpenSpec.upto (s : _root_.Go.ChangeSpec) : _root_.Go.OpenSpec := { _root_.Go.OpenSpec.ofChange s with cond := some uptoSmall }

/-- 'laws.FnFrames', WHERE WHAT IT READS IS OF BULK AT MOST 1048576: true; the input reads as it did. -/
def fnFramesUptoRow : OpenClaim := { program := "ytapnmnghdgkbpaadoor", sum := "29962ff9294d6e1a62d24a9e4250cf88f44cc3858300c4d92d682a973bfd3269", func := "loop.example/g00386/laws.FnFrames", spec := "fnFrames", inPlace := ["internal/reflectlite.ValueOf", "(internal/reflectlite.Value).Type", "(internal/reflectlite.Value).IsNil", "internal/reflectlite.TypeOf", "(internal/reflectlite.Value).Elem", "(internal/reflectlite.Value).Set"], unfollowed := true, recurses := true, named := ["errors.errorType"], apart := false, laid := [("errors.errorType", laid_errors_errorType)], narrowed := true }
def FnFramesUptoSaid : Prop := fnFramesUptoRow.holds Tryd.pinned (OpenSpec.upto fnFramesSpec)

/-- 'laws.FnExactFrameAt', WHERE WHAT IT READS IS OF BULK AT MOST 1048576: true; the input reads as it did. -/
def fnExactFrameAtUptoRow : OpenClaim := { program := "ytapnmnghdgkbpaadoor", sum := "29962ff9294d6e1a62d24a9e4250cf88f44cc3858300c4d92d682a973bfd3269", func := "loop.example/g00386/laws.FnExactFrameAt", spec := "fnExactFrameAt", inPlace := ["internal/reflectlite.ValueOf", "(internal/reflectlite.Value).Type", "(internal/reflectlite.Value).IsNil", "internal/reflectlite.TypeOf", "(internal/reflectlite.Value).Elem", "(internal/reflectlite.Value).Set"], unfollowed := true, recurses := true, named := ["errors.errorType"], apart := false, laid := [("errors.errorType", laid_errors_errorType)], narrowed := true }
def FnExactFrameAtUptoSaid : Prop := fnExactFrameAtUptoRow.holds Tryd.pinned (OpenSpec.upto fnExactFrameAtSpec)

/-- 'laws.FnExactFramesRead', WHERE WHAT IT READS IS OF BULK AT MOST 1048576: true; the input reads as it did. -/
def fnExactFramesReadUptoRow : OpenClaim := { program := "ytapnmnghdgkbpaadoor", sum := "29962ff9294d6e1a62d24a9e4250cf88f44cc3858300c4d92d682a973bfd3269", func := "loop.example/g00386/laws.FnExactFramesRead", spec := "fnExactFramesRead", inPlace := ["internal/reflectlite.ValueOf", "(internal/reflectlite.Value).Type", "(internal/reflectlite.Value).IsNil", "internal/reflectlite.TypeOf", "(internal/reflectlite.Value).Elem", "(internal/reflectlite.Value).Set"], unfollowed := true, recurses := true, named := ["errors.errorType"], apart := false, laid := [("errors.errorType", laid_errors_errorType)], narrowed := true }
def FnExactFramesReadUptoSaid : Prop := fnExactFramesReadUptoRow.holds Tryd.pinned (OpenSpec.upto fnExactFramesReadSpec)

/-- 'laws.FnExactFsSync', WHERE WHAT IT READS IS OF BULK AT MOST 1048576: true; the input reads as it did. -/
def fnExactFsSyncUptoRow : OpenClaim := { program := "ytapnmnghdgkbpaadoor", sum := "29962ff9294d6e1a62d24a9e4250cf88f44cc3858300c4d92d682a973bfd3269", func := "loop.example/g00386/laws.FnExactFsSync", spec := "fnExactFsSync", inPlace := ["internal/reflectlite.TypeOf"], unfollowed := true, recurses := true, named := ["loop.example/g00386/impl.errNoFile", "loop.example/g00386/impl.errLongName", "loop.example/g00386/impl.errBadFiles", "loop.example/g00386/impl.errBadSize", "loop.example/g00386/impl.errNoRoom"], ifaces := true, apart := false, laid := [("loop.example/g00386/impl.errLongName", laid_loop_example_g00386_impl_errLongName), ("loop.example/g00386/impl.errBadFiles", laid_loop_example_g00386_impl_errBadFiles), ("loop.example/g00386/impl.errNoFile", laid_loop_example_g00386_impl_errNoFile), ("loop.example/g00386/impl.errBadSize", laid_loop_example_g00386_impl_errBadSize), ("loop.example/g00386/impl.errNoRoom", laid_loop_example_g00386_impl_errNoRoom)], narrowed := true }
def FnExactFsSyncUptoSaid : Prop := fnExactFsSyncUptoRow.holds Tryd.pinned (OpenSpec.upto fnExactFsSyncSpec)

/-- 'laws.FnExactFsRemove', WHERE WHAT IT READS IS OF BULK AT MOST 1048576: true; the input reads as it did. -/
def fnExactFsRemoveUptoRow : OpenClaim := { program := "ytapnmnghdgkbpaadoor", sum := "29962ff9294d6e1a62d24a9e4250cf88f44cc3858300c4d92d682a973bfd3269", func := "loop.example/g00386/laws.FnExactFsRemove", spec := "fnExactFsRemove", inPlace := ["internal/reflectlite.TypeOf"], unfollowed := true, recurses := true, named := ["loop.example/g00386/impl.errNoFile", "loop.example/g00386/impl.errLongName", "loop.example/g00386/impl.errBadFiles", "loop.example/g00386/impl.errBadSize", "loop.example/g00386/impl.errNoRoom"], ifaces := true, apart := false, laid := [("loop.example/g00386/impl.errLongName", laid_loop_example_g00386_impl_errLongName), ("loop.example/g00386/impl.errBadFiles", laid_loop_example_g00386_impl_errBadFiles), ("loop.example/g00386/impl.errNoFile", laid_loop_example_g00386_impl_errNoFile), ("loop.example/g00386/impl.errBadSize", laid_loop_example_g00386_impl_errBadSize), ("loop.example/g00386/impl.errNoRoom", laid_loop_example_g00386_impl_errNoRoom)], narrowed := true }
def FnExactFsRemoveUptoSaid : Prop := fnExactFsRemoveUptoRow.holds Tryd.pinned (OpenSpec.upto fnExactFsRemoveSpec)

/-- 'laws.FnExactFsCut', WHERE WHAT IT READS IS OF BULK AT MOST 1048576: true; the input reads as it did. -/
def fnExactFsCutUptoRow : OpenClaim := { program := "ytapnmnghdgkbpaadoor", sum := "29962ff9294d6e1a62d24a9e4250cf88f44cc3858300c4d92d682a973bfd3269", func := "loop.example/g00386/laws.FnExactFsCut", spec := "fnExactFsCut", inPlace := ["internal/reflectlite.TypeOf"], unfollowed := true, recurses := true, named := ["loop.example/g00386/impl.errBadSize", "loop.example/g00386/impl.errNoFile", "loop.example/g00386/impl.errLongName", "loop.example/g00386/impl.errBadFiles", "loop.example/g00386/impl.errNoRoom"], ifaces := true, apart := false, laid := [("loop.example/g00386/impl.errLongName", laid_loop_example_g00386_impl_errLongName), ("loop.example/g00386/impl.errBadFiles", laid_loop_example_g00386_impl_errBadFiles), ("loop.example/g00386/impl.errNoFile", laid_loop_example_g00386_impl_errNoFile), ("loop.example/g00386/impl.errBadSize", laid_loop_example_g00386_impl_errBadSize), ("loop.example/g00386/impl.errNoRoom", laid_loop_example_g00386_impl_errNoRoom)], narrowed := true }
def FnExactFsCutUptoSaid : Prop := fnExactFsCutUptoRow.holds Tryd.pinned (OpenSpec.upto fnExactFsCutSpec)

/-- 'laws.FnExactFsRename', WHERE WHAT IT READS IS OF BULK AT MOST 1048576: true; the input reads as it did. -/
def fnExactFsRenameUptoRow : OpenClaim := { program := "ytapnmnghdgkbpaadoor", sum := "29962ff9294d6e1a62d24a9e4250cf88f44cc3858300c4d92d682a973bfd3269", func := "loop.example/g00386/laws.FnExactFsRename", spec := "fnExactFsRename", inPlace := ["internal/reflectlite.TypeOf"], unfollowed := true, recurses := true, named := ["loop.example/g00386/impl.errNoFile", "loop.example/g00386/impl.errLongName", "loop.example/g00386/impl.errBadFiles", "loop.example/g00386/impl.errBadSize", "loop.example/g00386/impl.errNoRoom"], ifaces := true, apart := false, laid := [("loop.example/g00386/impl.errLongName", laid_loop_example_g00386_impl_errLongName), ("loop.example/g00386/impl.errBadFiles", laid_loop_example_g00386_impl_errBadFiles), ("loop.example/g00386/impl.errNoFile", laid_loop_example_g00386_impl_errNoFile), ("loop.example/g00386/impl.errBadSize", laid_loop_example_g00386_impl_errBadSize), ("loop.example/g00386/impl.errNoRoom", laid_loop_example_g00386_impl_errNoRoom)], narrowed := true }
def FnExactFsRenameUptoSaid : Prop := fnExactFsRenameUptoRow.holds Tryd.pinned (OpenSpec.upto fnExactFsRenameSpec)

/-- 'laws.FnExactFsAppend', WHERE WHAT IT READS IS OF BULK AT MOST 1048576: true; the input reads as it did. -/
def fnExactFsAppendUptoRow : OpenClaim := { program := "ytapnmnghdgkbpaadoor", sum := "29962ff9294d6e1a62d24a9e4250cf88f44cc3858300c4d92d682a973bfd3269", func := "loop.example/g00386/laws.FnExactFsAppend", spec := "fnExactFsAppend", inPlace := ["internal/reflectlite.TypeOf"], unfollowed := true, recurses := true, named := ["loop.example/g00386/impl.errNoRoom", "loop.example/g00386/impl.errNoFile", "loop.example/g00386/impl.errLongName", "loop.example/g00386/impl.errBadFiles", "loop.example/g00386/impl.errBadSize"], ifaces := true, apart := false, laid := [("loop.example/g00386/impl.errLongName", laid_loop_example_g00386_impl_errLongName), ("loop.example/g00386/impl.errBadFiles", laid_loop_example_g00386_impl_errBadFiles), ("loop.example/g00386/impl.errNoFile", laid_loop_example_g00386_impl_errNoFile), ("loop.example/g00386/impl.errBadSize", laid_loop_example_g00386_impl_errBadSize), ("loop.example/g00386/impl.errNoRoom", laid_loop_example_g00386_impl_errNoRoom)], narrowed := true }
def FnExactFsAppendUptoSaid : Prop := fnExactFsAppendUptoRow.holds Tryd.pinned (OpenSpec.upto fnExactFsAppendSpec)

end Rows
end Go.Proofs.YtapnmnghdgkbpaaDoor
