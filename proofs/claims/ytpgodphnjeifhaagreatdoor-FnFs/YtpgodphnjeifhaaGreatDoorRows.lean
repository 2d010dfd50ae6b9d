/-
  NARROWER THAN 'FOR EVERY INPUT', by the rows' own cells (each row's printed sentence says how): FnFs: ifaces, laid · FnFsCrash: ifaces, laid.
  DERIVED. THE GIVEN ROWS OF THIS SEAT. 2 by the template 'for every input the law returns true; each argument reads behind the call as it read before'; 0 by the template 'total and deterministic' (their statements: YtpgodphnjeifhaaGreatDoorTotals.lean).
  GIVEN WITH THE SEED: the statements are not yours to turn. If you find one false, say at which input.
  Laid BY PROGRAM, IN A SANDBOX (cutbox-rows.mjs): the forced cells as the released guide's own fill.sh prints them over the translation ad4e74b74d3e40ac… (all of the seat's roots in one cut). By AI agents, Wed Nov 11 2026. No macro, syntax, notation, axiom, sorry.
-/
import Derived.Test.YtpgodphnjeifhaaGreatDoorChecked
import GoSem.Claim
import GoSem.ClaimJoined
import GoSem.ClaimMapViews
import Derived.JoinedTies
import Derived.KernelRfl
namespace Go.Proofs.YtpgodphnjeifhaaGreatDoor
/- THE CELL 'sum', in the pinned program and in every row, IS THE sha256 OF THE DUMP (.gsa) THAT YtpgodphnjeifhaaGreatDoorProg.lean LOADS. Nothing in Lean hashes anything: it is a label: what it is worth is what the hold of that sum in a sandbox is worth. -/
noncomputable def Tryz.pinned : Pinned := { name := "ytpgodphnjeifhaagreatdoor", sum := "ad4e74b74d3e40acf74ce9b301f181b50f9c5c61966307219e1e27de16341881", checked := Tryz.checked }
namespace Rows
def none {H : Type} : Left H := { results := [], args := [] }

/- WHAT THE LISTED PACKAGE-LEVEL VARIABLES READ AS WHEN THE CALL BEGINS. Each datum BY PROGRAM (the guide's laid-datum.mjs) off the statement by which the dump's own 'gosem.cut.vars' lays the variable. In a bare row this is a premise. The card (YtpgodphnjeifhaaGreatDoorCards.lean) ties it to the program's text. -/
def laid_loop_example_g00386_impl_errLongName {H : Type} : DataW H := .iface "*errors.errorString" (.ptr (.agg [.lit (.string [97, 32, 110, 97, 109, 101, 32, 105, 115, 32, 116, 111, 111, 32, 108, 111, 110, 103])]))
def laid_loop_example_g00386_impl_errBadFiles {H : Type} : DataW H := .iface "*errors.errorString" (.ptr (.agg [.lit (.string [116, 104, 101, 32, 102, 105, 108, 101, 32, 115, 121, 115, 116, 101, 109, 32, 111, 114, 32, 97, 32, 110, 97, 109, 101, 32, 105, 115, 32, 105, 110, 118, 97, 108, 105, 100])]))
def laid_loop_example_g00386_impl_errNoFile {H : Type} : DataW H := .iface "*errors.errorString" (.ptr (.agg [.lit (.string [116, 104, 101, 114, 101, 32, 105, 115, 32, 110, 111, 32, 115, 117, 99, 104, 32, 102, 105, 108, 101])]))
def laid_loop_example_g00386_impl_errBadSize {H : Type} : DataW H := .iface "*errors.errorString" (.ptr (.agg [.lit (.string [116, 104, 101, 32, 102, 105, 108, 101, 32, 105, 115, 32, 115, 104, 111, 114, 116, 101, 114, 32, 116, 104, 97, 110, 32, 116, 104, 97, 116])]))
def laid_loop_example_g00386_impl_errNoRoom {H : Type} : DataW H := .iface "*errors.errorString" (.ptr (.agg [.lit (.string [116, 104, 101, 114, 101, 32, 105, 115, 32, 110, 111, 32, 114, 111, 111, 109, 32, 102, 111, 114, 32, 116, 104, 97, 116])]))

/-- 'laws.FnFs': WHATEVER THE INPUT: true; the input reads as it did. -/
def fnFsSpec : ChangeSpec := { name := "fnFs", vars := ["loop.example/g00386/impl.errNoRoom", "loop.example/g00386/impl.errNoFile", "loop.example/g00386/impl.errLongName", "loop.example/g00386/impl.errBadFiles", "loop.example/g00386/impl.errBadSize"], fn := fun _ => fun
  | [d1, d2, g1, g2, g3, g4, g5] => { results := [.lit (.bool true)], args := [d1, d2], vars := [g1, g2, g3, g4, g5] }
  | _ => none }
def fnFsRow : OpenClaim := { program := "ytpgodphnjeifhaagreatdoor", sum := "ad4e74b74d3e40acf74ce9b301f181b50f9c5c61966307219e1e27de16341881", func := "loop.example/g00386/laws.FnFs", spec := "fnFs", inPlace := ["internal/reflectlite.TypeOf"], unfollowed := true, recurses := true, named := ["loop.example/g00386/impl.errNoRoom", "loop.example/g00386/impl.errNoFile", "loop.example/g00386/impl.errLongName", "loop.example/g00386/impl.errBadFiles", "loop.example/g00386/impl.errBadSize"], ifaces := true, apart := false, laid := [("loop.example/g00386/impl.errLongName", laid_loop_example_g00386_impl_errLongName), ("loop.example/g00386/impl.errBadFiles", laid_loop_example_g00386_impl_errBadFiles), ("loop.example/g00386/impl.errNoFile", laid_loop_example_g00386_impl_errNoFile), ("loop.example/g00386/impl.errBadSize", laid_loop_example_g00386_impl_errBadSize), ("loop.example/g00386/impl.errNoRoom", laid_loop_example_g00386_impl_errNoRoom)] }
def FnFsSaid : Prop := fnFsRow.holds Tryz.pinned (OpenSpec.ofChange fnFsSpec)

/-- ITS FALSE NEIGHBOUR: 'it returns false'. Refute it at one input. -/
def fnFsWrong : ChangeSpec := { name := "fnFs", vars := ["loop.example/g00386/impl.errNoRoom", "loop.example/g00386/impl.errNoFile", "loop.example/g00386/impl.errLongName", "loop.example/g00386/impl.errBadFiles", "loop.example/g00386/impl.errBadSize"], fn := fun _ => fun
  | [d1, d2, g1, g2, g3, g4, g5] => { results := [.lit (.bool false)], args := [d1, d2], vars := [g1, g2, g3, g4, g5] }
  | _ => none }
def FnFsWrongFalsely : Prop := fnFsRow.holds Tryz.pinned (OpenSpec.ofChange fnFsWrong)

/-- 'laws.FnFsCrash': WHATEVER THE INPUT: true; the input reads as it did. -/
def fnFsCrashSpec : ChangeSpec := { name := "fnFsCrash", vars := ["loop.example/g00386/impl.errNoFile", "loop.example/g00386/impl.errLongName", "loop.example/g00386/impl.errBadFiles", "loop.example/g00386/impl.errBadSize", "loop.example/g00386/impl.errNoRoom"], fn := fun _ => fun
  | [d1, d2, g1, g2, g3, g4, g5] => { results := [.lit (.bool true)], args := [d1, d2], vars := [g1, g2, g3, g4, g5] }
  | _ => none }
def fnFsCrashRow : OpenClaim := { program := "ytpgodphnjeifhaagreatdoor", sum := "ad4e74b74d3e40acf74ce9b301f181b50f9c5c61966307219e1e27de16341881", func := "loop.example/g00386/laws.FnFsCrash", spec := "fnFsCrash", inPlace := ["internal/reflectlite.TypeOf"], unfollowed := true, recurses := true, named := ["loop.example/g00386/impl.errNoFile", "loop.example/g00386/impl.errLongName", "loop.example/g00386/impl.errBadFiles", "loop.example/g00386/impl.errBadSize", "loop.example/g00386/impl.errNoRoom"], ifaces := true, apart := false, laid := [("loop.example/g00386/impl.errLongName", laid_loop_example_g00386_impl_errLongName), ("loop.example/g00386/impl.errBadFiles", laid_loop_example_g00386_impl_errBadFiles), ("loop.example/g00386/impl.errNoFile", laid_loop_example_g00386_impl_errNoFile), ("loop.example/g00386/impl.errBadSize", laid_loop_example_g00386_impl_errBadSize), ("loop.example/g00386/impl.errNoRoom", laid_loop_example_g00386_impl_errNoRoom)] }
def FnFsCrashSaid : Prop := fnFsCrashRow.holds Tryz.pinned (OpenSpec.ofChange fnFsCrashSpec)

/-- ITS FALSE NEIGHBOUR: 'it returns false'. Refute it at one input. -/
def fnFsCrashWrong : ChangeSpec := { name := "fnFsCrash", vars := ["loop.example/g00386/impl.errNoFile", "loop.example/g00386/impl.errLongName", "loop.example/g00386/impl.errBadFiles", "loop.example/g00386/impl.errBadSize", "loop.example/g00386/impl.errNoRoom"], fn := fun _ => fun
  | [d1, d2, g1, g2, g3, g4, g5] => { results := [.lit (.bool false)], args := [d1, d2], vars := [g1, g2, g3, g4, g5] }
  | _ => none }
def FnFsCrashWrongFalsely : Prop := fnFsCrashRow.holds Tryz.pinned (OpenSpec.ofChange fnFsCrashWrong)

/- THE SECOND FORM. 'bulk': how many values and letters a reading holds, each counted each time it is reached (what is shared counts as often as it is met; a slice's spare places count too). A statement '..UptoSaid' is the law's where the arguments, and the package variables that the reading takes, are together of bulk at most 1048576: NARROWER than '..Said'. Prove '..Said' where nothing that the law and all that it calls make is longer than what came in: it says more and counts as full. Else prove '..UptoSaid'. A law counts once. -/
mutual
def uptoBulk {H : Type} : DataW H → Nat
  | .lit (.string bytes) => bytes.length + 1
  | .lit _ => 1
  | .nil => 1
  | .ptr d => uptoBulk d + 1
  | .slice elems spare => uptoBulkAll elems + uptoBulkAll spare + 1
  | .agg parts => uptoBulkAll parts + 1
  | .iface _ d => uptoBulk d + 1
  | .map entries => uptoBulkEntries entries + 1
  | .held _ => 1
def uptoBulkAll {H : Type} : List (DataW H) → Nat
  | [] => 0
  | d :: r => uptoBulk d + uptoBulkAll r
def uptoBulkEntries {H : Type} : List (Lit × DataW H) → Nat
  | [] => 0
  | x :: r => uptoBulkEntry x + uptoBulkEntries r
def uptoBulkEntry {H : Type} : Lit × DataW H → Nat
  | (.string bytes, d) => bytes.length + uptoBulk d + 1
  | (_, d) => uptoBulk d + 1
 end
def uptoSmall : (H : Type) → List (DataW H) → Bool := fun _ ds => decide (uptoBulkAll ds ≤ 1048576)
def OpenSpec.upto (s : _root_.Go.ChangeSpec) : _root_.Go.OpenSpec := { _root_.Go.OpenSpec.ofChange s with cond := some uptoSmall }

/-- 'laws.FnFs', WHERE WHAT IT READS IS OF BULK AT MOST 1048576: true; the input reads as it did. -/
def fnFsUptoRow : OpenClaim := { program := "ytpgodphnjeifhaagreatdoor", sum := "ad4e74b74d3e40acf74ce9b301f181b50f9c5c61966307219e1e27de16341881", func := "loop.example/g00386/laws.FnFs", spec := "fnFs", inPlace := ["internal/reflectlite.TypeOf"], unfollowed := true, recurses := true, named := ["loop.example/g00386/impl.errNoRoom", "loop.example/g00386/impl.errNoFile", "loop.example/g00386/impl.errLongName", "loop.example/g00386/impl.errBadFiles", "loop.example/g00386/impl.errBadSize"], ifaces := true, apart := false, laid := [("loop.example/g00386/impl.errLongName", laid_loop_example_g00386_impl_errLongName), ("loop.example/g00386/impl.errBadFiles", laid_loop_example_g00386_impl_errBadFiles), ("loop.example/g00386/impl.errNoFile", laid_loop_example_g00386_impl_errNoFile), ("loop.example/g00386/impl.errBadSize", laid_loop_example_g00386_impl_errBadSize), ("loop.example/g00386/impl.errNoRoom", laid_loop_example_g00386_impl_errNoRoom)], narrowed := true }
def FnFsUptoSaid : Prop := fnFsUptoRow.holds Tryz.pinned (OpenSpec.upto fnFsSpec)

/-- 'laws.FnFsCrash', WHERE WHAT IT READS IS OF BULK AT MOST 1048576: true; the input reads as it did. -/
def fnFsCrashUptoRow : OpenClaim := { program := "ytpgodphnjeifhaagreatdoor", sum := "ad4e74b74d3e40acf74ce9b301f181b50f9c5c61966307219e1e27de16341881", func := "loop.example/g00386/laws.FnFsCrash", spec := "fnFsCrash", inPlace := ["internal/reflectlite.TypeOf"], unfollowed := true, recurses := true, named := ["loop.example/g00386/impl.errNoFile", "loop.example/g00386/impl.errLongName", "loop.example/g00386/impl.errBadFiles", "loop.example/g00386/impl.errBadSize", "loop.example/g00386/impl.errNoRoom"], ifaces := true, apart := false, laid := [("loop.example/g00386/impl.errLongName", laid_loop_example_g00386_impl_errLongName), ("loop.example/g00386/impl.errBadFiles", laid_loop_example_g00386_impl_errBadFiles), ("loop.example/g00386/impl.errNoFile", laid_loop_example_g00386_impl_errNoFile), ("loop.example/g00386/impl.errBadSize", laid_loop_example_g00386_impl_errBadSize), ("loop.example/g00386/impl.errNoRoom", laid_loop_example_g00386_impl_errNoRoom)], narrowed := true }
def FnFsCrashUptoSaid : Prop := fnFsCrashUptoRow.holds Tryz.pinned (OpenSpec.upto fnFsCrashSpec)

end Rows
end Go.Proofs.YtpgodphnjeifhaaGreatDoor
