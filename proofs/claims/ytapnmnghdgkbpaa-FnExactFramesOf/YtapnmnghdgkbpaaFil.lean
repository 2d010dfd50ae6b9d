/- Files as the program holds them in memory: slices of structs of three cells, and an argument that is one. -/
import Derived.Test.YtapnmnghdgkbpaaBlk
import Derived.Test.YtapnmnghdgkbpaaName
import Derived.Deep.Slices
import Derived.Deep.Fields
import Derived.ChangeSame
import Derived.Lib.SmallJoins
import Derived.WideShapes
namespace Go.Proofs.Ytapnmnghdgkbpaa
open Go.RowKit Go.ChangeShapes Go.WideShapes Go.Deep
set_option linter.unusedVariables false

/-- A file. -/
structure Fil where
  name : ByteArray
  data : ByteArray
  sync : Int
  deriving Inhabited
namespace Fil
/-- The cells of a file. -/
def cells (f : Fil) : List Value := [.string f.name, .string f.data, .int .i64 f.sync]
/-- The value of a file. -/
def val (f : Fil) : Value := .agg #[.string f.name, .string f.data, .int .i64 f.sync]
/-- What every file keeps to: its strings are no longer than a machine allows, its number is one of 64 bits. -/
def fits (f : Fil) : Prop := f.name.size ≤ maxLen ∧ f.data.size ≤ maxLen ∧ -9223372036854775808 ≤ f.sync ∧ f.sync ≤ 9223372036854775807
end Fil
/-- The files of a slice, below block B. -/
def Fls (w : World) (B : Nat) (A : Option Addr) (L : List Fil) : Prop :=
  L.length ≤ maxLen ∧ ∀ i (h : i < L.length), ∃ a, A = some a ∧ a.block < B ∧ w.cell? (a.add (i * 3)) = some (.string L[i].name) ∧ w.cell? (a.add (i * 3 + 1)) = some (.string L[i].data) ∧ w.cell? (a.add (i * 3 + 2)) = some (.int .i64 L[i].sync) ∧ L[i].fits
theorem add_blk (a : Addr) (n : Nat) : (a.add n).block = a.block := by unfold Addr.add; split <;> rfl
theorem Fls.of_block {w w' : World} {B : Nat} {A : Option Addr} {L : List Fil} (h : Fls w B A L) (hb : ∀ k, k < B → w'.heap[k]? = w.heap[k]?) : Fls w' B A L :=
  ⟨h.1, fun i hi => by
    obtain ⟨a, e, h1, h2, h3, h4, h5⟩ := h.2 i hi
    refine ⟨a, e, h1, ?_, ?_, ?_, h5⟩
    · rw [World.cell?_of_block (a := a.add _) (hb _ (by rw [add_blk]; exact h1))]; exact h2
    · rw [World.cell?_of_block (a := a.add _) (hb _ (by rw [add_blk]; exact h1))]; exact h3
    · rw [World.cell?_of_block (a := a.add _) (hb _ (by rw [add_blk]; exact h1))]; exact h4⟩
theorem Fls.mono {w : World} {B B' : Nat} {A : Option Addr} {L : List Fil} (h : Fls w B A L) (hb : B ≤ B') : Fls w B' A L :=
  ⟨h.1, fun i hi => by
    obtain ⟨a, e, h1, h2⟩ := h.2 i hi
    exact ⟨a, e, by omega, h2⟩⟩
theorem Fls.below {w w' : World} {B C : Nat} {A : Option Addr} {L : List Fil} (h : Fls w B A L) (hb : Below C w w') (hC : B ≤ C) : Fls w' B A L := h.of_block fun k hk => hb.block k (by omega)

theorem cellsStr : Try.prog.cellsOf 9 = 1 := by kernel_rfl
theorem cellsI64 : Try.prog.cellsOf 2 = 1 := by kernel_rfl
theorem ofNat_add (a : Addr) (i j : Nat) : (a.add i).add j = a.add (i + j) := Go.Deep.add_add a i j
theorem add_far (a : Addr) (n m : Nat) : (⟨(a.add n).block, (a.add n).off + (m + 1), none⟩ : Addr) = a.add (n + (m + 1)) := by
  rw [← ofNat_add]; rfl
/-- A file of a slice, its cells as a walk asks for them. -/
theorem Fls.at {w : World} {B : Nat} {A : Option Addr} {L : List Fil} (h : Fls w B A L) (i : Nat) (hi : i < L.length) :
    ∃ a, A = some a ∧ a.block < B ∧ w.cell? (a.add (i * 3)) = some (.string L[i].name) ∧ w.cell? ⟨(a.add (i * 3)).block, (a.add (i * 3)).off + 1, none⟩ = some (.string L[i].data) ∧ w.cell? ⟨(a.add (i * 3)).block, (a.add (i * 3)).off + 2, none⟩ = some (.int .i64 L[i].sync) ∧ L[i].fits := by
  obtain ⟨a, e, h1, h2, h3, h4, h5⟩ := h.2 i hi
  exact ⟨a, e, h1, h2, by rw [add_far]; exact h3, by rw [add_far]; exact h4, h5⟩

end Go.Proofs.Ytapnmnghdgkbpaa
