/- Topics as the program holds them in memory: groups are structs of two cells, read out of slices. -/
import Derived.Test.YtdehpdmgoaopfaaRwk
import Derived.Test.YtdehpdmgoaopfaaStrArg
import Derived.Test.YtdehpdmgoaopfaaName
import Derived.Deep.Slices
import Derived.Deep.Fields
import Derived.ChangeSame
import Derived.Lib.SmallJoins
import Derived.WideShapes
namespace Go.Proofs.Ytdehpdmgoaopfaa
open Go.RowKit Go.ChangeShapes Go.WideShapes Go.Deep
set_option linter.unusedVariables false

/-- A group. -/
structure Grp where
  name : ByteArray
  acked : Int
  deriving Inhabited
namespace Grp
def cells (f : Grp) : List Value := [.string f.name, .int .i64 f.acked]
def val (f : Grp) : Value := .agg #[.string f.name, .int .i64 f.acked]
/-- What every group keeps to: its name is no longer than a machine allows, its number is one of 64 bits. -/
def fits (f : Grp) : Prop := f.name.size ≤ maxLen ∧ -9223372036854775808 ≤ f.acked ∧ f.acked ≤ 9223372036854775807
end Grp
/-- A topic. -/
structure Tpc where
  name : ByteArray
  base : Int
  held : List ByteArray
  groups : List Grp
/-- The value of a topic. -/
abbrev topV (n : ByteArray) (b : Int) (h g : Value) : Value := .agg #[.string n, .int .i64 b, h, g]
/-- What every topic keeps to. -/
def Tpc.fits (t : Tpc) : Prop := t.name.size ≤ maxLen ∧ (-9223372036854775808 ≤ t.base ∧ t.base ≤ 9223372036854775807) ∧ (∀ s ∈ t.held, s.size ≤ maxLen) ∧ ∀ g ∈ t.groups, g.fits
/-- The groups of a slice, below block B. -/
def Grs (w : World) (B : Nat) (A : Option Addr) (L : List Grp) : Prop :=
  L.length ≤ maxLen ∧ ∀ i (h : i < L.length), ∃ a, A = some a ∧ a.block < B ∧ w.cell? (a.add (i * 2)) = some (.string L[i].name) ∧ w.cell? (a.add (i * 2 + 1)) = some (.int .i64 L[i].acked)
theorem Grs.of_block {w w' : World} {B : Nat} {A : Option Addr} {L : List Grp} (h : Grs w B A L) (hb : ∀ k, k < B → w'.heap[k]? = w.heap[k]?) : Grs w' B A L :=
  ⟨h.1, fun i hi => by
    obtain ⟨a, e, h1, h2, h3⟩ := h.2 i hi
    refine ⟨a, e, h1, ?_, ?_⟩
    · rw [World.cell?_of_block (a := a.add _) (hb _ (by rw [add_blk]; exact h1))]; exact h2
    · rw [World.cell?_of_block (a := a.add _) (hb _ (by rw [add_blk]; exact h1))]; exact h3⟩
theorem Grs.mono {w : World} {B B' : Nat} {A : Option Addr} {L : List Grp} (h : Grs w B A L) (hb : B ≤ B') : Grs w B' A L :=
  ⟨h.1, fun i hi => by
    obtain ⟨a, e, h1, h2⟩ := h.2 i hi
    exact ⟨a, e, by omega, h2⟩⟩
theorem Grs.below {w w' : World} {B C : Nat} {A : Option Addr} {L : List Grp} (h : Grs w B A L) (hb : Below C w w') (hC : B ≤ C) : Grs w' B A L := h.of_block fun k hk => hb.block k (by omega)
theorem Grs.on {w w' : World} {A : Option Addr} {L : List Grp} (h : Grs w w.heap.size A L) (hb : Below w.heap.size w w') : Grs w' w'.heap.size A L := (h.below hb (Nat.le_refl _)).mono hb.size
theorem Strs.on {w w' : World} {A : Option Addr} {L : List ByteArray} (h : Strs w w.heap.size A L) (hb : Below w.heap.size w w') : Strs w' w'.heap.size A L := (h.below hb (Nat.le_refl _)).mono hb.size
/-- A group of a slice, its cells as a walk asks for them. -/
theorem Grs.at {w : World} {B : Nat} {A : Option Addr} {L : List Grp} (h : Grs w B A L) (i : Nat) (hi : i < L.length) :
    ∃ a, A = some a ∧ a.block < B ∧ w.cell? (a.add (i * 2)) = some (.string L[i].name) ∧ w.cell? ⟨(a.add (i * 2)).block, (a.add (i * 2)).off + 1, none⟩ = some (.int .i64 L[i].acked) := by
  obtain ⟨a, e, h1, h2, h3⟩ := h.2 i hi
  exact ⟨a, e, h1, h2, by rw [add_far]; exact h3⟩

/-- The cells of groups, one behind the other. -/
def gflat (L : List Grp) : List Value := L.flatMap Grp.cells
theorem gflat_nil : gflat [] = [] := rfl
theorem gflat_cons (f : Grp) (L : List Grp) : gflat (f :: L) = .string f.name :: .int .i64 f.acked :: gflat L := rfl
theorem gflat_append (L M : List Grp) : gflat (L ++ M) = gflat L ++ gflat M := by simp [gflat]
theorem gflat_len (L : List Grp) : (gflat L).length = L.length * 2 := by
  induction L with
  | nil => rfl
  | cons f L ih => rw [gflat_cons]; simp only [List.length_cons, ih]; omega
theorem gflat_get (L : List Grp) : ∀ (i : Nat) (hi : i < L.length) (r : Nat), r < 2 → (gflat L)[i * 2 + r]? = L[i].cells[r]? := by
  induction L with
  | nil => intro i hi; simp at hi
  | cons f L ih =>
    intro i hi r hr
    rw [gflat_cons]
    cases i with
    | zero =>
      match r, hr with
      | 0, _ => rfl
      | 1, _ => rfl
    | succ i =>
      rw [show (i + 1) * 2 + r = (i * 2 + r) + 1 + 1 by omega]
      simp only [List.getElem?_cons_succ, List.getElem_cons_succ]
      exact ih i (by simpa using hi) r hr
theorem gflat_set (f : Grp) : ∀ (L : List Grp) (i : Nat), ((gflat L).set (i * 2) (.string f.name)).set (i * 2 + 1) (.int .i64 f.acked) = gflat (L.set i f) := by
  intro L
  induction L with
  | nil => intro i; simp [gflat]
  | cons g L ih =>
    intro i
    cases i with
    | zero => rfl
    | succ i =>
      rw [gflat_cons, show (i + 1) * 2 = i * 2 + 1 + 1 by omega, List.set_cons_succ, List.set_cons_succ, List.set_cons_succ, List.set_cons_succ]
      rw [List.set_cons_succ, gflat_cons, ← ih i]
theorem gflat_one (L : List Grp) : ∀ u ∈ gflat L, u.oneCell' = true := by
  intro u hu
  obtain ⟨f, _, h⟩ := List.mem_flatMap.1 hu
  simp [Grp.cells] at h
  rcases h with rfl | rfl <;> rfl
def zeroGrp : Grp := ⟨⟨#[]⟩, 0⟩
theorem gflat_made (n : Nat) : (madeCells #[.string ⟨#[]⟩, .int .i64 0] (n * 2)).toList = gflat (List.replicate n zeroGrp) := by
  apply List.ext_getElem?
  intro j
  by_cases hj : j < n * 2
  · have h := gflat_get (List.replicate n zeroGrp) (j / 2) (by simp; omega) (j % 2) (by omega)
    rw [show j / 2 * 2 + j % 2 = j by omega] at h
    rw [h]
    have : j % 2 = 0 ∨ j % 2 = 1 := by omega
    rcases this with e | e <;> simp [madeCells, hj, e, zeroGrp, Grp.cells]
  · rw [List.getElem?_eq_none (l := gflat _) (by rw [gflat_len]; simp; omega)]
    simp [madeCells]
    omega
/-- A row of groups of the call's own. -/
def OwnG (w : World) (base : Nat) (v : Value) (L : List Grp) : Prop := w.ownsRow base 47 2 v L.length (gflat L)
theorem OwnG.slice {w : World} {base : Nat} {v : Value} {L : List Grp} (h1 : OwnG w base v L) : ∃ A c, v = .slice A L.length c ∧ Grs w w.heap.size A L := by
  rcases h1.2 with ⟨rfl, hz⟩ | ⟨g, cap, cur, rfl, hb, hg, hl, hm, hs, ht⟩
  · have : L = [] := List.eq_nil_of_length_eq_zero hz
    subst this
    exact ⟨none, 0, rfl, by simp [maxLen], fun i h => absurd h (by simp)⟩
  · refine ⟨some ⟨g, 0, none⟩, cap, rfl, by omega, fun i hi => ?_⟩
    have hc := World.ownsRow.cells h1 (g := g) rfl
    have k0 := hc (i * 2 + 0) _ (by rw [gflat_get L i hi 0 (by omega)]; rfl)
    have k1 := hc (i * 2 + 1) _ (by rw [gflat_get L i hi 1 (by omega)]; rfl)
    exact ⟨⟨g, 0, none⟩, rfl, (Array.getElem?_eq_some_iff.1 hg).1, k0, k1⟩
theorem OwnG.grs {w : World} {base c n : Nat} {A : Option Addr} {L : List Grp} (h : OwnG w base (.slice A n c) L) : Grs w w.heap.size A L := by
  obtain ⟨A', c', e, hf⟩ := h.slice
  cases e
  exact hf
theorem Rw.grs {w : World} {lo hi n c : Nat} {A : Option Addr} {L : List Grp} (h : Rw w lo hi 47 2 (.slice A n c) L.length (gflat L)) : Grs w w.heap.size A L := OwnG.grs (base := lo) (c := c) (n := n) h.1
theorem infoGrp : (Try.prog.info? 47).map (fun i => (i.zero, i.size, i.bytes)) = some (some (.agg #[.string ⟨#[]⟩, .int .i64 0]), 2, 24) := by kernel_rfl
/-- The two cells of one group of an owned row, as a store asks for them. -/
theorem row_grp {w : World} {base g n c : Nat} {M : List Grp} (h : w.ownsRow base 47 2 (.slice (some ⟨g, 0, none⟩) n c) n (gflat M)) {k : Nat} (hk : k < M.length) :
    w.cell? ⟨g, k * 2, none⟩ = some (.string M[k].name) ∧ w.cell? ⟨g, k * 2 + 1, none⟩ = some (.int .i64 M[k].acked) ∧
      w.frozen? ⟨g, k * 2, none⟩ = false ∧ w.frozen? ⟨g, k * 2 + 1, none⟩ = false := by
  have hl := h.1
  rw [gflat_len] at hl
  refine ⟨?_, ?_, h.frozenAt _, h.frozenAt _⟩
  · rw [h.cellAt _ (by omega), show k * 2 = k * 2 + 0 from rfl, gflat_get M k hk 0 (by omega)]; rfl
  · rw [h.cellAt _ (by omega), gflat_get M k hk 1 (by omega)]; rfl
theorem row_gput {w : World} {base g n c : Nat} {M : List Grp} (h : w.ownsRow base 47 2 (.slice (some ⟨g, 0, none⟩) n c) n (gflat M)) (k : Nat) (f : Grp) :
    ((w.setCell ⟨g, k * 2, none⟩ (.string f.name)).setCell ⟨g, k * 2 + 1, none⟩ (.int .i64 f.acked)).ownsRow base 47 2 (.slice (some ⟨g, 0, none⟩) n c) n (gflat (M.set k f)) := by
  have h1 := (h.stored (k * 2) (.string f.name)).1
  have h2 := (h1.stored (k * 2 + 1) (.int .i64 f.acked)).1
  rw [gflat_set] at h2
  exact h2
end Go.Proofs.Ytdehpdmgoaopfaa
