/- Files as the program holds them in memory: slices of structs of three cells, and an argument that is one. -/
import Derived.Test.YtebkblmejkkhfaaDoorBlk
import Derived.Test.YtebkblmejkkhfaaDoorName
import Derived.Deep.Slices
import Derived.Deep.Fields
import Derived.ChangeSame
import Derived.Lib.SmallJoins
import Derived.WideShapes
namespace Go.Proofs.YtebkblmejkkhfaaDoor
open Go.RowKit Go.ChangeShapes Go.WideShapes Go.Deep
set_option linter.unusedVariables false

/-- A file. -/
structure Fil where
  name : ByteArray
  data : ByteArray
  sync : Int
  deriving Inhabited
namespace Fil
/-- The cells of a file. -/
def cells (f : Fil) : List Value := [.string f.name, .string f.data, .int .i64 f.sync]
/-- The value of a file. -/
def val (f : Fil) : Value := .agg #[.string f.name, .string f.data, .int .i64 f.sync]
/-- What every file keeps to: its strings are no longer than a machine allows, its number is one of 64 bits. -/
def fits (f : Fil) : Prop := f.name.size ≤ maxLen ∧ f.data.size ≤ maxLen ∧ -9223372036854775808 ≤ f.sync ∧ f.sync ≤ 9223372036854775807
end Fil
/-- The files of a slice, below block B. -/
def Fls (w : World) (B : Nat) (A : Option Addr) (L : List Fil) : Prop :=
  L.length ≤ maxLen ∧ ∀ i (h : i < L.length), ∃ a, A = some a ∧ a.block < B ∧ w.cell? (a.add (i * 3)) = some (.string L[i].name) ∧ w.cell? (a.add (i * 3 + 1)) = some (.string L[i].data) ∧ w.cell? (a.add (i * 3 + 2)) = some (.int .i64 L[i].sync) ∧ L[i].fits
theorem add_blk (a : Addr) (n : Nat) : (a.add n).block = a.block := by unfold Addr.add; split <;> rfl
theorem Fls.of_block {w w' : World} {B : Nat} {A : Option Addr} {L : List Fil} (h : Fls w B A L) (hb : ∀ k, k < B → w'.heap[k]? = w.heap[k]?) : Fls w' B A L :=
  ⟨h.1, fun i hi => by
    obtain ⟨a, e, h1, h2, h3, h4, h5⟩ := h.2 i hi
    refine ⟨a, e, h1, ?_, ?_, ?_, h5⟩
    · rw [World.cell?_of_block (a := a.add _) (hb _ (by rw [add_blk]; exact h1))]; exact h2
    · rw [World.cell?_of_block (a := a.add _) (hb _ (by rw [add_blk]; exact h1))]; exact h3
    · rw [World.cell?_of_block (a := a.add _) (hb _ (by rw [add_blk]; exact h1))]; exact h4⟩
theorem Fls.mono {w : World} {B B' : Nat} {A : Option Addr} {L : List Fil} (h : Fls w B A L) (hb : B ≤ B') : Fls w B' A L :=
  ⟨h.1, fun i hi => by
    obtain ⟨a, e, h1, h2⟩ := h.2 i hi
    exact ⟨a, e, by omega, h2⟩⟩
theorem Fls.below {w w' : World} {B C : Nat} {A : Option Addr} {L : List Fil} (h : Fls w B A L) (hb : Below C w w') (hC : B ≤ C) : Fls w' B A L := h.of_block fun k hk => hb.block k (by omega)

theorem cells3 : Tryd.prog.cellsOf 76 = 3 := by kernel_rfl
theorem cells1 : Tryd.prog.cellsOf 26 = 1 := by kernel_rfl
theorem cellsSl : Tryd.prog.cellsOf 24 = 1 := by kernel_rfl
theorem cellsStr : Tryd.prog.cellsOf 9 = 1 := by kernel_rfl
theorem cellsI64 : Tryd.prog.cellsOf 2 = 1 := by kernel_rfl
theorem ofNat_add (a : Addr) (i j : Nat) : (a.add i).add j = a.add (i + j) := Go.Deep.add_add a i j
theorem add_far (a : Addr) (n m : Nat) : (⟨(a.add n).block, (a.add n).off + (m + 1), none⟩ : Addr) = a.add (n + (m + 1)) := by
  rw [← ofNat_add]; rfl
/-- A file of a slice, its cells as a walk asks for them. -/
theorem Fls.at {w : World} {B : Nat} {A : Option Addr} {L : List Fil} (h : Fls w B A L) (i : Nat) (hi : i < L.length) :
    ∃ a, A = some a ∧ a.block < B ∧ w.cell? (a.add (i * 3)) = some (.string L[i].name) ∧ w.cell? ⟨(a.add (i * 3)).block, (a.add (i * 3)).off + 1, none⟩ = some (.string L[i].data) ∧ w.cell? ⟨(a.add (i * 3)).block, (a.add (i * 3)).off + 2, none⟩ = some (.int .i64 L[i].sync) ∧ L[i].fits := by
  obtain ⟨a, e, h1, h2, h3, h4, h5⟩ := h.2 i hi
  exact ⟨a, e, h1, h2, by rw [add_far]; exact h3, by rw [add_far]; exact h4, h5⟩

set_option maxRecDepth 1000000 in
/-- What is known of a file system that came in. -/
theorem fs_arg {H : Type} {enc : TypeId × Value → H} {W : World} {r : Reach} {b0 : Nat} {v : Value} {d : DataW H} {p : List MemPlace} (hval : Value.okWide Tryd.prog W r b0 26 v) (h : DataW.Trod enc Tryd.prog W 0 (fun _ => true) true 26 v d p) :
    ∃ A L c, v = .agg #[.slice A L.length c] ∧ Fls W W.heap.size A L := by
  obtain ⟨cs, rfl, hsz⟩ := okWide_struct Tryd.underlying26 hval
  rw [cells1] at hsz
  obtain ⟨l⟩ := cs
  match l, hsz with
  | [c0], _ =>
    obtain ⟨fuel, hf⟩ := h
    obtain ⟨y0, n, hx, _, h0⟩ := trod_struct1 Tryd.underlying26 hf
    have h1 : DataW.trod enc Tryd.prog W 0 (fun _ => true) true n 24 [c0] = some y0 := by simpa [Value.cells, cellsSl] using h0
    rcases open_slice Tryd.underlying24 h1 with ⟨hc, _⟩ | ⟨a, len, cap, m, n', D, Pl, hc, _, hl, hm, hmm, _, hi⟩
    · injection hc with hc _
      subst hc
      exact ⟨none, [], 0, rfl, by simp [maxLen], fun i h => absurd h (by simp)⟩
    · injection hc with hc _
      subst hc
      have hmm' : m = cap := by simpa using hmm
      subst hmm'
      have key : ∀ i, i < len → ∃ f : Fil, W.cell? (a.add (i * 3)) = some (.string f.name) ∧ W.cell? (a.add (i * 3 + 1)) = some (.string f.data) ∧ W.cell? (a.add (i * 3 + 2)) = some (.int .i64 f.sync) ∧ f.fits := by
        intro i hil
        obtain ⟨cs', hcc, ht⟩ := hi i (by omega)
        rw [cells3] at hcc
        obtain ⟨_, hcl, hat⟩ := World.cells?_some hcc
        obtain ⟨ys, n2, _, _, _, hyl, hfs⟩ := DataW.trod_struct Tryd.underlying76 ht
        match cs', hcl with
        | [u0, u1, u2], _ =>
          match ys, hyl with
          | [z0, z1, z2], _ =>
            have g0 := hfs 0 _ rfl
            have g1 := hfs 1 _ rfl
            have g2 := hfs 2 _ rfl
            simp only [List.getElem?_cons_zero, List.getElem?_cons_succ] at g0 g1 g2
            obtain ⟨s0, e0, _, q0⟩ := DataW.trod_string Tryd.underlying9 g0
            obtain ⟨s1, e1, _, q1⟩ := DataW.trod_string Tryd.underlying9 g1
            obtain ⟨k2, e2, _, q2⟩ := DataW.trod_int Tryd.underlying2 g2
            injection e0 with e0 _; injection e1 with e1 _; injection e2 with e2 _
            subst e0 e1 e2
            have a0 := hat 0 (by omega)
            have a1 := hat 1 (by omega)
            have a2 := hat 2 (by omega)
            rw [ofNat_add] at a0 a1 a2
            have q := wf_i64 q2
            exact ⟨⟨s0, s1, k2⟩, a0, a1, a2, q0, q1, q.1, q.2⟩
      let F : Nat → Fil := fun i => if h : i < len then (key i h).choose else default
      have hF : ∀ i, i < len → W.cell? (a.add (i * 3)) = some (.string (F i).name) ∧ W.cell? (a.add (i * 3 + 1)) = some (.string (F i).data) ∧ W.cell? (a.add (i * 3 + 2)) = some (.int .i64 (F i).sync) ∧ (F i).fits := by
        intro i hil
        simp only [F, hil, dif_pos]
        exact (key i hil).choose_spec
      refine ⟨some a, (List.range len).map F, m, by simp, by simp; omega, fun i hi => ?_⟩
      have hil : i < len := by simpa using hi
      obtain ⟨c0, c1, c2, c3⟩ := hF i hil
      have hbl := World.block_lt_of_cell? W _ c0
      rw [add_blk] at hbl
      exact ⟨a, rfl, hbl, by simpa using c0, by simpa using c1, by simpa using c2, by simpa using c3⟩
end Go.Proofs.YtebkblmejkkhfaaDoor
