/- Files as the program holds them in memory: slices of structs of three cells, and an argument that is one. The size that the exact laws reckon of a file system, and the copy that they make of it. Rows of files that a call owns, and the copy that the exact laws make of a file system. -/
import Derived.Test.YtebkblmejkkhfaaGreatDoorRowW
import Derived.Test.YtebkblmejkkhfaaGreatDoorNameW
import Derived.Deep.Slices
import Derived.Deep.Fields
import Derived.ChangeSame
import Derived.Lib.SmallJoins
import Derived.WideShapes
import Derived.OwnWalk
namespace Go.Proofs.YtebkblmejkkhfaaGreatDoor
open Go.RowKit Go.ChangeShapes Go.WideShapes Go.Deep
set_option linter.unusedVariables false

/-- A file. -/
structure Fil where
  name : ByteArray
  data : ByteArray
  sync : Int
  deriving Inhabited
namespace Fil
/-- The cells of a file. -/
def cells (f : Fil) : List Value := [.string f.name, .string f.data, .int .i64 f.sync]
/-- The value of a file. -/
def val (f : Fil) : Value := .agg #[.string f.name, .string f.data, .int .i64 f.sync]
/-- What every file keeps to: its strings are no longer than a machine allows, its number is one of 64 bits. -/
def fits (f : Fil) : Prop := f.name.size ≤ maxLen ∧ f.data.size ≤ maxLen ∧ -9223372036854775808 ≤ f.sync ∧ f.sync ≤ 9223372036854775807
end Fil
/-- The files of a slice, below block B. -/
def Fls (w : World) (B : Nat) (A : Option Addr) (L : List Fil) : Prop :=
  L.length ≤ maxLen ∧ ∀ i (h : i < L.length), ∃ a, A = some a ∧ a.block < B ∧ w.cell? (a.add (i * 3)) = some (.string L[i].name) ∧ w.cell? (a.add (i * 3 + 1)) = some (.string L[i].data) ∧ w.cell? (a.add (i * 3 + 2)) = some (.int .i64 L[i].sync) ∧ L[i].fits
theorem add_blk (a : Addr) (n : Nat) : (a.add n).block = a.block := by unfold Addr.add; split <;> rfl
theorem Fls.of_block {w w' : World} {B : Nat} {A : Option Addr} {L : List Fil} (h : Fls w B A L) (hb : ∀ k, k < B → w'.heap[k]? = w.heap[k]?) : Fls w' B A L :=
  ⟨h.1, fun i hi => by
    obtain ⟨a, e, h1, h2, h3, h4, h5⟩ := h.2 i hi
    refine ⟨a, e, h1, ?_, ?_, ?_, h5⟩
    · rw [World.cell?_of_block (a := a.add _) (hb _ (by rw [add_blk]; exact h1))]; exact h2
    · rw [World.cell?_of_block (a := a.add _) (hb _ (by rw [add_blk]; exact h1))]; exact h3
    · rw [World.cell?_of_block (a := a.add _) (hb _ (by rw [add_blk]; exact h1))]; exact h4⟩
theorem Fls.mono {w : World} {B B' : Nat} {A : Option Addr} {L : List Fil} (h : Fls w B A L) (hb : B ≤ B') : Fls w B' A L :=
  ⟨h.1, fun i hi => by
    obtain ⟨a, e, h1, h2⟩ := h.2 i hi
    exact ⟨a, e, by omega, h2⟩⟩
theorem Fls.below {w w' : World} {B C : Nat} {A : Option Addr} {L : List Fil} (h : Fls w B A L) (hb : Below C w w') (hC : B ≤ C) : Fls w' B A L := h.of_block fun k hk => hb.block k (by omega)

theorem cells3 : Tryz.prog.cellsOf 156 = 3 := by kernel_rfl
theorem cells1 : Tryz.prog.cellsOf 56 = 1 := by kernel_rfl
theorem cellsSl : Tryz.prog.cellsOf 54 = 1 := by kernel_rfl
theorem cellsStr : Tryz.prog.cellsOf 9 = 1 := by kernel_rfl
theorem cellsI64 : Tryz.prog.cellsOf 2 = 1 := by kernel_rfl
theorem ofNat_add (a : Addr) (i j : Nat) : (a.add i).add j = a.add (i + j) := Go.Deep.add_add a i j
theorem add_far (a : Addr) (n m : Nat) : (⟨(a.add n).block, (a.add n).off + (m + 1), none⟩ : Addr) = a.add (n + (m + 1)) := by
  rw [← ofNat_add]; rfl
/-- A file of a slice, its cells as a walk asks for them. -/
theorem Fls.at {w : World} {B : Nat} {A : Option Addr} {L : List Fil} (h : Fls w B A L) (i : Nat) (hi : i < L.length) :
    ∃ a, A = some a ∧ a.block < B ∧ w.cell? (a.add (i * 3)) = some (.string L[i].name) ∧ w.cell? ⟨(a.add (i * 3)).block, (a.add (i * 3)).off + 1, none⟩ = some (.string L[i].data) ∧ w.cell? ⟨(a.add (i * 3)).block, (a.add (i * 3)).off + 2, none⟩ = some (.int .i64 L[i].sync) ∧ L[i].fits := by
  obtain ⟨a, e, h1, h2, h3, h4, h5⟩ := h.2 i hi
  exact ⟨a, e, h1, h2, by rw [add_far]; exact h3, by rw [add_far]; exact h4, h5⟩

set_option maxRecDepth 1000000 in
/-- What is known of a file system that came in. -/
theorem fs_arg {H : Type} {enc : TypeId × Value → H} {W : World} {r : Reach} {b0 : Nat} {v : Value} {d : DataW H} {p : List MemPlace} (hval : Value.okWide Tryz.prog W r b0 56 v) (h : DataW.Trod enc Tryz.prog W 0 (fun _ => true) true 56 v d p) :
    ∃ A L c, v = .agg #[.slice A L.length c] ∧ Fls W W.heap.size A L := by
  obtain ⟨cs, rfl, hsz⟩ := okWide_struct Tryz.underlying56 hval
  rw [cells1] at hsz
  obtain ⟨l⟩ := cs
  match l, hsz with
  | [c0], _ =>
    obtain ⟨fuel, hf⟩ := h
    obtain ⟨y0, n, hx, _, h0⟩ := trod_struct1 Tryz.underlying56 hf
    have h1 : DataW.trod enc Tryz.prog W 0 (fun _ => true) true n 54 [c0] = some y0 := by simpa [Value.cells, cellsSl] using h0
    rcases open_slice Tryz.underlying54 h1 with ⟨hc, _⟩ | ⟨a, len, cap, m, n', D, Pl, hc, _, hl, hm, hmm, _, hi⟩
    · injection hc with hc _
      subst hc
      exact ⟨none, [], 0, rfl, by simp [maxLen], fun i h => absurd h (by simp)⟩
    · injection hc with hc _
      subst hc
      have hmm' : m = cap := by simpa using hmm
      subst hmm'
      have key : ∀ i, i < len → ∃ f : Fil, W.cell? (a.add (i * 3)) = some (.string f.name) ∧ W.cell? (a.add (i * 3 + 1)) = some (.string f.data) ∧ W.cell? (a.add (i * 3 + 2)) = some (.int .i64 f.sync) ∧ f.fits := by
        intro i hil
        obtain ⟨cs', hcc, ht⟩ := hi i (by omega)
        rw [cells3] at hcc
        obtain ⟨_, hcl, hat⟩ := World.cells?_some hcc
        obtain ⟨ys, n2, _, _, _, hyl, hfs⟩ := DataW.trod_struct Tryz.underlying156 ht
        match cs', hcl with
        | [u0, u1, u2], _ =>
          match ys, hyl with
          | [z0, z1, z2], _ =>
            have g0 := hfs 0 _ rfl
            have g1 := hfs 1 _ rfl
            have g2 := hfs 2 _ rfl
            simp only [List.getElem?_cons_zero, List.getElem?_cons_succ] at g0 g1 g2
            obtain ⟨s0, e0, _, q0⟩ := DataW.trod_string Tryz.underlying9 g0
            obtain ⟨s1, e1, _, q1⟩ := DataW.trod_string Tryz.underlying9 g1
            obtain ⟨k2, e2, _, q2⟩ := DataW.trod_int Tryz.underlying2 g2
            injection e0 with e0 _; injection e1 with e1 _; injection e2 with e2 _
            subst e0 e1 e2
            have a0 := hat 0 (by omega)
            have a1 := hat 1 (by omega)
            have a2 := hat 2 (by omega)
            rw [ofNat_add] at a0 a1 a2
            have q := wf_i64 q2
            exact ⟨⟨s0, s1, k2⟩, a0, a1, a2, q0, q1, q.1, q.2⟩
      let F : Nat → Fil := fun i => if h : i < len then (key i h).choose else default
      have hF : ∀ i, i < len → W.cell? (a.add (i * 3)) = some (.string (F i).name) ∧ W.cell? (a.add (i * 3 + 1)) = some (.string (F i).data) ∧ W.cell? (a.add (i * 3 + 2)) = some (.int .i64 (F i).sync) ∧ (F i).fits := by
        intro i hil
        simp only [F, hil, dif_pos]
        exact (key i hil).choose_spec
      refine ⟨some a, (List.range len).map F, m, by simp, by simp; omega, fun i hi => ?_⟩
      have hil : i < len := by simpa using hi
      obtain ⟨c0, c1, c2, c3⟩ := hF i hil
      have hbl := World.block_lt_of_cell? W _ c0
      rw [add_blk] at hbl
      exact ⟨a, rfl, hbl, by simpa using c0, by simpa using c1, by simpa using c2, by simpa using c3⟩
end Go.Proofs.YtebkblmejkkhfaaGreatDoor

namespace Go.Proofs.YtebkblmejkkhfaaGreatDoor
open Go.RowKit
set_option linter.unusedVariables false

/-- szFile. -/
def szF (f : Fil) (left : Int) : Int := if left - f.name.size < 0 then -1 else if left - f.name.size - f.data.size < 0 then -1 else left - f.name.size - f.data.size

theorem szFile_any (f : Fil) (left : Int) (w : World) (hf : f.fits) (h0 : 0 ≤ left) (h1 : left ≤ 1048576) :
    Calls Tryz.prog 148 #[f.val, .int .i64 left] w fun e w' => e = .returned (.int .i64 (szF f left)) ∧ Below w.heap.size w w' := by
  obtain ⟨s0, s1, k⟩ := f
  obtain ⟨q0, q1, q2, q3⟩ := hf
  simp only at q0 q1 q2 q3
  unfold maxLen at q0 q1
  unfold Fil.val szF
  simp only
  by_cases hA : left - s0.size < 0
  · rw [if_pos hA]
    go_enter Tryz.func148, Tryz.ntmps148
    go_wp2
    go_ret
    exact ⟨rfl, (Below.refl _ _).alloc (Nat.le_refl _) _⟩
  · rw [if_neg hA]
    by_cases hB : left - s0.size - s1.size < 0
    · rw [if_pos hB]
      go_enter Tryz.func148, Tryz.ntmps148
      go_wp2
      go_ret
      exact ⟨rfl, (Below.refl _ _).alloc (Nat.le_refl _) _⟩
    · rw [if_neg hB]
      go_enter Tryz.func148, Tryz.ntmps148
      go_wp2
      go_ret
      exact ⟨rfl, (Below.refl _ _).alloc (Nat.le_refl _) _⟩

theorem szF_lo (f : Fil) (left : Int) (h : 0 ≤ left) : -1 ≤ szF f left ∧ szF f left ≤ left := by unfold szF; split <;> (try split) <;> omega
theorem szF_ok {f : Fil} {left : Int} (h1 : left ≤ 1048576) (h : 0 ≤ szF f left) : f.name.size ≤ 1048576 ∧ f.data.size ≤ 1048576 := by
  unfold szF at h
  split at h
  · omega
  · split at h <;> omega

/-- A file system of no great size. -/
def Small (L : List Fil) : Prop := L.length ≤ 1048576 ∧ ∀ i (h : i < L.length), L[i].name.size ≤ 1048576 ∧ L[i].data.size ≤ 1048576

set_option maxHeartbeats 1000000 in
theorem szFileS_any (A : Option Addr) (L : List Fil) (c : Nat) (w : World) (hL : Fls w w.heap.size A L) :
    Calls Tryz.prog 119 #[.slice A L.length c, .int .i64 1048576] w fun e w' => ∃ r : Int, e = .returned (.int .i64 r) ∧ -1 ≤ r ∧ r ≤ 1048576 ∧ (0 ≤ r → Small L) ∧ Below w.heap.size w w' := by
  have hn := hL.1
  unfold maxLen at hn
  by_cases hbig : (1048576 : Int) - L.length < 0
  · go_enter Tryz.func119, Tryz.ntmps119
    go_wp2
    go_ret
    exact ⟨-1, rfl, by omega, by omega, fun h => by omega, Below.refl _ _⟩
  · have hn2 : L.length ≤ 1048576 := by omega
    go_enter Tryz.func119, Tryz.ntmps119
    go_wp2
    go_loopw [1, 5] (fun l i wr => ∃ (k : Nat) (left : Int), k ≤ L.length ∧ i = .int .i64 k ∧ l = .int .i64 left ∧ 0 ≤ left ∧ left ≤ 1048576 ∧ (∀ j (h : j < L.length), j < k → L[j].name.size ≤ 1048576 ∧ L[j].data.size ≤ 1048576) ∧ Below w.heap.size w wr) (fun _ i _ => L.length - (intOf i).toNat)
    case atStart => exact ⟨0, _, by omega, rfl, rfl, by omega, by omega, fun j _ h => by omega, Below.refl _ _⟩
    case round =>
      obtain ⟨k, left, hk, rfl, rfl, l0, l1, hS, hb⟩ := hrel
      by_cases hlt : k < L.length
      · obtain ⟨a, rfl, hab, c0, c1, c2, hf⟩ := (hL.below hb (Nat.le_refl _)).at k hlt
        have hsz := szF_lo L[k] left l0
        go_wp2_with (go_at_call 148; refine (szFile_any L[k] left wr hf l0 l1).mono ?_; rintro e w1 ⟨rfl, hb1⟩)
        · go_ret
          exact ⟨-1, rfl, by omega, by omega, fun h => by omega, hb.trans (hb1.mono hb.size)⟩
        · have h0 : 0 ≤ szF L[k] left := by omega
          refine ⟨⟨k + 1, _, by omega, by go_num, rfl, h0, by omega, fun j hj hjk => ?_, hb.trans (hb1.mono hb.size)⟩, by simp [intOf]; omega⟩
          by_cases e : j = k
          · subst e; exact szF_ok l1 h0
          · exact hS j hj (by omega)
      · obtain rfl : k = L.length := by omega
        go_wp2
        go_ret
        exact ⟨left, rfl, by omega, l1, fun _ => ⟨hn2, fun i h => hS i h h⟩, hb⟩

theorem szFs_any (A : Option Addr) (L : List Fil) (c : Nat) (w : World) (hL : Fls w w.heap.size A L) :
    Calls Tryz.prog 58 #[.agg #[.slice A L.length c], .int .i64 1048576] w fun e w' => ∃ r : Int, e = .returned (.int .i64 r) ∧ -1 ≤ r ∧ r ≤ 1048576 ∧ (0 ≤ r → Small L) ∧ Below w.heap.size w w' := by
  have hb0 : Below w.heap.size w (w.alloc (.cells #[.slice A L.length c] 56)) := (Below.refl _ _).alloc (Nat.le_refl _) _
  have hL1 := (hL.below hb0 (Nat.le_refl _)).mono hb0.size
  go_enter Tryz.func58, Tryz.ntmps58
  go_wp2_with (go_at_call 119; refine (szFileS_any A L c _ hL1).mono ?_; rintro e w1 ⟨r, rfl, r0, r1, hS, hb1⟩)
  · go_ret
    exact ⟨-1, rfl, by omega, by omega, fun h => by omega, hb0.trans (hb1.mono hb0.size)⟩
  · go_ret
    exact ⟨r, rfl, by omega, r1, hS, hb0.trans (hb1.mono hb0.size)⟩

/-- toFile. -/
theorem toFile_any (f : Fil) (w : World) : Calls Tryz.prog 151 #[f.val] w fun e w' => e = .returned f.val ∧ Below w.heap.size w w' := by
  obtain ⟨s0, s1, k⟩ := f
  unfold Fil.val
  simp only
  go_enter Tryz.func151, Tryz.ntmps151
  go_wp2
  refine bodyPost_ret (v := .agg #[.string s0, .string s1, .int .i64 k]) (by simp [results, Tryz.results151, go_sem]) rfl ⟨rfl, ?_⟩
  exact (((Below.refl _ _).alloc (Nat.le_refl _) _).alloc (by simp) _).alloc (by simp; omega) _
end Go.Proofs.YtebkblmejkkhfaaGreatDoor

namespace Go.Proofs.YtebkblmejkkhfaaGreatDoor
open Go.RowKit
set_option linter.unusedVariables false

/-- The cells of files, one behind the other. -/
def flat (L : List Fil) : List Value := L.flatMap Fil.cells
theorem flat_nil : flat [] = [] := rfl
theorem flat_cons (f : Fil) (L : List Fil) : flat (f :: L) = .string f.name :: .string f.data :: .int .i64 f.sync :: flat L := rfl
theorem flat_append (L M : List Fil) : flat (L ++ M) = flat L ++ flat M := by simp [flat]
theorem flat_len (L : List Fil) : (flat L).length = L.length * 3 := by
  induction L with
  | nil => rfl
  | cons f L ih => rw [flat_cons]; simp only [List.length_cons, ih]; omega
theorem flat_get (L : List Fil) : ∀ (i : Nat) (hi : i < L.length) (r : Nat), r < 3 → (flat L)[i * 3 + r]? = L[i].cells[r]? := by
  induction L with
  | nil => intro i hi; simp at hi
  | cons f L ih =>
    intro i hi r hr
    rw [flat_cons]
    cases i with
    | zero =>
      match r, hr with
      | 0, _ => rfl
      | 1, _ => rfl
      | 2, _ => rfl
    | succ i =>
      rw [show (i + 1) * 3 + r = (i * 3 + r) + 1 + 1 + 1 by omega]
      simp only [List.getElem?_cons_succ, List.getElem_cons_succ]
      exact ih i (by simpa using hi) r hr
theorem flat_set (f : Fil) : ∀ (L : List Fil) (i : Nat), (((flat L).set (i * 3) (.string f.name)).set (i * 3 + 1) (.string f.data)).set (i * 3 + 2) (.int .i64 f.sync) = flat (L.set i f) := by
  intro L
  induction L with
  | nil => intro i; simp [flat]
  | cons g L ih =>
    intro i
    cases i with
    | zero => rfl
    | succ i =>
      rw [flat_cons, show (i + 1) * 3 = i * 3 + 1 + 1 + 1 by omega, List.set_cons_succ, List.set_cons_succ, List.set_cons_succ, List.set_cons_succ, List.set_cons_succ, List.set_cons_succ]
      rw [List.set_cons_succ, List.set_cons_succ, List.set_cons_succ, List.set_cons_succ, flat_cons, ← ih i]
theorem flat_one (L : List Fil) : ∀ u ∈ flat L, u.oneCell' = true := by
  intro u hu
  obtain ⟨f, _, h⟩ := List.mem_flatMap.1 hu
  simp [Fil.cells] at h
  rcases h with rfl | rfl | rfl <;> rfl
def zeroFil : Fil := ⟨⟨#[]⟩, ⟨#[]⟩, 0⟩
theorem flat_made (n : Nat) : (madeCells #[.string ⟨#[]⟩, .string ⟨#[]⟩, .int .i64 0] (n * 3)).toList = flat (List.replicate n zeroFil) := by
  apply List.ext_getElem?
  intro j
  by_cases hj : j < n * 3
  · have h := flat_get (List.replicate n zeroFil) (j / 3) (by simp; omega) (j % 3) (by omega)
    rw [show j / 3 * 3 + j % 3 = j by omega] at h
    rw [h]
    have : j % 3 = 0 ∨ j % 3 = 1 ∨ j % 3 = 2 := by omega
    rcases this with e | e | e <;> simp [madeCells, hj, e, zeroFil, Fil.cells]
  · rw [List.getElem?_eq_none (l := flat _) (by rw [flat_len]; simp; omega)]
    simp [madeCells]
    omega

/-- The three cells of one file of an owned row, as a store asks for them. -/
theorem row_file {w : World} {base g n c : Nat} {M : List Fil} (h : w.ownsRow base 53 3 (.slice (some ⟨g, 0, none⟩) n c) n (flat M)) {k : Nat} (hk : k < M.length) :
    w.cell? ⟨g, k * 3, none⟩ = some (.string M[k].name) ∧ w.cell? ⟨g, k * 3 + 1, none⟩ = some (.string M[k].data) ∧ w.cell? ⟨g, k * 3 + 2, none⟩ = some (.int .i64 M[k].sync) ∧
      w.frozen? ⟨g, k * 3, none⟩ = false ∧ w.frozen? ⟨g, k * 3 + 1, none⟩ = false ∧ w.frozen? ⟨g, k * 3 + 2, none⟩ = false := by
  have hl := h.1
  rw [flat_len] at hl
  refine ⟨?_, ?_, ?_, h.frozenAt _, h.frozenAt _, h.frozenAt _⟩
  · rw [h.cellAt _ (by omega), show k * 3 = k * 3 + 0 from rfl, flat_get M k hk 0 (by omega)]; rfl
  · rw [h.cellAt _ (by omega), flat_get M k hk 1 (by omega)]; rfl
  · rw [h.cellAt _ (by omega), flat_get M k hk 2 (by omega)]; rfl
/-- A file stored into an owned row. -/
theorem row_put {w : World} {base g n c : Nat} {M : List Fil} (h : w.ownsRow base 53 3 (.slice (some ⟨g, 0, none⟩) n c) n (flat M)) (k : Nat) (f : Fil) :
    (((w.setCell ⟨g, k * 3, none⟩ (.string f.name)).setCell ⟨g, k * 3 + 1, none⟩ (.string f.data)).setCell ⟨g, k * 3 + 2, none⟩ (.int .i64 f.sync)).ownsRow base 53 3 (.slice (some ⟨g, 0, none⟩) n c) n (flat (M.set k f)) := by
  have h1 := (h.stored (k * 3) (.string f.name)).1
  have h2 := (h1.stored (k * 3 + 1) (.string f.data)).1
  have h3 := (h2.stored (k * 3 + 2) (.int .i64 f.sync)).1
  rw [flat_set] at h3
  exact h3
theorem grown_none {w w' : World} {B : Nat} (hb : Below B w w') (hB : w.heap.size ≤ B) : w.grownBy w' none := ⟨hb.os, hb.tape, hb.output, hb.size, fun k hk _ => hb.block k (by omega)⟩
theorem row_below {w w' : World} {B base n size : Nat} {e : TypeId} {v : Value} {xs : List Value} (h : w.ownsRow base e size v n xs) (hb : Below B w w') (hB : w.heap.size ≤ B) : w'.ownsRow base e size v n xs :=
  h.kept (grown_none hb hB) (by cases v.ownBlock <;> simp)
theorem take_put {α : Type} (L : List α) (z : α) {k : Nat} (h : k < L.length) : (L.take k ++ List.replicate (L.length - k) z).set k L[k] = L.take (k + 1) ++ List.replicate (L.length - (k + 1)) z := by
  rw [List.set_append_right _ _ (by simp; omega)]
  simp only [List.length_take, show k - min k L.length = 0 by omega, show L.length - k = (L.length - (k + 1)) + 1 by omega, List.replicate_succ, List.set_cons_zero]
  rw [List.take_succ_eq_append_getElem h, List.append_assoc]
  rfl

/-- A row of files of the call's own. -/
def OwnF (w : World) (base : Nat) (v : Value) (L : List Fil) : Prop := w.ownsRow base 53 3 v L.length (flat L) ∧ ∀ f ∈ L, f.fits
theorem OwnF.slice {w : World} {base : Nat} {v : Value} {L : List Fil} (h : OwnF w base v L) : ∃ A c, v = .slice A L.length c ∧ Fls w w.heap.size A L := by
  obtain ⟨h1, h2⟩ := h
  rcases h1.2 with ⟨rfl, hz⟩ | ⟨g, cap, cur, rfl, hb, hg, hl, hm, hs, ht⟩
  · have : L = [] := List.eq_nil_of_length_eq_zero hz
    subst this
    exact ⟨none, 0, rfl, by simp [maxLen], fun i h => absurd h (by simp)⟩
  · refine ⟨some ⟨g, 0, none⟩, cap, rfl, by omega, fun i hi => ?_⟩
    have hc := h1.cells (g := g) rfl
    have k0 := hc (i * 3 + 0) _ (by rw [flat_get L i hi 0 (by omega)]; rfl)
    have k1 := hc (i * 3 + 1) _ (by rw [flat_get L i hi 1 (by omega)]; rfl)
    have k2 := hc (i * 3 + 2) _ (by rw [flat_get L i hi 2 (by omega)]; rfl)
    exact ⟨⟨g, 0, none⟩, rfl, (Array.getElem?_eq_some_iff.1 hg).1, k0, k1, k2, h2 _ (List.getElem_mem hi)⟩
theorem OwnF.below {w w' : World} {base B : Nat} {v : Value} {L : List Fil} (h : OwnF w base v L) (hb : Below B w w') (hB : w.heap.size ≤ B) : OwnF w' base v L :=
  ⟨h.1.kept (row := none) ⟨hb.os, hb.tape, hb.output, hb.size, fun k hk _ => hb.block k (by omega)⟩ (by cases v.ownBlock <;> simp), h.2⟩
theorem OwnF.fls {w : World} {base c n : Nat} {A : Option Addr} {L : List Fil} (h : OwnF w base (.slice A n c) L) : Fls w w.heap.size A L := by
  obtain ⟨A', c', e, hf⟩ := h.slice
  cases e
  exact hf
theorem OwnF.drew {w : World} {base : Nat} {v : Value} {L : List Fil} (h : OwnF w base v L) : OwnF w.drew base v L := h
theorem OwnF.base {w : World} {base base' : Nat} {v : Value} {L : List Fil} (h : OwnF w base v L) (hb : base' ≤ base) : OwnF w base' v L := by
  obtain ⟨⟨h0, h1⟩, h2⟩ := h
  refine ⟨⟨h0, ?_⟩, h2⟩
  rcases h1 with h1 | ⟨g, cap, cur, r1, r2, r3⟩
  · exact .inl h1
  · exact .inr ⟨g, cap, cur, r1, by omega, r3⟩
theorem row_far {w : World} {base n size : Nat} {e : TypeId} {v : Value} {xs : List Value} (h : w.ownsRow base e size v n xs) {p : Addr} (hp : p.block < base) (u : Value) : (w.setCell p u).ownsRow base e size v n xs :=
  h.kept (row := some p.block) ⟨rfl, rfl, rfl, by simp [World.setCell], fun k _ hne => Below.heap_setCell w p u k (fun e => hne (by rw [e]))⟩ (.inr fun e => by have := (h.lt _ e).1; omega)
theorem OwnF.far {w : World} {base : Nat} {v : Value} {L : List Fil} (h : OwnF w base v L) {p : Addr} (hp : p.block < base) (u : Value) : OwnF (w.setCell p u) base v L := ⟨row_far h.1 hp u, h.2⟩
theorem infoFile : (Tryz.prog.info? 53).map (fun i => (i.zero, i.size, i.bytes)) = some (some (.agg #[.string ⟨#[]⟩, .string ⟨#[]⟩, .int .i64 0]), 3, 40) := by kernel_rfl

set_option maxHeartbeats 1000000 in
theorem toFileS_any (A : Option Addr) (L : List Fil) (c : Nat) (w : World) (hL : Fls w w.heap.size A L) (hS : Small L) :
    Calls Tryz.prog 121 #[.slice A L.length c] w fun e w' => ∃ g c', e = .returned (.slice (some ⟨g, 0, none⟩) L.length c') ∧ OwnF w' w.heap.size (.slice (some ⟨g, 0, none⟩) L.length c') L ∧ Below w.heap.size w w' := by
  obtain ⟨i0, hi, hz0, hz1, hz2⟩ := info_parts infoFile
  have hn := hS.1
  have hn1 : (L.length : Int) ≤ 1048576 := by omega
  have hf : ∀ i (h : i < L.length), L[i].fits := fun i h => (hL.2 i h).choose_spec.2.2.2.2.2
  go_enter Tryz.func121, Tryz.ntmps121
  go_wp2_with (at_make; refine wpList_make_full _ rfl _ _ 23 rfl w.heap.size 53 i0 (.agg #[.string ⟨#[]⟩, .string ⟨#[]⟩, .int .i64 0]) 3 Tryz.underlying23 hi hz0 hz1 _ _ _ _ L.length rfl rfl rfl rfl (by rw [hz2]; omega) (by unfold maxLen; omega) (Nat.le_refl _) ?_; intro w1 hrow hg1)
  have hrow' : w1.ownsRow w.heap.size 53 3 (.slice (some ⟨w.heap.size, 0, none⟩) L.length L.length) L.length (flat (List.replicate L.length zeroFil)) := by
    rw [← flat_made]; exact hrow
  clear hrow
  have hb0 : Below w.heap.size w w1 := ⟨hg1.os, hg1.tape, hg1.output, hg1.size, fun k hk => hg1.block k hk (by simp)⟩
  go_loopw [4] (fun i wr => ∃ k : Nat, k ≤ L.length ∧ i = .int .i64 k ∧ wr.ownsRow w.heap.size 53 3 (.slice (some ⟨w.heap.size, 0, none⟩) L.length L.length) L.length (flat (L.take k ++ List.replicate (L.length - k) zeroFil)) ∧ Below w.heap.size w wr) (fun i _ => L.length - (intOf i).toNat)
  case atStart => exact ⟨0, by omega, rfl, by simpa using hrow', hb0⟩
  case round =>
    obtain ⟨k, hk, rfl, hr, hb⟩ := hrel
    by_cases hlt : k < L.length
    · obtain ⟨a, rfl, hab, c0, c1, c2, hff⟩ := (hL.below hb (Nat.le_refl _)).at k hlt
      go_wp2_with (go_at_call 151; refine (toFile_any L[k] wr).mono ?_; rintro e w2 ⟨rfl, hb2⟩; unfold Fil.val; have hr2 := row_below hr hb2 (Nat.le_refl _); obtain ⟨d0, d1, d2, f0, f1, f2⟩ := row_file hr2 (k := k) (by simp; omega))
      have hp := row_put hr2 k L[k]
      rw [take_put L zeroFil hlt] at hp
      refine ⟨⟨k + 1, by omega, by go_num, hp, ?_⟩, by simp [intOf]; omega⟩
      exact (((hb.trans (hb2.mono hb.size)).setCell (Nat.le_refl _) _).setCell (Nat.le_refl _) _).setCell (Nat.le_refl _) _
    · obtain rfl : k = L.length := by omega
      go_wp2
      go_ret
      rw [List.take_of_length_le (Nat.le_refl _), Nat.sub_self, List.replicate_zero, List.append_nil] at hr
      exact ⟨_, _, rfl, ⟨hr, fun f hf' => by obtain ⟨i, hi, rfl⟩ := List.getElem_of_mem hf'; exact hf i hi⟩, hb⟩

theorem toFs_any (A : Option Addr) (L : List Fil) (c : Nat) (w : World) (hL : Fls w w.heap.size A L) (hS : Small L) :
    Calls Tryz.prog 60 #[.agg #[.slice A L.length c]] w fun e w' => ∃ g c', e = .returned (.agg #[.slice (some ⟨g, 0, none⟩) L.length c']) ∧ OwnF w' w.heap.size (.slice (some ⟨g, 0, none⟩) L.length c') L ∧ Below w.heap.size w w' := by
  have hb0 : Below w.heap.size w (((w.alloc (.cells #[.slice A L.length c] 56)).alloc (.cells #[.slice none 0 0] 25)).alloc (.cells #[.slice none 0 0] 25)) := (((Below.refl _ _).alloc (Nat.le_refl _) _).alloc (by simp) _).alloc (by simp; omega) _
  have k1 := ((Blk.fresh (w.alloc (.cells #[.slice A L.length c] 56)) 25 [.slice none 0 0]).alloc (.cells #[.slice none 0 0] 25))
  have k2 := Blk.fresh ((w.alloc (.cells #[.slice A L.length c] 56)).alloc (.cells #[.slice none 0 0] 25)) 25 [.slice none 0 0]
  simp only [World.size_alloc] at k1 k2
  have hL1 := (hL.below hb0 (Nat.le_refl _)).mono hb0.size
  go_enter Tryz.func60, Tryz.ntmps60
  go_wp2_with (go_at_call 121; refine (toFileS_any A L c _ hL1 hS).mono ?_; rintro e w1 ⟨g, c', rfl, hv, hb1⟩; have q1 := k1.below hb1 k1.lt; have q2 := k2.below hb1 k2.lt; have c1 := q1.cell (i := 0) rfl; have c2 := q2.cell (i := 0) rfl; have f1 := q1.froz 0; have f2 := q2.froz 0)
  have e1 : (w1.setCell ⟨w.heap.size + 1 + 1, 0, none⟩ (.slice (some ⟨g, 0, none⟩) L.length c')).cell? ⟨w.heap.size + 1, 0, none⟩ = some (.slice none 0 0) := by
    rw [← c1]; exact World.cell?_of_block (Below.heap_setCell w1 _ _ _ (by simp))
  refine bodyPost_ret (v := .agg #[.slice (some ⟨g, 0, none⟩) L.length c']) (by simp [results, Tryz.results60, go_sem, e1]) rfl ⟨g, c', rfl, ?_, ?_⟩
  · exact ((hv.far (by simp) _).far (by simp) _).base (by simp; omega)
  · exact ((hb0.trans (hb1.mono hb0.size)).setCell (by simp <;> omega) _).setCell (by simp) _
end Go.Proofs.YtebkblmejkkhfaaGreatDoor
