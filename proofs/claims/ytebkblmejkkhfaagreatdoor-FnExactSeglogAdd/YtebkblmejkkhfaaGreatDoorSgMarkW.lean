/- An argument that is a log. What the exact laws do with a log. The marks that the exact laws lay into a log. -/
import Derived.Test.YtebkblmejkkhfaaGreatDoorFilOwnW
import Derived.Test.YtebkblmejkkhfaaGreatDoorChgW
namespace Go.Proofs.YtebkblmejkkhfaaGreatDoor
open Go.RowKit Go.ChangeShapes Go.WideShapes Go.Deep
set_option linter.unusedVariables false
abbrev segV (v : Value) (f m : Int) : Value := .agg #[v, .int .i64 f, .int .i64 m]
theorem cellsSg : Tryz.prog.cellsOf 58 = 3 := by kernel_rfl

set_option maxRecDepth 1000000 in
/-- What is known of the files of an argument, by the one cell that holds them. -/
theorem fs_cell {H : Type} {enc : TypeId × Value → H} {W : World} {c0 : Value} {n : Nat} {y0 : DataW H × List MemPlace} (h : DataW.trod enc Tryz.prog W 0 (fun _ => true) true n 56 [c0] = some y0) :
    ∃ A L c, c0 = .slice A L.length c ∧ Fls W W.heap.size A L := by
  obtain ⟨y0, n, hx, _, h0⟩ := trod_struct1 Tryz.underlying56 h
  have h1 : DataW.trod enc Tryz.prog W 0 (fun _ => true) true n 54 [c0] = some y0 := by simpa [Value.cells, cellsSl] using h0
  rcases open_slice Tryz.underlying54 h1 with ⟨hc, _⟩ | ⟨a, len, cap, m, n', D, Pl, hc, _, hl, hm, hmm, _, hi⟩
  · injection hc with hc _
    subst hc
    exact ⟨none, [], 0, rfl, by simp [maxLen], fun i h => absurd h (by simp)⟩
  · injection hc with hc _
    subst hc
    have hmm' : m = cap := by simpa using hmm
    subst hmm'
    have key : ∀ i, i < len → ∃ f : Fil, W.cell? (a.add (i * 3)) = some (.string f.name) ∧ W.cell? (a.add (i * 3 + 1)) = some (.string f.data) ∧ W.cell? (a.add (i * 3 + 2)) = some (.int .i64 f.sync) ∧ f.fits := by
      intro i hil
      obtain ⟨cs', hcc, ht⟩ := hi i (by omega)
      rw [cells3] at hcc
      obtain ⟨_, hcl, hat⟩ := World.cells?_some hcc
      obtain ⟨ys, n2, _, _, _, hyl, hfs⟩ := DataW.trod_struct Tryz.underlying156 ht
      match cs', hcl with
      | [u0, u1, u2], _ =>
        match ys, hyl with
        | [z0, z1, z2], _ =>
          have g0 := hfs 0 _ rfl
          have g1 := hfs 1 _ rfl
          have g2 := hfs 2 _ rfl
          simp only [List.getElem?_cons_zero, List.getElem?_cons_succ] at g0 g1 g2
          obtain ⟨s0, e0, _, q0⟩ := DataW.trod_string Tryz.underlying9 g0
          obtain ⟨s1, e1, _, q1⟩ := DataW.trod_string Tryz.underlying9 g1
          obtain ⟨k2, e2, _, q2⟩ := DataW.trod_int Tryz.underlying2 g2
          injection e0 with e0 _; injection e1 with e1 _; injection e2 with e2 _
          subst e0 e1 e2
          have a0 := hat 0 (by omega)
          have a1 := hat 1 (by omega)
          have a2 := hat 2 (by omega)
          rw [ofNat_add] at a0 a1 a2
          have q := wf_i64 q2
          exact ⟨⟨s0, s1, k2⟩, a0, a1, a2, q0, q1, q.1, q.2⟩
    let F : Nat → Fil := fun i => if h : i < len then (key i h).choose else default
    have hF : ∀ i, i < len → W.cell? (a.add (i * 3)) = some (.string (F i).name) ∧ W.cell? (a.add (i * 3 + 1)) = some (.string (F i).data) ∧ W.cell? (a.add (i * 3 + 2)) = some (.int .i64 (F i).sync) ∧ (F i).fits := by
      intro i hil
      simp only [F, hil, dif_pos]
      exact (key i hil).choose_spec
    refine ⟨some a, (List.range len).map F, m, by simp, by simp; omega, fun i hi => ?_⟩
    have hil : i < len := by simpa using hi
    obtain ⟨c0, c1, c2, c3⟩ := hF i hil
    have hbl := World.block_lt_of_cell? W _ c0
    rw [add_blk] at hbl
    exact ⟨a, rfl, hbl, by simpa using c0, by simpa using c1, by simpa using c2, by simpa using c3⟩
set_option maxRecDepth 1000000 in
/-- What is known of a log that came in. -/
theorem seglog_arg {H : Type} {enc : TypeId × Value → H} {W : World} {r : Reach} {b0 : Nat} {v : Value} {d : DataW H} {p : List MemPlace} (hval : Value.okWide Tryz.prog W r b0 58 v) (h : DataW.Trod enc Tryz.prog W 0 (fun _ => true) true 58 v d p) :
    ∃ A L c f m, v = segV (.slice A (L : List Fil).length c) f m ∧ Fls W W.heap.size A L ∧ (Lit.int .i64 f).wf = true ∧ (Lit.int .i64 m).wf = true := by
  obtain ⟨cs, rfl, hsz⟩ := okWide_struct Tryz.underlying58 hval
  rw [cellsSg] at hsz
  obtain ⟨l⟩ := cs
  match l, hsz with
  | [c0, c1, c2], _ =>
    obtain ⟨fuel, hf⟩ := h
    obtain ⟨ys, n2, _, _, _, hyl, hfs⟩ := DataW.trod_struct Tryz.underlying58 hf
    match ys, hyl with
    | [z0, z1, z2], _ =>
      have g0 := hfs 0 _ rfl
      have g1 := hfs 1 _ rfl
      have g2 := hfs 2 _ rfl
      have g0' : DataW.trod enc Tryz.prog W 0 (fun _ => true) true n2 56 [c0] = some z0 := by simpa [Value.cells, cells1] using g0
      have g1' : DataW.trod enc Tryz.prog W 0 (fun _ => true) true n2 2 [c1] = some z1 := by simpa [Value.cells, cellsI64] using g1
      have g2' : DataW.trod enc Tryz.prog W 0 (fun _ => true) true n2 2 [c2] = some z2 := by simpa [Value.cells, cellsI64] using g2
      obtain ⟨A, L, c, rfl, hF⟩ := fs_cell g0'
      obtain ⟨k1, e1, _, q1⟩ := DataW.trod_int Tryz.underlying2 g1'
      obtain ⟨k2, e2, _, q2⟩ := DataW.trod_int Tryz.underlying2 g2'
      injection e1 with e1 _; injection e2 with e2 _
      subst e1 e2
      exact ⟨A, L, c, k1, k2, rfl, hF, q1, q2⟩
end Go.Proofs.YtebkblmejkkhfaaGreatDoor

namespace Go.Proofs.YtebkblmejkkhfaaGreatDoor
open Go.RowKit
set_option linter.unusedVariables false
set_option maxRecDepth 1000000

set_option maxHeartbeats 2000000 in
theorem eqSeglog_same (A B : Option Addr) (L : List Fil) (c d : Nat) (f m : Int) (w : World) (hA : Fls w w.heap.size A L) (hB : Fls w w.heap.size B L) :
    Calls Tryz.prog 44 #[segV (.slice A L.length c) f m, segV (.slice B L.length d) f m] w fun e w' => e = .returned (.bool true) ∧ Below w.heap.size w w' := by
  have h0 := (Blk.fresh w 61 [.slice A L.length c, .int .i64 f, .int .i64 m]).alloc (.cells #[.slice B L.length d, .int .i64 f, .int .i64 m] 61)
  have h1 := Blk.fresh (w.alloc (.cells #[.slice A L.length c, .int .i64 f, .int .i64 m] 61)) 61 [.slice B L.length d, .int .i64 f, .int .i64 m]
  have hb0 : Below w.heap.size w ((w.alloc (.cells #[.slice A L.length c, .int .i64 f, .int .i64 m] 61)).alloc (.cells #[.slice B L.length d, .int .i64 f, .int .i64 m] 61)) := ((Below.refl _ w).alloc (Nat.le_refl _) _).alloc (by simp) _
  simp only [List.toArray, World.size_alloc] at h0 h1
  have HE := Lib.hid (eqFs_same A B L c d _ ((hA.below hb0 (Nat.le_refl _)).mono hb0.size) ((hB.below hb0 (Nat.le_refl _)).mono hb0.size))
  go_enter Tryz.func44, Tryz.ntmps44
  go_wp2_with (go_at_call 62; refine HE.out.mono ?_; rintro e w1 ⟨rfl, hb1⟩; have g0 := h0.below hb1 h0.lt; have g1 := h1.below hb1 h1.lt; have k1 := g0.cell (i := 1) rfl; have k2 := g0.cell (i := 2) rfl; have k3 := g1.cell (i := 1) rfl; have k4 := g1.cell (i := 2) rfl)
  go_ret
  exact ⟨rfl, hb0.trans (hb1.mono hb0.size)⟩
set_option maxHeartbeats 2000000 in
theorem szSeglog_any (A : Option Addr) (L : List Fil) (c : Nat) (f m : Int) (w : World) (hL : Fls w w.heap.size A L) :
    Calls Tryz.prog 39 #[segV (.slice A L.length c) f m, .int .i64 1048576] w fun e w' => ∃ r : Int, e = .returned (.int .i64 r) ∧ -1 ≤ r ∧ r ≤ 1048576 ∧ (0 ≤ r → Small L) ∧ Below w.heap.size w w' := by
  have hb0 : Below w.heap.size w (w.alloc (.cells #[.slice A L.length c, .int .i64 f, .int .i64 m] 58)) := (Below.refl _ _).alloc (Nat.le_refl _) _
  have hL1 := (hL.below hb0 (Nat.le_refl _)).mono hb0.size
  go_enter Tryz.func39, Tryz.ntmps39
  go_wp2_with (go_at_call 58; refine (szFs_any A L c _ hL1).mono ?_; rintro e w1 ⟨r, rfl, r0, r1, hS, hb1⟩)
  · go_ret
    exact ⟨-1, rfl, by omega, by omega, fun h => by omega, hb0.trans (hb1.mono hb0.size)⟩
  · go_ret
    exact ⟨r, rfl, by omega, r1, hS, hb0.trans (hb1.mono hb0.size)⟩
set_option maxHeartbeats 2000000 in
theorem toSeglog_any (A : Option Addr) (L : List Fil) (c : Nat) (f m : Int) (w : World) (hL : Fls w w.heap.size A L) (hS : Small L) :
    Calls Tryz.prog 41 #[segV (.slice A L.length c) f m] w fun e w' => ∃ g c', e = .returned (segV (.slice (some ⟨g, 0, none⟩) L.length c') f m) ∧ OwnF w' w.heap.size (.slice (some ⟨g, 0, none⟩) L.length c') L ∧ Below w.heap.size w w' := by
  have hb0 : Below w.heap.size w (((w.alloc (.cells #[.slice A L.length c, .int .i64 f, .int .i64 m] 58)).alloc (.cells #[.slice none 0 0, .int .i64 0, .int .i64 0] 61)).alloc (.cells #[.slice none 0 0, .int .i64 0, .int .i64 0] 61)) := (((Below.refl _ _).alloc (Nat.le_refl _) _).alloc (by simp) _).alloc (by simp; omega) _
  have k0 := ((Blk.fresh w 58 [.slice A L.length c, .int .i64 f, .int .i64 m]).alloc (.cells #[.slice none 0 0, .int .i64 0, .int .i64 0] 61)).alloc (.cells #[.slice none 0 0, .int .i64 0, .int .i64 0] 61)
  have k1 := ((Blk.fresh (w.alloc (.cells #[.slice A L.length c, .int .i64 f, .int .i64 m] 58)) 61 [.slice none 0 0, .int .i64 0, .int .i64 0]).alloc (.cells #[.slice none 0 0, .int .i64 0, .int .i64 0] 61))
  have k2 := Blk.fresh ((w.alloc (.cells #[.slice A L.length c, .int .i64 f, .int .i64 m] 58)).alloc (.cells #[.slice none 0 0, .int .i64 0, .int .i64 0] 61)) 61 [.slice none 0 0, .int .i64 0, .int .i64 0]
  simp only [World.size_alloc] at k0 k1 k2
  have hL1 := (hL.below hb0 (Nat.le_refl _)).mono hb0.size
  go_enter Tryz.func41, Tryz.ntmps41
  go_wp2_with (fail)
  refine (toFs_any A L c _ hL1 hS).mono ?_
  rintro e w1 ⟨g, c', rfl, hv, hb1⟩
  have q0 := k0.below hb1 k0.lt
  have q1 := k1.below hb1 k1.lt
  have q2 := k2.below hb1 k2.lt
  have hw1 := hb0.trans (hb1.mono hb0.size)
  clear hb0 k0 k1 k2 hb1
  have a1 := q0.cell (i := 1) rfl
  have a2 := q0.cell (i := 2) rfl
  have c0 := q2.cell (i := 0) rfl
  have c1 := q2.cell (i := 1) rfl
  have c2 := q2.cell (i := 2) rfl
  have d0 := q1.cell (i := 0) rfl
  have d1 := q1.cell (i := 1) rfl
  have d2 := q1.cell (i := 2) rfl
  have f0 := q2.froz 0
  have f1 := q2.froz 1
  have f2 := q2.froz 2
  have e0 := q1.froz 0
  have e1 := q1.froz 1
  have e2 := q1.froz 2
  go_wp2
  have r1 := (((((q1.far (p := ⟨w.heap.size + 1 + 1, 0, none⟩) (by simp) (.slice (some ⟨g, 0, none⟩) L.length c')).far (p := ⟨w.heap.size + 1 + 1, 1, none⟩) (by simp) (.int .i64 f)).far (p := ⟨w.heap.size + 1 + 1, 2, none⟩) (by simp) (.int .i64 m)).put 0 (.slice (some ⟨g, 0, none⟩) L.length c')).put 1 (.int .i64 f)).put 2 (.int .i64 m)
  have r2 := (((((hv.far (p := ⟨w.heap.size + 1 + 1, 0, none⟩) (by simp) (.slice (some ⟨g, 0, none⟩) L.length c')).far (p := ⟨w.heap.size + 1 + 1, 1, none⟩) (by simp) (.int .i64 f)).far (p := ⟨w.heap.size + 1 + 1, 2, none⟩) (by simp) (.int .i64 m)).far (p := ⟨w.heap.size + 1, 0, none⟩) (by simp) (.slice (some ⟨g, 0, none⟩) L.length c')).far (p := ⟨w.heap.size + 1, 1, none⟩) (by simp) (.int .i64 f)).far (p := ⟨w.heap.size + 1, 2, none⟩) (by simp) (.int .i64 m)
  have r3 := (((((hw1.setCell (p := ⟨w.heap.size + 1 + 1, 0, none⟩) (by simp; omega) (.slice (some ⟨g, 0, none⟩) L.length c')).setCell (p := ⟨w.heap.size + 1 + 1, 1, none⟩) (by simp; omega) (.int .i64 f)).setCell (p := ⟨w.heap.size + 1 + 1, 2, none⟩) (by simp; omega) (.int .i64 m)).setCell (p := ⟨w.heap.size + 1, 0, none⟩) (by simp) (.slice (some ⟨g, 0, none⟩) L.length c')).setCell (p := ⟨w.heap.size + 1, 1, none⟩) (by simp) (.int .i64 f)).setCell (p := ⟨w.heap.size + 1, 2, none⟩) (by simp) (.int .i64 m)
  generalize (((((w1.setCell ⟨w.heap.size + 1 + 1, 0, none⟩ (.slice (some ⟨g, 0, none⟩) L.length c')).setCell ⟨w.heap.size + 1 + 1, 1, none⟩ (.int .i64 f)).setCell ⟨w.heap.size + 1 + 1, 2, none⟩ (.int .i64 m)).setCell ⟨w.heap.size + 1, 0, none⟩ (.slice (some ⟨g, 0, none⟩) L.length c')).setCell ⟨w.heap.size + 1, 1, none⟩ (.int .i64 f)).setCell ⟨w.heap.size + 1, 2, none⟩ (.int .i64 m) = w9 at r1 r2 r3 ⊢
  have x0 := r1.cell (i := 0) rfl
  have x1 := r1.cell (i := 1) rfl
  have x2 := r1.cell (i := 2) rfl
  exact bodyPost_ret (v := segV (.slice (some ⟨g, 0, none⟩) L.length c') f m) (by simp [results, Tryz.results41, go_sem, x0, x1, x2]) rfl ⟨g, c', rfl, r2.base (by simp; omega), r3⟩
end Go.Proofs.YtebkblmejkkhfaaGreatDoor

namespace Go.Proofs.YtebkblmejkkhfaaGreatDoor
open Go.RowKit
set_option linter.unusedVariables false
set_option maxRecDepth 1000000
set_option maxHeartbeats 2000000 in
theorem markSeglog_rw (A : Option Addr) (L : List Fil) (c lo hi k : Nat) (f m : Int) (w : World) (h : Rw w lo hi 53 3 (.slice A L.length c) L.length (flat L)) (hf : ∀ f ∈ L, f.fits) (h0 : 1 ≤ k) (h1 : k + 3 * L.length ≤ 4000000) :
    Calls Tryz.prog 45 #[segV (.slice A L.length c) f m, .int .i64 k] w fun e w' => e = .returned (.int .i64 ((k + 3 * L.length : Nat) : Int)) ∧
      Rw w' lo hi 53 3 (.slice A L.length c) (markL L.length k).length (flat (markL L.length k)) ∧ w.grownBy w' (A.map (·.block)) ∧ (∀ f ∈ markL L.length k, f.fits) := by
  have hb0 : Below w.heap.size w (w.alloc (.cells #[.slice A L.length c, .int .i64 f, .int .i64 m] 61)) := (Below.refl _ w).alloc (Nat.le_refl _) _
  have HM := Lib.hid (markFs_rw A L c lo hi k _ (h.below hb0) hf h0 h1)
  go_enter Tryz.func45, Tryz.ntmps45
  go_wp2_with (go_at_call 63; refine HM.out.mono ?_; rintro e w1 ⟨rfl, hR, hg, hff⟩)
  go_ret
  exact ⟨rfl, hR, ⟨hg.os, hg.tape, hg.output, by have := hg.size; simp at this; omega, fun j hj hne => (hg.block j (by simp; omega) hne).trans (hb0.block j hj)⟩, hff⟩
set_option maxHeartbeats 2000000 in
theorem heldSeglog_any (A : Option Addr) (n c k : Nat) (f m : Int) (w : World) (hF : Fls w w.heap.size A (markL n k)) (h0 : 1 ≤ k) (h1 : k + 3 * n ≤ 4000000) :
    Calls Tryz.prog 50 #[segV (.slice A n c) f m, .int .i64 k] w fun e w' => e = .returned (.int .i64 ((k + 3 * n : Nat) : Int)) ∧ Below w.heap.size w w' := by
  have hb0 : Below w.heap.size w (w.alloc (.cells #[.slice A n c, .int .i64 f, .int .i64 m] 61)) := (Below.refl _ w).alloc (Nat.le_refl _) _
  have HM := Lib.hid (heldFs_any A n c k _ ((hF.below hb0 (Nat.le_refl _)).mono hb0.size) h0 h1)
  go_enter Tryz.func50, Tryz.ntmps50
  go_wp2_with (go_at_call 114; refine HM.out.mono ?_; rintro e w1 ⟨rfl, hb1⟩)
  go_ret
  exact ⟨rfl, hb0.trans (hb1.mono hb0.size)⟩
end Go.Proofs.YtebkblmejkkhfaaGreatDoor
