/- An argument that is a topic. -/
import Derived.Test.YtdehpdmgoaopfaaTp
namespace Go.Proofs.Ytdehpdmgoaopfaa
open Go.RowKit Go.ChangeShapes Go.WideShapes Go.Deep
set_option linter.unusedVariables false
theorem cellsTop : Try.prog.cellsOf 51 = 4 := by kernel_rfl
theorem cellsGr : Try.prog.cellsOf 110 = 2 := by kernel_rfl
theorem cellsSlS : Try.prog.cellsOf 23 = 1 := by kernel_rfl
theorem cellsSlG : Try.prog.cellsOf 49 = 1 := by kernel_rfl
set_option maxRecDepth 1000000 in
theorem strs_cell {H : Type} {enc : TypeId × Value → H} {W : World} {c0 : Value} {n : Nat} {y0 : DataW H × List MemPlace} (hm' : DataW.trod enc Try.prog W 0 (fun _ => true) true n 23 [c0] = some y0) :
    ∃ A L c, c0 = .slice A L.length c ∧ Strs W W.heap.size A L ∧ ∀ s ∈ L, s.size ≤ maxLen := by
  rcases open_strings Try.underlying23 Try.underlying9 cellsStr1 hm' with ⟨h1, _⟩ | ⟨a, len, cap, zs, h1, _, hl, hc, hz, _, hcell, hwf⟩
  · injection h1 with h1 _
    subst h1
    exact ⟨none, [], 0, rfl, ⟨by simp [maxLen], fun i h => absurd h (by simp)⟩, fun s h => absurd h (by simp)⟩
  · injection h1 with h1 _
    subst h1
    have hzl : zs.length = cap := by simpa using hz
    have htl : (zs.take len).length = len := by simp; omega
    refine ⟨some a, zs.take len, cap, by rw [htl], ⟨by rw [htl]; omega, fun i hi => ?_⟩, fun s hs => hwf s (List.mem_of_mem_take hs)⟩
    have hi' : i < zs.length := by rw [htl] at hi; omega
    have hc1 := hcell i hi'
    have hg : zs.getD i ByteArray.empty = (zs.take len)[i] := by rw [List.getElem_take]; simp [List.getD, hi']
    rw [hg] at hc1
    exact ⟨a, rfl, by have := World.block_lt_of_cell? W _ hc1; rw [add_blk] at this; exact this, hc1⟩
set_option maxRecDepth 1000000 in
theorem grs_cell {H : Type} {enc : TypeId × Value → H} {W : World} {c0 : Value} {n : Nat} {y0 : DataW H × List MemPlace} (h1 : DataW.trod enc Try.prog W 0 (fun _ => true) true n 49 [c0] = some y0) :
    ∃ A L c, c0 = .slice A L.length c ∧ Grs W W.heap.size A L ∧ ∀ g ∈ L, g.fits := by
  rcases open_slice Try.underlying49 h1 with ⟨hc, _⟩ | ⟨a, len, cap, m, n', D, Pl, hc, _, hl, hm, hmm, _, hi⟩
  · injection hc with hc _
    subst hc
    exact ⟨none, [], 0, rfl, ⟨by simp [maxLen], fun i h => absurd h (by simp)⟩, fun g h => absurd h (by simp)⟩
  · injection hc with hc _
    subst hc
    have hmm' : m = cap := by simpa using hmm
    subst hmm'
    have key : ∀ i, i < len → ∃ f : Grp, W.cell? (a.add (i * 2)) = some (.string f.name) ∧ W.cell? (a.add (i * 2 + 1)) = some (.int .i64 f.acked) ∧ f.fits := by
      intro i hil
      obtain ⟨cs', hcc, ht⟩ := hi i (by omega)
      rw [cellsGr] at hcc
      obtain ⟨_, hcl, hat⟩ := World.cells?_some hcc
      obtain ⟨ys, n2, _, _, _, hyl, hfs⟩ := DataW.trod_struct Try.underlying110 ht
      match cs', hcl with
      | [u0, u1], _ =>
        match ys, hyl with
        | [z0, z1], _ =>
          have g0 := hfs 0 _ rfl
          have g1 := hfs 1 _ rfl
          simp only [List.getElem?_cons_zero, List.getElem?_cons_succ] at g0 g1
          obtain ⟨s0, e0, _, q0⟩ := DataW.trod_string Try.underlying9 g0
          obtain ⟨k2, e2, _, q2⟩ := DataW.trod_int Try.underlying2 g1
          injection e0 with e0 _; injection e2 with e2 _
          subst e0 e2
          have a0 := hat 0 (by omega)
          have a1 := hat 1 (by omega)
          rw [ofNat_add] at a0 a1
          have q := wf_i64 q2
          exact ⟨⟨s0, k2⟩, a0, a1, q0, q.1, q.2⟩
    let F : Nat → Grp := fun i => if h : i < len then (key i h).choose else default
    have hF : ∀ i, i < len → W.cell? (a.add (i * 2)) = some (.string (F i).name) ∧ W.cell? (a.add (i * 2 + 1)) = some (.int .i64 (F i).acked) ∧ (F i).fits := by
      intro i hil
      simp only [F, hil, dif_pos]
      exact (key i hil).choose_spec
    refine ⟨some a, (List.range len).map F, m, by simp, ⟨by simp; omega, fun i hi => ?_⟩, fun g hg => ?_⟩
    · have hil : i < len := by simpa using hi
      obtain ⟨c0, c1, c3⟩ := hF i hil
      have hbl := World.block_lt_of_cell? W _ c0
      rw [add_blk] at hbl
      exact ⟨a, rfl, hbl, by simpa using c0, by simpa using c1⟩
    · obtain ⟨i, hi, rfl⟩ := List.mem_map.1 hg
      exact (hF i (by simpa using hi)).2.2
set_option maxRecDepth 1000000 in
/-- What is known of a topic that came in. -/
theorem topic_arg {H : Type} {enc : TypeId × Value → H} {W : World} {r : Reach} {b0 : Nat} {v : Value} {d : DataW H} {p : List MemPlace} (hval : Value.okWide Try.prog W r b0 51 v) (h : DataW.Trod enc Try.prog W 0 (fun _ => true) true 51 v d p) :
    ∃ (t : Tpc) (A : Option Addr) (c : Nat) (B : Option Addr) (d : Nat), v = topV t.name t.base (.slice A t.held.length c) (.slice B t.groups.length d) ∧ t.fits ∧ Strs W W.heap.size A t.held ∧ Grs W W.heap.size B t.groups := by
  obtain ⟨cs, rfl, hsz⟩ := okWide_struct Try.underlying51 hval
  rw [cellsTop] at hsz
  obtain ⟨l⟩ := cs
  match l, hsz with
  | [c0, c1, c2, c3], _ =>
    obtain ⟨fuel, hf⟩ := h
    obtain ⟨ys, n2, _, _, _, hyl, hfs⟩ := DataW.trod_struct Try.underlying51 hf
    match ys, hyl with
    | [z0, z1, z2, z3], _ =>
      have g0 := hfs 0 _ rfl
      have g1 := hfs 1 _ rfl
      have g2 := hfs 2 _ rfl
      have g3 := hfs 3 _ rfl
      have g0' : DataW.trod enc Try.prog W 0 (fun _ => true) true n2 9 [c0] = some z0 := by simpa [Value.cells, cellsStr] using g0
      have g1' : DataW.trod enc Try.prog W 0 (fun _ => true) true n2 2 [c1] = some z1 := by simpa [Value.cells, cellsI64] using g1
      have g2' : DataW.trod enc Try.prog W 0 (fun _ => true) true n2 23 [c2] = some z2 := by simpa [Value.cells, cellsSlS] using g2
      have g3' : DataW.trod enc Try.prog W 0 (fun _ => true) true n2 49 [c3] = some z3 := by simpa [Value.cells, cellsSlG] using g3
      obtain ⟨s0, e0, _, q0⟩ := DataW.trod_string Try.underlying9 g0'
      obtain ⟨k1, e1, _, q1⟩ := DataW.trod_int Try.underlying2 g1'
      injection e0 with e0 _; injection e1 with e1 _
      subst e0 e1
      obtain ⟨A, L, c, rfl, hL, hLf⟩ := strs_cell g2'
      obtain ⟨B, M, d, rfl, hM, hMf⟩ := grs_cell g3'
      exact ⟨⟨s0, k1, L, M⟩, A, c, B, d, rfl, ⟨q0, wf_i64 q1, hLf, hMf⟩, hL, hM⟩
end Go.Proofs.Ytdehpdmgoaopfaa
