/- The copy of a broker, whole. An argument that is a topic. An argument that is a broker. Rows of bytes that are known whole; joined. -/
import Derived.Test.YtkimieeabmjfgaaBrToW
import Derived.Test.YtkimieeabmjfgaaIs3W
import Derived.Test.YtkimieeabmjfgaaRwkW
namespace Go.Proofs.Ytkimieeabmjfgaa
open Go.RowKit
set_option linter.unusedVariables false
set_option maxRecDepth 1000000
theorem Lay.mono {w : World} : ∀ {M : List TC} {lo hi hi' : Nat}, Lay w lo M hi → hi ≤ hi' → Lay w lo M hi'
  | [], _, _, _, h, h' => Nat.le_trans h h'
  | _ :: _, _, _, _, ⟨mid, h0, h1, h2, h3, h⟩, h' => ⟨mid, h0, h1, h2, h3, h.mono h'⟩
set_option maxHeartbeats 2000000 in
theorem toBroker_any (b : Bro) (A : Option Addr) (c : Nat) (B : Option Addr) (d : Nat) (w : World) (hs : b.small) (hA : Tops w w.heap.size A b.topics) (hB : Rps w w.heap.size B b.replies) :
    Calls Try.prog 25 #[broV (.slice A b.topics.length c) (.slice B b.replies.length d)] w fun e w' => ∃ (g c' h d' : Nat) (M : List TC), e = .returned (broV (.slice (some ⟨g, 0, none⟩) b.topics.length c') (.slice (some ⟨h, 0, none⟩) b.replies.length d')) ∧
      M.map (·.t) = b.topics ∧ w.heap.size ≤ g ∧ g < h ∧ h < w'.heap.size ∧ w'.ownsRow w.heap.size 29 4 (.slice (some ⟨g, 0, none⟩) b.topics.length c') b.topics.length (tflat M) ∧ Lay w' (g + 1) M h ∧
      w'.ownsRow w.heap.size 53 3 (.slice (some ⟨h, 0, none⟩) b.replies.length d') b.replies.length (rflat b.replies) ∧ Below w.heap.size w w' := by
  obtain ⟨T, R⟩ := b
  obtain ⟨s1, s2⟩ := hs
  simp only at s1 s2 hA hB ⊢
  have hb0 : Below w.heap.size w (((w.alloc (.cells #[.slice A T.length c, .slice B R.length d] 42)).alloc (.cells #[.slice none 0 0, .slice none 0 0] 48)).alloc (.cells #[.slice none 0 0, .slice none 0 0] 48)) := (((Below.refl _ _).alloc (Nat.le_refl _) _).alloc (by simp) _).alloc (by simp; omega) _
  have k0 := ((Blk.fresh w 42 [.slice A T.length c, .slice B R.length d]).alloc (.cells #[.slice none 0 0, .slice none 0 0] 48)).alloc (.cells #[.slice none 0 0, .slice none 0 0] 48)
  have k1 := (Blk.fresh (w.alloc (.cells #[.slice A T.length c, .slice B R.length d] 42)) 48 [.slice none 0 0, .slice none 0 0]).alloc (.cells #[.slice none 0 0, .slice none 0 0] 48)
  have k2 := Blk.fresh ((w.alloc (.cells #[.slice A T.length c, .slice B R.length d] 42)).alloc (.cells #[.slice none 0 0, .slice none 0 0] 48)) 48 [.slice none 0 0, .slice none 0 0]
  simp only [World.size_alloc] at k0 k1 k2
  replace k0 : Blk (((w.alloc (.cells #[.slice A T.length c, .slice B R.length d] 42)).alloc (.cells #[.slice none 0 0, .slice none 0 0] 48)).alloc (.cells #[.slice none 0 0, .slice none 0 0] 48)) w.heap.size 42 [.slice A T.length c, .slice B R.length d] := k0
  replace k1 : Blk (((w.alloc (.cells #[.slice A T.length c, .slice B R.length d] 42)).alloc (.cells #[.slice none 0 0, .slice none 0 0] 48)).alloc (.cells #[.slice none 0 0, .slice none 0 0] 48)) (w.heap.size + 1) 48 [.slice none 0 0, .slice none 0 0] := k1
  replace k2 : Blk (((w.alloc (.cells #[.slice A T.length c, .slice B R.length d] 42)).alloc (.cells #[.slice none 0 0, .slice none 0 0] 48)).alloc (.cells #[.slice none 0 0, .slice none 0 0] 48)) (w.heap.size + 1 + 1) 48 [.slice none 0 0, .slice none 0 0] := k2
  have cc0 := k0.cell (i := 0) rfl
  go_enter Try.func25, Try.ntmps25
  go_wp2_with (fail)
  clear cc0
  generalize ((w.alloc (.cells #[.slice A T.length c, .slice B R.length d] 42)).alloc (.cells #[.slice none 0 0, .slice none 0 0] 48)).alloc (.cells #[.slice none 0 0, .slice none 0 0] 48) = v0 at hb0 k0 k1 k2 ⊢
  refine (toTopicS_any A T c v0 (hA.on hb0) s1.1 s1.2).mono ?_
  rintro e w1 ⟨g, c', M, rfl, hM, hg1, hr1, hly, hb1⟩
  have z0 := k2.lt
  have hw1 := hb0.trans (hb1.mono hb0.size)
  replace k0 := k0.below hb1 k0.lt
  replace k1 := k1.below hb1 k1.lt
  replace k2 := k2.below hb1 k2.lt
  have c0 := k2.cell (i := 0) rfl
  have f0 := k2.froz 0
  have d0 := k0.cell (i := 1) rfl
  have q2 := k2.put 0 (.slice (some ⟨g, 0, none⟩) T.length c')
  have q1 := k1.far (p := ⟨w.heap.size + 1 + 1, 0, none⟩) (by simp) (.slice (some ⟨g, 0, none⟩) T.length c')
  have q0 := k0.far (p := ⟨w.heap.size + 1 + 1, 0, none⟩) (by simp; omega) (.slice (some ⟨g, 0, none⟩) T.length c')
  have hbq := hw1.setCell (p := ⟨w.heap.size + 1 + 1, 0, none⟩) (by simp; omega) (.slice (some ⟨g, 0, none⟩) T.length c')
  have hrq : (w1.setCell ⟨w.heap.size + 1 + 1, 0, none⟩ (.slice (some ⟨g, 0, none⟩) T.length c')).ownsRow v0.heap.size 29 4 (.slice (some ⟨g, 0, none⟩) T.length c') T.length (tflat M) := row_far hr1 (by simp; omega) _
  have hlq := hly.set (p := ⟨w.heap.size + 1 + 1, 0, none⟩) (by simp; omega) (.slice (some ⟨g, 0, none⟩) T.length c')
  have e0 := q0.cell (i := 1) rfl
  have zq : (w1.setCell ⟨w.heap.size + 1 + 1, 0, none⟩ (.slice (some ⟨g, 0, none⟩) T.length c')).heap.size = w1.heap.size := by simp [World.setCell]
  have hgl := (hr1.lt g rfl).2
  have HM := Lib.hid hM
  clear hM
  go_wp2_with (fail)
  clear c0 f0 d0 e0 k0 k1 k2 hr1 hly
  generalize w1.setCell ⟨w.heap.size + 1 + 1, 0, none⟩ (.slice (some ⟨g, 0, none⟩) T.length c') = v1 at q0 q1 q2 hbq hrq hlq zq ⊢
  refine (toReplyS_any B R d v1 (hB.on hbq) s2.1).mono ?_
  rintro e w2 ⟨h, d', rfl, hr2, hb2⟩
  have hg2 : v1.heap.size ≤ h ∧ h < w2.heap.size := hr2.lt h rfl
  have hw2 := hbq.trans (hb2.mono hbq.size)
  have hz1 := hb1.size
  have hz2 := hb2.size
  have hrs := row_below hrq hb2 (Nat.le_refl _)
  have hl2 := hlq.below hb2
  replace q1 := q1.below hb2 q1.lt
  replace q2 := q2.below hb2 q2.lt
  simp only [List.set_cons_succ, List.set_cons_zero] at q2
  have c0 := q2.cell (i := 0) rfl
  have c1 := q2.cell (i := 1) rfl
  have f1 := q2.froz 1
  have p0 := q1.cell (i := 0) rfl
  have p1 := q1.cell (i := 1) rfl
  have o0 := q1.froz 0
  have o1 := q1.froz 1
  go_wp2
  have r1 := ((q1.far (p := ⟨w.heap.size + 1 + 1, 1, none⟩) (by simp) (.slice (some ⟨h, 0, none⟩) R.length d')).put 0 (.slice (some ⟨g, 0, none⟩) T.length c')).put 1 (.slice (some ⟨h, 0, none⟩) R.length d')
  have r2 := row_far (row_far (row_far hrs (p := ⟨w.heap.size + 1 + 1, 1, none⟩) (by simp; omega) (.slice (some ⟨h, 0, none⟩) R.length d')) (p := ⟨w.heap.size + 1, 0, none⟩) (by simp; omega) (.slice (some ⟨g, 0, none⟩) T.length c')) (p := ⟨w.heap.size + 1, 1, none⟩) (by simp; omega) (.slice (some ⟨h, 0, none⟩) R.length d')
  have r3 := row_far (row_far (row_far hr2 (p := ⟨w.heap.size + 1 + 1, 1, none⟩) (by simp; omega) (.slice (some ⟨h, 0, none⟩) R.length d')) (p := ⟨w.heap.size + 1, 0, none⟩) (by simp; omega) (.slice (some ⟨g, 0, none⟩) T.length c')) (p := ⟨w.heap.size + 1, 1, none⟩) (by simp; omega) (.slice (some ⟨h, 0, none⟩) R.length d')
  have r5 := ((hl2.set (p := ⟨w.heap.size + 1 + 1, 1, none⟩) (by simp; omega) (.slice (some ⟨h, 0, none⟩) R.length d')).set (p := ⟨w.heap.size + 1, 0, none⟩) (by simp; omega) (.slice (some ⟨g, 0, none⟩) T.length c')).set (p := ⟨w.heap.size + 1, 1, none⟩) (by simp; omega) (.slice (some ⟨h, 0, none⟩) R.length d')
  have r4 := ((hw2.setCell (p := ⟨w.heap.size + 1 + 1, 1, none⟩) (by simp; try omega) (.slice (some ⟨h, 0, none⟩) R.length d')).setCell (p := ⟨w.heap.size + 1, 0, none⟩) (by simp; try omega) (.slice (some ⟨g, 0, none⟩) T.length c')).setCell (p := ⟨w.heap.size + 1, 1, none⟩) (by simp; try omega) (.slice (some ⟨h, 0, none⟩) R.length d')
  have r6 : (((w2.setCell ⟨w.heap.size + 1 + 1, 1, none⟩ (.slice (some ⟨h, 0, none⟩) R.length d')).setCell ⟨w.heap.size + 1, 0, none⟩ (.slice (some ⟨g, 0, none⟩) T.length c')).setCell ⟨w.heap.size + 1, 1, none⟩ (.slice (some ⟨h, 0, none⟩) R.length d')).heap.size = w2.heap.size := by simp [World.setCell]
  simp only [List.set_cons_succ, List.set_cons_zero] at r1
  generalize (((w2.setCell ⟨w.heap.size + 1 + 1, 1, none⟩ (.slice (some ⟨h, 0, none⟩) R.length d')).setCell ⟨w.heap.size + 1, 0, none⟩ (.slice (some ⟨g, 0, none⟩) T.length c')).setCell ⟨w.heap.size + 1, 1, none⟩ (.slice (some ⟨h, 0, none⟩) R.length d')) = w9 at r1 r2 r3 r4 r5 r6 ⊢
  have x0 := r1.cell (i := 0) rfl
  have x1 := r1.cell (i := 1) rfl
  exact bodyPost_ret (v := broV (.slice (some ⟨g, 0, none⟩) T.length c') (.slice (some ⟨h, 0, none⟩) R.length d')) (by simp [results, Try.results25, go_sem, x0, x1]) rfl ⟨g, c', h, d', M, rfl, HM.out, by omega, by omega, by omega, own_base r2 (by omega), r5.mono (by omega), own_base r3 (by omega), r4⟩
/-- The same, where the copy is only read. -/
theorem toBroker_rd (b : Bro) (A : Option Addr) (c : Nat) (B : Option Addr) (d : Nat) (w : World) (hs : b.small) (hA : Tops w w.heap.size A b.topics) (hB : Rps w w.heap.size B b.replies) :
    Calls Try.prog 25 #[broV (.slice A b.topics.length c) (.slice B b.replies.length d)] w fun e w' => ∃ (g c' h d' : Nat), e = .returned (broV (.slice (some ⟨g, 0, none⟩) b.topics.length c') (.slice (some ⟨h, 0, none⟩) b.replies.length d')) ∧
      Tops w' w'.heap.size (some ⟨g, 0, none⟩) b.topics ∧ Rps w' w'.heap.size (some ⟨h, 0, none⟩) b.replies ∧ Below w.heap.size w w' := by
  refine (toBroker_any b A c B d w hs hA hB).mono ?_
  rintro e w' ⟨g, c', h, d', M, rfl, hM, h1, h2, h3, h4, h5, h6, h7⟩
  refine ⟨g, c', h, d', rfl, ?_, OwnR.rps (base := w.heap.size) (c := d') (n := b.replies.length) h6, h7⟩
  rw [← hM]
  refine OwnT.tops (base := w.heap.size) (n := b.topics.length) (c := c') (M := M) ?_ h5
  unfold OwnT
  have hl : M.length = b.topics.length := by rw [← hM, List.length_map]
  rw [hl]
  exact h4
end Go.Proofs.Ytkimieeabmjfgaa

namespace Go.Proofs.Ytkimieeabmjfgaa
open Go.RowKit Go.ChangeShapes Go.WideShapes Go.Deep
set_option linter.unusedVariables false
theorem cellsTop : Try.prog.cellsOf 25 = 4 := by kernel_rfl
theorem cellsGr : Try.prog.cellsOf 104 = 2 := by kernel_rfl
theorem cellsSlS : Try.prog.cellsOf 22 = 1 := by kernel_rfl
theorem cellsSlG : Try.prog.cellsOf 23 = 1 := by kernel_rfl
set_option maxRecDepth 1000000 in
theorem strs_cell {H : Type} {enc : TypeId × Value → H} {W : World} {c0 : Value} {n : Nat} {y0 : DataW H × List MemPlace} (hm' : DataW.trod enc Try.prog W 0 (fun _ => true) true n 22 [c0] = some y0) :
    ∃ A L c, c0 = .slice A L.length c ∧ Strs W W.heap.size A L ∧ ∀ s ∈ L, s.size ≤ maxLen := by
  rcases open_strings Try.underlying22 Try.underlying9 cellsStr1 hm' with ⟨h1, _⟩ | ⟨a, len, cap, zs, h1, _, hl, hc, hz, _, hcell, hwf⟩
  · injection h1 with h1 _
    subst h1
    exact ⟨none, [], 0, rfl, ⟨by simp [maxLen], fun i h => absurd h (by simp)⟩, fun s h => absurd h (by simp)⟩
  · injection h1 with h1 _
    subst h1
    have hzl : zs.length = cap := by simpa using hz
    have htl : (zs.take len).length = len := by simp; omega
    refine ⟨some a, zs.take len, cap, by rw [htl], ⟨by rw [htl]; omega, fun i hi => ?_⟩, fun s hs => hwf s (List.mem_of_mem_take hs)⟩
    have hi' : i < zs.length := by rw [htl] at hi; omega
    have hc1 := hcell i hi'
    have hg : zs.getD i ByteArray.empty = (zs.take len)[i] := by rw [List.getElem_take]; simp [List.getD, hi']
    rw [hg] at hc1
    exact ⟨a, rfl, by have := World.block_lt_of_cell? W _ hc1; rw [add_blk] at this; exact this, hc1⟩
set_option maxRecDepth 1000000 in
theorem grs_cell {H : Type} {enc : TypeId × Value → H} {W : World} {c0 : Value} {n : Nat} {y0 : DataW H × List MemPlace} (h1 : DataW.trod enc Try.prog W 0 (fun _ => true) true n 23 [c0] = some y0) :
    ∃ A L c, c0 = .slice A L.length c ∧ Grs W W.heap.size A L ∧ ∀ g ∈ L, g.fits := by
  rcases open_slice Try.underlying23 h1 with ⟨hc, _⟩ | ⟨a, len, cap, m, n', D, Pl, hc, _, hl, hm, hmm, _, hi⟩
  · injection hc with hc _
    subst hc
    exact ⟨none, [], 0, rfl, ⟨by simp [maxLen], fun i h => absurd h (by simp)⟩, fun g h => absurd h (by simp)⟩
  · injection hc with hc _
    subst hc
    have hmm' : m = cap := by simpa using hmm
    subst hmm'
    have key : ∀ i, i < len → ∃ f : Grp, W.cell? (a.add (i * 2)) = some (.string f.name) ∧ W.cell? (a.add (i * 2 + 1)) = some (.int .i64 f.acked) ∧ f.fits := by
      intro i hil
      obtain ⟨cs', hcc, ht⟩ := hi i (by omega)
      rw [cellsGr] at hcc
      obtain ⟨_, hcl, hat⟩ := World.cells?_some hcc
      obtain ⟨ys, n2, _, _, _, hyl, hfs⟩ := DataW.trod_struct Try.underlying104 ht
      match cs', hcl with
      | [u0, u1], _ =>
        match ys, hyl with
        | [z0, z1], _ =>
          have g0 := hfs 0 _ rfl
          have g1 := hfs 1 _ rfl
          simp only [List.getElem?_cons_zero, List.getElem?_cons_succ] at g0 g1
          obtain ⟨s0, e0, _, q0⟩ := DataW.trod_string Try.underlying9 g0
          obtain ⟨k2, e2, _, q2⟩ := DataW.trod_int Try.underlying2 g1
          injection e0 with e0 _; injection e2 with e2 _
          subst e0 e2
          have a0 := hat 0 (by omega)
          have a1 := hat 1 (by omega)
          rw [ofNat_add] at a0 a1
          have q := wf_i64 q2
          exact ⟨⟨s0, k2⟩, a0, a1, q0, q.1, q.2⟩
    let F : Nat → Grp := fun i => if h : i < len then (key i h).choose else default
    have hF : ∀ i, i < len → W.cell? (a.add (i * 2)) = some (.string (F i).name) ∧ W.cell? (a.add (i * 2 + 1)) = some (.int .i64 (F i).acked) ∧ (F i).fits := by
      intro i hil
      simp only [F, hil, dif_pos]
      exact (key i hil).choose_spec
    refine ⟨some a, (List.range len).map F, m, by simp, ⟨by simp; omega, fun i hi => ?_⟩, fun g hg => ?_⟩
    · have hil : i < len := by simpa using hi
      obtain ⟨c0, c1, c3⟩ := hF i hil
      have hbl := World.block_lt_of_cell? W _ c0
      rw [add_blk] at hbl
      exact ⟨a, rfl, hbl, by simpa using c0, by simpa using c1⟩
    · obtain ⟨i, hi, rfl⟩ := List.mem_map.1 hg
      exact (hF i (by simpa using hi)).2.2
set_option maxRecDepth 1000000 in
/-- What is known of a topic that came in. -/
theorem topic_arg {H : Type} {enc : TypeId × Value → H} {W : World} {r : Reach} {b0 : Nat} {v : Value} {d : DataW H} {p : List MemPlace} (hval : Value.okWide Try.prog W r b0 25 v) (h : DataW.Trod enc Try.prog W 0 (fun _ => true) true 25 v d p) :
    ∃ (t : Tpc) (A : Option Addr) (c : Nat) (B : Option Addr) (d : Nat), v = topV t.name t.base (.slice A t.held.length c) (.slice B t.groups.length d) ∧ t.fits ∧ Strs W W.heap.size A t.held ∧ Grs W W.heap.size B t.groups := by
  obtain ⟨cs, rfl, hsz⟩ := okWide_struct Try.underlying25 hval
  rw [cellsTop] at hsz
  obtain ⟨l⟩ := cs
  match l, hsz with
  | [c0, c1, c2, c3], _ =>
    obtain ⟨fuel, hf⟩ := h
    obtain ⟨ys, n2, _, _, _, hyl, hfs⟩ := DataW.trod_struct Try.underlying25 hf
    match ys, hyl with
    | [z0, z1, z2, z3], _ =>
      have g0 := hfs 0 _ rfl
      have g1 := hfs 1 _ rfl
      have g2 := hfs 2 _ rfl
      have g3 := hfs 3 _ rfl
      have g0' : DataW.trod enc Try.prog W 0 (fun _ => true) true n2 9 [c0] = some z0 := by simpa [Value.cells, cellsStr] using g0
      have g1' : DataW.trod enc Try.prog W 0 (fun _ => true) true n2 2 [c1] = some z1 := by simpa [Value.cells, cellsI64] using g1
      have g2' : DataW.trod enc Try.prog W 0 (fun _ => true) true n2 22 [c2] = some z2 := by simpa [Value.cells, cellsSlS] using g2
      have g3' : DataW.trod enc Try.prog W 0 (fun _ => true) true n2 23 [c3] = some z3 := by simpa [Value.cells, cellsSlG] using g3
      obtain ⟨s0, e0, _, q0⟩ := DataW.trod_string Try.underlying9 g0'
      obtain ⟨k1, e1, _, q1⟩ := DataW.trod_int Try.underlying2 g1'
      injection e0 with e0 _; injection e1 with e1 _
      subst e0 e1
      obtain ⟨A, L, c, rfl, hL, hLf⟩ := strs_cell g2'
      obtain ⟨B, M, d, rfl, hM, hMf⟩ := grs_cell g3'
      exact ⟨⟨s0, k1, L, M⟩, A, c, B, d, rfl, ⟨q0, wf_i64 q1, hLf, hMf⟩, hL, hM⟩
end Go.Proofs.Ytkimieeabmjfgaa

namespace Go.Proofs.Ytkimieeabmjfgaa
open Go.RowKit Go.ChangeShapes Go.WideShapes Go.Deep
set_option linter.unusedVariables false
theorem cellsBro : Try.prog.cellsOf 42 = 2 := by kernel_rfl
theorem cellsRep : Try.prog.cellsOf 122 = 3 := by kernel_rfl
theorem cellsSlT : Try.prog.cellsOf 39 = 1 := by kernel_rfl
theorem cellsSlR : Try.prog.cellsOf 40 = 1 := by kernel_rfl
set_option maxRecDepth 1000000 in
theorem rps_cell {H : Type} {enc : TypeId × Value → H} {W : World} {c0 : Value} {n : Nat} {y0 : DataW H × List MemPlace} (h1 : DataW.trod enc Try.prog W 0 (fun _ => true) true n 40 [c0] = some y0) :
    ∃ A L c, c0 = .slice A L.length c ∧ Rps W W.heap.size A L ∧ ∀ g ∈ L, g.fits := by
  rcases open_slice Try.underlying40 h1 with ⟨hc, _⟩ | ⟨a, len, cap, m, n', D, Pl, hc, _, hl, hm, hmm, _, hi⟩
  · injection hc with hc _
    subst hc
    exact ⟨none, [], 0, rfl, ⟨by simp [maxLen], fun i h => absurd h (by simp)⟩, fun g h => absurd h (by simp)⟩
  · injection hc with hc _
    subst hc
    have hmm' : m = cap := by simpa using hmm
    subst hmm'
    have key : ∀ i, i < len → ∃ f : Rep, W.cell? (a.add (i * 3)) = some (.int .i64 f.client) ∧ W.cell? (a.add (i * 3 + 1)) = some (.int .i64 f.number) ∧ W.cell? (a.add (i * 3 + 2)) = some (.string f.text) ∧ f.fits := by
      intro i hil
      obtain ⟨cs', hcc, ht⟩ := hi i (by omega)
      rw [cellsRep] at hcc
      obtain ⟨_, hcl, hat⟩ := World.cells?_some hcc
      obtain ⟨ys, n2, _, _, _, hyl, hfs⟩ := DataW.trod_struct Try.underlying122 ht
      match cs', hcl with
      | [u0, u1, u2], _ =>
        match ys, hyl with
        | [z0, z1, z2], _ =>
          have g0 := hfs 0 _ rfl
          have g1 := hfs 1 _ rfl
          have g2 := hfs 2 _ rfl
          simp only [List.getElem?_cons_zero, List.getElem?_cons_succ] at g0 g1 g2
          obtain ⟨k0, e0, _, q0⟩ := DataW.trod_int Try.underlying2 g0
          obtain ⟨k1, e1, _, q1⟩ := DataW.trod_int Try.underlying2 g1
          obtain ⟨s2, e2, _, q2⟩ := DataW.trod_string Try.underlying9 g2
          injection e0 with e0 _; injection e1 with e1 _; injection e2 with e2 _
          subst e0 e1 e2
          have a0 := hat 0 (by omega)
          have a1 := hat 1 (by omega)
          have a2 := hat 2 (by omega)
          rw [ofNat_add] at a0 a1 a2
          exact ⟨⟨k0, k1, s2⟩, a0, a1, a2, wf_i64 q0, wf_i64 q1, q2⟩
    let F : Nat → Rep := fun i => if h : i < len then (key i h).choose else default
    have hF : ∀ i, i < len → W.cell? (a.add (i * 3)) = some (.int .i64 (F i).client) ∧ W.cell? (a.add (i * 3 + 1)) = some (.int .i64 (F i).number) ∧ W.cell? (a.add (i * 3 + 2)) = some (.string (F i).text) ∧ (F i).fits := by
      intro i hil
      simp only [F, hil, dif_pos]
      exact (key i hil).choose_spec
    refine ⟨some a, (List.range len).map F, m, by simp, ⟨by simp; omega, fun i hi => ?_⟩, fun g hg => ?_⟩
    · have hil : i < len := by simpa using hi
      obtain ⟨c0, c1, c2, c3⟩ := hF i hil
      have hbl := World.block_lt_of_cell? W _ c0
      rw [add_blk] at hbl
      exact ⟨a, rfl, hbl, by simpa using c0, by simpa using c1, by simpa using c2⟩
    · obtain ⟨i, hi, rfl⟩ := List.mem_map.1 hg
      exact (hF i (by simpa using hi)).2.2.2
set_option maxRecDepth 1000000 in
theorem tops_cell {H : Type} {enc : TypeId × Value → H} {W : World} {c0 : Value} {n : Nat} {y0 : DataW H × List MemPlace} (h1 : DataW.trod enc Try.prog W 0 (fun _ => true) true n 39 [c0] = some y0) :
    ∃ A L c, c0 = .slice A L.length c ∧ Tops W W.heap.size A L ∧ ∀ g ∈ L, g.fits := by
  rcases open_slice Try.underlying39 h1 with ⟨hc, _⟩ | ⟨a, len, cap, m, n', D, Pl, hc, _, hl, hm, hmm, _, hi⟩
  · injection hc with hc _
    subst hc
    exact ⟨none, [], 0, rfl, ⟨by simp [maxLen], fun i h => absurd h (by simp)⟩, fun g h => absurd h (by simp)⟩
  · injection hc with hc _
    subst hc
    have hmm' : m = cap := by simpa using hmm
    subst hmm'
    have key : ∀ i, i < len → ∃ f : Tpc, (∃ C c D d, W.cell? (a.add (i * 4)) = some (.string f.name) ∧ W.cell? (a.add (i * 4 + 1)) = some (.int .i64 f.base) ∧ W.cell? (a.add (i * 4 + 2)) = some (.slice C f.held.length c) ∧ W.cell? (a.add (i * 4 + 3)) = some (.slice D f.groups.length d) ∧ Strs W W.heap.size C f.held ∧ Grs W W.heap.size D f.groups) ∧ f.fits := by
      intro i hil
      obtain ⟨cs', hcc, ht⟩ := hi i (by omega)
      rw [cellsTop] at hcc
      obtain ⟨_, hcl, hat⟩ := World.cells?_some hcc
      obtain ⟨ys, n2, _, _, _, hyl, hfs⟩ := DataW.trod_struct Try.underlying25 ht
      match cs', hcl with
      | [u0, u1, u2, u3], _ =>
        match ys, hyl with
        | [z0, z1, z2, z3], _ =>
          have g0 := hfs 0 _ rfl
          have g1 := hfs 1 _ rfl
          have g2 := hfs 2 _ rfl
          have g3 := hfs 3 _ rfl
          simp only [List.getElem?_cons_zero, List.getElem?_cons_succ] at g0 g1 g2 g3
          obtain ⟨s0, e0, _, q0⟩ := DataW.trod_string Try.underlying9 g0
          obtain ⟨k1, e1, _, q1⟩ := DataW.trod_int Try.underlying2 g1
          injection e0 with e0 _; injection e1 with e1 _
          subst e0 e1
          obtain ⟨C, L, c, rfl, hL, hLf⟩ := strs_cell g2
          obtain ⟨D, M, d, rfl, hM, hMf⟩ := grs_cell g3
          have a0 := hat 0 (by omega)
          have a1 := hat 1 (by omega)
          have a2 := hat 2 (by omega)
          have a3 := hat 3 (by omega)
          rw [ofNat_add] at a0 a1 a2 a3
          exact ⟨⟨s0, k1, L, M⟩, ⟨C, c, D, d, a0, a1, a2, a3, hL, hM⟩, q0, wf_i64 q1, hLf, hMf⟩
    let F : Nat → Tpc := fun i => if h : i < len then (key i h).choose else default
    have hF : ∀ i, i < len → (∃ C c D d, W.cell? (a.add (i * 4)) = some (.string (F i).name) ∧ W.cell? (a.add (i * 4 + 1)) = some (.int .i64 (F i).base) ∧ W.cell? (a.add (i * 4 + 2)) = some (.slice C (F i).held.length c) ∧ W.cell? (a.add (i * 4 + 3)) = some (.slice D (F i).groups.length d) ∧ Strs W W.heap.size C (F i).held ∧ Grs W W.heap.size D (F i).groups) ∧ (F i).fits := by
      intro i hil
      simp only [F, hil, dif_pos]
      exact (key i hil).choose_spec
    refine ⟨some a, (List.range len).map F, m, by simp, ⟨by simp; omega, fun i hi => ?_⟩, fun g hg => ?_⟩
    · have hil : i < len := by simpa using hi
      obtain ⟨⟨C, c, D, d, c0, c1, c2, c3, hC, hD⟩, _⟩ := hF i hil
      have hbl := World.block_lt_of_cell? W _ c0
      rw [add_blk] at hbl
      exact ⟨a, rfl, hbl, C, c, D, d, by simpa using c0, by simpa using c1, by simpa using c2, by simpa using c3, by simpa using hC, by simpa using hD⟩
    · obtain ⟨i, hi, rfl⟩ := List.mem_map.1 hg
      exact (hF i (by simpa using hi)).2
set_option maxRecDepth 1000000 in
/-- What is known of a broker that came in. -/
theorem broker_arg {H : Type} {enc : TypeId × Value → H} {W : World} {r : Reach} {b0 : Nat} {v : Value} {d : DataW H} {p : List MemPlace} (hval : Value.okWide Try.prog W r b0 42 v) (h : DataW.Trod enc Try.prog W 0 (fun _ => true) true 42 v d p) :
    ∃ (b : Bro) (A : Option Addr) (c : Nat) (B : Option Addr) (d : Nat), v = broV (.slice A b.topics.length c) (.slice B b.replies.length d) ∧ b.fits ∧ Tops W W.heap.size A b.topics ∧ Rps W W.heap.size B b.replies := by
  obtain ⟨cs, rfl, hsz⟩ := okWide_struct Try.underlying42 hval
  rw [cellsBro] at hsz
  obtain ⟨l⟩ := cs
  match l, hsz with
  | [c0, c1], _ =>
    obtain ⟨fuel, hf⟩ := h
    obtain ⟨ys, n2, _, _, _, hyl, hfs⟩ := DataW.trod_struct Try.underlying42 hf
    match ys, hyl with
    | [z0, z1], _ =>
      have g0 := hfs 0 _ rfl
      have g1 := hfs 1 _ rfl
      have g0' : DataW.trod enc Try.prog W 0 (fun _ => true) true n2 39 [c0] = some z0 := by simpa [Value.cells, cellsSlT] using g0
      have g1' : DataW.trod enc Try.prog W 0 (fun _ => true) true n2 40 [c1] = some z1 := by simpa [Value.cells, cellsSlR] using g1
      obtain ⟨A, L, c, rfl, hL, hLf⟩ := tops_cell g0'
      obtain ⟨B, M, d, rfl, hM, hMf⟩ := rps_cell g1'
      exact ⟨⟨L, M⟩, A, c, B, d, rfl, ⟨hLf, hMf⟩, hL, hM⟩
end Go.Proofs.Ytkimieeabmjfgaa

namespace Go.Proofs.Ytkimieeabmjfgaa
open Go.RowKit
set_option linter.unusedVariables false

theorem sizeU8 : (Try.prog.info? 5).map (·.size) = some 1 := by kernel_rfl

/-- A row that is owned up to its capacity is its block. -/
theorem own_heap {w : World} {base g n : Nat} {e : TypeId} {xs : List Value} (h : w.ownsRow base e 1 (.slice (some ⟨g, 0, none⟩) n n) n xs) : w.heap[g]? = some (.cells xs.toArray e (0, 0)) := by
  obtain ⟨hl, hh⟩ := h
  rcases hh with ⟨h1, _⟩ | ⟨g', cap, cur, h1, _, hb, _, _, hs, ht⟩
  · cases h1
  · simp at h1
    obtain ⟨rfl, rfl⟩ := h1
    rw [hb]
    have : cur.toList = xs := by rw [← ht, List.take_of_length_le (by simp [hs])]
    rw [← this]
theorem own_heap' {w : World} {base g n : Nat} {e : TypeId} {xs : List Value} (h : w.ownsRow base e 1 (.slice (some ⟨g, 0, none⟩) n n) n xs) : ∃ Z : List Value, Hid (w.heap[g]? = some (.cells Z.toArray e (0, 0))) ∧ Z.length = n :=
  ⟨xs, own_heap h, by simpa using h.1⟩

theorem bc_len (a : ByteArray) : (Lib.byteCells a.data.toList).length = a.size := by rw [Lib.byteCells_length, ← Lib.size_eq]
theorem ne_empty {b : ByteArray} (h : 0 < b.size) : ¬ b = ByteArray.empty := by intro e; subst e; simp at h

theorem splice_len0 {Z : List Value} {a : ByteArray} {m : Nat} (h : Z.length = a.size + m) : (splice Z 0 (Lib.byteCells a.data.toList)).length = a.size + m := by
  rw [length_splice _ _ _ (by rw [bc_len]; omega), h]
theorem conv_two {w : World} {g n : Nat} {Z : List Value} {a b : ByteArray} (hn : n = a.size + b.size) (hs : n ≤ 1048576)
    (h : Hid (w.heap[g]? = some (.cells (splice (splice Z 0 (Lib.byteCells a.data.toList)) a.size (Lib.byteCells b.data.toList)).toArray 5 (0, 0)))) (hZ : Hid (Z.length = a.size + b.size)) :
    (convert 135 9 (.slice (some ⟨g, 0, none⟩) n n)).run Try.prog w = .ok (.string (a ++ b)) w := by
  have e : splice (splice Z 0 (Lib.byteCells a.data.toList)) a.size (Lib.byteCells b.data.toList) = Lib.byteCells (a.data.toList ++ b.data.toList) := by
    have := splice_two Z (Lib.byteCells a.data.toList) (Lib.byteCells b.data.toList) (by rw [bc_len, bc_len]; exact hZ.out)
    rw [bc_len] at this
    rw [this, byteCells_append]
  have h' := h.out
  rw [e] at h'
  have hl : (Lib.byteCells (a.data.toList ++ b.data.toList)).length = n := by rw [← byteCells_append, List.length_append, bc_len, bc_len, hn]
  rw [← str_append]
  refine own_bytes (base := 0) (n := n) ⟨by simpa using hl, .inr ⟨g, n, _, rfl, Nat.zero_le _, h', Nat.le_refl _, ?_, by simpa using hl, ?_⟩⟩
  · unfold maxLen; omega
  · rw [List.take_of_length_le (by simp [hl])]

end Go.Proofs.Ytkimieeabmjfgaa
