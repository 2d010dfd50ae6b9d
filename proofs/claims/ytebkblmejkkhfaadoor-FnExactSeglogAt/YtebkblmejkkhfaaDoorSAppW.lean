/- An argument that is a log. Strings appended to a row of the call's own, out of another such row (nil or not). -/
import Derived.Test.YtebkblmejkkhfaaDoorFilOwnW
import Derived.Test.YtebkblmejkkhfaaDoorStrW
import Derived.Laws.AppendOwnNone
namespace Go.Proofs.YtebkblmejkkhfaaDoor
open Go.RowKit Go.ChangeShapes Go.WideShapes Go.Deep
set_option linter.unusedVariables false
abbrev segV (v : Value) (f m : Int) : Value := .agg #[v, .int .i64 f, .int .i64 m]
theorem cellsSg : Tryd.prog.cellsOf 28 = 3 := by kernel_rfl

set_option maxRecDepth 1000000 in
/-- What is known of the files of an argument, by the one cell that holds them. -/
theorem fs_cell {H : Type} {enc : TypeId × Value → H} {W : World} {c0 : Value} {n : Nat} {y0 : DataW H × List MemPlace} (h : DataW.trod enc Tryd.prog W 0 (fun _ => true) true n 26 [c0] = some y0) :
    ∃ A L c, c0 = .slice A L.length c ∧ Fls W W.heap.size A L := by
  obtain ⟨y0, n, hx, _, h0⟩ := trod_struct1 Tryd.underlying26 h
  have h1 : DataW.trod enc Tryd.prog W 0 (fun _ => true) true n 24 [c0] = some y0 := by simpa [Value.cells, cellsSl] using h0
  rcases open_slice Tryd.underlying24 h1 with ⟨hc, _⟩ | ⟨a, len, cap, m, n', D, Pl, hc, _, hl, hm, hmm, _, hi⟩
  · injection hc with hc _
    subst hc
    exact ⟨none, [], 0, rfl, by simp [maxLen], fun i h => absurd h (by simp)⟩
  · injection hc with hc _
    subst hc
    have hmm' : m = cap := by simpa using hmm
    subst hmm'
    have key : ∀ i, i < len → ∃ f : Fil, W.cell? (a.add (i * 3)) = some (.string f.name) ∧ W.cell? (a.add (i * 3 + 1)) = some (.string f.data) ∧ W.cell? (a.add (i * 3 + 2)) = some (.int .i64 f.sync) ∧ f.fits := by
      intro i hil
      obtain ⟨cs', hcc, ht⟩ := hi i (by omega)
      rw [cells3] at hcc
      obtain ⟨_, hcl, hat⟩ := World.cells?_some hcc
      obtain ⟨ys, n2, _, _, _, hyl, hfs⟩ := DataW.trod_struct Tryd.underlying76 ht
      match cs', hcl with
      | [u0, u1, u2], _ =>
        match ys, hyl with
        | [z0, z1, z2], _ =>
          have g0 := hfs 0 _ rfl
          have g1 := hfs 1 _ rfl
          have g2 := hfs 2 _ rfl
          simp only [List.getElem?_cons_zero, List.getElem?_cons_succ] at g0 g1 g2
          obtain ⟨s0, e0, _, q0⟩ := DataW.trod_string Tryd.underlying9 g0
          obtain ⟨s1, e1, _, q1⟩ := DataW.trod_string Tryd.underlying9 g1
          obtain ⟨k2, e2, _, q2⟩ := DataW.trod_int Tryd.underlying2 g2
          injection e0 with e0 _; injection e1 with e1 _; injection e2 with e2 _
          subst e0 e1 e2
          have a0 := hat 0 (by omega)
          have a1 := hat 1 (by omega)
          have a2 := hat 2 (by omega)
          rw [ofNat_add] at a0 a1 a2
          have q := wf_i64 q2
          exact ⟨⟨s0, s1, k2⟩, a0, a1, a2, q0, q1, q.1, q.2⟩
    let F : Nat → Fil := fun i => if h : i < len then (key i h).choose else default
    have hF : ∀ i, i < len → W.cell? (a.add (i * 3)) = some (.string (F i).name) ∧ W.cell? (a.add (i * 3 + 1)) = some (.string (F i).data) ∧ W.cell? (a.add (i * 3 + 2)) = some (.int .i64 (F i).sync) ∧ (F i).fits := by
      intro i hil
      simp only [F, hil, dif_pos]
      exact (key i hil).choose_spec
    refine ⟨some a, (List.range len).map F, m, by simp, by simp; omega, fun i hi => ?_⟩
    have hil : i < len := by simpa using hi
    obtain ⟨c0, c1, c2, c3⟩ := hF i hil
    have hbl := World.block_lt_of_cell? W _ c0
    rw [add_blk] at hbl
    exact ⟨a, rfl, hbl, by simpa using c0, by simpa using c1, by simpa using c2, by simpa using c3⟩
set_option maxRecDepth 1000000 in
/-- What is known of a log that came in. -/
theorem seglog_arg {H : Type} {enc : TypeId × Value → H} {W : World} {r : Reach} {b0 : Nat} {v : Value} {d : DataW H} {p : List MemPlace} (hval : Value.okWide Tryd.prog W r b0 28 v) (h : DataW.Trod enc Tryd.prog W 0 (fun _ => true) true 28 v d p) :
    ∃ A L c f m, v = segV (.slice A (L : List Fil).length c) f m ∧ Fls W W.heap.size A L ∧ (Lit.int .i64 f).wf = true ∧ (Lit.int .i64 m).wf = true := by
  obtain ⟨cs, rfl, hsz⟩ := okWide_struct Tryd.underlying28 hval
  rw [cellsSg] at hsz
  obtain ⟨l⟩ := cs
  match l, hsz with
  | [c0, c1, c2], _ =>
    obtain ⟨fuel, hf⟩ := h
    obtain ⟨ys, n2, _, _, _, hyl, hfs⟩ := DataW.trod_struct Tryd.underlying28 hf
    match ys, hyl with
    | [z0, z1, z2], _ =>
      have g0 := hfs 0 _ rfl
      have g1 := hfs 1 _ rfl
      have g2 := hfs 2 _ rfl
      have g0' : DataW.trod enc Tryd.prog W 0 (fun _ => true) true n2 26 [c0] = some z0 := by simpa [Value.cells, cells1] using g0
      have g1' : DataW.trod enc Tryd.prog W 0 (fun _ => true) true n2 2 [c1] = some z1 := by simpa [Value.cells, cellsI64] using g1
      have g2' : DataW.trod enc Tryd.prog W 0 (fun _ => true) true n2 2 [c2] = some z2 := by simpa [Value.cells, cellsI64] using g2
      obtain ⟨A, L, c, rfl, hF⟩ := fs_cell g0'
      obtain ⟨k1, e1, _, q1⟩ := DataW.trod_int Tryd.underlying2 g1'
      obtain ⟨k2, e2, _, q2⟩ := DataW.trod_int Tryd.underlying2 g2'
      injection e1 with e1 _; injection e2 with e2 _
      subst e1 e2
      exact ⟨A, L, c, k1, k2, rfl, hF, q1, q2⟩
end Go.Proofs.YtebkblmejkkhfaaDoor

namespace Go.Proofs.YtebkblmejkkhfaaDoor
open Go.RowKit
set_option linter.unusedVariables false

theorem grown_refl (w : World) (r : Option Nat) : w.grownBy w r := ⟨rfl, rfl, rfl, Nat.le_refl _, fun _ _ _ => rfl⟩
theorem ownR_news {w : World} {base g n c : Nat} {e : TypeId} {xs : List Value} (h : w.ownsRow base e 1 (.slice (some ⟨g, 0, none⟩) n c) n xs) : ∀ j u, xs[j]? = some u → w.cell? ((⟨g, 0, none⟩ : Addr).add j) = some u := by
  intro j u hj
  have hl := h.1
  have hlt : j < xs.length := by
    rcases Nat.lt_or_ge j xs.length with h | h
    · exact h
    · rw [List.getElem?_eq_none h] at hj; cases hj
  rw [← hj, ← h.cellAt j (by omega)]
  unfold Addr.add
  split
  · rename_i h0; subst h0; rfl
  · simp
theorem wpList_append_S {ops : Array Oper} {rest : List Oper} {o : Oper} {a : Act} {w : World} {Q : Exit → Act → World → Prop} (hgd : o.guard = none) (s x : Operand)
    (ho : o.op = .call { callee := .builtin .append, args := #[s, x], argTypes := #[50, 50] })
    (base : Nat) (v : Value) (L : List ByteArray) (hs : a.eval s = v) (hown : OwnS w base v L)
    (base2 : Nat) (u : Value) (M : List ByteArray) (hx : a.eval x = u) (hM : OwnS w base2 u M)
    (hlen : L.length + M.length ≤ 1000000) (hbase : base ≤ w.heap.size)
    (h : ∀ v' w', OwnS w' base v' (L ++ M) → w.grownBy w' v.ownBlock → wpList Tryd.prog ops Q rest (a.put o.dst v') w') : wpList Tryd.prog ops Q (o :: rest) a w := by
  obtain ⟨i0, hi, hz0, hz1, hz2⟩ := info_parts infoStr
  have hM' := hM
  unfold OwnS at hM hown
  obtain ⟨hl, hh⟩ := hM
  rcases hh with ⟨rfl, h0⟩ | ⟨g, cap, cur, rfl, hg, hb, hn, hm, hss, ht⟩
  · have hm0 : M = [] := List.eq_nil_of_length_eq_zero (by omega)
    subst hm0
    refine wpList_append_own_none hgd s x 50 ho base 9 i0 1 Tryd.underlying50 hi v _ _ hs hown hx (h v w ?_ (grown_refl _ _))
    rw [List.append_nil]; exact hown
  · refine wpList_append_own w hgd s x 50 ho base 9 i0 (.string ⟨#[]⟩) 1 16 Tryd.underlying50 hi hz0 hz1 hz2 rfl (by decide) v _ _ hs hown ⟨g, 0, none⟩ M.length cap (M.map Value.string) hx (by simp) (ownR_news hM') (by intro u hu; obtain ⟨t, _, rfl⟩ := List.mem_map.1 hu; rfl) (by unfold maxLen; omega) (by omega) hbase ?_
    intro v' w' h1 h2 _
    refine h v' w' ?_ h2
    unfold OwnS
    rw [List.length_append, List.map_append]
    exact h1
end Go.Proofs.YtebkblmejkkhfaaDoor
