/- An argument that is a command; toCommand, szCommand. -/
import Derived.Test.YtpgodphnjeifhaaCmI
import Derived.Test.YtpgodphnjeifhaaBlk
import Derived.WideShapes
import Derived.ChangeSame
namespace Go.Proofs.Ytpgodphnjeifhaa
open Go.RowKit Go.ChangeShapes Go.WideShapes
set_option linter.unusedVariables false
set_option maxRecDepth 1000000
theorem cellsCmd : Try.prog.cellsOf 23 = 7 := by kernel_rfl
/-- The facts of a command that came in. -/
def Cmd.fits (c : Cmd) : Prop := (-9223372036854775808 ≤ c.client ∧ c.client ≤ 9223372036854775807) ∧ (-9223372036854775808 ≤ c.number ∧ c.number ≤ 9223372036854775807) ∧ (-9223372036854775808 ≤ c.kind ∧ c.kind ≤ 9223372036854775807) ∧ (-9223372036854775808 ≤ c.n ∧ c.n ≤ 9223372036854775807) ∧ c.small
theorem command_arg {H : Type} {enc : TypeId × Value → H} {W : World} {r : Reach} {b0 : Nat} {v : Value} {d : DataW H} {p : List MemPlace} (hval : Value.okWide Try.prog W r b0 23 v) (h : DataW.Trod enc Try.prog W 0 (fun _ => true) true 23 v d p) :
    ∃ c : Cmd, v = c.v ∧ c.fits := by
  obtain ⟨cs, rfl, hsz⟩ := okWide_struct Try.underlying23 hval
  rw [cellsCmd] at hsz
  obtain ⟨l⟩ := cs
  match l, hsz with
  | [c0, c1, c2, c3, c4, c5, c6], _ =>
    obtain ⟨fuel, hf⟩ := h
    obtain ⟨ys, n2, _, _, _, hyl, hfs⟩ := DataW.trod_struct Try.underlying23 hf
    match ys, hyl with
    | [z0, z1, z2, z3, z4, z5, z6], _ =>
      have g0 := hfs 0 _ rfl
      have g1 := hfs 1 _ rfl
      have g2 := hfs 2 _ rfl
      have g3 := hfs 3 _ rfl
      have g4 := hfs 4 _ rfl
      have g5 := hfs 5 _ rfl
      have g6 := hfs 6 _ rfl
      simp only [List.getElem?_cons_zero, List.getElem?_cons_succ] at g0 g1 g2 g3 g4 g5 g6
      obtain ⟨k0, e0, _, q0⟩ := DataW.trod_int Try.underlying2 g0
      obtain ⟨k1, e1, _, q1⟩ := DataW.trod_int Try.underlying2 g1
      obtain ⟨k2, e2, _, q2⟩ := DataW.trod_int Try.underlying2 g2
      obtain ⟨s3, e3, _, q3⟩ := DataW.trod_string Try.underlying9 g3
      obtain ⟨s4, e4, _, q4⟩ := DataW.trod_string Try.underlying9 g4
      obtain ⟨s5, e5, _, q5⟩ := DataW.trod_string Try.underlying9 g5
      obtain ⟨k6, e6, _, q6⟩ := DataW.trod_int Try.underlying2 g6
      injection e0 with e0 _; injection e1 with e1 _; injection e2 with e2 _; injection e3 with e3 _; injection e4 with e4 _; injection e5 with e5 _; injection e6 with e6 _
      subst e0 e1 e2 e3 e4 e5 e6
      exact ⟨⟨k0, k1, k2, s3, s4, s5, k6⟩, rfl, wf_i64 q0, wf_i64 q1, wf_i64 q2, wf_i64 q6, q3, q4, q5⟩
set_option maxHeartbeats 1000000 in
theorem toCommand_any (c : Cmd) (w : World) : Calls Try.prog 8 #[c.v] w fun e w' => e = .returned c.v ∧ Below w.heap.size w w' := by
  obtain ⟨a, b, k, t, g, x, n⟩ := c
  unfold Cmd.v
  go_enter Try.func8, Try.ntmps8
  go_wp2
  exact bodyPost_ret (v := cmdV a b k t g x n) (by simp [results, Try.results8, go_sem]) rfl ⟨rfl, ((below_box _ _).alloc (by simp) _).alloc (by simp; omega) _⟩
set_option maxHeartbeats 1000000 in
theorem szCommand_any (c : Cmd) (hs : c.small) (w : World) : Calls Try.prog 6 #[c.v, .int .i64 1048576] w fun e w' => ∃ z : Int, e = .returned (.int .i64 z) ∧ Below w.heap.size w w' := by
  obtain ⟨a, b, k, t, g, x, n⟩ := c
  obtain ⟨ht, hg, hx⟩ := hs
  unfold Cmd.v
  simp only [maxLen] at ht hg hx ⊢
  by_cases h1 : 1048576 < t.size
  · go_enter Try.func6, Try.ntmps6
    go_wp2
    go_ret
    exact ⟨_, rfl, below_box _ _⟩
  by_cases h2 : 1048576 < t.size + g.size
  · go_enter Try.func6, Try.ntmps6
    go_wp2
    go_ret
    exact ⟨_, rfl, below_box _ _⟩
  by_cases h3 : 1048576 < t.size + g.size + x.size
  · go_enter Try.func6, Try.ntmps6
    go_wp2
    go_ret
    exact ⟨_, rfl, below_box _ _⟩
  · go_enter Try.func6, Try.ntmps6
    go_wp2
    go_ret
    exact ⟨_, rfl, below_box _ _⟩

set_option maxHeartbeats 1000000 in
/-- The exact law of CommandRight: both answers are alike. -/
theorem lawCommandRight (c : Cmd) (w : World) (hc : c.fits) :
    Calls Try.prog 3 #[c.v] w fun e w' => e = .returned (.bool true) ∧ Below w.heap.size w w' := by
  have hs := hc.2.2.2.2
  have SZ := Lib.hid (szCommand_any c hs)
  have TO := Lib.hid (toCommand_any c)
  have RS := Lib.hid (specCommandRight_any c hs)
  have RI := Lib.hid (implCommandRight_any c hs)
  clear hs hc
  generalize cmdB c = r at RS RI
  obtain ⟨a, b, k, t, g, x, n⟩ := c
  unfold Cmd.v at SZ TO RS RI ⊢
  simp only at SZ TO RS RI ⊢
  have hB := Blk.fresh w 23 [.int .i64 a, .int .i64 b, .int .i64 k, .string t, .string g, .string x, .int .i64 n]
  have hw0 := below_box w (.cells #[.int .i64 a, .int .i64 b, .int .i64 k, .string t, .string g, .string x, .int .i64 n] 23)
  simp only [List.toArray] at hB
  go_enter Try.func3, Try.ntmps3
  go_wp2_with (fail)
  generalize w.alloc (.cells #[.int .i64 a, .int .i64 b, .int .i64 k, .string t, .string g, .string x, .int .i64 n] 23) = v0 at hB hw0 ⊢
  refine (SZ.out _).mono ?_
  rintro e w1 ⟨z, rfl, hb1⟩
  have hw1 := hw0.trans (hb1.mono hw0.size)
  have hB1 := hB.below hb1 hB.lt
  clear hb1 hB hw0
  by_cases hz : z < 0
  · go_wp2
    go_ret
    exact ⟨rfl, hw1⟩
  have hz' : ¬ z < 0 := hz
  have c0 := hB1.cell (i := 0) rfl
  have c1 := hB1.cell (i := 1) rfl
  have c2 := hB1.cell (i := 2) rfl
  have c3 := hB1.cell (i := 3) rfl
  have c4 := hB1.cell (i := 4) rfl
  have c5 := hB1.cell (i := 5) rfl
  have c6 := hB1.cell (i := 6) rfl
  go_wp2_with (fail)
  refine (TO.out _).mono ?_
  rintro e w2 ⟨rfl, hb2⟩
  clear c0 c1 c2 c3 c4 c5 c6
  have hw2 := hw1.trans (hb2.mono hw1.size)
  have hB2 := hB1.below hb2 hB1.lt
  clear hb2 hB1 hw1
  go_wp2_with (fail)
  refine (RS.out _).mono ?_
  rintro e w3 ⟨rfl, hb3⟩
  have hw3 := hw2.trans (hb3.mono hw2.size)
  have hB3 := hB2.below hb3 hB2.lt
  clear hb3 hB2 hw2
  have c0 := hB3.cell (i := 0) rfl
  have c1 := hB3.cell (i := 1) rfl
  have c2 := hB3.cell (i := 2) rfl
  have c3 := hB3.cell (i := 3) rfl
  have c4 := hB3.cell (i := 4) rfl
  have c5 := hB3.cell (i := 5) rfl
  have c6 := hB3.cell (i := 6) rfl
  go_wp2_with (fail)
  refine (TO.out _).mono ?_
  rintro e w4 ⟨rfl, hb4⟩
  clear c0 c1 c2 c3 c4 c5 c6
  have hw4 := hw3.trans (hb4.mono hw3.size)
  clear hb4 hB3 hw3
  go_wp2_with (fail)
  refine (RI.out _).mono ?_
  rintro e w5 ⟨rfl, hb5⟩
  have hw5 := hw4.trans (hb5.mono hw4.size)
  go_wp2
  go_ret
  exact ⟨rfl, hw5⟩
end Go.Proofs.Ytpgodphnjeifhaa
