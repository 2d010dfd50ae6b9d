/- The draws of topics. The walk of the law FnRetain. -/
import Derived.Test.YtodnmbppgjbpmaaDrTpLW
import Derived.Test.YtodnmbppgjbpmaaTpEndW
import Derived.Test.YtodnmbppgjbpmaaTpRetW
import Derived.BigQuiet
import Derived.Deep.DeepCutAuto
namespace Go.Proofs.Ytodnmbppgjbpmaa
open Go.RowKit
set_option linter.unusedVariables false
set_option linter.unusedSimpArgs false
set_option maxRecDepth 1000000

/-- In the midst of a draw, which began at w: the result's box, the source g, the topic's box q and its rows. -/
structure DQ (w : World) (g q : Nat) (t : Tpc) (A : Option Addr) (a : Nat) (C : Option Addr) (c : Nat) (W : World) : Prop where
  drw : Drw W w.heap.size g
  bel : Below w.heap.size w W
  res : Blk W w.heap.size 32 [.string ⟨#[]⟩, .int .i64 0, .slice none 0 0, .slice none 0 0]
  box : Blk W q 32 [.string t.name, .int .i64 t.base, .slice A t.held.length a, .slice C t.groups.length c]
  rh : Rx W w.heap.size 9 1 A t.held.length a (t.held.map Value.string)
  rg : Gx W w.heap.size C c t.groups
  lq : w.heap.size < q
  lg : w.heap.size < g
section
variable {w W W' : World} {g q : Nat} {t : Tpc} {A C : Option Addr} {a c : Nat}
theorem DQ.draw (h : DQ w g q t A a C c W) (hd : Drw W' w.heap.size g) (ho : W.grownBy W' (some g)) : DQ w g q t A a C c W' := by
  have h1 := h.lg
  have h2 := h.drw.blk_ne h.box (by decide)
  exact ⟨hd, h.bel.trans (only_below ho (by omega) h.bel.size), h.res.grown ho (fun e => by have := Option.some.inj e; omega), h.box.grown ho (fun e => h2 (Option.some.inj e)), h.rh.draw h.drw ho (by decide), h.rg.draw h.drw ho, h.lq, h1⟩
theorem DQ.below (h : DQ w g q t A a C c W) (hb : Below W.heap.size W W') : DQ w g q t A a C c W' :=
  ⟨h.drw.below hb, h.bel.trans (hb.mono h.bel.size), h.res.below hb h.res.lt, h.box.below hb h.box.lt, h.rh.below hb, h.rg.below hb, h.lq, h.lg⟩
theorem DQ.alloc (h : DQ w g q t A a C c W) (o : Obj) : DQ w g q t A a C c (W.alloc o) := h.below ((Below.refl _ _).alloc (Nat.le_refl _) o)
theorem DQ.drew (h : DQ w g q t A a C c W) : DQ w g q t A a C c W.drew := h.below (below_drew (Below.refl _ _))
theorem DQ.four (h : DQ w g q t A a C c W) : W.cell? ⟨q, 0, none⟩ = some (.string t.name) ∧ W.cell? ⟨q, 1, none⟩ = some (.int .i64 t.base) ∧ W.cell? ⟨q, 2, none⟩ = some (.slice A t.held.length a) ∧ W.cell? ⟨q, 3, none⟩ = some (.slice C t.groups.length c) :=
  ⟨h.box.cell (i := 0) rfl, h.box.cell (i := 1) rfl, h.box.cell (i := 2) rfl, h.box.cell (i := 3) rfl⟩
theorem DQ.resC (h : DQ w g q t A a C c W) : (W.cell? ⟨w.heap.size, 0, none⟩ = some (.string ⟨#[]⟩) ∧ W.cell? ⟨w.heap.size, 1, none⟩ = some (.int .i64 0) ∧ W.cell? ⟨w.heap.size, 2, none⟩ = some (.slice none 0 0) ∧ W.cell? ⟨w.heap.size, 3, none⟩ = some (.slice none 0 0)) ∧ W.frozen? ⟨w.heap.size, 0, none⟩ = false ∧ W.frozen? ⟨w.heap.size, 1, none⟩ = false ∧ W.frozen? ⟨w.heap.size, 2, none⟩ = false ∧ W.frozen? ⟨w.heap.size, 3, none⟩ = false :=
  ⟨⟨h.res.cell (i := 0) rfl, h.res.cell (i := 1) rfl, h.res.cell (i := 2) rfl, h.res.cell (i := 3) rfl⟩, h.res.froz 0, h.res.froz 1, h.res.froz 2, h.res.froz 3⟩
abbrev putT (W : World) (b : Nat) (t : Tpc) (A : Option Addr) (a : Nat) (C : Option Addr) (c : Nat) : World := (((W.setCell ⟨b, 0, none⟩ (.string t.name)).setCell ⟨b, 1, none⟩ (.int .i64 t.base)).setCell ⟨b, 2, none⟩ (.slice A t.held.length a)).setCell ⟨b, 3, none⟩ (.slice C t.groups.length c)
/-- The topic in the result's box. -/
theorem DQ.fin (h : DQ w g q t A a C c W) : Blk (putT W w.heap.size t A a C c) w.heap.size 32 [.string t.name, .int .i64 t.base, .slice A t.held.length a, .slice C t.groups.length c] ∧ Blk (putT W w.heap.size t A a C c) q 32 [.string t.name, .int .i64 t.base, .slice A t.held.length a, .slice C t.groups.length c] ∧
    Rx (putT W w.heap.size t A a C c) w.heap.size 9 1 A t.held.length a (t.held.map Value.string) ∧ Gx (putT W w.heap.size t A a C c) w.heap.size C c t.groups ∧ Below w.heap.size w (putT W w.heap.size t A a C c) := by
  have h1 := h.lq
  have go : ∀ {W : World} {cs : List Value} (i : Nat) (v : Value), Blk W w.heap.size 32 cs ∧ Blk W q 32 [.string t.name, .int .i64 t.base, .slice A t.held.length a, .slice C t.groups.length c] ∧ Rx W w.heap.size 9 1 A t.held.length a (t.held.map Value.string) ∧ Gx W w.heap.size C c t.groups ∧ Below w.heap.size w W →
      Blk (W.setCell ⟨w.heap.size, i, none⟩ v) w.heap.size 32 (cs.set i v) ∧ Blk (W.setCell ⟨w.heap.size, i, none⟩ v) q 32 [.string t.name, .int .i64 t.base, .slice A t.held.length a, .slice C t.groups.length c] ∧ Rx (W.setCell ⟨w.heap.size, i, none⟩ v) w.heap.size 9 1 A t.held.length a (t.held.map Value.string) ∧ Gx (W.setCell ⟨w.heap.size, i, none⟩ v) w.heap.size C c t.groups ∧ Below w.heap.size w (W.setCell ⟨w.heap.size, i, none⟩ v) :=
    fun i v ⟨k1, k5, k2, k3, k4⟩ => ⟨k1.put i v, k5.far (by simp; omega) v, k2.off k1 (by decide) i v, k3.off k1 (by decide) i v, k4.setCell (p := ⟨w.heap.size, i, none⟩) (Nat.le_refl _) v⟩
  have r := go 3 (.slice C t.groups.length c) (go 2 (.slice A t.held.length a) (go 1 (.int .i64 t.base) (go 0 (.string t.name) ⟨h.res, h.box, h.rh, h.rg, h.bel⟩)))
  simp only [List.set_cons_succ, List.set_cons_zero] at r
  exact r
theorem putT_far {a' : Addr} {v : Value} {b : Nat} (h : W.cell? a' = some v) (hne : a'.block ≠ b) : (putT W b t A a C c).cell? a' = some v :=
  cell_put_far (cell_put_far (cell_put_far (cell_put_far h hne _) hne _) hne _) hne _
theorem DQ.fourP (h : DQ w g q t A a C c W) : (putT W w.heap.size t A a C c).cell? ⟨q, 0, none⟩ = some (.string t.name) ∧ (putT W w.heap.size t A a C c).cell? ⟨q, 1, none⟩ = some (.int .i64 t.base) ∧ (putT W w.heap.size t A a C c).cell? ⟨q, 2, none⟩ = some (.slice A t.held.length a) ∧ (putT W w.heap.size t A a C c).cell? ⟨q, 3, none⟩ = some (.slice C t.groups.length c) := by
  have h1 := h.lq
  obtain ⟨k0, k1, k2, k3⟩ := h.four
  exact ⟨putT_far k0 (by simp; omega), putT_far k1 (by simp; omega), putT_far k2 (by simp; omega), putT_far k3 (by simp; omega)⟩
end
theorem dq_new {w W : World} {g : Nat} {t : Tpc} {A C : Option Addr} {a c : Nat} (hd : Drw W w.heap.size g) (hb : Below w.heap.size w W) (hr : Blk W w.heap.size 32 [.string ⟨#[]⟩, .int .i64 0, .slice none 0 0, .slice none 0 0]) (hh : Rx W w.heap.size 9 1 A t.held.length a (t.held.map Value.string)) (hg : Gx W w.heap.size C c t.groups) (lg : w.heap.size < g) :
    DQ w g W.heap.size t A a C c (W.alloc (.cells #[.string t.name, .int .i64 t.base, .slice A t.held.length a, .slice C t.groups.length c] 32)) :=
  have hz := hr.lt
  have ha := (Below.refl W.heap.size W).alloc (Nat.le_refl _) (.cells #[.string t.name, .int .i64 t.base, .slice A t.held.length a, .slice C t.groups.length c] 32)
  ⟨hd.alloc _, hb.alloc hb.size _, hr.alloc _, Blk.fresh W 32 [.string t.name, .int .i64 t.base, .slice A t.held.length a, .slice C t.groups.length c], hh.below ha, hg.below ha, hz, lg⟩
/-- What a draw of a topic gives. -/
def GotT (w w' : World) (t : Tpc) (A : Option Addr) (a : Nat) (C : Option Addr) (c : Nat) : Prop := t.easy ∧ Rx w' w.heap.size 9 1 A t.held.length a (t.held.map Value.string) ∧ Gx w' w.heap.size C c t.groups ∧ Below w.heap.size w w'

set_option maxHeartbeats 16000000 in
theorem drawTopicRetain_any (A : Option Addr) (n c : Nat) (w : World) (h : Bts w w.heap.size A n) :
    Calls Try.prog 38 #[.slice A n c] w fun e w' => ∃ (t : Tpc) (A0 : Option Addr) (a0 : Nat) (C0 : Option Addr) (c0 : Nat) (k : Int), e = .returned (.tuple #[topV t.name t.base (.slice A0 t.held.length a0) (.slice C0 t.groups.length c0), .int .i64 k]) ∧ GotT w w' t A0 a0 C0 c0 ∧ -1 ≤ k ∧ k ≤ 22 := by
  have hb0 : Below w.heap.size w (w.alloc (.cells #[.string ⟨#[]⟩, .int .i64 0, .slice none 0 0, .slice none 0 0] 32)) := (Below.refl _ _).alloc (Nat.le_refl _) _
  have hR0 := Blk.fresh w 32 [.string ⟨#[]⟩, .int .i64 0, .slice none 0 0, .slice none 0 0]
  simp only [List.toArray] at hR0
  have hB0 : Bts (w.alloc (.cells #[.string ⟨#[]⟩, .int .i64 0, .slice none 0 0, .slice none 0 0] 32)) w.heap.size A n := h.of_block fun k hk => hb0.block k hk
  have hz0 := hb0.size
  go_enter Try.func38, Try.ntmps38
  go_wp2_with (fail)
  refine (source_any A n c w.heap.size _ hB0 hz0).mono ?_
  rintro e w1 ⟨g, rfl, hg, hd1, hb1⟩
  have lg : w.heap.size < g := by rw [World.size_alloc] at hg; omega
  replace hR0 := hR0.below hb1 hR0.lt
  replace hb0 := hb0.trans (hb1.mono hz0)
  clear hB0 hz0 hg hb1
  go_wp2_with (fail)
  refine (l07Loop w.heap.size g w1 hd1).mono ?_
  rintro e w2 ⟨t, A0, a0, C0, c0, rfl, hf, hsm, hrh, hrg, hd2, ho2⟩
  have hez : t.easy := ⟨hf, hsm⟩
  replace hrh := hrh.low hb0.size
  replace hrg := hrg.low hb0.size
  replace hR0 := hR0.grown ho2 (fun e => by have := Option.some.inj e; omega)
  replace hb0 := hb0.trans (only_below ho2 (by omega) hb0.size)
  clear hd1 ho2 hf hsm
  have hs := dq_new hd2 hb0 hR0 hrh hrg lg
  clear hd2 hb0 hR0 hrh hrg
  go_wp2_with (fail)
  generalize w2.alloc (.cells #[.string t.name, .int .i64 t.base, .slice A0 t.held.length a0, .slice C0 t.groups.length c0] 32) = W2 at hs ⊢
  generalize w2.heap.size = q at hs ⊢
  have hs0 := hs.drew
  have x0 := hs0.four
  go_region_held3 (fun W => W.cell? ⟨q, 0, none⟩ = some (.string t.name) ∧ W.cell? ⟨q, 1, none⟩ = some (.int .i64 t.base) ∧ W.cell? ⟨q, 2, none⟩ = some (.slice A0 t.held.length a0) ∧ W.cell? ⟨q, 3, none⟩ = some (.slice C0 t.groups.length c0))
    (first
      | with_reducible exact x0
      | with_reducible exact xa
      | with_reducible exact xp)
    (first
      | (go_at_call 46; have hdr := hs0.drw; (with_reducible refine (n_any w.heap.size g 24 _ hdr (by omega) (by omega)).mono ?_); clear hdr; rintro e wa ⟨y, rfl, y0, y1, _, hda, hoa⟩; have y2 := y1 (by omega); clear y1; have hsa := hs0.draw hda hoa; have xa := hsa.four; have xp := hsa.fourP; obtain ⟨⟨r0, r1, r2, r3⟩, s0, s1, s2, s3⟩ := hsa.resC))
  go_wp2
  clear x0 xa xp r0 r1 r2 r3 s0 s1 s2 s3
  have hw1 : IntKind.i64.wrap (y - 1) = y - 1 := by rw [IntWalk.i64_in _ (by omega)]
  have hfin := hsa.fin
  unfold putT at hfin
  obtain ⟨hB9, _, hrh, hrg, hb9⟩ := hfin
  generalize (((wa.setCell ⟨w.heap.size, 0, none⟩ (.string t.name)).setCell ⟨w.heap.size, 1, none⟩ (.int .i64 t.base)).setCell ⟨w.heap.size, 2, none⟩ (.slice A0 t.held.length a0)).setCell ⟨w.heap.size, 3, none⟩ (.slice C0 t.groups.length c0) = W9 at hB9 hrh hrg hb9 ⊢
  have k0 := hB9.cell (i := 0) rfl
  have k1 := hB9.cell (i := 1) rfl
  have k2 := hB9.cell (i := 2) rfl
  have k3 := hB9.cell (i := 3) rfl
  exact bodyPost_ret (v := .tuple #[.agg #[.string t.name, .int .i64 t.base, .slice A0 t.held.length a0, .slice C0 t.groups.length c0], .int .i64 (y - 1)]) (by simp only [results, Try.results38]; simp [go_sem, k0, k1, k2, k3, hw1]) rfl ⟨t, A0, a0, C0, c0, y - 1, rfl, ⟨hez, hrh, hrg, hb9⟩, by omega, by omega⟩
end Go.Proofs.Ytodnmbppgjbpmaa

namespace Go.Proofs.Ytodnmbppgjbpmaa
open Go.RowKit
set_option linter.unusedVariables false
set_option linter.unusedSimpArgs false
set_option maxRecDepth 1000000

theorem ill_fits (c : Int) : (ill c).o.fits := ⟨by show (0 : Nat) ≤ maxLen; unfold maxLen; omega, ⟨by show (-9223372036854775808 : Int) ≤ 0; omega, by show (0 : Int) ≤ 9223372036854775807; omega⟩, (fun s h => by cases h), fun g h => by cases h⟩
/-- The cells of a topic's box and of an answer's box. -/
abbrev TX (p q : Nat) (t : Tpc) (A : Option Addr) (a : Nat) (C : Option Addr) (c : Nat) (R : Ans) (A5 : Option Addr) (a5 : Nat) (C5 : Option Addr) (c5 : Nat) (T5 : Option Addr) (x5 : Nat) (W : World) : Prop :=
  (W.cell? ⟨p, 0, none⟩ = some (.string t.name) ∧ W.cell? ⟨p, 1, none⟩ = some (.int .i64 t.base) ∧ W.cell? ⟨p, 2, none⟩ = some (.slice A t.held.length a) ∧ W.cell? ⟨p, 3, none⟩ = some (.slice C t.groups.length c)) ∧
  W.cell? ⟨q, 0, none⟩ = some (.string R.o.name) ∧ W.cell? ⟨q, 1, none⟩ = some (.int .i64 R.o.base) ∧ W.cell? ⟨q, 2, none⟩ = some (.slice A5 R.o.held.length a5) ∧ W.cell? ⟨q, 3, none⟩ = some (.slice C5 R.o.groups.length c5) ∧ W.cell? ⟨q, 4, none⟩ = some (.slice T5 R.texts.length x5) ∧ W.cell? ⟨q, 5, none⟩ = some (.int .i64 R.n) ∧ W.cell? ⟨q, 6, none⟩ = some (.int .i64 R.code)
theorem tx_of {p q : Nat} {t : Tpc} {A C A5 C5 T5 : Option Addr} {a c a5 c5 x5 : Nat} {R : Ans} {W : World} (h : Blk W p 32 [.string t.name, .int .i64 t.base, .slice A t.held.length a, .slice C t.groups.length c]) (g : Blk W q 36 [.string R.o.name, .int .i64 R.o.base, .slice A5 R.o.held.length a5, .slice C5 R.o.groups.length c5, .slice T5 R.texts.length x5, .int .i64 R.n, .int .i64 R.code]) : TX p q t A a C c R A5 a5 C5 c5 T5 x5 W :=
  ⟨⟨h.cell (i := 0) rfl, h.cell (i := 1) rfl, h.cell (i := 2) rfl, h.cell (i := 3) rfl⟩, g.cell (i := 0) rfl, g.cell (i := 1) rfl, g.cell (i := 2) rfl, g.cell (i := 3) rfl, g.cell (i := 4) rfl, g.cell (i := 5) rfl, g.cell (i := 6) rfl⟩

set_option maxHeartbeats 32000000 in
theorem lawRetainIn (A1 : Option Addr) (n1 c1 : Nat) (w : World) (h1 : Bts w w.heap.size A1 n1) :
    Calls Try.prog 8 #[.slice A1 n1 c1] w fun e w' => e = .returned (.bool true) ∧ Below w.heap.size w w' := by
  have l1 := h1.1
  have b1 : decide (1048576 < (n1 : Int)) = false := by simp; omega
  go_enter Try.func8, Try.ntmps8
  go_wp2_with (fail)
  refine (drawTopicRetain_any A1 n1 c1 _ h1).mono ?_
  rintro e v1 ⟨t, A, a, C, c, keep, rfl, ⟨hez, hrh, hrg, w1⟩, k0, k1⟩
  have HE1 := hrh.strs
  have HG1 := hrg.grs
  have cA := hrh.cap
  have cC := hrg.cap
  clear hrh hrg
  have P2 := Blk.fresh v1 32 [.string t.name, .int .i64 t.base, .slice A t.held.length a, .slice C t.groups.length c]
  have hb2 : Below v1.heap.size v1 (v1.alloc (.cells #[.string t.name, .int .i64 t.base, .slice A t.held.length a, .slice C t.groups.length c] 32)) := (Below.refl _ _).alloc (Nat.le_refl _) _
  simp only [List.toArray] at P2
  have q0 := P2.cell (i := 0) rfl
  have q1 := P2.cell (i := 1) rfl
  have q2 := P2.cell (i := 2) rfl
  have q3 := P2.cell (i := 3) rfl
  go_wp2_with (fail)
  clear q0 q1 q2 q3
  generalize v1.alloc (.cells #[.string t.name, .int .i64 t.base, .slice A t.held.length a, .slice C t.groups.length c] 32) = v2 at P2 hb2 ⊢
  have w2 := w1.trans (hb2.mono w1.size)
  have HE2 := HE1.on hb2
  have HG2 := HG1.on hb2
  generalize v1.heap.size = p at P2 hb2 ⊢
  clear HE1 HG1 hb2 w1
  have hkw : (Lit.int .i64 keep).wf = true := by simp [Lit.wf, IntKind.min, IntKind.max, IntKind.bits, IntKind.signed]; omega
  have SR := Lib.hid (fun W (h : Below v2.heap.size v2 W) => specTopicRetain_any t keep A a C c W hez.1 hkw (HE2.on h) (HG2.on h) cA cC)
  have IR := Lib.hid (implTopicRetain_any t keep A a C c v2 hez.1 hez.2 hkw HE2 HG2)
  have hok := fun h0 => (ret_ok (t := t) (keep := keep) h0)
  obtain ⟨z1, z2, z3, z4⟩ := ret_small t keep
  have hof : (retT t keep).o.fits := by
    by_cases h0 : (retT t keep).code = 0
    · exact (hok h0).2.2.2.facts.1
    · unfold retT at h0 ⊢
      split
      · exact ill_fits 1
      · rename_i hb; rw [if_neg hb] at h0; exact absurd rfl h0
  have HOK := Lib.hid hok
  clear hok
  obtain ⟨R, HR⟩ : ∃ R, Hid (retT t keep = R) := ⟨_, Lib.hid rfl⟩
  rw [HR.out] at SR IR z1 z2 z3 z4 hof
  simp only [HR.out] at HOK
  refine IR.out.mono ?_
  rintro e v3 ⟨A5, a5, C5, c5, T5, x5, rfl, sA, sB, sT, _, cA5, cC5, hb3⟩
  have HA5 := sA.strs z1
  have HC5 := sB.grs z2
  have HT5 := sT.strs z3
  have w3 := w2.trans (hb3.mono w2.size)
  have P3 := P2.below hb3 P2.lt
  clear IR sA sB sT z1 z2 z3 z4
  have X4 := Blk.fresh v3 36 [.string R.o.name, .int .i64 R.o.base, .slice A5 R.o.held.length a5, .slice C5 R.o.groups.length c5, .slice T5 R.texts.length x5, .int .i64 R.n, .int .i64 R.code]
  have hb4 : Below v3.heap.size v3 (v3.alloc (.cells #[.string R.o.name, .int .i64 R.o.base, .slice A5 R.o.held.length a5, .slice C5 R.o.groups.length c5, .slice T5 R.texts.length x5, .int .i64 R.n, .int .i64 R.code] 36)) := (Below.refl _ _).alloc (Nat.le_refl _) _
  simp only [List.toArray] at X4
  go_upto_region 5 with (fail)
  generalize v3.alloc (.cells #[.string R.o.name, .int .i64 R.o.base, .slice A5 R.o.held.length a5, .slice C5 R.o.groups.length c5, .slice T5 R.texts.length x5, .int .i64 R.n, .int .i64 R.code] 36) = v4 at X4 hb4 ⊢
  generalize v3.heap.size = q at X4 ⊢
  have w4 := w3.trans (hb4.mono w3.size)
  have P4 := P3.below hb4 P3.lt
  have B34 := hb3.trans (hb4.mono hb3.size)
  have HE4 := HE2.on B34
  have HG4 := HG2.on B34
  have A4 := HA5.on hb4
  have G4 := HC5.on hb4
  have T4 := HT5.on hb4
  have S4 := Lib.hid (fun W (h : Below v4.heap.size v4 W) => tx_of (P4.below h P4.lt) (X4.below h X4.lt))
  have SR4 := Lib.hid (fun W (h : Below v4.heap.size v4 W) => SR.out W (B34.trans (h.mono B34.size)))
  have LT4 := Lib.hid (fun W (h : Below v4.heap.size v4 W) A9 a9 B9 b9 T9 x9 (sA : Strs W W.heap.size A9 R.o.held) (sB : Grs W W.heap.size B9 R.o.groups) (sT : Strs W W.heap.size T9 R.texts) => lwTopics_same R A5 C5 A9 B9 T5 T9 a5 c5 a9 b9 x5 x9 W (A4.on h) (G4.on h) sA sB (T4.on h) sT (fun h0 => (HOK.out h0).2.2.2) hof)
  clear SR HA5 HC5 HT5 HE2 HG2 hb4 hb3 P3 w3 w2 hof P2
  have hX : Below v4.heap.size v4 v4.drew := below_drew (Below.refl _ _)
  have s0 := S4.out _ hX
  by_cases hcd : R.code = 0
  rotate_left
  · have dcd : (R.code != 0) = true := by simp [hcd]
    clear HOK hcd
    go_region_held3 (fun W => (W.cell? ⟨p, 0, none⟩ = some (.string t.name) ∧ W.cell? ⟨p, 1, none⟩ = some (.int .i64 t.base) ∧ W.cell? ⟨p, 2, none⟩ = some (.slice A t.held.length a) ∧ W.cell? ⟨p, 3, none⟩ = some (.slice C t.groups.length c)) ∧ W.cell? ⟨q, 0, none⟩ = some (.string R.o.name) ∧ W.cell? ⟨q, 1, none⟩ = some (.int .i64 R.o.base) ∧ W.cell? ⟨q, 2, none⟩ = some (.slice A5 R.o.held.length a5) ∧ W.cell? ⟨q, 3, none⟩ = some (.slice C5 R.o.groups.length c5) ∧ W.cell? ⟨q, 4, none⟩ = some (.slice T5 R.texts.length x5) ∧ W.cell? ⟨q, 5, none⟩ = some (.int .i64 R.n) ∧ W.cell? ⟨q, 6, none⟩ = some (.int .i64 R.code))
      (first
        | with_reducible exact s0
        | with_reducible exact sa
        | with_reducible exact sb)
      (first
        | (go_at_call 40; (with_reducible refine (SR4.out _ hX).mono ?_); rintro e wa ⟨A9, a9, B9, b9, T9, x9, rfl, sA, sB, sT, _, _, hba⟩; have ha := hX.trans (hba.mono hX.size); have sa := S4.out _ ha)
        | (go_at_call 18; (with_reducible refine (LT4.out wa ha A9 a9 B9 b9 T9 x9 sA sB sT).mono ?_); rintro e wb ⟨rfl, hbb⟩; have hb := ha.trans (hbb.mono ha.size); have sb := S4.out _ hb))
    clear sa sA sB sT hba ha hbb s0 sb
    have hX2 := below_drew hb
    have s2 := S4.out _ hX2
    go_upto_region 6 with (fail)
    go_region_held3 (fun W => (W.cell? ⟨p, 0, none⟩ = some (.string t.name) ∧ W.cell? ⟨p, 1, none⟩ = some (.int .i64 t.base) ∧ W.cell? ⟨p, 2, none⟩ = some (.slice A t.held.length a) ∧ W.cell? ⟨p, 3, none⟩ = some (.slice C t.groups.length c)) ∧ W.cell? ⟨q, 0, none⟩ = some (.string R.o.name) ∧ W.cell? ⟨q, 1, none⟩ = some (.int .i64 R.o.base) ∧ W.cell? ⟨q, 2, none⟩ = some (.slice A5 R.o.held.length a5) ∧ W.cell? ⟨q, 3, none⟩ = some (.slice C5 R.o.groups.length c5) ∧ W.cell? ⟨q, 4, none⟩ = some (.slice T5 R.texts.length x5) ∧ W.cell? ⟨q, 5, none⟩ = some (.int .i64 R.n) ∧ W.cell? ⟨q, 6, none⟩ = some (.int .i64 R.code))
      (first
        | with_reducible exact s2
        | with_reducible exact sa2
        | with_reducible exact sb2)
      (first
        | (go_at_call 40; (with_reducible refine (SR4.out _ hX2).mono ?_); rintro e wa ⟨A9, a9, B9, b9, T9, x9, rfl, sA, sB, sT, _, _, hba⟩; have ha2 := hX2.trans (hba.mono hX2.size); have sa2 := S4.out _ ha2)
        | (go_at_call 18; (with_reducible refine (LT4.out wa ha2 A9 a9 B9 b9 T9 x9 sA sB sT).mono ?_); rintro e wb2 ⟨rfl, hbb⟩; have hb2 := ha2.trans (hbb.mono ha2.size); have sb2 := S4.out _ hb2))
    go_wp2
    go_ret
    exact ⟨rfl, w4.trans (hb2.mono w4.size)⟩
  · have dcd : (R.code != 0) = false := by simp [hcd]
    have HO := Lib.hid (HOK.out hcd)
    clear HOK hcd
    go_region_held3 (fun W => (W.cell? ⟨p, 0, none⟩ = some (.string t.name) ∧ W.cell? ⟨p, 1, none⟩ = some (.int .i64 t.base) ∧ W.cell? ⟨p, 2, none⟩ = some (.slice A t.held.length a) ∧ W.cell? ⟨p, 3, none⟩ = some (.slice C t.groups.length c)) ∧ W.cell? ⟨q, 0, none⟩ = some (.string R.o.name) ∧ W.cell? ⟨q, 1, none⟩ = some (.int .i64 R.o.base) ∧ W.cell? ⟨q, 2, none⟩ = some (.slice A5 R.o.held.length a5) ∧ W.cell? ⟨q, 3, none⟩ = some (.slice C5 R.o.groups.length c5) ∧ W.cell? ⟨q, 4, none⟩ = some (.slice T5 R.texts.length x5) ∧ W.cell? ⟨q, 5, none⟩ = some (.int .i64 R.n) ∧ W.cell? ⟨q, 6, none⟩ = some (.int .i64 R.code))
      (first
        | with_reducible exact s0
        | with_reducible exact sa
        | with_reducible exact sb)
      (first
        | (go_at_call 40; (with_reducible refine (SR4.out _ hX).mono ?_); rintro e wa ⟨A9, a9, B9, b9, T9, x9, rfl, sA, sB, sT, _, _, hba⟩; have ha := hX.trans (hba.mono hX.size); have sa := S4.out _ ha)
        | (go_at_call 18; (with_reducible refine (LT4.out wa ha A9 a9 B9 b9 T9 x9 sA sB sT).mono ?_); rintro e wb ⟨rfl, hbb⟩; have hb := ha.trans (hbb.mono ha.size); have sb := S4.out _ hb))
    clear sa sA sB sT hba ha hbb s0 hX SR4 LT4 HR
    have wb0 := w4.trans (hb.mono w4.size)
    have P5 := P4.below hb P4.lt
    have X5 := X4.below hb X4.lt
    have E5 := HE4.on hb
    have G5 := HG4.on hb
    have AX := A4.on hb
    have GX := G4.on hb
    clear HE4 HG4 A4 G4 T4 S4 P4 X4 B34 w4 hb sb
    obtain ⟨ho, ⟨kk0, kk1⟩, hRe, hRo⟩ := HO.out
    have hgm := gone_le t keep
    have hgk : Hid (goneN t keep = t.held.length - keep.toNat) := Lib.hid rfl
    obtain ⟨m, Hm⟩ : ∃ m, Hid (goneN t keep = m) := ⟨_, Lib.hid rfl⟩
    rw [Hm.out] at hRe hgm hgk
    subst hRe
    simp only at hRo X5 AX GX cA5 cC5 dcd ⊢
    obtain ⟨e1, e2, e3, e4, e5, e6, e7, e8⟩ := topEl_iff.1 ho
    obtain ⟨b2, Hb2⟩ : ∃ b2, Hid (t.base + (m : Int) = b2) := ⟨_, Lib.hid rfl⟩
    rw [Hb2.out] at hRo X5 GX cC5 ⊢
    obtain ⟨hl, Hhl⟩ : ∃ hl, Hid ((t.held.drop m).length = hl) := ⟨_, Lib.hid rfl⟩
    have hhl : hl + m = t.held.length := by rw [← Hhl.out, List.length_drop]; omega
    rw [Hhl.out] at X5 cA5 ⊢
    have hgl : (t.groups.map (upG b2)).length = t.groups.length := by simp
    rw [hgl] at X5 cC5 ⊢
    have hbb : t.base ≤ b2 ∧ b2 ≤ 1000000000 ∧ b2 - t.base = (m : Int) := by have := Hb2.out; omega
    obtain ⟨_, hcap, hcm⟩ := cA
    unfold maxLen at hcm
    have hm1 : (m : Int) ≤ (t.held.length : Int) := by omega
    have LTX := Lib.hid (fun W (h : Below wb.heap.size wb W) => lwTexts_n A5 (if a = m then A else Option.map (fun x => x.add m) A) (t.held.drop m) hl a5 (a - m) W Hhl.out (AX.on h) (strs_drop (E5.on h) (by omega) (by omega)))
    have hle : hl = t.held.length - m := by omega
    have hof : Tpc.fits ⟨t.name, b2, t.held.drop m, t.groups.map (upG b2)⟩ := hRo.facts.1
    have EX := Lib.hid (fun W (h : Below wb.heap.size wb W) => specTopicEnd_any ⟨t.name, b2, t.held.drop m, t.groups.map (upG b2)⟩ A5 a5 C5 c5 W hof (AX.on h) (GX.on h))
    have ET := Lib.hid (fun W (h : Below wb.heap.size wb W) => specTopicEnd_any t A a C c W hez.1 (E5.on h) (G5.on h))
    have hE1 : endT ⟨t.name, b2, t.held.drop m, t.groups.map (upG b2)⟩ = t.base + t.held.length := by
      unfold endT; rw [topB_true hRo, if_pos rfl]; show b2 + ((t.held.drop m).length : Int) = _; rw [Hhl.out]; omega
    have hE2 : endT t = t.base + t.held.length := by unfold endT; rw [topB_true ho, if_pos rfl]
    obtain ⟨ee, Hee⟩ : ∃ ee, Hid (t.base + (t.held.length : Int) = ee) := ⟨_, Lib.hid rfl⟩
    rw [hE1, Hee.out] at EX
    rw [hE2, Hee.out] at ET
    simp only [Hhl.out, hgl] at EX
    have kb0 : decide (keep < (hl : Int)) = false := by simp; have := hgk.out; omega
    have kb1 : Hid (0 < m → ((hl : Int) != keep) = false) := Lib.hid (by intro h; simp; have := hgk.out; omega)
    have kee : (ee != ee) = false := by simp
    have kmm : ((m : Int) != (m : Int)) = false := by simp
    have p1 := P5.cell (i := 1) rfl
    have z1 := X5.cell (i := 1) rfl
    have hsub : b2 - t.base = (m : Int) := hbb.2.2
    have hb20 := hbb.1
    have hb21 := hbb.2.1
    have HG1 := Lib.hid (fun W (h : Below wb.heap.size wb W) => (GX.on h))
    have HG2 := Lib.hid (fun W (h : Below wb.heap.size wb W) => (G5.on h))
    have hg4 : t.groups.length ≤ 4 := e5
    clear hE1 hE2 hgk hbb hRo ho e1 e3 e4 e5 e7 hof AX E5 GX G5 HO hcm hhl hez
    go_upto_region 8 with (fail)
    rw [show t.base + (m : Int) - t.base = (m : Int) by omega]
    have kmz : decide (0 < m) = true ∧ ((hl : Int) != keep) = false ∨ decide (0 < m) = false := by
      by_cases hm0 : 0 < m
      · exact .inl ⟨by simp; omega, kb1.out hm0⟩
      · exact .inr (by simp; omega)
    go_cut [83] (fun s wx => s = .bool false ∧ Below wb.heap.size wb wx)
    case first =>
      obtain ⟨I, fw, hI, g0', gk, gc, ge⟩ := class_grown wb
      have x0 := fun s => kept_cell (gk s) (P5.cell (i := 0) rfl)
      have x1 := fun s => kept_cell (gk s) (P5.cell (i := 1) rfl)
      have x2 := fun s => kept_cell (gk s) (P5.cell (i := 2) rfl)
      have x3 := fun s => kept_cell (gk s) (P5.cell (i := 3) rfl)
      have y0 := fun s => kept_cell (gk s) (X5.cell (i := 0) rfl)
      have y1 := fun s => kept_cell (gk s) (X5.cell (i := 1) rfl)
      have y2 := fun s => kept_cell (gk s) (X5.cell (i := 2) rfl)
      have y3 := fun s => kept_cell (gk s) (X5.cell (i := 3) rfl)
      have y5 := fun s => kept_cell (gk s) (X5.cell (i := 5) rfl)
      have hm2 : t.held.length - m = hl := by omega
      clear hle
      refine wp_region_kept fw (by kernel_rfl) (by kernel_rfl) g0' ?_
      rcases kmz with ⟨km1, km2⟩ | km1
      all_goals
        repeat (first
          | go_big_quiet_skip
          | (go_big_quiet_want; go_big_quiet_op; first
            | go_big_quiet_on
            | (apply Exists.intro; refine ⟨fun s => ?_, ?_⟩; (go_at_call 21; (with_reducible refine (EX.out _ (gk s)).mono ?_); rintro e w4 ⟨rfl, hb4⟩; exact ⟨rfl, gc _ _ hb4⟩); go_big_quiet_on)
            | (apply Exists.intro; refine ⟨fun s => ?_, ?_⟩; (go_at_call 21; (with_reducible refine (ET.out _ (gk s)).mono ?_); rintro e w4 ⟨rfl, hb4⟩; exact ⟨rfl, gc _ _ hb4⟩); go_big_quiet_on)
            | (apply Exists.intro; refine ⟨fun s => ?_, ?_⟩; (go_at_call 24; (with_reducible refine (LTX.out _ (gk s)).mono ?_); rintro e w4 ⟨rfl, n4, rfl⟩; exact ⟨rfl, gc _ _ (below_drewN (Below.refl _ _) n4)⟩); go_big_quiet_on)))
        refine wpQuiet_nil ?_
        intro w5 h5
        have hb5 := ge _ h5
        clear x0 x1 x2 x3 y0 y1 y2 y3 y5 gk gc ge g0' h5 LTX
        generalize (if a = m then A else Option.map (fun x => x.add m) A) = A3
        go_wp2_with (fail)
        go_meet
        case rel => exact ⟨rfl, hb5⟩
    case rest =>
      obtain ⟨rfl, hb5⟩ := hcut
      clear LTX
      go_wp2_with (fail)
      go_loopw [7] (fun i wr => ∃ k : Nat, k ≤ t.groups.length ∧ i = .int .i64 k ∧ Below wb.heap.size wb wr) (fun i _ => t.groups.length - (intOf i).toNat)
      case atStart => exact ⟨0, by omega, rfl, hb5⟩
      case round =>
        clear hb5
        obtain ⟨k, hk, rfl, hb6⟩ := hrel
        have P7 := P5.below hb6 P5.lt
        have X7 := X5.below hb6 X5.lt
        have p3 := P7.cell (i := 3) rfl
        have z2 := X7.cell (i := 1) rfl
        have z3 := X7.cell (i := 3) rfl
        by_cases hlt : k < t.groups.length
        · have hlt' : (k : Int) < (t.groups.length : Int) := by omega
          obtain ⟨a', e', _, c0', c1'⟩ := (HG1.out _ hb6).at k (by rw [hgl]; exact hlt)
          obtain ⟨d', e'', _, d0, d1⟩ := (HG2.out _ hb6).at k hlt
          subst e'
          subst e''
          have hup : ((t.groups.map (upG b2))[k]'(by rw [hgl]; exact hlt)).acked = max b2 t.groups[k].acked := by simp [upG]
          rw [hup] at c1'
          obtain ⟨z, Hz⟩ : ∃ z, Hid (t.groups[k].acked = z) := ⟨_, Lib.hid rfl⟩
          rw [Hz.out] at c1' d1
          obtain ⟨y, Hy⟩ : ∃ y, Hid (max b2 z = y) := ⟨_, Lib.hid rfl⟩
          rw [Hy.out] at c1'
          have k1 : decide (y < z) = false := by simp; have := Hy.out; omega
          have hy : decide (z < y) = false ∨ (decide (z < y) = true ∧ (y != b2) = false) := by
            have := Hy.out
            by_cases h : z < b2
            · exact .inr ⟨by simp; omega, by simp; omega⟩
            · exact .inl (by simp; omega)
          clear c0' d0 Hz Hy hup
          rcases hy with hy1 | ⟨hy1, hy2⟩
          · go_wp2_with (fail)
            go_quiet (fail)
            go_wp2
            exact ⟨⟨k + 1, by omega, by go_num, below_drewN hb6 _⟩, by simp [intOf]; omega⟩
          · go_wp2_with (fail)
            go_quiet (fail)
            go_wp2
            exact ⟨⟨k + 1, by omega, by go_num, below_drewN hb6 _⟩, by simp [intOf]; omega⟩
        · obtain rfl : k = t.groups.length := by omega
          go_wp2
          go_ret
          exact ⟨rfl, wb0.trans (hb6.mono wb0.size)⟩
set_option maxHeartbeats 4000000 in
theorem lawRetainAll (A1 : Option Addr) (n1 c1 : Nat) (w : World) (h1 : Byt w A1 n1) :
    Calls Try.prog 8 #[.slice A1 n1 c1] w fun e w' => e = .returned (.bool true) ∧ Below w.heap.size w w' := by
  by_cases k1 : n1 ≤ 1048576
  · exact lawRetainIn A1 n1 c1 w (h1.2 k1)
  · have hn1 := h1.1
    unfold maxLen at hn1
    go_enter Try.func8, Try.ntmps8
    go_wp2
    go_ret
    exact ⟨rfl, Below.refl _ _⟩
end Go.Proofs.Ytodnmbppgjbpmaa
