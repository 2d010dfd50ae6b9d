/- The walk of the law on SeglogRight. What a card's condition gives of the table of powers of ten. -/
import Derived.Test.YtebkblmejkkhfaaDoorFilEqW
import Derived.Test.YtebkblmejkkhfaaDoorChgW
import Derived.Deep.RegionHeld3
import Derived.Test.YtebkblmejkkhfaaDoorRdW
import Derived.Lib.LaidTab
namespace Go.Proofs.YtebkblmejkkhfaaDoor
open Go.RowKit
set_option linter.unusedVariables false

set_option maxHeartbeats 8000000 in
set_option maxRecDepth 1000000 in
theorem lawSeglogRight (A : Option Addr) (L : List Fil) (c : Nat) (f m : Int) (w : World) (hL : Fls w w.heap.size A L) (hfw : (Lit.int .i64 f).wf = true) (hmw : (Lit.int .i64 m).wf = true) (hPow : Pow w) (hHandle : Handle w) (hSeg : Seg w) :
    Calls Tryd.prog 4 #[.agg #[.slice A L.length c, .int .i64 f, .int .i64 m]] w fun e w' => e = .returned (.bool true) ∧ Below w.heap.size w w' := by
  have HL : Hid (∀ W, Below w.heap.size w W → Fls W W.heap.size A L) := Lib.hid fun W h => (hL.below h (Nat.le_refl _)).mono h.size
  have HPow : Hid (∀ W, Below w.heap.size w W → Pow W) := Lib.hid fun W h => hPow.below h
  have HHandle : Hid (∀ W, Below w.heap.size w W → Handle W) := Lib.hid fun W h => Handle.below hHandle h
  have HSeg : Hid (∀ W, Below w.heap.size w W → Seg W) := Lib.hid fun W h => hSeg.below h
  have hf : ∀ f ∈ L, f.fits := fun f h => by obtain ⟨i, hi, rfl⟩ := List.getElem_of_mem h; exact (hL.2 i hi).choose_spec.2.2.2.2.2
  have hB0 := Blk.fresh w 28 [.slice A L.length c, .int .i64 f, .int .i64 m]
  have hb0 : Below w.heap.size w (w.alloc (.cells #[.slice A L.length c, .int .i64 f, .int .i64 m] 28)) := (Below.refl _ _).alloc (Nat.le_refl _) _
  have hz0 : (w.alloc (.cells #[.slice A L.length c, .int .i64 f, .int .i64 m] 28)).heap.size = w.heap.size + 1 := by simp
  simp only [List.toArray] at hB0
  go_enter Tryd.func4, Tryd.ntmps4
  have q0 := hB0.cell (i := 0) rfl
  have q1 := hB0.cell (i := 1) rfl
  have q2 := hB0.cell (i := 2) rfl
  go_wp2_with (fail)
  clear q0 q1 q2
  generalize w.alloc (.cells #[.slice A L.length c, .int .i64 f, .int .i64 m] 28) = v0 at hB0 hb0 hz0 ⊢
  refine (szSeglog_any A L c f m _ (HL.out _ hb0)).mono ?_
  rintro e v1 ⟨r, rfl, r0, r1, hS, hb1⟩
  have hz1 := hb1.size
  have hB1 := hB0.below hb1 (by omega)
  have hw1 := hb0.trans (hb1.mono (by omega))
  clear hB0
  by_cases hr : r < 0
  · go_wp2
    go_ret
    exact ⟨rfl, hw1⟩
  · have hS' := hS (by omega)
    have hn := hS'.1
    obtain ⟨bo, hsp, him⟩ := bothSeglogRight L f m hf hS' hfw hmw
    have Sp := Lib.hid hsp
    have Im := Lib.hid him
    clear hsp him
    have chB0 := hB1.cell (i := 0) rfl
    have chB1 := hB1.cell (i := 1) rfl
    have chB2 := hB1.cell (i := 2) rfl
    go_wp2_with (fail)
    refine (toSeglog_any A L c f m _ (HL.out _ hw1) hS').mono ?_
    rintro e v2 ⟨g2, d2, rfl, hF2, hb2⟩
    have hz2 := hb2.size
    have hB2 := hB1.below hb2 hB1.lt
    have hw2 := hw1.trans (hb2.mono hw1.size)
    clear hB1
    clear chB0 chB1 chB2
    have T2 := hF2.rw
    clear hF2
    go_wp2_with (fail)
    refine (Sp.out _ _ _ (T2.fls hf) (Rw.capL T2).1 (Rw.capL T2).2).mono ?_
    rintro e v3 ⟨rfl, hb3⟩
    have hz3 := hb3.size
    have hB3 := hB2.below hb3 hB2.lt
    have T3 := T2.below hb3
    have hw3 := hw2.trans (hb3.mono hw2.size)
    clear hB2 T2
    clear T3
    have chB0 := hB3.cell (i := 0) rfl
    have chB1 := hB3.cell (i := 1) rfl
    have chB2 := hB3.cell (i := 2) rfl
    go_wp2_with (fail)
    refine (toSeglog_any A L c f m _ (HL.out _ hw3) hS').mono ?_
    rintro e v4 ⟨g4, d4, rfl, hF4, hb4⟩
    have hz4 := hb4.size
    have hB4 := hB3.below hb4 hB3.lt
    have hw4 := hw3.trans (hb4.mono hw3.size)
    clear hB3
    clear chB0 chB1 chB2
    have X4 := hF4.rw
    clear hF4
    have hP5 := Blk.fresh v4 35 [.slice (some ⟨g4, 0, none⟩) L.length d4, .int .i64 f, .int .i64 m]
    simp only [List.toArray] at hP5
    have hb5 : Below v4.heap.size v4 (v4.alloc (.cells #[.slice (some ⟨g4, 0, none⟩) L.length d4, .int .i64 f, .int .i64 m] 35)) := (Below.refl _ _).alloc (Nat.le_refl _) _
    have hs5 : (v4.alloc (.cells #[.slice (some ⟨g4, 0, none⟩) L.length d4, .int .i64 f, .int .i64 m] 35)).heap.size = v4.heap.size + 1 := by simp
    have qq0 := hP5.cell (i := 0) rfl
    have qq1 := hP5.cell (i := 1) rfl
    have qq2 := hP5.cell (i := 2) rfl
    go_wp2_with (fail)
    clear qq0 qq1 qq2
    generalize v4.alloc (.cells #[.slice (some ⟨g4, 0, none⟩) L.length d4, .int .i64 f, .int .i64 m] 35) = v5 at hP5 hb5 hs5 ⊢
    have hz5 := hb5.size
    have hB5 := hB4.below hb5 hB4.lt
    have X5 := X4.below hb5
    have hw5 := hw4.trans (hb5.mono hw4.size)
    clear hB4 X4
    have chP0 := hP5.cell (i := 0) rfl
    have chP1 := hP5.cell (i := 1) rfl
    have chP2 := hP5.cell (i := 2) rfl
    go_wp2_with (fail)
    refine (Im.out _ _ _ (X5.fls hf) (Rw.capL X5).1 (Rw.capL X5).2 (HPow.out _ hw5) (HHandle.out _ hw5) (HSeg.out _ hw5)).mono ?_
    rintro e v6 ⟨rfl, hb6⟩
    have hz6 := hb6.size
    have hB6 := hB5.below hb6 hB5.lt
    have hP6 := hP5.below hb6 hP5.lt
    have X6 := X5.below hb6
    have hw6 := hw5.trans (hb6.mono hw5.size)
    clear hB5 hP5 X5
    clear chP0 chP1 chP2
    have chB0 := hB6.cell (i := 0) rfl
    have chB1 := hB6.cell (i := 1) rfl
    have chB2 := hB6.cell (i := 2) rfl
    have chP0 := hP6.cell (i := 0) rfl
    have chP1 := hP6.cell (i := 1) rfl
    have chP2 := hP6.cell (i := 2) rfl
    go_wp2_with (fail)
    have z0 : v6.drew.cell? ⟨w.heap.size, 0, none⟩ = some (.slice A L.length c) := chB0
    have z1 : v6.drew.cell? ⟨w.heap.size, 1, none⟩ = some (.int .i64 f) := chB1
    have z2 : v6.drew.cell? ⟨w.heap.size, 2, none⟩ = some (.int .i64 m) := chB2
    have z3 : v6.drew.cell? ⟨v4.heap.size, 0, none⟩ = some (.slice (some ⟨g4, 0, none⟩) L.length d4) := chP0
    have z4 : v6.drew.cell? ⟨v4.heap.size, 1, none⟩ = some (.int .i64 f) := chP1
    have z5 : v6.drew.cell? ⟨v4.heap.size, 2, none⟩ = some (.int .i64 m) := chP2
    have Xd : Rw v6.drew v3.heap.size v4.heap.size 56 3 (.slice (some ⟨g4, 0, none⟩) L.length d4) L.length (flat L) := X6
    go_region_held3 (fun W => W.cell? ⟨w.heap.size, 0, none⟩ = some (.slice A L.length c) ∧ W.cell? ⟨w.heap.size, 1, none⟩ = some (.int .i64 f) ∧ W.cell? ⟨w.heap.size, 2, none⟩ = some (.int .i64 m) ∧ W.cell? ⟨v4.heap.size, 0, none⟩ = some (.slice (some ⟨g4, 0, none⟩) L.length d4) ∧ W.cell? ⟨v4.heap.size, 1, none⟩ = some (.int .i64 f) ∧ W.cell? ⟨v4.heap.size, 2, none⟩ = some (.int .i64 m))
      (first
        | exact ⟨z0, z1, z2, z3, z4, z5⟩
        | exact ⟨kept_cell hb7 z0, kept_cell hb7 z1, kept_cell hb7 z2, kept_cell hb7 z3, kept_cell hb7 z4, kept_cell hb7 z5⟩
        | exact ⟨kept_cell hb8 (kept_cell hb7 z0), kept_cell hb8 (kept_cell hb7 z1), kept_cell hb8 (kept_cell hb7 z2), kept_cell hb8 (kept_cell hb7 z3), kept_cell hb8 (kept_cell hb7 z4), kept_cell hb8 (kept_cell hb7 z5)⟩)
      (first
        | (go_at_call 11; refine (toSeglog_any A L c f m _ (HL.out _ (below_drew hw6)) hS').mono ?_; rintro e v7 ⟨g7, d7, rfl, hF7, hb7⟩)
        | (go_at_call 13; refine (eqSeglog_same _ _ L _ _ f m _ ((Xd.below hb7).fls hf) (OwnF.fls hF7)).mono ?_; rintro e v8 ⟨rfl, hb8⟩))
    have hbz : Below v6.heap.size v6 v8 := (below_drew (Below.refl _ v6)).trans ((hb7.trans (hb8.mono hb7.size)).mono (Nat.le_refl _))
    clear chB0 chB1 chB2 chP0 chP1 chP2
    clear z0 z1 z2 z3 z4 z5 Xd hF7
    have hz8 := hbz.size
    have hB8 := hB6.below hbz hB6.lt
    have hP8 := hP6.below hbz hP6.lt
    have X8 := X6.below hbz
    have hw8 := hw6.trans (hbz.mono hw6.size)
    clear hB6 hP6 X6
    go_wp2
    go_ret
    exact ⟨rfl, hw8⟩
end Go.Proofs.YtebkblmejkkhfaaDoor

namespace Go.Proofs.YtebkblmejkkhfaaDoor
open Go.RowKit Go.ChangeShapes Go.WideShapes Go.ChangeAt
set_option linter.unusedVariables false
theorem pow_of_head {W : World} {rest : List (String × DataW Unit)} (h : laidMet Tryd.prog (("internal/strconv.uint64pow10", Lib.tabData .u64 Lib.pow10Tab) :: rest) W) : Pow W :=
  Lib.tabIs_of_head (k := .u64) (zs := Lib.pow10Tab) (n := Lib.pow10Tab.length) gPow (t := 90) (e := 70) (by kernel_rfl) Tryd.underlying90 Tryd.underlying70 (by kernel_rfl) (by kernel_rfl) h
end Go.Proofs.YtebkblmejkkhfaaDoor
