/- The walk of the law on SeglogAt. What a card's condition gives of the table of powers of ten. -/
import Derived.Test.YtebkblmejkkhfaaDoorFilEqW
import Derived.Test.YtebkblmejkkhfaaDoorChgW
import Derived.Deep.RegionHeld3
import Derived.Test.YtebkblmejkkhfaaDoorRdW
import Derived.Lib.LaidTab
namespace Go.Proofs.YtebkblmejkkhfaaDoor
open Go.RowKit
set_option linter.unusedVariables false

set_option maxHeartbeats 8000000 in
set_option maxRecDepth 1000000 in
theorem lawSeglogAt (A : Option Addr) (L : List Fil) (c : Nat) (f m : Int) (nn : Int) (w : World) (hL : Fls w w.heap.size A L) (hfw : (Lit.int .i64 f).wf = true) (hmw : (Lit.int .i64 m).wf = true) (hnn : (Lit.int .i64 nn).wf = true) (hPow : Pow w) (hHandle : Handle w) (hSeg : Seg w) :
    Calls Tryd.prog 6 #[.agg #[.slice A L.length c, .int .i64 f, .int .i64 m], .int .i64 nn] w fun e w' => e = .returned (.bool true) ∧ Below w.heap.size w w' := by
  have HL : Hid (∀ W, Below w.heap.size w W → Fls W W.heap.size A L) := Lib.hid fun W h => (hL.below h (Nat.le_refl _)).mono h.size
  have HPow : Hid (∀ W, Below w.heap.size w W → Pow W) := Lib.hid fun W h => hPow.below h
  have HHandle : Hid (∀ W, Below w.heap.size w W → Handle W) := Lib.hid fun W h => Handle.below hHandle h
  have HSeg : Hid (∀ W, Below w.heap.size w W → Seg W) := Lib.hid fun W h => hSeg.below h
  have hf : ∀ f ∈ L, f.fits := fun f h => by obtain ⟨i, hi, rfl⟩ := List.getElem_of_mem h; exact (hL.2 i hi).choose_spec.2.2.2.2.2
  have hB0 := Blk.fresh w 28 [.slice A L.length c, .int .i64 f, .int .i64 m]
  have hb0 : Below w.heap.size w (w.alloc (.cells #[.slice A L.length c, .int .i64 f, .int .i64 m] 28)) := (Below.refl _ _).alloc (Nat.le_refl _) _
  have hz0 : (w.alloc (.cells #[.slice A L.length c, .int .i64 f, .int .i64 m] 28)).heap.size = w.heap.size + 1 := by simp
  simp only [List.toArray] at hB0
  go_enter Tryd.func6, Tryd.ntmps6
  have q0 := hB0.cell (i := 0) rfl
  have q1 := hB0.cell (i := 1) rfl
  have q2 := hB0.cell (i := 2) rfl
  go_wp2_with (fail)
  clear q0 q1 q2
  generalize w.alloc (.cells #[.slice A L.length c, .int .i64 f, .int .i64 m] 28) = v0 at hB0 hb0 hz0 ⊢
  refine (szSeglog_any A L c f m _ (HL.out _ hb0)).mono ?_
  rintro e v1 ⟨r, rfl, r0, r1, hS, hb1⟩
  have hz1 := hb1.size
  have hB1 := hB0.below hb1 (by omega)
  have hw1 := hb0.trans (hb1.mono (by omega))
  clear hB0
  by_cases hr : r < 0
  · go_wp2
    go_ret
    exact ⟨rfl, hw1⟩
  · have hS' := hS (by omega)
    have hn := hS'.1
    obtain ⟨so, ao, co, hsp, him⟩ := bothSeglogAt L f m nn hf hS' hfw hmw hnn
    have Sp := Lib.hid hsp
    have Im := Lib.hid him
    clear hsp him
    have chB0 := hB1.cell (i := 0) rfl
    have chB1 := hB1.cell (i := 1) rfl
    have chB2 := hB1.cell (i := 2) rfl
    go_wp2_with (fail)
    refine (toSeglog_any A L c f m _ (HL.out _ hw1) hS').mono ?_
    rintro e v2 ⟨g2, d2, rfl, hF2, hb2⟩
    have hz2 := hb2.size
    have hB2 := hB1.below hb2 hB1.lt
    have hw2 := hw1.trans (hb2.mono hw1.size)
    clear hB1
    clear chB0 chB1 chB2
    have T2 := hF2.rw
    clear hF2
    go_wp2_with (fail)
    refine (Sp.out _ _ _ (T2.fls hf) (Rw.capL T2).1 (Rw.capL T2).2).mono ?_
    rintro e v3 ⟨rfl, hb3⟩
    have hz3 := hb3.size
    have hB3 := hB2.below hb3 hB2.lt
    have T3 := T2.below hb3
    have hw3 := hw2.trans (hb3.mono hw2.size)
    clear hB2 T2
    clear T3
    have hS_4 := Blk.fresh v3 43 [.string so, .int .i64 ao, .int .i64 co]
    simp only [List.toArray] at hS_4
    have hb4 : Below v3.heap.size v3 (v3.alloc (.cells #[.string so, .int .i64 ao, .int .i64 co] 43)) := (Below.refl _ _).alloc (Nat.le_refl _) _
    have hs4 : (v3.alloc (.cells #[.string so, .int .i64 ao, .int .i64 co] 43)).heap.size = v3.heap.size + 1 := by simp
    have qhB0 := (hB3.below hb4 hB3.lt).cell (i := 0) rfl
    have qhB1 := (hB3.below hb4 hB3.lt).cell (i := 1) rfl
    have qhB2 := (hB3.below hb4 hB3.lt).cell (i := 2) rfl
    have qq0 := hS_4.cell (i := 0) rfl
    have qq1 := hS_4.cell (i := 1) rfl
    have qq2 := hS_4.cell (i := 2) rfl
    go_wp2_with (fail)
    clear qhB0 qhB1 qhB2 qq0 qq1 qq2
    generalize v3.alloc (.cells #[.string so, .int .i64 ao, .int .i64 co] 43) = v4 at hS_4 hb4 hs4 ⊢
    have hz4 := hb4.size
    have hB4 := hB3.below hb4 hB3.lt
    have hw4 := hw3.trans (hb4.mono hw3.size)
    clear hB3
    have chB0 := hB4.cell (i := 0) rfl
    have chB1 := hB4.cell (i := 1) rfl
    have chB2 := hB4.cell (i := 2) rfl
    go_wp2_with (fail)
    refine (toSeglog_any A L c f m _ (HL.out _ hw4) hS').mono ?_
    rintro e v5 ⟨g5, d5, rfl, hF5, hb5⟩
    have hz5 := hb5.size
    have hB5 := hB4.below hb5 hB4.lt
    have hS_5 := hS_4.below hb5 hS_4.lt
    have hw5 := hw4.trans (hb5.mono hw4.size)
    clear hB4 hS_4
    clear chB0 chB1 chB2
    have X5 := hF5.rw
    clear hF5
    have hP6 := Blk.fresh v5 35 [.slice (some ⟨g5, 0, none⟩) L.length d5, .int .i64 f, .int .i64 m]
    simp only [List.toArray] at hP6
    have hb6 : Below v5.heap.size v5 (v5.alloc (.cells #[.slice (some ⟨g5, 0, none⟩) L.length d5, .int .i64 f, .int .i64 m] 35)) := (Below.refl _ _).alloc (Nat.le_refl _) _
    have hs6 : (v5.alloc (.cells #[.slice (some ⟨g5, 0, none⟩) L.length d5, .int .i64 f, .int .i64 m] 35)).heap.size = v5.heap.size + 1 := by simp
    have qq0 := hP6.cell (i := 0) rfl
    have qq1 := hP6.cell (i := 1) rfl
    have qq2 := hP6.cell (i := 2) rfl
    go_wp2_with (fail)
    clear qq0 qq1 qq2
    generalize v5.alloc (.cells #[.slice (some ⟨g5, 0, none⟩) L.length d5, .int .i64 f, .int .i64 m] 35) = v6 at hP6 hb6 hs6 ⊢
    have hz6 := hb6.size
    have hB6 := hB5.below hb6 hB5.lt
    have hS_6 := hS_5.below hb6 hS_5.lt
    have X6 := X5.below hb6
    have hw6 := hw5.trans (hb6.mono hw5.size)
    clear hB5 hS_5 X5
    have chP0 := hP6.cell (i := 0) rfl
    have chP1 := hP6.cell (i := 1) rfl
    have chP2 := hP6.cell (i := 2) rfl
    go_wp2_with (fail)
    refine (Im.out _ _ _ (X6.fls hf) (Rw.capL X6).1 (Rw.capL X6).2 (HPow.out _ hw6) (HHandle.out _ hw6) (HSeg.out _ hw6)).mono ?_
    rintro e v7 ⟨rfl, hb7⟩
    have hz7 := hb7.size
    have hB7 := hB6.below hb7 hB6.lt
    have hS_7 := hS_6.below hb7 hS_6.lt
    have hP7 := hP6.below hb7 hP6.lt
    have X7 := X6.below hb7
    have hw7 := hw6.trans (hb7.mono hw6.size)
    clear hB6 hS_6 hP6 X6
    clear chP0 chP1 chP2
    have hQ8 := Blk.fresh v7 43 [.string so, .int .i64 ao, .int .i64 co]
    simp only [List.toArray] at hQ8
    have hb8 : Below v7.heap.size v7 (v7.alloc (.cells #[.string so, .int .i64 ao, .int .i64 co] 43)) := (Below.refl _ _).alloc (Nat.le_refl _) _
    have hs8 : (v7.alloc (.cells #[.string so, .int .i64 ao, .int .i64 co] 43)).heap.size = v7.heap.size + 1 := by simp
    have qhS_0 := (hS_7.below hb8 hS_7.lt).cell (i := 0) rfl
    have qhS_1 := (hS_7.below hb8 hS_7.lt).cell (i := 1) rfl
    have qhS_2 := (hS_7.below hb8 hS_7.lt).cell (i := 2) rfl
    have qq0 := hQ8.cell (i := 0) rfl
    have qq1 := hQ8.cell (i := 1) rfl
    have qq2 := hQ8.cell (i := 2) rfl
    go_wp2_with (fail)
    clear qhS_0 qhS_1 qhS_2 qq0 qq1 qq2
    generalize v7.alloc (.cells #[.string so, .int .i64 ao, .int .i64 co] 43) = v8 at hQ8 hb8 hs8 ⊢
    have hz8 := hb8.size
    have hB8 := hB7.below hb8 hB7.lt
    have hS_8 := hS_7.below hb8 hS_7.lt
    have hP8 := hP7.below hb8 hP7.lt
    have X8 := X7.below hb8
    have hw8 := hw7.trans (hb8.mono hw7.size)
    clear hB7 hS_7 hP7 X7
    have chQ0 := hQ8.cell (i := 0) rfl
    have chQ1 := hQ8.cell (i := 1) rfl
    have chQ2 := hQ8.cell (i := 2) rfl
    have chS_0 := hS_8.cell (i := 0) rfl
    have chS_1 := hS_8.cell (i := 1) rfl
    have chS_2 := hS_8.cell (i := 2) rfl
    go_wp2_with (fail)
    refine (eqTextOut_same so ao co _).mono ?_
    rintro e v9 ⟨rfl, hb9⟩
    have hz9 := hb9.size
    have hB9 := hB8.below hb9 hB8.lt
    have hS_9 := hS_8.below hb9 hS_8.lt
    have hP9 := hP8.below hb9 hP8.lt
    have hQ9 := hQ8.below hb9 hQ8.lt
    have X9 := X8.below hb9
    have hw9 := hw8.trans (hb9.mono hw8.size)
    clear hB8 hS_8 hP8 hQ8 X8
    clear chQ0 chQ1 chQ2 chS_0 chS_1 chS_2
    have chB0 := hB9.cell (i := 0) rfl
    have chB1 := hB9.cell (i := 1) rfl
    have chB2 := hB9.cell (i := 2) rfl
    have chP0 := hP9.cell (i := 0) rfl
    have chP1 := hP9.cell (i := 1) rfl
    have chP2 := hP9.cell (i := 2) rfl
    go_wp2_with (fail)
    have z0 : v9.drew.cell? ⟨w.heap.size, 0, none⟩ = some (.slice A L.length c) := chB0
    have z1 : v9.drew.cell? ⟨w.heap.size, 1, none⟩ = some (.int .i64 f) := chB1
    have z2 : v9.drew.cell? ⟨w.heap.size, 2, none⟩ = some (.int .i64 m) := chB2
    have z3 : v9.drew.cell? ⟨v5.heap.size, 0, none⟩ = some (.slice (some ⟨g5, 0, none⟩) L.length d5) := chP0
    have z4 : v9.drew.cell? ⟨v5.heap.size, 1, none⟩ = some (.int .i64 f) := chP1
    have z5 : v9.drew.cell? ⟨v5.heap.size, 2, none⟩ = some (.int .i64 m) := chP2
    have Xd : Rw v9.drew v4.heap.size v5.heap.size 56 3 (.slice (some ⟨g5, 0, none⟩) L.length d5) L.length (flat L) := X9
    go_region_held3 (fun W => W.cell? ⟨w.heap.size, 0, none⟩ = some (.slice A L.length c) ∧ W.cell? ⟨w.heap.size, 1, none⟩ = some (.int .i64 f) ∧ W.cell? ⟨w.heap.size, 2, none⟩ = some (.int .i64 m) ∧ W.cell? ⟨v5.heap.size, 0, none⟩ = some (.slice (some ⟨g5, 0, none⟩) L.length d5) ∧ W.cell? ⟨v5.heap.size, 1, none⟩ = some (.int .i64 f) ∧ W.cell? ⟨v5.heap.size, 2, none⟩ = some (.int .i64 m))
      (first
        | exact ⟨z0, z1, z2, z3, z4, z5⟩
        | exact ⟨kept_cell hb10 z0, kept_cell hb10 z1, kept_cell hb10 z2, kept_cell hb10 z3, kept_cell hb10 z4, kept_cell hb10 z5⟩
        | exact ⟨kept_cell hb11 (kept_cell hb10 z0), kept_cell hb11 (kept_cell hb10 z1), kept_cell hb11 (kept_cell hb10 z2), kept_cell hb11 (kept_cell hb10 z3), kept_cell hb11 (kept_cell hb10 z4), kept_cell hb11 (kept_cell hb10 z5)⟩)
      (first
        | (go_at_call 11; refine (toSeglog_any A L c f m _ (HL.out _ (below_drew hw9)) hS').mono ?_; rintro e v10 ⟨g10, d10, rfl, hF10, hb10⟩)
        | (go_at_call 13; refine (eqSeglog_same _ _ L _ _ f m _ ((Xd.below hb10).fls hf) (OwnF.fls hF10)).mono ?_; rintro e v11 ⟨rfl, hb11⟩))
    have hbz : Below v9.heap.size v9 v11 := (below_drew (Below.refl _ v9)).trans ((hb10.trans (hb11.mono hb10.size)).mono (Nat.le_refl _))
    clear chB0 chB1 chB2 chP0 chP1 chP2
    clear z0 z1 z2 z3 z4 z5 Xd hF10
    have hz11 := hbz.size
    have hB11 := hB9.below hbz hB9.lt
    have hS_11 := hS_9.below hbz hS_9.lt
    have hP11 := hP9.below hbz hP9.lt
    have hQ11 := hQ9.below hbz hQ9.lt
    have X11 := X9.below hbz
    have hw11 := hw9.trans (hbz.mono hw9.size)
    clear hB9 hS_9 hP9 hQ9 X9
    go_wp2
    go_ret
    exact ⟨rfl, hw11⟩
end Go.Proofs.YtebkblmejkkhfaaDoor

namespace Go.Proofs.YtebkblmejkkhfaaDoor
open Go.RowKit Go.ChangeShapes Go.WideShapes Go.ChangeAt
set_option linter.unusedVariables false
theorem pow_of_head {W : World} {rest : List (String × DataW Unit)} (h : laidMet Tryd.prog (("internal/strconv.uint64pow10", Lib.tabData .u64 Lib.pow10Tab) :: rest) W) : Pow W :=
  Lib.tabIs_of_head (k := .u64) (zs := Lib.pow10Tab) (n := Lib.pow10Tab.length) gPow (t := 90) (e := 70) (by kernel_rfl) Tryd.underlying90 Tryd.underlying70 (by kernel_rfl) (by kernel_rfl) h
end Go.Proofs.YtebkblmejkkhfaaDoor
