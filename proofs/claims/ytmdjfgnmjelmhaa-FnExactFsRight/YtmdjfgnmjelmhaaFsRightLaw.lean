/- The walk of the law on FsRight. -/
import Derived.Test.YtmdjfgnmjelmhaaFilRightI
import Derived.Test.YtmdjfgnmjelmhaaFilEq
namespace Go.Proofs.Ytmdjfgnmjelmhaa
open Go.RowKit
set_option linter.unusedVariables false

set_option maxHeartbeats 2000000 in
theorem lawFsRight (A : Option Addr) (L : List Fil) (c : Nat) (w : World) (hL : Fls w w.heap.size A L) :
    Calls Try.prog 3 #[.agg #[.slice A L.length c]] w fun e w' => e = .returned (.bool true) ∧ Below w.heap.size w w' := by
  have hL' : ∀ W, Below w.heap.size w W → Fls W W.heap.size A L := fun W h => (hL.below h (Nat.le_refl _)).mono h.size
  have hB0 := Blk.fresh w 24 [.slice A L.length c]
  have hb0 : Below w.heap.size w (w.alloc (.cells #[.slice A L.length c] 24)) := (Below.refl _ _).alloc (Nat.le_refl _) _
  have HL := Lib.hid hL'
  clear hL'
  have hz0 : (w.alloc (.cells #[.slice A L.length c] 24)).heap.size = w.heap.size + 1 := by simp
  go_enter Try.func3, Try.ntmps3
  go_wp2_with (fail)
  generalize w.alloc (.cells #[.slice A L.length c] 24) = v0 at hB0 hb0 hz0 ⊢
  refine (szFs_any A L c _ (HL.out _ hb0)).mono ?_
  rintro e v1 ⟨r, rfl, r0, r1, hS, hb1⟩
  have hz1 := hb1.size
  have hB1 := hB0.below hb1 (by omega)
  have c1 := hB1.cell (i := 0) rfl
  have hb01 := hb0.trans (hb1.mono (by omega))
  by_cases hr : r < 0
  · go_wp2
    go_ret
    exact ⟨rfl, hb01⟩
  · have hS' := hS (by omega)
    go_wp2_with (fail)
    refine (toFs_any A L c _ (HL.out _ hb01) hS').mono ?_
    rintro e v2 ⟨g2, d2, rfl, hF2, hb2⟩
    have hz2 := hb2.size
    have hB2 := hB1.below hb2 (by omega)
    have c2 := hB2.cell (i := 0) rfl
    have hb02 := hb01.trans (hb2.mono (by omega))
    obtain ⟨A2, e2, hA2, hX2⟩ := hF2.slice
    cases hA2
    clear c1
    go_wp2_with (fail)
    refine (specRight_any _ L _ _ hX2).mono ?_
    rintro e v3 ⟨rfl, hb3⟩
    have hz3 := hb3.size
    have hB3 := hB2.below hb3 (by omega)
    have c3 := hB3.cell (i := 0) rfl
    have hb03 := hb02.trans (hb3.mono (by omega))
    clear c2
    go_wp2_with (fail)
    refine (toFs_any A L c _ (HL.out _ hb03) hS').mono ?_
    rintro e v4 ⟨g4, d4, rfl, hF4, hb4⟩
    have hz4 := hb4.size
    have hB4 := hB3.below hb4 (by omega)
    have hb04 := hb03.trans (hb4.mono (by omega))
    have c4 := hB4.cell (i := 0) rfl
    clear c3
    go_wp2_with (fail)
    have hX5 := Blk.fresh v4 29 [.slice (some ⟨g4, 0, none⟩) L.length d4]
    have hb5 : Below v4.heap.size v4 (v4.alloc (.cells #[.slice (some ⟨g4, 0, none⟩) L.length d4] 29)) := (Below.refl _ _).alloc (Nat.le_refl _) _
    have hF5 := hF4.below hb5 (Nat.le_refl _)
    have hB5 := hB4.below hb5 (by omega)
    have hb05 := hb04.trans (hb5.mono (by omega))
    have hz5 := hb5.size
    generalize v4.alloc (.cells #[.slice (some ⟨g4, 0, none⟩) L.length d4] 29) = v5 at hX5 hb5 hF5 hB5 hb05 hz5 ⊢
    obtain ⟨A5, e5, hA5, hY5⟩ := hF5.slice
    cases hA5
    refine (implRight_any _ L _ _ hY5).mono ?_
    rintro e v6 ⟨rfl, hb6⟩
    have hz6 := hb6.size
    have hF6 := hF5.below hb6 (Nat.le_refl _)
    have hB6 := hB5.below hb6 hB5.lt
    have hX6 := hX5.below hb6 hX5.lt
    have hb06 := hb05.trans (hb6.mono (by omega))
    have c6 := hB6.cell (i := 0) rfl
    have x6 := hX6.cell (i := 0) rfl
    clear c4
    go_wp2_with (fail)
    have z0 : v6.drew.cell? ⟨w.heap.size, 0, none⟩ = some (.slice A L.length c) := c6
    have z1 : v6.drew.cell? ⟨v4.heap.size, 0, none⟩ = some (.slice (some ⟨g4, 0, none⟩) L.length d4) := x6
    go_region_held3 (fun W => W.cell? ⟨w.heap.size, 0, none⟩ = some (.slice A L.length c) ∧ W.cell? ⟨v4.heap.size, 0, none⟩ = some (.slice (some ⟨g4, 0, none⟩) L.length d4))
      (first
        | exact ⟨z0, z1⟩
        | exact ⟨kept_cell hb7 z0, kept_cell hb7 z1⟩
        | exact ⟨kept_cell hb8 (kept_cell hb7 z0), kept_cell hb8 (kept_cell hb7 z1)⟩)
      (first
        | (go_at_call 8; refine (toFs_any A L c _ (HL.out _ (below_drew hb06)) hS').mono ?_; rintro e v7 ⟨g7, d7, rfl, hF7, hb7⟩)
        | (go_at_call 10; refine (eqFs_same _ _ L _ _ _ (OwnF.fls (hF6.drew.below hb7 (Nat.le_refl _))) (OwnF.fls hF7)).mono ?_; rintro e v8 ⟨rfl, hb8⟩))
    go_wp2
    go_ret
    have hb08 : Below w.heap.size w v8 := ((below_drew hb06).trans (hb7.mono (by have := hb06.size; exact this))).trans (hb8.mono (by have := hb7.size; have := hb06.size; simp at *; omega))
    exact ⟨rfl, hb08⟩
end Go.Proofs.Ytmdjfgnmjelmhaa
