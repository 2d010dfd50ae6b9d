/- The walk of the law on ChangeRight. -/
import Derived.Test.YtjnbhppnchmeoaaSyCRW
import Derived.Deep.RegionHeld3
namespace Go.Proofs.Ytjnbhppnchmeoaa
open Go.RowKit
set_option linter.unusedVariables false

set_option maxHeartbeats 8000000 in
set_option maxRecDepth 1000000 in
theorem lawChangeRight (t : Cng) (A : Option Addr) (c : Nat) (w : World) (hf : t.fits) (hA : Prs w 0 w.heap.size A t.proofs) :
    Calls Try.prog 7 #[cngV t (.slice A t.proofs.length c)] w fun e w' => e = .returned (.bool true) ∧ Below w.heap.size w w' := by
  obtain ⟨frm, view, L⟩ := t
  simp only at hA ⊢
  have HA : Hid (∀ W, Below w.heap.size w W → Prs W 0 W.heap.size A L) := Lib.hid fun W h => hA.on h
  have hB0 := Blk.fresh w 55 [.int .i64 frm, .int .i64 view, .slice A L.length c]
  have hb0 : Below w.heap.size w (w.alloc (.cells #[.int .i64 frm, .int .i64 view, .slice A L.length c] 55)) := (Below.refl _ _).alloc (Nat.le_refl _) _
  have hz0 : (w.alloc (.cells #[.int .i64 frm, .int .i64 view, .slice A L.length c] 55)).heap.size = w.heap.size + 1 := by simp
  simp only [List.toArray] at hB0
  go_enter Try.func7, Try.ntmps7
  have q0 := hB0.cell (i := 0) rfl
  have q1 := hB0.cell (i := 1) rfl
  have q2 := hB0.cell (i := 2) rfl
  go_wp2_with (fail)
  clear q0 q1 q2
  generalize w.alloc (.cells #[.int .i64 frm, .int .i64 view, .slice A L.length c] 55) = v0 at hB0 hb0 hz0 ⊢
  refine (szChange_left ⟨frm, view, L⟩ A c 1048576 _ hf (HA.out _ hb0) (by omega) (by omega)).mono ?_
  rintro e v1 ⟨r, rfl, r0, r1, hS, hb1⟩
  have hz1 := hb1.size
  have hB1 := hB0.below hb1 (by omega)
  have hw1 := hb0.trans (hb1.mono (by omega))
  clear hB0
  by_cases hr : r < 0
  · go_wp2
    go_ret
    exact ⟨rfl, hw1⟩
  · have hS' := hS (by omega)
    obtain ⟨r9, hsp, him⟩ := bothChangeRight ⟨frm, view, L⟩ hf hS'
    have Sp := Lib.hid hsp
    have Im := Lib.hid him
    clear hsp him
    have chB0 := hB1.cell (i := 0) rfl
    have chB1 := hB1.cell (i := 1) rfl
    have chB2 := hB1.cell (i := 2) rfl
    go_wp2_with (fail)
    refine (toChange_any ⟨frm, view, L⟩ A c _ hS' (HA.out _ hw1)).mono ?_
    rintro e v2 ⟨g2, c2, rfl, TS2, hb2⟩
    have hz2 := hb2.size
    have hB2 := hB1.below hb2 hB1.lt
    have hw2 := hw1.trans (hb2.mono hw1.size)
    clear hB1
    clear chB0 chB1 chB2
    replace TS2 := TS2.mono (Nat.zero_le _) (Nat.le_refl _)
    go_wp2_with (fail)
    refine (Sp.out _ _ _ TS2).mono ?_
    rintro e v3 ⟨rfl, hb3⟩
    have hz3 := hb3.size
    have hB3 := hB2.below hb3 hB2.lt
    have TS3 := TS2.on hb3
    have hw3 := hw2.trans (hb3.mono hw2.size)
    clear hB2 TS2
    clear TS3
    have chB0 := hB3.cell (i := 0) rfl
    have chB1 := hB3.cell (i := 1) rfl
    have chB2 := hB3.cell (i := 2) rfl
    go_wp2_with (fail)
    refine (toChange_any ⟨frm, view, L⟩ A c _ hS' (HA.out _ hw3)).mono ?_
    rintro e v4 ⟨g4, c4, rfl, XS4, hb4⟩
    have hz4 := hb4.size
    have hB4 := hB3.below hb4 hB3.lt
    have hw4 := hw3.trans (hb4.mono hw3.size)
    clear hB3
    clear chB0 chB1 chB2
    replace XS4 := XS4.mono (Nat.zero_le _) (Nat.le_refl _)
    have hP5 := Blk.fresh v4 60 [.int .i64 frm, .int .i64 view, .slice (some ⟨g4, 0, none⟩) L.length c4]
    replace hP5 : Blk (v4.alloc (.cells #[.int .i64 frm, .int .i64 view, .slice (some ⟨g4, 0, none⟩) L.length c4] 60)) v4.heap.size 60 [.int .i64 frm, .int .i64 view, .slice (some ⟨g4, 0, none⟩) L.length c4] := hP5
    have hb5 : Below v4.heap.size v4 (v4.alloc (.cells #[.int .i64 frm, .int .i64 view, .slice (some ⟨g4, 0, none⟩) L.length c4] 60)) := (Below.refl _ _).alloc (Nat.le_refl _) _
    have hs5 : (v4.alloc (.cells #[.int .i64 frm, .int .i64 view, .slice (some ⟨g4, 0, none⟩) L.length c4] 60)).heap.size = v4.heap.size + 1 := by simp
    have qq0 := hP5.cell (i := 0) rfl
    have qq1 := hP5.cell (i := 1) rfl
    have qq2 := hP5.cell (i := 2) rfl
    go_wp2_with (fail)
    clear qq0 qq1 qq2
    generalize v4.alloc (.cells #[.int .i64 frm, .int .i64 view, .slice (some ⟨g4, 0, none⟩) L.length c4] 60) = v5 at hP5 hb5 hs5 ⊢
    have hz5 := hb5.size
    have hB5 := hB4.below hb5 hB4.lt
    have XS5 := XS4.on hb5
    have hw5 := hw4.trans (hb5.mono hw4.size)
    clear hB4 XS4
    have chP0 := hP5.cell (i := 0) rfl
    have chP1 := hP5.cell (i := 1) rfl
    have chP2 := hP5.cell (i := 2) rfl
    go_wp2_with (fail)
    refine (Im.out _ _ _ XS5).mono ?_
    rintro e v6 ⟨rfl, hb6⟩
    have hz6 := hb6.size
    have hB6 := hB5.below hb6 hB5.lt
    have hP6 := hP5.below hb6 hP5.lt
    have XS6 := XS5.on hb6
    have hw6 := hw5.trans (hb6.mono hw5.size)
    clear hB5 hP5 XS5
    clear chP0 chP1 chP2
    have chB0 := hB6.cell (i := 0) rfl
    have chB1 := hB6.cell (i := 1) rfl
    have chB2 := hB6.cell (i := 2) rfl
    have chP0 := hP6.cell (i := 0) rfl
    have chP1 := hP6.cell (i := 1) rfl
    have chP2 := hP6.cell (i := 2) rfl
    go_wp2_with (fail)
    have z0 : v6.drew.cell? ⟨w.heap.size, 0, none⟩ = some (.int .i64 frm) := chB0
    have z1 : v6.drew.cell? ⟨w.heap.size, 1, none⟩ = some (.int .i64 view) := chB1
    have z2 : v6.drew.cell? ⟨w.heap.size, 2, none⟩ = some (.slice A L.length c) := chB2
    have z3 : v6.drew.cell? ⟨v4.heap.size, 0, none⟩ = some (.int .i64 frm) := chP0
    have z4 : v6.drew.cell? ⟨v4.heap.size, 1, none⟩ = some (.int .i64 view) := chP1
    have z5 : v6.drew.cell? ⟨v4.heap.size, 2, none⟩ = some (.slice (some ⟨g4, 0, none⟩) L.length c4) := chP2
    have XSd : Prs v6.drew 0 v6.drew.heap.size (some ⟨g4, 0, none⟩) L := XS6
    go_region_held3 (fun W => W.cell? ⟨w.heap.size, 0, none⟩ = some (.int .i64 frm) ∧ W.cell? ⟨w.heap.size, 1, none⟩ = some (.int .i64 view) ∧ W.cell? ⟨w.heap.size, 2, none⟩ = some (.slice A L.length c) ∧ W.cell? ⟨v4.heap.size, 0, none⟩ = some (.int .i64 frm) ∧ W.cell? ⟨v4.heap.size, 1, none⟩ = some (.int .i64 view) ∧ W.cell? ⟨v4.heap.size, 2, none⟩ = some (.slice (some ⟨g4, 0, none⟩) L.length c4))
      (first
        | with_reducible exact ⟨z0, z1, z2, z3, z4, z5⟩
        | with_reducible exact ⟨kept_cell hb7 z0, kept_cell hb7 z1, kept_cell hb7 z2, kept_cell hb7 z3, kept_cell hb7 z4, kept_cell hb7 z5⟩
        | with_reducible exact ⟨kept_cell hb8 (kept_cell hb7 z0), kept_cell hb8 (kept_cell hb7 z1), kept_cell hb8 (kept_cell hb7 z2), kept_cell hb8 (kept_cell hb7 z3), kept_cell hb8 (kept_cell hb7 z4), kept_cell hb8 (kept_cell hb7 z5)⟩)
      (first
        | (go_at_call 39; (with_reducible refine (toChange_any ⟨frm, view, L⟩ A c _ hS' (HA.out _ (below_drew hw6))).mono ?_); rintro e v7 ⟨g7, c7, rfl, hF7, hb7⟩)
        | (go_at_call 41; (with_reducible refine (eqChange_same ⟨frm, view, L⟩ _ _ _ _ v7 (XSd.on hb7) hF7).mono ?_); rintro e v8 ⟨rfl, hb8⟩))
    have hbz : Below v6.heap.size v6 v8 := (below_drew (Below.refl _ v6)).trans ((hb7.trans (hb8.mono hb7.size)).mono (Nat.le_refl _))
    clear chB0 chB1 chB2 chP0 chP1 chP2
    clear z0 z1 z2 z3 z4 z5 XSd hF7
    have hz8 := hbz.size
    have hB8 := hB6.below hbz hB6.lt
    have hP8 := hP6.below hbz hP6.lt
    have XS8 := XS6.on hbz
    have hw8 := hw6.trans (hbz.mono hw6.size)
    clear hB6 hP6 XS6
    go_wp2
    go_ret
    exact ⟨rfl, hw8⟩
end Go.Proofs.Ytjnbhppnchmeoaa
