/- The walk of the law on BrokerReply. -/
import Derived.Test.YtkimieeabmjfgaaBrRepIW
import Derived.Test.YtkimieeabmjfgaaRowW
import Derived.Deep.RegionHeld3
namespace Go.Proofs.Ytkimieeabmjfgaa
open Go.RowKit
set_option linter.unusedVariables false

set_option maxHeartbeats 8000000 in
set_option maxRecDepth 1000000 in
theorem lawBrokerReply (b : Bro) (A : Option Addr) (c : Nat) (B : Option Addr) (d : Nat) (cl : Int) (w : World) (hf : b.fits) (hA : Tops w w.heap.size A b.topics) (hB : Rps w w.heap.size B b.replies) (hcl : (Lit.int .i64 cl).wf = true) :
    Calls Try.prog 7 #[broV (.slice A b.topics.length c) (.slice B b.replies.length d), .int .i64 cl] w fun e w' => e = .returned (.bool true) ∧ Below w.heap.size w w' := by
  obtain ⟨T, R⟩ := b
  simp only at hA hB ⊢
  have HA : Hid (∀ W, Below w.heap.size w W → Tops W W.heap.size A T) := Lib.hid fun W h => hA.on h
  have HB : Hid (∀ W, Below w.heap.size w W → Rps W W.heap.size B R) := Lib.hid fun W h => hB.on h
  have hB0 := Blk.fresh w 42 [.slice A T.length c, .slice B R.length d]
  have hb0 : Below w.heap.size w (w.alloc (.cells #[.slice A T.length c, .slice B R.length d] 42)) := (Below.refl _ _).alloc (Nat.le_refl _) _
  have hz0 : (w.alloc (.cells #[.slice A T.length c, .slice B R.length d] 42)).heap.size = w.heap.size + 1 := by simp
  simp only [List.toArray] at hB0
  go_enter Try.func7, Try.ntmps7
  have q0 := hB0.cell (i := 0) rfl
  have q1 := hB0.cell (i := 1) rfl
  go_wp2_with (fail)
  clear q0 q1
  generalize w.alloc (.cells #[.slice A T.length c, .slice B R.length d] 42) = v0 at hB0 hb0 hz0 ⊢
  refine (szBroker_any ⟨T, R⟩ A c B d _ hf (HA.out _ hb0) (HB.out _ hb0)).mono ?_
  rintro e v1 ⟨r, rfl, r0, r1, hS, hb1⟩
  have hz1 := hb1.size
  have hB1 := hB0.below hb1 (by omega)
  have hw1 := hb0.trans (hb1.mono (by omega))
  clear hB0
  by_cases hr : r < 0
  · go_wp2
    go_ret
    exact ⟨rfl, hw1⟩
  · have hS' := hS (by omega)
    have hnH : T.length ≤ 1048576 := hS'.1.1
    have hnG : R.length ≤ 1048576 := hS'.2.1
    obtain ⟨r9, hsp, him⟩ := bothBrokerReply ⟨T, R⟩ cl hf hS' hcl
    have Sp := Lib.hid hsp
    have Im := Lib.hid him
    clear hsp him
    unfold Rep.val at Sp Im
    have chB0 := hB1.cell (i := 0) rfl
    have chB1 := hB1.cell (i := 1) rfl
    go_wp2_with (fail)
    refine (toBroker_rd ⟨T, R⟩ A c B d _ hS' (HA.out _ hw1) (HB.out _ hw1)).mono ?_
    rintro e v2 ⟨g2, c2, h2, d2, rfl, TS2, TG2, hb2⟩
    have hz2 := hb2.size
    have hB2 := hB1.below hb2 hB1.lt
    have hw2 := hw1.trans (hb2.mono hw1.size)
    clear hB1
    clear chB0 chB1
    go_wp2_with (fail)
    refine (Sp.out _ _ _ _ _ TS2 TG2).mono ?_
    rintro e v3 ⟨rfl, hb3⟩
    have hz3 := hb3.size
    have hB3 := hB2.below hb3 hB2.lt
    have TS3 := TS2.on hb3
    have TG3 := TG2.on hb3
    have hw3 := hw2.trans (hb3.mono hw2.size)
    clear hB2 TS2 TG2
    clear TS3 TG3
    have hS_4 := Blk.fresh v3 53 [.int .i64 r9.client, .int .i64 r9.number, .string r9.text]
    replace hS_4 : Blk (v3.alloc (.cells #[.int .i64 r9.client, .int .i64 r9.number, .string r9.text] 53)) v3.heap.size 53 [.int .i64 r9.client, .int .i64 r9.number, .string r9.text] := hS_4
    have hb4 : Below v3.heap.size v3 (v3.alloc (.cells #[.int .i64 r9.client, .int .i64 r9.number, .string r9.text] 53)) := (Below.refl _ _).alloc (Nat.le_refl _) _
    have hs4 : (v3.alloc (.cells #[.int .i64 r9.client, .int .i64 r9.number, .string r9.text] 53)).heap.size = v3.heap.size + 1 := by simp
    have qhB0 := (hB3.below hb4 hB3.lt).cell (i := 0) rfl
    have qhB1 := (hB3.below hb4 hB3.lt).cell (i := 1) rfl
    have qq0 := hS_4.cell (i := 0) rfl
    have qq1 := hS_4.cell (i := 1) rfl
    have qq2 := hS_4.cell (i := 2) rfl
    go_wp2_with (fail)
    clear qhB0 qhB1 qq0 qq1 qq2
    generalize v3.alloc (.cells #[.int .i64 r9.client, .int .i64 r9.number, .string r9.text] 53) = v4 at hS_4 hb4 hs4 ⊢
    have hz4 := hb4.size
    have hB4 := hB3.below hb4 hB3.lt
    have hw4 := hw3.trans (hb4.mono hw3.size)
    clear hB3
    have chB0 := hB4.cell (i := 0) rfl
    have chB1 := hB4.cell (i := 1) rfl
    go_wp2_with (fail)
    refine (toBroker_rd ⟨T, R⟩ A c B d _ hS' (HA.out _ hw4) (HB.out _ hw4)).mono ?_
    rintro e v5 ⟨g5, c5, h5, d5, rfl, XS5, XG5, hb5⟩
    have hz5 := hb5.size
    have hB5 := hB4.below hb5 hB4.lt
    have hS_5 := hS_4.below hb5 hS_4.lt
    have hw5 := hw4.trans (hb5.mono hw4.size)
    clear hB4 hS_4
    clear chB0 chB1
    have hP6 := Blk.fresh v5 48 [.slice (some ⟨g5, 0, none⟩) T.length c5, .slice (some ⟨h5, 0, none⟩) R.length d5]
    replace hP6 : Blk (v5.alloc (.cells #[.slice (some ⟨g5, 0, none⟩) T.length c5, .slice (some ⟨h5, 0, none⟩) R.length d5] 48)) v5.heap.size 48 [.slice (some ⟨g5, 0, none⟩) T.length c5, .slice (some ⟨h5, 0, none⟩) R.length d5] := hP6
    have hb6 : Below v5.heap.size v5 (v5.alloc (.cells #[.slice (some ⟨g5, 0, none⟩) T.length c5, .slice (some ⟨h5, 0, none⟩) R.length d5] 48)) := (Below.refl _ _).alloc (Nat.le_refl _) _
    have hs6 : (v5.alloc (.cells #[.slice (some ⟨g5, 0, none⟩) T.length c5, .slice (some ⟨h5, 0, none⟩) R.length d5] 48)).heap.size = v5.heap.size + 1 := by simp
    have qq0 := hP6.cell (i := 0) rfl
    have qq1 := hP6.cell (i := 1) rfl
    go_wp2_with (fail)
    clear qq0 qq1
    generalize v5.alloc (.cells #[.slice (some ⟨g5, 0, none⟩) T.length c5, .slice (some ⟨h5, 0, none⟩) R.length d5] 48) = v6 at hP6 hb6 hs6 ⊢
    have hz6 := hb6.size
    have hB6 := hB5.below hb6 hB5.lt
    have hS_6 := hS_5.below hb6 hS_5.lt
    have XS6 := XS5.on hb6
    have XG6 := XG5.on hb6
    have hw6 := hw5.trans (hb6.mono hw5.size)
    clear hB5 hS_5 XS5 XG5
    have chP0 := hP6.cell (i := 0) rfl
    have chP1 := hP6.cell (i := 1) rfl
    go_wp2_with (fail)
    refine (Im.out _ _ _ _ _ XS6 XG6).mono ?_
    rintro e v7 ⟨rfl, hb7⟩
    have hz7 := hb7.size
    have hB7 := hB6.below hb7 hB6.lt
    have hS_7 := hS_6.below hb7 hS_6.lt
    have hP7 := hP6.below hb7 hP6.lt
    have XS7 := XS6.on hb7
    have XG7 := XG6.on hb7
    have hw7 := hw6.trans (hb7.mono hw6.size)
    clear hB6 hS_6 hP6 XS6 XG6
    clear chP0 chP1
    have hQ8 := Blk.fresh v7 53 [.int .i64 r9.client, .int .i64 r9.number, .string r9.text]
    replace hQ8 : Blk (v7.alloc (.cells #[.int .i64 r9.client, .int .i64 r9.number, .string r9.text] 53)) v7.heap.size 53 [.int .i64 r9.client, .int .i64 r9.number, .string r9.text] := hQ8
    have hb8 : Below v7.heap.size v7 (v7.alloc (.cells #[.int .i64 r9.client, .int .i64 r9.number, .string r9.text] 53)) := (Below.refl _ _).alloc (Nat.le_refl _) _
    have hs8 : (v7.alloc (.cells #[.int .i64 r9.client, .int .i64 r9.number, .string r9.text] 53)).heap.size = v7.heap.size + 1 := by simp
    have qhS_0 := (hS_7.below hb8 hS_7.lt).cell (i := 0) rfl
    have qhS_1 := (hS_7.below hb8 hS_7.lt).cell (i := 1) rfl
    have qhS_2 := (hS_7.below hb8 hS_7.lt).cell (i := 2) rfl
    have qq0 := hQ8.cell (i := 0) rfl
    have qq1 := hQ8.cell (i := 1) rfl
    have qq2 := hQ8.cell (i := 2) rfl
    go_wp2_with (fail)
    clear qhS_0 qhS_1 qhS_2 qq0 qq1 qq2
    generalize v7.alloc (.cells #[.int .i64 r9.client, .int .i64 r9.number, .string r9.text] 53) = v8 at hQ8 hb8 hs8 ⊢
    have hz8 := hb8.size
    have hB8 := hB7.below hb8 hB7.lt
    have hS_8 := hS_7.below hb8 hS_7.lt
    have hP8 := hP7.below hb8 hP7.lt
    have XS8 := XS7.on hb8
    have XG8 := XG7.on hb8
    have hw8 := hw7.trans (hb8.mono hw7.size)
    clear hB7 hS_7 hP7 XS7 XG7
    have chQ0 := hQ8.cell (i := 0) rfl
    have chQ1 := hQ8.cell (i := 1) rfl
    have chQ2 := hQ8.cell (i := 2) rfl
    have chS_0 := hS_8.cell (i := 0) rfl
    have chS_1 := hS_8.cell (i := 1) rfl
    have chS_2 := hS_8.cell (i := 2) rfl
    have EQ := eqReply_same r9
    unfold Rep.val at EQ
    go_wp2_with (fail)
    refine (EQ _).mono ?_
    rintro e v9 ⟨rfl, hb9⟩
    have hz9 := hb9.size
    have hB9 := hB8.below hb9 hB8.lt
    have hS_9 := hS_8.below hb9 hS_8.lt
    have hP9 := hP8.below hb9 hP8.lt
    have hQ9 := hQ8.below hb9 hQ8.lt
    have XS9 := XS8.on hb9
    have XG9 := XG8.on hb9
    have hw9 := hw8.trans (hb9.mono hw8.size)
    clear hB8 hS_8 hP8 hQ8 XS8 XG8
    clear chQ0 chQ1 chQ2 chS_0 chS_1 chS_2
    clear EQ
    have chB0 := hB9.cell (i := 0) rfl
    have chB1 := hB9.cell (i := 1) rfl
    have chP0 := hP9.cell (i := 0) rfl
    have chP1 := hP9.cell (i := 1) rfl
    go_wp2_with (fail)
    have z0 : v9.drew.cell? ⟨w.heap.size, 0, none⟩ = some (.slice A T.length c) := chB0
    have z1 : v9.drew.cell? ⟨w.heap.size, 1, none⟩ = some (.slice B R.length d) := chB1
    have z2 : v9.drew.cell? ⟨v5.heap.size, 0, none⟩ = some (.slice (some ⟨g5, 0, none⟩) T.length c5) := chP0
    have z3 : v9.drew.cell? ⟨v5.heap.size, 1, none⟩ = some (.slice (some ⟨h5, 0, none⟩) R.length d5) := chP1
    have XSd : Tops v9.drew v9.drew.heap.size (some ⟨g5, 0, none⟩) T := XS9
    have XGd : Rps v9.drew v9.drew.heap.size (some ⟨h5, 0, none⟩) R := XG9
    go_region_held3 (fun W => W.cell? ⟨w.heap.size, 0, none⟩ = some (.slice A T.length c) ∧ W.cell? ⟨w.heap.size, 1, none⟩ = some (.slice B R.length d) ∧ W.cell? ⟨v5.heap.size, 0, none⟩ = some (.slice (some ⟨g5, 0, none⟩) T.length c5) ∧ W.cell? ⟨v5.heap.size, 1, none⟩ = some (.slice (some ⟨h5, 0, none⟩) R.length d5))
      (first
        | with_reducible exact ⟨z0, z1, z2, z3⟩
        | with_reducible exact ⟨kept_cell hb10 z0, kept_cell hb10 z1, kept_cell hb10 z2, kept_cell hb10 z3⟩
        | with_reducible exact ⟨kept_cell hb11 (kept_cell hb10 z0), kept_cell hb11 (kept_cell hb10 z1), kept_cell hb11 (kept_cell hb10 z2), kept_cell hb11 (kept_cell hb10 z3)⟩)
      (first
        | (go_at_call 25; (with_reducible refine (toBroker_rd ⟨T, R⟩ A c B d _ hS' (HA.out _ (below_drew hw9)) (HB.out _ (below_drew hw9))).mono ?_); rintro e v10 ⟨g10, c10, h10, d10, rfl, hF10, hG10, hb10⟩)
        | (go_at_call 27; (with_reducible refine (eqBroker_same _ _ _ _ T R _ _ _ _ v10 (XSd.on hb10) hF10 (XGd.on hb10) hG10).mono ?_); rintro e v11 ⟨rfl, hb11⟩))
    have hbz : Below v9.heap.size v9 v11 := (below_drew (Below.refl _ v9)).trans ((hb10.trans (hb11.mono hb10.size)).mono (Nat.le_refl _))
    clear chB0 chB1 chP0 chP1
    clear z0 z1 z2 z3 XSd XGd hF10 hG10
    have hz11 := hbz.size
    have hB11 := hB9.below hbz hB9.lt
    have hS_11 := hS_9.below hbz hS_9.lt
    have hP11 := hP9.below hbz hP9.lt
    have hQ11 := hQ9.below hbz hQ9.lt
    have XS11 := XS9.on hbz
    have XG11 := XG9.on hbz
    have hw11 := hw9.trans (hbz.mono hw9.size)
    clear hB9 hS_9 hP9 hQ9 XS9 XG9
    go_wp2
    go_ret
    exact ⟨rfl, hw11⟩
end Go.Proofs.Ytkimieeabmjfgaa
