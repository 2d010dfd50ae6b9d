/- The walk of the law on TopicAck. -/
import Derived.Test.YtkimieeabmjfgaaTpAckW
import Derived.Test.YtkimieeabmjfgaaTpRunDW
import Derived.Test.YtkimieeabmjfgaaTpArgW
import Derived.Deep.RegionHeld3
namespace Go.Proofs.Ytkimieeabmjfgaa
open Go.RowKit
set_option linter.unusedVariables false

set_option maxHeartbeats 8000000 in
set_option maxRecDepth 1000000 in
theorem lawTopicAck (t : Tpc) (A : Option Addr) (c : Nat) (B : Option Addr) (d : Nat) (gs : ByteArray) (nn : Int) (w : World) (hf : t.fits) (hA : Strs w w.heap.size A t.held) (hB : Grs w w.heap.size B t.groups) (hgs : gs.size ≤ maxLen) (hnn : (Lit.int .i64 nn).wf = true) :
    Calls Try.prog 4 #[topV t.name t.base (.slice A t.held.length c) (.slice B t.groups.length d), .string gs, .int .i64 nn] w fun e w' => e = .returned (.bool true) ∧ Below w.heap.size w w' := by
  obtain ⟨nm, bs, H, G⟩ := t
  simp only at hA hB ⊢
  have HA : Hid (∀ W, Below w.heap.size w W → Strs W W.heap.size A H) := Lib.hid fun W h => hA.on h
  have HB : Hid (∀ W, Below w.heap.size w W → Grs W W.heap.size B G) := Lib.hid fun W h => hB.on h
  have hB0 := Blk.fresh w 25 [.string nm, .int .i64 bs, .slice A H.length c, .slice B G.length d]
  have hb0 : Below w.heap.size w (w.alloc (.cells #[.string nm, .int .i64 bs, .slice A H.length c, .slice B G.length d] 25)) := (Below.refl _ _).alloc (Nat.le_refl _) _
  have hz0 : (w.alloc (.cells #[.string nm, .int .i64 bs, .slice A H.length c, .slice B G.length d] 25)).heap.size = w.heap.size + 1 := by simp
  simp only [List.toArray] at hB0
  by_cases hbiggs : 1048576 < gs.size
  · have hbig' : (1048576 : Int) < (gs.size : Int) := by omega
    have hmx := hgs
    unfold maxLen at hmx
    go_enter Try.func4, Try.ntmps4
    go_wp2
    go_ret
    exact ⟨rfl, hb0⟩
  have hbiggs' : ¬ (1048576 : Int) < (gs.size : Int) := by omega
  go_enter Try.func4, Try.ntmps4
  have q0 := hB0.cell (i := 0) rfl
  have q1 := hB0.cell (i := 1) rfl
  have q2 := hB0.cell (i := 2) rfl
  have q3 := hB0.cell (i := 3) rfl
  go_wp2_with (fail)
  clear q0 q1 q2 q3
  generalize w.alloc (.cells #[.string nm, .int .i64 bs, .slice A H.length c, .slice B G.length d] 25) = v0 at hB0 hb0 hz0 ⊢
  refine (szTopic_any ⟨nm, bs, H, G⟩ A c B d _ hf (HA.out _ hb0) (HB.out _ hb0)).mono ?_
  rintro e v1 ⟨r, rfl, r0, r1, hS, hb1⟩
  have hz1 := hb1.size
  have hB1 := hB0.below hb1 (by omega)
  have hw1 := hb0.trans (hb1.mono (by omega))
  clear hB0
  by_cases hr : r < 0
  · go_wp2
    go_ret
    exact ⟨rfl, hw1⟩
  · have hS' := hS (by omega)
    have hnH : H.length ≤ 1048576 := hS'.2.1.1
    have hnG : G.length ≤ 1048576 := hS'.2.2.1
    obtain ⟨o, N, n, co, hOH, hOG, hN, hsum, hsp, him⟩ := bothTopicAck ⟨nm, bs, H, G⟩ gs nn hf hS' hgs hnn (by omega)
    have Sp := Lib.hid hsp
    have Im := Lib.hid him
    clear hsp him
    obtain ⟨onm, obs, OH, OG⟩ := o
    simp only at hOH hOG hsum Sp Im
    obtain ⟨m1, Hm1⟩ : ∃ m, Hid (1 + H.length + 2 * G.length = m) := ⟨_, Lib.hid rfl⟩
    obtain ⟨m3, Hm3⟩ : ∃ m, Hid (1 + OH.length + 2 * OG.length + N.length = m) := ⟨_, Lib.hid rfl⟩
    have hm1 : 1 ≤ m1 ∧ m1 ≤ 3145729 := by have := Hm1.out; omega
    have hm3 : 1 ≤ m3 ∧ m3 ≤ 3900001 := by have := Hm3.out; omega
    have chB0 := hB1.cell (i := 0) rfl
    have chB1 := hB1.cell (i := 1) rfl
    have chB2 := hB1.cell (i := 2) rfl
    have chB3 := hB1.cell (i := 3) rfl
    go_wp2_with (fail)
    refine (toTopic_any ⟨nm, bs, H, G⟩ A c B d _ hS' (HA.out _ hw1) (HB.out _ hw1)).mono ?_
    rintro e v2 ⟨g2, c2, h2, d2, rfl, TS2, TG2, _, hb2⟩
    have hz2 := hb2.size
    have hB2 := hB1.below hb2 hB1.lt
    have hw2 := hw1.trans (hb2.mono hw1.size)
    clear hB1
    clear chB0 chB1 chB2 chB3
    go_wp2_with (fail)
    refine (Sp.out _ _ _ _ _ TS2.strs TG2.grs (Cap.own TS2.1) (Cap.own TG2.1)).mono ?_
    rintro e v3 ⟨A3, a3, B3, b3, T3, x3, rfl, RS3, RG3, RT3, _, _, hb3⟩
    have hz3 := hb3.size
    have hB3 := hB2.below hb3 hB2.lt
    have TS3 := TS2.below hb3
    have TG3 := TG2.below hb3
    have hw3 := hw2.trans (hb3.mono hw2.size)
    clear hB2 TS2 TG2
    clear TS3 TG3
    have hS_4 := Blk.fresh v3 31 [.string onm, .int .i64 obs, .slice A3 OH.length a3, .slice B3 OG.length b3, .slice T3 N.length x3, .int .i64 n, .int .i64 co]
    replace hS_4 : Blk (v3.alloc (.cells #[.string onm, .int .i64 obs, .slice A3 OH.length a3, .slice B3 OG.length b3, .slice T3 N.length x3, .int .i64 n, .int .i64 co] 31)) v3.heap.size 31 [.string onm, .int .i64 obs, .slice A3 OH.length a3, .slice B3 OG.length b3, .slice T3 N.length x3, .int .i64 n, .int .i64 co] := hS_4
    have hb4 : Below v3.heap.size v3 (v3.alloc (.cells #[.string onm, .int .i64 obs, .slice A3 OH.length a3, .slice B3 OG.length b3, .slice T3 N.length x3, .int .i64 n, .int .i64 co] 31)) := (Below.refl _ _).alloc (Nat.le_refl _) _
    have hs4 : (v3.alloc (.cells #[.string onm, .int .i64 obs, .slice A3 OH.length a3, .slice B3 OG.length b3, .slice T3 N.length x3, .int .i64 n, .int .i64 co] 31)).heap.size = v3.heap.size + 1 := by simp
    have qhB0 := (hB3.below hb4 hB3.lt).cell (i := 0) rfl
    have qhB1 := (hB3.below hb4 hB3.lt).cell (i := 1) rfl
    have qhB2 := (hB3.below hb4 hB3.lt).cell (i := 2) rfl
    have qhB3 := (hB3.below hb4 hB3.lt).cell (i := 3) rfl
    have qq0 := hS_4.cell (i := 0) rfl
    have qq1 := hS_4.cell (i := 1) rfl
    have qq2 := hS_4.cell (i := 2) rfl
    have qq3 := hS_4.cell (i := 3) rfl
    have qq4 := hS_4.cell (i := 4) rfl
    have qq5 := hS_4.cell (i := 5) rfl
    have qq6 := hS_4.cell (i := 6) rfl
    go_wp2_with (fail)
    clear qhB0 qhB1 qhB2 qhB3 qq0 qq1 qq2 qq3 qq4 qq5 qq6
    generalize v3.alloc (.cells #[.string onm, .int .i64 obs, .slice A3 OH.length a3, .slice B3 OG.length b3, .slice T3 N.length x3, .int .i64 n, .int .i64 co] 31) = v4 at hS_4 hb4 hs4 ⊢
    have hz4 := hb4.size
    have hB4 := hB3.below hb4 hB3.lt
    have RS4 := RS3.below hb4 (by omega)
    have RG4 := RG3.below hb4 (by omega)
    have RT4 := RT3.below hb4 (by omega)
    have hw4 := hw3.trans (hb4.mono hw3.size)
    clear hB3 RS3 RG3 RT3
    have chB0 := hB4.cell (i := 0) rfl
    have chB1 := hB4.cell (i := 1) rfl
    have chB2 := hB4.cell (i := 2) rfl
    have chB3 := hB4.cell (i := 3) rfl
    go_wp2_with (fail)
    refine (toTopic_any ⟨nm, bs, H, G⟩ A c B d _ hS' (HA.out _ hw4) (HB.out _ hw4)).mono ?_
    rintro e v5 ⟨g5, c5, h5, d5, rfl, XS5, XG5, _, hb5⟩
    have hz5 := hb5.size
    have hB5 := hB4.below hb5 hB4.lt
    have hS_5 := hS_4.below hb5 hS_4.lt
    have RS5 := RS4.below hb5 (by omega)
    have RG5 := RG4.below hb5 (by omega)
    have RT5 := RT4.below hb5 (by omega)
    have hw5 := hw4.trans (hb5.mono hw4.size)
    clear hB4 hS_4 RS4 RG4 RT4
    clear chB0 chB1 chB2 chB3
    have hP6 := Blk.fresh v5 29 [.string nm, .int .i64 bs, .slice (some ⟨g5, 0, none⟩) H.length c5, .slice (some ⟨h5, 0, none⟩) G.length d5]
    replace hP6 : Blk (v5.alloc (.cells #[.string nm, .int .i64 bs, .slice (some ⟨g5, 0, none⟩) H.length c5, .slice (some ⟨h5, 0, none⟩) G.length d5] 29)) v5.heap.size 29 [.string nm, .int .i64 bs, .slice (some ⟨g5, 0, none⟩) H.length c5, .slice (some ⟨h5, 0, none⟩) G.length d5] := hP6
    have hb6 : Below v5.heap.size v5 (v5.alloc (.cells #[.string nm, .int .i64 bs, .slice (some ⟨g5, 0, none⟩) H.length c5, .slice (some ⟨h5, 0, none⟩) G.length d5] 29)) := (Below.refl _ _).alloc (Nat.le_refl _) _
    have hs6 : (v5.alloc (.cells #[.string nm, .int .i64 bs, .slice (some ⟨g5, 0, none⟩) H.length c5, .slice (some ⟨h5, 0, none⟩) G.length d5] 29)).heap.size = v5.heap.size + 1 := by simp
    have qq0 := hP6.cell (i := 0) rfl
    have qq1 := hP6.cell (i := 1) rfl
    have qq2 := hP6.cell (i := 2) rfl
    have qq3 := hP6.cell (i := 3) rfl
    go_wp2_with (fail)
    clear qq0 qq1 qq2 qq3
    generalize v5.alloc (.cells #[.string nm, .int .i64 bs, .slice (some ⟨g5, 0, none⟩) H.length c5, .slice (some ⟨h5, 0, none⟩) G.length d5] 29) = v6 at hP6 hb6 hs6 ⊢
    have hz6 := hb6.size
    have hB6 := hB5.below hb6 hB5.lt
    have hS_6 := hS_5.below hb6 hS_5.lt
    have XS6 := XS5.below hb6
    have XG6 := XG5.below hb6
    have RS6 := RS5.below hb6 (by omega)
    have RG6 := RG5.below hb6 (by omega)
    have RT6 := RT5.below hb6 (by omega)
    have hw6 := hw5.trans (hb6.mono hw5.size)
    clear hB5 hS_5 XS5 XG5 RS5 RG5 RT5
    have chP0 := hP6.cell (i := 0) rfl
    have chP1 := hP6.cell (i := 1) rfl
    have chP2 := hP6.cell (i := 2) rfl
    have chP3 := hP6.cell (i := 3) rfl
    go_wp2_with (fail)
    refine (Im.out _ _ _ _ _ XS6.strs XG6.grs (Cap.own XS6.1) (Cap.own XG6.1)).mono ?_
    rintro e v7 ⟨A7, a7, B7, b7, T7, x7, rfl, GS7, GG7, GT7, hap7, _, _, hb7⟩
    have hz7 := hb7.size
    have hB7 := hB6.below hb7 hB6.lt
    have hS_7 := hS_6.below hb7 hS_6.lt
    have hP7 := hP6.below hb7 hP6.lt
    have XS7 := XS6.below hb7
    have XG7 := XG6.below hb7
    have RS7 := RS6.below hb7 (by omega)
    have RG7 := RG6.below hb7 (by omega)
    have RT7 := RT6.below hb7 (by omega)
    have hw7 := hw6.trans (hb7.mono hw6.size)
    clear hB6 hS_6 hP6 XS6 XG6 RS6 RG6 RT6
    clear chP0 chP1 chP2 chP3
    have hQ8 := Blk.fresh v7 31 [.string onm, .int .i64 obs, .slice A7 OH.length a7, .slice B7 OG.length b7, .slice T7 N.length x7, .int .i64 n, .int .i64 co]
    replace hQ8 : Blk (v7.alloc (.cells #[.string onm, .int .i64 obs, .slice A7 OH.length a7, .slice B7 OG.length b7, .slice T7 N.length x7, .int .i64 n, .int .i64 co] 31)) v7.heap.size 31 [.string onm, .int .i64 obs, .slice A7 OH.length a7, .slice B7 OG.length b7, .slice T7 N.length x7, .int .i64 n, .int .i64 co] := hQ8
    have hb8 : Below v7.heap.size v7 (v7.alloc (.cells #[.string onm, .int .i64 obs, .slice A7 OH.length a7, .slice B7 OG.length b7, .slice T7 N.length x7, .int .i64 n, .int .i64 co] 31)) := (Below.refl _ _).alloc (Nat.le_refl _) _
    have hs8 : (v7.alloc (.cells #[.string onm, .int .i64 obs, .slice A7 OH.length a7, .slice B7 OG.length b7, .slice T7 N.length x7, .int .i64 n, .int .i64 co] 31)).heap.size = v7.heap.size + 1 := by simp
    have qhS_0 := (hS_7.below hb8 hS_7.lt).cell (i := 0) rfl
    have qhS_1 := (hS_7.below hb8 hS_7.lt).cell (i := 1) rfl
    have qhS_2 := (hS_7.below hb8 hS_7.lt).cell (i := 2) rfl
    have qhS_3 := (hS_7.below hb8 hS_7.lt).cell (i := 3) rfl
    have qhS_4 := (hS_7.below hb8 hS_7.lt).cell (i := 4) rfl
    have qhS_5 := (hS_7.below hb8 hS_7.lt).cell (i := 5) rfl
    have qhS_6 := (hS_7.below hb8 hS_7.lt).cell (i := 6) rfl
    have qq0 := hQ8.cell (i := 0) rfl
    have qq1 := hQ8.cell (i := 1) rfl
    have qq2 := hQ8.cell (i := 2) rfl
    have qq3 := hQ8.cell (i := 3) rfl
    have qq4 := hQ8.cell (i := 4) rfl
    have qq5 := hQ8.cell (i := 5) rfl
    have qq6 := hQ8.cell (i := 6) rfl
    go_wp2_with (fail)
    clear qhS_0 qhS_1 qhS_2 qhS_3 qhS_4 qhS_5 qhS_6 qq0 qq1 qq2 qq3 qq4 qq5 qq6
    generalize v7.alloc (.cells #[.string onm, .int .i64 obs, .slice A7 OH.length a7, .slice B7 OG.length b7, .slice T7 N.length x7, .int .i64 n, .int .i64 co] 31) = v8 at hQ8 hb8 hs8 ⊢
    have hz8 := hb8.size
    have hB8 := hB7.below hb8 hB7.lt
    have hS_8 := hS_7.below hb8 hS_7.lt
    have hP8 := hP7.below hb8 hP7.lt
    have XS8 := XS7.below hb8
    have XG8 := XG7.below hb8
    have RS8 := RS7.below hb8 (by omega)
    have RG8 := RG7.below hb8 (by omega)
    have RT8 := RT7.below hb8 (by omega)
    have GS8 := GS7.below hb8
    have GG8 := GG7.below hb8
    have GT8 := GT7.below hb8
    have hw8 := hw7.trans (hb8.mono hw7.size)
    clear hB7 hS_7 hP7 XS7 XG7 RS7 RG7 RT7 GS7 GG7 GT7
    have chQ0 := hQ8.cell (i := 0) rfl
    have chQ1 := hQ8.cell (i := 1) rfl
    have chQ2 := hQ8.cell (i := 2) rfl
    have chQ3 := hQ8.cell (i := 3) rfl
    have chQ4 := hQ8.cell (i := 4) rfl
    have chQ5 := hQ8.cell (i := 5) rfl
    have chQ6 := hQ8.cell (i := 6) rfl
    have chS_0 := hS_8.cell (i := 0) rfl
    have chS_1 := hS_8.cell (i := 1) rfl
    have chS_2 := hS_8.cell (i := 2) rfl
    have chS_3 := hS_8.cell (i := 3) rfl
    have chS_4 := hS_8.cell (i := 4) rfl
    have chS_5 := hS_8.cell (i := 5) rfl
    have chS_6 := hS_8.cell (i := 6) rfl
    go_wp2_with (fail)
    refine (eqTopicOut_same onm obs _ _ _ _ _ _ OH OG N n co _ _ _ _ _ _ _ (GS8.strs hOH) (RS8.mono (by omega)) (GG8.grs hOG) (RG8.mono (by omega)) (GT8.strs hN) (RT8.mono (by omega))).mono ?_
    rintro e v9 ⟨rfl, hb9⟩
    have hz9 := hb9.size
    have hB9 := hB8.below hb9 hB8.lt
    have hS_9 := hS_8.below hb9 hS_8.lt
    have hP9 := hP8.below hb9 hP8.lt
    have hQ9 := hQ8.below hb9 hQ8.lt
    have XS9 := XS8.below hb9
    have XG9 := XG8.below hb9
    have RS9 := RS8.below hb9 (by omega)
    have RG9 := RG8.below hb9 (by omega)
    have RT9 := RT8.below hb9 (by omega)
    have GS9 := GS8.below hb9
    have GG9 := GG8.below hb9
    have GT9 := GT8.below hb9
    have hw9 := hw8.trans (hb9.mono hw8.size)
    clear hB8 hS_8 hP8 hQ8 XS8 XG8 RS8 RG8 RT8 GS8 GG8 GT8
    clear chQ0 chQ1 chQ2 chQ3 chQ4 chQ5 chQ6 chS_0 chS_1 chS_2 chS_3 chS_4 chS_5 chS_6
    have chB0 := hB9.cell (i := 0) rfl
    have chB1 := hB9.cell (i := 1) rfl
    have chB2 := hB9.cell (i := 2) rfl
    have chB3 := hB9.cell (i := 3) rfl
    have chP0 := hP9.cell (i := 0) rfl
    have chP1 := hP9.cell (i := 1) rfl
    have chP2 := hP9.cell (i := 2) rfl
    have chP3 := hP9.cell (i := 3) rfl
    go_wp2_with (fail)
    have z0 : v9.drew.cell? ⟨w.heap.size, 0, none⟩ = some (.string nm) := chB0
    have z1 : v9.drew.cell? ⟨w.heap.size, 1, none⟩ = some (.int .i64 bs) := chB1
    have z2 : v9.drew.cell? ⟨w.heap.size, 2, none⟩ = some (.slice A H.length c) := chB2
    have z3 : v9.drew.cell? ⟨w.heap.size, 3, none⟩ = some (.slice B G.length d) := chB3
    have z4 : v9.drew.cell? ⟨v5.heap.size, 0, none⟩ = some (.string nm) := chP0
    have z5 : v9.drew.cell? ⟨v5.heap.size, 1, none⟩ = some (.int .i64 bs) := chP1
    have z6 : v9.drew.cell? ⟨v5.heap.size, 2, none⟩ = some (.slice (some ⟨g5, 0, none⟩) H.length c5) := chP2
    have z7 : v9.drew.cell? ⟨v5.heap.size, 3, none⟩ = some (.slice (some ⟨h5, 0, none⟩) G.length d5) := chP3
    have XSd : Rw v9.drew v4.heap.size v5.heap.size 9 1 (.slice (some ⟨g5, 0, none⟩) H.length c5) H.length (H.map Value.string) := XS9
    have XGd : Rw v9.drew v4.heap.size v5.heap.size 68 2 (.slice (some ⟨h5, 0, none⟩) G.length d5) G.length (gflat G) := XG9
    go_region_held3 (fun W => W.cell? ⟨w.heap.size, 0, none⟩ = some (.string nm) ∧ W.cell? ⟨w.heap.size, 1, none⟩ = some (.int .i64 bs) ∧ W.cell? ⟨w.heap.size, 2, none⟩ = some (.slice A H.length c) ∧ W.cell? ⟨w.heap.size, 3, none⟩ = some (.slice B G.length d) ∧ W.cell? ⟨v5.heap.size, 0, none⟩ = some (.string nm) ∧ W.cell? ⟨v5.heap.size, 1, none⟩ = some (.int .i64 bs) ∧ W.cell? ⟨v5.heap.size, 2, none⟩ = some (.slice (some ⟨g5, 0, none⟩) H.length c5) ∧ W.cell? ⟨v5.heap.size, 3, none⟩ = some (.slice (some ⟨h5, 0, none⟩) G.length d5))
      (first
        | with_reducible exact ⟨z0, z1, z2, z3, z4, z5, z6, z7⟩
        | with_reducible exact ⟨kept_cell hb10 z0, kept_cell hb10 z1, kept_cell hb10 z2, kept_cell hb10 z3, kept_cell hb10 z4, kept_cell hb10 z5, kept_cell hb10 z6, kept_cell hb10 z7⟩
        | with_reducible exact ⟨kept_cell hb11 (kept_cell hb10 z0), kept_cell hb11 (kept_cell hb10 z1), kept_cell hb11 (kept_cell hb10 z2), kept_cell hb11 (kept_cell hb10 z3), kept_cell hb11 (kept_cell hb10 z4), kept_cell hb11 (kept_cell hb10 z5), kept_cell hb11 (kept_cell hb10 z6), kept_cell hb11 (kept_cell hb10 z7)⟩)
      (first
        | (go_at_call 12; (with_reducible refine (toTopic_any ⟨nm, bs, H, G⟩ A c B d _ hS' (HA.out _ (below_drew hw9)) (HB.out _ (below_drew hw9))).mono ?_); rintro e v10 ⟨g10, c10, h10, d10, rfl, hF10, hG10, _, hb10⟩)
        | (go_at_call 15; (with_reducible refine (eqTopic_same nm bs _ _ _ _ H G _ _ _ _ v10 (XSd.below hb10).strs hF10.strs (XGd.below hb10).grs hG10.grs).mono ?_); rintro e v11 ⟨rfl, hb11⟩))
    have hbz : Below v9.heap.size v9 v11 := (below_drew (Below.refl _ v9)).trans ((hb10.trans (hb11.mono hb10.size)).mono (Nat.le_refl _))
    clear chB0 chB1 chB2 chB3 chP0 chP1 chP2 chP3
    clear z0 z1 z2 z3 z4 z5 z6 z7 XSd XGd hF10 hG10
    have hz11 := hbz.size
    have hB11 := hB9.below hbz hB9.lt
    have hS_11 := hS_9.below hbz hS_9.lt
    have hP11 := hP9.below hbz hP9.lt
    have hQ11 := hQ9.below hbz hQ9.lt
    have XS11 := XS9.below hbz
    have XG11 := XG9.below hbz
    have RS11 := RS9.below hbz (by omega)
    have RG11 := RG9.below hbz (by omega)
    have RT11 := RT9.below hbz (by omega)
    have GS11 := GS9.below hbz
    have GG11 := GG9.below hbz
    have GT11 := GT9.below hbz
    have hw11 := hw9.trans (hbz.mono hw9.size)
    clear hB9 hS_9 hP9 hQ9 XS9 XG9 RS9 RG9 RT9 GS9 GG9 GT9
    have chP0 := hP11.cell (i := 0) rfl
    have chP1 := hP11.cell (i := 1) rfl
    have chP2 := hP11.cell (i := 2) rfl
    have chP3 := hP11.cell (i := 3) rfl
    have MX := markTopic_sl nm bs _ H c5 _ G d5 _ _ 1 _ XS11.sl XG11.sl (by omega) (by omega)
    rw [Hm1.out] at MX
    clear XS11 XG11
    go_wp2_with (fail)
    refine MX.mono ?_
    rintro e v12 ⟨rfl, _, _, _, hc12⟩
    clear MX
    have hz12 := hc12.size
    have hB12 := hB11.offC hc12 (by omega)
    have hS_12 := hS_11.offC hc12 (by omega)
    have hP12 := hP11.offC hc12 (by omega)
    have hQ12 := hQ11.offC hc12 (by omega)
    have RS12 := RS11.offC hc12 (by omega) (by omega)
    have RG12 := RG11.offC hc12 (by omega) (by omega)
    have RT12 := RT11.offC hc12 (by omega) (by omega)
    have GS12 := GS11.offC hc12 (by omega)
    have GG12 := GG11.offC hc12 (by omega)
    have GT12 := GT11.offC hc12 (by omega)
    have hw12 := below_offC hw11 hc12 (by omega) (Nat.le_refl _)
    clear hB11 hS_11 hP11 hQ11 RS11 RG11 RT11 GS11 GG11 GT11
    clear chP0 chP1 chP2 chP3
    have hlast : ¬ ((m1 : Int) < 0) := by omega
    have chQ0 := hQ12.cell (i := 0) rfl
    have chQ1 := hQ12.cell (i := 1) rfl
    have chQ2 := hQ12.cell (i := 2) rfl
    have chQ3 := hQ12.cell (i := 3) rfl
    have chQ4 := hQ12.cell (i := 4) rfl
    have chQ5 := hQ12.cell (i := 5) rfl
    have chQ6 := hQ12.cell (i := 6) rfl
    have chS_0 := hS_12.cell (i := 0) rfl
    have chS_1 := hS_12.cell (i := 1) rfl
    have chS_2 := hS_12.cell (i := 2) rfl
    have chS_3 := hS_12.cell (i := 3) rfl
    have chS_4 := hS_12.cell (i := 4) rfl
    have chS_5 := hS_12.cell (i := 5) rfl
    have chS_6 := hS_12.cell (i := 6) rfl
    go_wp2_with (fail)
    refine (eqTopicOut_same onm obs _ _ _ _ _ _ OH OG N n co _ _ _ _ _ _ _ (GS12.strs hOH) (RS12.mono (by omega)) (GG12.grs hOG) (RG12.mono (by omega)) (GT12.strs hN) (RT12.mono (by omega))).mono ?_
    rintro e v13 ⟨rfl, hb13⟩
    have hz13 := hb13.size
    have hB13 := hB12.below hb13 hB12.lt
    have hS_13 := hS_12.below hb13 hS_12.lt
    have hP13 := hP12.below hb13 hP12.lt
    have hQ13 := hQ12.below hb13 hQ12.lt
    have RS13 := RS12.below hb13 (by omega)
    have RG13 := RG12.below hb13 (by omega)
    have RT13 := RT12.below hb13 (by omega)
    have GS13 := GS12.below hb13
    have GG13 := GG12.below hb13
    have GT13 := GT12.below hb13
    have hw13 := hw12.trans (hb13.mono hw12.size)
    clear hB12 hS_12 hP12 hQ12 RS12 RG12 RT12 GS12 GG12 GT12
    clear chQ0 chQ1 chQ2 chQ3 chQ4 chQ5 chQ6 chS_0 chS_1 chS_2 chS_3 chS_4 chS_5 chS_6
    clear hlast
    have chQ0 := hQ13.cell (i := 0) rfl
    have chQ1 := hQ13.cell (i := 1) rfl
    have chQ2 := hQ13.cell (i := 2) rfl
    have chQ3 := hQ13.cell (i := 3) rfl
    have chQ4 := hQ13.cell (i := 4) rfl
    have chQ5 := hQ13.cell (i := 5) rfl
    have chQ6 := hQ13.cell (i := 6) rfl
    have MG := markTopicOut_sl onm obs _ OH a7 _ OG b7 _ N x7 n co _ _ 1 _ GS13 GG13 GT13 hap7 (by omega) (by omega) (by omega)
    rw [Hm3.out] at MG
    clear GS13 GG13 GT13
    go_wp2_with (fail)
    refine MG.mono ?_
    rintro e v14 ⟨rfl, GS14, GG14, GT14, hc14⟩
    clear MG
    have hz14 := hc14.size
    have hB14 := hB13.offC hc14 (by omega)
    have hS_14 := hS_13.offC hc14 (by omega)
    have hP14 := hP13.offC hc14 (by omega)
    have hQ14 := hQ13.offC hc14 (by omega)
    have RS14 := RS13.offC hc14 (by omega) (by omega)
    have RG14 := RG13.offC hc14 (by omega) (by omega)
    have RT14 := RT13.offC hc14 (by omega) (by omega)
    have hw14 := below_offC hw13 hc14 (by omega) (Nat.le_refl _)
    clear hB13 hS_13 hP13 hQ13 RS13 RG13 RT13
    clear chQ0 chQ1 chQ2 chQ3 chQ4 chQ5 chQ6
    have hlast : ¬ ((m3 : Int) < 0) := by omega
    have chQ0 := hQ14.cell (i := 0) rfl
    have chQ1 := hQ14.cell (i := 1) rfl
    have chQ2 := hQ14.cell (i := 2) rfl
    have chQ3 := hQ14.cell (i := 3) rfl
    have chQ4 := hQ14.cell (i := 4) rfl
    have chQ5 := hQ14.cell (i := 5) rfl
    have chQ6 := hQ14.cell (i := 6) rfl
    have HD := heldTopicOut_any onm obs _ OH.length a7 _ OG.length b7 _ N.length x7 n co 1 _ (GS14.strs (by rw [markN_len]; exact hOH)) (GG14.grs (by rw [markG_len]; exact hOG)) (GT14.strs (by rw [markN_len]; exact hN)) (by omega) (by omega)
    rw [Hm3.out] at HD
    go_wp2_with (fail)
    refine (HD).mono ?_
    rintro e v15 ⟨rfl, hb15⟩
    have hz15 := hb15.size
    have hB15 := hB14.below hb15 hB14.lt
    have hS_15 := hS_14.below hb15 hS_14.lt
    have hP15 := hP14.below hb15 hP14.lt
    have hQ15 := hQ14.below hb15 hQ14.lt
    have RS15 := RS14.below hb15 (by omega)
    have RG15 := RG14.below hb15 (by omega)
    have RT15 := RT14.below hb15 (by omega)
    have GS15 := GS14.below hb15
    have GG15 := GG14.below hb15
    have GT15 := GT14.below hb15
    have hw15 := hw14.trans (hb15.mono hw14.size)
    clear hB14 hS_14 hP14 hQ14 RS14 RG14 RT14 GS14 GG14 GT14
    clear chQ0 chQ1 chQ2 chQ3 chQ4 chQ5 chQ6
    clear HD
    have chB0 := hB15.cell (i := 0) rfl
    have chB1 := hB15.cell (i := 1) rfl
    have chB2 := hB15.cell (i := 2) rfl
    have chB3 := hB15.cell (i := 3) rfl
    go_wp2_with (fail)
    refine (toTopic_any ⟨nm, bs, H, G⟩ A c B d _ hS' (HA.out _ hw15) (HB.out _ hw15)).mono ?_
    rintro e v16 ⟨g16, c16, h16, d16, rfl, XS16, XG16, _, hb16⟩
    have hz16 := hb16.size
    have hB16 := hB15.below hb16 hB15.lt
    have hS_16 := hS_15.below hb16 hS_15.lt
    have hP16 := hP15.below hb16 hP15.lt
    have hQ16 := hQ15.below hb16 hQ15.lt
    have RS16 := RS15.below hb16 (by omega)
    have RG16 := RG15.below hb16 (by omega)
    have RT16 := RT15.below hb16 (by omega)
    have GS16 := GS15.below hb16
    have GG16 := GG15.below hb16
    have GT16 := GT15.below hb16
    have hw16 := hw15.trans (hb16.mono hw15.size)
    clear hB15 hS_15 hP15 hQ15 RS15 RG15 RT15 GS15 GG15 GT15
    clear chB0 chB1 chB2 chB3
    go_wp2_with (fail)
    refine (Im.out _ _ _ _ _ XS16.strs XG16.grs (Cap.own XS16.1) (Cap.own XG16.1)).mono ?_
    rintro e v17 ⟨A17, a17, B17, b17, T17, x17, rfl, YS17, YG17, YT17, hap17, _, _, hb17⟩
    have hz17 := hb17.size
    have hB17 := hB16.below hb17 hB16.lt
    have hS_17 := hS_16.below hb17 hS_16.lt
    have hP17 := hP16.below hb17 hP16.lt
    have hQ17 := hQ16.below hb17 hQ16.lt
    have XS17 := XS16.below hb17
    have XG17 := XG16.below hb17
    have RS17 := RS16.below hb17 (by omega)
    have RG17 := RG16.below hb17 (by omega)
    have RT17 := RT16.below hb17 (by omega)
    have GS17 := GS16.below hb17
    have GG17 := GG16.below hb17
    have GT17 := GT16.below hb17
    have hw17 := hw16.trans (hb17.mono hw16.size)
    clear hB16 hS_16 hP16 hQ16 XS16 XG16 RS16 RG16 RT16 GS16 GG16 GT16
    clear XS17 XG17
    have hV18 := Blk.fresh v17 31 [.string onm, .int .i64 obs, .slice A17 OH.length a17, .slice B17 OG.length b17, .slice T17 N.length x17, .int .i64 n, .int .i64 co]
    replace hV18 : Blk (v17.alloc (.cells #[.string onm, .int .i64 obs, .slice A17 OH.length a17, .slice B17 OG.length b17, .slice T17 N.length x17, .int .i64 n, .int .i64 co] 31)) v17.heap.size 31 [.string onm, .int .i64 obs, .slice A17 OH.length a17, .slice B17 OG.length b17, .slice T17 N.length x17, .int .i64 n, .int .i64 co] := hV18
    have hb18 : Below v17.heap.size v17 (v17.alloc (.cells #[.string onm, .int .i64 obs, .slice A17 OH.length a17, .slice B17 OG.length b17, .slice T17 N.length x17, .int .i64 n, .int .i64 co] 31)) := (Below.refl _ _).alloc (Nat.le_refl _) _
    have hs18 : (v17.alloc (.cells #[.string onm, .int .i64 obs, .slice A17 OH.length a17, .slice B17 OG.length b17, .slice T17 N.length x17, .int .i64 n, .int .i64 co] 31)).heap.size = v17.heap.size + 1 := by simp
    have qhS_0 := (hS_17.below hb18 hS_17.lt).cell (i := 0) rfl
    have qhS_1 := (hS_17.below hb18 hS_17.lt).cell (i := 1) rfl
    have qhS_2 := (hS_17.below hb18 hS_17.lt).cell (i := 2) rfl
    have qhS_3 := (hS_17.below hb18 hS_17.lt).cell (i := 3) rfl
    have qhS_4 := (hS_17.below hb18 hS_17.lt).cell (i := 4) rfl
    have qhS_5 := (hS_17.below hb18 hS_17.lt).cell (i := 5) rfl
    have qhS_6 := (hS_17.below hb18 hS_17.lt).cell (i := 6) rfl
    have qq0 := hV18.cell (i := 0) rfl
    have qq1 := hV18.cell (i := 1) rfl
    have qq2 := hV18.cell (i := 2) rfl
    have qq3 := hV18.cell (i := 3) rfl
    have qq4 := hV18.cell (i := 4) rfl
    have qq5 := hV18.cell (i := 5) rfl
    have qq6 := hV18.cell (i := 6) rfl
    go_wp2_with (fail)
    clear qhS_0 qhS_1 qhS_2 qhS_3 qhS_4 qhS_5 qhS_6 qq0 qq1 qq2 qq3 qq4 qq5 qq6
    generalize v17.alloc (.cells #[.string onm, .int .i64 obs, .slice A17 OH.length a17, .slice B17 OG.length b17, .slice T17 N.length x17, .int .i64 n, .int .i64 co] 31) = v18 at hV18 hb18 hs18 ⊢
    have hz18 := hb18.size
    have hB18 := hB17.below hb18 hB17.lt
    have hS_18 := hS_17.below hb18 hS_17.lt
    have hP18 := hP17.below hb18 hP17.lt
    have hQ18 := hQ17.below hb18 hQ17.lt
    have RS18 := RS17.below hb18 (by omega)
    have RG18 := RG17.below hb18 (by omega)
    have RT18 := RT17.below hb18 (by omega)
    have GS18 := GS17.below hb18
    have GG18 := GG17.below hb18
    have GT18 := GT17.below hb18
    have YS18 := YS17.below hb18
    have YG18 := YG17.below hb18
    have YT18 := YT17.below hb18
    have hw18 := hw17.trans (hb18.mono hw17.size)
    clear hB17 hS_17 hP17 hQ17 RS17 RG17 RT17 GS17 GG17 GT17 YS17 YG17 YT17
    have chV0 := hV18.cell (i := 0) rfl
    have chV1 := hV18.cell (i := 1) rfl
    have chV2 := hV18.cell (i := 2) rfl
    have chV3 := hV18.cell (i := 3) rfl
    have chV4 := hV18.cell (i := 4) rfl
    have chV5 := hV18.cell (i := 5) rfl
    have chV6 := hV18.cell (i := 6) rfl
    have chS_0 := hS_18.cell (i := 0) rfl
    have chS_1 := hS_18.cell (i := 1) rfl
    have chS_2 := hS_18.cell (i := 2) rfl
    have chS_3 := hS_18.cell (i := 3) rfl
    have chS_4 := hS_18.cell (i := 4) rfl
    have chS_5 := hS_18.cell (i := 5) rfl
    have chS_6 := hS_18.cell (i := 6) rfl
    go_wp2_with (fail)
    refine (eqTopicOut_same onm obs _ _ _ _ _ _ OH OG N n co _ _ _ _ _ _ _ (YS18.strs hOH) (RS18.mono (by omega)) (YG18.grs hOG) (RG18.mono (by omega)) (YT18.strs hN) (RT18.mono (by omega))).mono ?_
    rintro e v19 ⟨rfl, hb19⟩
    have hz19 := hb19.size
    have hB19 := hB18.below hb19 hB18.lt
    have hS_19 := hS_18.below hb19 hS_18.lt
    have hP19 := hP18.below hb19 hP18.lt
    have hQ19 := hQ18.below hb19 hQ18.lt
    have hV19 := hV18.below hb19 hV18.lt
    have RS19 := RS18.below hb19 (by omega)
    have RG19 := RG18.below hb19 (by omega)
    have RT19 := RT18.below hb19 (by omega)
    have GS19 := GS18.below hb19
    have GG19 := GG18.below hb19
    have GT19 := GT18.below hb19
    have YS19 := YS18.below hb19
    have YG19 := YG18.below hb19
    have YT19 := YT18.below hb19
    have hw19 := hw18.trans (hb19.mono hw18.size)
    clear hB18 hS_18 hP18 hQ18 hV18 RS18 RG18 RT18 GS18 GG18 GT18 YS18 YG18 YT18
    clear chV0 chV1 chV2 chV3 chV4 chV5 chV6 chS_0 chS_1 chS_2 chS_3 chS_4 chS_5 chS_6
    have chQ0 := hQ19.cell (i := 0) rfl
    have chQ1 := hQ19.cell (i := 1) rfl
    have chQ2 := hQ19.cell (i := 2) rfl
    have chQ3 := hQ19.cell (i := 3) rfl
    have chQ4 := hQ19.cell (i := 4) rfl
    have chQ5 := hQ19.cell (i := 5) rfl
    have chQ6 := hQ19.cell (i := 6) rfl
    have HD := heldTopicOut_any onm obs _ OH.length a7 _ OG.length b7 _ N.length x7 n co 1 _ (GS19.strs (by rw [markN_len]; exact hOH)) (GG19.grs (by rw [markG_len]; exact hOG)) (GT19.strs (by rw [markN_len]; exact hN)) (by omega) (by omega)
    rw [Hm3.out] at HD
    go_wp2_with (fail)
    refine (HD).mono ?_
    rintro e v20 ⟨rfl, hb20⟩
    have hz20 := hb20.size
    have hB20 := hB19.below hb20 hB19.lt
    have hS_20 := hS_19.below hb20 hS_19.lt
    have hP20 := hP19.below hb20 hP19.lt
    have hQ20 := hQ19.below hb20 hQ19.lt
    have hV20 := hV19.below hb20 hV19.lt
    have RS20 := RS19.below hb20 (by omega)
    have RG20 := RG19.below hb20 (by omega)
    have RT20 := RT19.below hb20 (by omega)
    have GS20 := GS19.below hb20
    have GG20 := GG19.below hb20
    have GT20 := GT19.below hb20
    have YS20 := YS19.below hb20
    have YG20 := YG19.below hb20
    have YT20 := YT19.below hb20
    have hw20 := hw19.trans (hb20.mono hw19.size)
    clear hB19 hS_19 hP19 hQ19 hV19 RS19 RG19 RT19 GS19 GG19 GT19 YS19 YG19 YT19
    clear chQ0 chQ1 chQ2 chQ3 chQ4 chQ5 chQ6
    clear HD
    go_wp2
    go_ret
    exact ⟨rfl, hw20⟩
end Go.Proofs.Ytkimieeabmjfgaa
