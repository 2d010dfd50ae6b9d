/- What a call leaves that writes only into blocks from lo up to hi. The walk of the law on SeglogSync. What a card's condition gives of the table of powers of ten. -/
import Derived.Test.YtebkblmejkkhfaaGreatDoorRowkW
import Derived.Test.YtebkblmejkkhfaaGreatDoorSgMarkW
import Derived.Deep.RegionHeld3
import Derived.Test.YtebkblmejkkhfaaGreatDoorScope3W
import Derived.Lib.LaidTab
namespace Go.Proofs.YtebkblmejkkhfaaGreatDoor
open Go.RowKit
set_option linter.unusedVariables false

structure Chg (w w' : World) (lo hi : Nat) : Prop where
  os : w'.os = w.os
  tape : w'.tape = w.tape
  output : w'.output = w.output
  size : w.heap.size ≤ w'.heap.size
  block : ∀ k, k < w.heap.size → (k < lo ∨ hi ≤ k) → w'.heap[k]? = w.heap[k]?
section
variable {w w' w2 : World} {lo hi lo' hi' : Nat}
theorem Chg.of {row : Option Nat} (h : w.grownBy w' row) (hr : ∀ k, row = some k → lo ≤ k ∧ k < hi) : Chg w w' lo hi :=
  ⟨h.os, h.tape, h.output, h.size, fun k hk ho => h.block k hk fun e => by have := hr k e.symm; omega⟩
theorem Chg.trans (h : Chg w w' lo hi) (h2 : Chg w' w2 lo hi) : Chg w w2 lo hi :=
  ⟨h2.os.trans h.os, h2.tape.trans h.tape, h2.output.trans h.output, Nat.le_trans h.size h2.size, fun k hk ho => (h2.block k (by have := h.size; omega) ho).trans (h.block k hk ho)⟩
theorem Chg.after (hb : Below w.heap.size w w') (h : Chg w' w2 lo hi) : Chg w w2 lo hi :=
  ⟨h.os.trans hb.os, h.tape.trans hb.tape, h.output.trans hb.output, Nat.le_trans hb.size h.size, fun k hk ho => (h.block k (by have := hb.size; omega) ho).trans (hb.block k hk)⟩
theorem Chg.thenB (h : Chg w w' lo hi) (hb : Below w'.heap.size w' w2) : Chg w w2 lo hi :=
  ⟨hb.os.trans h.os, hb.tape.trans h.tape, hb.output.trans h.output, Nat.le_trans h.size hb.size, fun k hk ho => (hb.block k (by have := h.size; omega)).trans (h.block k hk ho)⟩
theorem Blk.offC {g : Nat} {t : TypeId} {cs : List Value} (h : Blk w g t cs) (hc : Chg w w' lo hi) (ho : g < lo ∨ hi ≤ g) : Blk w' g t cs := (hc.block g h.lt ho).trans h
theorem Rw.farC {e : TypeId} {size n : Nat} {v : Value} {xs : List Value} (h : Rw w lo' hi' e size v n xs) (hc : Chg w w' lo hi) (ho : hi' ≤ lo ∨ hi ≤ lo') : Rw w' lo' hi' e size v n xs := by
  refine ⟨?_, h.2⟩
  cases hv : v.ownBlock with
  | none =>
    have hg : w.grownBy w v.ownBlock := ⟨rfl, rfl, rfl, Nat.le_refl _, fun _ _ _ => rfl⟩
    rcases h.1.2 with ⟨he, h0⟩ | ⟨g, cap, cur, he, _⟩
    · exact ⟨h.1.1, .inl ⟨he, h0⟩⟩
    · rw [he] at hv; cases hv
  | some k =>
    have h1 := h.at k hv
    rcases h.1.2 with ⟨he, h0⟩ | ⟨g, cap, cur, he, hb, hh, hr⟩
    · rw [he] at hv; cases hv
    · rw [he] at hv
      cases hv
      exact ⟨h.1.1, .inr ⟨g, cap, cur, he, hb, (hc.block g (h.1.lt g (by rw [he]; rfl)).2 (by simp at h1; omega)).trans hh, hr⟩⟩
theorem below_offC {B : Nat} {a : World} (h : Below B a w) (hc : Chg w w' lo hi) (ho : B ≤ lo) (hB : B ≤ a.heap.size) : Below B a w' :=
  ⟨hc.os.trans h.os, hc.tape.trans h.tape, hc.output.trans h.output, Nat.le_trans h.size hc.size, fun k hk => (hc.block k (by have := h.size; omega) (by omega)).trans (h.block k hk)⟩
end
end Go.Proofs.YtebkblmejkkhfaaGreatDoor

namespace Go.Proofs.YtebkblmejkkhfaaGreatDoor
open Go.RowKit
set_option linter.unusedVariables false

set_option maxHeartbeats 8000000 in
set_option maxRecDepth 1000000 in
theorem lawSeglogSync (A : Option Addr) (L : List Fil) (c : Nat) (f m : Int) (w : World) (hL : Fls w w.heap.size A L) (hfw : (Lit.int .i64 f).wf = true) (hmw : (Lit.int .i64 m).wf = true) (hPow : Pow w) (hHandle : Handle w) (hSeg : Seg w) :
    Calls Tryz.prog 6 #[.agg #[.slice A L.length c, .int .i64 f, .int .i64 m]] w fun e w' => e = .returned (.bool true) ∧ Below w.heap.size w w' := by
  have HL : Hid (∀ W, Below w.heap.size w W → Fls W W.heap.size A L) := Lib.hid fun W h => (hL.below h (Nat.le_refl _)).mono h.size
  have HPow : Hid (∀ W, Below w.heap.size w W → Pow W) := Lib.hid fun W h => hPow.below h
  have HHandle : Hid (∀ W, Below w.heap.size w W → Handle W) := Lib.hid fun W h => Handle.below hHandle h
  have HSeg : Hid (∀ W, Below w.heap.size w W → Seg W) := Lib.hid fun W h => hSeg.below h
  have hf : ∀ f ∈ L, f.fits := fun f h => by obtain ⟨i, hi, rfl⟩ := List.getElem_of_mem h; exact (hL.2 i hi).choose_spec.2.2.2.2.2
  have hB0 := Blk.fresh w 58 [.slice A L.length c, .int .i64 f, .int .i64 m]
  have hb0 : Below w.heap.size w (w.alloc (.cells #[.slice A L.length c, .int .i64 f, .int .i64 m] 58)) := (Below.refl _ _).alloc (Nat.le_refl _) _
  have hz0 : (w.alloc (.cells #[.slice A L.length c, .int .i64 f, .int .i64 m] 58)).heap.size = w.heap.size + 1 := by simp
  simp only [List.toArray] at hB0
  go_enter Tryz.func6, Tryz.ntmps6
  have q0 := hB0.cell (i := 0) rfl
  have q1 := hB0.cell (i := 1) rfl
  have q2 := hB0.cell (i := 2) rfl
  go_wp2_with (fail)
  clear q0 q1 q2
  generalize w.alloc (.cells #[.slice A L.length c, .int .i64 f, .int .i64 m] 58) = v0 at hB0 hb0 hz0 ⊢
  refine (szSeglog_any A L c f m _ (HL.out _ hb0)).mono ?_
  rintro e v1 ⟨r, rfl, r0, r1, hS, hb1⟩
  have hz1 := hb1.size
  have hB1 := hB0.below hb1 (by omega)
  have hw1 := hb0.trans (hb1.mono (by omega))
  clear hB0
  by_cases hr : r < 0
  · go_wp2
    go_ret
    exact ⟨rfl, hw1⟩
  · have hS' := hS (by omega)
    have hn := hS'.1
    obtain ⟨M, fo, mo, hM, hMl, hsp, him⟩ := bothSeglogSync L f m hf hS' hfw hmw
    have Sp := Lib.hid hsp
    have Im := Lib.hid him
    clear hsp him
    obtain ⟨m1, Hm1⟩ : ∃ m, Hid (1 + 3 * L.length = m) := ⟨_, Lib.hid rfl⟩
    obtain ⟨m3, Hm3⟩ : ∃ m, Hid (1 + (3 * M.length) = m) := ⟨_, Lib.hid rfl⟩
    have hm1 : 1 ≤ m1 ∧ m1 ≤ 3145729 := by have := Hm1.out; omega
    have hm3 : 1 ≤ m3 ∧ m3 ≤ 7000000 := by have := Hm3.out; omega
    have chB0 := hB1.cell (i := 0) rfl
    have chB1 := hB1.cell (i := 1) rfl
    have chB2 := hB1.cell (i := 2) rfl
    go_wp2_with (fail)
    refine (toSeglog_any A L c f m _ (HL.out _ hw1) hS').mono ?_
    rintro e v2 ⟨g2, d2, rfl, hF2, hb2⟩
    have hz2 := hb2.size
    have hB2 := hB1.below hb2 hB1.lt
    have hw2 := hw1.trans (hb2.mono hw1.size)
    clear hB1
    clear chB0 chB1 chB2
    have T2 := hF2.rw
    clear hF2
    go_wp2_with (fail)
    refine (Sp.out _ _ _ (T2.fls hf) (Rw.capL T2).1 (Rw.capL T2).2).mono ?_
    rintro e v3 ⟨A3, d3, rfl, hO3, hb3⟩
    have hz3 := hb3.size
    have hB3 := hB2.below hb3 hB2.lt
    have T3 := T2.below hb3
    have hw3 := hw2.trans (hb3.mono hw2.size)
    clear hB2 T2
    clear T3
    have RF3 := hO3.rw
    clear hO3
    have hS_4 := Blk.fresh v3 61 [.slice A3 M.length d3, .int .i64 fo, .int .i64 mo]
    simp only [List.toArray] at hS_4
    have hb4 : Below v3.heap.size v3 (v3.alloc (.cells #[.slice A3 M.length d3, .int .i64 fo, .int .i64 mo] 61)) := (Below.refl _ _).alloc (Nat.le_refl _) _
    have hs4 : (v3.alloc (.cells #[.slice A3 M.length d3, .int .i64 fo, .int .i64 mo] 61)).heap.size = v3.heap.size + 1 := by simp
    have qhB0 := (hB3.below hb4 hB3.lt).cell (i := 0) rfl
    have qhB1 := (hB3.below hb4 hB3.lt).cell (i := 1) rfl
    have qhB2 := (hB3.below hb4 hB3.lt).cell (i := 2) rfl
    have qq0 := hS_4.cell (i := 0) rfl
    have qq1 := hS_4.cell (i := 1) rfl
    have qq2 := hS_4.cell (i := 2) rfl
    go_wp2_with (fail)
    clear qhB0 qhB1 qhB2 qq0 qq1 qq2
    generalize v3.alloc (.cells #[.slice A3 M.length d3, .int .i64 fo, .int .i64 mo] 61) = v4 at hS_4 hb4 hs4 ⊢
    have hz4 := hb4.size
    have hB4 := hB3.below hb4 hB3.lt
    have RF4 := RF3.below hb4
    have hw4 := hw3.trans (hb4.mono hw3.size)
    clear hB3 RF3
    have chB0 := hB4.cell (i := 0) rfl
    have chB1 := hB4.cell (i := 1) rfl
    have chB2 := hB4.cell (i := 2) rfl
    go_wp2_with (fail)
    refine (toSeglog_any A L c f m _ (HL.out _ hw4) hS').mono ?_
    rintro e v5 ⟨g5, d5, rfl, hF5, hb5⟩
    have hz5 := hb5.size
    have hB5 := hB4.below hb5 hB4.lt
    have hS_5 := hS_4.below hb5 hS_4.lt
    have RF5 := RF4.below hb5
    have hw5 := hw4.trans (hb5.mono hw4.size)
    clear hB4 hS_4 RF4
    clear chB0 chB1 chB2
    have X5 := hF5.rw
    clear hF5
    have hP6 := Blk.fresh v5 61 [.slice (some ⟨g5, 0, none⟩) L.length d5, .int .i64 f, .int .i64 m]
    simp only [List.toArray] at hP6
    have hb6 : Below v5.heap.size v5 (v5.alloc (.cells #[.slice (some ⟨g5, 0, none⟩) L.length d5, .int .i64 f, .int .i64 m] 61)) := (Below.refl _ _).alloc (Nat.le_refl _) _
    have hs6 : (v5.alloc (.cells #[.slice (some ⟨g5, 0, none⟩) L.length d5, .int .i64 f, .int .i64 m] 61)).heap.size = v5.heap.size + 1 := by simp
    have qq0 := hP6.cell (i := 0) rfl
    have qq1 := hP6.cell (i := 1) rfl
    have qq2 := hP6.cell (i := 2) rfl
    go_wp2_with (fail)
    clear qq0 qq1 qq2
    generalize v5.alloc (.cells #[.slice (some ⟨g5, 0, none⟩) L.length d5, .int .i64 f, .int .i64 m] 61) = v6 at hP6 hb6 hs6 ⊢
    have hz6 := hb6.size
    have hB6 := hB5.below hb6 hB5.lt
    have hS_6 := hS_5.below hb6 hS_5.lt
    have RF6 := RF5.below hb6
    have X6 := X5.below hb6
    have hw6 := hw5.trans (hb6.mono hw5.size)
    clear hB5 hS_5 RF5 X5
    have chP0 := hP6.cell (i := 0) rfl
    have chP1 := hP6.cell (i := 1) rfl
    have chP2 := hP6.cell (i := 2) rfl
    go_wp2_with (fail)
    refine (Im.out _ _ _ (X6.fls hf) (Rw.capL X6).1 (Rw.capL X6).2 (HPow.out _ hw6) (HHandle.out _ hw6) (HSeg.out _ hw6)).mono ?_
    rintro e v7 ⟨A7, d7, rfl, hO7, hb7⟩
    have hz7 := hb7.size
    have hB7 := hB6.below hb7 hB6.lt
    have hS_7 := hS_6.below hb7 hS_6.lt
    have hP7 := hP6.below hb7 hP6.lt
    have RF7 := RF6.below hb7
    have X7 := X6.below hb7
    have hw7 := hw6.trans (hb7.mono hw6.size)
    clear hB6 hS_6 hP6 RF6 X6
    clear chP0 chP1 chP2
    have GF7 := hO7.rw
    clear hO7
    have hQ8 := Blk.fresh v7 61 [.slice A7 M.length d7, .int .i64 fo, .int .i64 mo]
    simp only [List.toArray] at hQ8
    have hb8 : Below v7.heap.size v7 (v7.alloc (.cells #[.slice A7 M.length d7, .int .i64 fo, .int .i64 mo] 61)) := (Below.refl _ _).alloc (Nat.le_refl _) _
    have hs8 : (v7.alloc (.cells #[.slice A7 M.length d7, .int .i64 fo, .int .i64 mo] 61)).heap.size = v7.heap.size + 1 := by simp
    have qhS_0 := (hS_7.below hb8 hS_7.lt).cell (i := 0) rfl
    have qhS_1 := (hS_7.below hb8 hS_7.lt).cell (i := 1) rfl
    have qhS_2 := (hS_7.below hb8 hS_7.lt).cell (i := 2) rfl
    have qq0 := hQ8.cell (i := 0) rfl
    have qq1 := hQ8.cell (i := 1) rfl
    have qq2 := hQ8.cell (i := 2) rfl
    go_wp2_with (fail)
    clear qhS_0 qhS_1 qhS_2 qq0 qq1 qq2
    generalize v7.alloc (.cells #[.slice A7 M.length d7, .int .i64 fo, .int .i64 mo] 61) = v8 at hQ8 hb8 hs8 ⊢
    have hz8 := hb8.size
    have hB8 := hB7.below hb8 hB7.lt
    have hS_8 := hS_7.below hb8 hS_7.lt
    have hP8 := hP7.below hb8 hP7.lt
    have RF8 := RF7.below hb8
    have X8 := X7.below hb8
    have GF8 := GF7.below hb8
    have hw8 := hw7.trans (hb8.mono hw7.size)
    clear hB7 hS_7 hP7 RF7 X7 GF7
    have chQ0 := hQ8.cell (i := 0) rfl
    have chQ1 := hQ8.cell (i := 1) rfl
    have chQ2 := hQ8.cell (i := 2) rfl
    have chS_0 := hS_8.cell (i := 0) rfl
    have chS_1 := hS_8.cell (i := 1) rfl
    have chS_2 := hS_8.cell (i := 2) rfl
    go_wp2_with (fail)
    refine (eqSeglog_same _ _ M _ _ fo mo _ (GF8.fls hM) (RF8.fls hM)).mono ?_
    rintro e v9 ⟨rfl, hb9⟩
    have hz9 := hb9.size
    have hB9 := hB8.below hb9 hB8.lt
    have hS_9 := hS_8.below hb9 hS_8.lt
    have hP9 := hP8.below hb9 hP8.lt
    have hQ9 := hQ8.below hb9 hQ8.lt
    have RF9 := RF8.below hb9
    have X9 := X8.below hb9
    have GF9 := GF8.below hb9
    have hw9 := hw8.trans (hb9.mono hw8.size)
    clear hB8 hS_8 hP8 hQ8 RF8 X8 GF8
    clear chQ0 chQ1 chQ2 chS_0 chS_1 chS_2
    have chB0 := hB9.cell (i := 0) rfl
    have chB1 := hB9.cell (i := 1) rfl
    have chB2 := hB9.cell (i := 2) rfl
    have chP0 := hP9.cell (i := 0) rfl
    have chP1 := hP9.cell (i := 1) rfl
    have chP2 := hP9.cell (i := 2) rfl
    go_wp2_with (fail)
    have z0 : v9.drew.cell? ⟨w.heap.size, 0, none⟩ = some (.slice A L.length c) := chB0
    have z1 : v9.drew.cell? ⟨w.heap.size, 1, none⟩ = some (.int .i64 f) := chB1
    have z2 : v9.drew.cell? ⟨w.heap.size, 2, none⟩ = some (.int .i64 m) := chB2
    have z3 : v9.drew.cell? ⟨v5.heap.size, 0, none⟩ = some (.slice (some ⟨g5, 0, none⟩) L.length d5) := chP0
    have z4 : v9.drew.cell? ⟨v5.heap.size, 1, none⟩ = some (.int .i64 f) := chP1
    have z5 : v9.drew.cell? ⟨v5.heap.size, 2, none⟩ = some (.int .i64 m) := chP2
    have Xd : Rw v9.drew v4.heap.size v5.heap.size 53 3 (.slice (some ⟨g5, 0, none⟩) L.length d5) L.length (flat L) := X9
    go_region_held3 (fun W => W.cell? ⟨w.heap.size, 0, none⟩ = some (.slice A L.length c) ∧ W.cell? ⟨w.heap.size, 1, none⟩ = some (.int .i64 f) ∧ W.cell? ⟨w.heap.size, 2, none⟩ = some (.int .i64 m) ∧ W.cell? ⟨v5.heap.size, 0, none⟩ = some (.slice (some ⟨g5, 0, none⟩) L.length d5) ∧ W.cell? ⟨v5.heap.size, 1, none⟩ = some (.int .i64 f) ∧ W.cell? ⟨v5.heap.size, 2, none⟩ = some (.int .i64 m))
      (first
        | exact ⟨z0, z1, z2, z3, z4, z5⟩
        | exact ⟨kept_cell hb10 z0, kept_cell hb10 z1, kept_cell hb10 z2, kept_cell hb10 z3, kept_cell hb10 z4, kept_cell hb10 z5⟩
        | exact ⟨kept_cell hb11 (kept_cell hb10 z0), kept_cell hb11 (kept_cell hb10 z1), kept_cell hb11 (kept_cell hb10 z2), kept_cell hb11 (kept_cell hb10 z3), kept_cell hb11 (kept_cell hb10 z4), kept_cell hb11 (kept_cell hb10 z5)⟩)
      (first
        | (go_at_call 41; refine (toSeglog_any A L c f m _ (HL.out _ (below_drew hw9)) hS').mono ?_; rintro e v10 ⟨g10, d10, rfl, hF10, hb10⟩)
        | (go_at_call 44; refine (eqSeglog_same _ _ L _ _ f m _ ((Xd.below hb10).fls hf) (OwnF.fls hF10)).mono ?_; rintro e v11 ⟨rfl, hb11⟩))
    have hbz : Below v9.heap.size v9 v11 := (below_drew (Below.refl _ v9)).trans ((hb10.trans (hb11.mono hb10.size)).mono (Nat.le_refl _))
    clear chB0 chB1 chB2 chP0 chP1 chP2
    clear z0 z1 z2 z3 z4 z5 Xd hF10
    have hz11 := hbz.size
    have hB11 := hB9.below hbz hB9.lt
    have hS_11 := hS_9.below hbz hS_9.lt
    have hP11 := hP9.below hbz hP9.lt
    have hQ11 := hQ9.below hbz hQ9.lt
    have RF11 := RF9.below hbz
    have X11 := X9.below hbz
    have GF11 := GF9.below hbz
    have hw11 := hw9.trans (hbz.mono hw9.size)
    clear hB9 hS_9 hP9 hQ9 RF9 X9 GF9
    have chP0 := hP11.cell (i := 0) rfl
    have chP1 := hP11.cell (i := 1) rfl
    have chP2 := hP11.cell (i := 2) rfl
    have MX := markSeglog_rw _ L _ _ _ 1 f m _ X11 hf (by omega) (by omega)
    have xr := X11.atA
    rw [Hm1.out] at MX
    clear X11
    go_wp2_with (fail)
    refine MX.mono ?_
    rintro e v12 ⟨rfl, hX, hg, hf9⟩
    have hc12 := Chg.of hg xr
    clear hg hX hf9 xr MX
    have hz12 := hc12.size
    have hB12 := hB11.offC hc12 (by omega)
    have hS_12 := hS_11.offC hc12 (by omega)
    have hP12 := hP11.offC hc12 (by omega)
    have hQ12 := hQ11.offC hc12 (by omega)
    have RF12 := RF11.farC hc12 (by omega)
    have GF12 := GF11.farC hc12 (by omega)
    have hw12 := below_offC hw11 hc12 (by omega) (Nat.le_refl _)
    clear hB11 hS_11 hP11 hQ11 RF11 GF11
    clear chP0 chP1 chP2
    have hlast : ¬ ((m1 : Int) < 0) := by omega
    have chQ0 := hQ12.cell (i := 0) rfl
    have chQ1 := hQ12.cell (i := 1) rfl
    have chQ2 := hQ12.cell (i := 2) rfl
    have chS_0 := hS_12.cell (i := 0) rfl
    have chS_1 := hS_12.cell (i := 1) rfl
    have chS_2 := hS_12.cell (i := 2) rfl
    go_wp2_with (fail)
    refine (eqSeglog_same _ _ M _ _ fo mo _ (GF12.fls hM) (RF12.fls hM)).mono ?_
    rintro e v13 ⟨rfl, hb13⟩
    have hz13 := hb13.size
    have hB13 := hB12.below hb13 hB12.lt
    have hS_13 := hS_12.below hb13 hS_12.lt
    have hP13 := hP12.below hb13 hP12.lt
    have hQ13 := hQ12.below hb13 hQ12.lt
    have RF13 := RF12.below hb13
    have GF13 := GF12.below hb13
    have hw13 := hw12.trans (hb13.mono hw12.size)
    clear hB12 hS_12 hP12 hQ12 RF12 GF12
    clear chQ0 chQ1 chQ2 chS_0 chS_1 chS_2
    clear hlast
    have chQ0 := hQ13.cell (i := 0) rfl
    have chQ1 := hQ13.cell (i := 1) rfl
    have chQ2 := hQ13.cell (i := 2) rfl
    have MG := markSeglog_rw _ M _ _ _ 1 fo mo _ GF13 hM (by omega) (by omega)
    have gr := GF13.atA
    rw [Hm3.out] at MG
    clear GF13
    go_wp2_with (fail)
    refine MG.mono ?_
    rintro e v14 ⟨rfl, GF14, hg, hf9⟩
    have hc14 := Chg.of hg gr
    clear hg gr MG
    have hz14 := hc14.size
    have hB14 := hB13.offC hc14 (by omega)
    have hS_14 := hS_13.offC hc14 (by omega)
    have hP14 := hP13.offC hc14 (by omega)
    have hQ14 := hQ13.offC hc14 (by omega)
    have RF14 := RF13.farC hc14 (by omega)
    have hw14 := below_offC hw13 hc14 (by omega) (Nat.le_refl _)
    clear hB13 hS_13 hP13 hQ13 RF13
    clear chQ0 chQ1 chQ2
    have hlast : ¬ ((m3 : Int) < 0) := by omega
    have chQ0 := hQ14.cell (i := 0) rfl
    have chQ1 := hQ14.cell (i := 1) rfl
    have chQ2 := hQ14.cell (i := 2) rfl
    have HD := heldSeglog_any _ M.length d7 1 fo mo _ (GF14.fls hf9) (by omega) (by omega)
    rw [Hm3.out] at HD
    go_wp2_with (fail)
    refine (HD).mono ?_
    rintro e v15 ⟨rfl, hb15⟩
    have hz15 := hb15.size
    have hB15 := hB14.below hb15 hB14.lt
    have hS_15 := hS_14.below hb15 hS_14.lt
    have hP15 := hP14.below hb15 hP14.lt
    have hQ15 := hQ14.below hb15 hQ14.lt
    have RF15 := RF14.below hb15
    have GF15 := GF14.below hb15
    have hw15 := hw14.trans (hb15.mono hw14.size)
    clear hB14 hS_14 hP14 hQ14 RF14 GF14
    clear chQ0 chQ1 chQ2
    clear HD
    have chB0 := hB15.cell (i := 0) rfl
    have chB1 := hB15.cell (i := 1) rfl
    have chB2 := hB15.cell (i := 2) rfl
    go_wp2_with (fail)
    refine (toSeglog_any A L c f m _ (HL.out _ hw15) hS').mono ?_
    rintro e v16 ⟨g16, d16, rfl, hF16, hb16⟩
    have hz16 := hb16.size
    have hB16 := hB15.below hb16 hB15.lt
    have hS_16 := hS_15.below hb16 hS_15.lt
    have hP16 := hP15.below hb16 hP15.lt
    have hQ16 := hQ15.below hb16 hQ15.lt
    have RF16 := RF15.below hb16
    have GF16 := GF15.below hb16
    have hw16 := hw15.trans (hb16.mono hw15.size)
    clear hB15 hS_15 hP15 hQ15 RF15 GF15
    clear chB0 chB1 chB2
    have X16 := hF16.rw
    clear hF16
    go_wp2_with (fail)
    refine (Im.out _ _ _ (X16.fls hf) (Rw.capL X16).1 (Rw.capL X16).2 (HPow.out _ hw16) (HHandle.out _ hw16) (HSeg.out _ hw16)).mono ?_
    rintro e v17 ⟨A17, d17, rfl, hO17, hb17⟩
    have hz17 := hb17.size
    have hB17 := hB16.below hb17 hB16.lt
    have hS_17 := hS_16.below hb17 hS_16.lt
    have hP17 := hP16.below hb17 hP16.lt
    have hQ17 := hQ16.below hb17 hQ16.lt
    have RF17 := RF16.below hb17
    have GF17 := GF16.below hb17
    have X17 := X16.below hb17
    have hw17 := hw16.trans (hb17.mono hw16.size)
    clear hB16 hS_16 hP16 hQ16 RF16 GF16 X16
    clear X17
    have YF17 := hO17.rw
    clear hO17
    have hV18 := Blk.fresh v17 61 [.slice A17 M.length d17, .int .i64 fo, .int .i64 mo]
    simp only [List.toArray] at hV18
    have hb18 : Below v17.heap.size v17 (v17.alloc (.cells #[.slice A17 M.length d17, .int .i64 fo, .int .i64 mo] 61)) := (Below.refl _ _).alloc (Nat.le_refl _) _
    have hs18 : (v17.alloc (.cells #[.slice A17 M.length d17, .int .i64 fo, .int .i64 mo] 61)).heap.size = v17.heap.size + 1 := by simp
    have qhS_0 := (hS_17.below hb18 hS_17.lt).cell (i := 0) rfl
    have qhS_1 := (hS_17.below hb18 hS_17.lt).cell (i := 1) rfl
    have qhS_2 := (hS_17.below hb18 hS_17.lt).cell (i := 2) rfl
    have qq0 := hV18.cell (i := 0) rfl
    have qq1 := hV18.cell (i := 1) rfl
    have qq2 := hV18.cell (i := 2) rfl
    go_wp2_with (fail)
    clear qhS_0 qhS_1 qhS_2 qq0 qq1 qq2
    generalize v17.alloc (.cells #[.slice A17 M.length d17, .int .i64 fo, .int .i64 mo] 61) = v18 at hV18 hb18 hs18 ⊢
    have hz18 := hb18.size
    have hB18 := hB17.below hb18 hB17.lt
    have hS_18 := hS_17.below hb18 hS_17.lt
    have hP18 := hP17.below hb18 hP17.lt
    have hQ18 := hQ17.below hb18 hQ17.lt
    have RF18 := RF17.below hb18
    have GF18 := GF17.below hb18
    have YF18 := YF17.below hb18
    have hw18 := hw17.trans (hb18.mono hw17.size)
    clear hB17 hS_17 hP17 hQ17 RF17 GF17 YF17
    have chV0 := hV18.cell (i := 0) rfl
    have chV1 := hV18.cell (i := 1) rfl
    have chV2 := hV18.cell (i := 2) rfl
    have chS_0 := hS_18.cell (i := 0) rfl
    have chS_1 := hS_18.cell (i := 1) rfl
    have chS_2 := hS_18.cell (i := 2) rfl
    go_wp2_with (fail)
    refine (eqSeglog_same _ _ M _ _ fo mo _ (YF18.fls hM) (RF18.fls hM)).mono ?_
    rintro e v19 ⟨rfl, hb19⟩
    have hz19 := hb19.size
    have hB19 := hB18.below hb19 hB18.lt
    have hS_19 := hS_18.below hb19 hS_18.lt
    have hP19 := hP18.below hb19 hP18.lt
    have hQ19 := hQ18.below hb19 hQ18.lt
    have hV19 := hV18.below hb19 hV18.lt
    have RF19 := RF18.below hb19
    have GF19 := GF18.below hb19
    have YF19 := YF18.below hb19
    have hw19 := hw18.trans (hb19.mono hw18.size)
    clear hB18 hS_18 hP18 hQ18 hV18 RF18 GF18 YF18
    clear chV0 chV1 chV2 chS_0 chS_1 chS_2
    have chQ0 := hQ19.cell (i := 0) rfl
    have chQ1 := hQ19.cell (i := 1) rfl
    have chQ2 := hQ19.cell (i := 2) rfl
    have HD := heldSeglog_any _ M.length d7 1 fo mo _ (GF19.fls hf9) (by omega) (by omega)
    rw [Hm3.out] at HD
    go_wp2_with (fail)
    refine (HD).mono ?_
    rintro e v20 ⟨rfl, hb20⟩
    have hz20 := hb20.size
    have hB20 := hB19.below hb20 hB19.lt
    have hS_20 := hS_19.below hb20 hS_19.lt
    have hP20 := hP19.below hb20 hP19.lt
    have hQ20 := hQ19.below hb20 hQ19.lt
    have hV20 := hV19.below hb20 hV19.lt
    have RF20 := RF19.below hb20
    have GF20 := GF19.below hb20
    have YF20 := YF19.below hb20
    have hw20 := hw19.trans (hb20.mono hw19.size)
    clear hB19 hS_19 hP19 hQ19 hV19 RF19 GF19 YF19
    clear chQ0 chQ1 chQ2
    clear HD
    go_wp2
    go_ret
    exact ⟨rfl, hw20⟩
end Go.Proofs.YtebkblmejkkhfaaGreatDoor

namespace Go.Proofs.YtebkblmejkkhfaaGreatDoor
open Go.RowKit Go.ChangeShapes Go.WideShapes Go.ChangeAt
set_option linter.unusedVariables false
theorem pow_of_head {W : World} {rest : List (String × DataW Unit)} (h : laidMet Tryz.prog (("internal/strconv.uint64pow10", Lib.tabData .u64 Lib.pow10Tab) :: rest) W) : Pow W :=
  Lib.tabIs_of_head (k := .u64) (zs := Lib.pow10Tab) (n := Lib.pow10Tab.length) gPow (t := 213) (e := 141) (by kernel_rfl) Tryz.underlying213 Tryz.underlying141 (by kernel_rfl) (by kernel_rfl) h
end Go.Proofs.YtebkblmejkkhfaaGreatDoor
