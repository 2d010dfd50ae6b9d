/- The walk of the law of SeglogNew. -/
import Derived.Test.YtebkblmejkkhfaaDoorSgNew
import Derived.Test.YtebkblmejkkhfaaDoorSgMark
namespace Go.Proofs.YtebkblmejkkhfaaDoor
open Go.RowKit
set_option linter.unusedVariables false
theorem own_some {w : World} {base : Nat} {v : Value} {L : List Fil} (h : OwnF w base v L) : ∃ A c, v = .slice A L.length c := by
  obtain ⟨A, c, e, _⟩ := h.slice
  exact ⟨A, c, e⟩
set_option maxHeartbeats 4000000 in
set_option maxRecDepth 1000000 in
theorem lawSeglogNew (w : World) (hg : Pow w) :
    Calls Tryd.prog 5 #[] w fun e w' => e = .returned (.bool true) ∧ Below w.heap.size w w' := by
  obtain ⟨L, HL⟩ : ∃ L, Hid ([newF] = L) := ⟨_, Lib.hid rfl⟩
  have hl : L.length ≤ 1 := by rw [← HL.out]; simp
  have hf : ∀ f ∈ L, f.fits := by rw [← HL.out]; simp; exact newF_fits
  have HS := Lib.hid (fun W => specNew_any W)
  have HI := Lib.hid (fun W h => implNew_any W h)
  rw [HL.out] at HS HI
  have HG := Lib.hid (fun W (h : Below w.heap.size w W) => Pow.below hg h)
  clear hg
  go_enter Tryd.func5, Tryd.ntmps5
  go_wp2_with (fail)
  refine (HS.out _).mono ?_
  rintro e v1 ⟨u, rfl, hO1, hw1⟩
  obtain ⟨A1, d1, rfl⟩ := own_some hO1
  have R1 := OwnF.rw hO1
  have hz1 := hw1.size
  clear hO1
  go_wp2_with (fail)
  have hT2 := Blk.fresh v1 35 [.slice A1 L.length d1, .int .i64 0, .int .i64 0]
  have hb2 : Below v1.heap.size v1 (v1.alloc (.cells #[.slice A1 L.length d1, .int .i64 0, .int .i64 0] 35)) := (Below.refl _ _).alloc (Nat.le_refl _) _
  have hz2 : (v1.alloc (.cells #[.slice A1 L.length d1, .int .i64 0, .int .i64 0] 35)).heap.size = v1.heap.size + 1 := by simp
  simp only [List.toArray] at hT2
  generalize v1.alloc (.cells #[.slice A1 L.length d1, .int .i64 0, .int .i64 0] 35) = v2 at hT2 hb2 hz2 ⊢
  have R2 := R1.below hb2
  have hw2 := hw1.trans (hb2.mono hz1)
  clear R1
  refine (HI.out _ (HG.out _ hw2)).mono ?_
  rintro e v3 ⟨u, rfl, hO3, hb3⟩
  obtain ⟨A3, d3, rfl⟩ := own_some hO3
  have G3 := OwnF.rw hO3
  have R3 := R2.below hb3
  have hz3 := hb3.size
  have hT3 := hT2.below hb3 hT2.lt
  have hw3 := hw2.trans (hb3.mono hw2.size)
  clear hO3 R2 hT2
  have hU4 := Blk.fresh v3 35 [.slice A3 L.length d3, .int .i64 0, .int .i64 0]
  have hb4 : Below v3.heap.size v3 (v3.alloc (.cells #[.slice A3 L.length d3, .int .i64 0, .int .i64 0] 35)) := (Below.refl _ _).alloc (Nat.le_refl _) _
  have hz4 : (v3.alloc (.cells #[.slice A3 L.length d3, .int .i64 0, .int .i64 0] 35)).heap.size = v3.heap.size + 1 := by simp
  simp only [List.toArray] at hU4
  have hT4 := hT3.below hb4 hT3.lt
  have t0 := hT4.cell (i := 0) rfl
  have t1 := hT4.cell (i := 1) rfl
  have t2 := hT4.cell (i := 2) rfl
  go_wp2_with (fail)
  generalize v3.alloc (.cells #[.slice A3 L.length d3, .int .i64 0, .int .i64 0] 35) = v4 at hU4 hb4 hz4 hT4 t0 t1 t2 ⊢
  have R4 := R3.below hb4
  have G4 := G3.below hb4
  have hw4 := hw3.trans (hb4.mono hw3.size)
  clear R3 G3 hT3 t0 t1 t2
  refine (eqSeglog_same _ _ L _ _ 0 0 _ (G4.fls hf) (R4.fls hf)).mono ?_
  rintro e v5 ⟨rfl, hb5⟩
  have hz5 := hb5.size
  have R5 := R4.below hb5
  have G5 := G4.below hb5
  have hT5 := hT4.below hb5 hT4.lt
  have hU5 := hU4.below hb5 hU4.lt
  have hw5 := hw4.trans (hb5.mono hw4.size)
  have t0 := hU5.cell (i := 0) rfl
  have t1 := hU5.cell (i := 1) rfl
  have t2 := hU5.cell (i := 2) rfl
  clear R4 G4 hT4 hU4
  go_wp2_with (fail)
  refine (markSeglog_rw _ L _ _ _ 1 0 0 _ G5 hf (by omega) (by omega)).mono ?_
  rintro e v6 ⟨rfl, G6, hg6, hmf⟩
  have hz6 := hg6.size
  have gr := G5.atA
  have hT6 := hT5.off hg6 gr (by omega)
  have hU6 := hU5.off hg6 gr (by omega)
  have hw6 := below_off hw5 hg6 gr (by omega) (Nat.le_refl _)
  have R6 := R5.far hg6 gr (by omega)
  clear t0 t1 t2 R5 G5 hT5 hU5
  have t0 := hU6.cell (i := 0) rfl
  have t1 := hU6.cell (i := 1) rfl
  have t2 := hU6.cell (i := 2) rfl
  go_wp2_with (fail)
  refine (heldSeglog_any _ L.length _ 1 0 0 _ (G6.fls hmf) (by omega) (by omega)).mono ?_
  rintro e v7 ⟨rfl, hb7⟩
  have hz7 := hb7.size
  have R7 := R6.below hb7
  have G7 := G6.below hb7
  have hT7 := hT6.below hb7 hT6.lt
  have hU7 := hU6.below hb7 hU6.lt
  have hw7 := hw6.trans (hb7.mono hw6.size)
  clear t0 t1 t2 R6 G6 hT6 hU6
  go_wp2_with (fail)
  refine (HI.out _ (HG.out _ hw7)).mono ?_
  rintro e v8 ⟨u, rfl, hO8, hb8⟩
  obtain ⟨A8, d8, rfl⟩ := own_some hO8
  have H8 := OwnF.rw hO8
  have R8 := R7.below hb8
  have G8 := G7.below hb8
  have hz8 := hb8.size
  have hT8 := hT7.below hb8 hT7.lt
  have hU8 := hU7.below hb8 hU7.lt
  have hw8 := hw7.trans (hb8.mono hw7.size)
  clear hO8 R7 G7 hT7 hU7
  have hb9 : Below v8.heap.size v8 (v8.alloc (.cells #[.slice A8 L.length d8, .int .i64 0, .int .i64 0] 35)) := (Below.refl _ _).alloc (Nat.le_refl _) _
  have hz9 : (v8.alloc (.cells #[.slice A8 L.length d8, .int .i64 0, .int .i64 0] 35)).heap.size = v8.heap.size + 1 := by simp
  have hT9 := hT8.below hb9 hT8.lt
  have t0 := hT9.cell (i := 0) rfl
  have t1 := hT9.cell (i := 1) rfl
  have t2 := hT9.cell (i := 2) rfl
  go_wp2_with (fail)
  generalize v8.alloc (.cells #[.slice A8 L.length d8, .int .i64 0, .int .i64 0] 35) = v9 at hb9 hz9 hT9 t0 t1 t2 ⊢
  have R9 := R8.below hb9
  have G9 := G8.below hb9
  have H9 := H8.below hb9
  have hU9 := hU8.below hb9 hU8.lt
  have hw9 := hw8.trans (hb9.mono hw8.size)
  clear R8 G8 H8 hT8 hU8 t0 t1 t2
  refine (eqSeglog_same _ _ L _ _ 0 0 _ (H9.fls hf) (R9.fls hf)).mono ?_
  rintro e v10 ⟨rfl, hb10⟩
  have hz10 := hb10.size
  have G10 := G9.below hb10
  have hU10 := hU9.below hb10 hU9.lt
  have hw10 := hw9.trans (hb10.mono hw9.size)
  have t0 := hU10.cell (i := 0) rfl
  have t1 := hU10.cell (i := 1) rfl
  have t2 := hU10.cell (i := 2) rfl
  clear R9 G9 H9 hU9 hT9
  go_wp2_with (fail)
  refine (heldSeglog_any _ L.length _ 1 0 0 _ (G10.fls hmf) (by omega) (by omega)).mono ?_
  rintro e v11 ⟨rfl, hb11⟩
  have hw11 := hw10.trans (hb11.mono hw10.size)
  clear t0 t1 t2
  go_wp2
  go_ret
  exact ⟨rfl, hw11⟩
end Go.Proofs.YtebkblmejkkhfaaDoor
