/- The walk of the law on FsCrash. -/
import Derived.Test.YtmdjfgnmjelmhaaFilCrashI
import Derived.Test.YtmdjfgnmjelmhaaFilCrashS
import Derived.Test.YtmdjfgnmjelmhaaMarkF
import Derived.Test.YtmdjfgnmjelmhaaRowk
import Derived.Test.YtmdjfgnmjelmhaaFilEq
namespace Go.Proofs.Ytmdjfgnmjelmhaa
open Go.RowKit
set_option linter.unusedVariables false

set_option maxHeartbeats 4000000 in
theorem lawFsCrash (A : Option Addr) (L : List Fil) (c : Nat) (B : Option Addr) (K : List Int) (d : Nat) (w : World) (hL : Fls w w.heap.size A L) (hK : Nms w w.heap.size B K) :
    Calls Try.prog 5 #[.agg #[.slice A L.length c], .slice B K.length d] w fun e w' => e = .returned (.bool true) ∧ Below w.heap.size w w' := by
  have HL : Hid (∀ W, Below w.heap.size w W → Fls W W.heap.size A L) := Lib.hid fun W h => (hL.below h (Nat.le_refl _)).mono h.size
  have HK : Hid (∀ W, Below w.heap.size w W → Nms W W.heap.size B K) := Lib.hid fun W h => (hK.below h (Nat.le_refl _)).mono h.size
  have hf : ∀ f ∈ L, f.fits := fun f h => by obtain ⟨i, hi, rfl⟩ := List.getElem_of_mem h; exact (hL.2 i hi).choose_spec.2.2.2.2.2
  have hKf : ∀ x ∈ K, -9223372036854775808 ≤ x ∧ x ≤ 9223372036854775807 := fun x h => by obtain ⟨i, hi, rfl⟩ := List.getElem_of_mem h; exact (hK.2 i hi).choose_spec.2.2.2
  have hB0 := Blk.fresh w 24 [.slice A L.length c]
  have hb0 : Below w.heap.size w (w.alloc (.cells #[.slice A L.length c] 24)) := (Below.refl _ _).alloc (Nat.le_refl _) _
  have hz0 : (w.alloc (.cells #[.slice A L.length c] 24)).heap.size = w.heap.size + 1 := by simp
  obtain ⟨M, HM⟩ : ∃ M, Hid (crashL L K = M) := ⟨_, Lib.hid rfl⟩
  by_cases hbig : 1048576 < K.length
  · have hbig' : (1048576 : Int) < (K.length : Int) := by omega
    go_enter Try.func5, Try.ntmps5
    go_wp2
    go_ret
    exact ⟨rfl, hb0⟩
  have hbig' : ¬ (1048576 : Int) < (K.length : Int) := by omega
  have hKn : K.length ≤ 1048576 := by omega
  go_enter Try.func5, Try.ntmps5
  go_wp2_with (fail)
  generalize w.alloc (.cells #[.slice A L.length c] 24) = v0 at hB0 hb0 hz0 ⊢
  refine (szFs_any A L c _ (HL.out _ hb0)).mono ?_
  rintro e v1 ⟨r, rfl, r0, r1, hS, hb1⟩
  have hz1 := hb1.size
  have hB1 := hB0.below hb1 (by omega)
  have hw1 := hb0.trans (hb1.mono (by omega))
  clear hB0
  by_cases hr : r < 0
  · have c1 := hB1.cell (i := 0) rfl
    go_wp2
    go_ret
    exact ⟨rfl, hw1⟩
  · have hS' := hS (by omega)
    have hn := hS'.1
    have hMM : (∀ f ∈ M, f.fits) ∧ M.length ≤ L.length := by
      rw [← HM.out]; unfold crashL
      split
      · simp
      · exact ⟨(crashG_ok hf hS').1, by rw [crashG_len]; exact Nat.le_refl _⟩
    obtain ⟨hM, hMl⟩ := hMM
    obtain ⟨m1, Hm1⟩ : ∃ m, Hid (1 + 3 * L.length = m) := ⟨_, Lib.hid rfl⟩
    obtain ⟨m2, Hm2⟩ : ∃ m, Hid (m1 + K.length = m) := ⟨_, Lib.hid rfl⟩
    obtain ⟨m3, Hm3⟩ : ∃ m, Hid (1 + 3 * M.length = m) := ⟨_, Lib.hid rfl⟩
    have hm1 : 1 ≤ m1 ∧ m1 ≤ 3145729 := by have := Hm1.out; omega
    have chB := hB1.cell (i := 0) rfl
    go_wp2_with (fail)
    refine (toFs_any A L c _ (HL.out _ hw1) hS').mono ?_
    rintro e v2 ⟨g2, d2, rfl, hF2, hb2⟩
    have hz2 := hb2.size
    have hB2 := hB1.below hb2 hB1.lt
    have hw2 := hw1.trans (hb2.mono hw1.size)
    clear hB1
    clear chB
    have T2 := hF2.rw
    clear hF2
    go_wp2_with (fail)
    refine (toInt64S_any B K d _ (HK.out _ hw2) hKn).mono ?_
    rintro e v3 ⟨g3, d3, rfl, I3, hb3⟩
    have hz3 := hb3.size
    have hB3 := hB2.below hb3 hB2.lt
    have T3 := T2.below hb3
    have hw3 := hw2.trans (hb3.mono hw2.size)
    clear hB2 T2
    have hI3 := I3.nms hKf
    go_wp2_with (fail)
    refine (specCrash_any _ L _ _ K _ _ (T3.fls hf) hS' hI3 hKn).mono ?_
    rintro e v4 ⟨A4, d4, rfl, hO4, hb4⟩
    have hz4 := hb4.size
    have hB4 := hB3.below hb4 hB3.lt
    have T4 := T3.below hb4
    have I4 := I3.below hb4
    have hw4 := hw3.trans (hb4.mono hw3.size)
    clear hB3 T3 I3
    clear T4 I4 hI3
    rw [HM.out] at hO4 ⊢
    have R4 := hO4.rw
    clear hO4
    have hS_5 := Blk.fresh v4 29 [.slice A4 M.length d4]
    have hb5 : Below v4.heap.size v4 (v4.alloc (.cells #[.slice A4 M.length d4] 29)) := (Below.refl _ _).alloc (Nat.le_refl _) _
    have hs5 : (v4.alloc (.cells #[.slice A4 M.length d4] 29)).heap.size = v4.heap.size + 1 := by simp
    have qhB := (hB4.below hb5 hB4.lt).cell (i := 0) rfl
    have qq := hS_5.cell (i := 0) rfl
    go_wp2_with (fail)
    clear qq qhB
    generalize v4.alloc (.cells #[.slice A4 M.length d4] 29) = v5 at hS_5 hb5 hs5 ⊢
    have hz5 := hb5.size
    have hB5 := hB4.below hb5 hB4.lt
    have R5 := R4.below hb5
    have hw5 := hw4.trans (hb5.mono hw4.size)
    clear hB4 R4
    have chB := hB5.cell (i := 0) rfl
    go_wp2_with (fail)
    refine (toFs_any A L c _ (HL.out _ hw5) hS').mono ?_
    rintro e v6 ⟨g6, d6, rfl, hF6, hb6⟩
    have hz6 := hb6.size
    have hB6 := hB5.below hb6 hB5.lt
    have hS_6 := hS_5.below hb6 hS_5.lt
    have R6 := R5.below hb6
    have hw6 := hw5.trans (hb6.mono hw5.size)
    clear hB5 hS_5 R5
    clear chB
    have X6 := hF6.rw
    clear hF6
    have hP7 := Blk.fresh v6 29 [.slice (some ⟨g6, 0, none⟩) L.length d6]
    have hb7 : Below v6.heap.size v6 (v6.alloc (.cells #[.slice (some ⟨g6, 0, none⟩) L.length d6] 29)) := (Below.refl _ _).alloc (Nat.le_refl _) _
    have hs7 : (v6.alloc (.cells #[.slice (some ⟨g6, 0, none⟩) L.length d6] 29)).heap.size = v6.heap.size + 1 := by simp
    have qq := hP7.cell (i := 0) rfl
    go_wp2_with (fail)
    clear qq 
    generalize v6.alloc (.cells #[.slice (some ⟨g6, 0, none⟩) L.length d6] 29) = v7 at hP7 hb7 hs7 ⊢
    have hz7 := hb7.size
    have hB7 := hB6.below hb7 hB6.lt
    have hS_7 := hS_6.below hb7 hS_6.lt
    have R7 := R6.below hb7
    have X7 := X6.below hb7
    have hw7 := hw6.trans (hb7.mono hw6.size)
    clear hB6 hS_6 R6 X6
    go_wp2_with (fail)
    refine (toInt64S_any B K d _ (HK.out _ hw7) hKn).mono ?_
    rintro e v8 ⟨g8, d8, rfl, N8, hb8⟩
    have hz8 := hb8.size
    have hB8 := hB7.below hb8 hB7.lt
    have hS_8 := hS_7.below hb8 hS_7.lt
    have hP8 := hP7.below hb8 hP7.lt
    have R8 := R7.below hb8
    have X8 := X7.below hb8
    have hw8 := hw7.trans (hb8.mono hw7.size)
    clear hB7 hS_7 hP7 R7 X7
    have chP := hP8.cell (i := 0) rfl
    have hN8 := N8.nms hKf
    go_wp2_with (fail)
    refine (implCrash_any _ L _ _ K _ _ (X8.fls hf) hS' hN8 hKn).mono ?_
    rintro e v9 ⟨A9, d9, rfl, hO9, hb9⟩
    have hz9 := hb9.size
    have hB9 := hB8.below hb9 hB8.lt
    have hS_9 := hS_8.below hb9 hS_8.lt
    have hP9 := hP8.below hb9 hP8.lt
    have R9 := R8.below hb9
    have X9 := X8.below hb9
    have N9 := N8.below hb9
    have hw9 := hw8.trans (hb9.mono hw8.size)
    clear hB8 hS_8 hP8 R8 X8 N8
    clear chP
    clear hN8
    rw [HM.out] at hO9 ⊢
    have G9 := hO9.rw
    clear hO9
    have hQ10 := Blk.fresh v9 29 [.slice A9 M.length d9]
    have hb10 : Below v9.heap.size v9 (v9.alloc (.cells #[.slice A9 M.length d9] 29)) := (Below.refl _ _).alloc (Nat.le_refl _) _
    have hs10 : (v9.alloc (.cells #[.slice A9 M.length d9] 29)).heap.size = v9.heap.size + 1 := by simp
    have qhS_ := (hS_9.below hb10 hS_9.lt).cell (i := 0) rfl
    have qq := hQ10.cell (i := 0) rfl
    go_wp2_with (fail)
    clear qq qhS_
    generalize v9.alloc (.cells #[.slice A9 M.length d9] 29) = v10 at hQ10 hb10 hs10 ⊢
    have hz10 := hb10.size
    have hB10 := hB9.below hb10 hB9.lt
    have hS_10 := hS_9.below hb10 hS_9.lt
    have hP10 := hP9.below hb10 hP9.lt
    have R10 := R9.below hb10
    have X10 := X9.below hb10
    have N10 := N9.below hb10
    have G10 := G9.below hb10
    have hw10 := hw9.trans (hb10.mono hw9.size)
    clear hB9 hS_9 hP9 R9 X9 N9 G9
    have chQ := hQ10.cell (i := 0) rfl
    have chS_ := hS_10.cell (i := 0) rfl
    go_wp2_with (fail)
    refine (eqFs_same _ _ M _ _ _ (G10.fls hM) (R10.fls hM)).mono ?_
    rintro e v11 ⟨rfl, hb11⟩
    have hz11 := hb11.size
    have hB11 := hB10.below hb11 hB10.lt
    have hS_11 := hS_10.below hb11 hS_10.lt
    have hP11 := hP10.below hb11 hP10.lt
    have hQ11 := hQ10.below hb11 hQ10.lt
    have R11 := R10.below hb11
    have X11 := X10.below hb11
    have N11 := N10.below hb11
    have G11 := G10.below hb11
    have hw11 := hw10.trans (hb11.mono hw10.size)
    clear hB10 hS_10 hP10 hQ10 R10 X10 N10 G10
    clear chQ chS_
    have chB := hB11.cell (i := 0) rfl
    have chP := hP11.cell (i := 0) rfl
    go_wp2_with (fail)
    have z0 : v11.drew.cell? ⟨w.heap.size, 0, none⟩ = some (.slice A L.length c) := chB
    have z1 : v11.drew.cell? ⟨v6.heap.size, 0, none⟩ = some (.slice (some ⟨g6, 0, none⟩) L.length d6) := chP
    have X11d : Rw v11.drew v5.heap.size v6.heap.size 46 3 (.slice (some ⟨g6, 0, none⟩) L.length d6) L.length (flat L) := X11
    go_region_held3 (fun W => W.cell? ⟨w.heap.size, 0, none⟩ = some (.slice A L.length c) ∧ W.cell? ⟨v6.heap.size, 0, none⟩ = some (.slice (some ⟨g6, 0, none⟩) L.length d6))
      (first
        | exact ⟨z0, z1⟩
        | exact ⟨kept_cell hb12 z0, kept_cell hb12 z1⟩
        | exact ⟨kept_cell hb13 (kept_cell hb12 z0), kept_cell hb13 (kept_cell hb12 z1)⟩)
      (first
        | (go_at_call 8; refine (toFs_any A L c _ (HL.out _ (below_drew hw11)) hS').mono ?_; rintro e v12 ⟨g12, d12, rfl, hF12, hb12⟩)
        | (go_at_call 10; refine (eqFs_same _ _ L _ _ _ ((X11d.below hb12).fls hf) (OwnF.fls hF12)).mono ?_; rintro e v13 ⟨rfl, hb13⟩))
    have hb113 : Below v11.heap.size v11 v13 := (below_drew (Below.refl _ v11)).trans ((hb12.trans (hb13.mono hb12.size)).mono (Nat.le_refl _))
    clear chB chP
    clear z0 z1 X11d hF12
    have hz13 := hb113.size
    have hB13 := hB11.below hb113 hB11.lt
    have hS_13 := hS_11.below hb113 hS_11.lt
    have hP13 := hP11.below hb113 hP11.lt
    have hQ13 := hQ11.below hb113 hQ11.lt
    have R13 := R11.below hb113
    have X13 := X11.below hb113
    have N13 := N11.below hb113
    have G13 := G11.below hb113
    have hw13 := hw11.trans (hb113.mono hw11.size)
    clear hB11 hS_11 hP11 hQ11 R11 X11 N11 G11
    go_wp2_with (fail)
    refine (toInt64S_any B K d _ (HK.out _ hw13) hKn).mono ?_
    rintro e v14 ⟨g14, d14, rfl, I14, hb14⟩
    have hz14 := hb14.size
    have hB14 := hB13.below hb14 hB13.lt
    have hS_14 := hS_13.below hb14 hS_13.lt
    have hP14 := hP13.below hb14 hP13.lt
    have hQ14 := hQ13.below hb14 hQ13.lt
    have R14 := R13.below hb14
    have X14 := X13.below hb14
    have N14 := N13.below hb14
    have G14 := G13.below hb14
    have hw14 := hw13.trans (hb14.mono hw13.size)
    clear hB13 hS_13 hP13 hQ13 R13 X13 N13 G13
    have hI14 := I14.nms hKf
    have hN14 := N14.nms hKf
    go_wp2_with (fail)
    refine (eqInt64S_same _ _ K _ _ _ hN14 hI14).mono ?_
    rintro e v15 ⟨rfl, hb15⟩
    have hz15 := hb15.size
    have hB15 := hB14.below hb15 hB14.lt
    have hS_15 := hS_14.below hb15 hS_14.lt
    have hP15 := hP14.below hb15 hP14.lt
    have hQ15 := hQ14.below hb15 hQ14.lt
    have R15 := R14.below hb15
    have X15 := X14.below hb15
    have N15 := N14.below hb15
    have G15 := G14.below hb15
    have I15 := I14.below hb15
    have hw15 := hw14.trans (hb15.mono hw14.size)
    clear hB14 hS_14 hP14 hQ14 R14 X14 N14 G14 I14
    clear hI14 hN14 I15
    have chP := hP15.cell (i := 0) rfl
    have MX := markFs_rw _ L _ _ _ 1 _ X15 hf (by omega) (by omega)
    have xr := X15.atA
    rw [Hm1.out] at MX
    clear X15
    go_wp2_with (fail)
    refine (MX).mono ?_
    rintro e v16 ⟨rfl, X16, hg16, hf16⟩
    have hz16 := hg16.size
    have hB16 := hB15.off hg16 xr (by omega)
    have hS_16 := hS_15.off hg16 xr (by omega)
    have hP16 := hP15.off hg16 xr (by omega)
    have hQ16 := hQ15.off hg16 xr (by omega)
    have R16 := R15.far hg16 xr (by omega)
    have N16 := N15.far hg16 xr (by omega)
    have G16 := G15.far hg16 xr (by omega)
    have hw16 := below_off hw15 hg16 xr (by omega) (Nat.le_refl _)
    clear hB15 hS_15 hP15 hQ15 R15 N15 G15
    clear chP
    clear X16 MX xr hf16
    have MN := markInt64S_some _ _ _ _ m1 K _ N16.1 (by omega) (by omega)
    have nr : ∀ k, some g8 = some k → v7.heap.size ≤ k ∧ k < v8.heap.size := N16.at
    rw [Hm2.out] at MN
    clear N16
    go_wp2_with (fail)
    refine (MN).mono ?_
    rintro e v17 ⟨rfl, hg17⟩
    have hz17 := hg17.size
    have hB17 := hB16.off hg17 nr (by omega)
    have hS_17 := hS_16.off hg17 nr (by omega)
    have hP17 := hP16.off hg17 nr (by omega)
    have hQ17 := hQ16.off hg17 nr (by omega)
    have R17 := R16.far hg17 nr (by omega)
    have G17 := G16.far hg17 nr (by omega)
    have hw17 := below_off hw16 hg17 nr (by omega) (Nat.le_refl _)
    clear hB16 hS_16 hP16 hQ16 R16 G16
    clear MN nr
    have hm2' : ¬ ((m2 : Int) < 0) := by omega
    have chQ := hQ17.cell (i := 0) rfl
    have chS_ := hS_17.cell (i := 0) rfl
    go_wp2_with (fail)
    refine (eqFs_same _ _ M _ _ _ (G17.fls hM) (R17.fls hM)).mono ?_
    rintro e v18 ⟨rfl, hb18⟩
    have hz18 := hb18.size
    have hB18 := hB17.below hb18 hB17.lt
    have hS_18 := hS_17.below hb18 hS_17.lt
    have hP18 := hP17.below hb18 hP17.lt
    have hQ18 := hQ17.below hb18 hQ17.lt
    have R18 := R17.below hb18
    have G18 := G17.below hb18
    have hw18 := hw17.trans (hb18.mono hw17.size)
    clear hB17 hS_17 hP17 hQ17 R17 G17
    clear chQ chS_
    have chQ := hQ18.cell (i := 0) rfl
    have MG := markFs_rw _ M _ _ _ 1 _ G18 hM (by omega) (by omega)
    have gr := G18.atA
    rw [Hm3.out] at MG
    clear G18
    go_wp2_with (fail)
    refine (MG).mono ?_
    rintro e v19 ⟨rfl, G19, hg19, hf19⟩
    have hz19 := hg19.size
    have hB19 := hB18.off hg19 gr (by omega)
    have hS_19 := hS_18.off hg19 gr (by omega)
    have hP19 := hP18.off hg19 gr (by omega)
    have hQ19 := hQ18.off hg19 gr (by omega)
    have R19 := R18.far hg19 gr (by omega)
    have hw19 := below_off hw18 hg19 gr (by omega) (Nat.le_refl _)
    clear hB18 hS_18 hP18 hQ18 R18
    clear chQ
    clear MG gr
    have hm3' : ¬ ((m3 : Int) < 0) := by omega
    have chQ := hQ19.cell (i := 0) rfl
    have HD := heldFs_any _ M.length d9 1 _ (G19.fls hf19) (by omega) (by omega)
    rw [Hm3.out] at HD
    go_wp2_with (fail)
    refine (HD).mono ?_
    rintro e v20 ⟨rfl, hb20⟩
    have hz20 := hb20.size
    have hB20 := hB19.below hb20 hB19.lt
    have hS_20 := hS_19.below hb20 hS_19.lt
    have hP20 := hP19.below hb20 hP19.lt
    have hQ20 := hQ19.below hb20 hQ19.lt
    have R20 := R19.below hb20
    have G20 := G19.below hb20
    have hw20 := hw19.trans (hb20.mono hw19.size)
    clear hB19 hS_19 hP19 hQ19 R19 G19
    clear chQ
    clear HD
    have chB := hB20.cell (i := 0) rfl
    go_wp2_with (fail)
    refine (toFs_any A L c _ (HL.out _ hw20) hS').mono ?_
    rintro e v21 ⟨g21, d21, rfl, hF21, hb21⟩
    have hz21 := hb21.size
    have hB21 := hB20.below hb21 hB20.lt
    have hS_21 := hS_20.below hb21 hS_20.lt
    have hP21 := hP20.below hb21 hP20.lt
    have hQ21 := hQ20.below hb21 hQ20.lt
    have R21 := R20.below hb21
    have G21 := G20.below hb21
    have hw21 := hw20.trans (hb21.mono hw20.size)
    clear hB20 hS_20 hP20 hQ20 R20 G20
    clear chB
    have X21 := hF21.rw
    clear hF21
    go_wp2_with (fail)
    refine (toInt64S_any B K d _ (HK.out _ hw21) hKn).mono ?_
    rintro e v22 ⟨g22, d22, rfl, N22, hb22⟩
    have hz22 := hb22.size
    have hB22 := hB21.below hb22 hB21.lt
    have hS_22 := hS_21.below hb22 hS_21.lt
    have hP22 := hP21.below hb22 hP21.lt
    have hQ22 := hQ21.below hb22 hQ21.lt
    have R22 := R21.below hb22
    have G22 := G21.below hb22
    have X22 := X21.below hb22
    have hw22 := hw21.trans (hb22.mono hw21.size)
    clear hB21 hS_21 hP21 hQ21 R21 G21 X21
    have hN22 := N22.nms hKf
    go_wp2_with (fail)
    refine (implCrash_any _ L _ _ K _ _ (X22.fls hf) hS' hN22 hKn).mono ?_
    rintro e v23 ⟨A23, d23, rfl, hO23, hb23⟩
    have hz23 := hb23.size
    have hB23 := hB22.below hb23 hB22.lt
    have hS_23 := hS_22.below hb23 hS_22.lt
    have hP23 := hP22.below hb23 hP22.lt
    have hQ23 := hQ22.below hb23 hQ22.lt
    have R23 := R22.below hb23
    have G23 := G22.below hb23
    have X23 := X22.below hb23
    have N23 := N22.below hb23
    have hw23 := hw22.trans (hb23.mono hw22.size)
    clear hB22 hS_22 hP22 hQ22 R22 G22 X22 N22
    clear hN22 X23 N23
    rw [HM.out] at hO23 ⊢
    have Y23 := hO23.rw
    clear hO23
    have hV24 := Blk.fresh v23 29 [.slice A23 M.length d23]
    have hb24 : Below v23.heap.size v23 (v23.alloc (.cells #[.slice A23 M.length d23] 29)) := (Below.refl _ _).alloc (Nat.le_refl _) _
    have hs24 : (v23.alloc (.cells #[.slice A23 M.length d23] 29)).heap.size = v23.heap.size + 1 := by simp
    have qhS_ := (hS_23.below hb24 hS_23.lt).cell (i := 0) rfl
    have qq := hV24.cell (i := 0) rfl
    go_wp2_with (fail)
    clear qq qhS_
    generalize v23.alloc (.cells #[.slice A23 M.length d23] 29) = v24 at hV24 hb24 hs24 ⊢
    have hz24 := hb24.size
    have hB24 := hB23.below hb24 hB23.lt
    have hS_24 := hS_23.below hb24 hS_23.lt
    have hP24 := hP23.below hb24 hP23.lt
    have hQ24 := hQ23.below hb24 hQ23.lt
    have R24 := R23.below hb24
    have G24 := G23.below hb24
    have Y24 := Y23.below hb24
    have hw24 := hw23.trans (hb24.mono hw23.size)
    clear hB23 hS_23 hP23 hQ23 R23 G23 Y23
    have chV := hV24.cell (i := 0) rfl
    have chS_ := hS_24.cell (i := 0) rfl
    go_wp2_with (fail)
    refine (eqFs_same _ _ M _ _ _ (Y24.fls hM) (R24.fls hM)).mono ?_
    rintro e v25 ⟨rfl, hb25⟩
    have hz25 := hb25.size
    have hB25 := hB24.below hb25 hB24.lt
    have hS_25 := hS_24.below hb25 hS_24.lt
    have hP25 := hP24.below hb25 hP24.lt
    have hQ25 := hQ24.below hb25 hQ24.lt
    have hV25 := hV24.below hb25 hV24.lt
    have R25 := R24.below hb25
    have G25 := G24.below hb25
    have Y25 := Y24.below hb25
    have hw25 := hw24.trans (hb25.mono hw24.size)
    clear hB24 hS_24 hP24 hQ24 hV24 R24 G24 Y24
    clear chV chS_
    have chQ := hQ25.cell (i := 0) rfl
    have HD := heldFs_any _ M.length d9 1 _ (G25.fls hf19) (by omega) (by omega)
    rw [Hm3.out] at HD
    go_wp2_with (fail)
    refine (HD).mono ?_
    rintro e v26 ⟨rfl, hb26⟩
    have hz26 := hb26.size
    have hB26 := hB25.below hb26 hB25.lt
    have hS_26 := hS_25.below hb26 hS_25.lt
    have hP26 := hP25.below hb26 hP25.lt
    have hQ26 := hQ25.below hb26 hQ25.lt
    have hV26 := hV25.below hb26 hV25.lt
    have R26 := R25.below hb26
    have G26 := G25.below hb26
    have Y26 := Y25.below hb26
    have hw26 := hw25.trans (hb26.mono hw25.size)
    clear hB25 hS_25 hP25 hQ25 hV25 R25 G25 Y25
    clear chQ
    clear HD
    go_wp2
    go_ret
    exact ⟨rfl, hw26⟩
end Go.Proofs.Ytmdjfgnmjelmhaa
