/- The walk of the law on FsAppend. -/
import Derived.Test.YtapnmnghdgkbpaaDoorFsAp
import Derived.Test.YtapnmnghdgkbpaaDoorFsOutLaw
import Derived.Deep.RegionHeld3
namespace Go.Proofs.YtapnmnghdgkbpaaDoor
open Go.RowKit
set_option linter.unusedVariables false

set_option maxHeartbeats 8000000 in
set_option maxRecDepth 1000000 in
theorem lawFsAppend (A : Option Addr) (L : List Fil) (c : Nat) (s : ByteArray) (t : ByteArray) (a0 a1 a2 a3 a4 : Addr) (w : World) (hL : Fls w w.heap.size A L) (hs : s.size ≤ maxLen) (ht : t.size ≤ maxLen) (hE : Errs w a0 a1 a2 a3 a4) :
    Calls Tryd.prog 10 #[.agg #[.slice A L.length c], .string s, .string t] w fun e w' => e = .returned (.bool true) ∧ Below w.heap.size w w' := by
  have HL : Hid (∀ W, Below w.heap.size w W → Fls W W.heap.size A L) := Lib.hid fun W h => (hL.below h (Nat.le_refl _)).mono h.size
  have HE : Hid (∀ W, Below w.heap.size w W → Errs W a0 a1 a2 a3 a4) := Lib.hid fun W h => hE.below h
  have hf : ∀ f ∈ L, f.fits := fun f h => by obtain ⟨i, hi, rfl⟩ := List.getElem_of_mem h; exact (hL.2 i hi).choose_spec.2.2.2.2.2
  have hB0 := Blk.fresh w 46 [.slice A L.length c]
  have hb0 : Below w.heap.size w (w.alloc (.cells #[.slice A L.length c] 46)) := (Below.refl _ _).alloc (Nat.le_refl _) _
  have hz0 : (w.alloc (.cells #[.slice A L.length c] 46)).heap.size = w.heap.size + 1 := by simp
  by_cases hbigs : 1048576 < s.size
  · have hbig' : (1048576 : Int) < (s.size : Int) := by omega
    have hmx := hs
    unfold maxLen at hmx
    go_enter Tryd.func10, Tryd.ntmps10
    go_wp2
    go_ret
    exact ⟨rfl, hb0⟩
  have hbigs' : ¬ (1048576 : Int) < (s.size : Int) := by omega
  by_cases hbigt : 1048576 < t.size
  · have hbig' : (1048576 : Int) < (t.size : Int) := by omega
    have hmx := ht
    unfold maxLen at hmx
    go_enter Tryd.func10, Tryd.ntmps10
    go_wp2
    go_ret
    exact ⟨rfl, hb0⟩
  have hbigt' : ¬ (1048576 : Int) < (t.size : Int) := by omega
  go_enter Tryd.func10, Tryd.ntmps10
  go_wp2_with (fail)
  generalize w.alloc (.cells #[.slice A L.length c] 46) = v0 at hB0 hb0 hz0 ⊢
  refine (szFs_any A L c _ (HL.out _ hb0)).mono ?_
  rintro e v1 ⟨r, rfl, r0, r1, hS, hb1⟩
  have hz1 := hb1.size
  have hB1 := hB0.below hb1 (by omega)
  have hw1 := hb0.trans (hb1.mono (by omega))
  clear hB0
  by_cases hr : r < 0
  · have c1 := hB1.cell (i := 0) rfl
    go_wp2
    go_ret
    exact ⟨rfl, hw1⟩
  · have hS' := hS (by omega)
    have hn := hS'.1
    obtain ⟨M, cd, hM, hMl, hsp, him⟩ := fsAppend_both L s t a0 a1 a2 a3 a4 hf hS' hs ht (by omega) (by omega)
    have Sp := Lib.hid hsp
    have Im := Lib.hid him
    clear hsp him
    obtain ⟨m1, Hm1⟩ : ∃ m, Hid (1 + 3 * L.length = m) := ⟨_, Lib.hid rfl⟩
    obtain ⟨m3, Hm3⟩ : ∃ m, Hid (1 + 3 * M.length = m) := ⟨_, Lib.hid rfl⟩
    have hm1 : 1 ≤ m1 ∧ m1 ≤ 3145729 := by have := Hm1.out; omega
    have chB0 := hB1.cell (i := 0) rfl
    go_wp2_with (fail)
    refine (toFs_any A L c _ (HL.out _ hw1) hS').mono ?_
    rintro e v2 ⟨g2, d2, rfl, hF2, hb2⟩
    have hz2 := hb2.size
    have hB2 := hB1.below hb2 hB1.lt
    have hw2 := hw1.trans (hb2.mono hw1.size)
    clear hB1
    clear chB0
    have T2 := hF2.rw
    clear hF2
    go_wp2_with (fail)
    refine (Sp.out _ _ _ (T2.fls hf) (Rw.capL T2).1 (Rw.capL T2).2).mono ?_
    rintro e v3 ⟨A3, d3, rfl, hO3, hb3⟩
    have hz3 := hb3.size
    have hB3 := hB2.below hb3 hB2.lt
    have T3 := T2.below hb3
    have hw3 := hw2.trans (hb3.mono hw2.size)
    clear hB2 T2
    clear T3
    have R3 := hO3.rw
    clear hO3
    have hS_4 := Blk.fresh v3 52 [.slice A3 M.length d3, .int .i64 cd]
    simp only [List.toArray] at hS_4
    have hb4 : Below v3.heap.size v3 (v3.alloc (.cells #[.slice A3 M.length d3, .int .i64 cd] 52)) := (Below.refl _ _).alloc (Nat.le_refl _) _
    have hs4 : (v3.alloc (.cells #[.slice A3 M.length d3, .int .i64 cd] 52)).heap.size = v3.heap.size + 1 := by simp
    have qhB0 := (hB3.below hb4 hB3.lt).cell (i := 0) rfl
    have qq0 := hS_4.cell (i := 0) rfl
    have qq1 := hS_4.cell (i := 1) rfl
    go_wp2_with (fail)
    clear qhB0 qq0 qq1
    generalize v3.alloc (.cells #[.slice A3 M.length d3, .int .i64 cd] 52) = v4 at hS_4 hb4 hs4 ⊢
    have hz4 := hb4.size
    have hB4 := hB3.below hb4 hB3.lt
    have R4 := R3.below hb4
    have hw4 := hw3.trans (hb4.mono hw3.size)
    clear hB3 R3
    have chB0 := hB4.cell (i := 0) rfl
    go_wp2_with (fail)
    refine (toFs_any A L c _ (HL.out _ hw4) hS').mono ?_
    rintro e v5 ⟨g5, d5, rfl, hF5, hb5⟩
    have hz5 := hb5.size
    have hB5 := hB4.below hb5 hB4.lt
    have hS_5 := hS_4.below hb5 hS_4.lt
    have R5 := R4.below hb5
    have hw5 := hw4.trans (hb5.mono hw4.size)
    clear hB4 hS_4 R4
    clear chB0
    have X5 := hF5.rw
    clear hF5
    have hP6 := Blk.fresh v5 50 [.slice (some ⟨g5, 0, none⟩) L.length d5]
    simp only [List.toArray] at hP6
    have hb6 : Below v5.heap.size v5 (v5.alloc (.cells #[.slice (some ⟨g5, 0, none⟩) L.length d5] 50)) := (Below.refl _ _).alloc (Nat.le_refl _) _
    have hs6 : (v5.alloc (.cells #[.slice (some ⟨g5, 0, none⟩) L.length d5] 50)).heap.size = v5.heap.size + 1 := by simp
    have qq0 := hP6.cell (i := 0) rfl
    go_wp2_with (fail)
    clear qq0
    generalize v5.alloc (.cells #[.slice (some ⟨g5, 0, none⟩) L.length d5] 50) = v6 at hP6 hb6 hs6 ⊢
    have hz6 := hb6.size
    have hB6 := hB5.below hb6 hB5.lt
    have hS_6 := hS_5.below hb6 hS_5.lt
    have R6 := R5.below hb6
    have X6 := X5.below hb6
    have hw6 := hw5.trans (hb6.mono hw5.size)
    clear hB5 hS_5 R5 X5
    have chP0 := hP6.cell (i := 0) rfl
    go_wp2_with (fail)
    refine (Im.out _ _ _ (X6.fls hf) (HE.out _ hw6)).mono ?_
    rintro e v7 ⟨A7, d7, rfl, hO7, hb7⟩
    have hz7 := hb7.size
    have hB7 := hB6.below hb7 hB6.lt
    have hS_7 := hS_6.below hb7 hS_6.lt
    have hP7 := hP6.below hb7 hP6.lt
    have R7 := R6.below hb7
    have X7 := X6.below hb7
    have hw7 := hw6.trans (hb7.mono hw6.size)
    clear hB6 hS_6 hP6 R6 X6
    clear chP0
    have G7 := hO7.rw
    clear hO7
    have hQ8 := Blk.fresh v7 52 [.slice A7 M.length d7, .int .i64 cd]
    simp only [List.toArray] at hQ8
    have hb8 : Below v7.heap.size v7 (v7.alloc (.cells #[.slice A7 M.length d7, .int .i64 cd] 52)) := (Below.refl _ _).alloc (Nat.le_refl _) _
    have hs8 : (v7.alloc (.cells #[.slice A7 M.length d7, .int .i64 cd] 52)).heap.size = v7.heap.size + 1 := by simp
    have qhS_0 := (hS_7.below hb8 hS_7.lt).cell (i := 0) rfl
    have qhS_1 := (hS_7.below hb8 hS_7.lt).cell (i := 1) rfl
    have qq0 := hQ8.cell (i := 0) rfl
    have qq1 := hQ8.cell (i := 1) rfl
    go_wp2_with (fail)
    clear qhS_0 qhS_1 qq0 qq1
    generalize v7.alloc (.cells #[.slice A7 M.length d7, .int .i64 cd] 52) = v8 at hQ8 hb8 hs8 ⊢
    have hz8 := hb8.size
    have hB8 := hB7.below hb8 hB7.lt
    have hS_8 := hS_7.below hb8 hS_7.lt
    have hP8 := hP7.below hb8 hP7.lt
    have R8 := R7.below hb8
    have X8 := X7.below hb8
    have G8 := G7.below hb8
    have hw8 := hw7.trans (hb8.mono hw7.size)
    clear hB7 hS_7 hP7 R7 X7 G7
    have chQ0 := hQ8.cell (i := 0) rfl
    have chQ1 := hQ8.cell (i := 1) rfl
    have chS_0 := hS_8.cell (i := 0) rfl
    have chS_1 := hS_8.cell (i := 1) rfl
    go_wp2_with (fail)
    refine (eqFsOut_same _ _ M _ _ cd _ (G8.fls hM) (R8.fls hM)).mono ?_
    rintro e v9 ⟨rfl, hb9⟩
    have hz9 := hb9.size
    have hB9 := hB8.below hb9 hB8.lt
    have hS_9 := hS_8.below hb9 hS_8.lt
    have hP9 := hP8.below hb9 hP8.lt
    have hQ9 := hQ8.below hb9 hQ8.lt
    have R9 := R8.below hb9
    have X9 := X8.below hb9
    have G9 := G8.below hb9
    have hw9 := hw8.trans (hb9.mono hw8.size)
    clear hB8 hS_8 hP8 hQ8 R8 X8 G8
    clear chQ0 chQ1 chS_0 chS_1
    have chB0 := hB9.cell (i := 0) rfl
    have chP0 := hP9.cell (i := 0) rfl
    go_wp2_with (fail)
    have z0 : v9.drew.cell? ⟨w.heap.size, 0, none⟩ = some (.slice A L.length c) := chB0
    have z1 : v9.drew.cell? ⟨v5.heap.size, 0, none⟩ = some (.slice (some ⟨g5, 0, none⟩) L.length d5) := chP0
    have X9d : Rw v9.drew v4.heap.size v5.heap.size 84 3 (.slice (some ⟨g5, 0, none⟩) L.length d5) L.length (flat L) := X9
    go_region_held3 (fun W => W.cell? ⟨w.heap.size, 0, none⟩ = some (.slice A L.length c) ∧ W.cell? ⟨v5.heap.size, 0, none⟩ = some (.slice (some ⟨g5, 0, none⟩) L.length d5))
      (first
        | exact ⟨z0, z1⟩
        | exact ⟨kept_cell hb10 z0, kept_cell hb10 z1⟩
        | exact ⟨kept_cell hb11 (kept_cell hb10 z0), kept_cell hb11 (kept_cell hb10 z1)⟩)
      (first
        | (go_at_call 31; refine (toFs_any A L c _ (HL.out _ (below_drew hw9)) hS').mono ?_; rintro e v10 ⟨g10, d10, rfl, hF10, hb10⟩)
        | (go_at_call 34; refine (eqFs_same _ _ L _ _ _ ((X9d.below hb10).fls hf) (OwnF.fls hF10)).mono ?_; rintro e v11 ⟨rfl, hb11⟩))
    have hb911 : Below v9.heap.size v9 v11 := (below_drew (Below.refl _ v9)).trans ((hb10.trans (hb11.mono hb10.size)).mono (Nat.le_refl _))
    clear chB0 chP0
    clear z0 z1 X9d hF10
    have hz11 := hb911.size
    have hB11 := hB9.below hb911 hB9.lt
    have hS_11 := hS_9.below hb911 hS_9.lt
    have hP11 := hP9.below hb911 hP9.lt
    have hQ11 := hQ9.below hb911 hQ9.lt
    have R11 := R9.below hb911
    have X11 := X9.below hb911
    have G11 := G9.below hb911
    have hw11 := hw9.trans (hb911.mono hw9.size)
    clear hB9 hS_9 hP9 hQ9 R9 X9 G9
    have chP0 := hP11.cell (i := 0) rfl
    have MX := markFs_rw _ L _ _ _ 1 _ X11 hf (by omega) (by omega)
    have xr := X11.atA
    rw [Hm1.out] at MX
    clear X11
    go_wp2_with (fail)
    refine (MX).mono ?_
    rintro e v12 ⟨rfl, X12, hg12, hf12⟩
    have hz12 := hg12.size
    have hB12 := hB11.off hg12 xr (by omega)
    have hS_12 := hS_11.off hg12 xr (by omega)
    have hP12 := hP11.off hg12 xr (by omega)
    have hQ12 := hQ11.off hg12 xr (by omega)
    have R12 := R11.far hg12 xr (by omega)
    have G12 := G11.far hg12 xr (by omega)
    have hw12 := below_off hw11 hg12 xr (by omega) (Nat.le_refl _)
    clear hB11 hS_11 hP11 hQ11 R11 G11
    clear chP0
    clear X12 MX xr hf12
    have hm1' : ¬ ((m1 : Int) < 0) := by omega
    have chQ0 := hQ12.cell (i := 0) rfl
    have chQ1 := hQ12.cell (i := 1) rfl
    have chS_0 := hS_12.cell (i := 0) rfl
    have chS_1 := hS_12.cell (i := 1) rfl
    go_wp2_with (fail)
    refine (eqFsOut_same _ _ M _ _ cd _ (G12.fls hM) (R12.fls hM)).mono ?_
    rintro e v13 ⟨rfl, hb13⟩
    have hz13 := hb13.size
    have hB13 := hB12.below hb13 hB12.lt
    have hS_13 := hS_12.below hb13 hS_12.lt
    have hP13 := hP12.below hb13 hP12.lt
    have hQ13 := hQ12.below hb13 hQ12.lt
    have R13 := R12.below hb13
    have G13 := G12.below hb13
    have hw13 := hw12.trans (hb13.mono hw12.size)
    clear hB12 hS_12 hP12 hQ12 R12 G12
    clear chQ0 chQ1 chS_0 chS_1
    have chQ0 := hQ13.cell (i := 0) rfl
    have chQ1 := hQ13.cell (i := 1) rfl
    have MG := markFsOut_rw _ M _ _ _ 1 cd _ G13 hM (by omega) (by omega)
    have gr := G13.atA
    rw [Hm3.out] at MG
    clear G13
    go_wp2_with (fail)
    refine (MG).mono ?_
    rintro e v14 ⟨rfl, G14, hg14, hf14⟩
    have hz14 := hg14.size
    have hB14 := hB13.off hg14 gr (by omega)
    have hS_14 := hS_13.off hg14 gr (by omega)
    have hP14 := hP13.off hg14 gr (by omega)
    have hQ14 := hQ13.off hg14 gr (by omega)
    have R14 := R13.far hg14 gr (by omega)
    have hw14 := below_off hw13 hg14 gr (by omega) (Nat.le_refl _)
    clear hB13 hS_13 hP13 hQ13 R13
    clear chQ0 chQ1
    clear MG gr
    have hm3' : ¬ ((m3 : Int) < 0) := by omega
    have chQ0 := hQ14.cell (i := 0) rfl
    have chQ1 := hQ14.cell (i := 1) rfl
    have HD := heldFsOut_any _ M.length d7 1 cd _ (G14.fls hf14) (by omega) (by omega)
    rw [Hm3.out] at HD
    go_wp2_with (fail)
    refine (HD).mono ?_
    rintro e v15 ⟨rfl, hb15⟩
    have hz15 := hb15.size
    have hB15 := hB14.below hb15 hB14.lt
    have hS_15 := hS_14.below hb15 hS_14.lt
    have hP15 := hP14.below hb15 hP14.lt
    have hQ15 := hQ14.below hb15 hQ14.lt
    have R15 := R14.below hb15
    have G15 := G14.below hb15
    have hw15 := hw14.trans (hb15.mono hw14.size)
    clear hB14 hS_14 hP14 hQ14 R14 G14
    clear chQ0 chQ1
    clear HD
    have chB0 := hB15.cell (i := 0) rfl
    go_wp2_with (fail)
    refine (toFs_any A L c _ (HL.out _ hw15) hS').mono ?_
    rintro e v16 ⟨g16, d16, rfl, hF16, hb16⟩
    have hz16 := hb16.size
    have hB16 := hB15.below hb16 hB15.lt
    have hS_16 := hS_15.below hb16 hS_15.lt
    have hP16 := hP15.below hb16 hP15.lt
    have hQ16 := hQ15.below hb16 hQ15.lt
    have R16 := R15.below hb16
    have G16 := G15.below hb16
    have hw16 := hw15.trans (hb16.mono hw15.size)
    clear hB15 hS_15 hP15 hQ15 R15 G15
    clear chB0
    have X16 := hF16.rw
    clear hF16
    go_wp2_with (fail)
    refine (Im.out _ _ _ (X16.fls hf) (HE.out _ hw16)).mono ?_
    rintro e v17 ⟨A17, d17, rfl, hO17, hb17⟩
    have hz17 := hb17.size
    have hB17 := hB16.below hb17 hB16.lt
    have hS_17 := hS_16.below hb17 hS_16.lt
    have hP17 := hP16.below hb17 hP16.lt
    have hQ17 := hQ16.below hb17 hQ16.lt
    have R17 := R16.below hb17
    have G17 := G16.below hb17
    have X17 := X16.below hb17
    have hw17 := hw16.trans (hb17.mono hw16.size)
    clear hB16 hS_16 hP16 hQ16 R16 G16 X16
    clear X17
    have Y17 := hO17.rw
    clear hO17
    have hV18 := Blk.fresh v17 52 [.slice A17 M.length d17, .int .i64 cd]
    simp only [List.toArray] at hV18
    have hb18 : Below v17.heap.size v17 (v17.alloc (.cells #[.slice A17 M.length d17, .int .i64 cd] 52)) := (Below.refl _ _).alloc (Nat.le_refl _) _
    have hs18 : (v17.alloc (.cells #[.slice A17 M.length d17, .int .i64 cd] 52)).heap.size = v17.heap.size + 1 := by simp
    have qhS_0 := (hS_17.below hb18 hS_17.lt).cell (i := 0) rfl
    have qhS_1 := (hS_17.below hb18 hS_17.lt).cell (i := 1) rfl
    have qq0 := hV18.cell (i := 0) rfl
    have qq1 := hV18.cell (i := 1) rfl
    go_wp2_with (fail)
    clear qhS_0 qhS_1 qq0 qq1
    generalize v17.alloc (.cells #[.slice A17 M.length d17, .int .i64 cd] 52) = v18 at hV18 hb18 hs18 ⊢
    have hz18 := hb18.size
    have hB18 := hB17.below hb18 hB17.lt
    have hS_18 := hS_17.below hb18 hS_17.lt
    have hP18 := hP17.below hb18 hP17.lt
    have hQ18 := hQ17.below hb18 hQ17.lt
    have R18 := R17.below hb18
    have G18 := G17.below hb18
    have Y18 := Y17.below hb18
    have hw18 := hw17.trans (hb18.mono hw17.size)
    clear hB17 hS_17 hP17 hQ17 R17 G17 Y17
    have chV0 := hV18.cell (i := 0) rfl
    have chV1 := hV18.cell (i := 1) rfl
    have chS_0 := hS_18.cell (i := 0) rfl
    have chS_1 := hS_18.cell (i := 1) rfl
    go_wp2_with (fail)
    refine (eqFsOut_same _ _ M _ _ cd _ (Y18.fls hM) (R18.fls hM)).mono ?_
    rintro e v19 ⟨rfl, hb19⟩
    have hz19 := hb19.size
    have hB19 := hB18.below hb19 hB18.lt
    have hS_19 := hS_18.below hb19 hS_18.lt
    have hP19 := hP18.below hb19 hP18.lt
    have hQ19 := hQ18.below hb19 hQ18.lt
    have hV19 := hV18.below hb19 hV18.lt
    have R19 := R18.below hb19
    have G19 := G18.below hb19
    have Y19 := Y18.below hb19
    have hw19 := hw18.trans (hb19.mono hw18.size)
    clear hB18 hS_18 hP18 hQ18 hV18 R18 G18 Y18
    clear chV0 chV1 chS_0 chS_1
    have chQ0 := hQ19.cell (i := 0) rfl
    have chQ1 := hQ19.cell (i := 1) rfl
    have HD := heldFsOut_any _ M.length d7 1 cd _ (G19.fls hf14) (by omega) (by omega)
    rw [Hm3.out] at HD
    go_wp2_with (fail)
    refine (HD).mono ?_
    rintro e v20 ⟨rfl, hb20⟩
    have hz20 := hb20.size
    have hB20 := hB19.below hb20 hB19.lt
    have hS_20 := hS_19.below hb20 hS_19.lt
    have hP20 := hP19.below hb20 hP19.lt
    have hQ20 := hQ19.below hb20 hQ19.lt
    have hV20 := hV19.below hb20 hV19.lt
    have R20 := R19.below hb20
    have G20 := G19.below hb20
    have Y20 := Y19.below hb20
    have hw20 := hw19.trans (hb20.mono hw19.size)
    clear hB19 hS_19 hP19 hQ19 hV19 R19 G19 Y19
    clear chQ0 chQ1
    clear HD
    go_wp2
    go_ret
    exact ⟨rfl, hw20⟩
end Go.Proofs.YtapnmnghdgkbpaaDoor
