/- The walk of the law on FsNames. -/
import Derived.Test.YtmdjfgnmjelmhaaFilNames
import Derived.Test.YtmdjfgnmjelmhaaRowk
namespace Go.Proofs.Ytmdjfgnmjelmhaa
open Go.RowKit
set_option linter.unusedVariables false

theorem Rw.strs {w : World} {lo hi n c : Nat} {A : Option Addr} {L : List ByteArray} (h : Rw w lo hi 9 1 (.slice A n c) L.length (L.map Value.string)) : Strs w w.heap.size A L := (OwnS.strs (base := lo) (c := c) (n := n) h.1).2
theorem markS_rw (A : Option Addr) (L : List ByteArray) (c lo hi k : Nat) (w : World) (h : Rw w lo hi 9 1 (.slice A L.length c) L.length (L.map Value.string)) (h0 : 1 ≤ k) (h1 : k + L.length ≤ 4000000) :
    Calls Try.prog 15 #[.slice A L.length c, .int .i64 k] w fun e w' => e = .returned (.int .i64 ((k + L.length : Nat) : Int)) ∧
      Rw w' lo hi 9 1 (.slice A L.length c) (markN L.length k).length ((markN L.length k).map Value.string) ∧ w.grownBy w' (A.map (·.block)) :=
  (markStringS_any A L c lo k w h.1 h0 h1).mono fun e w' ⟨he, h2, h3⟩ => ⟨he, ⟨h2, h.2⟩, h3⟩
theorem namesOf_len (L : List Fil) : (namesOf L).length ≤ L.length := by unfold namesOf; split <;> simp

set_option maxHeartbeats 4000000 in
theorem lawFsNames (A : Option Addr) (L : List Fil) (c : Nat) (w : World) (hL : Fls w w.heap.size A L) :
    Calls Try.prog 4 #[.agg #[.slice A L.length c]] w fun e w' => e = .returned (.bool true) ∧ Below w.heap.size w w' := by
  have HL : Hid (∀ W, Below w.heap.size w W → Fls W W.heap.size A L) := Lib.hid fun W h => (hL.below h (Nat.le_refl _)).mono h.size
  have hf : ∀ f ∈ L, f.fits := fun f h => by obtain ⟨i, hi, rfl⟩ := List.getElem_of_mem h; exact (hL.2 i hi).choose_spec.2.2.2.2.2
  have hB0 := Blk.fresh w 24 [.slice A L.length c]
  have hb0 : Below w.heap.size w (w.alloc (.cells #[.slice A L.length c] 24)) := (Below.refl _ _).alloc (Nat.le_refl _) _
  have hz0 : (w.alloc (.cells #[.slice A L.length c] 24)).heap.size = w.heap.size + 1 := by simp
  obtain ⟨N, HN⟩ : ∃ N, Hid (namesOf L = N) := ⟨_, Lib.hid rfl⟩
  have hNl := namesOf_len L
  rw [HN.out] at hNl
  go_enter Try.func4, Try.ntmps4
  go_wp2_with (fail)
  generalize w.alloc (.cells #[.slice A L.length c] 24) = v0 at hB0 hb0 hz0 ⊢
  refine (szFs_any A L c _ (HL.out _ hb0)).mono ?_
  rintro e v1 ⟨r, rfl, r0, r1, hS, hb1⟩
  have hz1 := hb1.size
  have hB1 := hB0.below hb1 (by omega)
  have c1 := hB1.cell (i := 0) rfl
  have hw1 := hb0.trans (hb1.mono (by omega))
  by_cases hr : r < 0
  · go_wp2
    go_ret
    exact ⟨rfl, hw1⟩
  · have hS' := hS (by omega)
    have hn := hS'.1
    go_wp2_with (fail)
    refine (toFs_any A L c _ (HL.out _ hw1) hS').mono ?_
    rintro e v2 ⟨g2, d2, rfl, hF2, hb2⟩
    have hz2 := hb2.size
    have hB2 := hB1.below hb2 hB1.lt
    have hw2 := hw1.trans (hb2.mono hw1.size)
    clear c1 hb1 hb0 hB0 hB1
    go_wp2_with (fail)
    refine (specNames_any _ L _ _ hF2.fls hS').mono ?_
    rw [HN.out]
    rintro e v3 ⟨A3, d3, rfl, hO3, hb3⟩
    have hz3 := hb3.size
    have hB3 := hB2.below hb3 hB2.lt
    have c3 := hB3.cell (i := 0) rfl
    have hw3 := hw2.trans (hb3.mono hw2.size)
    have R3 := Rw.of hO3
    clear hF2 hB2 hb2 hO3
    go_wp2_with (fail)
    refine (toFs_any A L c _ (HL.out _ hw3) hS').mono ?_
    rintro e v4 ⟨g4, d4, rfl, hF4, hb4⟩
    have hz4 := hb4.size
    have hB4 := hB3.below hb4 hB3.lt
    have hw4 := hw3.trans (hb4.mono hw3.size)
    have c4 := hB4.cell (i := 0) rfl
    have R4 := R3.below hb4
    have X4 := hF4.rw
    clear c3 hB3 R3 hF4
    go_wp2_with (fail)
    have hY5 := Blk.fresh v4 29 [.slice (some ⟨g4, 0, none⟩) L.length d4]
    have hb5 : Below v4.heap.size v4 (v4.alloc (.cells #[.slice (some ⟨g4, 0, none⟩) L.length d4] 29)) := (Below.refl _ _).alloc (Nat.le_refl _) _
    have hz5 : (v4.alloc (.cells #[.slice (some ⟨g4, 0, none⟩) L.length d4] 29)).heap.size = v4.heap.size + 1 := by simp
    generalize v4.alloc (.cells #[.slice (some ⟨g4, 0, none⟩) L.length d4] 29) = v5 at hY5 hb5 hz5 ⊢
    have hB5 := hB4.below hb5 hB4.lt
    have hw5 := hw4.trans (hb5.mono hw4.size)
    have R5 := R4.below hb5
    have X5 := X4.below hb5
    refine (implNames_any _ L _ _ (X5.fls hf) hS').mono ?_
    rw [HN.out]
    rintro e v6 ⟨A6, d6, rfl, hO6, hb6⟩
    have hz6 := hb6.size
    have hB6 := hB5.below hb6 hB5.lt
    have hY6 := hY5.below hb6 hY5.lt
    have hw6 := hw5.trans (hb6.mono hw5.size)
    have R6 := R5.below hb6
    have X6 := X5.below hb6
    have G6 := Rw.of hO6
    clear c4 hB4 hB5 R4 R5 X4 X5 hY5 hO6
    go_wp2_with (fail)
    refine (eqStringS_same _ _ N _ _ _ G6.strs R6.strs).mono ?_
    rintro e v7 ⟨rfl, hb7⟩
    have hz7 := hb7.size
    have hB7 := hB6.below hb7 hB6.lt
    have hY7 := hY6.below hb7 hY6.lt
    have hw7 := hw6.trans (hb7.mono hw6.size)
    have R7 := R6.below hb7
    have X7 := X6.below hb7
    have G7 := G6.below hb7
    have c7 := hB7.cell (i := 0) rfl
    have y7 := hY7.cell (i := 0) rfl
    clear hB6 hY6 R6 X6 G6
    go_wp2_with (fail)
    have z0 : v7.drew.cell? ⟨w.heap.size, 0, none⟩ = some (.slice A L.length c) := c7
    have z1 : v7.drew.cell? ⟨v4.heap.size, 0, none⟩ = some (.slice (some ⟨g4, 0, none⟩) L.length d4) := y7
    have X7d : Rw v7.drew v3.heap.size v4.heap.size 46 3 (.slice (some ⟨g4, 0, none⟩) L.length d4) L.length (flat L) := X7
    go_region_held3 (fun W => W.cell? ⟨w.heap.size, 0, none⟩ = some (.slice A L.length c) ∧ W.cell? ⟨v4.heap.size, 0, none⟩ = some (.slice (some ⟨g4, 0, none⟩) L.length d4))
      (first
        | exact ⟨z0, z1⟩
        | exact ⟨kept_cell hb8 z0, kept_cell hb8 z1⟩
        | exact ⟨kept_cell hb9 (kept_cell hb8 z0), kept_cell hb9 (kept_cell hb8 z1)⟩)
      (first
        | (go_at_call 8; refine (toFs_any A L c _ (HL.out _ (below_drew hw7)) hS').mono ?_; rintro e v8 ⟨g8, d8, rfl, hF8, hb8⟩)
        | (go_at_call 10; refine (eqFs_same _ _ L _ _ _ ((X7d.below hb8).fls hf) (OwnF.fls hF8)).mono ?_; rintro e v9 ⟨rfl, hb9⟩))
    have hb79 : Below v7.heap.size v7 v9 := (below_drew (Below.refl _ v7)).trans ((hb8.trans (hb9.mono hb8.size)).mono (Nat.le_refl _))
    have hz9 := hb79.size
    have hB9 := hB7.below hb79 hB7.lt
    have hY9 := hY7.below hb79 hY7.lt
    have hw9 := hw7.trans (hb79.mono hw7.size)
    have R9 := R7.below hb79
    have X9 := X7.below hb79
    have G9 := G7.below hb79
    have y9 := hY9.cell (i := 0) rfl
    clear c7 y7 z0 z1 hB7 hY7 R7 X7 G7 X7d hF8
    go_wp2_with (fail)
    refine (markFs_rw _ L _ _ _ 1 _ X9 hf (by omega) (by omega)).mono ?_
    rintro e v10 ⟨rfl, X10, hg10, hf10⟩
    have hz10 := hg10.size
    have xr := X9.atA
    have hB10 := hB9.off hg10 xr (by omega)
    have hw10 := below_off hw9 hg10 xr (by omega) (Nat.le_refl _)
    have R10 := R9.far hg10 xr (by omega)
    have G10 := G9.far hg10 xr (by omega)
    clear y9 hY9 hB9 R9 X9 G9
    go_wp2_with (fail)
    refine (eqStringS_same _ _ N _ _ _ G10.strs R10.strs).mono ?_
    rintro e v11 ⟨rfl, hb11⟩
    have hz11 := hb11.size
    have hB11 := hB10.below hb11 hB10.lt
    have hw11 := hw10.trans (hb11.mono hw10.size)
    have R11 := R10.below hb11
    have G11 := G10.below hb11
    clear hB10 R10 G10 X10
    go_wp2_with (fail)
    refine (markS_rw _ N _ _ _ 1 _ G11 (by omega) (by omega)).mono ?_
    rintro e v12 ⟨rfl, G12, hg12⟩
    have hz12 := hg12.size
    have gr := G11.atA
    have hB12 := hB11.off hg12 gr (by omega)
    have hw12 := below_off hw11 hg12 gr (by omega) (Nat.le_refl _)
    have R12 := R11.far hg12 gr (by omega)
    clear hB11 R11 G11
    go_wp2_with (fail)
    refine (heldStringS_any _ N.length _ 1 _ G12.strs (by omega) (by omega)).mono ?_
    rintro e v13 ⟨rfl, hb13⟩
    have hz13 := hb13.size
    have hB13 := hB12.below hb13 hB12.lt
    have hw13 := hw12.trans (hb13.mono hw12.size)
    have R13 := R12.below hb13
    have G13 := G12.below hb13
    have c13 := hB13.cell (i := 0) rfl
    clear hB12 R12 G12
    go_wp2_with (fail)
    refine (toFs_any A L c _ (HL.out _ hw13) hS').mono ?_
    rintro e v14 ⟨g14, d14, rfl, hF14, hb14⟩
    have hz14 := hb14.size
    have hw14 := hw13.trans (hb14.mono hw13.size)
    have R14 := R13.below hb14
    have G14 := G13.below hb14
    clear c13 hB13 R13 G13
    go_wp2_with (fail)
    refine (implNames_any _ L _ _ hF14.fls hS').mono ?_
    rw [HN.out]
    rintro e v15 ⟨A15, d15, rfl, hO15, hb15⟩
    have hz15 := hb15.size
    have hw15 := hw14.trans (hb15.mono hw14.size)
    have R15 := R14.below hb15
    have G15 := G14.below hb15
    have H15 := Rw.of hO15
    clear hF14 R14 G14 hO15
    go_wp2_with (fail)
    refine (eqStringS_same _ _ N _ _ _ H15.strs R15.strs).mono ?_
    rintro e v16 ⟨rfl, hb16⟩
    have hw16 := hw15.trans (hb16.mono hw15.size)
    have G16 := G15.below hb16
    clear H15 R15 G15
    go_wp2_with (fail)
    refine (heldStringS_any _ N.length _ 1 _ G16.strs (by omega) (by omega)).mono ?_
    rintro e v17 ⟨rfl, hb17⟩
    have hw17 := hw16.trans (hb17.mono hw16.size)
    go_wp2
    go_ret
    exact ⟨rfl, hw17⟩
end Go.Proofs.Ytmdjfgnmjelmhaa
