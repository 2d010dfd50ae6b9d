/- The walk of the law on FsRead. -/
import Derived.Test.YtmdjfgnmjelmhaaDoorFRead
import Derived.Test.YtmdjfgnmjelmhaaDoorFilEq
import Derived.Deep.RegionHeld3
namespace Go.Proofs.YtmdjfgnmjelmhaaDoor
open Go.RowKit
set_option linter.unusedVariables false

theorem eqTextOut_same (t : ByteArray) (cd : Int) (w : World) : Calls Tryd.prog 13 #[.agg #[.string t, .int .i64 0, .int .i64 cd], .agg #[.string t, .int .i64 0, .int .i64 cd]] w fun e w' => e = .returned (.bool true) ∧ Below w.heap.size w w' := by
  go_enter Tryd.func13, Tryd.ntmps13
  go_wp2
  go_ret
  exact ⟨rfl, ((Below.refl _ _).alloc (Nat.le_refl _) _).alloc (by simp) _⟩

set_option maxHeartbeats 4000000 in
set_option maxRecDepth 1000000 in
theorem lawFsRead (A : Option Addr) (L : List Fil) (c : Nat) (s : ByteArray) (a0 a1 a2 a3 a4 : Addr) (w : World) (hL : Fls w w.heap.size A L) (hs : s.size ≤ maxLen) (hE : Errs w a0 a1 a2 a3 a4) :
    Calls Tryd.prog 3 #[.agg #[.slice A L.length c], .string s] w fun e w' => e = .returned (.bool true) ∧ Below w.heap.size w w' := by
  have hs' := hs
  unfold maxLen at hs'
  have HL : Hid (∀ W, Below w.heap.size w W → Fls W W.heap.size A L) := Lib.hid fun W h => (hL.below h (Nat.le_refl _)).mono h.size
  have hB0 := Blk.fresh w 24 [.slice A L.length c]
  have hb0 : Below w.heap.size w (w.alloc (.cells #[.slice A L.length c] 24)) := (Below.refl _ _).alloc (Nat.le_refl _) _
  have hz0 : (w.alloc (.cells #[.slice A L.length c] 24)).heap.size = w.heap.size + 1 := by simp
  obtain ⟨cd, HC⟩ : ∃ cd, Hid (codeOf L s = cd) := ⟨_, Lib.hid rfl⟩
  obtain ⟨T, HT⟩ : ∃ T, Hid (readT L s = T) := ⟨_, Lib.hid rfl⟩
  by_cases hbig : 1048576 < s.size
  · go_enter Tryd.func3, Tryd.ntmps3
    go_wp2
    go_ret
    exact ⟨rfl, hb0⟩
  go_enter Tryd.func3, Tryd.ntmps3
  go_wp2_with (fail)
  generalize w.alloc (.cells #[.slice A L.length c] 24) = v0 at hB0 hb0 hz0 ⊢
  refine (szFs_any A L c _ (HL.out _ hb0)).mono ?_
  rintro e v1 ⟨r, rfl, r0, r1, hS, hb1⟩
  have hz1 := hb1.size
  have hB1 := hB0.below hb1 (by omega)
  have c1 := hB1.cell (i := 0) rfl
  have hw1 := hb0.trans (hb1.mono (by omega))
  by_cases hr : r < 0
  · go_wp2
    go_ret
    exact ⟨rfl, hw1⟩
  · have hS' := hS (by omega)
    go_wp2_with (fail)
    refine (toFs_any A L c _ (HL.out _ hw1) hS').mono ?_
    rintro e v2 ⟨g2, d2, rfl, hF2, hb2⟩
    have hw2 := hw1.trans (hb2.mono hw1.size)
    have hB2 := hB1.below hb2 hB1.lt
    clear c1 hB0 hB1 hb0 hb1
    have Sp := specRead_any (some ⟨g2, 0, none⟩) L d2 s _ hF2.fls hs
    rw [HC.out, HT.out] at Sp
    unfold tout at Sp
    go_wp2_with (fail)
    refine Sp.mono ?_
    rintro e v3 ⟨rfl, hb3⟩
    have hw3 := hw2.trans (hb3.mono hw2.size)
    have hB3 := hB2.below hb3 hB2.lt
    have hb4 : Below v3.heap.size v3 (v3.alloc (.cells #[.string T, .int .i64 0, .int .i64 cd] 27)) := (Below.refl _ _).alloc (Nat.le_refl _) _
    have hT4 := Blk.fresh v3 27 [.string T, .int .i64 0, .int .i64 cd]
    have hw4 := hw3.trans (hb4.mono hw3.size)
    have hB4 := hB3.below hb4 hB3.lt
    have c4 := hB4.cell (i := 0) rfl
    clear hB2 hB3 hF2 Sp
    go_wp2_with (fail)
    generalize v3.alloc (.cells #[.string T, .int .i64 0, .int .i64 cd] 27) = v4 at hb4 hT4 hw4 hB4 c4 ⊢
    refine (toFs_any A L c _ (HL.out _ hw4) hS').mono ?_
    rintro e v5 ⟨g5, d5, rfl, hF5, hb5⟩
    have hw5 := hw4.trans (hb5.mono hw4.size)
    have hB5 := hB4.below hb5 hB4.lt
    have hT5 := hT4.below hb5 hT4.lt
    have hb6 : Below v5.heap.size v5 (v5.alloc (.cells #[.slice (some ⟨g5, 0, none⟩) L.length d5] 31)) := (Below.refl _ _).alloc (Nat.le_refl _) _
    have hY6 := Blk.fresh v5 31 [.slice (some ⟨g5, 0, none⟩) L.length d5]
    have hw6 := hw5.trans (hb6.mono hw5.size)
    have hB6 := hB5.below hb6 hB5.lt
    have hT6 := hT5.below hb6 hT5.lt
    have hF6 := hF5.below hb6 (Nat.le_refl _)
    clear c4 hB4 hB5 hT4 hT5 hF5
    go_wp2_with (fail)
    generalize v5.alloc (.cells #[.slice (some ⟨g5, 0, none⟩) L.length d5] 31) = v6 at hb6 hY6 hw6 hB6 hT6 hF6 ⊢
    have Im := implRead_any _ L d5 s a0 a1 a2 a3 a4 _ hF6.fls hS' hs (hE.below hw6)
    rw [HC.out, HT.out] at Im
    unfold tout at Im
    refine Im.mono ?_
    rintro e v7 ⟨rfl, hb7⟩
    have hw7 := hw6.trans (hb7.mono hw6.size)
    have hB7 := hB6.below hb7 hB6.lt
    have hT7 := hT6.below hb7 hT6.lt
    have hY7 := hY6.below hb7 hY6.lt
    have hF7 := hF6.below hb7 (Nat.le_refl _)
    have hb8 : Below v7.heap.size v7 (v7.alloc (.cells #[.string T, .int .i64 0, .int .i64 cd] 27)) := (Below.refl _ _).alloc (Nat.le_refl _) _
    have hG8 := Blk.fresh v7 27 [.string T, .int .i64 0, .int .i64 cd]
    have hw8 := hw7.trans (hb8.mono hw7.size)
    have hB8 := hB7.below hb8 hB7.lt
    have hT8 := hT7.below hb8 hT7.lt
    have hY8 := hY7.below hb8 hY7.lt
    have hF8 := hF7.below hb8 (Nat.le_refl _)
    have t0 := hT8.cell (i := 0) rfl
    have t1 := hT8.cell (i := 1) rfl
    have t2 := hT8.cell (i := 2) rfl
    clear hB6 hB7 hT6 hT7 hY6 hY7 hF6 hF7 Im
    go_wp2_with (fail)
    generalize v7.alloc (.cells #[.string T, .int .i64 0, .int .i64 cd] 27) = v8 at hb8 hG8 hw8 hB8 hT8 hY8 hF8 t0 t1 t2 ⊢
    refine (eqTextOut_same T cd _).mono ?_
    rintro e v9 ⟨rfl, hb9⟩
    have hw9 := hw8.trans (hb9.mono hw8.size)
    have hB9 := hB8.below hb9 hB8.lt
    have hY9 := hY8.below hb9 hY8.lt
    have hF9 := hF8.below hb9 (Nat.le_refl _)
    have c9 := hB9.cell (i := 0) rfl
    have y9 := hY9.cell (i := 0) rfl
    clear t0 t1 t2 hT8 hG8
    go_wp2_with (fail)
    have z0 : v9.drew.cell? ⟨w.heap.size, 0, none⟩ = some (.slice A L.length c) := c9
    have z1 : v9.drew.cell? ⟨v5.heap.size, 0, none⟩ = some (.slice (some ⟨g5, 0, none⟩) L.length d5) := y9
    go_region_held3 (fun W => W.cell? ⟨w.heap.size, 0, none⟩ = some (.slice A L.length c) ∧ W.cell? ⟨v5.heap.size, 0, none⟩ = some (.slice (some ⟨g5, 0, none⟩) L.length d5))
      (first
        | exact ⟨z0, z1⟩
        | exact ⟨kept_cell hb10 z0, kept_cell hb10 z1⟩
        | exact ⟨kept_cell hb11 (kept_cell hb10 z0), kept_cell hb11 (kept_cell hb10 z1)⟩)
      (first
        | (go_at_call 11; refine (toFs_any A L c _ (HL.out _ (below_drew hw9)) hS').mono ?_; rintro e v10 ⟨g10, d10, rfl, hF10, hb10⟩)
        | (go_at_call 14; refine (eqFs_same _ _ L _ _ _ (OwnF.fls (hF9.drew.below hb10 (Nat.le_refl _))) (OwnF.fls hF10)).mono ?_; rintro e v11 ⟨rfl, hb11⟩))
    go_wp2
    go_ret
    have hb911 : Below v9.heap.size v9 v11 := (below_drew (Below.refl _ v9)).trans ((hb10.trans (hb11.mono hb10.size)).mono (Nat.le_refl _))
    exact ⟨rfl, hw9.trans (hb911.mono hw9.size)⟩
end Go.Proofs.YtmdjfgnmjelmhaaDoor
