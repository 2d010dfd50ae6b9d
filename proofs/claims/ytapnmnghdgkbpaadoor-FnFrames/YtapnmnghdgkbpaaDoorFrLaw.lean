/- The walk of the law of FramesRead. -/
import Derived.Test.YtapnmnghdgkbpaaDoorFrSpec
import Derived.Test.YtapnmnghdgkbpaaDoorStrArg
namespace Go.Proofs.YtapnmnghdgkbpaaDoor
open Go.RowKit
set_option linter.unusedVariables false

set_option maxHeartbeats 2000000 in
theorem eqFrames_same (A B : Option Addr) (L : List ByteArray) (c d : Nat) (E cd : Int) (w : World) (hA : Strs w w.heap.size A L) (hB : Strs w w.heap.size B L) :
    Calls Tryd.prog 26 #[framesV (.slice A L.length c) E cd, framesV (.slice B L.length d) E cd] w fun e w' => e = .returned (.bool true) ∧ Below w.heap.size w w' := by
  have h0 := (Blk.fresh w 27 [.slice A L.length c, .int .i64 E, .int .i64 cd]).alloc (.cells #[.slice B L.length d, .int .i64 E, .int .i64 cd] 27)
  have h1 := Blk.fresh (w.alloc (.cells #[.slice A L.length c, .int .i64 E, .int .i64 cd] 27)) 27 [.slice B L.length d, .int .i64 E, .int .i64 cd]
  have hb0 : Below w.heap.size w ((w.alloc (.cells #[.slice A L.length c, .int .i64 E, .int .i64 cd] 27)).alloc (.cells #[.slice B L.length d, .int .i64 E, .int .i64 cd] 27)) := ((Below.refl _ w).alloc (Nat.le_refl _) _).alloc (by simp) _
  simp only [List.toArray, World.size_alloc] at h0 h1
  have HE := Lib.hid (eqStringS_same A B L c d _ ((hA.below hb0 (Nat.le_refl _)).mono hb0.size) ((hB.below hb0 (Nat.le_refl _)).mono hb0.size))
  go_enter Tryd.func26, Tryd.ntmps26
  go_wp2_with (go_at_call 63; refine HE.out.mono ?_; rintro e w1 ⟨rfl, hb1⟩; have g0 := h0.below hb1 h0.lt; have g1 := h1.below hb1 h1.lt; have k1 := g0.cell (i := 1) rfl; have k2 := g0.cell (i := 2) rfl; have k3 := g1.cell (i := 1) rfl; have k4 := g1.cell (i := 2) rfl)
  go_ret
  exact ⟨rfl, hb0.trans (hb1.mono hb0.size)⟩
set_option maxHeartbeats 2000000 in
theorem markFrames_rw (A : Option Addr) (L : List ByteArray) (c lo hi k : Nat) (E cd : Int) (w : World) (h : Rw w lo hi 9 1 (.slice A L.length c) L.length (L.map Value.string)) (h0 : 1 ≤ k) (h1 : k + L.length ≤ 4000000) :
    Calls Tryd.prog 27 #[framesV (.slice A L.length c) E cd, .int .i64 k] w fun e w' => e = .returned (.int .i64 ((k + L.length : Nat) : Int)) ∧
      Rw w' lo hi 9 1 (.slice A L.length c) (markN L.length k).length ((markN L.length k).map Value.string) ∧ w.grownBy w' (A.map (·.block)) := by
  have hb0 : Below w.heap.size w (w.alloc (.cells #[.slice A L.length c, .int .i64 E, .int .i64 cd] 27)) := (Below.refl _ w).alloc (Nat.le_refl _) _
  have HM := Lib.hid (markS_rw A L c lo hi k _ (h.below hb0) h0 h1)
  go_enter Tryd.func27, Tryd.ntmps27
  go_wp2_with (go_at_call 64; refine HM.out.mono ?_; rintro e w1 ⟨rfl, hR, hg⟩)
  go_ret
  exact ⟨rfl, hR, ⟨hg.os, hg.tape, hg.output, by have := hg.size; simp at this; omega, fun j hj hne => (hg.block j (by simp; omega) hne).trans (hb0.block j hj)⟩⟩
set_option maxHeartbeats 2000000 in
theorem heldFrames_any (A : Option Addr) (n c k : Nat) (E cd : Int) (w : World) (hF : Strs w w.heap.size A (markN n k)) (h0 : 1 ≤ k) (h1 : k + n ≤ 4000000) :
    Calls Tryd.prog 28 #[framesV (.slice A n c) E cd, .int .i64 k] w fun e w' => e = .returned (.int .i64 ((k + n : Nat) : Int)) ∧ Below w.heap.size w w' := by
  have hb0 : Below w.heap.size w (w.alloc (.cells #[.slice A n c, .int .i64 E, .int .i64 cd] 27)) := (Below.refl _ w).alloc (Nat.le_refl _) _
  have HM := Lib.hid (heldStringS_any A n c k _ ((hF.below hb0 (Nat.le_refl _)).mono hb0.size) h0 h1)
  go_enter Tryd.func28, Tryd.ntmps28
  go_wp2_with (go_at_call 65; refine HM.out.mono ?_; rintro e w1 ⟨rfl, hb1⟩)
  go_ret
  exact ⟨rfl, hb0.trans (hb1.mono hb0.size)⟩

set_option maxHeartbeats 1000000 in
theorem implFramesRead_size (s : ByteArray) (w : World) (hs : s.size ≤ maxLen) (h : 20000 < s.size) :
    Calls Tryd.prog 14 #[.string s] w fun e w' => ∃ v, e = .returned (framesV v 0 2) ∧ OwnS w' w.heap.size v [] ∧ Below w.heap.size w w' := by
  unfold maxLen at hs
  go_enter Tryd.func14, Tryd.ntmps14
  go_wp2
  exact bodyPost_ret (v := framesV (.slice none 0 0) 0 2) (by simp [results, Tryd.results14, go_sem]) rfl ⟨_, rfl, World.ownsRow_nil _ _ _ _, (Below.refl _ _).alloc (Nat.le_refl _) _⟩
set_option maxHeartbeats 1000000 in
theorem specFramesRead_size (s : ByteArray) (w : World) (hs : s.size ≤ maxLen) (h : 20000 < s.size) :
    Calls Tryd.prog 20 #[.string s] w fun e w' => ∃ v, e = .returned (framesV v 0 2) ∧ OwnS w' w.heap.size v [] ∧ Below w.heap.size w w' := by
  unfold maxLen at hs
  go_enter Tryd.func20, Tryd.ntmps20
  go_wp2
  exact bodyPost_ret (v := framesV (.slice none 0 0) 0 2) (by simp [results, Tryd.results20, go_sem]) rfl ⟨_, rfl, World.ownsRow_nil _ _ _ _, (Below.refl _ _).alloc (Nat.le_refl _) _⟩
/-- FramesRead: spec and impl answer alike. -/
theorem framesRead_both (s : ByteArray) (hs : s.size ≤ maxLen) : ∃ (P : List ByteArray) (E cd : Int), P.length ≤ 20000 ∧
    (∀ w, Calls Tryd.prog 20 #[.string s] w fun e w' => ∃ v, e = .returned (framesV v E cd) ∧ OwnS w' w.heap.size v P ∧ Below w.heap.size w w') ∧
    (∀ w, Handle w → Calls Tryd.prog 14 #[.string s] w fun e w' => ∃ v, e = .returned (framesV v E cd) ∧ OwnS w' w.heap.size v P ∧ Below w.heap.size w w') := by
  by_cases h : 20000 < s.size
  · exact ⟨[], 0, 2, by simp, fun w => specFramesRead_size s w hs h, fun w _ => implFramesRead_size s w hs h⟩
  · exact ⟨(frs s 0).map Prod.fst, (endOf (frs s 0) : Int), 0, by have := frs_len (s := s) s.size 0 (by omega); simp; omega, fun w => specFramesRead_any s w (by omega), fun w hg => implFramesRead_any s w (by omega) hg⟩

set_option maxHeartbeats 4000000 in
set_option maxRecDepth 1000000 in
theorem lawFramesRead (s : ByteArray) (w0 : s.size ≤ maxLen) (w : World) (hg : Handle w) :
    Calls Tryd.prog 5 #[.string s] w fun e w' => e = .returned (.bool true) ∧ Below w.heap.size w w' := by
  have hs := w0
  unfold maxLen at hs
  by_cases hl : s.size ≤ 1048576
  · obtain ⟨P, E, cd, hP, hS, hI⟩ := framesRead_both s w0
    have HS := Lib.hid hS
    have HI := Lib.hid hI
    have HG := Lib.hid (fun W (h : Below w.heap.size w W) => Handle.below hg h)
    clear hS hI hg
    go_enter Tryd.func5, Tryd.ntmps5
    go_wp2_with (fail)
    refine (HS.out _).mono ?_
    rintro e v1 ⟨u, rfl, hO1, hw1⟩
    obtain ⟨A1, d1, rfl⟩ := ownS_some hO1
    have R1 := Rw.of hO1
    have hz1 := hw1.size
    clear hO1
    go_wp2_with (fail)
    have hT2 := Blk.fresh v1 27 [.slice A1 P.length d1, .int .i64 E, .int .i64 cd]
    have hb2 : Below v1.heap.size v1 (v1.alloc (.cells #[.slice A1 P.length d1, .int .i64 E, .int .i64 cd] 27)) := (Below.refl _ _).alloc (Nat.le_refl _) _
    have hz2 : (v1.alloc (.cells #[.slice A1 P.length d1, .int .i64 E, .int .i64 cd] 27)).heap.size = v1.heap.size + 1 := by simp
    simp only [List.toArray] at hT2
    generalize v1.alloc (.cells #[.slice A1 P.length d1, .int .i64 E, .int .i64 cd] 27) = v2 at hT2 hb2 hz2 ⊢
    have R2 := R1.below hb2
    have hw2 := hw1.trans (hb2.mono hz1)
    clear R1
    refine (HI.out _ (HG.out _ hw2)).mono ?_
    rintro e v3 ⟨u, rfl, hO3, hb3⟩
    obtain ⟨A3, d3, rfl⟩ := ownS_some hO3
    have G3 := Rw.of hO3
    have R3 := R2.below hb3
    have hz3 := hb3.size
    have hT3 := hT2.below hb3 hT2.lt
    have hw3 := hw2.trans (hb3.mono hw2.size)
    clear hO3 R2 hT2
    have hU4 := Blk.fresh v3 27 [.slice A3 P.length d3, .int .i64 E, .int .i64 cd]
    have hb4 : Below v3.heap.size v3 (v3.alloc (.cells #[.slice A3 P.length d3, .int .i64 E, .int .i64 cd] 27)) := (Below.refl _ _).alloc (Nat.le_refl _) _
    have hz4 : (v3.alloc (.cells #[.slice A3 P.length d3, .int .i64 E, .int .i64 cd] 27)).heap.size = v3.heap.size + 1 := by simp
    simp only [List.toArray] at hU4
    have hT4 := hT3.below hb4 hT3.lt
    have t0 := hT4.cell (i := 0) rfl
    have t1 := hT4.cell (i := 1) rfl
    have t2 := hT4.cell (i := 2) rfl
    go_wp2_with (fail)
    generalize v3.alloc (.cells #[.slice A3 P.length d3, .int .i64 E, .int .i64 cd] 27) = v4 at hU4 hb4 hz4 hT4 t0 t1 t2 ⊢
    have R4 := R3.below hb4
    have G4 := G3.below hb4
    have hw4 := hw3.trans (hb4.mono hw3.size)
    clear R3 G3 hT3 t0 t1 t2
    refine (eqFrames_same _ _ P _ _ E cd _ G4.strs R4.strs).mono ?_
    rintro e v5 ⟨rfl, hb5⟩
    have hz5 := hb5.size
    have R5 := R4.below hb5
    have G5 := G4.below hb5
    have hT5 := hT4.below hb5 hT4.lt
    have hU5 := hU4.below hb5 hU4.lt
    have hw5 := hw4.trans (hb5.mono hw4.size)
    have t0 := hU5.cell (i := 0) rfl
    have t1 := hU5.cell (i := 1) rfl
    have t2 := hU5.cell (i := 2) rfl
    clear R4 G4 hT4 hU4
    go_wp2_with (fail)
    refine (markFrames_rw _ P _ _ _ 1 E cd _ G5 (by omega) (by omega)).mono ?_
    rintro e v6 ⟨rfl, G6, hg6⟩
    have hz6 := hg6.size
    have gr := G5.atA
    have hT6 := hT5.off hg6 gr (by omega)
    have hU6 := hU5.off hg6 gr (by omega)
    have hw6 := below_off hw5 hg6 gr (by omega) (Nat.le_refl _)
    have R6 := R5.far hg6 gr (by omega)
    clear t0 t1 t2 R5 G5 hT5 hU5
    have t0 := hU6.cell (i := 0) rfl
    have t1 := hU6.cell (i := 1) rfl
    have t2 := hU6.cell (i := 2) rfl
    go_wp2_with (fail)
    refine (heldFrames_any _ P.length _ 1 E cd _ G6.strs (by omega) (by omega)).mono ?_
    rintro e v7 ⟨rfl, hb7⟩
    have hz7 := hb7.size
    have R7 := R6.below hb7
    have G7 := G6.below hb7
    have hT7 := hT6.below hb7 hT6.lt
    have hU7 := hU6.below hb7 hU6.lt
    have hw7 := hw6.trans (hb7.mono hw6.size)
    clear t0 t1 t2 R6 G6 hT6 hU6
    go_wp2_with (fail)
    refine (HI.out _ (HG.out _ hw7)).mono ?_
    rintro e v8 ⟨u, rfl, hO8, hb8⟩
    obtain ⟨A8, d8, rfl⟩ := ownS_some hO8
    have H8 := Rw.of hO8
    have R8 := R7.below hb8
    have G8 := G7.below hb8
    have hz8 := hb8.size
    have hT8 := hT7.below hb8 hT7.lt
    have hU8 := hU7.below hb8 hU7.lt
    have hw8 := hw7.trans (hb8.mono hw7.size)
    clear hO8 R7 G7 hT7 hU7
    have hb9 : Below v8.heap.size v8 (v8.alloc (.cells #[.slice A8 P.length d8, .int .i64 E, .int .i64 cd] 27)) := (Below.refl _ _).alloc (Nat.le_refl _) _
    have hz9 : (v8.alloc (.cells #[.slice A8 P.length d8, .int .i64 E, .int .i64 cd] 27)).heap.size = v8.heap.size + 1 := by simp
    have hT9 := hT8.below hb9 hT8.lt
    have t0 := hT9.cell (i := 0) rfl
    have t1 := hT9.cell (i := 1) rfl
    have t2 := hT9.cell (i := 2) rfl
    go_wp2_with (fail)
    generalize v8.alloc (.cells #[.slice A8 P.length d8, .int .i64 E, .int .i64 cd] 27) = v9 at hb9 hz9 hT9 t0 t1 t2 ⊢
    have R9 := R8.below hb9
    have G9 := G8.below hb9
    have H9 := H8.below hb9
    have hU9 := hU8.below hb9 hU8.lt
    have hw9 := hw8.trans (hb9.mono hw8.size)
    clear R8 G8 H8 hT8 hU8 t0 t1 t2
    refine (eqFrames_same _ _ P _ _ E cd _ H9.strs R9.strs).mono ?_
    rintro e v10 ⟨rfl, hb10⟩
    have hz10 := hb10.size
    have G10 := G9.below hb10
    have hU10 := hU9.below hb10 hU9.lt
    have hw10 := hw9.trans (hb10.mono hw9.size)
    have t0 := hU10.cell (i := 0) rfl
    have t1 := hU10.cell (i := 1) rfl
    have t2 := hU10.cell (i := 2) rfl
    clear R9 G9 H9 hU9 hT9
    go_wp2_with (fail)
    refine (heldFrames_any _ P.length _ 1 E cd _ G10.strs (by omega) (by omega)).mono ?_
    rintro e v11 ⟨rfl, hb11⟩
    have hw11 := hw10.trans (hb11.mono hw10.size)
    clear t0 t1 t2
    go_wp2
    go_ret
    exact ⟨rfl, hw11⟩
  · go_enter Tryd.func5, Tryd.ntmps5
    go_wp2
    go_ret
    exact ⟨rfl, Below.refl _ _⟩
end Go.Proofs.YtapnmnghdgkbpaaDoor
