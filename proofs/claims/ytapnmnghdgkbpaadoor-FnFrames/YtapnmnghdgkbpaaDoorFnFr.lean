/- The walk of the law FnFrames. -/
import Derived.Test.YtapnmnghdgkbpaaDoorFrLaw
import Derived.Test.YtapnmnghdgkbpaaDoorFrmLaw
import Derived.Test.YtapnmnghdgkbpaaDoorFrMath
import Derived.Test.YtapnmnghdgkbpaaDoorDrFr
import Derived.Laws.StructEq
import Derived.Deep.RegionHeld3
namespace Go.Proofs.YtapnmnghdgkbpaaDoor
open Go.RowKit
set_option linter.unusedVariables false
set_option maxRecDepth 1000000

theorem eqTx (t : ByteArray) (b d : Int) (w : World) : (Op.equalIn 10000 35 (textOut t b d) (textOut t b d)).run Tryd.prog w = .ok true w := by
  have u2 := Tryd.underlying2
  have u9 := Tryd.underlying9
  have hS : Tryd.prog.underlying 35 = some (.struct (Tryd.prog.fieldsOf 35)) := by kernel_rfl
  have hp : Tryd.prog.stoodInHeld 35 = false := by kernel_rfl
  rw [show (10000 : Nat) = 9999 + 1 from rfl, run_equalIn_agg w 9999 35 _ _ hS hp]
  simp only [Program.fieldsOf, Tryd.underlying35]
  go_simp
theorem fld1 (C : Option Addr) (n x : Nat) (E cd : Int) (w : World) : (Instr.field 27 (framesV (.slice C n x) E cd) 1).run Tryd.prog w = .ok (.int .i64 E) w := by kernel_rfl
theorem fld0 (C : Option Addr) (n x : Nat) (E cd : Int) (w : World) : (Instr.field 27 (framesV (.slice C n x) E cd) 0).run Tryd.prog w = .ok (.slice C n x) w := by kernel_rfl
theorem bts_below {w w' : World} {A : Option Addr} {n : Nat} (h : Bts w w.heap.size A n) (hb : Below w.heap.size w w') : Bts w' w'.heap.size A n :=
  ⟨h.1, fun i hi => by
    obtain ⟨a, x, e, h1, h2, h3⟩ := h.2 i hi
    refine ⟨a, x, e, Nat.lt_of_lt_of_le h1 hb.size, ?_, h3⟩
    rw [hb.cell (p := a.add i) (by rw [add_block]; exact h1)]; exact h2⟩

set_option maxHeartbeats 2000000 in
theorem lwTexts_same (A B : Option Addr) (L : List ByteArray) (c d : Nat) (w : World) (hA : Strs w w.heap.size A L) (hB : Strs w w.heap.size B L) :
    Calls Tryd.prog 16 #[.slice A L.length c, .slice B L.length d] w fun e w' => e = .returned (.bool true) ∧ ∃ n, w' = w.drewN n := by
  have hn := hA.1
  unfold maxLen at hn
  go_enter Tryd.func16, Tryd.ntmps16
  go_wp2
  go_loopw [5] (fun i wr => ∃ k m : Nat, k ≤ L.length ∧ i = .int .i64 k ∧ wr = w.drewN m) (fun i _ => L.length - (intOf i).toNat)
  case atStart => exact ⟨0, 0, by omega, rfl, rfl⟩
  case round =>
    obtain ⟨k, m, hk, rfl, rfl⟩ := hrel
    by_cases hlt : k < L.length
    · obtain ⟨a, rfl, hab, a0⟩ := hA.2 k hlt
      obtain ⟨b, rfl, hbb, b0⟩ := hB.2 k hlt
      have hlt' : (k : Int) < (L.length : Int) := by omega
      go_wp2
      go_quiet (fail)
      go_wp2
      exact ⟨⟨k + 1, _, by omega, by go_num, rfl⟩, by simp [intOf]; omega⟩
    · obtain rfl : k = L.length := by omega
      go_wp2
      go_ret
      exact ⟨rfl, m, rfl⟩
theorem lwTexts_n (A B : Option Addr) (L : List ByteArray) (n c d : Nat) (w : World) (hn : L.length = n) (hA : Strs w w.heap.size A L) (hB : Strs w w.heap.size B L) :
    Calls Tryd.prog 16 #[.slice A n c, .slice B n d] w fun e w' => e = .returned (.bool true) ∧ ∃ n, w' = w.drewN n := by subst hn; exact lwTexts_same A B L c d w hA hB

set_option maxHeartbeats 2000000 in
theorem lwAt_any (A : Option Addr) (n c : Nat) (i most : Int) (w : World) (h : Bts w w.heap.size A n) (hi : i = 0 ∨ i = 1) (m0 : 1 < most) (m1 : most ≤ 1000) :
    Calls Tryd.prog 15 #[.slice A n c, .int .i64 i, .int .i64 most] w fun e w' => ∃ v : Int, e = .returned (.int .i64 v) ∧ 0 ≤ v ∧ v < most ∧ w = w' := by
  have hn := h.1
  have hm : decide (most ≤ 1) = false := by simp; omega
  by_cases h0 : n = 0
  · subst h0
    go_enter Tryd.func15, Tryd.ntmps15
    go_wp2
    go_ret
    exact ⟨0, rfl, by omega, by omega, rfl⟩
  · have d0 : ((n : Int) == 0) = false := by simp; omega
    obtain ⟨j, hj, hji⟩ : ∃ j : Nat, j < n ∧ i % (n : Int) = j := ⟨(i % (n : Int)).toNat, by have := Int.emod_lt_of_pos i (show (0 : Int) < n by omega); have := Int.emod_nonneg i (show (n : Int) ≠ 0 by omega); omega, by have := Int.emod_nonneg i (show (n : Int) ≠ 0 by omega); omega⟩
    obtain ⟨a, x, rfl, hab, a0, x0, x1⟩ := h.2 j hj
    have hi0 : 0 ≤ i ∧ i ≤ 1 := by omega
    have hjj : (j : Int) < (n : Int) := by omega
    have np : (0 : Int) < n := by omega
    have r0 := Int.emod_nonneg x (show most ≠ 0 by omega)
    have r1 := Int.emod_lt_of_pos x (show 0 < most by omega)
    clear hi
    go_enter Tryd.func15, Tryd.ntmps15
    go_wp2
    go_ret
    exact ⟨_, rfl, r0, r1, rfl⟩

theorem emp_zero : (⟨#[]⟩ : ByteArray).size = 0 := rfl
/-- What is read of frames that were written, and of a beginning of them. -/
theorem frames_back {L : List ByteArray} (hl : L.length ≤ 5) (hne : framesOf L ≠ ⟨#[]⟩) :
    L ≠ [] ∧ (frs (framesOf L) 0).map Prod.fst = L ∧ endOf (frs (framesOf L) 0) = (framesOf L).size ∧
      ∀ k, k < (framesOf L).size → ∃ m, m < L.length ∧ (frs ((framesOf L).extract 0 k) 0).map Prod.fst = L.take m ∧ endOf (frs ((framesOf L).extract 0 k) 0) ≤ k := by
  have e : framesOf L = frL L ⟨#[]⟩ := by unfold framesOf; rw [if_neg (by omega)]
  rw [e] at hne ⊢
  obtain ⟨h1, h2⟩ := frL_cat L ⟨#[]⟩ hne
  have hL : L ≠ [] := fun h => by rw [h, frL] at hne; exact hne rfl
  obtain ⟨h3, h4⟩ := frs_cat L ⟨#[]⟩ h2
  rw [emp_zero] at h3 h4
  rw [← h1] at h3 h4
  refine ⟨hL, h3, h4 hL, fun k hk => ?_⟩
  rw [h1, emp_append] at hk ⊢
  obtain ⟨m, hm, hh⟩ := frs_cut L ⟨#[]⟩ k h2 hk
  rw [emp_append, emp_zero] at hh
  refine ⟨m, hm, hh, ?_⟩
  have := endOf_le ((cat L).extract 0 k)
  have hz : ((cat L).extract 0 k).size = k := by simp; omega
  omega
theorem strs_take {w : World} {B : Nat} {A : Option Addr} {L : List ByteArray} (h : Strs w B A L) (m : Nat) : Strs w B A (L.take m) :=
  ⟨Nat.le_trans (by simp; omega) h.1, fun i hi => by
    have hi' : i < L.length := by simp at hi; omega
    obtain ⟨a, e, h1, h2⟩ := h.2 i hi'
    exact ⟨a, e, h1, by rw [List.getElem_take]; exact h2⟩⟩

theorem lawFramesBig (A1 A2 : Option Addr) (n1 n2 c1 c2 : Nat) (w : World) (h : 1048576 < n1 ∨ 1048576 < n2) (hn1 : n1 ≤ maxLen) (hn2 : n2 ≤ maxLen) :
    Calls Tryd.prog 3 #[.slice A1 n1 c1, .slice A2 n2 c2] w fun e w' => e = .returned (.bool true) ∧ Below w.heap.size w w' := by
  unfold maxLen at hn1 hn2
  by_cases k1 : 1048576 < n1 <;> by_cases k2 : 1048576 < n2 <;> try omega
  all_goals
    go_enter Tryd.func3, Tryd.ntmps3
    go_wp2
    go_ret
    exact ⟨rfl, Below.refl _ _⟩

set_option maxHeartbeats 4000000 in
theorem lawFramesIn (A1 A2 : Option Addr) (n1 n2 c1 c2 : Nat) (w : World) (h1 : Bts w w.heap.size A1 n1) (h2 : Bts w w.heap.size A2 n2) (hK : Handle w) :
    Calls Tryd.prog 3 #[.slice A1 n1 c1, .slice A2 n2 c2] w fun e w' => e = .returned (.bool true) ∧ Below w.heap.size w w' := by
  have l1 := h1.1
  have l2 := h2.1
  have b1 : decide (1048576 < (n1 : Int)) = false := by simp; omega
  have b2 : decide (1048576 < (n2 : Int)) = false := by simp; omega
  go_enter Tryd.func3, Tryd.ntmps3
  go_wp2_with (fail)
  refine (drawFramesOf_any A1 n1 c1 _ h1).mono ?_
  rintro e w1 ⟨L, C, x, rfl, hO, hl, hs, hb1⟩
  have HS := Lib.hid (hO.strs.2)
  have hcap : L.length ≤ x := by
    rcases hO.2 with ⟨hv, hz⟩ | ⟨g, cap, cur, hv, _, _, hl2, _⟩
    · injection hv with e1 e2 e3; omega
    · injection hv with e1 e2 e3; omega
  have hs' : ∀ i (h : i < L.length), L[i].size ≤ 1048576 := fun i hi => by have := hs _ (List.getElem_mem hi); omega
  have FI := Lib.hid (fun W h => implFramesOf_any C L x W h hs')
  have FS := Lib.hid (fun W h => specFramesOf_any C L x W h hs')
  have FB := Lib.hid (fun hne => frames_back hl hne)
  have FZ := framesOf_size hl
  obtain ⟨F, HF⟩ : ∃ F, Hid (framesOf L = F) := ⟨_, Lib.hid rfl⟩
  rw [HF.out] at FI FS FB FZ
  clear hs hs' hO
  go_wp2_with (fail)
  refine (FI.out _ HS.out).mono ?_
  rintro e w2 ⟨rfl, hb2⟩
  go_wp2_with (fail)
  refine (FS.out _ ((HS.out.below hb2 (Nat.le_refl _)).mono hb2.size)).mono ?_
  rintro e w3 ⟨rfl, hb3⟩
  have hb13 := hb2.trans (hb3.mono hb2.size)
  have SW : Hid (∀ W, Below w1.heap.size w1 W → Strs W W.heap.size C L) := Lib.hid fun W h => (HS.out.below h (Nat.le_refl _)).mono h.size
  have hw3 := hb1.trans (hb13.mono hb1.size)
  by_cases hne : F = ⟨#[]⟩
  focus
    subst hne
    have hbm := hw3
    go_wp2_with (fail)
    generalize w3 = wm at hbm ⊢
  rotate_left
  focus
    have FB' := FB.out hne
    obtain ⟨hLn, r1, r2, r3⟩ := FB'
    have RF := Lib.hid (fun W hW => implFramesRead_any F W (by omega) hW)
    rw [r1, r2] at RF
    have R3 := Lib.hid r3
    have hF0 : 0 < F.size := by
      rcases Nat.eq_zero_or_pos F.size with h0 | h0
      · exact absurd (ByteArray.ext (Array.eq_empty_of_size_eq_zero h0)) hne
      · exact h0
    have hemp := toList_some hF0
    clear r1 r2 r3 hne FB FI FS
    go_wp2_with (fail)
    refine (RF.out _ (hK.below hw3)).mono ?_
    rintro e w4 ⟨v4, rfl, hO4, hb4⟩
    obtain ⟨C4, x4, rfl⟩ := ownS_some hO4
    have S4 := Lib.hid hO4.strs.2
    have hw4 := hw3.trans (hb4.mono hw3.size)
    clear hO4 RF
    have hX5 := Blk.fresh w4 27 [.slice C4 L.length x4, .int .i64 F.size, .int .i64 0]
    have hb5 : Below w4.heap.size w4 (w4.alloc (.cells #[.slice C4 L.length x4, .int .i64 F.size, .int .i64 0] 27)) := (Below.refl _ _).alloc (Nat.le_refl _) _
    simp only [List.toArray] at hX5
    go_wp2_with (fail)
    generalize w4.alloc (.cells #[.slice C4 L.length x4, .int .i64 F.size, .int .i64 0] 27) = w5 at hX5 hb5 ⊢
    have hw5 := hw4.trans (hb5.mono hw4.size)
    refine (lwAt_any A2 n2 c2 0 256 _ (bts_below h2 hw5) (.inl rfl) (by omega) (by omega)).mono ?_
    rintro e _ ⟨p, rfl, p0, p1, rfl⟩
    go_wp2_with (fail)
    refine (lwAt_any A2 n2 c2 1 4 _ (bts_below h2 hw5) (.inr rfl) (by omega) (by omega)).mono ?_
    rintro e _ ⟨q, rfl, q0, q1, rfl⟩
    have hk0 := Int.emod_nonneg (p + 256 * q) (show (F.size : Int) ≠ 0 by omega)
    have hk1 := Int.emod_lt_of_pos (p + 256 * q) (show (0 : Int) < (F.size : Int) by omega)
    have hFp : (0 : Int) < (F.size : Int) := by omega
    have hFne : ((F.size : Int) == 0) = false := by rw [beq_eq_false_iff_ne]; omega
    obtain ⟨k, HK⟩ : ∃ k : Nat, Hid ((p + 256 * q) % (F.size : Int) = k) := ⟨((p + 256 * q) % (F.size : Int)).toNat, Lib.hid (by omega)⟩
    have hkF : k < F.size := by have := HK.out; omega
    go_wp2_with (fail)
    rw [HK.out, Int.toNat_natCast]
    clear hk0 hk1
    obtain ⟨m, hm, r4, r5⟩ := R3.out k hkF
    have hEs : (F.extract 0 k).size ≤ 20000 := by simp; omega
    have RK := Lib.hid (fun W hW => implFramesRead_any (F.extract 0 k) W hEs hW)
    rw [r4] at RK
    obtain ⟨E, HE⟩ : ∃ E, Hid (endOf (frs (F.extract 0 k) 0) = E) := ⟨_, Lib.hid rfl⟩
    rw [HE.out] at RK r5
    clear r4 R3 hEs
    refine (RK.out _ (hK.below hw5)).mono ?_
    rintro e w6 ⟨v6, rfl, hO6, hb6⟩
    obtain ⟨C6, x6, rfl⟩ := ownS_some hO6
    have hlt : (L.take m).length = m := by simp; omega
    rw [hlt]
    have S6 := Lib.hid hO6.strs.2
    clear hO6 RK
    have hw6 := hw5.trans (hb6.mono hw5.size)
    have hX7 := Blk.fresh w6 27 [.slice C6 m x6, .int .i64 E, .int .i64 0]
    have hb7 : Below w6.heap.size w6 (w6.alloc (.cells #[.slice C6 m x6, .int .i64 E, .int .i64 0] 27)) := (Below.refl _ _).alloc (Nat.le_refl _) _
    simp only [List.toArray] at hX7
    have hC : ∃ a, C = some a := by
      obtain ⟨a, e, _⟩ := HS.out.2 m hm
      exact ⟨a, e⟩
    obtain ⟨a, rfl⟩ := hC
    have hmx : m ≤ x := by omega
    have hmx' : (m : Int) ≤ (x : Int) := by omega
    have g1 : decide ((L.length : Int) ≤ (m : Int)) = false := by simp; omega
    have g1' : decide (L.length ≤ m) = false := by simp; omega
    have g2 : decide ((k : Int) < (E : Int)) = false := by simp; omega
    have g2' : decide (k < E) = false := by simp; omega
    go_wp2_with (fail)
    generalize w6.alloc (.cells #[.slice C6 m x6, .int .i64 E, .int .i64 0] 27) = w7 at hX7 hb7 ⊢
    have hw7 := hw6.trans (hb7.mono hw6.size)
    have hb57 := hb6.trans (hb7.mono hb6.size)
    have hX57 := hX5.below hb57 hX5.lt
    have hb47 := hb5.trans (hb57.mono hb5.size)
    have hb37 := hb4.trans (hb47.mono hb4.size)
    have hb17 := hb13.trans (hb37.mono hb13.size)
    have Sa : Strs w7 w7.heap.size C4 L := (S4.out.below hb47 (Nat.le_refl _)).mono hb47.size
    have Sb : Strs w7 w7.heap.size (some a) L := SW.out w7 hb17
    have Sc : Strs w7 w7.heap.size C6 (L.take m) := (S6.out.below hb7 (Nat.le_refl _)).mono hb7.size
    have T1 : Hid (∀ i, Calls Tryd.prog 16 #[.slice C4 L.length x4, .slice (some a) L.length x] (w7.drewN i) fun e w' => e = .returned (.bool true) ∧ ∃ m, w' = (w7.drewN i).drewN m) := Lib.hid fun i => lwTexts_n C4 (some a) L L.length x4 x (w7.drewN i) rfl Sa Sb
    have T2 : Hid (∀ i, Calls Tryd.prog 16 #[.slice C6 m x6, .slice (some a) m x] (w7.drewN i) fun e w' => e = .returned (.bool true) ∧ ∃ m, w' = (w7.drewN i).drewN m) := Lib.hid fun i => lwTexts_n C6 (some a) (L.take m) m x6 x (w7.drewN i) hlt Sc (strs_take Sb m)
    clear Sa Sb Sc S4 S6 hX5 hlt hb5 hb6 hb4 hb7 hb57 hb47 hb37 hb17 hw4 hw5 hw6
    have y0 := hX57.cell (i := 0) rfl
    have y1 := hX57.cell (i := 1) rfl
    have z0 := hX7.cell (i := 0) rfl
    have z1 := hX7.cell (i := 1) rfl
    go_quiet ((go_at_call 16; first | (with_reducible exact Calls.quiet_of (T1.out _)) | (with_reducible exact Calls.quiet_of (T2.out _))))
    have hbm := below_drewN hw7 nq
    generalize w7.drewN nq = wm at hbm ⊢
    clear y0 y1 z0 z1 hX57 hX7 hw7 T1 T2
    go_wp2_with (fail)
  all_goals
    refine (drawFramesRead_any A2 n2 c2 _ (bts_below h2 hbm)).mono ?_
    rintro e wa ⟨u, rfl, hu, hba⟩
    have hwa := hbm.trans (hba.mono hbm.size)
    go_wp2_with (fail)
    refine (drawFrameAt_any A2 n2 c2 _ (bts_below h2 hwa)).mono ?_
    rintro e wb ⟨vv, at0, rfl, hvv, v0, v1, hbb⟩
    have hwb := hwa.trans (hbb.mono hwa.size)
    go_wp2_with (fail)
    refine (drawFrameOf_any A1 n1 c1 _ (bts_below h1 hwb)).mono ?_
    rintro e wc ⟨t, rfl, ht, hbc⟩
    have hwc := hwb.trans (hbc.mono hwb.size)
    obtain ⟨P, E', cd, hP, frs1, fri1⟩ := framesRead_both u (by unfold maxLen; omega)
    have FRs := Lib.hid frs1
    have FRi := Lib.hid fri1
    obtain ⟨tt, bb, dd, fas1, fai1⟩ := frameAt_both vv at0 (by unfold maxLen; omega) ⟨v0, v1⟩
    have FAs := Lib.hid fas1
    have FAi := Lib.hid fai1
    clear frs1 fri1 fas1 fai1 hba hbb hbc
    go_wp2_with (fail)
    refine (FRi.out _ (hK.below hwc)).mono ?_
    rintro e wd ⟨vd, rfl, hOd, hbd⟩
    obtain ⟨Cd, xd, rfl⟩ := ownS_some hOd
    have Sd := Lib.hid hOd.strs.2
    have hwd := hwc.trans (hbd.mono hwc.size)
    clear hOd hbd FRi
    have hXe := Blk.fresh wd 27 [.slice Cd P.length xd, .int .i64 E', .int .i64 cd]
    have hbe : Below wd.heap.size wd (wd.alloc (.cells #[.slice Cd P.length xd, .int .i64 E', .int .i64 cd] 27)) := (Below.refl _ _).alloc (Nat.le_refl _) _
    simp only [List.toArray] at hXe
    go_wp2_with (fail)
    generalize wd.alloc (.cells #[.slice Cd P.length xd, .int .i64 E', .int .i64 cd] 27) = we at hXe hbe ⊢
    have hwe := hwd.trans (hbe.mono hwd.size)
    have z0 : we.drew.cell? ⟨wd.heap.size, 0, none⟩ = some (.slice Cd P.length xd) := hXe.cell (i := 0) rfl
    have z1 : we.drew.cell? ⟨wd.heap.size, 1, none⟩ = some (.int .i64 E') := hXe.cell (i := 1) rfl
    have hc : Below we.drew.heap.size we.drew we.drew := Below.refl _ _
    have hwed : Below w.heap.size w we.drew := below_drew hwe
    have Se : Hid (∀ W, Below we.drew.heap.size we.drew W → Strs W W.heap.size Cd P) := Lib.hid fun W h => (Sd.out.below (hbe.trans ((below_drew (Below.refl _ _)).trans h |>.mono hbe.size)) (Nat.le_refl _)).mono (Nat.le_trans hbe.size h.size)
    have heg : Tryd.prog.eqGuardType Tryd.prog.depth 35 = false := by kernel_rfl
    have hq := fun W => eqTx tt bb dd W
    have q0 := fun C x W => fld0 C P.length x E' cd W
    have q1 := fun C x W => fld1 C P.length x E' cd W
    go_region_held3 (fun W => W.cell? ⟨wd.heap.size, 0, none⟩ = some (.slice Cd P.length xd) ∧ W.cell? ⟨wd.heap.size, 1, none⟩ = some (.int .i64 E'))
      (first
        | exact ⟨z0, z1⟩
        | exact ⟨kept_cell hc z0, kept_cell hc z1⟩)
      (first
        | (go_at_call 20; refine (FRs.out _).mono ?_; rintro e wf ⟨vf, rfl, hOf, hbf⟩; obtain ⟨Cf, xf, rfl⟩ := ownS_some hOf; replace hc := hc.trans (hbf.mono hc.size))
        | (go_at_call 16; refine (lwTexts_n Cd Cf P P.length xd xf _ rfl (Se.out _ hc) hOf.strs.2).mono ?_; rintro e wl ⟨rfl, nl, rfl⟩; replace hc := below_drewN hc nl)
        | (go_at_call 21; refine (FAi.out _ (hK.below (hwed.trans (hc.mono hwed.size)))).mono ?_; rintro e wg ⟨rfl, hbg⟩; replace hc := hc.trans (hbg.mono hc.size))
        | (go_at_call 22; refine (FAs.out _).mono ?_; rintro e wh ⟨rfl, hbh⟩; replace hc := hc.trans (hbh.mono hc.size)))
    have hwi := hwed.trans (hc.mono hwed.size)
    clear hc z0 z1 q0 q1 hq
    go_wp2_with (fail)
    by_cases ht1 : t.size ≤ 1000
    · have hGs := frameS_size t ht1
      have II := Lib.hid (fun W => implFrameOf_any t W ht1)
      have SS := Lib.hid (fun W => specFrameOf_any t W ht1)
      have hat : fr (⟨#[120]⟩ ++ frameS t ++ ⟨#[121]⟩) 1 = .ok (t, 1 + (frameS t).size) := fr_at (a := ⟨#[120]⟩) (c := ⟨#[121]⟩) ht1
      have hts : ((⟨#[120]⟩ : ByteArray) ++ frameS t ++ ⟨#[121]⟩).size ≤ 20000 := by
        rw [ByteArray.size_append, ByteArray.size_append]
        show 1 + (frameS t).size + 1 ≤ 20000
        omega
      have hcast : (((1 + (frameS t).size : Nat)) : Int) = ((frameS t).size : Int) + 1 := by omega
      have AT : Hid (∀ W, Handle W → Calls Tryd.prog 21 #[.string (⟨#[120]⟩ ++ frameS t ++ ⟨#[121]⟩), .int .i64 1] W fun e w' => e = .returned (textOut t (((frameS t).size : Int) + 1) 0) ∧ Below W.heap.size W w') := Lib.hid fun W hW => by
        have := implAt_fr (⟨#[120]⟩ ++ frameS t ++ ⟨#[121]⟩) 1 W hW hts (by omega)
        rw [hat] at this
        simp only [txV, hcast] at this
        exact this
      clear hat hts hcast
      obtain ⟨G, HG⟩ : ∃ G, Hid (frameS t = G) := ⟨_, Lib.hid rfl⟩
      rw [HG.out] at hGs II SS AT
      have hGe := toList_some (f := G) (by omega)
      refine (II.out _).mono ?_
      rintro e wj ⟨rfl, hbj⟩
      have hwj := hwi.trans (hbj.mono hwi.size)
      go_wp2_with (fail)
      refine (SS.out _).mono ?_
      rintro e wk ⟨rfl, hbk⟩
      have hwk := hwj.trans (hbk.mono hwj.size)
      have hq2 := fun W => eqTx t ((G.size : Int) + 1) 0 W
      have hGm : (G.size : Int) ≤ 2000 := by omega
      go_wp2_with (fail)
      refine (AT.out _ (hK.below hwk)).mono ?_
      rintro e wn ⟨rfl, hbn⟩
      go_wp2
      go_ret
      exact ⟨rfl, hwk.trans (hbn.mono hwk.size)⟩
    · have II := Lib.hid (fun W => implFrameOf_out t W (by unfold maxLen; omega) (by omega))
      have SS := Lib.hid (fun W => specFrameOf_out t W (by unfold maxLen; omega) (by omega))
      refine (II.out _).mono ?_
      rintro e wj ⟨rfl, hbj⟩
      have hwj := hwi.trans (hbj.mono hwi.size)
      go_wp2_with (fail)
      refine (SS.out _).mono ?_
      rintro e wk ⟨rfl, hbk⟩
      have hwk := hwj.trans (hbk.mono hwj.size)
      go_wp2
      go_ret
      exact ⟨rfl, hwk⟩
theorem lawFramesAll (A1 : Option Addr) (n1 c1 : Nat) (A2 : Option Addr) (n2 c2 : Nat) (w : World) (h1 : Byt w A1 n1) (h2 : Byt w A2 n2) (hK : Handle w) :
    Calls Tryd.prog 3 #[.slice A1 n1 c1, .slice A2 n2 c2] w fun e w' => e = .returned (.bool true) ∧ Below w.heap.size w w' := by
  by_cases k1 : n1 ≤ 1048576
  · by_cases k2 : n2 ≤ 1048576
    · exact lawFramesIn A1 A2 n1 n2 c1 c2 w (h1.2 k1) (h2.2 k2) hK
    · exact lawFramesBig A1 A2 n1 n2 c1 c2 w (by omega) h1.1 h2.1
  · exact lawFramesBig A1 A2 n1 n2 c1 c2 w (by omega) h1.1 h2.1
end Go.Proofs.YtapnmnghdgkbpaaDoor
