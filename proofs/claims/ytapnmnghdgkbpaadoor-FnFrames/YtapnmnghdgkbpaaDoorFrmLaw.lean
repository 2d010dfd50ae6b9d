/- The walk of the law of FrameAt. -/
import Derived.Test.YtapnmnghdgkbpaaDoorFrmI
namespace Go.Proofs.YtapnmnghdgkbpaaDoor
open Go.RowKit
set_option linter.unusedVariables false

theorem txV_form (x : Except Int (ByteArray × Nat)) : ∃ t b d, txV x = textOut t b d := by
  cases x with
  | error c => exact ⟨_, _, _, rfl⟩
  | ok x => exact ⟨_, _, _, rfl⟩
set_option maxHeartbeats 1000000 in
theorem specFrameAt_of (s : ByteArray) (a0 : Int) (t : ByteArray) (b d : Int) (w : World) (hs : s.size ≤ 20000) (H : Hid (∀ w, Calls Tryd.prog 58 #[.string s, .int .i64 a0] w fun e w' => e = .returned (textOut t b d) ∧ Below w.heap.size w w')) :
    Calls Tryd.prog 22 #[.string s, .int .i64 a0] w fun e w' => e = .returned (textOut t b d) ∧ Below w.heap.size w w' := by
  go_enter Tryd.func22, Tryd.ntmps22
  go_wp2_with (go_at_call 58; refine (H.out _).mono ?_; rintro e w1 ⟨rfl, hb1⟩; obtain ⟨hc1, hf1⟩ := bcell hb1; have hz1 := hb1.size; simp at hz1; have hlt : w.heap.size < w1.heap.size := hz1)
  refine bodyPost_ret (v := textOut t b d) (by simp [results, Tryd.results22, hc1, hlt, go_sem]) rfl ⟨rfl, ?_⟩
  exact (((below_res hb1).setCell (p := ⟨w.heap.size, 0, none⟩) (Nat.le_refl _) _).setCell (p := ⟨w.heap.size, 1, none⟩) (Nat.le_refl _) _).setCell (p := ⟨w.heap.size, 2, none⟩) (Nat.le_refl _) _
set_option maxHeartbeats 1000000 in
theorem specFrameAt_size (s : ByteArray) (a0 : Int) (w : World) (hs : s.size ≤ maxLen) (h : 20000 < s.size) :
    Calls Tryd.prog 22 #[.string s, .int .i64 a0] w fun e w' => e = .returned (textOut ⟨#[]⟩ 0 2) ∧ Below w.heap.size w w' := by
  unfold maxLen at hs
  go_enter Tryd.func22, Tryd.ntmps22
  go_wp2
  exact bodyPost_ret (v := textOut ⟨#[]⟩ 0 2) (by simp [results, Tryd.results22, go_sem]) rfl ⟨rfl, (Below.refl _ _).alloc (Nat.le_refl _) _⟩

/-- FrameAt: spec and impl answer alike. -/
theorem frameAt_both (s : ByteArray) (a0 : Int) (ws : s.size ≤ maxLen) (wa : -9223372036854775808 ≤ a0 ∧ a0 ≤ 9223372036854775807) :
    ∃ (t : ByteArray) (b d : Int), (∀ w, Calls Tryd.prog 22 #[.string s, .int .i64 a0] w fun e w' => e = .returned (textOut t b d) ∧ Below w.heap.size w w') ∧
      (∀ w, Handle w → Calls Tryd.prog 21 #[.string s, .int .i64 a0] w fun e w' => e = .returned (textOut t b d) ∧ Below w.heap.size w w') := by
  by_cases h1 : 20000 < s.size
  · refine ⟨_, _, _, fun w => specFrameAt_size s a0 w ws h1, fun w hg => implAt_err s a0 2 w hg (by decide) (Lib.hid fun w hg => ?_)⟩
    have h := implGetText_of s a0 0 0 2 w hg (Lib.hid fun w _ => implGetNum_size s a0 w ws h1) (by omega)
    rw [textV_c (by omega)] at h
    exact h
  · by_cases h2 : a0 < 0
    · refine ⟨_, _, _, fun w => specFrameAt_of s a0 _ _ _ w (by omega) (Lib.hid fun w => specAt_err s a0 1 w (by decide) (Lib.hid fun w => ?_)), fun w hg => implAt_err s a0 1 w hg (by decide) (Lib.hid fun w hg => ?_)⟩
      · have h := specGetText_of s a0 0 0 1 w (Lib.hid fun w => specGetNum_neg s a0 w (by omega) h2) (by omega)
        rw [textV_c (by omega)] at h
        exact h
      · have h := implGetText_of s a0 0 0 1 w hg (Lib.hid fun w _ => implGetNum_neg s a0 w (by omega) h2) (by omega)
        rw [textV_c (by omega)] at h
        exact h
    · obtain ⟨p, rfl⟩ : ∃ p : Nat, a0 = p := ⟨a0.toNat, by omega⟩
      obtain ⟨t, b, d, e⟩ := txV_form (fr s p)
      have hS := fun w => specAt_fr s p w (by omega) wa.2
      have hI := fun w hg => implAt_fr s p w hg (by omega) wa.2
      rw [e] at hS hI
      exact ⟨t, b, d, fun w => specFrameAt_of s p t b d w (by omega) (Lib.hid hS), hI⟩

set_option maxHeartbeats 1000000 in
theorem lawFrameAt (s : ByteArray) (a0 : Int) (w0 : s.size ≤ maxLen) (w1 : (Lit.int .i64 a0).wf = true) (w : World) (hg : Handle w) :
    Calls Tryd.prog 4 #[.string s, .int .i64 a0] w fun e w' => e = .returned (.bool true) ∧ Below w.heap.size w w' := by
  have hs := w0
  unfold maxLen at hs
  by_cases hl : s.size ≤ 1048576
  · obtain ⟨t, b, d, hS, hI⟩ := frameAt_both s a0 w0 (wf_i64 w1)
    have HS := Lib.hid hS
    have HI := Lib.hid hI
    have HG := Lib.hid hg
    clear hS hI hg
    go_enter Tryd.func4, Tryd.ntmps4
    go_wp2_with (first
      | (go_at_call 22; refine (HS.out _).mono ?_; rintro e w1 ⟨rfl, hb1⟩)
      | (go_at_call 21; refine (HI.out _ (HG.out.below ((hb1.alloc hb1.size _)))).mono ?_; rintro e w2 ⟨rfl, hb2⟩; have hc2 := (bcell hb2).1; have hlt : w1.heap.size < w2.heap.size := (by have := hb2.size; simp at this; omega))
      | (go_at_call 25; refine (eqTextOut_same _ _ _ _).mono ?_; rintro e w3 ⟨rfl, hb3⟩))
    go_ret
    exact ⟨rfl, below_four hb1 hb2 hb3⟩
  · go_enter Tryd.func4, Tryd.ntmps4
    go_wp2
    go_ret
    exact ⟨rfl, Below.refl _ _⟩

end Go.Proofs.YtapnmnghdgkbpaaDoor
