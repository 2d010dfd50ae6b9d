/- Contracts of FrameOf: spec and impl answer the same string; the walk of its law. -/
import Derived.Test.YtapnmnghdgkbpaaSeal
namespace Go.Proofs.Ytapnmnghdgkbpaa
open Go.RowKit
set_option linter.unusedVariables false

noncomputable def frameS (t : ByteArray) : ByteArray := ptext (sealS t)
theorem sealS_size (t : ByteArray) : (sealS t).size = t.size + 4 := by unfold sealS; rw [ByteArray.size_append, four_size]
theorem vint_low (n : Nat) (h : n ≤ 8000) : (vint (zig n)).length ≤ 2 := vint_len 1 _ (by have := zig_pos (n := (n : Int)) (by omega); omega)
theorem frameS_size (t : ByteArray) (h : t.size ≤ 1000) : t.size + 5 ≤ (frameS t).size ∧ (frameS t).size ≤ t.size + 6 := by
  unfold frameS ptext
  rw [ByteArray.size_append, strOfNums_size, sealS_size]
  have h1 := vint_pos (zig ((t.size + 4 : Nat) : Int))
  have h2 := vint_low (t.size + 4) (by omega)
  omega

set_option maxHeartbeats 1000000 in
theorem specFrameOf_any (t : ByteArray) (w : World) (h : t.size ≤ 1000) :
    Calls Try.prog 5 #[.string t] w fun e w' => e = .returned (.string (frameS t)) ∧ Below w.heap.size w w' := by
  have HS := Lib.hid (fun w => specSeal_any t w (by omega))
  have hz := sealS_size t
  obtain ⟨s, HE⟩ : ∃ s, Hid (sealS t = s) := ⟨_, rfl⟩
  rw [HE.out] at HS hz
  have HP := Lib.hid (fun w => specPutText_any s w (by omega))
  obtain ⟨u, HU⟩ : ∃ u, Hid (ptext s = u) := ⟨_, rfl⟩
  rw [HU.out] at HP
  go_enter Try.func5, Try.ntmps5
  go_wp2_with (first
    | (go_at_call 13; refine (HS.out _).mono ?_; rintro e w1 ⟨rfl, hb1⟩)
    | (go_at_call 12; refine (HP.out _).mono ?_; rintro e w2 ⟨rfl, hb2⟩))
  go_ret
  exact ⟨retS (by unfold frameS; rw [HE.out, HU.out]), hb1.trans (hb2.mono hb1.size)⟩

set_option maxHeartbeats 1000000 in
theorem specFrameOf_out (t : ByteArray) (w : World) (hs : t.size ≤ maxLen) (h : 1000 < t.size) :
    Calls Try.prog 5 #[.string t] w fun e w' => e = .returned (.string ⟨#[]⟩) ∧ Below w.heap.size w w' := by
  unfold maxLen at hs
  go_enter Try.func5, Try.ntmps5
  go_wp2
  go_ret
  exact ⟨rfl, Below.refl _ _⟩

set_option maxHeartbeats 1000000 in
theorem implFrameOf_any (t : ByteArray) (w : World) (h : t.size ≤ 1000) :
    Calls Try.prog 6 #[.string t] w fun e w' => e = .returned (.string (frameS t)) ∧ Below w.heap.size w w' := by
  have HS := Lib.hid (fun w => implSeal_any t w (by omega))
  have hz := sealS_size t
  obtain ⟨s, HE⟩ : ∃ s, Hid (sealS t = s) := ⟨_, rfl⟩
  rw [HE.out] at HS hz
  have HP := Lib.hid (fun w => implPutText_any s w (by omega))
  obtain ⟨u, HU⟩ : ∃ u, Hid (ptext s = u) := ⟨_, rfl⟩
  rw [HU.out] at HP
  go_enter Try.func6, Try.ntmps6
  go_wp2_with (first
    | (go_at_call 15; refine (HS.out _).mono ?_; rintro e w1 ⟨rfl, hb1⟩)
    | (go_at_call 14; refine (HP.out _).mono ?_; rintro e w2 ⟨rfl, hb2⟩))
  go_ret
  exact ⟨retS (by unfold frameS; rw [HE.out, HU.out]), hb1.trans (hb2.mono hb1.size)⟩

set_option maxHeartbeats 1000000 in
theorem implFrameOf_out (t : ByteArray) (w : World) (hs : t.size ≤ maxLen) (h : 1000 < t.size) :
    Calls Try.prog 6 #[.string t] w fun e w' => e = .returned (.string ⟨#[]⟩) ∧ Below w.heap.size w w' := by
  unfold maxLen at hs
  go_enter Try.func6, Try.ntmps6
  go_wp2
  go_ret
  exact ⟨rfl, Below.refl _ _⟩

set_option maxHeartbeats 1000000 in
theorem lawFrameOf (t : ByteArray) (w0 : t.size ≤ maxLen) (w : World) :
    Calls Try.prog 3 #[.string t] w fun e w' => e = .returned (.bool true) ∧ Below w.heap.size w w' := by
  have hs := w0
  unfold maxLen at hs
  by_cases hl : t.size ≤ 1048576
  · obtain ⟨s, hv⟩ : ∃ s : ByteArray, ∀ w, (Calls Try.prog 5 #[.string t] w fun e w' => e = .returned (.string s) ∧ Below w.heap.size w w') ∧ (Calls Try.prog 6 #[.string t] w fun e w' => e = .returned (.string s) ∧ Below w.heap.size w w') := by
      by_cases k : t.size ≤ 1000
      · exact ⟨_, fun w => ⟨specFrameOf_any t w k, implFrameOf_any t w k⟩⟩
      · exact ⟨_, fun w => ⟨specFrameOf_out t w w0 (by omega), implFrameOf_out t w w0 (by omega)⟩⟩
    have HV := Lib.hid hv
    clear hv
    go_enter Try.func3, Try.ntmps3
    go_wp2_with (first
      | (go_at_call 5; refine (HV.out _).1.mono ?_; rintro e w1 ⟨rfl, hb1⟩)
      | (go_at_call 6; refine (HV.out _).2.mono ?_; rintro e w2 ⟨rfl, hb2⟩))
    go_ret
    exact ⟨rfl, hb1.trans (hb2.mono hb1.size)⟩
  · go_enter Try.func3, Try.ntmps3
    go_wp2
    go_ret
    exact ⟨rfl, Below.refl _ _⟩

end Go.Proofs.Ytapnmnghdgkbpaa
