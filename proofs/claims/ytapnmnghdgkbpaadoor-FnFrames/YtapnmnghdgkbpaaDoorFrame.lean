/- Contracts of FrameOf: spec and impl answer the same string; the walk of its law. -/
import Derived.Test.YtapnmnghdgkbpaaDoorSeal
namespace Go.Proofs.YtapnmnghdgkbpaaDoor
open Go.RowKit
set_option linter.unusedVariables false

noncomputable def frameS (t : ByteArray) : ByteArray := ptext (sealS t)
theorem sealS_size (t : ByteArray) : (sealS t).size = t.size + 4 := by unfold sealS; rw [ByteArray.size_append, four_size]
theorem vint_low (n : Nat) (h : n ≤ 8000) : (vint (zig n)).length ≤ 2 := vint_len 1 _ (by have := zig_pos (n := (n : Int)) (by omega); omega)
theorem frameS_size (t : ByteArray) (h : t.size ≤ 1000) : t.size + 5 ≤ (frameS t).size ∧ (frameS t).size ≤ t.size + 6 := by
  unfold frameS ptext
  rw [ByteArray.size_append, strOfNums_size, sealS_size]
  have h1 := vint_pos (zig ((t.size + 4 : Nat) : Int))
  have h2 := vint_low (t.size + 4) (by omega)
  omega

set_option maxHeartbeats 1000000 in
theorem specFrameOf_any (t : ByteArray) (w : World) (h : t.size ≤ 1000) :
    Calls Tryd.prog 24 #[.string t] w fun e w' => e = .returned (.string (frameS t)) ∧ Below w.heap.size w w' := by
  have HS := Lib.hid (fun w => specSeal_any t w (by omega))
  have hz := sealS_size t
  obtain ⟨s, HE⟩ : ∃ s, Hid (sealS t = s) := ⟨_, rfl⟩
  rw [HE.out] at HS hz
  have HP := Lib.hid (fun w => specPutText_any s w (by omega))
  obtain ⟨u, HU⟩ : ∃ u, Hid (ptext s = u) := ⟨_, rfl⟩
  rw [HU.out] at HP
  go_enter Tryd.func24, Tryd.ntmps24
  go_wp2_with (first
    | (go_at_call 62; refine (HS.out _).mono ?_; rintro e w1 ⟨rfl, hb1⟩)
    | (go_at_call 61; refine (HP.out _).mono ?_; rintro e w2 ⟨rfl, hb2⟩))
  go_ret
  exact ⟨retS (by unfold frameS; rw [HE.out, HU.out]), hb1.trans (hb2.mono hb1.size)⟩

set_option maxHeartbeats 1000000 in
theorem specFrameOf_out (t : ByteArray) (w : World) (hs : t.size ≤ maxLen) (h : 1000 < t.size) :
    Calls Tryd.prog 24 #[.string t] w fun e w' => e = .returned (.string ⟨#[]⟩) ∧ Below w.heap.size w w' := by
  unfold maxLen at hs
  go_enter Tryd.func24, Tryd.ntmps24
  go_wp2
  go_ret
  exact ⟨rfl, Below.refl _ _⟩

set_option maxHeartbeats 1000000 in
theorem implFrameOf_any (t : ByteArray) (w : World) (h : t.size ≤ 1000) :
    Calls Tryd.prog 23 #[.string t] w fun e w' => e = .returned (.string (frameS t)) ∧ Below w.heap.size w w' := by
  have HS := Lib.hid (fun w => implSeal_any t w (by omega))
  have hz := sealS_size t
  obtain ⟨s, HE⟩ : ∃ s, Hid (sealS t = s) := ⟨_, rfl⟩
  rw [HE.out] at HS hz
  have HP := Lib.hid (fun w => implPutText_any s w (by omega))
  obtain ⟨u, HU⟩ : ∃ u, Hid (ptext s = u) := ⟨_, rfl⟩
  rw [HU.out] at HP
  go_enter Tryd.func23, Tryd.ntmps23
  go_wp2_with (first
    | (go_at_call 60; refine (HS.out _).mono ?_; rintro e w1 ⟨rfl, hb1⟩)
    | (go_at_call 59; refine (HP.out _).mono ?_; rintro e w2 ⟨rfl, hb2⟩))
  go_ret
  exact ⟨retS (by unfold frameS; rw [HE.out, HU.out]), hb1.trans (hb2.mono hb1.size)⟩

set_option maxHeartbeats 1000000 in
theorem implFrameOf_out (t : ByteArray) (w : World) (hs : t.size ≤ maxLen) (h : 1000 < t.size) :
    Calls Tryd.prog 23 #[.string t] w fun e w' => e = .returned (.string ⟨#[]⟩) ∧ Below w.heap.size w w' := by
  unfold maxLen at hs
  go_enter Tryd.func23, Tryd.ntmps23
  go_wp2
  go_ret
  exact ⟨rfl, Below.refl _ _⟩

end Go.Proofs.YtapnmnghdgkbpaaDoor
