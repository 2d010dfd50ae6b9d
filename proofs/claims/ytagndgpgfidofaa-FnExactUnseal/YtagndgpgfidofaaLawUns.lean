/- The walk of the law of Unseal. -/
import Derived.Test.YtagndgpgfidofaaUnseal
namespace Go.Proofs.Ytagndgpgfidofaa
open Go.RowKit
set_option linter.unusedVariables false

set_option maxHeartbeats 1000000 in
theorem eqTextOut_same (s : ByteArray) (a c : Int) (w : World) :
    Calls Try.prog 24 #[textOut s a c, textOut s a c] w fun e w' => e = .returned (.bool true) ∧ Below w.heap.size w w' := by
  go_enter Try.func24, Try.ntmps24
  go_wp2
  go_ret
  exact ⟨rfl, ((Below.refl _ _).alloc (Nat.le_refl _) _).alloc (by simp) _⟩

theorem below_four {w w1 w2 w3 : World} {o1 o2 : Obj} (hb1 : Below w.heap.size w w1) (hb2 : Below (w1.alloc o1).heap.size (w1.alloc o1) w2) (hb3 : Below (w2.alloc o2).heap.size (w2.alloc o2) w3) : Below w.heap.size w w3 := by
  have h1 := hb1.size
  have h2 := hb2.size
  simp at h2
  exact (((hb1.alloc h1 o1).trans (hb2.mono (by simp; omega))).alloc (by omega) o2).trans (hb3.mono (by simp; omega))
theorem unsealV_form (t : ByteArray) : ∃ s a c, unsealV t = textOut s a c := by
  unfold unsealV; split
  · exact ⟨_, _, _, rfl⟩
  · exact ⟨_, _, _, rfl⟩

set_option maxHeartbeats 1000000 in
theorem lawUnseal (t : ByteArray) (w0 : t.size ≤ maxLen) (w : World) :
    Calls Try.prog 9 #[.string t] w fun e w' => e = .returned (.bool true) ∧ Below w.heap.size w w' := by
  have hs := w0
  unfold maxLen at hs
  by_cases hl : t.size ≤ 1048576
  · obtain ⟨s, a, c, hv⟩ : ∃ (s : ByteArray) (a c : Int), ∀ w, (Calls Try.prog 22 #[.string t] w fun e w' => e = .returned (textOut s a c) ∧ Below w.heap.size w w') ∧ (Calls Try.prog 23 #[.string t] w fun e w' => e = .returned (textOut s a c) ∧ Below w.heap.size w w') := by
      by_cases k : 20000 < t.size
      · exact ⟨_, _, _, fun w => ⟨specUnseal_size t w w0 k, implUnseal_size t w w0 k⟩⟩
      · by_cases k4 : t.size < 4
        · exact ⟨_, _, _, fun w => ⟨specUnseal_short t w k4, implUnseal_short t w k4⟩⟩
        · obtain ⟨s, a, c, he⟩ := unsealV_form t
          refine ⟨s, a, c, fun w => ⟨?_, ?_⟩⟩
          · rw [← he]; exact specUnseal_any t w (by omega) (by omega)
          · rw [← he]; exact implUnseal_any t w (by omega) (by omega)
    have HV := Lib.hid hv
    clear hv
    go_enter Try.func9, Try.ntmps9
    go_wp2_with (first
      | (go_at_call 22; refine (HV.out _).1.mono ?_; rintro e w1 ⟨rfl, hb1⟩)
      | (go_at_call 23; refine (HV.out _).2.mono ?_; rintro e w2 ⟨rfl, hb2⟩; have hc2 := (bcell hb2).1; have hlt : w1.heap.size < w2.heap.size := (by have := hb2.size; simp at this; omega))
      | (go_at_call 24; refine (eqTextOut_same _ _ _ _).mono ?_; rintro e w3 ⟨rfl, hb3⟩))
    go_ret
    exact ⟨rfl, below_four hb1 hb2 hb3⟩
  · go_enter Try.func9, Try.ntmps9
    go_wp2
    go_ret
    exact ⟨rfl, Below.refl _ _⟩

end Go.Proofs.Ytagndgpgfidofaa
