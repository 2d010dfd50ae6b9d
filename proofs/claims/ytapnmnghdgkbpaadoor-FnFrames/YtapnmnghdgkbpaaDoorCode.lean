/- malformedCode, and what is known of the variable errors.errorType. -/
import Derived.Test.YtapnmnghdgkbpaaDoorAsWalk
namespace Go.Proofs.YtapnmnghdgkbpaaDoor
open Go.RowKit
set_option linter.unusedVariables false

def Handle (w : World) : Prop := w.cell? ⟨5, 0, none⟩ = some (.iface 165 (.agg #[.pointer (some ⟨6, 90, none⟩)]))
theorem Handle.lt {w : World} (h : Handle w) : 5 < w.heap.size := by
  rcases Nat.lt_or_ge 5 w.heap.size with h' | h'
  · exact h'
  · simp [Handle, World.cell?, Array.getElem?_eq_none h'] at h
theorem Handle.below {w w' : World} (h : Handle w) (hb : Below w.heap.size w w') : Handle w' := by
  unfold Handle at *
  rw [hb.cell (p := ⟨5, 0, none⟩) (Handle.lt h)]; exact h

set_option maxHeartbeats 4000000 in
theorem malformedCode_any (c : Int) (w : World) (hg : Handle w) :
    Calls Tryd.prog 117 #[.iface 140 (.agg #[.int .i64 c])] w fun e w' => e = .returned (.int .i64 c) ∧ Below w.heap.size w w' := by
  have hg' := Handle.below hg ((Below.refl _ w).alloc (Nat.le_refl _) (.cells #[.int .i64 0] 140))
  have HG := Lib.hid hg'
  have hlt := Lib.hid hg.lt
  clear hg'
  go_enter Tryd.func117, Tryd.ntmps117
  go_wp2_with (go_at_call 131; refine (as_hit c ⟨w.heap.size, 0, none⟩ (.int .i64 0) _ HG.out (by simp) (by simp)).mono ?_; rintro e w1 ⟨rfl, rfl⟩)
  go_ret
  refine ⟨rfl, ?_⟩
  exact ((((((Below.refl w.heap.size w).alloc (Nat.le_refl _) _).alloc (by simp) _).alloc (by simp; omega) _).alloc (by simp; omega) _).alloc (by simp; omega) _)

end Go.Proofs.YtapnmnghdgkbpaaDoor
