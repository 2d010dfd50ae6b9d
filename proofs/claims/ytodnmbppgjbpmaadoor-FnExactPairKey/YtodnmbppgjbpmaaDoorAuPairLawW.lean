/- The walk of the exact law of PairKey. -/
import Derived.Test.YtodnmbppgjbpmaaDoorAdrW
namespace Go.Proofs.YtodnmbppgjbpmaaDoor
open Go.RowKit
set_option linter.unusedVariables false

set_option maxHeartbeats 1600000 in
theorem lawPairKey (k : ByteArray) (a b : Int) (w : World) (w0 : k.size ≤ maxLen) (w1 : (Lit.int .i64 a).wf = true) (w2 : (Lit.int .i64 b).wf = true) (hK : Keys w) (hw : 2 < w.heap.size) :
    Calls Tryd.prog 4 #[.string k, .int .i64 a, .int .i64 b] w fun e w' => e = .returned (.bool true) ∧ Below w.heap.size w w' := by
  have hs := w0
  unfold maxLen at hs
  by_cases hl : k.size ≤ 1048576
  · obtain ⟨s, HS⟩ : ∃ s, Hid (keyB k a b = s) := ⟨_, Lib.hid rfl⟩
    go_enter Tryd.func4, Tryd.ntmps4
    go_wp2_with (first
      | (go_at_call 10; refine (specPairKey_any k a b _ w0).mono ?_; rintro e w1 ⟨rfl, hb1⟩; rw [HS.out]; have hz1 := hb1.size; have hK1 := hK.below hb1 hw)
      | (go_at_call 9; refine (implPairKey_any k a b _ w0 hK1 (by omega)).mono ?_; rintro e w2 ⟨rfl, hb2⟩; rw [HS.out]))
    go_ret
    exact ⟨rfl, hb1.trans (hb2.mono hz1)⟩
  · go_enter Tryd.func4, Tryd.ntmps4
    go_wp2
    go_ret
    exact ⟨rfl, Below.refl _ _⟩
end Go.Proofs.YtodnmbppgjbpmaaDoor
