/- The walk of the law of SegName. -/
import Derived.Test.YtebkblmejkkhfaaDoorSegName
namespace Go.Proofs.YtebkblmejkkhfaaDoor
open Go.RowKit
set_option linter.unusedVariables false
set_option maxHeartbeats 1000000 in
theorem lawSegName (n : Int) (w : World) (h : (Lit.int .i64 n).wf = true) (hP : Pow w) :
    Calls Tryd.prog 3 #[.int .i64 n] w fun e w' => e = .returned (.bool true) ∧ Below w.heap.size w w' := by
  obtain ⟨s, HS⟩ : ∃ s, Hid (segN n = s) := ⟨_, Lib.hid rfl⟩
  have H1 := Lib.hid (fun W => specSegName_any n W)
  have H2 := Lib.hid (fun W h => implSegName_any n W h)
  rw [HS.out] at H1 H2
  clear h
  go_enter Tryd.func3, Tryd.ntmps3
  go_wp2_with (fail)
  refine (H1.out _).mono ?_
  rintro e w1 ⟨rfl, hb1⟩
  go_wp2_with (fail)
  refine (H2.out _ (hP.below hb1)).mono ?_
  rintro e w2 ⟨rfl, hb2⟩
  go_wp2
  go_ret
  exact ⟨rfl, hb1.trans (hb2.mono hb1.size)⟩
end Go.Proofs.YtebkblmejkkhfaaDoor
