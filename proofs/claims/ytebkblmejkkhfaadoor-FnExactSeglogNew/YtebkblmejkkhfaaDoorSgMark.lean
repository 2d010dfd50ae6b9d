/- The marks that the exact laws lay into a log. -/
import Derived.Test.YtebkblmejkkhfaaDoorSg
namespace Go.Proofs.YtebkblmejkkhfaaDoor
open Go.RowKit
set_option linter.unusedVariables false
set_option maxRecDepth 1000000
set_option maxHeartbeats 2000000 in
theorem markSeglog_rw (A : Option Addr) (L : List Fil) (c lo hi k : Nat) (f m : Int) (w : World) (h : Rw w lo hi 56 3 (.slice A L.length c) L.length (flat L)) (hf : ∀ f ∈ L, f.fits) (h0 : 1 ≤ k) (h1 : k + 3 * L.length ≤ 4000000) :
    Calls Tryd.prog 16 #[segV (.slice A L.length c) f m, .int .i64 k] w fun e w' => e = .returned (.int .i64 ((k + 3 * L.length : Nat) : Int)) ∧
      Rw w' lo hi 56 3 (.slice A L.length c) (markL L.length k).length (flat (markL L.length k)) ∧ w.grownBy w' (A.map (·.block)) ∧ (∀ f ∈ markL L.length k, f.fits) := by
  have hb0 : Below w.heap.size w (w.alloc (.cells #[.slice A L.length c, .int .i64 f, .int .i64 m] 35)) := (Below.refl _ w).alloc (Nat.le_refl _) _
  have HM := Lib.hid (markFs_rw A L c lo hi k _ (h.below hb0) hf h0 h1)
  go_enter Tryd.func16, Tryd.ntmps16
  go_wp2_with (go_at_call 29; refine HM.out.mono ?_; rintro e w1 ⟨rfl, hR, hg, hff⟩)
  go_ret
  exact ⟨rfl, hR, ⟨hg.os, hg.tape, hg.output, by have := hg.size; simp at this; omega, fun j hj hne => (hg.block j (by simp; omega) hne).trans (hb0.block j hj)⟩, hff⟩
set_option maxHeartbeats 2000000 in
theorem heldSeglog_any (A : Option Addr) (n c k : Nat) (f m : Int) (w : World) (hF : Fls w w.heap.size A (markL n k)) (h0 : 1 ≤ k) (h1 : k + 3 * n ≤ 4000000) :
    Calls Tryd.prog 17 #[segV (.slice A n c) f m, .int .i64 k] w fun e w' => e = .returned (.int .i64 ((k + 3 * n : Nat) : Int)) ∧ Below w.heap.size w w' := by
  have hb0 : Below w.heap.size w (w.alloc (.cells #[.slice A n c, .int .i64 f, .int .i64 m] 35)) := (Below.refl _ w).alloc (Nat.le_refl _) _
  have HM := Lib.hid (heldFs_any A n c k _ ((hF.below hb0 (Nat.le_refl _)).mono hb0.size) h0 h1)
  go_enter Tryd.func17, Tryd.ntmps17
  go_wp2_with (go_at_call 30; refine HM.out.mono ?_; rintro e w1 ⟨rfl, hb1⟩)
  go_ret
  exact ⟨rfl, hb0.trans (hb1.mono hb0.size)⟩
end Go.Proofs.YtebkblmejkkhfaaDoor
