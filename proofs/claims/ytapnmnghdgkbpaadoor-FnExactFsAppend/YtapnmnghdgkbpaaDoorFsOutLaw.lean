/- What the exact laws do with an FsOut. -/
import Derived.Test.YtapnmnghdgkbpaaDoorRowk
import Derived.Test.YtapnmnghdgkbpaaDoorFChg
namespace Go.Proofs.YtapnmnghdgkbpaaDoor
open Go.RowKit
set_option linter.unusedVariables false
set_option maxRecDepth 1000000

set_option maxHeartbeats 2000000 in
theorem eqFsOut_same (A B : Option Addr) (L : List Fil) (c d : Nat) (cd : Int) (w : World) (hA : Fls w w.heap.size A L) (hB : Fls w w.heap.size B L) :
    Calls Tryd.prog 33 #[fsOut (.slice A L.length c) cd, fsOut (.slice B L.length d) cd] w fun e w' => e = .returned (.bool true) ∧ Below w.heap.size w w' := by
  have h0 := (Blk.fresh w 52 [.slice A L.length c, .int .i64 cd]).alloc (.cells #[.slice B L.length d, .int .i64 cd] 52)
  have h1 := Blk.fresh (w.alloc (.cells #[.slice A L.length c, .int .i64 cd] 52)) 52 [.slice B L.length d, .int .i64 cd]
  have hb0 : Below w.heap.size w ((w.alloc (.cells #[.slice A L.length c, .int .i64 cd] 52)).alloc (.cells #[.slice B L.length d, .int .i64 cd] 52)) := ((Below.refl _ w).alloc (Nat.le_refl _) _).alloc (by simp) _
  simp only [List.toArray, World.size_alloc] at h0 h1
  have HE := Lib.hid (eqFs_same A B L c d _ ((hA.below hb0 (Nat.le_refl _)).mono hb0.size) ((hB.below hb0 (Nat.le_refl _)).mono hb0.size))
  go_enter Tryd.func33, Tryd.ntmps33
  go_wp2_with (go_at_call 34; refine HE.out.mono ?_; rintro e w1 ⟨rfl, hb1⟩; have g0 := h0.below hb1 h0.lt; have g1 := h1.below hb1 h1.lt; have k1 := g0.cell (i := 1) rfl; have k3 := g1.cell (i := 1) rfl)
  go_ret
  exact ⟨rfl, hb0.trans (hb1.mono hb0.size)⟩
set_option maxHeartbeats 2000000 in
theorem markFsOut_rw (A : Option Addr) (L : List Fil) (c lo hi k : Nat) (cd : Int) (w : World) (h : Rw w lo hi 84 3 (.slice A L.length c) L.length (flat L)) (hf : ∀ f ∈ L, f.fits) (h0 : 1 ≤ k) (h1 : k + 3 * L.length ≤ 4000000) :
    Calls Tryd.prog 36 #[fsOut (.slice A L.length c) cd, .int .i64 k] w fun e w' => e = .returned (.int .i64 ((k + 3 * L.length : Nat) : Int)) ∧
      Rw w' lo hi 84 3 (.slice A L.length c) (markL L.length k).length (flat (markL L.length k)) ∧ w.grownBy w' (A.map (·.block)) ∧ (∀ f ∈ markL L.length k, f.fits) := by
  have hb0 : Below w.heap.size w (w.alloc (.cells #[.slice A L.length c, .int .i64 cd] 52)) := (Below.refl _ w).alloc (Nat.le_refl _) _
  have HM := Lib.hid (markFs_rw A L c lo hi k _ (h.below hb0) hf h0 h1)
  go_enter Tryd.func36, Tryd.ntmps36
  go_wp2_with (go_at_call 35; refine HM.out.mono ?_; rintro e w1 ⟨rfl, hR, hg, hff⟩)
  go_ret
  exact ⟨rfl, hR, ⟨hg.os, hg.tape, hg.output, by have := hg.size; simp at this; omega, fun j hj hne => (hg.block j (by simp; omega) hne).trans (hb0.block j hj)⟩, hff⟩
set_option maxHeartbeats 2000000 in
theorem heldFsOut_any (A : Option Addr) (n c k : Nat) (cd : Int) (w : World) (hF : Fls w w.heap.size A (markL n k)) (h0 : 1 ≤ k) (h1 : k + 3 * n ≤ 4000000) :
    Calls Tryd.prog 37 #[fsOut (.slice A n c) cd, .int .i64 k] w fun e w' => e = .returned (.int .i64 ((k + 3 * n : Nat) : Int)) ∧ Below w.heap.size w w' := by
  have hb0 : Below w.heap.size w (w.alloc (.cells #[.slice A n c, .int .i64 cd] 52)) := (Below.refl _ w).alloc (Nat.le_refl _) _
  have HM := Lib.hid (heldFs_any A n c k _ ((hF.below hb0 (Nat.le_refl _)).mono hb0.size) h0 h1)
  go_enter Tryd.func37, Tryd.ntmps37
  go_wp2_with (go_at_call 76; refine HM.out.mono ?_; rintro e w1 ⟨rfl, hb1⟩)
  go_ret
  exact ⟨rfl, hb0.trans (hb1.mono hb0.size)⟩
theorem Rw.capL {w : World} {lo hi n c : Nat} {e : TypeId} {size m : Nat} {a : Addr} {xs : List Value} (h : Rw w lo hi e size (.slice (some a) n c) m xs) : m ≤ c ∧ c ≤ maxLen := by
  rcases h.1.2 with ⟨hv, _⟩ | ⟨g, cap, cur, hv, hb, hg, hl, hm, _⟩
  · cases hv
  · cases hv; exact ⟨hl, hm⟩
end Go.Proofs.YtapnmnghdgkbpaaDoor
