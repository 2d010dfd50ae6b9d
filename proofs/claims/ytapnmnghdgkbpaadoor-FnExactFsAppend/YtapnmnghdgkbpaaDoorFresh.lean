/- The contract of freshFile: a file's copy. -/
import Derived.Test.YtapnmnghdgkbpaaDoorFilOwn
import Derived.Test.YtapnmnghdgkbpaaDoorKept
import Derived.Test.YtapnmnghdgkbpaaDoorClone
import Derived.Deep.RegionHeld3
import Derived.RegionTactic
namespace Go.Proofs.YtapnmnghdgkbpaaDoor
open Go.RowKit
set_option linter.unusedVariables false
set_option maxRecDepth 1000000

theorem kept_froz {w W : World} {a : Addr} {v : Value} (h : Below w.heap.size w W) (hc : w.cell? a = some v) (hf : w.frozen? a = false) : W.frozen? a = false := by
  rw [← hf]; exact World.frozen?_of_block (h.block _ (World.block_lt_of_cell? w a hc))

set_option maxHeartbeats 4000000 in
set_option maxRecDepth 1000000 in
theorem freshFile_any (f : Fil) (w : World) (h0 : f.name.size ≤ 1048576) (h1 : f.data.size ≤ 1048576) : Calls Tryd.prog 129 #[f.val] w fun e w' => e = .returned f.val ∧ Below w.heap.size w w' := by
  obtain ⟨s0, s1, k⟩ := f
  simp only at h0 h1
  unfold Fil.val
  simp only
  have hA0 := (Blk.fresh w 84 [.string s0, .string s1, .int .i64 k]).alloc (.cells #[.string ⟨#[]⟩, .string ⟨#[]⟩, .int .i64 0] 84)
  have hB0 := Blk.fresh (w.alloc (.cells #[.string s0, .string s1, .int .i64 k] 84)) 84 [.string ⟨#[]⟩, .string ⟨#[]⟩, .int .i64 0]
  simp only [World.size_alloc] at hB0
  have hb0 : Below w.heap.size w ((w.alloc (.cells #[.string s0, .string s1, .int .i64 k] 84)).alloc (.cells #[.string ⟨#[]⟩, .string ⟨#[]⟩, .int .i64 0] 84)) := ((Below.refl _ _).alloc (Nat.le_refl _) _).alloc (by simp) _
  go_enter Tryd.func129, Tryd.ntmps129
  go_wp2
  generalize (w.alloc (.cells #[.string s0, .string s1, .int .i64 k] 84)).alloc (.cells #[.string ⟨#[]⟩, .string ⟨#[]⟩, .int .i64 0] 84) = v0 at hA0 hB0 hb0 ⊢
  have key : ∀ W W' : World, (W.cell? ⟨w.heap.size, 0, none⟩ = some (.string s0) ∧ W.cell? ⟨w.heap.size, 1, none⟩ = some (.string s1) ∧ W.cell? ⟨w.heap.size, 2, none⟩ = some (.int .i64 k)) → Below W.heap.size W W' → (W'.cell? ⟨w.heap.size, 0, none⟩ = some (.string s0) ∧ W'.cell? ⟨w.heap.size, 1, none⟩ = some (.string s1) ∧ W'.cell? ⟨w.heap.size, 2, none⟩ = some (.int .i64 k)) :=
    fun W W' ⟨a, b, c⟩ hb => ⟨kept_cell hb a, kept_cell hb b, kept_cell hb c⟩
  have x0 := hA0.drew.cell (i := 0) rfl
  have x1 := hA0.drew.cell (i := 1) rfl
  have x2 := hA0.drew.cell (i := 2) rfl
  have hB0d := hB0.drew
  have hb0d := below_drew hb0
  go_region_held3 (fun W => W.cell? ⟨w.heap.size, 0, none⟩ = some (.string s0) ∧ W.cell? ⟨w.heap.size, 1, none⟩ = some (.string s1) ∧ W.cell? ⟨w.heap.size, 2, none⟩ = some (.int .i64 k))
    (first
      | exact ⟨x0, x1, x2⟩
      | exact key _ _ (by assumption) hb1
      | exact key _ _ (by assumption) hb2
      | go_keep)
    (first
      | (go_at_call 93; refine (clone_any s0 _ h0).mono ?_; rintro e w1 ⟨rfl, hb1⟩; have hB1 := hB0d.below hb1 hB0d.lt)
      | (go_at_call 93; refine (clone_any s1 _ h1).mono ?_; rintro e w2 ⟨rfl, hb2⟩; have hB2 := hB1.below hb2 hB1.lt; have t0 := hB2.cell (i := 0) rfl; have t1 := hB2.cell (i := 1) rfl; have t2 := hB2.cell (i := 2) rfl; have f0 := hB2.froz 0; have f1 := hB2.froz 1; have f2 := hB2.froz 2))
  have hw2 : Below w.heap.size w w2 := (hb0d.trans (hb1.mono hb0d.size)).trans (hb2.mono (Nat.le_trans hb0d.size hb1.size))
  have hp := ((hB2.put 0 (.string s0)).put 1 (.string s1)).put 2 (.int .i64 k)
  have k0 := hp.cell (i := 0) rfl
  have k1 := hp.cell (i := 1) rfl
  have k2 := hp.cell (i := 2) rfl
  clear t0 t1 t2 f0 f1 f2
  go_wp2
  refine bodyPost_ret (v := .agg #[.string s0, .string s1, .int .i64 k]) (by simp only [results, Tryd.results129]; simp [go_sem, k0, k1, k2]) rfl ⟨rfl, ?_⟩
  exact ((hw2.setCell (by simp) _).setCell (by simp) _).setCell (by simp) _

theorem syncedFile_any (f : Fil) (w : World) (hf : f.fits) : Calls Tryd.prog 112 #[f.val] w fun e w' => e = .returned (Fil.val ⟨f.name, f.data, (f.data.size : Int)⟩) ∧ Below w.heap.size w w' := by
  obtain ⟨s0, s1, k⟩ := f
  have h1 := hf.2.1
  simp only at h1
  unfold maxLen at h1
  unfold Fil.val
  simp only
  go_enter Tryd.func112, Tryd.ntmps112
  go_wp2
  refine bodyPost_ret (v := .agg #[.string s0, .string s1, .int .i64 s1.size]) (by simp [results, Tryd.results112, go_sem]) rfl ⟨rfl, ?_⟩
  exact ((Below.refl _ _).alloc (Nat.le_refl _) _).alloc (by simp) _
end Go.Proofs.YtapnmnghdgkbpaaDoor
