/- SeglogNew: spec and impl answer alike. -/
import Derived.Test.YtebkblmejkkhfaaDoorSegName
import Derived.Test.YtebkblmejkkhfaaDoorFilOwn
import Derived.Test.YtebkblmejkkhfaaDoorSgArg
namespace Go.Proofs.YtebkblmejkkhfaaDoor
open Go.RowKit
set_option linter.unusedVariables false
set_option maxRecDepth 1000000
/-- The one file of a new log. -/
def newF : Fil := ⟨segB 0, ⟨#[]⟩, 0⟩
theorem newF_fits : newF.fits := by
  refine ⟨?_, by show 0 ≤ maxLen; unfold maxLen; omega, by decide, by decide⟩
  show (segB 0).size ≤ maxLen
  rw [segB_size 0 (by omega)]; unfold maxLen; omega
set_option maxHeartbeats 2000000 in
theorem implNew_any (w : World) (hP : Pow w) : Calls Tryd.prog 15 #[] w fun e w' => ∃ v, e = .returned (segV v 0 0) ∧ OwnF w' w.heap.size v [newF] ∧ Below w.heap.size w w' := by
  obtain ⟨s, HS⟩ : ∃ s, Hid (segB 0 = s) := ⟨_, Lib.hid rfl⟩
  have hb0 : Below w.heap.size w (w.alloc (.cells #[.slice none 0 0, .int .i64 0, .int .i64 0] 35)) := (Below.refl _ w).alloc (Nat.le_refl _) _
  have k0 := Blk.fresh w 35 [.slice none 0 0, .int .i64 0, .int .i64 0]
  have HI := Lib.hid (implSegName_in 0 _ (by omega) (hP.below hb0))
  rw [HS.out] at HI
  go_enter Tryd.func15, Tryd.ntmps15
  go_wp2_with (fail)
  refine HI.out.mono ?_
  rintro e w1 ⟨rfl, hb1⟩
  have k1 := k0.below hb1 k0.lt
  have hw1 := hb0.trans (hb1.mono hb0.size)
  have hz := hw1.size
  have k2 := k1.alloc (.cells #[.string s, .string ⟨#[]⟩, .int .i64 0] 56)
  have c0 := k2.cell (i := 0) rfl
  have c1 := k2.cell (i := 1) rfl
  have c2 := k2.cell (i := 2) rfl
  have f0 := k2.froz 0
  have f1 := k2.froz 1
  have f2 := k2.froz 2
  clear hb0 k0 hb1 HI
  go_wp2
  have hO : OwnF (w1.alloc (.cells #[.string s, .string ⟨#[]⟩, .int .i64 0] 56)) w1.heap.size (.slice (some ⟨w1.heap.size, 0, none⟩) 1 1) [newF] :=
    ⟨by have := World.ownsRow_lit (base := w1.heap.size) (e := 56) (size := 3) w1 #[.string s, .string ⟨#[]⟩, .int .i64 0] 1 (Nat.le_refl _) (by decide) rfl; rw [← HS.out] at this ⊢; exact this, by simp; exact newF_fits⟩
  have hlt := k1.lt
  have r1 := ((k2.put 0 (.slice (some ⟨w1.heap.size, 0, none⟩) 1 1)).put 1 (.int .i64 0)).put 2 (.int .i64 0)
  have r2 := ((hO.far (p := ⟨w.heap.size, 0, none⟩) hlt (.slice (some ⟨w1.heap.size, 0, none⟩) 1 1)).far (p := ⟨w.heap.size, 1, none⟩) hlt (.int .i64 0)).far (p := ⟨w.heap.size, 2, none⟩) hlt (.int .i64 0)
  have r3 := (((hw1.alloc hz (.cells #[.string s, .string ⟨#[]⟩, .int .i64 0] 56)).setCell (p := ⟨w.heap.size, 0, none⟩) (by simp) (.slice (some ⟨w1.heap.size, 0, none⟩) 1 1)).setCell (p := ⟨w.heap.size, 1, none⟩) (by simp) (.int .i64 0)).setCell (p := ⟨w.heap.size, 2, none⟩) (by simp) (.int .i64 0)
  generalize (((w1.alloc (.cells #[.string s, .string ⟨#[]⟩, .int .i64 0] 56)).setCell ⟨w.heap.size, 0, none⟩ (.slice (some ⟨w1.heap.size, 0, none⟩) 1 1)).setCell ⟨w.heap.size, 1, none⟩ (.int .i64 0)).setCell ⟨w.heap.size, 2, none⟩ (.int .i64 0) = w9 at r1 r2 r3 ⊢
  have x0 := r1.cell (i := 0) rfl
  have x1 := r1.cell (i := 1) rfl
  have x2 := r1.cell (i := 2) rfl
  exact bodyPost_ret (v := segV (.slice (some ⟨w1.heap.size, 0, none⟩) 1 1) 0 0) (by simp [results, Tryd.results15, go_sem, x0, x1, x2]) rfl ⟨_, rfl, r2.base hz, r3⟩
set_option maxHeartbeats 2000000 in
theorem specNew_any (w : World) : Calls Tryd.prog 14 #[] w fun e w' => ∃ v, e = .returned (segV v 0 0) ∧ OwnF w' w.heap.size v [newF] ∧ Below w.heap.size w w' := by
  obtain ⟨s, HS⟩ : ∃ s, Hid (segB 0 = s) := ⟨_, Lib.hid rfl⟩
  have hb0 : Below w.heap.size w (w.alloc (.cells #[.slice none 0 0, .int .i64 0, .int .i64 0] 35)) := (Below.refl _ w).alloc (Nat.le_refl _) _
  have k0 := Blk.fresh w 35 [.slice none 0 0, .int .i64 0, .int .i64 0]
  have HI := Lib.hid (specSegName_in 0 (w.alloc (.cells #[.slice none 0 0, .int .i64 0, .int .i64 0] 35)) (by omega))
  rw [HS.out] at HI
  go_enter Tryd.func14, Tryd.ntmps14
  go_wp2_with (fail)
  refine HI.out.mono ?_
  rintro e w1 ⟨rfl, hb1⟩
  have k1 := k0.below hb1 k0.lt
  have hw1 := hb0.trans (hb1.mono hb0.size)
  have hz := hw1.size
  have k2 := k1.alloc (.cells #[.string s, .string ⟨#[]⟩, .int .i64 0] 56)
  have c0 := k2.cell (i := 0) rfl
  have c1 := k2.cell (i := 1) rfl
  have c2 := k2.cell (i := 2) rfl
  have f0 := k2.froz 0
  have f1 := k2.froz 1
  have f2 := k2.froz 2
  clear hb0 k0 hb1 HI
  go_wp2
  have hO : OwnF (w1.alloc (.cells #[.string s, .string ⟨#[]⟩, .int .i64 0] 56)) w1.heap.size (.slice (some ⟨w1.heap.size, 0, none⟩) 1 1) [newF] :=
    ⟨by have := World.ownsRow_lit (base := w1.heap.size) (e := 56) (size := 3) w1 #[.string s, .string ⟨#[]⟩, .int .i64 0] 1 (Nat.le_refl _) (by decide) rfl; rw [← HS.out] at this ⊢; exact this, by simp; exact newF_fits⟩
  have hlt := k1.lt
  have r1 := ((k2.put 0 (.slice (some ⟨w1.heap.size, 0, none⟩) 1 1)).put 1 (.int .i64 0)).put 2 (.int .i64 0)
  have r2 := ((hO.far (p := ⟨w.heap.size, 0, none⟩) hlt (.slice (some ⟨w1.heap.size, 0, none⟩) 1 1)).far (p := ⟨w.heap.size, 1, none⟩) hlt (.int .i64 0)).far (p := ⟨w.heap.size, 2, none⟩) hlt (.int .i64 0)
  have r3 := (((hw1.alloc hz (.cells #[.string s, .string ⟨#[]⟩, .int .i64 0] 56)).setCell (p := ⟨w.heap.size, 0, none⟩) (by simp) (.slice (some ⟨w1.heap.size, 0, none⟩) 1 1)).setCell (p := ⟨w.heap.size, 1, none⟩) (by simp) (.int .i64 0)).setCell (p := ⟨w.heap.size, 2, none⟩) (by simp) (.int .i64 0)
  generalize (((w1.alloc (.cells #[.string s, .string ⟨#[]⟩, .int .i64 0] 56)).setCell ⟨w.heap.size, 0, none⟩ (.slice (some ⟨w1.heap.size, 0, none⟩) 1 1)).setCell ⟨w.heap.size, 1, none⟩ (.int .i64 0)).setCell ⟨w.heap.size, 2, none⟩ (.int .i64 0) = w9 at r1 r2 r3 ⊢
  have x0 := r1.cell (i := 0) rfl
  have x1 := r1.cell (i := 1) rfl
  have x2 := r1.cell (i := 2) rfl
  exact bodyPost_ret (v := segV (.slice (some ⟨w1.heap.size, 0, none⟩) 1 1) 0 0) (by simp [results, Tryd.results14, go_sem, x0, x1, x2]) rfl ⟨_, rfl, r2.base hz, r3⟩
end Go.Proofs.YtebkblmejkkhfaaDoor
