/- The specification's copy of a file system, and its smaller of two numbers. -/
import Derived.Test.YtapnmnghdgkbpaaDoorFilOwn
namespace Go.Proofs.YtapnmnghdgkbpaaDoor
open Go.RowKit
set_option linter.unusedVariables false
set_option maxRecDepth 1000000

theorem fls_news {w : World} {B : Nat} {a : Addr} {L : List Fil} (h : Fls w B (some a) L) : ∀ j u, (flat L)[j]? = some u → w.cell? (a.add j) = some u := by
  intro j u hj
  have hjl : j < L.length * 3 := by rw [← flat_len]; exact (List.getElem?_eq_some_iff.1 hj).1
  have hi : j / 3 < L.length := by omega
  have hg := flat_get L (j / 3) hi (j % 3) (by omega)
  rw [show j / 3 * 3 + j % 3 = j by omega, hj] at hg
  obtain ⟨a', e, _, c0, c1, c2, _⟩ := h.2 (j / 3) hi
  cases e
  have : j % 3 = 0 ∨ j % 3 = 1 ∨ j % 3 = 2 := by omega
  rcases this with e | e | e
  · rw [e] at hg
    rw [show j = j / 3 * 3 by omega, c0]
    exact hg.symm
  · rw [e] at hg
    rw [show j = j / 3 * 3 + 1 by omega, c1]
    exact hg.symm
  · rw [e] at hg
    rw [show j = j / 3 * 3 + 2 by omega, c2]
    exact hg.symm

theorem l01Min_any (a b : Int) (w : World) : Calls Tryd.prog 81 #[.int .i64 a, .int .i64 b] w fun e w' => e = .returned (.int .i64 (min a b)) ∧ w' = w := by
  by_cases h : a < b
  · go_enter Tryd.func81, Tryd.ntmps81
    go_wp2
    go_ret
    exact ⟨retI (by omega), rfl⟩
  · go_enter Tryd.func81, Tryd.ntmps81
    go_wp2
    go_ret
    exact ⟨retI (by omega), rfl⟩

set_option maxHeartbeats 1000000 in
theorem l03Copy_any (A : Option Addr) (L : List Fil) (c : Nat) (w : World) (hL : Fls w w.heap.size A L) (hS : Small L) :
    Calls Tryd.prog 69 #[.agg #[.slice A L.length c]] w fun e w' => ∃ C x, e = .returned (.agg #[.slice C L.length x]) ∧ OwnF w' (w.heap.size + 2) (.slice C L.length x) L ∧ Below w.heap.size w w' := by
  obtain ⟨i0, hi, hz0, hz1, hz2⟩ := info_parts infoFile
  have hn := hS.1
  have hf : ∀ f ∈ L, f.fits := fun f h => by obtain ⟨i, hi, rfl⟩ := List.getElem_of_mem h; exact (hL.2 i hi).choose_spec.2.2.2.2.2
  have hb0 : Below w.heap.size w (((w.alloc (.cells #[.slice A L.length c] 50)).alloc (.cells #[.slice none 0 0] 50)).alloc (.cells #[] 84)) := (((Below.refl _ _).alloc (Nat.le_refl _) _).alloc (by simp) _).alloc (by simp; omega) _
  have hT0 := (Blk.fresh (w.alloc (.cells #[.slice A L.length c] 50)) 50 [.slice none 0 0]).alloc (.cells #[] 84)
  simp only [World.size_alloc] at hT0
  have hL0 := hL.below hb0 (Nat.le_refl _)
  have hown0 : (((w.alloc (.cells #[.slice A L.length c] 50)).alloc (.cells #[.slice none 0 0] 50)).alloc (.cells #[] 84)).ownsRow (w.heap.size + 2) 84 3 (.slice (some ⟨w.heap.size + 1 + 1, 0, none⟩) 0 0) 0 [] :=
    ⟨rfl, .inr ⟨w.heap.size + 1 + 1, 0, #[], rfl, by omega, by have := heap_alloc_new ((w.alloc (.cells #[.slice A L.length c] 50)).alloc (.cells #[.slice none 0 0] 50)) (.cells #[] 84); simpa using this, Nat.le_refl _, by simp [maxLen], rfl, rfl⟩⟩
  cases A with
  | none =>
    have hz : L = [] := by
      cases L with
      | nil => rfl
      | cons f L => obtain ⟨a, e, _⟩ := hL.2 0 (by simp); cases e
    subst hz
    have ha := fun ty => run_append_owned_none (P := Tryd.prog) _ _ 48 ty 84 i0 3 Tryd.underlying48 hi _ _ _ hown0
    have t0 := hT0.cell (i := 0) rfl
    have f0 := hT0.froz 0
    go_enter Tryd.func69, Tryd.ntmps69
    go_wp2
    refine bodyPost_ret (v := .agg #[.slice (some ⟨w.heap.size + 1 + 1, 0, none⟩) 0 0]) (by simp [results, Tryd.results69, go_sem]) rfl ⟨_, _, rfl, ⟨⟨rfl, .inr ⟨w.heap.size + 1 + 1, 0, #[], rfl, by omega, ?_, Nat.le_refl _, by simp [maxLen], rfl, rfl⟩⟩, by simp⟩, ?_⟩
    · have := heap_alloc_new ((w.alloc (.cells #[.slice none 0 c] 50)).alloc (.cells #[.slice (some ⟨w.heap.size + 1 + 1, 0, none⟩) 0 0] 50)) (.cells #[] 84)
      simpa using this
    · exact (((Below.refl _ _).alloc (Nat.le_refl _) _).alloc (by simp) _).alloc (by simp; omega) _
  | some a =>
    go_enter Tryd.func69, Tryd.ntmps69
    go_wp2_with (at_builtin; refine wpList_append_own _ rfl _ _ 48 rfl (w.heap.size + 2) 84 i0 (.agg #[.string ⟨#[]⟩, .string ⟨#[]⟩, .int .i64 0]) 3 40 Tryd.underlying48 hi hz0 hz1 hz2 rfl (by decide) _ _ _ rfl hown0 a L.length c (flat L) rfl (flat_len L) (fls_news hL0) (flat_one L) (by unfold maxLen; omega) (by omega) (by simp) ?_)
    intro v' w1 hown1 hgrow1 _
    have hF1 : OwnF w1 (w.heap.size + 2) v' L := ⟨hown1, hf⟩
    have hT1 := hT0.grown hgrow1 (by simp [Value.ownBlock])
    have hw1 := hb0.grown hgrow1 (by have := hb0.size; exact this) (fun j e => by simp [Value.ownBlock] at e; omega)
    obtain ⟨C, x, rfl, _⟩ := hF1.slice
    have t0 := hT1.cell (i := 0) rfl
    have f0 := hT1.froz 0
    go_wp2
    refine bodyPost_ret (v := .agg #[.slice C L.length x]) (by simp [results, Tryd.results69, go_sem, t0]) rfl ⟨C, x, rfl, ?_, hw1.setCell (by simp) _⟩
    exact hF1.far (p := ⟨w.heap.size + 1, 0, none⟩) (by simp) _
end Go.Proofs.YtapnmnghdgkbpaaDoor
