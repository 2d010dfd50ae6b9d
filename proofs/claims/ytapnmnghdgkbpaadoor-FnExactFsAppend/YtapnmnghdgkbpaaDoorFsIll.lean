/- spec.l03Ill; a code's answer. -/
import Derived.Test.YtapnmnghdgkbpaaDoorFSpec
import Derived.Test.YtapnmnghdgkbpaaDoorFChg
namespace Go.Proofs.YtapnmnghdgkbpaaDoor
open Go.RowKit
set_option linter.unusedVariables false
set_option maxRecDepth 1000000

theorem ownF_nil (w : World) (base : Nat) : OwnF w base (.slice none 0 0) [] := ⟨World.ownsRow_nil _ _ _ _, fun f h => by cases h⟩
set_option maxHeartbeats 1000000 in
theorem ill_any (cd : Int) (w : World) : Calls Tryd.prog 68 #[.int .i64 cd] w fun e w' => e = .returned (fsOut (.slice none 0 0) cd) ∧ Below w.heap.size w w' := by
  go_enter Tryd.func68, Tryd.ntmps68
  go_wp2
  exact bodyPost_ret (v := fsOut (.slice none 0 0) cd) (by simp [results, Tryd.results68, go_sem]) rfl ⟨rfl, (Below.refl _ _).alloc (Nat.le_refl _) _⟩
theorem any_one (s : ByteArray) : anyLong [s] = decide (20000 < s.size) := by simp [anyLong]
theorem open_one (L : List Fil) (s : ByteArray) : openOK L [s] = (fsOK L && nameB s) := by simp [openOK]
/-- What a change of one name meets. -/
theorem code_cases (L : List Fil) (s : ByteArray) :
    (anyLong [s] = true ∧ codeOf L s = 2) ∨ (anyLong [s] = false ∧ openOK L [s] = false ∧ codeOf L s = 1) ∨
    (anyLong [s] = false ∧ openOK L [s] = true ∧ fsOK L = true ∧ findF L s = none ∧ codeOf L s = 6) ∨
    (anyLong [s] = false ∧ openOK L [s] = true ∧ fsOK L = true ∧ (∃ (i : Nat) (h : i < L.length), findF L s = some L[i] ∧ L[i].name = s) ∧ codeOf L s = 0) := by
  rw [any_one, open_one]
  unfold codeOf
  by_cases h : 20000 < s.size
  · exact .inl ⟨by simpa using h, by rw [if_pos h]⟩
  · refine .inr ?_
    rw [if_neg h]
    cases hg : (fsOK L && nameB s) with
    | false => exact .inl ⟨by simpa using h, rfl, by simp⟩
    | true =>
      refine .inr ?_
      have hok : fsOK L = true := by simp only [Bool.and_eq_true] at hg; exact hg.1
      cases hf : findF L s with
      | none => exact .inl ⟨by simpa using h, rfl, hok, rfl, by simp⟩
      | some g =>
        obtain ⟨i, hi, hig⟩ := List.getElem_of_mem (List.mem_of_find?_eq_some hf)
        have hn : g.name = s := by simpa using List.find?_some hf
        exact .inr ⟨by simpa using h, rfl, hok, ⟨i, hi, by rw [hig], by rw [hig, hn]⟩, by simp⟩
end Go.Proofs.YtapnmnghdgkbpaaDoor
