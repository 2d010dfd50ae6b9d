/- Rows of files that a call owns, and the copy that the exact laws make of a file system. -/
import Derived.Test.YtapnmnghdgkbpaaFilSz
import Derived.OwnWalk
namespace Go.Proofs.Ytapnmnghdgkbpaa
open Go.RowKit
set_option linter.unusedVariables false

/-- The cells of files, one behind the other. -/
def flat (L : List Fil) : List Value := L.flatMap Fil.cells
theorem flat_nil : flat [] = [] := rfl
theorem flat_cons (f : Fil) (L : List Fil) : flat (f :: L) = .string f.name :: .string f.data :: .int .i64 f.sync :: flat L := rfl
theorem flat_append (L M : List Fil) : flat (L ++ M) = flat L ++ flat M := by simp [flat]
theorem flat_len (L : List Fil) : (flat L).length = L.length * 3 := by
  induction L with
  | nil => rfl
  | cons f L ih => rw [flat_cons]; simp only [List.length_cons, ih]; omega
theorem flat_get (L : List Fil) : ∀ (i : Nat) (hi : i < L.length) (r : Nat), r < 3 → (flat L)[i * 3 + r]? = L[i].cells[r]? := by
  induction L with
  | nil => intro i hi; simp at hi
  | cons f L ih =>
    intro i hi r hr
    rw [flat_cons]
    cases i with
    | zero =>
      match r, hr with
      | 0, _ => rfl
      | 1, _ => rfl
      | 2, _ => rfl
    | succ i =>
      rw [show (i + 1) * 3 + r = (i * 3 + r) + 1 + 1 + 1 by omega]
      simp only [List.getElem?_cons_succ, List.getElem_cons_succ]
      exact ih i (by simpa using hi) r hr
theorem flat_set (f : Fil) : ∀ (L : List Fil) (i : Nat), (((flat L).set (i * 3) (.string f.name)).set (i * 3 + 1) (.string f.data)).set (i * 3 + 2) (.int .i64 f.sync) = flat (L.set i f) := by
  intro L
  induction L with
  | nil => intro i; simp [flat]
  | cons g L ih =>
    intro i
    cases i with
    | zero => rfl
    | succ i =>
      rw [flat_cons, show (i + 1) * 3 = i * 3 + 1 + 1 + 1 by omega, List.set_cons_succ, List.set_cons_succ, List.set_cons_succ, List.set_cons_succ, List.set_cons_succ, List.set_cons_succ]
      rw [List.set_cons_succ, List.set_cons_succ, List.set_cons_succ, List.set_cons_succ, flat_cons, ← ih i]
theorem flat_one (L : List Fil) : ∀ u ∈ flat L, u.oneCell' = true := by
  intro u hu
  obtain ⟨f, _, h⟩ := List.mem_flatMap.1 hu
  simp [Fil.cells] at h
  rcases h with rfl | rfl | rfl <;> rfl
def zeroFil : Fil := ⟨⟨#[]⟩, ⟨#[]⟩, 0⟩
theorem flat_made (n : Nat) : (madeCells #[.string ⟨#[]⟩, .string ⟨#[]⟩, .int .i64 0] (n * 3)).toList = flat (List.replicate n zeroFil) := by
  apply List.ext_getElem?
  intro j
  by_cases hj : j < n * 3
  · have h := flat_get (List.replicate n zeroFil) (j / 3) (by simp; omega) (j % 3) (by omega)
    rw [show j / 3 * 3 + j % 3 = j by omega] at h
    rw [h]
    have : j % 3 = 0 ∨ j % 3 = 1 ∨ j % 3 = 2 := by omega
    rcases this with e | e | e <;> simp [madeCells, hj, e, zeroFil, Fil.cells]
  · rw [List.getElem?_eq_none (l := flat _) (by rw [flat_len]; simp; omega)]
    simp [madeCells]
    omega

theorem grown_none {w w' : World} {B : Nat} (hb : Below B w w') (hB : w.heap.size ≤ B) : w.grownBy w' none := ⟨hb.os, hb.tape, hb.output, hb.size, fun k hk _ => hb.block k (by omega)⟩
theorem row_below {w w' : World} {B base n size : Nat} {e : TypeId} {v : Value} {xs : List Value} (h : w.ownsRow base e size v n xs) (hb : Below B w w') (hB : w.heap.size ≤ B) : w'.ownsRow base e size v n xs :=
  h.kept (grown_none hb hB) (by cases v.ownBlock <;> simp)
theorem take_put {α : Type} (L : List α) (z : α) {k : Nat} (h : k < L.length) : (L.take k ++ List.replicate (L.length - k) z).set k L[k] = L.take (k + 1) ++ List.replicate (L.length - (k + 1)) z := by
  rw [List.set_append_right _ _ (by simp; omega)]
  simp only [List.length_take, show k - min k L.length = 0 by omega, show L.length - k = (L.length - (k + 1)) + 1 by omega, List.replicate_succ, List.set_cons_zero]
  rw [List.take_succ_eq_append_getElem h, List.append_assoc]
  rfl

theorem row_far {w : World} {base n size : Nat} {e : TypeId} {v : Value} {xs : List Value} (h : w.ownsRow base e size v n xs) {p : Addr} (hp : p.block < base) (u : Value) : (w.setCell p u).ownsRow base e size v n xs :=
  h.kept (row := some p.block) ⟨rfl, rfl, rfl, by simp [World.setCell], fun k _ hne => Below.heap_setCell w p u k (fun e => hne (by rw [e]))⟩ (.inr fun e => by have := (h.lt _ e).1; omega)
end Go.Proofs.Ytapnmnghdgkbpaa
