/- A region that draws its order, whose operations only read, and whose callees keep what is known of the world (they may make memory): one walk, over a class of worlds. -/
import Derived.Test.YtdehpdmgoaopfaaBlk
import Derived.BigQuiet
namespace Go.Proofs.Ytdehpdmgoaopfaa
open Go.RowKit
set_option linter.unusedVariables false

/-- A class of worlds, told by a map from some type. -/
theorem class_of (S : World → Prop) : ∃ (I : Type) (f : I → World), ∀ W, (∃ s, W = f s) ↔ S W :=
  ⟨{ W : World // S W }, Subtype.val, fun W => ⟨fun ⟨s, e⟩ => e ▸ s.2, fun h => ⟨⟨W, h⟩, rfl⟩⟩⟩

theorem wp_region_kept {P : Program} {id : Nat} {Q : Exit → Act → World → Prop} {a : Act} {w : World} {l : List Oper} {I : Type} (f : I → World) (hm : P.follows .mixedOrders = true) (hB : Region.lexB .any l.toArray = true) (h0 : ∃ s, w.drew = f s)
    (h : wpQuiet P l.toArray (fun w' => ∃ s, w' = f s) (fun a' => ∀ w', (∃ s, w' = f s) → Q .normal a' w') l a) : (Code.region id l.toArray true).wp P Q a w :=
  wp_region_quiet (C := fun w' => ∃ s, w' = f s) hm hB h0 (by simpa using h)

/-- The worlds that come of w by making memory. -/
theorem class_grown (w : World) : ∃ (I : Type) (f : I → World), Nonempty I ∧ (∃ s, w.drew = f s) ∧ (∀ s, Below w.heap.size w (f s)) ∧ (∀ s W', Below (f s).heap.size (f s) W' → ∃ s', W' = f s') ∧ (∀ W, (∃ s, W = f s) → Below w.heap.size w W) := by
  obtain ⟨I, f, hf⟩ := class_of (fun W => Below w.heap.size w W)
  have h0 : ∃ s, w.drew = f s := (hf _).2 (below_drew (Below.refl _ _))
  exact ⟨I, f, ⟨h0.choose⟩, h0, fun s => (hf _).1 ⟨s, rfl⟩, fun s W' h => (hf _).2 (((hf _).1 ⟨s, rfl⟩).trans (h.mono ((hf _).1 ⟨s, rfl⟩).size)), fun W h => (hf _).1 h⟩
theorem kept_cell {w W : World} {a : Addr} {v : Value} (h : Below w.heap.size w W) (hc : w.cell? a = some v) : W.cell? a = some v := by
  rw [← hc]; exact World.cell?_of_block (h.block _ (World.block_lt_of_cell? w a hc))
theorem row_off {w : World} {base n size : Nat} {e : TypeId} {v : Value} {xs : List Value} (h : w.ownsRow base e size v n xs) {p : Addr} (hp : v.ownBlock ≠ some p.block) (u : Value) : (w.setCell p u).ownsRow base e size v n xs :=
  h.kept (row := some p.block) ⟨rfl, rfl, rfl, by simp [World.setCell], fun k _ hne => Below.heap_setCell w p u k (fun e => hne (by rw [e]))⟩ (.inr hp)
theorem cell_put_far {w : World} {a p : Addr} {v : Value} (h : w.cell? a = some v) (hne : a.block ≠ p.block) (u : Value) : (w.setCell p u).cell? a = some v := by
  rw [← h]; exact World.cell?_of_block (Below.heap_setCell w p u _ hne)
theorem row_cell {w : World} {base g n c size : Nat} {e : TypeId} {xs : List Value} (h : w.ownsRow base e size (.slice (some ⟨g, 0, none⟩) n c) n xs) {j : Nat} (hj : j < n * size) : ∃ u, w.cell? ⟨g, j, none⟩ = some u := by
  have hl := h.1
  exact ⟨xs[j]'(by omega), by rw [h.cellAt j hj, List.getElem?_eq_getElem]⟩

end Go.Proofs.Ytdehpdmgoaopfaa
