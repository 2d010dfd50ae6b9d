/- Rows that calls have made, told by where they lie: what is written into one leaves the others as they are. -/
import Derived.Test.YtdehpdmgoaopfaaAdr
namespace Go.Proofs.Ytdehpdmgoaopfaa
open Go.RowKit
set_option linter.unusedVariables false

/-- A row of the call's own, between block lo and block hi. -/
def Rw (w : World) (lo hi : Nat) (e : TypeId) (size : Nat) (v : Value) (n : Nat) (xs : List Value) : Prop := w.ownsRow lo e size v n xs ∧ ∀ k, v.ownBlock = some k → k < hi
section
variable {w w' : World} {lo hi : Nat} {e : TypeId} {size : Nat} {v : Value} {n : Nat} {xs : List Value}
theorem Rw.of (h : w.ownsRow lo e size v n xs) : Rw w lo w.heap.size e size v n xs := ⟨h, fun k hk => (h.lt k hk).2⟩
theorem Rw.below (h : Rw w lo hi e size v n xs) (hb : Below w.heap.size w w') : Rw w' lo hi e size v n xs := ⟨row_below h.1 hb (Nat.le_refl _), h.2⟩
theorem Rw.at (h : Rw w lo hi e size v n xs) : ∀ k, v.ownBlock = some k → lo ≤ k ∧ k < hi := fun k hk => ⟨(h.1.lt k hk).1, h.2 k hk⟩
theorem Rw.far (h : Rw w lo hi e size v n xs) {row : Option Nat} (hg : w.grownBy w' row) {lo' hi' : Nat} (hr : ∀ k, row = some k → lo' ≤ k ∧ k < hi') (ho : hi ≤ lo' ∨ hi' ≤ lo) : Rw w' lo hi e size v n xs :=
  ⟨h.1.kept hg (by
    cases hv : v.ownBlock with
    | none => exact .inl rfl
    | some k =>
      refine .inr fun hk => ?_
      have h1 := h.at k hv
      have h2 := hr k hk.symm
      omega), h.2⟩
theorem Blk.off {g : Nat} {t : TypeId} {cs : List Value} (h : Blk w g t cs) {row : Option Nat} (hg : w.grownBy w' row) {lo' hi' : Nat} (hr : ∀ k, row = some k → lo' ≤ k ∧ k < hi') (ho : g < lo' ∨ hi' ≤ g) : Blk w' g t cs :=
  h.grown hg fun e => by have := hr g e.symm; omega
theorem below_off {B : Nat} {a : World} (h : Below B a w) {row : Option Nat} (hg : w.grownBy w' row) {lo' hi' : Nat} (hr : ∀ k, row = some k → lo' ≤ k ∧ k < hi') (ho : B ≤ lo') (hB : B ≤ a.heap.size) : Below B a w' :=
  h.grown hg (Nat.le_trans hB h.size) fun k e => by have := hr k e; omega
end
theorem own_blk (A : Option Addr) (n c : Nat) : (Value.slice A n c).ownBlock = A.map (·.block) := by cases A <;> rfl
theorem Rw.atA {w : World} {lo hi n m c size : Nat} {e : TypeId} {A : Option Addr} {xs : List Value} (h : Rw w lo hi e size (.slice A m c) n xs) : ∀ k, A.map (·.block) = some k → lo ≤ k ∧ k < hi := by
  rw [← own_blk A m c]; exact h.at
theorem Rw.capL {w : World} {lo hi n c : Nat} {e : TypeId} {size m : Nat} {a : Addr} {xs : List Value} (h : Rw w lo hi e size (.slice (some a) n c) m xs) : m ≤ c ∧ c ≤ maxLen := by
  rcases h.1.2 with ⟨hv, _⟩ | ⟨g, cap, cur, hv, hb, hg, hl, hm, _⟩
  · cases hv
  · cases hv; exact ⟨hl, hm⟩
end Go.Proofs.Ytdehpdmgoaopfaa
