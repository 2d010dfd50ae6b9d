/- Rows of strings: what the exact laws do with them. -/
import Derived.Test.YtapnmnghdgkbpaaMark
namespace Go.Proofs.Ytapnmnghdgkbpaa
open Go.RowKit
set_option linter.unusedVariables false

/-- The strings of a slice, below block B. -/
def Strs (w : World) (B : Nat) (A : Option Addr) (L : List ByteArray) : Prop :=
  L.length ≤ maxLen ∧ ∀ i (h : i < L.length), ∃ a, A = some a ∧ a.block < B ∧ w.cell? (a.add i) = some (.string L[i])
theorem Strs.below {w w' : World} {B C : Nat} {A : Option Addr} {L : List ByteArray} (h : Strs w B A L) (hb : Below C w w') (hC : B ≤ C) : Strs w' B A L :=
  ⟨h.1, fun i hi => by
    obtain ⟨a, e, h1, h2⟩ := h.2 i hi
    exact ⟨a, e, h1, by rw [World.cell?_of_block (a := a.add _) (hb.block _ (by rw [add_blk]; omega))]; exact h2⟩⟩
theorem Strs.mono {w : World} {B B' : Nat} {A : Option Addr} {L : List ByteArray} (h : Strs w B A L) (hb : B ≤ B') : Strs w B' A L :=
  ⟨h.1, fun i hi => by
    obtain ⟨a, e, h1, h2⟩ := h.2 i hi
    exact ⟨a, e, by omega, h2⟩⟩
/-- A row of strings of the call's own. -/
def OwnS (w : World) (base : Nat) (v : Value) (L : List ByteArray) : Prop := w.ownsRow base 9 1 v L.length (L.map Value.string)
theorem OwnS.strs {w : World} {base c n : Nat} {A : Option Addr} {L : List ByteArray} (h : OwnS w base (.slice A n c) L) : n = L.length ∧ Strs w w.heap.size A L := by
  rcases h.2 with ⟨hv, hz⟩ | ⟨g, cap, cur, hv, hb, hg, hl, hm, hs, ht⟩
  · have : L = [] := List.eq_nil_of_length_eq_zero hz
    subst this
    cases hv
    exact ⟨rfl, by simp [maxLen], fun i h => absurd h (by simp)⟩
  · cases hv
    refine ⟨rfl, by omega, fun i hi => ?_⟩
    have hc := World.ownsRow.cells h (g := g) rfl i (.string L[i]) (by simp [hi])
    exact ⟨⟨g, 0, none⟩, rfl, (Array.getElem?_eq_some_iff.1 hg).1, hc⟩

set_option maxHeartbeats 1000000 in
theorem eqStringS_same (A B : Option Addr) (L : List ByteArray) (c d : Nat) (w : World) (hA : Strs w w.heap.size A L) (hB : Strs w w.heap.size B L) :
    Calls Try.prog 11 #[.slice A L.length c, .slice B L.length d] w fun e w' => e = .returned (.bool true) ∧ Below w.heap.size w w' := by
  have hn := hA.1
  unfold maxLen at hn
  go_enter Try.func11, Try.ntmps11
  go_wp2
  go_loopw [5] (fun i wr => ∃ k : Nat, k ≤ L.length ∧ i = .int .i64 k ∧ Below w.heap.size w wr) (fun i _ => L.length - (intOf i).toNat)
  case atStart => exact ⟨0, by omega, rfl, Below.refl _ _⟩
  case round =>
    obtain ⟨k, hk, rfl, hb⟩ := hrel
    by_cases hlt : k < L.length
    · obtain ⟨a, rfl, hab, a0⟩ := (hA.below hb (Nat.le_refl _)).2 k hlt
      obtain ⟨b, rfl, hbb, b0⟩ := (hB.below hb (Nat.le_refl _)).2 k hlt
      have hlt' : (k : Int) < (L.length : Int) := by omega
      go_wp2
      go_quiet (fail)
      go_wp2
      exact ⟨⟨k + 1, by omega, by go_num, below_drewN hb _⟩, by simp [intOf]; omega⟩
    · obtain rfl : k = L.length := by omega
      go_wp2
      go_ret
      exact ⟨rfl, hb⟩

/-- The marks of n strings, from k on. -/
def markN (n k : Nat) : List ByteArray := (List.range n).map fun i => markS (k + i)
theorem markN_len (n k : Nat) : (markN n k).length = n := by simp [markN]
theorem markN_get {n k i : Nat} (h : i < n) : (markN n k)[i]'(by rw [markN_len]; exact h) = markS (k + i) := by simp [markN]

theorem infoStr : (Try.prog.info? 9).map (fun i => (i.zero, i.size, i.bytes)) = some (some (.string ⟨#[]⟩), 1, 16) := by kernel_rfl
theorem below_apps {B base : Nat} {w wr w1 : World} {e : TypeId} {size n : Nat} {v : Value} {xs : List Value} {o : Obj} (hb : Below B w wr) (hB : B ≤ w.heap.size) (hown : wr.ownsRow base e size v n xs) (hBb : B ≤ base) (hg : (wr.alloc o).grownBy w1 v.ownBlock) : Below B w w1 :=
  (hb.alloc (Nat.le_trans hB hb.size) o).grown hg (by have := hb.size; simp; omega) (fun k e => Nat.le_trans hBb (hown.lt k e).1)
theorem one_str (s : ByteArray) : ∀ u ∈ [Value.string s], u.oneCell' = true := by intro u hu; simp at hu; subst hu; rfl
theorem ownS_snoc {w : World} {base : Nat} {v : Value} {L : List ByteArray} {x : ByteArray} (h : w.ownsRow base 9 1 v (L.length + 1) (L.map Value.string ++ [.string x])) : OwnS w base v (L ++ [x]) := by
  unfold OwnS
  simpa using h
theorem ownS_base {w : World} {base base' : Nat} {v : Value} {L : List ByteArray} (h : OwnS w base v L) (hb : base' ≤ base) : OwnS w base' v L := by
  obtain ⟨h0, h1⟩ := h
  refine ⟨h0, ?_⟩
  rcases h1 with h1 | ⟨g, cap, cur, r1, r2, r3⟩
  · exact .inl h1
  · exact .inr ⟨g, cap, cur, r1, by omega, r3⟩
theorem ownS_some {w : World} {base : Nat} {v : Value} {L : List ByteArray} (h : OwnS w base v L) : ∃ A c, v = .slice A L.length c := by
  rcases h.2 with ⟨rfl, hz⟩ | ⟨g, cap, cur, rfl, _⟩
  · exact ⟨none, 0, by rw [hz]⟩
  · exact ⟨_, _, rfl⟩

end Go.Proofs.Ytapnmnghdgkbpaa
