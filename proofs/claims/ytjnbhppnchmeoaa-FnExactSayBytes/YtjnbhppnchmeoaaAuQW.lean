/- A region that draws its order, whose operations only read, and whose callees keep what is known of the world (they may make memory): one walk, over a class of worlds. Slices of int64 as the exact laws use them. Contract of spec.l03Is: whether a number lies within two others. Leaders and quorums, as plain mathematics. -/
import Derived.Test.YtjnbhppnchmeoaaRwkW
import Derived.BigQuiet
import Derived.WideShapes
import Derived.ChangeSlices
import Derived.WalkKit
import Derived.Below
import Derived.Lib.Hide
namespace Go.Proofs.Ytjnbhppnchmeoaa
open Go.RowKit
set_option linter.unusedVariables false

/-- A class of worlds, told by a map from some type. -/
theorem class_of (S : World → Prop) : ∃ (I : Type) (f : I → World), ∀ W, (∃ s, W = f s) ↔ S W :=
  ⟨{ W : World // S W }, Subtype.val, fun W => ⟨fun ⟨s, e⟩ => e ▸ s.2, fun h => ⟨⟨W, h⟩, rfl⟩⟩⟩

theorem wp_region_kept {P : Program} {id : Nat} {Q : Exit → Act → World → Prop} {a : Act} {w : World} {l : List Oper} {I : Type} (f : I → World) (hm : P.follows .mixedOrders = true) (hB : Region.lexB .any l.toArray = true) (h0 : ∃ s, w.drew = f s)
    (h : wpQuiet P l.toArray (fun w' => ∃ s, w' = f s) (fun a' => ∀ w', (∃ s, w' = f s) → Q .normal a' w') l a) : (Code.region id l.toArray true).wp P Q a w :=
  wp_region_quiet (C := fun w' => ∃ s, w' = f s) hm hB h0 (by simpa using h)

/-- The worlds that come of w by making memory. -/
theorem class_grown (w : World) : ∃ (I : Type) (f : I → World), Nonempty I ∧ (∃ s, w.drew = f s) ∧ (∀ s, Below w.heap.size w (f s)) ∧ (∀ s W', Below (f s).heap.size (f s) W' → ∃ s', W' = f s') ∧ (∀ W, (∃ s, W = f s) → Below w.heap.size w W) := by
  obtain ⟨I, f, hf⟩ := class_of (fun W => Below w.heap.size w W)
  have h0 : ∃ s, w.drew = f s := (hf _).2 (below_drew (Below.refl _ _))
  exact ⟨I, f, ⟨h0.choose⟩, h0, fun s => (hf _).1 ⟨s, rfl⟩, fun s W' h => (hf _).2 (((hf _).1 ⟨s, rfl⟩).trans (h.mono ((hf _).1 ⟨s, rfl⟩).size)), fun W h => (hf _).1 h⟩
theorem kept_cell {w W : World} {a : Addr} {v : Value} (h : Below w.heap.size w W) (hc : w.cell? a = some v) : W.cell? a = some v := by
  rw [← hc]; exact World.cell?_of_block (h.block _ (World.block_lt_of_cell? w a hc))
theorem row_off {w : World} {base n size : Nat} {e : TypeId} {v : Value} {xs : List Value} (h : w.ownsRow base e size v n xs) {p : Addr} (hp : v.ownBlock ≠ some p.block) (u : Value) : (w.setCell p u).ownsRow base e size v n xs :=
  h.kept (row := some p.block) ⟨rfl, rfl, rfl, by simp [World.setCell], fun k _ hne => Below.heap_setCell w p u k (fun e => hne (by rw [e]))⟩ (.inr hp)
theorem cell_put_far {w : World} {a p : Addr} {v : Value} (h : w.cell? a = some v) (hne : a.block ≠ p.block) (u : Value) : (w.setCell p u).cell? a = some v := by
  rw [← h]; exact World.cell?_of_block (Below.heap_setCell w p u _ hne)
theorem row_cell {w : World} {base g n c size : Nat} {e : TypeId} {xs : List Value} (h : w.ownsRow base e size (.slice (some ⟨g, 0, none⟩) n c) n xs) {j : Nat} (hj : j < n * size) : ∃ u, w.cell? ⟨g, j, none⟩ = some u := by
  have hl := h.1
  exact ⟨xs[j]'(by omega), by rw [h.cellAt j hj, List.getElem?_eq_getElem]⟩

end Go.Proofs.Ytjnbhppnchmeoaa

namespace Go.Proofs.Ytjnbhppnchmeoaa
open Go.RowKit Go.ChangeShapes Go.WideShapes
set_option linter.unusedVariables false
set_option maxRecDepth 1000000

/-- The numbers of a slice, below block B. -/
def Nms (w : World) (B : Nat) (A : Option Addr) (L : List Int) : Prop :=
  L.length ≤ maxLen ∧ ∀ i (h : i < L.length), ∃ a, A = some a ∧ a.block < B ∧ w.cell? (a.add i) = some (.int .i64 L[i]) ∧ -9223372036854775808 ≤ L[i] ∧ L[i] ≤ 9223372036854775807
theorem Nms.below {w w' : World} {B C : Nat} {A : Option Addr} {L : List Int} (h : Nms w B A L) (hb : Below C w w') (hC : B ≤ C) : Nms w' B A L :=
  ⟨h.1, fun i hi => by
    obtain ⟨a, e, h1, h2, h3⟩ := h.2 i hi
    exact ⟨a, e, h1, by rw [World.cell?_of_block (a := a.add _) (hb.block _ (by rw [add_blk]; omega))]; exact h2, h3⟩⟩
theorem Nms.mono {w : World} {B B' : Nat} {A : Option Addr} {L : List Int} (h : Nms w B A L) (hb : B ≤ B') : Nms w B' A L :=
  ⟨h.1, fun i hi => by
    obtain ⟨a, e, h1, h2⟩ := h.2 i hi
    exact ⟨a, e, by omega, h2⟩⟩
theorem ints_arg {H : Type} {enc : TypeId × Value → H} {W : World} {r : Reach} {b0 : Nat} {v : Value} {d : DataW H} {p : List MemPlace} (hval : Value.okWide Try.prog W r b0 44 v) (h : DataW.Trod enc Try.prog W 0 (fun _ => true) true 44 v d p) :
    ∃ A L c, v = .slice A L.length c ∧ Nms W W.heap.size A L := by
  obtain ⟨A, n, c, rfl⟩ := okWide_slice Try.underlying44 hval
  obtain ⟨m, hm⟩ := h
  have hm' : DataW.trod enc Try.prog W 0 (fun _ => true) true m 44 [.slice A n c] = some (d, p) := hm
  rcases open_ints Try.underlying44 Try.underlying2 cellsI64 hm' with ⟨h1, _⟩ | ⟨a, len, cap, zs, h1, _, hl, hc, hz, _, hcell, hwf⟩
  · injection h1 with h1 _
    cases h1
    exact ⟨none, [], 0, rfl, by simp [maxLen], fun i h => absurd h (by simp)⟩
  · injection h1 with h1 _
    cases h1
    have hzl : zs.length = c := by simpa using hz
    have htl : (zs.take n).length = n := by simp; omega
    refine ⟨some a, zs.take n, c, by rw [htl], by rw [htl]; omega, fun i hi => ?_⟩
    have hi' : i < zs.length := by rw [htl] at hi; omega
    have hc1 := hcell i hi'
    have hg : zs.getD i 0 = (zs.take n)[i] := by rw [List.getElem_take]; simp [List.getD, hi']
    rw [hg] at hc1
    have hw := wf_i64 (hwf (zs.take n)[i] (List.mem_of_mem_take (List.getElem_mem hi)))
    exact ⟨a, rfl, by have := World.block_lt_of_cell? W _ hc1; rw [add_blk] at this; exact this, hc1, hw.1, hw.2⟩
theorem infoI64n : (Try.prog.info? 2).map (fun i => (i.zero, i.size, i.bytes)) = some (some (.int .i64 0), 1, 8) := by kernel_rfl
theorem Rw.nms {w : World} {lo hi n c : Nat} {A : Option Addr} {L : List Int} (h : Rw w lo hi 2 1 (.slice A n c) L.length (L.map (Value.int .i64))) (hf : ∀ x ∈ L, -9223372036854775808 ≤ x ∧ x ≤ 9223372036854775807) : Nms w w.heap.size A L := by
  rcases h.1.2 with ⟨hv, hz⟩ | ⟨g, cap, cur, hv, hb, hg, hl, hm, hs, ht⟩
  · have : L = [] := List.eq_nil_of_length_eq_zero hz
    subst this
    cases hv
    exact ⟨by simp [maxLen], fun i h => absurd h (by simp)⟩
  · cases hv
    refine ⟨by omega, fun i hi => ?_⟩
    have hc := World.ownsRow.cells h.1 (g := g) rfl i (.int .i64 L[i]) (by simp [hi])
    have := hf _ (List.getElem_mem hi)
    exact ⟨⟨g, 0, none⟩, rfl, (Array.getElem?_eq_some_iff.1 hg).1, hc, this.1, this.2⟩

set_option maxHeartbeats 1000000 in
theorem toInt64S_any (A : Option Addr) (L : List Int) (c : Nat) (w : World) (hL : Nms w w.heap.size A L) (hn : L.length ≤ 1048576) :
    Calls Try.prog 83 #[.slice A L.length c] w fun e w' => ∃ g c', e = .returned (.slice (some ⟨g, 0, none⟩) L.length c') ∧ Rw w' w.heap.size w'.heap.size 2 1 (.slice (some ⟨g, 0, none⟩) L.length c') L.length (L.map (Value.int .i64)) ∧ Below w.heap.size w w' := by
  obtain ⟨i0, hi, hz0, hz1, hz2⟩ := info_parts infoI64n
  have hn1 : (L.length : Int) ≤ 1048576 := by omega
  go_enter Try.func83, Try.ntmps83
  go_wp2_with (at_make; refine wpList_make_full _ rfl _ _ 44 rfl w.heap.size 2 i0 (.int .i64 0) 1 Try.underlying44 hi hz0 hz1 _ _ _ _ L.length rfl rfl rfl rfl (by rw [hz2]; omega) (by unfold maxLen; omega) (Nat.le_refl _) ?_; intro w1 hrow hg1)
  have hrow' : w1.ownsRow w.heap.size 2 1 (.slice (some ⟨w.heap.size, 0, none⟩) L.length L.length) L.length ((List.replicate L.length 0).map (Value.int .i64)) := by
    have h2 := hrow
    rw [show (Value.int .i64 0).cells = #[.int .i64 0] from rfl, toList_madeCells_one, Nat.mul_one] at h2
    simpa using h2
  clear hrow
  have hb0 : Below w.heap.size w w1 := ⟨hg1.os, hg1.tape, hg1.output, hg1.size, fun k hk => hg1.block k hk (by simp)⟩
  go_loopw [4] (fun i wr => ∃ k : Nat, k ≤ L.length ∧ i = .int .i64 k ∧ wr.ownsRow w.heap.size 2 1 (.slice (some ⟨w.heap.size, 0, none⟩) L.length L.length) L.length ((L.take k ++ List.replicate (L.length - k) 0).map (Value.int .i64)) ∧ Below w.heap.size w wr) (fun i _ => L.length - (intOf i).toNat)
  case atStart => exact ⟨0, by omega, rfl, by simpa using hrow', hb0⟩
  case round =>
    obtain ⟨k, hk, rfl, hr, hb⟩ := hrel
    by_cases hlt : k < L.length
    · obtain ⟨a, rfl, hab, c0, _⟩ := (hL.below hb (Nat.le_refl _)).2 k hlt
      obtain ⟨u1, d0⟩ := row_cell hr (j := k) (by omega)
      have f0 := hr.frozenAt k
      have hp := (hr.stored k (.int .i64 L[k])).1
      rw [← List.map_set, take_put L 0 hlt] at hp
      have hlt' : (k : Int) < (L.length : Int) := by omega
      go_wp2
      exact ⟨⟨k + 1, by omega, by go_num, hp, hb.setCell (Nat.le_refl _) _⟩, by simp [intOf]; omega⟩
    · obtain rfl : k = L.length := by omega
      go_wp2
      go_ret
      rw [List.take_of_length_le (Nat.le_refl _), Nat.sub_self, List.replicate_zero, List.append_nil] at hr
      exact ⟨_, _, rfl, Rw.of hr, hb⟩

set_option maxHeartbeats 1000000 in
theorem eqInt64S_same (A B : Option Addr) (L : List Int) (c d : Nat) (w : World) (hA : Nms w w.heap.size A L) (hB : Nms w w.heap.size B L) :
    Calls Try.prog 85 #[.slice A L.length c, .slice B L.length d] w fun e w' => e = .returned (.bool true) ∧ Below w.heap.size w w' := by
  have hn := hA.1
  unfold maxLen at hn
  go_enter Try.func85, Try.ntmps85
  go_wp2
  go_loopw [5] (fun i wr => ∃ k : Nat, k ≤ L.length ∧ i = .int .i64 k ∧ Below w.heap.size w wr) (fun i _ => L.length - (intOf i).toNat)
  case atStart => exact ⟨0, by omega, rfl, Below.refl _ _⟩
  case round =>
    obtain ⟨k, hk, rfl, hb⟩ := hrel
    by_cases hlt : k < L.length
    · obtain ⟨a, rfl, hab, a0, _⟩ := (hA.below hb (Nat.le_refl _)).2 k hlt
      obtain ⟨b, rfl, hbb, b0, _⟩ := (hB.below hb (Nat.le_refl _)).2 k hlt
      have hlt' : (k : Int) < (L.length : Int) := by omega
      go_wp2
      go_quiet (fail)
      go_wp2
      exact ⟨⟨k + 1, by omega, by go_num, below_drewN hb _⟩, by simp [intOf]; omega⟩
    · obtain rfl : k = L.length := by omega
      go_wp2
      go_ret
      exact ⟨rfl, hb⟩

end Go.Proofs.Ytjnbhppnchmeoaa

namespace Go.Proofs.Ytjnbhppnchmeoaa
open Go.RowKit
set_option linter.unusedVariables false

theorem l03Is_any (n a b : Int) (w : World) : Calls Try.prog 69 #[.int .i64 n, .int .i64 a, .int .i64 b] w fun e w' => e = .returned (.bool (decide (a ≤ n) && decide (n ≤ b))) ∧ w' = w := by
  by_cases h : a ≤ n
  · go_enter Try.func69, Try.ntmps69
    go_wp2
    go_ret
    simp [h]
  · go_enter Try.func69, Try.ntmps69
    go_wp2
    go_ret
    have h' : n < a := by omega
    simp
    intro h2
    omega
end Go.Proofs.Ytjnbhppnchmeoaa

namespace Go.Proofs.Ytjnbhppnchmeoaa
open Go.RowKit
set_option linter.unusedVariables false

/-- Do the numbers rise from one above last, all of replicas? -/
def qr (last : Int) : List Int → Bool
  | [] => true
  | r :: t => decide (last < r ∧ 0 ≤ r ∧ r ≤ 3) && qr r t
/-- What QuorumRight answers. -/
def quorum (L : List Int) : Bool := qr (-1) L && decide (3 ≤ L.length)
theorem qr_end {L : List Int} {k : Nat} {last : Int} (h : L.length ≤ k) : qr last (L.drop k) = true := by rw [List.drop_eq_nil_of_le h]; rfl
theorem qr_bad {L : List Int} {k : Nat} {last : Int} (h : k < L.length) (hb : ¬ (last < L[k] ∧ 0 ≤ L[k] ∧ L[k] ≤ 3)) : qr last (L.drop k) = false := by
  rw [List.drop_eq_getElem_cons h]; unfold qr; rw [decide_eq_false hb]; rfl
theorem qr_next {L : List Int} {k : Nat} {last : Int} (h : k < L.length) (hb : last < L[k] ∧ 0 ≤ L[k] ∧ L[k] ≤ 3) : qr last (L.drop k) = qr L[k] (L.drop (k + 1)) := by
  rw [List.drop_eq_getElem_cons h]; conv => lhs; unfold qr
  rw [decide_eq_true hb, Bool.true_and]
/-- The quorums. -/
def five : List (List Int) := [[0, 1, 2], [0, 1, 3], [0, 2, 3], [1, 2, 3], [0, 1, 2, 3]]
theorem quorum_five {L : List Int} (h : quorum L = true) : L ∈ five := by
  unfold quorum at h
  rw [Bool.and_eq_true, decide_eq_true_eq] at h
  obtain ⟨h, hl⟩ := h
  match L, hl with
  | [a, b, c], _ =>
    simp only [qr, Bool.and_eq_true, decide_eq_true_eq, and_true] at h
    obtain ⟨h1, h2, h3⟩ := h
    rcases (show (a = 0 ∧ b = 1 ∧ c = 2) ∨ (a = 0 ∧ b = 1 ∧ c = 3) ∨ (a = 0 ∧ b = 2 ∧ c = 3) ∨ (a = 1 ∧ b = 2 ∧ c = 3) by omega) with ⟨rfl, rfl, rfl⟩ | ⟨rfl, rfl, rfl⟩ | ⟨rfl, rfl, rfl⟩ | ⟨rfl, rfl, rfl⟩ <;> decide
  | [a, b, c, d], _ =>
    simp only [qr, Bool.and_eq_true, decide_eq_true_eq, and_true] at h
    obtain ⟨h1, h2, h3, h4⟩ := h
    obtain ⟨rfl, rfl, rfl, rfl⟩ : a = 0 ∧ b = 1 ∧ c = 2 ∧ d = 3 := by omega
    decide
  | a :: b :: c :: d :: e :: _, _ =>
    simp only [qr, Bool.and_eq_true, decide_eq_true_eq] at h
    omega
/-- How often a number stands in a list. -/
def cnt1 (a : Int) (Q : List Int) : Nat := (Q.filter fun b => decide (a = b)).length
/-- How many pairs of two lists are equal. -/
def cnt2 (P Q : List Int) : Nat := (P.map fun a => cnt1 a Q).sum
theorem cnt1_step {a : Int} {Q : List Int} {j : Nat} (h : j < Q.length) : cnt1 a (Q.take (j + 1)) = cnt1 a (Q.take j) + (if a = Q[j] then 1 else 0) := by
  unfold cnt1; rw [List.take_succ_eq_append_getElem h, List.filter_append, List.length_append]
  by_cases e : a = Q[j] <;> simp [e]
theorem cnt2_step {P Q : List Int} {i : Nat} (h : i < P.length) : cnt2 (P.take (i + 1)) Q = cnt2 (P.take i) Q + cnt1 P[i] Q := by
  unfold cnt2; rw [List.take_succ_eq_append_getElem h, List.map_append, List.sum_append]; simp
theorem cnt1_le (a : Int) (Q : List Int) : cnt1 a Q ≤ Q.length := List.length_filter_le _ _
theorem cnt2_le (P Q : List Int) : cnt2 P Q ≤ P.length * Q.length := by
  unfold cnt2
  induction P with
  | nil => simp
  | cons a P ih => have := cnt1_le a Q; simp only [List.map_cons, List.sum_cons, List.length_cons, Nat.add_mul, Nat.one_mul]; omega
theorem two_share : ∀ P ∈ five, ∀ Q ∈ five, 2 ≤ cnt2 P Q := by decide
theorem quorums_share {P Q : List Int} (h : quorum P = true) (g : quorum Q = true) : 2 ≤ cnt2 P Q := two_share P (quorum_five h) Q (quorum_five g)
end Go.Proofs.Ytjnbhppnchmeoaa
