/- Places in memory, and rows of a call, whatever they hold. Rows that calls have made, told by where they lie: what is written into one leaves the others as they are. A region that draws its order, whose operations only read, and whose callees keep what is known of the world (they may make memory): one walk, over a class of worlds. Slices of int64 as the exact laws use them. -/
import Derived.Test.YtodnmbppgjbpmaaBlkW
import Derived.Deep.Slices
import Derived.Deep.Fields
import Derived.OwnWalk
import Derived.BigQuiet
import Derived.WideShapes
import Derived.ChangeSlices
namespace Go.Proofs.Ytodnmbppgjbpmaa
open Go.RowKit
set_option linter.unusedVariables false

theorem add_blk (a : Addr) (n : Nat) : (a.add n).block = a.block := by unfold Addr.add; split <;> rfl
theorem add_none (g off i : Nat) : (⟨g, off, none⟩ : Addr).add i = ⟨g, off + i, none⟩ := by
  unfold Addr.add
  split
  · rename_i h; subst h; rfl
  · rfl
theorem cellsStr : Try.prog.cellsOf 9 = 1 := by kernel_rfl
theorem cellsI64 : Try.prog.cellsOf 2 = 1 := by kernel_rfl
theorem ofNat_add (a : Addr) (i j : Nat) : (a.add i).add j = a.add (i + j) := Go.Deep.add_add a i j
theorem add_far (a : Addr) (n m : Nat) : (⟨(a.add n).block, (a.add n).off + (m + 1), none⟩ : Addr) = a.add (n + (m + 1)) := by
  rw [← ofNat_add]; rfl
theorem grown_none {w w' : World} {B : Nat} (hb : Below B w w') (hB : w.heap.size ≤ B) : w.grownBy w' none := ⟨hb.os, hb.tape, hb.output, hb.size, fun k hk _ => hb.block k (by omega)⟩
theorem row_below {w w' : World} {B base n size : Nat} {e : TypeId} {v : Value} {xs : List Value} (h : w.ownsRow base e size v n xs) (hb : Below B w w') (hB : w.heap.size ≤ B) : w'.ownsRow base e size v n xs :=
  h.kept (grown_none hb hB) (by cases v.ownBlock <;> simp)
theorem take_put {α : Type} (L : List α) (z : α) {k : Nat} (h : k < L.length) : (L.take k ++ List.replicate (L.length - k) z).set k L[k] = L.take (k + 1) ++ List.replicate (L.length - (k + 1)) z := by
  rw [List.set_append_right _ _ (by simp; omega)]
  simp only [List.length_take, show k - min k L.length = 0 by omega, show L.length - k = (L.length - (k + 1)) + 1 by omega, List.replicate_succ, List.set_cons_zero]
  rw [List.take_succ_eq_append_getElem h, List.append_assoc]
  rfl
theorem row_far {w : World} {base n size : Nat} {e : TypeId} {v : Value} {xs : List Value} (h : w.ownsRow base e size v n xs) {p : Addr} (hp : p.block < base) (u : Value) : (w.setCell p u).ownsRow base e size v n xs :=
  h.kept (row := some p.block) ⟨rfl, rfl, rfl, by simp [World.setCell], fun k _ hne => Below.heap_setCell w p u k (fun e => hne (by rw [e]))⟩ (.inr fun e => by have := (h.lt _ e).1; omega)
theorem own_base {w : World} {base base' n size : Nat} {e : TypeId} {v : Value} {xs : List Value} (h : w.ownsRow base e size v n xs) (hb : base' ≤ base) : w.ownsRow base' e size v n xs := by
  obtain ⟨h0, h1⟩ := h
  refine ⟨h0, ?_⟩
  rcases h1 with h1 | ⟨g, cap, cur, r1, r2, r3⟩
  · exact .inl h1
  · exact .inr ⟨g, cap, cur, r1, by omega, r3⟩
end Go.Proofs.Ytodnmbppgjbpmaa

namespace Go.Proofs.Ytodnmbppgjbpmaa
open Go.RowKit
set_option linter.unusedVariables false

/-- A row of the call's own, between block lo and block hi. -/
def Rw (w : World) (lo hi : Nat) (e : TypeId) (size : Nat) (v : Value) (n : Nat) (xs : List Value) : Prop := w.ownsRow lo e size v n xs ∧ ∀ k, v.ownBlock = some k → k < hi
section
variable {w w' : World} {lo hi : Nat} {e : TypeId} {size : Nat} {v : Value} {n : Nat} {xs : List Value}
theorem Rw.of (h : w.ownsRow lo e size v n xs) : Rw w lo w.heap.size e size v n xs := ⟨h, fun k hk => (h.lt k hk).2⟩
theorem Rw.below (h : Rw w lo hi e size v n xs) (hb : Below w.heap.size w w') : Rw w' lo hi e size v n xs := ⟨row_below h.1 hb (Nat.le_refl _), h.2⟩
theorem Rw.at (h : Rw w lo hi e size v n xs) : ∀ k, v.ownBlock = some k → lo ≤ k ∧ k < hi := fun k hk => ⟨(h.1.lt k hk).1, h.2 k hk⟩
theorem Rw.far (h : Rw w lo hi e size v n xs) {row : Option Nat} (hg : w.grownBy w' row) {lo' hi' : Nat} (hr : ∀ k, row = some k → lo' ≤ k ∧ k < hi') (ho : hi ≤ lo' ∨ hi' ≤ lo) : Rw w' lo hi e size v n xs :=
  ⟨h.1.kept hg (by
    cases hv : v.ownBlock with
    | none => exact .inl rfl
    | some k =>
      refine .inr fun hk => ?_
      have h1 := h.at k hv
      have h2 := hr k hk.symm
      omega), h.2⟩
theorem Blk.off {g : Nat} {t : TypeId} {cs : List Value} (h : Blk w g t cs) {row : Option Nat} (hg : w.grownBy w' row) {lo' hi' : Nat} (hr : ∀ k, row = some k → lo' ≤ k ∧ k < hi') (ho : g < lo' ∨ hi' ≤ g) : Blk w' g t cs :=
  h.grown hg fun e => by have := hr g e.symm; omega
theorem below_off {B : Nat} {a : World} (h : Below B a w) {row : Option Nat} (hg : w.grownBy w' row) {lo' hi' : Nat} (hr : ∀ k, row = some k → lo' ≤ k ∧ k < hi') (ho : B ≤ lo') (hB : B ≤ a.heap.size) : Below B a w' :=
  h.grown hg (Nat.le_trans hB h.size) fun k e => by have := hr k e; omega
end
theorem own_blk (A : Option Addr) (n c : Nat) : (Value.slice A n c).ownBlock = A.map (·.block) := by cases A <;> rfl
theorem Rw.atA {w : World} {lo hi n m c size : Nat} {e : TypeId} {A : Option Addr} {xs : List Value} (h : Rw w lo hi e size (.slice A m c) n xs) : ∀ k, A.map (·.block) = some k → lo ≤ k ∧ k < hi := by
  rw [← own_blk A m c]; exact h.at
theorem Rw.capL {w : World} {lo hi n c : Nat} {e : TypeId} {size m : Nat} {a : Addr} {xs : List Value} (h : Rw w lo hi e size (.slice (some a) n c) m xs) : m ≤ c ∧ c ≤ maxLen := by
  rcases h.1.2 with ⟨hv, _⟩ | ⟨g, cap, cur, hv, hb, hg, hl, hm, _⟩
  · cases hv
  · cases hv; exact ⟨hl, hm⟩
end Go.Proofs.Ytodnmbppgjbpmaa

namespace Go.Proofs.Ytodnmbppgjbpmaa
open Go.RowKit
set_option linter.unusedVariables false

/-- A class of worlds, told by a map from some type. -/
theorem class_of (S : World → Prop) : ∃ (I : Type) (f : I → World), ∀ W, (∃ s, W = f s) ↔ S W :=
  ⟨{ W : World // S W }, Subtype.val, fun W => ⟨fun ⟨s, e⟩ => e ▸ s.2, fun h => ⟨⟨W, h⟩, rfl⟩⟩⟩

theorem wp_region_kept {P : Program} {id : Nat} {Q : Exit → Act → World → Prop} {a : Act} {w : World} {l : List Oper} {I : Type} (f : I → World) (hm : P.follows .mixedOrders = true) (hB : Region.lexB .any l.toArray = true) (h0 : ∃ s, w.drew = f s)
    (h : wpQuiet P l.toArray (fun w' => ∃ s, w' = f s) (fun a' => ∀ w', (∃ s, w' = f s) → Q .normal a' w') l a) : (Code.region id l.toArray true).wp P Q a w :=
  wp_region_quiet (C := fun w' => ∃ s, w' = f s) hm hB h0 (by simpa using h)

/-- The worlds that come of w by making memory. -/
theorem class_grown (w : World) : ∃ (I : Type) (f : I → World), Nonempty I ∧ (∃ s, w.drew = f s) ∧ (∀ s, Below w.heap.size w (f s)) ∧ (∀ s W', Below (f s).heap.size (f s) W' → ∃ s', W' = f s') ∧ (∀ W, (∃ s, W = f s) → Below w.heap.size w W) := by
  obtain ⟨I, f, hf⟩ := class_of (fun W => Below w.heap.size w W)
  have h0 : ∃ s, w.drew = f s := (hf _).2 (below_drew (Below.refl _ _))
  exact ⟨I, f, ⟨h0.choose⟩, h0, fun s => (hf _).1 ⟨s, rfl⟩, fun s W' h => (hf _).2 (((hf _).1 ⟨s, rfl⟩).trans (h.mono ((hf _).1 ⟨s, rfl⟩).size)), fun W h => (hf _).1 h⟩
theorem kept_cell {w W : World} {a : Addr} {v : Value} (h : Below w.heap.size w W) (hc : w.cell? a = some v) : W.cell? a = some v := by
  rw [← hc]; exact World.cell?_of_block (h.block _ (World.block_lt_of_cell? w a hc))
theorem row_off {w : World} {base n size : Nat} {e : TypeId} {v : Value} {xs : List Value} (h : w.ownsRow base e size v n xs) {p : Addr} (hp : v.ownBlock ≠ some p.block) (u : Value) : (w.setCell p u).ownsRow base e size v n xs :=
  h.kept (row := some p.block) ⟨rfl, rfl, rfl, by simp [World.setCell], fun k _ hne => Below.heap_setCell w p u k (fun e => hne (by rw [e]))⟩ (.inr hp)
theorem cell_put_far {w : World} {a p : Addr} {v : Value} (h : w.cell? a = some v) (hne : a.block ≠ p.block) (u : Value) : (w.setCell p u).cell? a = some v := by
  rw [← h]; exact World.cell?_of_block (Below.heap_setCell w p u _ hne)
theorem row_cell {w : World} {base g n c size : Nat} {e : TypeId} {xs : List Value} (h : w.ownsRow base e size (.slice (some ⟨g, 0, none⟩) n c) n xs) {j : Nat} (hj : j < n * size) : ∃ u, w.cell? ⟨g, j, none⟩ = some u := by
  have hl := h.1
  exact ⟨xs[j]'(by omega), by rw [h.cellAt j hj, List.getElem?_eq_getElem]⟩

end Go.Proofs.Ytodnmbppgjbpmaa

namespace Go.Proofs.Ytodnmbppgjbpmaa
open Go.RowKit Go.ChangeShapes Go.WideShapes
set_option linter.unusedVariables false
set_option maxRecDepth 1000000

/-- The numbers of a slice, below block B. -/
def Nms (w : World) (B : Nat) (A : Option Addr) (L : List Int) : Prop :=
  L.length ≤ maxLen ∧ ∀ i (h : i < L.length), ∃ a, A = some a ∧ a.block < B ∧ w.cell? (a.add i) = some (.int .i64 L[i]) ∧ -9223372036854775808 ≤ L[i] ∧ L[i] ≤ 9223372036854775807
theorem Nms.below {w w' : World} {B C : Nat} {A : Option Addr} {L : List Int} (h : Nms w B A L) (hb : Below C w w') (hC : B ≤ C) : Nms w' B A L :=
  ⟨h.1, fun i hi => by
    obtain ⟨a, e, h1, h2, h3⟩ := h.2 i hi
    exact ⟨a, e, h1, by rw [World.cell?_of_block (a := a.add _) (hb.block _ (by rw [add_blk]; omega))]; exact h2, h3⟩⟩
theorem Nms.mono {w : World} {B B' : Nat} {A : Option Addr} {L : List Int} (h : Nms w B A L) (hb : B ≤ B') : Nms w B' A L :=
  ⟨h.1, fun i hi => by
    obtain ⟨a, e, h1, h2⟩ := h.2 i hi
    exact ⟨a, e, by omega, h2⟩⟩
theorem ints_arg {H : Type} {enc : TypeId × Value → H} {W : World} {r : Reach} {b0 : Nat} {v : Value} {d : DataW H} {p : List MemPlace} (hval : Value.okWide Try.prog W r b0 24 v) (h : DataW.Trod enc Try.prog W 0 (fun _ => true) true 24 v d p) :
    ∃ A L c, v = .slice A L.length c ∧ Nms W W.heap.size A L := by
  obtain ⟨A, n, c, rfl⟩ := okWide_slice Try.underlying24 hval
  obtain ⟨m, hm⟩ := h
  have hm' : DataW.trod enc Try.prog W 0 (fun _ => true) true m 24 [.slice A n c] = some (d, p) := hm
  rcases open_ints Try.underlying24 Try.underlying2 cellsI64 hm' with ⟨h1, _⟩ | ⟨a, len, cap, zs, h1, _, hl, hc, hz, _, hcell, hwf⟩
  · injection h1 with h1 _
    cases h1
    exact ⟨none, [], 0, rfl, by simp [maxLen], fun i h => absurd h (by simp)⟩
  · injection h1 with h1 _
    cases h1
    have hzl : zs.length = c := by simpa using hz
    have htl : (zs.take n).length = n := by simp; omega
    refine ⟨some a, zs.take n, c, by rw [htl], by rw [htl]; omega, fun i hi => ?_⟩
    have hi' : i < zs.length := by rw [htl] at hi; omega
    have hc1 := hcell i hi'
    have hg : zs.getD i 0 = (zs.take n)[i] := by rw [List.getElem_take]; simp [List.getD, hi']
    rw [hg] at hc1
    have hw := wf_i64 (hwf (zs.take n)[i] (List.mem_of_mem_take (List.getElem_mem hi)))
    exact ⟨a, rfl, by have := World.block_lt_of_cell? W _ hc1; rw [add_blk] at this; exact this, hc1, hw.1, hw.2⟩
theorem infoI64 : (Try.prog.info? 2).map (fun i => (i.zero, i.size, i.bytes)) = some (some (.int .i64 0), 1, 8) := by kernel_rfl
theorem Rw.nms {w : World} {lo hi n c : Nat} {A : Option Addr} {L : List Int} (h : Rw w lo hi 2 1 (.slice A n c) L.length (L.map (Value.int .i64))) (hf : ∀ x ∈ L, -9223372036854775808 ≤ x ∧ x ≤ 9223372036854775807) : Nms w w.heap.size A L := by
  rcases h.1.2 with ⟨hv, hz⟩ | ⟨g, cap, cur, hv, hb, hg, hl, hm, hs, ht⟩
  · have : L = [] := List.eq_nil_of_length_eq_zero hz
    subst this
    cases hv
    exact ⟨by simp [maxLen], fun i h => absurd h (by simp)⟩
  · cases hv
    refine ⟨by omega, fun i hi => ?_⟩
    have hc := World.ownsRow.cells h.1 (g := g) rfl i (.int .i64 L[i]) (by simp [hi])
    have := hf _ (List.getElem_mem hi)
    exact ⟨⟨g, 0, none⟩, rfl, (Array.getElem?_eq_some_iff.1 hg).1, hc, this.1, this.2⟩

set_option maxHeartbeats 1000000 in
theorem toInt64S_any (A : Option Addr) (L : List Int) (c : Nat) (w : World) (hL : Nms w w.heap.size A L) (hn : L.length ≤ 1048576) :
    Calls Try.prog 12 #[.slice A L.length c] w fun e w' => ∃ g c', e = .returned (.slice (some ⟨g, 0, none⟩) L.length c') ∧ Rw w' w.heap.size w'.heap.size 2 1 (.slice (some ⟨g, 0, none⟩) L.length c') L.length (L.map (Value.int .i64)) ∧ Below w.heap.size w w' := by
  obtain ⟨i0, hi, hz0, hz1, hz2⟩ := info_parts infoI64
  have hn1 : (L.length : Int) ≤ 1048576 := by omega
  go_enter Try.func12, Try.ntmps12
  go_wp2_with (at_make; refine wpList_make_full _ rfl _ _ 24 rfl w.heap.size 2 i0 (.int .i64 0) 1 Try.underlying24 hi hz0 hz1 _ _ _ _ L.length rfl rfl rfl rfl (by rw [hz2]; omega) (by unfold maxLen; omega) (Nat.le_refl _) ?_; intro w1 hrow hg1)
  have hrow' : w1.ownsRow w.heap.size 2 1 (.slice (some ⟨w.heap.size, 0, none⟩) L.length L.length) L.length ((List.replicate L.length 0).map (Value.int .i64)) := by
    have h2 := hrow
    rw [show (Value.int .i64 0).cells = #[.int .i64 0] from rfl, toList_madeCells_one, Nat.mul_one] at h2
    simpa using h2
  clear hrow
  have hb0 : Below w.heap.size w w1 := ⟨hg1.os, hg1.tape, hg1.output, hg1.size, fun k hk => hg1.block k hk (by simp)⟩
  go_loopw [4] (fun i wr => ∃ k : Nat, k ≤ L.length ∧ i = .int .i64 k ∧ wr.ownsRow w.heap.size 2 1 (.slice (some ⟨w.heap.size, 0, none⟩) L.length L.length) L.length ((L.take k ++ List.replicate (L.length - k) 0).map (Value.int .i64)) ∧ Below w.heap.size w wr) (fun i _ => L.length - (intOf i).toNat)
  case atStart => exact ⟨0, by omega, rfl, by simpa using hrow', hb0⟩
  case round =>
    obtain ⟨k, hk, rfl, hr, hb⟩ := hrel
    by_cases hlt : k < L.length
    · obtain ⟨a, rfl, hab, c0, _⟩ := (hL.below hb (Nat.le_refl _)).2 k hlt
      obtain ⟨u1, d0⟩ := row_cell hr (j := k) (by omega)
      have f0 := hr.frozenAt k
      have hp := (hr.stored k (.int .i64 L[k])).1
      rw [← List.map_set, take_put L 0 hlt] at hp
      have hlt' : (k : Int) < (L.length : Int) := by omega
      go_wp2
      exact ⟨⟨k + 1, by omega, by go_num, hp, hb.setCell (Nat.le_refl _) _⟩, by simp [intOf]; omega⟩
    · obtain rfl : k = L.length := by omega
      go_wp2
      go_ret
      rw [List.take_of_length_le (Nat.le_refl _), Nat.sub_self, List.replicate_zero, List.append_nil] at hr
      exact ⟨_, _, rfl, Rw.of hr, hb⟩

set_option maxHeartbeats 1000000 in
theorem eqInt64S_same (A B : Option Addr) (L : List Int) (c d : Nat) (w : World) (hA : Nms w w.heap.size A L) (hB : Nms w w.heap.size B L) :
    Calls Try.prog 14 #[.slice A L.length c, .slice B L.length d] w fun e w' => e = .returned (.bool true) ∧ Below w.heap.size w w' := by
  have hn := hA.1
  unfold maxLen at hn
  go_enter Try.func14, Try.ntmps14
  go_wp2
  go_loopw [5] (fun i wr => ∃ k : Nat, k ≤ L.length ∧ i = .int .i64 k ∧ Below w.heap.size w wr) (fun i _ => L.length - (intOf i).toNat)
  case atStart => exact ⟨0, by omega, rfl, Below.refl _ _⟩
  case round =>
    obtain ⟨k, hk, rfl, hb⟩ := hrel
    by_cases hlt : k < L.length
    · obtain ⟨a, rfl, hab, a0, _⟩ := (hA.below hb (Nat.le_refl _)).2 k hlt
      obtain ⟨b, rfl, hbb, b0, _⟩ := (hB.below hb (Nat.le_refl _)).2 k hlt
      have hlt' : (k : Int) < (L.length : Int) := by omega
      go_wp2
      go_quiet (fail)
      go_wp2
      exact ⟨⟨k + 1, by omega, by go_num, below_drewN hb _⟩, by simp [intOf]; omega⟩
    · obtain rfl : k = L.length := by omega
      go_wp2
      go_ret
      exact ⟨rfl, hb⟩

end Go.Proofs.Ytodnmbppgjbpmaa
