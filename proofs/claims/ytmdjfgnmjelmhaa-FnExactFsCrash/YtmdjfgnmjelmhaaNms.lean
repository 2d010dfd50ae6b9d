/- Slices of int64 as the exact laws use them. -/
import Derived.Test.YtmdjfgnmjelmhaaRowk
import Derived.ChangeSlices
namespace Go.Proofs.Ytmdjfgnmjelmhaa
open Go.RowKit Go.ChangeShapes Go.WideShapes
set_option linter.unusedVariables false

/-- The numbers of a slice, below block B. -/
def Nms (w : World) (B : Nat) (A : Option Addr) (L : List Int) : Prop :=
  L.length ≤ maxLen ∧ ∀ i (h : i < L.length), ∃ a, A = some a ∧ a.block < B ∧ w.cell? (a.add i) = some (.int .i64 L[i]) ∧ -9223372036854775808 ≤ L[i] ∧ L[i] ≤ 9223372036854775807
theorem Nms.below {w w' : World} {B C : Nat} {A : Option Addr} {L : List Int} (h : Nms w B A L) (hb : Below C w w') (hC : B ≤ C) : Nms w' B A L :=
  ⟨h.1, fun i hi => by
    obtain ⟨a, e, h1, h2, h3⟩ := h.2 i hi
    exact ⟨a, e, h1, by rw [World.cell?_of_block (a := a.add _) (hb.block _ (by rw [add_blk]; omega))]; exact h2, h3⟩⟩
theorem Nms.mono {w : World} {B B' : Nat} {A : Option Addr} {L : List Int} (h : Nms w B A L) (hb : B ≤ B') : Nms w B' A L :=
  ⟨h.1, fun i hi => by
    obtain ⟨a, e, h1, h2⟩ := h.2 i hi
    exact ⟨a, e, by omega, h2⟩⟩
theorem ints_arg {H : Type} {enc : TypeId × Value → H} {W : World} {r : Reach} {b0 : Nat} {v : Value} {d : DataW H} {p : List MemPlace} (hval : Value.okWide Try.prog W r b0 38 v) (h : DataW.Trod enc Try.prog W 0 (fun _ => true) true 38 v d p) :
    ∃ A L c, v = .slice A L.length c ∧ Nms W W.heap.size A L := by
  obtain ⟨A, n, c, rfl⟩ := okWide_slice Try.underlying38 hval
  obtain ⟨m, hm⟩ := h
  have hm' : DataW.trod enc Try.prog W 0 (fun _ => true) true m 38 [.slice A n c] = some (d, p) := hm
  rcases open_ints Try.underlying38 Try.underlying2 cellsI64 hm' with ⟨h1, _⟩ | ⟨a, len, cap, zs, h1, _, hl, hc, hz, _, hcell, hwf⟩
  · injection h1 with h1 _
    cases h1
    exact ⟨none, [], 0, rfl, by simp [maxLen], fun i h => absurd h (by simp)⟩
  · injection h1 with h1 _
    cases h1
    have hzl : zs.length = c := by simpa using hz
    have htl : (zs.take n).length = n := by simp; omega
    refine ⟨some a, zs.take n, c, by rw [htl], by rw [htl]; omega, fun i hi => ?_⟩
    have hi' : i < zs.length := by rw [htl] at hi; omega
    have hc1 := hcell i hi'
    have hg : zs.getD i 0 = (zs.take n)[i] := by rw [List.getElem_take]; simp [List.getD, hi']
    rw [hg] at hc1
    have hw := wf_i64 (hwf (zs.take n)[i] (List.mem_of_mem_take (List.getElem_mem hi)))
    exact ⟨a, rfl, by have := World.block_lt_of_cell? W _ hc1; rw [add_blk] at this; exact this, hc1, hw.1, hw.2⟩
theorem infoI64 : (Try.prog.info? 2).map (fun i => (i.zero, i.size, i.bytes)) = some (some (.int .i64 0), 1, 8) := by kernel_rfl
theorem Rw.nms {w : World} {lo hi n c : Nat} {A : Option Addr} {L : List Int} (h : Rw w lo hi 2 1 (.slice A n c) L.length (L.map (Value.int .i64))) (hf : ∀ x ∈ L, -9223372036854775808 ≤ x ∧ x ≤ 9223372036854775807) : Nms w w.heap.size A L := by
  rcases h.1.2 with ⟨hv, hz⟩ | ⟨g, cap, cur, hv, hb, hg, hl, hm, hs, ht⟩
  · have : L = [] := List.eq_nil_of_length_eq_zero hz
    subst this
    cases hv
    exact ⟨by simp [maxLen], fun i h => absurd h (by simp)⟩
  · cases hv
    refine ⟨by omega, fun i hi => ?_⟩
    have hc := World.ownsRow.cells h.1 (g := g) rfl i (.int .i64 L[i]) (by simp [hi])
    have := hf _ (List.getElem_mem hi)
    exact ⟨⟨g, 0, none⟩, rfl, (Array.getElem?_eq_some_iff.1 hg).1, hc, this.1, this.2⟩

set_option maxHeartbeats 1000000 in
theorem toInt64S_any (A : Option Addr) (L : List Int) (c : Nat) (w : World) (hL : Nms w w.heap.size A L) (hn : L.length ≤ 1048576) :
    Calls Try.prog 18 #[.slice A L.length c] w fun e w' => ∃ g c', e = .returned (.slice (some ⟨g, 0, none⟩) L.length c') ∧ Rw w' w.heap.size w'.heap.size 2 1 (.slice (some ⟨g, 0, none⟩) L.length c') L.length (L.map (Value.int .i64)) ∧ Below w.heap.size w w' := by
  obtain ⟨i0, hi, hz0, hz1, hz2⟩ := info_parts infoI64
  have hn1 : (L.length : Int) ≤ 1048576 := by omega
  go_enter Try.func18, Try.ntmps18
  go_wp2_with (at_make; refine wpList_make_full _ rfl _ _ 38 rfl w.heap.size 2 i0 (.int .i64 0) 1 Try.underlying38 hi hz0 hz1 _ _ _ _ L.length rfl rfl rfl rfl (by rw [hz2]; omega) (by unfold maxLen; omega) (Nat.le_refl _) ?_; intro w1 hrow hg1)
  have hrow' : w1.ownsRow w.heap.size 2 1 (.slice (some ⟨w.heap.size, 0, none⟩) L.length L.length) L.length ((List.replicate L.length 0).map (Value.int .i64)) := by
    have h2 := hrow
    rw [show (Value.int .i64 0).cells = #[.int .i64 0] from rfl, toList_madeCells_one, Nat.mul_one] at h2
    simpa using h2
  clear hrow
  have hb0 : Below w.heap.size w w1 := ⟨hg1.os, hg1.tape, hg1.output, hg1.size, fun k hk => hg1.block k hk (by simp)⟩
  go_loopw [4] (fun i wr => ∃ k : Nat, k ≤ L.length ∧ i = .int .i64 k ∧ wr.ownsRow w.heap.size 2 1 (.slice (some ⟨w.heap.size, 0, none⟩) L.length L.length) L.length ((L.take k ++ List.replicate (L.length - k) 0).map (Value.int .i64)) ∧ Below w.heap.size w wr) (fun i _ => L.length - (intOf i).toNat)
  case atStart => exact ⟨0, by omega, rfl, by simpa using hrow', hb0⟩
  case round =>
    obtain ⟨k, hk, rfl, hr, hb⟩ := hrel
    by_cases hlt : k < L.length
    · obtain ⟨a, rfl, hab, c0, _⟩ := (hL.below hb (Nat.le_refl _)).2 k hlt
      obtain ⟨u1, d0⟩ := row_cell hr (j := k) (by omega)
      have f0 := hr.frozenAt k
      have hp := (hr.stored k (.int .i64 L[k])).1
      rw [← List.map_set, take_put L 0 hlt] at hp
      have hlt' : (k : Int) < (L.length : Int) := by omega
      go_wp2
      exact ⟨⟨k + 1, by omega, by go_num, hp, hb.setCell (Nat.le_refl _) _⟩, by simp [intOf]; omega⟩
    · obtain rfl : k = L.length := by omega
      go_wp2
      go_ret
      rw [List.take_of_length_le (Nat.le_refl _), Nat.sub_self, List.replicate_zero, List.append_nil] at hr
      exact ⟨_, _, rfl, Rw.of hr, hb⟩

set_option maxHeartbeats 1000000 in
theorem eqInt64S_same (A B : Option Addr) (L : List Int) (c d : Nat) (w : World) (hA : Nms w w.heap.size A L) (hB : Nms w w.heap.size B L) :
    Calls Try.prog 20 #[.slice A L.length c, .slice B L.length d] w fun e w' => e = .returned (.bool true) ∧ Below w.heap.size w w' := by
  have hn := hA.1
  unfold maxLen at hn
  go_enter Try.func20, Try.ntmps20
  go_wp2
  go_loopw [5] (fun i wr => ∃ k : Nat, k ≤ L.length ∧ i = .int .i64 k ∧ Below w.heap.size w wr) (fun i _ => L.length - (intOf i).toNat)
  case atStart => exact ⟨0, by omega, rfl, Below.refl _ _⟩
  case round =>
    obtain ⟨k, hk, rfl, hb⟩ := hrel
    by_cases hlt : k < L.length
    · obtain ⟨a, rfl, hab, a0, _⟩ := (hA.below hb (Nat.le_refl _)).2 k hlt
      obtain ⟨b, rfl, hbb, b0, _⟩ := (hB.below hb (Nat.le_refl _)).2 k hlt
      have hlt' : (k : Int) < (L.length : Int) := by omega
      go_wp2
      go_quiet (fail)
      go_wp2
      exact ⟨⟨k + 1, by omega, by go_num, below_drewN hb _⟩, by simp [intOf]; omega⟩
    · obtain rfl : k = L.length := by omega
      go_wp2
      go_ret
      exact ⟨rfl, hb⟩

set_option maxHeartbeats 2000000 in
theorem markInt64S_some (g n c base k : Nat) (L : List Int) (w : World) (hR : w.ownsRow base 2 1 (.slice (some ⟨g, 0, none⟩) n c) n (L.map (Value.int .i64))) (h0 : 1 ≤ k) (h1 : k + n ≤ 8000000) :
    Calls Try.prog 21 #[.slice (some ⟨g, 0, none⟩) n c, .int .i64 k] w fun e w' => e = .returned (.int .i64 ((k + n : Nat) : Int)) ∧ w.grownBy w' (some g) := by
  have hl := hR.1
  rw [List.length_map] at hl
  have hl' : L.length = n := by omega
  clear hl
  go_enter Try.func21, Try.ntmps21
  go_wp2
  go_loopw [1, 5] (fun q i wr => ∃ (j : Nat) (xs : List Value), j ≤ n ∧ i = .int .i64 j ∧ q = .int .i64 ((k + j : Nat) : Int) ∧ wr.ownsRow base 2 1 (.slice (some ⟨g, 0, none⟩) n c) n xs ∧ w.grownBy wr (some g)) (fun _ i _ => n - (intOf i).toNat)
  case atStart => exact ⟨0, _, by omega, rfl, rfl, hR, World.grownBy.refl _ _⟩
  case round =>
    obtain ⟨j, xs, hj, rfl, rfl, hr, hg⟩ := hrel
    by_cases hlt : j < n
    · have hlt' : (j : Int) < (n : Int) := by omega
      obtain ⟨u1, c1⟩ := row_cell hr (j := j) (by omega)
      have f1 := hr.frozenAt j
      have s1 := (hr.stored j (.int .i64 ((k : Int) + (j : Int)))).1
      have t1 := gr_set hg (i := j) (.int .i64 ((k : Int) + (j : Int)))
      go_wp2
      exact ⟨⟨j + 1, _, by omega, by go_num, by go_num, s1, t1⟩, by simp [intOf]; omega⟩
    · obtain rfl : j = n := by omega
      go_wp2
      go_ret
      exact ⟨rfl, hg⟩
end Go.Proofs.Ytmdjfgnmjelmhaa
