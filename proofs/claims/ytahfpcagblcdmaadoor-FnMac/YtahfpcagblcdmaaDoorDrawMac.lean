/- The draws of the digests' law. -/
import Derived.Test.YtahfpcagblcdmaaDoorDraw
import Derived.Deep.RegionWith
namespace Go.Proofs.YtahfpcagblcdmaaDoor
open Go.RowKit
set_option linter.unusedVariables false

theorem only_undrew {w w' : World} {row : Option Nat} (h : w.drew.grownBy w' row) : w.grownBy w' row := ⟨h.os, h.tape, h.output, h.size, h.block⟩
theorem made_zero (n : Nat) : (madeCells (Value.int .u8 0).cells (n * 1)).toList = (List.replicate n (0 : Int)).map (Value.int .u8) := by
  simp [madeCells, Value.cells]
  apply List.ext_getElem?
  intro i
  by_cases h : i < n
  · simp [h, Nat.mod_one]
  · simp [h]
set_option maxHeartbeats 1600000 in
theorem drawDigest_any (A : Option Addr) (n c : Nat) (w : World) (h : Bts w w.heap.size A n) :
    Calls Tryd.prog 11 #[.slice A n c] w fun e w' => ∃ s : ByteArray, e = .returned (.string s) ∧ s.size ≤ 200 ∧ Below w.heap.size w w' := by
  go_enter Tryd.func11, Tryd.ntmps11
  go_wp2_with (first
    | (go_at_call 17; refine (source_any A n c w.heap.size _ h (Nat.le_refl _)).mono ?_; rintro e w1 ⟨g, rfl, hg, hd1, hb1⟩)
    | (go_at_call 19; refine (n_any w.heap.size g 200 _ hd1 (by omega) (by omega)).mono ?_; rintro e w2 ⟨v, rfl, v0, v1, _, hd2, ho2⟩; have v2 := v1 (by omega); clear v1)
    | (go_at_call 18; refine (bytes_any w.heap.size g v _ hd2 (by omega) (by omega)).mono ?_; rintro e w3 ⟨s, rfl, hs, hd3, ho3⟩))
  go_ret
  refine ⟨_, rfl, by rw [hs]; omega, hb1.trans (only_below (only_trans ho2 ho3) hg hb1.size)⟩

set_option maxHeartbeats 1600000 in
theorem drawMac_any (A : Option Addr) (n c : Nat) (w : World) (h : Bts w w.heap.size A n) :
    Calls Tryd.prog 7 #[.slice A n c] w fun e w' => ∃ k t : ByteArray, e = .returned (.tuple #[.string k, .string t]) ∧ k.size ≤ 100 ∧ t.size ≤ 100 ∧ Below w.heap.size w w' := by
  obtain ⟨i0, hi, hz0, hz1, hz2⟩ := info_parts infoU8
  go_enter Tryd.func7, Tryd.ntmps7
  go_wp2_with (fail)
  refine (source_any A n c w.heap.size _ h (Nat.le_refl _)).mono ?_
  rintro e w1 ⟨g, rfl, hg, hd1, hb1⟩
  go_wp2_with (fail)
  refine (n_any w.heap.size g 20 _ hd1 (by omega) (by omega)).mono ?_
  rintro e w2 ⟨v, rfl, v0, v1, _, hd2, ho2⟩
  have v2 := v1 (by omega)
  clear v1
  go_wp2_with (fail)
  refine (bytes_any w.heap.size g v _ hd2 (by omega) (by omega)).mono ?_
  rintro e w3 ⟨s, rfl, hs, hd3, ho3⟩
  have hs' : s.size ≤ 100 := by omega
  clear hs
  go_wp2_with (fail)
  refine (one_any w.heap.size g 6 _ hd3 (by omega) (by omega)).mono ?_
  rintro e w4 ⟨b, rfl, hd4, ho4⟩
  have ho5 := only_trans ho2 (only_trans ho3 ho4)
  have hb4 := hb1.trans (only_below ho5 hg hb1.size)
  clear ho2 ho3 ho4 hd1 hd2 hd3 ho5
  cases b
  · go_wp2_with (fail)
    refine (n_any w.heap.size g 100 _ hd4 (by omega) (by omega)).mono ?_
    rintro e w5 ⟨y, rfl, y0, y1, _, hd5, ho5⟩
    have y2 := y1 (by omega)
    clear y1
    go_wp2_with (fail)
    refine (bytes_any w.heap.size g y _ hd5 (by omega) (by omega)).mono ?_
    rintro e w6 ⟨t, rfl, ht, hd6, ho6⟩
    go_wp2
    go_ret2
    exact ⟨_, _, rfl, hs', by rw [ht]; omega, hb4.trans (only_below (only_trans ho5 ho6) hg hb4.size)⟩
  · go_wp2_with (fail)
    refine (n_any w.heap.size g 3 _ hd4 (by omega) (by omega)).mono ?_
    rintro e w5 ⟨y, rfl, y0, y1, _, hd5, ho5⟩
    have y2 := y1 (by omega)
    clear y1
    have hY : 63 + y = ((63 + y.toNat : Nat) : Int) := by omega
    have HY := Lib.hid hY
    clear hY
    have hb5 := hb4.trans (only_below ho5 hg hb4.size)
    have hsz5 := hb5.size
    go_wp2_with (at_make; refine wpList_make_full _ rfl _ _ 22 rfl w5.heap.size 5 i0 (.int .u8 0) 1 Tryd.underlying22 hi hz0 hz1 _ _ _ _ (63 + y.toNat) rfl rfl HY.out HY.out (by rw [hz2]; omega) (by unfold maxLen; omega) (Nat.le_refl _) ?_; intro w6 hown6 hgrow6; rw [made_zero] at hown6; have hcv := own_string hown6; have hb6 : Below w5.heap.size w5 w6 := (Below.refl _ _).grown hgrow6 (Nat.le_refl _) (fun k e => by cases e))
    have hd6 := hd5.below hb6
    have hb7 := hb5.trans (hb6.mono hsz5)
    have hss : (strOfNums (List.replicate (63 + y.toNat) 0)).size ≤ 100 := by rw [strOfNums_size]; simp; omega
    refine (n_any w.heap.size g 100 _ hd6 (by omega) (by omega)).mono ?_
    rintro e w7 ⟨x, rfl, x0, x1, _, hd7, ho7⟩
    have x2 := x1 (by omega)
    clear x1
    go_wp2_with (fail)
    refine (bytes_any w.heap.size g x _ hd7 (by omega) (by omega)).mono ?_
    rintro e w8 ⟨t, rfl, ht, hd8, ho8⟩
    go_wp2
    go_ret2
    exact ⟨_, _, rfl, hss, by rw [ht]; omega, hb7.trans (only_below (only_trans ho7 ho8) hg hb7.size)⟩

set_option maxHeartbeats 1600000 in
theorem drawStretch_any (A : Option Addr) (n c : Nat) (w : World) (h : Bts w w.heap.size A n) :
    Calls Tryd.prog 12 #[.slice A n c] w fun e w' => ∃ (s : ByteArray) (v : Int), e = .returned (.tuple #[.string s, .int .i64 v]) ∧ s.size ≤ 100 ∧ -9223372036854775808 ≤ v ∧ v ≤ 9223372036854775807 ∧ Below w.heap.size w w' := by
  go_enter Tryd.func12, Tryd.ntmps12
  go_wp2_with (fail)
  refine (source_any A n c w.heap.size _ h (Nat.le_refl _)).mono ?_
  rintro e w1 ⟨g, rfl, hg, hd1, hb1⟩
  go_wp2_with (fail)
  refine (n_any w.heap.size g 9 _ hd1 (by omega) (by omega)).mono ?_
  rintro e w2 ⟨v, rfl, v0, v1, _, hd2, ho2⟩
  have v2 := v1 (by omega)
  clear v1
  go_wp2_with (fail)
  refine (bytes_any w.heap.size g v _ hd2 (by omega) (by omega)).mono ?_
  rintro e w3 ⟨s, rfl, hs, hd3, ho3⟩
  have hs' : s.size ≤ 100 := by omega
  clear hs
  go_wp2_with (fail)
  refine (one_any w.heap.size g 6 _ hd3 (by omega) (by omega)).mono ?_
  rintro e w4 ⟨b, rfl, hd4, ho4⟩
  have ho5 := only_trans ho2 (only_trans ho3 ho4)
  have hb4 := hb1.trans (only_below ho5 hg hb1.size)
  clear ho2 ho3 ho4 hd1 hd2 hd3 ho5
  cases b
  · go_wp2_with (fail)
    refine (n_any w.heap.size g 9 _ hd4 (by omega) (by omega)).mono ?_
    rintro e w5 ⟨y, rfl, y0, y1, _, hd5, ho5⟩
    have y2 := y1 (by omega)
    clear y1
    go_wp2
    go_ret2
    exact ⟨_, _, rfl, hs', by omega, by omega, hb4.trans (only_below ho5 hg hb4.size)⟩
  · go_wp2_with (fail)
    go_region_with (first
      | (go_at_call 24; refine (edge_any w.heap.size g w4.drew hd4.drew).mono ?_; rintro e w5 ⟨y, rfl, y0, y1, hd5, ho5⟩)
      | (go_at_call 19; ((with_reducible refine (n_any w.heap.size g 5 w5 hd5 (by omega) (by omega)).mono ?_); rintro e w6 ⟨x, rfl, x0, x1, _, hd6, ho6⟩; have x2 := x1 (by omega); clear x1))
      | (go_at_call 19; ((with_reducible refine (n_any w.heap.size g 5 (w5.alloc _) (hd5.alloc _) (by omega) (by omega)).mono ?_); rintro e w6 ⟨x, rfl, x0, x1, _, hd6, ho6⟩; have x2 := x1 (by omega); clear x1; obtain ⟨z, hz, hzc⟩ := pick_cell [0, 1, 100, 101, y] 2 ho6 hd5.lt.2.1 x0 x2)))
    · have hr : -9223372036854775808 ≤ z ∧ z ≤ 9223372036854775807 := by simp at hz; omega
      go_wp2
      go_ret2
      have hb5 := hb4.trans (only_below (only_trans (only_undrew ho5) (only_trans (World.grownBy_alloc w5 _ _) ho6)) hg hb4.size)
      exact ⟨_, _, rfl, hs', hr.1, hr.2, hb5⟩
    · obtain ⟨z, hz, hzc⟩ : ∃ z : Int, z ∈ [0, 1, 100, 101, y] ∧ [Value.int .i64 0, .int .i64 1, .int .i64 100, .int .i64 101, .int .i64 y][x.toNat]'(by simp; omega) = .int .i64 z :=
        ⟨[0, 1, 100, 101, y][x.toNat]'(by simp; omega), List.getElem_mem _, List.getElem_map (Value.int .i64) (l := [0, 1, 100, 101, y]) (h := by simp; omega)⟩
      have hr : -9223372036854775808 ≤ z ∧ z ≤ 9223372036854775807 := by simp at hz; omega
      rw [hzc]
      go_wp2
      go_ret2
      have hb5 := hb4.trans (only_below (only_trans (only_undrew ho5) (only_trans ho6 (World.grownBy_alloc w6 (.cells #[.int .i64 0, .int .i64 1, .int .i64 100, .int .i64 101, .int .i64 y] 2) _))) hg hb4.size)
      exact ⟨_, _, rfl, hs', hr.1, hr.2, hb5⟩
end Go.Proofs.YtahfpcagblcdmaaDoor
