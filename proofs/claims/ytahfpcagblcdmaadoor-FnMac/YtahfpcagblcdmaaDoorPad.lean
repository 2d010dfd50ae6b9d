/- The strings that the hash makes: text, lengthText, padded. -/
import Derived.Test.YtahfpcagblcdmaaDoorMix
import Derived.Test.YtahfpcagblcdmaaDoorRow
namespace Go.Proofs.YtahfpcagblcdmaaDoor
open Go.RowKit
set_option linter.unusedVariables false

/-- The four bytes of a word, the highest first. -/
def be4 (x : Int) : List Int := [x / 16777216, x / 65536 % 256, x / 256 % 256, x % 256]
def Reg.list (r : Reg) : List Int := [r.a, r.b, r.c, r.d, r.e, r.f, r.g, r.h]
def Reg.bytes (r : Reg) : List Int := r.list.flatMap be4
theorem new_cells (w : World) (cs : List Value) (t : TypeId) : ∀ j u, cs[j]? = some u → (w.alloc (.cells cs.toArray t)).cell? ((⟨w.heap.size, 0, none⟩ : Addr).add j) = some u := by
  intro j u hj
  have hadd : (⟨w.heap.size, 0, none⟩ : Addr).add j = ⟨w.heap.size, j, none⟩ := by unfold Addr.add; split <;> simp_all
  rw [hadd]; exact (Blk.fresh w t cs).cell hj
theorem be4_one (x : Int) : ∀ u ∈ (be4 x).map (Value.int .u8), u.oneCell' = true := by intro u hu; simp [be4] at hu; rcases hu with rfl | rfl | rfl | rfl <;> rfl
theorem list_len (r : Reg) : r.list.length = 8 := rfl
def Reg.upto (r : Reg) (k : Nat) : List Int := (r.list.take k).flatMap be4
theorem upto_len (r : Reg) (k : Nat) (h : k ≤ 8) : (r.upto k).length = 4 * k := by
  unfold Reg.upto
  match k, h with
  | 0, _ | 1, _ | 2, _ | 3, _ | 4, _ | 5, _ | 6, _ | 7, _ | 8, _ => simp [Reg.list, be4]
def Reg.at_ (r : Reg) (k : Nat) : Int := r.list.getD k 0
theorem upto_succ (r : Reg) (k : Nat) (h : k < 8) : r.upto (k + 1) = r.upto k ++ be4 (r.at_ k) := by
  unfold Reg.upto Reg.at_
  rw [List.take_succ_eq_append_getElem (by rw [list_len]; exact h), List.flatMap_append]
  rw [List.getD, List.getElem?_eq_getElem (by rw [list_len]; exact h)]; simp
theorem Reg.at_bd {r : Reg} (h : r.Bd) (k : Nat) : 0 ≤ r.at_ k ∧ r.at_ k ≤ 4294967295 := by
  obtain ⟨h1, h2, h3, h4, h5, h6, h7, h8⟩ := h
  unfold Reg.at_
  match k with
  | 0 => exact h1
  | 1 => exact h2
  | 2 => exact h3
  | 3 => exact h4
  | 4 => exact h5
  | 5 => exact h6
  | 6 => exact h7
  | 7 => exact h8
  | n + 8 => simp [Reg.list]
theorem Reg.cell_at (r : Reg) (k : Nat) (h : k < 8) (x y : Value) : (r.cells ++ [x, y])[k]? = some (.int .u32 (r.at_ k)) := by
  match k, h with
  | 0, _ | 1, _ | 2, _ | 3, _ | 4, _ | 5, _ | 6, _ | 7, _ => rfl

set_option maxHeartbeats 1600000 in
set_option maxRecDepth 1000000 in
theorem text_any (g : Nat) (r : Reg) (x y : Value) (w : World) (hg : Blk w g 51 (r.cells ++ [x, y])) (hr : r.Bd) :
    Calls Tryd.prog 38 #[.pointer (some ⟨g, 0, none⟩)] w fun e w' => e = .returned (.string (strOfNums r.bytes)) ∧ Below w.heap.size w w' := by
  obtain ⟨i0, hi, hz0, hz1, hz2⟩ := info_parts infoU8
  go_enter Tryd.func38, Tryd.ntmps38
  go_wp2_with (at_make; refine wpList_make_own _ rfl _ _ 22 rfl w.heap.size 5 i0 (.int .u8 0) 1 Tryd.underlying22 hi hz0 hz1 _ _ _ 32 rfl rfl rfl (by rw [hz2]; omega) (by unfold maxLen; omega) (Nat.le_refl _) ?_; intro w1 hown1 hgrow1)
  have hb1 := (Below.refl w.heap.size w).grown hgrow1 (Nat.le_refl _) (fun k e => by cases e)
  clear hgrow1
  go_loopw [3, 5, 8] (fun v _ i wr => ∃ k : Nat, k ≤ 8 ∧ i = .int .i64 k ∧ wr.ownsRow w.heap.size 5 1 v (r.upto k).length ((r.upto k).map (Value.int .u8)) ∧ Below w.heap.size w wr) (fun _ _ i _ => 8 - (intOf i).toNat)
  case atStart => exact ⟨0, by omega, rfl, hown1, hb1⟩
  case round =>
    clear hown1 hb1
    obtain ⟨k, hk, rfl, hown, hb⟩ := hrel
    by_cases hlt : k < 8
    · have c1 := (hg.below hb hg.lt).cell (r.cell_at k hlt x y)
      obtain ⟨q0, q1⟩ := Reg.at_bd hr k
      have hl := Lib.hid (upto_len r k hk)
      have HL := hl
      have hlt' : (k : Int) < 8 := by omega
      have hs := hb.size
      go_wp2_with (at_builtin; refine wpList_append_own _ rfl _ _ 22 rfl w.heap.size 5 i0 (.int .u8 0) 1 1 Tryd.underlying22 hi hz0 hz1 hz2 rfl (by decide) _ _ _ rfl (hown.alloc _) ⟨wr.heap.size, 0, none⟩ 4 4 ((be4 (r.at_ k)).map (Value.int .u8)) rfl rfl (new_cells _ _ _) (be4_one _) (by rw [HL.out]; unfold maxLen; omega) (by rw [HL.out]; omega) (by simp; omega) ?_; intro v' w' hown' hgrow' hne; clear hne)
      have e1 := upto_succ r k hlt
      refine ⟨⟨k + 1, by omega, by go_num, ?_, below_app hb (Nat.le_refl _) hown hgrow'⟩, by simp [intOf]; omega⟩
      rw [e1, List.map_append, List.length_append]
      exact hown'
    · obtain rfl : k = 8 := by omega
      have hcv := own_string hown
      go_wp2
      go_ret
      exact ⟨rfl, hb⟩

theorem ints_map (k : IntKind) (n : Nat) (f : Nat → Int) : ints k n f = ((List.range n).map f).map (Value.int k) := by simp [ints]
theorem conv_ints {w : World} {g n : Nat} {f : Nat → Int} (hn : n ≤ 1048576) (h : Blk w g 5 (ints .u8 n f)) :
    (convert 22 9 (.slice (some ⟨g, 0, none⟩) n n)).run Tryd.prog w = .ok (.string (strOfNums ((List.range n).map f))) w := by
  have h1 := own_block (base := 0) (Nat.zero_le g) (by rw [ints_len]; unfold maxLen; omega) h.heap
  rw [ints_len, ints_map] at h1
  exact own_string h1
/-- The eight bytes of a number, the highest first. -/
def be8 (n : Nat) : List Int := (List.range 8).map fun j => ((n / 256 ^ (7 - j) % 256 : Nat) : Int)
def be8to (n k : Nat) : Nat → Int := fun j => if 8 - k ≤ j then ((n / 256 ^ (7 - j) % 256 : Nat) : Int) else 0
theorem be8_set (n k a : Nat) (ha : a + k = 7) : (ints .u8 8 (be8to n k)).set a (.int .u8 ((n / 256 ^ k % 256 : Nat) : Int)) = ints .u8 8 (be8to n (k + 1)) := by
  rw [ints_set (by omega)]; apply ints_congr; intro i hi; unfold be8to
  by_cases e : i = a
  · subst e; rw [if_pos rfl, if_pos (by omega), show 7 - i = k by omega]
  · rw [if_neg e]; by_cases g : 8 - k ≤ i
    · rw [if_pos g, if_pos (by omega)]
    · rw [if_neg g, if_neg (by omega)]
theorem be8_zero (n : Nat) : ints .u8 8 (be8to n 0) = List.replicate 8 (.int .u8 0) := rfl
theorem be8_all (n : Nat) : ints .u8 8 (be8to n 8) = ints .u8 8 (fun j => ((n / 256 ^ (7 - j) % 256 : Nat) : Int)) := ints_congr fun i hi => by unfold be8to; rw [if_pos (by omega)]
theorem mk8 (w : World) : (Instr.makeSlice 22 (.int .i64 8) (.int .i64 8)).run Tryd.prog w = .ok (.slice (some ⟨w.heap.size, 0, none⟩) 8 8) (w.alloc (.cells (List.replicate 8 (.int .u8 0)).toArray 5)) := by kernel_rfl

set_option maxHeartbeats 1600000 in
set_option maxRecDepth 1000000 in
theorem lengthText_any (n : Nat) (w : World) (hn : n < 18446744073709551616) :
    Calls Tryd.prog 36 #[.int .u64 n] w fun e w' => e = .returned (.string (strOfNums (be8 n))) ∧ Below w.heap.size w w' := by
  have hmk := mk8
  have HN := Lib.hid hn
  clear hn
  go_enter Tryd.func36, Tryd.ntmps36
  go_wp2
  go_loopw [0, 4, 8] (fun x _ i wr => ∃ (k m : Nat), k ≤ 8 ∧ Hid (m = n / 256 ^ k) ∧ i = .int .i64 k ∧ x = .int .u64 m ∧ Blk wr w.heap.size 5 (ints .u8 8 (be8to n k)) ∧ Below w.heap.size w wr) (fun _ _ i _ => 8 - (intOf i).toNat)
  case atStart =>
    exact ⟨0, n, by omega, by unfold Hid; simp, rfl, rfl, by rw [be8_zero]; exact Blk.fresh w _ _, (Below.refl _ _).alloc (Nat.le_refl _) _⟩
  case round =>
    obtain ⟨k, m, hk, HM, rfl, rfl, hB, hb⟩ := hrel
    have hm : m ≤ n := by rw [HM.out]; exact Nat.div_le_self _ _
    have HN' : Hid (m < 18446744073709551616) := Nat.lt_of_le_of_lt hm HN.out
    by_cases hlt : k < 8
    · obtain ⟨a, HA⟩ : ∃ a, Hid (a + k = 7) := ⟨7 - k, by unfold Hid; omega⟩
      have hA := HA.out
      have e7 : (7 : Int) - k = (a : Int) := by omega
      have c1 := hB.cell (ints_get (f := be8to n k) (i := a) (by omega))
      have f1 := hB.froz a
      have a8 : a < 8 := by omega
      have hlt' : (k : Int) < 8 := by omega
      clear hA
      have hm3 : (m : Int) ≤ 18446744073709551615 := by have := HN'.out; omega
      go_wp2
      have hp := hB.put a (.int .u8 ((n / 256 ^ k % 256 : Nat) : Int))
      rw [be8_set n k a HA.out, ← HM.out] at hp
      refine ⟨⟨k + 1, m / 256, by omega, ?_, by go_num, by go_num, ?_, hb.setCell (Nat.le_refl _) _⟩, by simp [intOf]; omega⟩
      · unfold Hid; rw [HM.out, Nat.div_div_eq_div_mul, Nat.pow_succ]
      · have e : ((m % 256 : Nat) : Int) = (m : Int) % 256 := by omega
        rw [e] at hp
        exact hp
    · obtain rfl : k = 8 := by omega
      rw [be8_all] at hB
      have hcv : (convert 22 9 (.slice (some ⟨w.heap.size, 0, none⟩) 8 8)).run Tryd.prog wr = .ok (.string (strOfNums (be8 n))) wr := conv_ints (by omega) hB
      go_wp2
      go_ret
      exact ⟨rfl, hb⟩

/-- A key of 64 bytes, each put together with a byte. -/
noncomputable def padL (key : ByteArray) (p : Int) : List Int := (List.range 64).map fun j => bits .xor .u8 (byteI key j) p
noncomputable def padto (key : ByteArray) (p : Int) (k : Nat) : Nat → Int := fun j => if j < k then bits .xor .u8 (byteI key j) p else byteI key j
theorem padto_set (key : ByteArray) (p : Int) (k : Nat) (h : k < 64) : (ints .u8 64 (padto key p k)).set k (.int .u8 (bits .xor .u8 (byteI key k) p)) = ints .u8 64 (padto key p (k + 1)) := by
  rw [ints_set h]; apply ints_congr; intro i hi; unfold padto
  by_cases e : i = k
  · subst e; rw [if_pos rfl, if_pos (by omega)]
  · rw [if_neg e]; by_cases g : i < k
    · rw [if_pos g, if_pos (by omega)]
    · rw [if_neg g, if_neg (by omega)]
theorem padto_all (key : ByteArray) (p : Int) : ints .u8 64 (padto key p 64) = ints .u8 64 (fun j => bits .xor .u8 (byteI key j) p) := ints_congr fun i hi => by unfold padto; rw [if_pos hi]
def zeros8 (n : Nat) : List Value := List.replicate n (.int .u8 0)
theorem zeros8_len (n : Nat) : (zeros8 n).length = n := by simp [zeros8]
theorem padto_zero (key : ByteArray) (p : Int) (h : key.size ≤ 64) : splice (zeros8 64) 0 (Lib.byteCells key.data.toList) = ints .u8 64 (padto key p 0) := by
  have hl : (Lib.byteCells key.data.toList).length = key.size := bc_len key
  apply List.ext_getElem?
  intro i
  unfold splice ints padto zeros8
  rw [List.take_zero, List.nil_append, Nat.zero_add, hl]
  by_cases hi : i < key.size
  · rw [List.getElem?_append_left (by omega)]
    have h64 : i < 64 := by omega
    simp [Lib.byteCells, h64, byteI, hi]
    rfl
  · rw [List.getElem?_append_right (by omega), hl, List.getElem?_drop, List.getElem?_replicate]
    by_cases h64 : i < 64
    · rw [if_pos (by omega)]; simp [h64, byteI, hi]
    · rw [if_neg (by omega)]; simp [h64]
theorem mk64 (w : World) : (Instr.makeSlice 22 (.int .i64 64) (.int .i64 64)).run Tryd.prog w = .ok (.slice (some ⟨w.heap.size, 0, none⟩) 64 64) (w.alloc (.cells (zeros8 64).toArray 5)) := by kernel_rfl

set_option maxHeartbeats 1600000 in
set_option maxRecDepth 1000000 in
theorem padded_any (key : ByteArray) (p : Int) (w : World) (hs : key.size ≤ 64) (p0 : 0 ≤ p) (p1 : p ≤ 255) :
    Calls Tryd.prog 23 #[.string key, .int .u8 p] w fun e w' => e = .returned (.string (strOfNums (padL key p))) ∧ Below w.heap.size w w' := by
  have hmk := mk64
  have hb0 : Hid (Blk (w.alloc (.cells (zeros8 64).toArray 5)) w.heap.size 5 (zeros8 64)) := Blk.fresh w _ _
  go_enter Tryd.func23, Tryd.ntmps23
  go_wp2_with (with_reducible refine wpList_copy_str rfl (.tmp 8) (.tmp 9) 22 9 rfl 5 Tryd.underlying22 sizeU8 _ _ _ key rfl rfl w.heap.size 0 _ 5 hb0.out.heap (by omega) (fun _ => rfl) (by rw [zeros8_len]; omega) w.heap.size w ((Below.refl _ _).alloc (Nat.le_refl _) _) (Nat.le_refl _) ?_; intro w2 HG2 hb2)
  have hB0 : Blk w2 w.heap.size 5 (ints .u8 64 (padto key p 0)) := by
    have := HG2.out
    rw [padto_zero key p hs] at this
    exact this
  go_loopw [6, 13] (fun _ i wr => ∃ (k : Nat), k ≤ 64 ∧ i = .int .i64 k ∧ Blk wr w.heap.size 5 (ints .u8 64 (padto key p k)) ∧ Below w.heap.size w wr) (fun _ i _ => 64 - (intOf i).toNat)
  case atStart => exact ⟨0, by omega, rfl, hB0, hb2⟩
  case round =>
    clear hB0 HG2 hb2
    obtain ⟨k, hk, rfl, hB, hb⟩ := hrel
    by_cases hlt : k < 64
    · have hp := hB.put k (.int .u8 (bits .xor .u8 (byteI key k) p))
      rw [padto_set key p k hlt] at hp
      have e0 : padto key p k k = byteI key k := by unfold padto; rw [if_neg (by omega)]
      have c1 := hB.cell (ints_get (f := padto key p k) (i := k) hlt)
      rw [e0] at c1
      clear e0
      have f1 := hB.froz k
      have hlt' : (k : Int) < 64 := by omega
      have HP := Lib.hid hp
      clear hp
      go_wp2
      exact ⟨⟨k + 1, by omega, by go_num, HP.out, hb.setCell (Nat.le_refl _) _⟩, by simp [intOf]; omega⟩
    · obtain rfl : k = 64 := by omega
      rw [padto_all] at hB
      have hcv : (convert 22 9 (.slice (some ⟨w.heap.size, 0, none⟩) 64 64)).run Tryd.prog wr = .ok (.string (strOfNums (padL key p))) wr := conv_ints (by omega) hB
      go_wp2
      go_ret
      exact ⟨rfl, hb⟩
end Go.Proofs.YtahfpcagblcdmaaDoor
