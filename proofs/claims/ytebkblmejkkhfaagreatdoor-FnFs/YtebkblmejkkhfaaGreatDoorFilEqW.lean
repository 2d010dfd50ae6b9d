/- The marks that the exact laws write into rows, to see who owns them. Marks on file systems: written and found again. The comparison that the exact laws make of two file systems: true where both hold the same files. -/
import Derived.Test.YtebkblmejkkhfaaGreatDoorFilOwnW
import Derived.Test.YtebkblmejkkhfaaGreatDoorCloneW
namespace Go.Proofs.YtebkblmejkkhfaaGreatDoor
open Go.RowKit
set_option linter.unusedVariables false

/-- The digits of a number; none for 0. -/
def dec (k : Nat) : List UInt8 := if h : k = 0 then [] else dec (k / 10) ++ [(48 + k % 10).toUInt8]
termination_by k
decreasing_by omega
theorem dec_zero : dec 0 = [] := by unfold dec; simp
theorem dec_step {k : Nat} (h : 0 < k) : dec k = dec (k / 10) ++ [(48 + k % 10).toUInt8] := by rw [dec, dif_neg (by omega)]
theorem dec_len : ∀ k, (dec k).length ≤ k := by
  intro k
  induction k using Nat.strongRecOn with
  | ind k ih =>
    by_cases h : k = 0
    · subst h; rw [dec_zero]; simp
    · rw [dec_step (by omega), List.length_append, List.length_singleton]
      have := ih (k / 10) (by omega)
      omega
theorem dec_digit {k : Nat} (h : 0 < k) : ∃ x : UInt8, (x.toNat : Int) = 48 + (k : Int) % 10 ∧ dec k = dec (k / 10) ++ [x] :=
  ⟨(48 + k % 10).toUInt8, by rw [Nat.toUInt8, UInt8.toNat_ofNat']; omega, dec_step h⟩
/-- A mark. -/
def markS (k : Nat) : ByteArray := ⟨(109 :: dec k).toArray⟩

set_option maxHeartbeats 1000000 in
theorem markText_any (k : Nat) (w : World) (h0 : 1 ≤ k) (h1 : k ≤ 4000000) : Calls Tryz.prog 117 #[.int .i64 k] w fun e w' => e = .returned (.string (markS k)) ∧ Below w.heap.size w w' := by
  have h0' : ¬ (k : Int) ≤ 0 := by omega
  have hdk := dec_len k
  go_enter Tryz.func117, Tryz.ntmps117
  go_wp2
  go_loopw [0, 3] (fun i o wr => ∃ (j : Nat) (out : ByteArray), i = .int .i64 j ∧ o = .string out ∧ j ≤ k ∧ dec j ++ out.data.toList = dec k ∧ Below w.heap.size w wr) (fun i _ _ => (intOf i).toNat)
  case atStart => exact ⟨k, _, rfl, rfl, Nat.le_refl _, by simp, Below.refl _ _⟩
  case round =>
    obtain ⟨j, out, rfl, rfl, hj, hd, hb⟩ := hrel
    have hs : out.size ≤ 4000000 := by
      have : (dec j ++ out.data.toList).length = (dec k).length := by rw [hd]
      simp at this
      omega
    by_cases hlt : 0 < j
    · have hlt' : (0 : Int) < (j : Int) := by omega
      obtain ⟨x, hx, hdj⟩ := dec_digit hlt
      have hcv : (convert 22 9 (.slice (some ⟨wr.heap.size, 0, none⟩) 1 1)).run Tryz.prog (wr.alloc (.cells #[.int .u8 (48 + (j : Int) % 10)] 5)) = .ok (.string ⟨[x].toArray⟩) (wr.alloc (.cells #[.int .u8 (48 + (j : Int) % 10)] 5)) := by
        refine own_bytes (base := 0) (n := 1) ?_
        have : Lib.byteCells [x] = [.int .u8 (48 + (j : Int) % 10)] := by simp [Lib.byteCells, hx]
        rw [this]
        exact own_block (l := [.int .u8 (48 + (j : Int) % 10)]) (Nat.zero_le _) (by simp [maxLen]) (heap_alloc_new wr _)
      obtain ⟨sx, hsx⟩ : ∃ sx : ByteArray, (⟨[x].toArray⟩ : ByteArray) = sx := ⟨_, rfl⟩
      have hsx1 : sx.size = 1 := by rw [← hsx]; rfl
      rw [hsx] at hcv
      go_wp2
      refine ⟨⟨j / 10, sx ++ out, by go_num, rfl, by omega, ?_, hb.alloc hb.size _⟩, by simp [intOf]; omega⟩
      rw [← hd, hdj, ← hsx]
      simp
    · obtain rfl : j = 0 := by omega
      simp only [show ((0 : Nat) : Int) = 0 from rfl]
      go_wp2
      go_ret
      rw [dec_zero, List.nil_append] at hd
      refine ⟨retS ?_, hb⟩
      unfold markS
      rw [← hd]
      apply ByteArray.ext
      simp

theorem gr_set {w w' : World} {g i : Nat} (h : w.grownBy w' (some g)) (v : Value) : w.grownBy (w'.setCell ⟨g, i, none⟩ v) (some g) :=
  ⟨h.os, h.tape, h.output, by simpa [World.setCell] using h.size, fun k hk hne => (Below.heap_setCell w' _ v k (fun e => hne (by rw [e]))).trans (h.block k hk hne)⟩
theorem gr_below {w w' w2 : World} {row : Option Nat} (h : w.grownBy w' row) (hb : Below w'.heap.size w' w2) : w.grownBy w2 row :=
  ⟨hb.os.trans h.os, hb.tape.trans h.tape, hb.output.trans h.output, Nat.le_trans h.size hb.size, fun k hk hne => (hb.block k (by have := h.size; omega)).trans (h.block k hk hne)⟩
/-- The marks of n files, from k on. -/
def markL (n k : Nat) : List Fil := (List.range n).map fun i => ⟨markS (k + 3 * i), markS (k + 3 * i + 1), ((k + 3 * i + 2 : Nat) : Int)⟩
theorem markL_len (n k : Nat) : (markL n k).length = n := by simp [markL]
theorem markL_get {n k i : Nat} (h : i < n) : (markL n k)[i]'(by rw [markL_len]; exact h) = ⟨markS (k + 3 * i), markS (k + 3 * i + 1), ((k + 3 * i + 2 : Nat) : Int)⟩ := by simp [markL]
theorem markS_size (k : Nat) : (markS k).size ≤ k + 1 := by
  have := dec_len k
  unfold markS
  show (109 :: dec k).toArray.size ≤ _
  simp
  exact this
theorem markL_fits {n k : Nat} (h : k + 3 * n ≤ 4000000) : ∀ f ∈ markL n k, f.fits := by
  intro f hf
  obtain ⟨i, hi, rfl⟩ := List.mem_map.1 hf
  have hi' : i < n := by simpa using hi
  have s0 := markS_size (k + 3 * i)
  have s1 := markS_size (k + 3 * i + 1)
  refine ⟨?_, ?_, ?_, ?_⟩
  · show (markS (k + 3 * i)).size ≤ maxLen
    unfold maxLen; omega
  · show (markS (k + 3 * i + 1)).size ≤ maxLen
    unfold maxLen; omega
  · show (-9223372036854775808 : Int) ≤ ((k + 3 * i + 2 : Nat) : Int)
    omega
  · show ((k + 3 * i + 2 : Nat) : Int) ≤ 9223372036854775807
    omega
/-- Marked up to j. -/
theorem part_set {α : Type} {M L : List α} {j : Nat} (hM : M.length = L.length) (h : j < L.length) : (M.take j ++ L.drop j).set j (M[j]'(by omega)) = M.take (j + 1) ++ L.drop (j + 1) := by
  rw [List.set_append_right _ _ (by simp; omega), List.length_take, show j - min j M.length = 0 by omega, List.drop_eq_getElem_cons h, List.set_cons_zero, List.take_succ_eq_append_getElem (by omega), List.append_assoc]
  rfl

set_option maxHeartbeats 2000000 in
theorem markFileS_some (g n c base k : Nat) (L : List Fil) (w : World) (hR : w.ownsRow base 53 3 (.slice (some ⟨g, 0, none⟩) n c) n (flat L)) (h0 : 1 ≤ k) (h1 : k + 3 * n ≤ 4000000) :
    Calls Tryz.prog 125 #[.slice (some ⟨g, 0, none⟩) n c, .int .i64 k] w fun e w' => e = .returned (.int .i64 ((k + 3 * n : Nat) : Int)) ∧
      w'.ownsRow base 53 3 (.slice (some ⟨g, 0, none⟩) n c) n (flat (markL n k)) ∧ w.grownBy w' (some g) := by
  have hl := hR.1
  rw [flat_len] at hl
  have hl' : L.length = n := by omega
  clear hl
  go_enter Tryz.func125, Tryz.ntmps125
  go_wp2
  go_loopw [1, 5] (fun q i wr => ∃ j : Nat, j ≤ n ∧ i = .int .i64 j ∧ q = .int .i64 ((k + 3 * j : Nat) : Int) ∧ wr.ownsRow base 53 3 (.slice (some ⟨g, 0, none⟩) n c) n (flat ((markL n k).take j ++ L.drop j)) ∧ w.grownBy wr (some g)) (fun _ i _ => n - (intOf i).toNat)
  case atStart => exact ⟨0, by omega, rfl, rfl, by simpa using hR, World.grownBy.refl _ _⟩
  case round =>
    obtain ⟨j, hj, rfl, rfl, hr, hg⟩ := hrel
    by_cases hlt : j < n
    · have hlt' : (j : Int) < (n : Int) := by omega
      go_wp2_with (fail)
      refine (markText_any (k + 3 * j) _ (by omega) (by omega)).mono ?_
      rintro e w1 ⟨rfl, hb1⟩
      have r1 := row_below hr hb1 (Nat.le_refl _)
      have g1 := gr_below hg hb1
      obtain ⟨u1, c1⟩ := row_cell r1 (j := j * 3) (by omega)
      have f1 := r1.frozenAt (j * 3)
      have s1 := (r1.stored (j * 3) (.string (markS (k + 3 * j)))).1
      have t1 := gr_set g1 (i := j * 3) (.string (markS (k + 3 * j)))
      go_wp2_with (fail)
      generalize w1.setCell ⟨g, j * 3, none⟩ (.string (markS (k + 3 * j))) = v1 at s1 t1 ⊢
      clear c1 f1 r1 g1
      refine (markText_any (k + 3 * j + 1) _ (by omega) (by omega)).mono ?_
      rintro e w2 ⟨rfl, hb2⟩
      have r2 := row_below s1 hb2 (Nat.le_refl _)
      have g2 := gr_below t1 hb2
      obtain ⟨u2, c2⟩ := row_cell r2 (j := j * 3 + 1) (by omega)
      have f2 := r2.frozenAt (j * 3 + 1)
      have s2 := (r2.stored (j * 3 + 1) (.string (markS (k + 3 * j + 1)))).1
      have t2 := gr_set g2 (i := j * 3 + 1) (.string (markS (k + 3 * j + 1)))
      obtain ⟨u3, c3⟩ := row_cell r2 (j := j * 3 + 2) (by omega)
      have f3 := r2.frozenAt (j * 3 + 2)
      have s3 := (s2.stored (j * 3 + 2) (.int .i64 ((k + 3 * j + 2 : Nat) : Int))).1
      have t3 := gr_set t2 (i := j * 3 + 2) (.int .i64 ((k + 3 * j + 2 : Nat) : Int))
      have e3 := flat_set ⟨markS (k + 3 * j), markS (k + 3 * j + 1), ((k + 3 * j + 2 : Nat) : Int)⟩ ((markL n k).take j ++ L.drop j) j
      simp only at e3
      rw [e3, ← markL_get hlt, part_set (by rw [markL_len]; omega) (by omega)] at s3
      have hv : ((k + 3 * j + 2 : Nat) : Int) = (k : Int) + 3 * (j : Int) + 1 + 1 := by omega
      rw [hv] at s3 t3
      go_wp2
      exact ⟨⟨j + 1, by omega, by go_num, by go_num, s3, t3⟩, by simp [intOf]; omega⟩
    · obtain rfl : j = n := by omega
      go_wp2
      go_ret
      rw [List.take_of_length_le (by rw [markL_len]; exact Nat.le_refl _), List.drop_of_length_le (by omega), List.append_nil] at hr
      exact ⟨rfl, hr, hg⟩
end Go.Proofs.YtebkblmejkkhfaaGreatDoor

namespace Go.Proofs.YtebkblmejkkhfaaGreatDoor
open Go.RowKit
set_option linter.unusedVariables false

theorem markFileS_any (A : Option Addr) (L : List Fil) (c base k : Nat) (w : World) (hF : OwnF w base (.slice A L.length c) L) (h0 : 1 ≤ k) (h1 : k + 3 * L.length ≤ 4000000) :
    Calls Tryz.prog 125 #[.slice A L.length c, .int .i64 k] w fun e w' => e = .returned (.int .i64 ((k + 3 * L.length : Nat) : Int)) ∧
      OwnF w' base (.slice A L.length c) (markL L.length k) ∧ w.grownBy w' (A.map (·.block)) := by
  rcases hF.1.2 with ⟨hv, hz⟩ | ⟨g, cap, cur, hv, _⟩
  · have hz' : L = [] := List.eq_nil_of_length_eq_zero hz
    subst hz'
    cases hv
    go_enter Tryz.func125, Tryz.ntmps125
    go_wp2
    go_loop [1, 5] (fun q i => q = .int .i64 k ∧ i = .int .i64 0) (fun _ _ => 0)
    case atStart => exact ⟨rfl, rfl⟩
    case round =>
      obtain ⟨rfl, rfl⟩ := hrel
      go_wp2
      go_ret
      exact ⟨rfl, ⟨World.ownsRow_nil _ _ _ _, by simp [markL]⟩, World.grownBy.refl _ _⟩
  · cases hv
    refine (markFileS_some g L.length c base k L w hF.1 h0 h1).mono fun e w' ⟨he, h2, h3⟩ => ⟨he, ?_, h3⟩
    exact ⟨by rw [markL_len]; exact h2, markL_fits h1⟩
theorem markFs_any (A : Option Addr) (L : List Fil) (c base k : Nat) (w : World) (hF : OwnF w base (.slice A L.length c) L) (h0 : 1 ≤ k) (h1 : k + 3 * L.length ≤ 4000000) :
    Calls Tryz.prog 63 #[.agg #[.slice A L.length c], .int .i64 k] w fun e w' => e = .returned (.int .i64 ((k + 3 * L.length : Nat) : Int)) ∧
      OwnF w' base (.slice A L.length c) (markL L.length k) ∧ w.grownBy w' (A.map (·.block)) := by
  have hb0 : Below w.heap.size w (w.alloc (.cells #[.slice A L.length c] 25)) := (Below.refl _ _).alloc (Nat.le_refl _) _
  have hF1 := hF.below hb0 (Nat.le_refl _)
  go_enter Tryz.func63, Tryz.ntmps63
  go_wp2_with (go_at_call 125; refine (markFileS_any A L c base k _ hF1 h0 h1).mono ?_; rintro e w1 ⟨rfl, hF2, hg⟩)
  go_ret
  exact ⟨rfl, hF2, (World.grownBy_alloc w _ _).andThen hg (fun j e => .inr e)⟩
set_option maxHeartbeats 2000000 in
theorem heldFileS_any (A : Option Addr) (n c k : Nat) (w : World) (hF : Fls w w.heap.size A (markL n k)) (h0 : 1 ≤ k) (h1 : k + 3 * n ≤ 4000000) :
    Calls Tryz.prog 142 #[.slice A n c, .int .i64 k] w fun e w' => e = .returned (.int .i64 ((k + 3 * n : Nat) : Int)) ∧ Below w.heap.size w w' := by
  go_enter Tryz.func142, Tryz.ntmps142
  go_wp2
  go_loopw [1, 5] (fun q i wr => ∃ j : Nat, j ≤ n ∧ i = .int .i64 j ∧ q = .int .i64 ((k + 3 * j : Nat) : Int) ∧ Below w.heap.size w wr) (fun _ i _ => n - (intOf i).toNat)
  case atStart => exact ⟨0, by omega, rfl, rfl, Below.refl _ _⟩
  case round =>
    obtain ⟨j, hj, rfl, rfl, hb⟩ := hrel
    by_cases hlt : j < n
    · have hlt' : (j : Int) < (n : Int) := by omega
      obtain ⟨a, rfl, hab, a0, a1, a2, hff⟩ := (hF.below hb (Nat.le_refl _)).at j (by rw [markL_len]; exact hlt)
      rw [markL_get hlt] at a0 a1 a2
      simp only at a0 a1 a2
      obtain ⟨I, f, hI, g0, gk, gc, ge⟩ := class_grown wr
      have x0 := fun s => kept_cell (gk s) a0
      have M0 := fun W => markText_any (k + 3 * j) W (by omega) (by omega)
      clear a0
      go_wp2
      refine wp_region_kept f (by kernel_rfl) (by kernel_rfl) g0 ?_
      repeat (first
        | go_big_quiet_skip
        | (go_big_quiet_want; go_big_quiet_op; first | go_big_quiet_on | (apply Exists.intro; refine ⟨fun s => ?_, ?_⟩; (go_at_call 117; refine (M0 _).mono ?_; rintro e w4 ⟨rfl, hb4⟩; exact ⟨rfl, gc _ _ hb4⟩); go_big_quiet_on)))
      refine wpQuiet_nil ?_
      intro w5 h5
      have hb5 := ge _ h5
      have a1' := kept_cell hb5 a1
      have a2' := kept_cell hb5 a2
      obtain ⟨I2, f2, hI2, g02, gk2, gc2, ge2⟩ := class_grown w5
      have x1 := fun s => kept_cell (gk2 s) a1'
      have M1 := fun W => markText_any (k + 3 * j + 1) W (by omega) (by omega)
      clear a1 a2 a1' g0 gk gc ge x0
      go_wp2
      refine wp_region_kept f2 (by kernel_rfl) (by kernel_rfl) g02 ?_
      repeat (first
        | go_big_quiet_skip
        | (go_big_quiet_want; go_big_quiet_op; first | go_big_quiet_on | (apply Exists.intro; refine ⟨fun s => ?_, ?_⟩; (go_at_call 117; refine (M1 _).mono ?_; rintro e w4 ⟨rfl, hb4⟩; exact ⟨rfl, gc2 _ _ hb4⟩); go_big_quiet_on)))
      refine wpQuiet_nil ?_
      intro w6 h6
      have hb6 := ge2 _ h6
      have a2'' := kept_cell hb6 a2'
      have hv : ((k + 3 * j + 2 : Nat) : Int) = (k : Int) + 3 * (j : Int) + 1 + 1 := by omega
      rw [hv] at a2''
      clear a2' g02 gk2 gc2 ge2 x1
      go_wp2
      exact ⟨⟨j + 1, by omega, by go_num, by go_num, hb.trans ((hb5.trans (hb6.mono hb5.size)).mono hb.size)⟩, by simp [intOf]; omega⟩
    · obtain rfl : j = n := by omega
      go_wp2
      go_ret
      exact ⟨rfl, hb⟩
theorem heldFs_any (A : Option Addr) (n c k : Nat) (w : World) (hF : Fls w w.heap.size A (markL n k)) (h0 : 1 ≤ k) (h1 : k + 3 * n ≤ 4000000) :
    Calls Tryz.prog 114 #[.agg #[.slice A n c], .int .i64 k] w fun e w' => e = .returned (.int .i64 ((k + 3 * n : Nat) : Int)) ∧ Below w.heap.size w w' := by
  have hb0 : Below w.heap.size w (w.alloc (.cells #[.slice A n c] 25)) := (Below.refl _ _).alloc (Nat.le_refl _) _
  have hF1 := (hF.below hb0 (Nat.le_refl _)).mono hb0.size
  go_enter Tryz.func114, Tryz.ntmps114
  go_wp2_with (go_at_call 142; refine (heldFileS_any A n c k _ hF1 h0 h1).mono ?_; rintro e w1 ⟨rfl, hb1⟩)
  go_ret
  exact ⟨rfl, hb0.trans (hb1.mono hb0.size)⟩
end Go.Proofs.YtebkblmejkkhfaaGreatDoor

namespace Go.Proofs.YtebkblmejkkhfaaGreatDoor
open Go.RowKit
set_option linter.unusedVariables false

theorem eqFile_same (f : Fil) (w : World) : Calls Tryz.prog 155 #[f.val, f.val] w fun e w' => e = .returned (.bool true) ∧ Below w.heap.size w w' := by
  obtain ⟨s0, s1, k⟩ := f
  unfold Fil.val
  simp only
  go_enter Tryz.func155, Tryz.ntmps155
  go_wp2
  go_ret
  exact ⟨rfl, ((Below.refl _ _).alloc (Nat.le_refl _) _).alloc (by simp) _⟩

set_option maxHeartbeats 1000000 in
theorem eqFileS_same (A B : Option Addr) (L : List Fil) (c d : Nat) (w : World) (hA : Fls w w.heap.size A L) (hB : Fls w w.heap.size B L) :
    Calls Tryz.prog 124 #[.slice A L.length c, .slice B L.length d] w fun e w' => e = .returned (.bool true) ∧ Below w.heap.size w w' := by
  have hn := hA.1
  unfold maxLen at hn
  go_enter Tryz.func124, Tryz.ntmps124
  go_wp2
  go_loopw [5] (fun i wr => ∃ k : Nat, k ≤ L.length ∧ i = .int .i64 k ∧ Below w.heap.size w wr) (fun i _ => L.length - (intOf i).toNat)
  case atStart => exact ⟨0, by omega, rfl, Below.refl _ _⟩
  case round =>
    obtain ⟨k, hk, rfl, hb⟩ := hrel
    by_cases hlt : k < L.length
    · obtain ⟨a, rfl, hab, a0, a1, a2, hff⟩ := (hA.below hb (Nat.le_refl _)).at k hlt
      obtain ⟨b, rfl, hbb, b0, b1, b2, _⟩ := (hB.below hb (Nat.le_refl _)).at k hlt
      obtain ⟨I, f, hI, g0, gk, gc, ge⟩ := class_grown wr
      have x0 := fun s => kept_cell (gk s) a0
      have x1 := fun s => kept_cell (gk s) a1
      have x2 := fun s => kept_cell (gk s) a2
      have y0 := fun s => kept_cell (gk s) b0
      have y1 := fun s => kept_cell (gk s) b1
      have y2 := fun s => kept_cell (gk s) b2
      have EQ := eqFile_same L[k]
      unfold Fil.val at EQ
      have hlt' : (k : Int) < (L.length : Int) := by omega
      clear a0 a1 a2 b0 b1 b2
      go_wp2
      refine wp_region_kept f (by kernel_rfl) (by kernel_rfl) g0 ?_
      repeat (first
        | go_big_quiet_skip
        | (go_big_quiet_want; go_big_quiet_op; first | go_big_quiet_on | (apply Exists.intro; refine ⟨fun s => ?_, ?_⟩; (go_at_call 155; refine (EQ _).mono ?_; rintro e w4 ⟨rfl, hb4⟩; exact ⟨rfl, gc _ _ hb4⟩); go_big_quiet_on)))
      refine wpQuiet_nil ?_
      intro w5 h5
      have hb5 := ge _ h5
      go_wp2
      exact ⟨⟨k + 1, by omega, by go_num, hb.trans (hb5.mono hb.size)⟩, by simp [intOf]; omega⟩
    · obtain rfl : k = L.length := by omega
      go_wp2
      go_ret
      exact ⟨rfl, hb⟩

theorem eqFs_same (A B : Option Addr) (L : List Fil) (c d : Nat) (w : World) (hA : Fls w w.heap.size A L) (hB : Fls w w.heap.size B L) :
    Calls Tryz.prog 62 #[.agg #[.slice A L.length c], .agg #[.slice B L.length d]] w fun e w' => e = .returned (.bool true) ∧ Below w.heap.size w w' := by
  have hb0 : Below w.heap.size w ((w.alloc (.cells #[.slice A L.length c] 25)).alloc (.cells #[.slice B L.length d] 25)) := ((Below.refl _ _).alloc (Nat.le_refl _) _).alloc (by simp) _
  have hA1 := (hA.below hb0 (Nat.le_refl _)).mono hb0.size
  have hB1 := (hB.below hb0 (Nat.le_refl _)).mono hb0.size
  go_enter Tryz.func62, Tryz.ntmps62
  go_wp2_with (go_at_call 124; refine (eqFileS_same A B L c d _ hA1 hB1).mono ?_; rintro e w1 ⟨rfl, hb1⟩)
  go_ret
  exact ⟨rfl, hb0.trans (hb1.mono hb0.size)⟩
end Go.Proofs.YtebkblmejkkhfaaGreatDoor
