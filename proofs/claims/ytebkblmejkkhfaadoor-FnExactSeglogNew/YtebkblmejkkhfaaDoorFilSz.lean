/- The size that the exact laws reckon of a file system, and the copy that they make of it. -/
import Derived.Test.YtebkblmejkkhfaaDoorFil
namespace Go.Proofs.YtebkblmejkkhfaaDoor
open Go.RowKit
set_option linter.unusedVariables false

/-- szFile. -/
def szF (f : Fil) (left : Int) : Int := if left - f.name.size < 0 then -1 else if left - f.name.size - f.data.size < 0 then -1 else left - f.name.size - f.data.size

theorem szFile_any (f : Fil) (left : Int) (w : World) (hf : f.fits) (h0 : 0 ≤ left) (h1 : left ≤ 1048576) :
    Calls Tryd.prog 48 #[f.val, .int .i64 left] w fun e w' => e = .returned (.int .i64 (szF f left)) ∧ Below w.heap.size w w' := by
  obtain ⟨s0, s1, k⟩ := f
  obtain ⟨q0, q1, q2, q3⟩ := hf
  simp only at q0 q1 q2 q3
  unfold maxLen at q0 q1
  unfold Fil.val szF
  simp only
  by_cases hA : left - s0.size < 0
  · rw [if_pos hA]
    go_enter Tryd.func48, Tryd.ntmps48
    go_wp2
    go_ret
    exact ⟨rfl, (Below.refl _ _).alloc (Nat.le_refl _) _⟩
  · rw [if_neg hA]
    by_cases hB : left - s0.size - s1.size < 0
    · rw [if_pos hB]
      go_enter Tryd.func48, Tryd.ntmps48
      go_wp2
      go_ret
      exact ⟨rfl, (Below.refl _ _).alloc (Nat.le_refl _) _⟩
    · rw [if_neg hB]
      go_enter Tryd.func48, Tryd.ntmps48
      go_wp2
      go_ret
      exact ⟨rfl, (Below.refl _ _).alloc (Nat.le_refl _) _⟩

theorem szF_lo (f : Fil) (left : Int) (h : 0 ≤ left) : -1 ≤ szF f left ∧ szF f left ≤ left := by unfold szF; split <;> (try split) <;> omega
theorem szF_ok {f : Fil} {left : Int} (h1 : left ≤ 1048576) (h : 0 ≤ szF f left) : f.name.size ≤ 1048576 ∧ f.data.size ≤ 1048576 := by
  unfold szF at h
  split at h
  · omega
  · split at h <;> omega

/-- A file system of no great size. -/
def Small (L : List Fil) : Prop := L.length ≤ 1048576 ∧ ∀ i (h : i < L.length), L[i].name.size ≤ 1048576 ∧ L[i].data.size ≤ 1048576

set_option maxHeartbeats 1000000 in
theorem szFileS_any (A : Option Addr) (L : List Fil) (c : Nat) (w : World) (hL : Fls w w.heap.size A L) :
    Calls Tryd.prog 32 #[.slice A L.length c, .int .i64 1048576] w fun e w' => ∃ r : Int, e = .returned (.int .i64 r) ∧ -1 ≤ r ∧ r ≤ 1048576 ∧ (0 ≤ r → Small L) ∧ Below w.heap.size w w' := by
  have hn := hL.1
  unfold maxLen at hn
  by_cases hbig : (1048576 : Int) - L.length < 0
  · go_enter Tryd.func32, Tryd.ntmps32
    go_wp2
    go_ret
    exact ⟨-1, rfl, by omega, by omega, fun h => by omega, Below.refl _ _⟩
  · have hn2 : L.length ≤ 1048576 := by omega
    go_enter Tryd.func32, Tryd.ntmps32
    go_wp2
    go_loopw [1, 5] (fun l i wr => ∃ (k : Nat) (left : Int), k ≤ L.length ∧ i = .int .i64 k ∧ l = .int .i64 left ∧ 0 ≤ left ∧ left ≤ 1048576 ∧ (∀ j (h : j < L.length), j < k → L[j].name.size ≤ 1048576 ∧ L[j].data.size ≤ 1048576) ∧ Below w.heap.size w wr) (fun _ i _ => L.length - (intOf i).toNat)
    case atStart => exact ⟨0, _, by omega, rfl, rfl, by omega, by omega, fun j _ h => by omega, Below.refl _ _⟩
    case round =>
      obtain ⟨k, left, hk, rfl, rfl, l0, l1, hS, hb⟩ := hrel
      by_cases hlt : k < L.length
      · obtain ⟨a, rfl, hab, c0, c1, c2, hf⟩ := (hL.below hb (Nat.le_refl _)).at k hlt
        have hsz := szF_lo L[k] left l0
        go_wp2_with (go_at_call 48; refine (szFile_any L[k] left wr hf l0 l1).mono ?_; rintro e w1 ⟨rfl, hb1⟩)
        · go_ret
          exact ⟨-1, rfl, by omega, by omega, fun h => by omega, hb.trans (hb1.mono hb.size)⟩
        · have h0 : 0 ≤ szF L[k] left := by omega
          refine ⟨⟨k + 1, _, by omega, by go_num, rfl, h0, by omega, fun j hj hjk => ?_, hb.trans (hb1.mono hb.size)⟩, by simp [intOf]; omega⟩
          by_cases e : j = k
          · subst e; exact szF_ok l1 h0
          · exact hS j hj (by omega)
      · obtain rfl : k = L.length := by omega
        go_wp2
        go_ret
        exact ⟨left, rfl, by omega, l1, fun _ => ⟨hn2, fun i h => hS i h h⟩, hb⟩

theorem szFs_any (A : Option Addr) (L : List Fil) (c : Nat) (w : World) (hL : Fls w w.heap.size A L) :
    Calls Tryd.prog 24 #[.agg #[.slice A L.length c], .int .i64 1048576] w fun e w' => ∃ r : Int, e = .returned (.int .i64 r) ∧ -1 ≤ r ∧ r ≤ 1048576 ∧ (0 ≤ r → Small L) ∧ Below w.heap.size w w' := by
  have hb0 : Below w.heap.size w (w.alloc (.cells #[.slice A L.length c] 26)) := (Below.refl _ _).alloc (Nat.le_refl _) _
  have hL1 := (hL.below hb0 (Nat.le_refl _)).mono hb0.size
  go_enter Tryd.func24, Tryd.ntmps24
  go_wp2_with (go_at_call 32; refine (szFileS_any A L c _ hL1).mono ?_; rintro e w1 ⟨r, rfl, r0, r1, hS, hb1⟩)
  · go_ret
    exact ⟨-1, rfl, by omega, by omega, fun h => by omega, hb0.trans (hb1.mono hb0.size)⟩
  · go_ret
    exact ⟨r, rfl, by omega, r1, hS, hb0.trans (hb1.mono hb0.size)⟩

/-- toFile. -/
theorem toFile_any (f : Fil) (w : World) : Calls Tryd.prog 51 #[f.val] w fun e w' => e = .returned f.val ∧ Below w.heap.size w w' := by
  obtain ⟨s0, s1, k⟩ := f
  unfold Fil.val
  simp only
  go_enter Tryd.func51, Tryd.ntmps51
  go_wp2
  refine bodyPost_ret (v := .agg #[.string s0, .string s1, .int .i64 k]) (by simp [results, Tryd.results51, go_sem]) rfl ⟨rfl, ?_⟩
  exact (((Below.refl _ _).alloc (Nat.le_refl _) _).alloc (by simp) _).alloc (by simp; omega) _
end Go.Proofs.YtebkblmejkkhfaaDoor
