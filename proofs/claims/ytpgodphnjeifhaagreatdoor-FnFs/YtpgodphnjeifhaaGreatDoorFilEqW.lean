/- The marks that the exact laws write into rows, to see who owns them. Marks on file systems: written and found again. The comparison that the exact laws make of two file systems: true where both hold the same files. -/
import Derived.Test.YtpgodphnjeifhaaGreatDoorFilRightW
import Derived.Test.YtpgodphnjeifhaaGreatDoorFreshW
namespace Go.Proofs.YtpgodphnjeifhaaGreatDoor
open Go.RowKit
set_option linter.unusedVariables false

/-- The digits of a number; none for 0. -/
def dec (k : Nat) : List UInt8 := if h : k = 0 then [] else dec (k / 10) ++ [(48 + k % 10).toUInt8]
termination_by k
decreasing_by omega
theorem dec_zero : dec 0 = [] := by unfold dec; simp
theorem dec_step {k : Nat} (h : 0 < k) : dec k = dec (k / 10) ++ [(48 + k % 10).toUInt8] := by rw [dec, dif_neg (by omega)]
theorem dec_len : ∀ k, (dec k).length ≤ k := by
  intro k
  induction k using Nat.strongRecOn with
  | ind k ih =>
    by_cases h : k = 0
    · subst h; rw [dec_zero]; simp
    · rw [dec_step (by omega), List.length_append, List.length_singleton]
      have := ih (k / 10) (by omega)
      omega
theorem dec_digit {k : Nat} (h : 0 < k) : ∃ x : UInt8, (x.toNat : Int) = 48 + (k : Int) % 10 ∧ dec k = dec (k / 10) ++ [x] :=
  ⟨(48 + k % 10).toUInt8, by rw [Nat.toUInt8, UInt8.toNat_ofNat']; omega, dec_step h⟩
/-- A mark. -/
def markS (k : Nat) : ByteArray := ⟨(109 :: dec k).toArray⟩

theorem gr_set {w w' : World} {g i : Nat} (h : w.grownBy w' (some g)) (v : Value) : w.grownBy (w'.setCell ⟨g, i, none⟩ v) (some g) :=
  ⟨h.os, h.tape, h.output, by simpa [World.setCell] using h.size, fun k hk hne => (Below.heap_setCell w' _ v k (fun e => hne (by rw [e]))).trans (h.block k hk hne)⟩
theorem gr_below {w w' w2 : World} {row : Option Nat} (h : w.grownBy w' row) (hb : Below w'.heap.size w' w2) : w.grownBy w2 row :=
  ⟨hb.os.trans h.os, hb.tape.trans h.tape, hb.output.trans h.output, Nat.le_trans h.size hb.size, fun k hk hne => (hb.block k (by have := h.size; omega)).trans (h.block k hk hne)⟩
/-- The marks of n files, from k on. -/
def markL (n k : Nat) : List Fil := (List.range n).map fun i => ⟨markS (k + 3 * i), markS (k + 3 * i + 1), ((k + 3 * i + 2 : Nat) : Int)⟩
theorem markL_len (n k : Nat) : (markL n k).length = n := by simp [markL]
theorem markL_get {n k i : Nat} (h : i < n) : (markL n k)[i]'(by rw [markL_len]; exact h) = ⟨markS (k + 3 * i), markS (k + 3 * i + 1), ((k + 3 * i + 2 : Nat) : Int)⟩ := by simp [markL]
theorem markS_size (k : Nat) : (markS k).size ≤ k + 1 := by
  have := dec_len k
  unfold markS
  show (109 :: dec k).toArray.size ≤ _
  simp
  exact this
theorem markL_fits {n k : Nat} (h : k + 3 * n ≤ 4000000) : ∀ f ∈ markL n k, f.fits := by
  intro f hf
  obtain ⟨i, hi, rfl⟩ := List.mem_map.1 hf
  have hi' : i < n := by simpa using hi
  have s0 := markS_size (k + 3 * i)
  have s1 := markS_size (k + 3 * i + 1)
  refine ⟨?_, ?_, ?_, ?_⟩
  · show (markS (k + 3 * i)).size ≤ maxLen
    unfold maxLen; omega
  · show (markS (k + 3 * i + 1)).size ≤ maxLen
    unfold maxLen; omega
  · show (-9223372036854775808 : Int) ≤ ((k + 3 * i + 2 : Nat) : Int)
    omega
  · show ((k + 3 * i + 2 : Nat) : Int) ≤ 9223372036854775807
    omega
/-- Marked up to j. -/
theorem part_set {α : Type} {M L : List α} {j : Nat} (hM : M.length = L.length) (h : j < L.length) : (M.take j ++ L.drop j).set j (M[j]'(by omega)) = M.take (j + 1) ++ L.drop (j + 1) := by
  rw [List.set_append_right _ _ (by simp; omega), List.length_take, show j - min j M.length = 0 by omega, List.drop_eq_getElem_cons h, List.set_cons_zero, List.take_succ_eq_append_getElem (by omega), List.append_assoc]
  rfl

end Go.Proofs.YtpgodphnjeifhaaGreatDoor

namespace Go.Proofs.YtpgodphnjeifhaaGreatDoor
open Go.RowKit
set_option linter.unusedVariables false
end Go.Proofs.YtpgodphnjeifhaaGreatDoor

namespace Go.Proofs.YtpgodphnjeifhaaGreatDoor
open Go.RowKit
set_option linter.unusedVariables false
end Go.Proofs.YtpgodphnjeifhaaGreatDoor
