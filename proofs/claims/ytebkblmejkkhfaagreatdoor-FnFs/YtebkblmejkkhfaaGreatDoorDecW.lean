/- spec.l01Dec of a number that is not negative: its decimal digits. -/
import Derived.Test.YtebkblmejkkhfaaGreatDoorRowW
import Derived.Lib.ItoaMem
namespace Go.Proofs.YtebkblmejkkhfaaGreatDoor
open Go.RowKit
set_option linter.unusedVariables false
set_option maxRecDepth 1000000

theorem one_str8 (b : Int) (w : World) : (convert 22 9 (.slice (some ⟨w.heap.size, 0, none⟩) 1 1)).run Tryz.prog (w.alloc (.cells #[.int .u8 b] 5)) = .ok (.string (strOfNums [b])) (w.alloc (.cells #[.int .u8 b] 5)) :=
  own_string (base := w.heap.size) (n := 1) (ns := [b]) (World.ownsRow_lit w #[.int .u8 b] 1 (Nat.le_refl _) (by decide) rfl)
/-- The digits of a number. -/
def decB (n : Nat) : ByteArray := ⟨(Lib.decDigits n).toArray⟩
theorem decB_size (n : Nat) : (decB n).size = Lib.nDigits n := by
  show (Lib.decDigits n).toArray.size = _
  simp [Lib.decDigits_length]
theorem nDigits_le (n : Nat) (h : n ≤ 999999) : 1 ≤ Lib.nDigits n ∧ Lib.nDigits n ≤ 6 := by
  refine ⟨Lib.nDigits_pos n, ?_⟩
  by_cases h1 : n < 10
  · rw [Lib.nDigits_small h1]; omega
  rw [Lib.nDigits_big h1]
  by_cases h2 : n / 10 < 10
  · rw [Lib.nDigits_small h2]; omega
  rw [Lib.nDigits_big h2]
  by_cases h3 : n / 10 / 10 < 10
  · rw [Lib.nDigits_small h3]; omega
  rw [Lib.nDigits_big h3]
  by_cases h4 : n / 10 / 10 / 10 < 10
  · rw [Lib.nDigits_small h4]; omega
  rw [Lib.nDigits_big h4]
  by_cases h5 : n / 10 / 10 / 10 / 10 < 10
  · rw [Lib.nDigits_small h5]; omega
  rw [Lib.nDigits_big h5, Lib.nDigits_small (by omega)]
  omega
theorem decB_step (n q : Nat) (s : ByteArray) (h : 0 < q) (e : decB n = decB q ++ s) : decB n = (if q / 10 = 0 then strOfNums [48 + (q % 10 : Nat)] ++ s else decB (q / 10) ++ (strOfNums [48 + (q % 10 : Nat)] ++ s)) := by
  have hc : strOfNums [48 + ((q % 10 : Nat) : Int)] = ⟨#[UInt8.ofNat (48 + q % 10)]⟩ := by
    unfold strOfNums
    simp only [List.map_cons, List.map_nil]
    congr 3
  rw [e, hc]
  split
  · rename_i h0
    have : q < 10 := by omega
    have e1 : decB q = ⟨#[UInt8.ofNat (48 + q % 10)]⟩ := by
      unfold decB
      rw [Lib.decDigits_one this, Nat.mod_eq_of_lt this]
    rw [e1]
  · rename_i h0
    have : ¬ q < 10 := by omega
    have e1 : decB q = decB (q / 10) ++ ⟨#[UInt8.ofNat (48 + q % 10)]⟩ := by
      unfold decB
      rw [show Lib.decDigits q = Lib.decDigits (q / 10) ++ [UInt8.ofNat (48 + q % 10)] by rw [Lib.decDigits, dif_neg this]]
      rw [← str_append]
    rw [e1, ByteArray.append_assoc]

set_option maxHeartbeats 2000000 in
theorem l01Dec_nat (n : Nat) (w : World) (h1 : n ≤ 999999) :
    Calls Tryz.prog 135 #[.int .i64 (n : Int)] w fun e w' => e = .returned (.string (decB n)) ∧ Below w.heap.size w w' := by
  by_cases hz : n = 0
  · subst hz
    go_enter Tryz.func135, Tryz.ntmps135
    go_wp2
    go_ret
    refine ⟨retS ?_, Below.refl _ _⟩
    unfold decB
    rw [Lib.decDigits_one (by omega)]
    rfl
  have d0 : ((n : Int) == 0) = false := by simp; omega
  have d1 : decide ((n : Int) < 0) = false := by simp
  go_enter Tryz.func135, Tryz.ntmps135
  go_wp2
  go_loopw [0, 4] (fun m o wr => ∃ (q : Nat) (s : ByteArray), m = .int .i64 q ∧ o = .string s ∧ q ≤ 999999 ∧ Hid (if q = 0 then decB n = s else decB n = decB q ++ s) ∧ s.size ≤ 6 ∧ Below w.heap.size w wr) (fun m _ _ => (intOf m).toNat)
  case atStart => exact ⟨n, ⟨#[]⟩, rfl, rfl, by omega, Lib.hid (by rw [if_neg hz]; exact (ByteArray.append_empty ..).symm), by show 0 ≤ 6; omega, Below.refl _ _⟩
  case round =>
    obtain ⟨q, s, rfl, rfl, q9, HQ, hss, hb⟩ := hrel
    by_cases hq : q = 0
    · subst hq
      have e := HQ.out
      rw [if_pos rfl] at e
      clear HQ
      have HE := Lib.hid e
      clear e
      go_wp2
      go_ret
      exact ⟨retS HE.out.symm, hb⟩
    · have dz : ((q : Int) != 0) = true := by simpa using hq
      have hm0 := Int.emod_nonneg (q : Int) (show (10 : Int) ≠ 0 by decide)
      have hm1 := Int.emod_lt_of_pos (q : Int) (show (0 : Int) < 10 by decide)
      have dl : decide ((q : Int) % 10 < 0) = false := by simp; omega
      have hcv := fun W => one_str8 (48 + (q : Int) % 10) W
      have e := HQ.out
      rw [if_neg hq] at e
      have HS := Lib.hid (decB_step n q s (by omega) e)
      obtain ⟨c, HC⟩ : ∃ c, Hid (strOfNums [48 + (q : Int) % 10] = c) := ⟨_, Lib.hid rfl⟩
      have hc1 : c.size ≤ 1 := by rw [← HC.out, strOfNums_size]; exact Nat.le_refl _
      rw [HC.out] at hcv
      clear e HQ
      go_wp2
      have e2 : (q : Int) / 10 = ((q / 10 : Nat) : Int) := by omega
      have e3 : (q : Int) % 10 = ((q % 10 : Nat) : Int) := by omega
      have hs := HS.out
      rw [← e3, HC.out] at hs
      have hl := decB_size n
      have hn := (nDigits_le n h1).2
      refine ⟨⟨q / 10, c ++ s, by rw [e2], rfl, by omega, Lib.hid ?_, ?_, hb.alloc hb.size _⟩, by simp [intOf]; omega⟩
      · split
        · rename_i h0; rw [if_pos h0] at hs; exact hs
        · rename_i h0; rw [if_neg h0] at hs; exact hs
      · split at hs
        · rw [← hs]; omega
        · have := congrArg ByteArray.size hs
          rw [ByteArray.size_append (a := decB (q / 10))] at this
          omega
end Go.Proofs.YtebkblmejkkhfaaGreatDoor
