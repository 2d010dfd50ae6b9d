/- Contracts of Seal and Unseal. Contracts of FrameOf: spec and impl answer the same string; the walk of its law. spec.l01Dec of a number that is not negative: its decimal digits. -/
import Derived.Test.YtebkblmejkkhfaaGreatDoorFApW
import Derived.Test.YtebkblmejkkhfaaGreatDoorCrcW
import Derived.Test.YtebkblmejkkhfaaGreatDoorCloneW
import Derived.Test.YtebkblmejkkhfaaGreatDoorNameW
import Derived.Lib.ItoaMem
namespace Go.Proofs.YtebkblmejkkhfaaGreatDoor
open Go.RowKit
set_option linter.unusedVariables false

def fourN (n : Int) : List Int := [n % 256, n / 256 % 256, n / 65536 % 256, n / 16777216]
theorem conv_four (a b c d : Int) (w : World) :
    (convert 22 9 (.slice (some ⟨w.heap.size, 0, none⟩) 4 4)).run Tryz.prog (w.alloc (.cells #[.int .u8 a, .int .u8 b, .int .u8 c, .int .u8 d] 5)) =
      .ok (.string (strOfNums [a, b, c, d])) (w.alloc (.cells #[.int .u8 a, .int .u8 b, .int .u8 c, .int .u8 d] 5)) :=
  own_string (base := w.heap.size) (n := 4) (ns := [a, b, c, d]) (World.ownsRow_lit w #[.int .u8 a, .int .u8 b, .int .u8 c, .int .u8 d] 4 (Nat.le_refl _) (by decide) rfl)

set_option maxHeartbeats 1600000 in
set_option maxRecDepth 1000000 in
theorem four_any (n : Int) (w : World) (h0 : 0 ≤ n) (h1 : n ≤ 4294967295) :
    Calls Tryz.prog 164 #[.int .i64 n] w fun e w' => e = .returned (.string (strOfNums (fourN n))) ∧ Below w.heap.size w w' := by
  have hcv := conv_four (n % 256) (n / 256 % 256) (n / 65536 % 256) (n / 16777216) w
  go_enter Tryz.func164, Tryz.ntmps164
  go_wp2
  go_ret
  exact ⟨rfl, (Below.refl _ _).alloc (Nat.le_refl _) _⟩

set_option maxHeartbeats 1600000 in
set_option maxRecDepth 1000000 in
theorem crcText_any (n : Int) (w : World) (h0 : 0 ≤ n) (h1 : n ≤ 4294967295) :
    Calls Tryz.prog 168 #[.int .i64 n] w fun e w' => e = .returned (.string (strOfNums (fourN n))) ∧ Below w.heap.size w w' := by
  have hmk : ∀ w, (Instr.makeSlice 22 (.int .i64 4) (.int .i64 4)).run Tryz.prog w = .ok (.slice (some ⟨w.heap.size, 0, none⟩) 4 4) (w.alloc (.cells #[.int .u8 0, .int .u8 0, .int .u8 0, .int .u8 0] 5)) := fun _ => by kernel_rfl
  have hcv := conv_four (n % 256) (n / 256 % 256) (n / 256 / 256 % 256) (n / 256 / 256 / 256) w
  go_enter Tryz.func168, Tryz.ntmps168
  go_wp2
  refine wp_loop_rounds 5 ?_
  rw [rounds_succ]
  go_wp2
  rw [rounds_succ]
  go_wp2
  rw [rounds_succ]
  go_wp2
  rw [rounds_succ]
  go_wp2
  rw [rounds_succ]
  go_wp2
  go_ret
  refine ⟨retS ?_, (Below.refl _ _).alloc (Nat.le_refl _) _⟩
  have e2 : n / 256 / 256 = n / 65536 := by omega
  have e3 : n / 65536 / 256 = n / 16777216 := by omega
  rw [e2, e3]
  rfl

noncomputable def sealS (t : ByteArray) : ByteArray := t ++ strOfNums (fourN (crcOf 0 t))
theorem four_size (n : Int) : (strOfNums (fourN n)).size = 4 := by rw [strOfNums_size]; rfl

set_option maxHeartbeats 1000000 in
theorem specSeal_any (t : ByteArray) (w : World) (h : t.size ≤ 19996) :
    Calls Tryz.prog 137 #[.string t] w fun e w' => e = .returned (.string (sealS t)) ∧ Below w.heap.size w w' := by
  obtain ⟨c0, c1⟩ := crcOf_bd 0 t
  have HC := Lib.hid (fun w => l01Crc_any 0 t w (by omega) (by omega) (by unfold maxLen; omega))
  obtain ⟨c, HE⟩ : ∃ c, Hid (crcOf 0 t = c) := ⟨_, rfl⟩
  rw [HE.out] at HC c0 c1
  have HF := Lib.hid (fun w => four_any c w c0 c1)
  have hsz := Lib.hid (four_size c)
  obtain ⟨s, HS⟩ : ∃ s, Hid (strOfNums (fourN c) = s) := ⟨_, rfl⟩
  rw [HS.out] at HF hsz
  have hs4 : s.size ≤ 4 := Nat.le_of_eq hsz.out
  go_enter Tryz.func137, Tryz.ntmps137
  go_wp2_with (first
    | (go_at_call 165; refine (HC.out _).mono ?_; rintro e w1 ⟨rfl, rfl⟩)
    | (go_at_call 164; refine (HF.out _).mono ?_; rintro e w2 ⟨rfl, hb2⟩))
  go_ret
  exact ⟨retS (by unfold sealS; rw [HE.out, HS.out]), hb2⟩

set_option maxHeartbeats 1000000 in
theorem specSeal_out (t : ByteArray) (w : World) (hs : t.size ≤ maxLen) (h : 19996 < t.size) :
    Calls Tryz.prog 137 #[.string t] w fun e w' => e = .returned (.string ⟨#[]⟩) ∧ Below w.heap.size w w' := by
  unfold maxLen at hs
  go_enter Tryz.func137, Tryz.ntmps137
  go_wp2
  go_ret
  exact ⟨rfl, Below.refl _ _⟩

set_option maxHeartbeats 1000000 in
theorem implSeal_any (t : ByteArray) (w : World) (h : t.size ≤ 19996) :
    Calls Tryz.prog 141 #[.string t] w fun e w' => e = .returned (.string (sealS t)) ∧ Below w.heap.size w w' := by
  obtain ⟨c0, c1⟩ := crcOf_bd 0 t
  have HC := Lib.hid (fun w => implCrc_any t w (by omega))
  obtain ⟨c, HE⟩ : ∃ c, Hid (crcOf 0 t = c) := ⟨_, rfl⟩
  rw [HE.out] at HC c0 c1
  have HF := Lib.hid (fun w => crcText_any c w c0 c1)
  have hsz := Lib.hid (four_size c)
  obtain ⟨s, HS⟩ : ∃ s, Hid (strOfNums (fourN c) = s) := ⟨_, rfl⟩
  rw [HS.out] at HF hsz
  have hs4 : s.size ≤ 4 := Nat.le_of_eq hsz.out
  go_enter Tryz.func141, Tryz.ntmps141
  go_wp2_with (first
    | (go_at_call 169; refine (HC.out _).mono ?_; rintro e w1 ⟨rfl, rfl⟩)
    | (go_at_call 168; refine (HF.out _).mono ?_; rintro e w2 ⟨rfl, hb2⟩)
    | (go_at_call 129; refine (joined_any _ _ _ (by omega)).mono ?_; rintro e w3 ⟨rfl, hb3⟩))
  go_ret
  exact ⟨retS (by unfold sealS; rw [HE.out, HS.out]), hb2.trans (hb3.mono hb2.size)⟩

set_option maxHeartbeats 1000000 in
theorem implSeal_out (t : ByteArray) (w : World) (hs : t.size ≤ maxLen) (h : 19996 < t.size) :
    Calls Tryz.prog 141 #[.string t] w fun e w' => e = .returned (.string ⟨#[]⟩) ∧ Below w.heap.size w w' := by
  unfold maxLen at hs
  go_enter Tryz.func141, Tryz.ntmps141
  go_wp2
  go_ret
  exact ⟨rfl, Below.refl _ _⟩

end Go.Proofs.YtebkblmejkkhfaaGreatDoor

namespace Go.Proofs.YtebkblmejkkhfaaGreatDoor
open Go.RowKit
set_option linter.unusedVariables false

noncomputable def frameS (t : ByteArray) : ByteArray := ptext (sealS t)
theorem sealS_size (t : ByteArray) : (sealS t).size = t.size + 4 := by unfold sealS; rw [ByteArray.size_append, four_size]
theorem vint_low (n : Nat) (h : n ≤ 8000) : (vint (zig n)).length ≤ 2 := vint_len 1 _ (by have := zig_pos (n := (n : Int)) (by omega); omega)
theorem frameS_size (t : ByteArray) (h : t.size ≤ 1000) : t.size + 5 ≤ (frameS t).size ∧ (frameS t).size ≤ t.size + 6 := by
  unfold frameS ptext
  rw [ByteArray.size_append, strOfNums_size, sealS_size]
  have h1 := vint_pos (zig ((t.size + 4 : Nat) : Int))
  have h2 := vint_low (t.size + 4) (by omega)
  omega

set_option maxHeartbeats 1000000 in
theorem specFrameOf_any (t : ByteArray) (w : World) (h : t.size ≤ 1000) :
    Calls Tryz.prog 107 #[.string t] w fun e w' => e = .returned (.string (frameS t)) ∧ Below w.heap.size w w' := by
  have HS := Lib.hid (fun w => specSeal_any t w (by omega))
  have hz := sealS_size t
  obtain ⟨s, HE⟩ : ∃ s, Hid (sealS t = s) := ⟨_, rfl⟩
  rw [HE.out] at HS hz
  have HP := Lib.hid (fun w => specPutText_any s w (by omega))
  obtain ⟨u, HU⟩ : ∃ u, Hid (ptext s = u) := ⟨_, rfl⟩
  rw [HU.out] at HP
  go_enter Tryz.func107, Tryz.ntmps107
  go_wp2_with (first
    | (go_at_call 137; refine (HS.out _).mono ?_; rintro e w1 ⟨rfl, hb1⟩)
    | (go_at_call 136; refine (HP.out _).mono ?_; rintro e w2 ⟨rfl, hb2⟩))
  go_ret
  exact ⟨retS (by unfold frameS; rw [HE.out, HU.out]), hb1.trans (hb2.mono hb1.size)⟩

set_option maxHeartbeats 1000000 in
theorem specFrameOf_out (t : ByteArray) (w : World) (hs : t.size ≤ maxLen) (h : 1000 < t.size) :
    Calls Tryz.prog 107 #[.string t] w fun e w' => e = .returned (.string ⟨#[]⟩) ∧ Below w.heap.size w w' := by
  unfold maxLen at hs
  go_enter Tryz.func107, Tryz.ntmps107
  go_wp2
  go_ret
  exact ⟨rfl, Below.refl _ _⟩

set_option maxHeartbeats 1000000 in
theorem implFrameOf_any (t : ByteArray) (w : World) (h : t.size ≤ 1000) :
    Calls Tryz.prog 111 #[.string t] w fun e w' => e = .returned (.string (frameS t)) ∧ Below w.heap.size w w' := by
  have HS := Lib.hid (fun w => implSeal_any t w (by omega))
  have hz := sealS_size t
  obtain ⟨s, HE⟩ : ∃ s, Hid (sealS t = s) := ⟨_, rfl⟩
  rw [HE.out] at HS hz
  have HP := Lib.hid (fun w => implPutText_any s w (by omega))
  obtain ⟨u, HU⟩ : ∃ u, Hid (ptext s = u) := ⟨_, rfl⟩
  rw [HU.out] at HP
  go_enter Tryz.func111, Tryz.ntmps111
  go_wp2_with (first
    | (go_at_call 141; refine (HS.out _).mono ?_; rintro e w1 ⟨rfl, hb1⟩)
    | (go_at_call 140; refine (HP.out _).mono ?_; rintro e w2 ⟨rfl, hb2⟩))
  go_ret
  exact ⟨retS (by unfold frameS; rw [HE.out, HU.out]), hb1.trans (hb2.mono hb1.size)⟩

set_option maxHeartbeats 1000000 in
theorem implFrameOf_out (t : ByteArray) (w : World) (hs : t.size ≤ maxLen) (h : 1000 < t.size) :
    Calls Tryz.prog 111 #[.string t] w fun e w' => e = .returned (.string ⟨#[]⟩) ∧ Below w.heap.size w w' := by
  unfold maxLen at hs
  go_enter Tryz.func111, Tryz.ntmps111
  go_wp2
  go_ret
  exact ⟨rfl, Below.refl _ _⟩

end Go.Proofs.YtebkblmejkkhfaaGreatDoor

namespace Go.Proofs.YtebkblmejkkhfaaGreatDoor
open Go.RowKit
set_option linter.unusedVariables false
set_option maxRecDepth 1000000

theorem one_str8 (b : Int) (w : World) : (convert 22 9 (.slice (some ⟨w.heap.size, 0, none⟩) 1 1)).run Tryz.prog (w.alloc (.cells #[.int .u8 b] 5)) = .ok (.string (strOfNums [b])) (w.alloc (.cells #[.int .u8 b] 5)) :=
  own_string (base := w.heap.size) (n := 1) (ns := [b]) (World.ownsRow_lit w #[.int .u8 b] 1 (Nat.le_refl _) (by decide) rfl)
/-- The digits of a number. -/
def decB (n : Nat) : ByteArray := ⟨(Lib.decDigits n).toArray⟩
theorem decB_size (n : Nat) : (decB n).size = Lib.nDigits n := by
  show (Lib.decDigits n).toArray.size = _
  simp [Lib.decDigits_length]
theorem nDigits_le (n : Nat) (h : n ≤ 999999) : 1 ≤ Lib.nDigits n ∧ Lib.nDigits n ≤ 6 := by
  refine ⟨Lib.nDigits_pos n, ?_⟩
  by_cases h1 : n < 10
  · rw [Lib.nDigits_small h1]; omega
  rw [Lib.nDigits_big h1]
  by_cases h2 : n / 10 < 10
  · rw [Lib.nDigits_small h2]; omega
  rw [Lib.nDigits_big h2]
  by_cases h3 : n / 10 / 10 < 10
  · rw [Lib.nDigits_small h3]; omega
  rw [Lib.nDigits_big h3]
  by_cases h4 : n / 10 / 10 / 10 < 10
  · rw [Lib.nDigits_small h4]; omega
  rw [Lib.nDigits_big h4]
  by_cases h5 : n / 10 / 10 / 10 / 10 < 10
  · rw [Lib.nDigits_small h5]; omega
  rw [Lib.nDigits_big h5, Lib.nDigits_small (by omega)]
  omega
theorem decB_step (n q : Nat) (s : ByteArray) (h : 0 < q) (e : decB n = decB q ++ s) : decB n = (if q / 10 = 0 then strOfNums [48 + (q % 10 : Nat)] ++ s else decB (q / 10) ++ (strOfNums [48 + (q % 10 : Nat)] ++ s)) := by
  have hc : strOfNums [48 + ((q % 10 : Nat) : Int)] = ⟨#[UInt8.ofNat (48 + q % 10)]⟩ := by
    unfold strOfNums
    simp only [List.map_cons, List.map_nil]
    congr 3
  rw [e, hc]
  split
  · rename_i h0
    have : q < 10 := by omega
    have e1 : decB q = ⟨#[UInt8.ofNat (48 + q % 10)]⟩ := by
      unfold decB
      rw [Lib.decDigits_one this, Nat.mod_eq_of_lt this]
    rw [e1]
  · rename_i h0
    have : ¬ q < 10 := by omega
    have e1 : decB q = decB (q / 10) ++ ⟨#[UInt8.ofNat (48 + q % 10)]⟩ := by
      unfold decB
      rw [show Lib.decDigits q = Lib.decDigits (q / 10) ++ [UInt8.ofNat (48 + q % 10)] by rw [Lib.decDigits, dif_neg this]]
      rw [← str_append]
    rw [e1, ByteArray.append_assoc]

set_option maxHeartbeats 2000000 in
theorem l01Dec_nat (n : Nat) (w : World) (h1 : n ≤ 999999) :
    Calls Tryz.prog 135 #[.int .i64 (n : Int)] w fun e w' => e = .returned (.string (decB n)) ∧ Below w.heap.size w w' := by
  by_cases hz : n = 0
  · subst hz
    go_enter Tryz.func135, Tryz.ntmps135
    go_wp2
    go_ret
    refine ⟨retS ?_, Below.refl _ _⟩
    unfold decB
    rw [Lib.decDigits_one (by omega)]
    rfl
  have d0 : ((n : Int) == 0) = false := by simp; omega
  have d1 : decide ((n : Int) < 0) = false := by simp
  go_enter Tryz.func135, Tryz.ntmps135
  go_wp2
  go_loopw [0, 4] (fun m o wr => ∃ (q : Nat) (s : ByteArray), m = .int .i64 q ∧ o = .string s ∧ q ≤ 999999 ∧ Hid (if q = 0 then decB n = s else decB n = decB q ++ s) ∧ s.size ≤ 6 ∧ Below w.heap.size w wr) (fun m _ _ => (intOf m).toNat)
  case atStart => exact ⟨n, ⟨#[]⟩, rfl, rfl, by omega, Lib.hid (by rw [if_neg hz]; exact (ByteArray.append_empty ..).symm), by show 0 ≤ 6; omega, Below.refl _ _⟩
  case round =>
    obtain ⟨q, s, rfl, rfl, q9, HQ, hss, hb⟩ := hrel
    by_cases hq : q = 0
    · subst hq
      have e := HQ.out
      rw [if_pos rfl] at e
      clear HQ
      have HE := Lib.hid e
      clear e
      go_wp2
      go_ret
      exact ⟨retS HE.out.symm, hb⟩
    · have dz : ((q : Int) != 0) = true := by simpa using hq
      have hm0 := Int.emod_nonneg (q : Int) (show (10 : Int) ≠ 0 by decide)
      have hm1 := Int.emod_lt_of_pos (q : Int) (show (0 : Int) < 10 by decide)
      have dl : decide ((q : Int) % 10 < 0) = false := by simp; omega
      have hcv := fun W => one_str8 (48 + (q : Int) % 10) W
      have e := HQ.out
      rw [if_neg hq] at e
      have HS := Lib.hid (decB_step n q s (by omega) e)
      obtain ⟨c, HC⟩ : ∃ c, Hid (strOfNums [48 + (q : Int) % 10] = c) := ⟨_, Lib.hid rfl⟩
      have hc1 : c.size ≤ 1 := by rw [← HC.out, strOfNums_size]; exact Nat.le_refl _
      rw [HC.out] at hcv
      clear e HQ
      go_wp2
      have e2 : (q : Int) / 10 = ((q / 10 : Nat) : Int) := by omega
      have e3 : (q : Int) % 10 = ((q % 10 : Nat) : Int) := by omega
      have hs := HS.out
      rw [← e3, HC.out] at hs
      have hl := decB_size n
      have hn := (nDigits_le n h1).2
      refine ⟨⟨q / 10, c ++ s, by rw [e2], rfl, by omega, Lib.hid ?_, ?_, hb.alloc hb.size _⟩, by simp [intOf]; omega⟩
      · split
        · rename_i h0; rw [if_pos h0] at hs; exact hs
        · rename_i h0; rw [if_neg h0] at hs; exact hs
      · split at hs
        · rw [← hs]; omega
        · have := congrArg ByteArray.size hs
          rw [ByteArray.size_append (a := decB (q / 10))] at this
          omega
end Go.Proofs.YtebkblmejkkhfaaGreatDoor
