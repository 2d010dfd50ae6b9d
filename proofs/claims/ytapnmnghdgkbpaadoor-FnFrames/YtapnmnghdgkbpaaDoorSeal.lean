/- Contracts of Seal and Unseal. -/
import Derived.Test.YtapnmnghdgkbpaaDoorJoined
import Derived.Test.YtapnmnghdgkbpaaDoorText
import Derived.Test.YtapnmnghdgkbpaaDoorCrc
import Derived.Test.YtapnmnghdgkbpaaDoorClone
namespace Go.Proofs.YtapnmnghdgkbpaaDoor
open Go.RowKit
set_option linter.unusedVariables false

def fourN (n : Int) : List Int := [n % 256, n / 256 % 256, n / 65536 % 256, n / 16777216]
theorem conv_four (a b c d : Int) (w : World) :
    (convert 22 9 (.slice (some ⟨w.heap.size, 0, none⟩) 4 4)).run Tryd.prog (w.alloc (.cells #[.int .u8 a, .int .u8 b, .int .u8 c, .int .u8 d] 5)) =
      .ok (.string (strOfNums [a, b, c, d])) (w.alloc (.cells #[.int .u8 a, .int .u8 b, .int .u8 c, .int .u8 d] 5)) :=
  own_string (base := w.heap.size) (n := 4) (ns := [a, b, c, d]) (World.ownsRow_lit w #[.int .u8 a, .int .u8 b, .int .u8 c, .int .u8 d] 4 (Nat.le_refl _) (by decide) rfl)

set_option maxHeartbeats 1600000 in
set_option maxRecDepth 1000000 in
theorem four_any (n : Int) (w : World) (h0 : 0 ≤ n) (h1 : n ≤ 4294967295) :
    Calls Tryd.prog 101 #[.int .i64 n] w fun e w' => e = .returned (.string (strOfNums (fourN n))) ∧ Below w.heap.size w w' := by
  have hcv := conv_four (n % 256) (n / 256 % 256) (n / 65536 % 256) (n / 16777216) w
  go_enter Tryd.func101, Tryd.ntmps101
  go_wp2
  go_ret
  exact ⟨rfl, (Below.refl _ _).alloc (Nat.le_refl _) _⟩

set_option maxHeartbeats 1600000 in
set_option maxRecDepth 1000000 in
theorem crcText_any (n : Int) (w : World) (h0 : 0 ≤ n) (h1 : n ≤ 4294967295) :
    Calls Tryd.prog 94 #[.int .i64 n] w fun e w' => e = .returned (.string (strOfNums (fourN n))) ∧ Below w.heap.size w w' := by
  have hmk : ∀ w, (Instr.makeSlice 22 (.int .i64 4) (.int .i64 4)).run Tryd.prog w = .ok (.slice (some ⟨w.heap.size, 0, none⟩) 4 4) (w.alloc (.cells #[.int .u8 0, .int .u8 0, .int .u8 0, .int .u8 0] 5)) := fun _ => by kernel_rfl
  have hcv := conv_four (n % 256) (n / 256 % 256) (n / 256 / 256 % 256) (n / 256 / 256 / 256) w
  go_enter Tryd.func94, Tryd.ntmps94
  go_wp2
  refine wp_loop_rounds 5 ?_
  rw [rounds_succ]
  go_wp2
  rw [rounds_succ]
  go_wp2
  rw [rounds_succ]
  go_wp2
  rw [rounds_succ]
  go_wp2
  rw [rounds_succ]
  go_wp2
  go_ret
  refine ⟨retS ?_, (Below.refl _ _).alloc (Nat.le_refl _) _⟩
  have e2 : n / 256 / 256 = n / 65536 := by omega
  have e3 : n / 65536 / 256 = n / 16777216 := by omega
  rw [e2, e3]
  rfl

noncomputable def sealS (t : ByteArray) : ByteArray := t ++ strOfNums (fourN (crcOf 0 t))
theorem four_size (n : Int) : (strOfNums (fourN n)).size = 4 := by rw [strOfNums_size]; rfl

set_option maxHeartbeats 1000000 in
theorem specSeal_any (t : ByteArray) (w : World) (h : t.size ≤ 19996) :
    Calls Tryd.prog 62 #[.string t] w fun e w' => e = .returned (.string (sealS t)) ∧ Below w.heap.size w w' := by
  obtain ⟨c0, c1⟩ := crcOf_bd 0 t
  have HC := Lib.hid (fun w => l01Crc_any 0 t w (by omega) (by omega) (by unfold maxLen; omega))
  obtain ⟨c, HE⟩ : ∃ c, Hid (crcOf 0 t = c) := ⟨_, rfl⟩
  rw [HE.out] at HC c0 c1
  have HF := Lib.hid (fun w => four_any c w c0 c1)
  have hsz := Lib.hid (four_size c)
  obtain ⟨s, HS⟩ : ∃ s, Hid (strOfNums (fourN c) = s) := ⟨_, rfl⟩
  rw [HS.out] at HF hsz
  have hs4 : s.size ≤ 4 := Nat.le_of_eq hsz.out
  go_enter Tryd.func62, Tryd.ntmps62
  go_wp2_with (first
    | (go_at_call 102; refine (HC.out _).mono ?_; rintro e w1 ⟨rfl, rfl⟩)
    | (go_at_call 101; refine (HF.out _).mono ?_; rintro e w2 ⟨rfl, hb2⟩))
  go_ret
  exact ⟨retS (by unfold sealS; rw [HE.out, HS.out]), hb2⟩

set_option maxHeartbeats 1000000 in
theorem specSeal_out (t : ByteArray) (w : World) (hs : t.size ≤ maxLen) (h : 19996 < t.size) :
    Calls Tryd.prog 62 #[.string t] w fun e w' => e = .returned (.string ⟨#[]⟩) ∧ Below w.heap.size w w' := by
  unfold maxLen at hs
  go_enter Tryd.func62, Tryd.ntmps62
  go_wp2
  go_ret
  exact ⟨rfl, Below.refl _ _⟩

set_option maxHeartbeats 1000000 in
theorem implSeal_any (t : ByteArray) (w : World) (h : t.size ≤ 19996) :
    Calls Tryd.prog 60 #[.string t] w fun e w' => e = .returned (.string (sealS t)) ∧ Below w.heap.size w w' := by
  obtain ⟨c0, c1⟩ := crcOf_bd 0 t
  have HC := Lib.hid (fun w => implCrc_any t w (by omega))
  obtain ⟨c, HE⟩ : ∃ c, Hid (crcOf 0 t = c) := ⟨_, rfl⟩
  rw [HE.out] at HC c0 c1
  have HF := Lib.hid (fun w => crcText_any c w c0 c1)
  have hsz := Lib.hid (four_size c)
  obtain ⟨s, HS⟩ : ∃ s, Hid (strOfNums (fourN c) = s) := ⟨_, rfl⟩
  rw [HS.out] at HF hsz
  have hs4 : s.size ≤ 4 := Nat.le_of_eq hsz.out
  go_enter Tryd.func60, Tryd.ntmps60
  go_wp2_with (first
    | (go_at_call 95; refine (HC.out _).mono ?_; rintro e w1 ⟨rfl, rfl⟩)
    | (go_at_call 94; refine (HF.out _).mono ?_; rintro e w2 ⟨rfl, hb2⟩)
    | (go_at_call 98; refine (joined_any _ _ _ (by omega)).mono ?_; rintro e w3 ⟨rfl, hb3⟩))
  go_ret
  exact ⟨retS (by unfold sealS; rw [HE.out, HS.out]), hb2.trans (hb3.mono hb2.size)⟩

set_option maxHeartbeats 1000000 in
theorem implSeal_out (t : ByteArray) (w : World) (hs : t.size ≤ maxLen) (h : 19996 < t.size) :
    Calls Tryd.prog 60 #[.string t] w fun e w' => e = .returned (.string ⟨#[]⟩) ∧ Below w.heap.size w w' := by
  unfold maxLen at hs
  go_enter Tryd.func60, Tryd.ntmps60
  go_wp2
  go_ret
  exact ⟨rfl, Below.refl _ _⟩

end Go.Proofs.YtapnmnghdgkbpaaDoor
