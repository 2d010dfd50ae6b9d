/- Contracts of PutText: spec and impl answer the same string. Contracts of the CRC functions: spec and impl answer the same number crcOf. Contracts of Seal and Unseal. -/
import Derived.Test.YtebkblmejkkhfaaGreatDoorFApW
import Derived.Test.YtebkblmejkkhfaaGreatDoorNumW
import Derived.Test.YtebkblmejkkhfaaGreatDoorCloneW
import Derived.Test.YtebkblmejkkhfaaGreatDoorRowW
import Derived.WalkKit
import Derived.Below
import Derived.Lib.Hide
import Derived.Laws.BitsAllLaws
import Derived.Laws.Closers25b
namespace Go.Proofs.YtebkblmejkkhfaaGreatDoor
open Go.RowKit
set_option linter.unusedVariables false

def ptext (t : ByteArray) : ByteArray := strOfNums (vint (zig t.size)) ++ t
theorem vint_size (t : ByteArray) (h : t.size ≤ 1048576) : (strOfNums (vint (zig t.size))).size ≤ 10 := by
  rw [strOfNums_size]; exact vint_len10 _ (zig_lt (by omega) (by omega))

set_option maxHeartbeats 1000000 in
theorem specPutText_any (t : ByteArray) (w : World) (h : t.size ≤ 20000) :
    Calls Tryz.prog 136 #[.string t] w fun e w' => e = .returned (.string (ptext t)) ∧ Below w.heap.size w w' := by
  have HV := Lib.hid (fun w => specPutNum_any t.size w (by omega) (by omega))
  have hv := vint_size t (by omega)
  obtain ⟨s, HE⟩ : ∃ s, Hid (strOfNums (vint (zig t.size)) = s) := ⟨_, rfl⟩
  rw [HE.out] at HV hv
  go_enter Tryz.func136, Tryz.ntmps136
  go_wp2_with (go_at_call 163; refine (HV.out _).mono ?_; rintro e w1 ⟨rfl, hb1⟩)
  go_ret
  exact ⟨retS (by unfold ptext; rw [HE.out]), hb1⟩

set_option maxHeartbeats 1000000 in
theorem specPutText_out (t : ByteArray) (w : World) (hs : t.size ≤ maxLen) (h : 20000 < t.size) :
    Calls Tryz.prog 136 #[.string t] w fun e w' => e = .returned (.string ⟨#[]⟩) ∧ Below w.heap.size w w' := by
  unfold maxLen at hs
  go_enter Tryz.func136, Tryz.ntmps136
  go_wp2
  go_ret
  exact ⟨rfl, Below.refl _ _⟩

set_option maxHeartbeats 1000000 in
theorem implPutText_any (t : ByteArray) (w : World) (h : t.size ≤ 20000) :
    Calls Tryz.prog 140 #[.string t] w fun e w' => e = .returned (.string (ptext t)) ∧ Below w.heap.size w w' := by
  have HV := Lib.hid (fun w => implPutNum_any t.size w (by omega) (by omega))
  have hv := vint_size t (by omega)
  obtain ⟨s, HE⟩ : ∃ s, Hid (strOfNums (vint (zig t.size)) = s) := ⟨_, rfl⟩
  rw [HE.out] at HV hv
  go_enter Tryz.func140, Tryz.ntmps140
  go_wp2_with (first
    | (go_at_call 74; go_in)
    | (go_at_call 167; refine (HV.out _).mono ?_; rintro e w1 ⟨rfl, hb1⟩)
    | (go_at_call 129; refine (joined_any _ _ _ (by omega)).mono ?_; rintro e w2 ⟨rfl, hb2⟩))
  go_ret
  exact ⟨retS (by unfold ptext; rw [HE.out]), hb1.trans (hb2.mono hb1.size)⟩

set_option maxHeartbeats 1000000 in
theorem implPutText_out (t : ByteArray) (w : World) (hs : t.size ≤ maxLen) (h : 20000 < t.size) :
    Calls Tryz.prog 140 #[.string t] w fun e w' => e = .returned (.string ⟨#[]⟩) ∧ Below w.heap.size w w' := by
  unfold maxLen at hs
  go_enter Tryz.func140, Tryz.ntmps140
  go_wp2
  go_ret
  exact ⟨rfl, Below.refl _ _⟩

end Go.Proofs.YtebkblmejkkhfaaGreatDoor

namespace Go.Proofs.YtebkblmejkkhfaaGreatDoor
open Go.RowKit
set_option linter.unusedVariables false

noncomputable def crcBit (r : Int) : Int := if (bits BinOp.and IntKind.u32 r 1 == 1) = true then bits BinOp.xor IntKind.u32 (r / 2) 3988292384 else r / 2
noncomputable def crcBits : Nat → Int → Int
  | 0, r => r
  | k + 1, r => crcBit (crcBits k r)
noncomputable def crcByte (r b : Int) : Int := crcBits 8 (bits BinOp.xor IntKind.u32 r b)
noncomputable def crcList (r : Int) (l : List UInt8) : Int := l.foldl (fun q c => crcByte q (c.toNat : Int)) r
noncomputable def crcOf (c : Int) (s : ByteArray) : Int := bits BinOp.xor IntKind.u32 (crcList (bits BinOp.xor IntKind.u32 c 4294967295) s.data.toList) 4294967295

theorem crcBit_on {r : Int} (h : (bits BinOp.and IntKind.u32 r 1 == 1) = true) : crcBit r = bits BinOp.xor IntKind.u32 (r / 2) 3988292384 := by unfold crcBit; rw [if_pos h]
theorem crcBit_off {r : Int} (h : (bits BinOp.and IntKind.u32 r 1 == 1) = false) : crcBit r = r / 2 := by unfold crcBit; rw [if_neg (by rw [h]; decide)]
theorem crcBit_bd {r : Int} (h0 : 0 ≤ r) (h1 : r ≤ 4294967295) : 0 ≤ crcBit r ∧ crcBit r ≤ 4294967295 := by
  unfold crcBit; split
  · exact ⟨bits_lo_u32 _ _ _, bits_hi_u32 _ _ _⟩
  · omega
theorem crcBits_bd {k : Nat} {r : Int} (h0 : 0 ≤ r) (h1 : r ≤ 4294967295) : 0 ≤ crcBits k r ∧ crcBits k r ≤ 4294967295 := by
  induction k with
  | zero => exact ⟨h0, h1⟩
  | succ k ih => exact crcBit_bd ih.1 ih.2
theorem crcByte_bd (r b : Int) : 0 ≤ crcByte r b ∧ crcByte r b ≤ 4294967295 := crcBits_bd (bits_lo_u32 _ _ _) (bits_hi_u32 _ _ _)
theorem crcList_bd {r : Int} (h0 : 0 ≤ r) (h1 : r ≤ 4294967295) (l : List UInt8) : 0 ≤ crcList r l ∧ crcList r l ≤ 4294967295 := by
  unfold crcList
  induction l generalizing r with
  | nil => exact ⟨h0, h1⟩
  | cons a l ih => exact ih (crcByte_bd _ _).1 (crcByte_bd _ _).2
theorem crcOf_bd (c : Int) (s : ByteArray) : 0 ≤ crcOf c s ∧ crcOf c s ≤ 4294967295 := ⟨bits_lo_u32 _ _ _, bits_hi_u32 _ _ _⟩
theorem u32max : IntKind.u32.max = 4294967295 := by decide
theorem xor_full {r : Int} (h0 : 0 ≤ r) (h1 : r ≤ 4294967295) : bits BinOp.xor IntKind.u32 IntKind.u32.max r = bits BinOp.xor IntKind.u32 r 4294967295 := by
  rw [u32max, u32_xor _ _ (by omega) (by omega) h0 (by omega), u32_xor _ _ h0 (by omega) (by omega) (by omega), Nat.xor_comm]
theorem crcList_snoc (r : Int) (s : ByteArray) (k : Nat) (h : k < s.size) : crcList r (s.data.toList.take (k + 1)) = crcByte (crcList r (s.data.toList.take k)) (s[k].toNat : Int) := by
  rw [take_snoc s k h]; unfold crcList; rw [List.foldl_append]; rfl

set_option maxHeartbeats 400000 in
theorem crcStep_any (r b : Int) (w : World) (h0 : 0 ≤ r) (h1 : r ≤ 4294967295) (h2 : 0 ≤ b) (h3 : b ≤ 255) :
    Calls Tryz.prog 198 #[.int .u32 r, .int .u8 b] w fun e w' => e = .returned (.int .u32 (crcByte r b)) ∧ w = w' := by
  have x0 := bits_lo_u32 BinOp.xor r b
  have x1 := bits_hi_u32 BinOp.xor r b
  go_enter Tryz.func198, Tryz.ntmps198
  go_wp2
  go_loop [0, 10] (fun x i => ∃ (k : Nat) (q : Int), k ≤ 8 ∧ Hid (q = crcBits k (bits BinOp.xor IntKind.u32 r b)) ∧ i = .int .i64 k ∧ x = .int .u32 q) (fun _ i => 8 - (intOf i).toNat)
  case atStart => exact ⟨0, _, by omega, rfl, rfl, rfl⟩
  case round =>
    obtain ⟨k, q, hk, HQ, rfl, rfl⟩ := hrel
    obtain ⟨q0, q1⟩ : 0 ≤ q ∧ q ≤ 4294967295 := by rw [HQ.out]; exact crcBits_bd x0 x1
    by_cases hlt : k < 8
    · go_wp2
      · go_round
        case rel => exact ⟨k + 1, _, by omega, (crcBit_on ‹_›).symm.trans (congrArg crcBit HQ.out), by go_num, rfl⟩
        case measure => simp [intOf]; omega
      · go_round
        case rel => exact ⟨k + 1, _, by omega, (crcBit_off ‹_›).symm.trans (congrArg crcBit HQ.out), by go_num, rfl⟩
        case measure => simp [intOf]; omega
    · go_wp2
      go_ret
      exact ⟨retI (by rw [HQ.out, show k = 8 by omega]; rfl), rfl⟩

set_option maxHeartbeats 1000000 in
theorem l01Crc_any (c : Int) (s : ByteArray) (w : World) (h0 : 0 ≤ c) (h1 : c ≤ 4294967295) (hs : s.size ≤ maxLen) :
    Calls Tryz.prog 165 #[.int .i64 c, .string s] w fun e w' => e = .returned (.int .i64 (crcOf c s)) ∧ w = w' := by
  unfold maxLen at hs
  have x0 := bits_lo_u32 BinOp.xor c 4294967295
  have x1 := bits_hi_u32 BinOp.xor c 4294967295
  go_enter Tryz.func165, Tryz.ntmps165
  go_wp2
  go_loop [5, 6] (fun x i => ∃ (k : Nat) (q : Int), k ≤ s.size ∧ Hid (q = crcList (bits BinOp.xor IntKind.u32 c 4294967295) (s.data.toList.take k)) ∧ i = .int .i64 k ∧ x = .int .u32 q) (fun _ i => s.size - (intOf i).toNat)
  case atStart => exact ⟨0, _, by omega, rfl, rfl, rfl⟩
  case round =>
    obtain ⟨k, q, hk, HQ, rfl, rfl⟩ := hrel
    obtain ⟨q0, q1⟩ : 0 ≤ q ∧ q ≤ 4294967295 := by rw [HQ.out]; exact crcList_bd x0 x1 _
    by_cases hlt : k < s.size
    · obtain ⟨b0, b1⟩ := byte_le s k hlt
      have y0 := bits_lo_u32 BinOp.xor q (s[k].toNat : Int)
      have y1 := bits_hi_u32 BinOp.xor q (s[k].toNat : Int)
      have HS := Lib.hid (crcList_snoc (bits BinOp.xor IntKind.u32 c 4294967295) s k hlt)
      go_wp2
      go_loop [5, 7] (fun x i => ∃ (m : Nat) (p : Int), m ≤ 8 ∧ Hid (p = crcBits m (bits BinOp.xor IntKind.u32 q (s[k].toNat : Int))) ∧ i = .int .i64 m ∧ x = .int .u32 p) (fun _ i => 8 - (intOf i).toNat)
      case atStart => exact ⟨0, _, by omega, rfl, rfl, rfl⟩
      case round =>
        obtain ⟨m, p, hm, HP, rfl, rfl⟩ := hrel
        obtain ⟨p0, p1⟩ : 0 ≤ p ∧ p ≤ 4294967295 := by rw [HP.out]; exact crcBits_bd y0 y1
        by_cases hmt : m < 8
        · go_wp2
          · go_round
            case rel => exact ⟨m + 1, _, by omega, (crcBit_on ‹_›).symm.trans (congrArg crcBit HP.out), by go_num, rfl⟩
            case measure => simp [intOf]; omega
          · go_round
            case rel => exact ⟨m + 1, _, by omega, (crcBit_off ‹_›).symm.trans (congrArg crcBit HP.out), by go_num, rfl⟩
            case measure => simp [intOf]; omega
        · go_wp2
          go_round
          case rel => exact ⟨k + 1, _, by omega, by unfold Hid; rw [HS.out, ← HQ.out, HP.out, show m = 8 by omega]; rfl, by go_num, rfl⟩
          case measure => simp [intOf]; omega
    · have z0 := bits_lo_u32 BinOp.xor q 4294967295
      have z1 := bits_hi_u32 BinOp.xor q 4294967295
      go_wp2
      go_ret
      exact ⟨retI (by rw [HQ.out, take_all s k (by omega)]; rfl), rfl⟩

set_option maxHeartbeats 1000000 in
theorem implCrcMore_any (c : Int) (s : ByteArray) (w : World) (h0 : 0 ≤ c) (h1 : c ≤ 4294967295) (hs : s.size ≤ 20000) :
    Calls Tryz.prog 183 #[.int .i64 c, .string s] w fun e w' => e = .returned (.int .i64 (crcOf c s)) ∧ w = w' := by
  have x0 := bits_lo_u32 BinOp.xor IntKind.u32.max c
  have x1 := bits_hi_u32 BinOp.xor IntKind.u32.max c
  have HX := Lib.hid (xor_full h0 h1)
  go_enter Tryz.func183, Tryz.ntmps183
  go_wp2
  go_loop [5, 22] (fun x i => ∃ (k : Nat) (q : Int), k ≤ s.size ∧ Hid (q = crcList (bits BinOp.xor IntKind.u32 IntKind.u32.max c) (s.data.toList.take k)) ∧ i = .int .i64 k ∧ x = .int .u32 q) (fun _ i => s.size - (intOf i).toNat)
  case atStart => exact ⟨0, _, by omega, rfl, rfl, rfl⟩
  case round =>
    obtain ⟨k, q, hk, HQ, rfl, rfl⟩ := hrel
    obtain ⟨q0, q1⟩ : 0 ≤ q ∧ q ≤ 4294967295 := by rw [HQ.out]; exact crcList_bd x0 x1 _
    by_cases hlt : k < s.size
    · obtain ⟨b0, b1⟩ := byte_le s k hlt
      have HS := Lib.hid (crcList_snoc (bits BinOp.xor IntKind.u32 IntKind.u32.max c) s k hlt)
      go_wp2_with (go_at_call 198; refine (crcStep_any _ _ _ (by omega) (by omega) (by omega) (by omega)).mono ?_; rintro e w' ⟨rfl, rfl⟩)
      go_round
      case rel => exact ⟨k + 1, _, by omega, by unfold Hid; rw [HS.out, ← HQ.out], by go_num, rfl⟩
      case measure => simp [intOf]; omega
    · have z0 := bits_lo_u32 BinOp.xor IntKind.u32.max q
      have z1 := bits_hi_u32 BinOp.xor IntKind.u32.max q
      have HZ := Lib.hid (xor_full q0 q1)
      go_wp2
      go_ret
      exact ⟨retI (by rw [HZ.out, HQ.out, take_all s k (by omega), HX.out]; rfl), rfl⟩

set_option maxHeartbeats 1000000 in
theorem implCrcMore_out (c : Int) (s : ByteArray) (w : World) (hs : s.size ≤ maxLen) (h : c < 0 ∨ 4294967295 < c ∨ 20000 < s.size) :
    Calls Tryz.prog 183 #[.int .i64 c, .string s] w fun e w' => e = .returned (.int .i64 0) ∧ w = w' := by
  unfold maxLen at hs
  by_cases k1 : 20000 < s.size <;> by_cases k2 : c < 0 <;> by_cases k3 : 4294967295 < c <;> try omega
  all_goals
    go_enter Tryz.func183, Tryz.ntmps183
    go_wp2
    go_ret
    exact ⟨rfl, rfl⟩

set_option maxHeartbeats 1000000 in
theorem implCrc_any (s : ByteArray) (w : World) (hs : s.size ≤ 20000) :
    Calls Tryz.prog 169 #[.string s] w fun e w' => e = .returned (.int .i64 (crcOf 0 s)) ∧ w = w' := by
  go_enter Tryz.func169, Tryz.ntmps169
  go_wp2_with (go_at_call 183; refine (implCrcMore_any 0 s _ (by omega) (by omega) hs).mono ?_; rintro e w' ⟨rfl, rfl⟩)
  go_ret
  exact ⟨rfl, rfl⟩

set_option maxHeartbeats 1000000 in
theorem implCrc_out (s : ByteArray) (w : World) (hs : s.size ≤ maxLen) (h : 20000 < s.size) :
    Calls Tryz.prog 169 #[.string s] w fun e w' => e = .returned (.int .i64 0) ∧ w = w' := by
  go_enter Tryz.func169, Tryz.ntmps169
  go_wp2_with (go_at_call 183; refine (implCrcMore_out 0 s _ hs (by omega)).mono ?_; rintro e w' ⟨rfl, rfl⟩)
  go_ret
  exact ⟨rfl, rfl⟩

end Go.Proofs.YtebkblmejkkhfaaGreatDoor

namespace Go.Proofs.YtebkblmejkkhfaaGreatDoor
open Go.RowKit
set_option linter.unusedVariables false

def fourN (n : Int) : List Int := [n % 256, n / 256 % 256, n / 65536 % 256, n / 16777216]
theorem conv_four (a b c d : Int) (w : World) :
    (convert 22 9 (.slice (some ⟨w.heap.size, 0, none⟩) 4 4)).run Tryz.prog (w.alloc (.cells #[.int .u8 a, .int .u8 b, .int .u8 c, .int .u8 d] 5)) =
      .ok (.string (strOfNums [a, b, c, d])) (w.alloc (.cells #[.int .u8 a, .int .u8 b, .int .u8 c, .int .u8 d] 5)) :=
  own_string (base := w.heap.size) (n := 4) (ns := [a, b, c, d]) (World.ownsRow_lit w #[.int .u8 a, .int .u8 b, .int .u8 c, .int .u8 d] 4 (Nat.le_refl _) (by decide) rfl)

set_option maxHeartbeats 1600000 in
set_option maxRecDepth 1000000 in
theorem four_any (n : Int) (w : World) (h0 : 0 ≤ n) (h1 : n ≤ 4294967295) :
    Calls Tryz.prog 164 #[.int .i64 n] w fun e w' => e = .returned (.string (strOfNums (fourN n))) ∧ Below w.heap.size w w' := by
  have hcv := conv_four (n % 256) (n / 256 % 256) (n / 65536 % 256) (n / 16777216) w
  go_enter Tryz.func164, Tryz.ntmps164
  go_wp2
  go_ret
  exact ⟨rfl, (Below.refl _ _).alloc (Nat.le_refl _) _⟩

set_option maxHeartbeats 1600000 in
set_option maxRecDepth 1000000 in
theorem crcText_any (n : Int) (w : World) (h0 : 0 ≤ n) (h1 : n ≤ 4294967295) :
    Calls Tryz.prog 168 #[.int .i64 n] w fun e w' => e = .returned (.string (strOfNums (fourN n))) ∧ Below w.heap.size w w' := by
  have hmk : ∀ w, (Instr.makeSlice 22 (.int .i64 4) (.int .i64 4)).run Tryz.prog w = .ok (.slice (some ⟨w.heap.size, 0, none⟩) 4 4) (w.alloc (.cells #[.int .u8 0, .int .u8 0, .int .u8 0, .int .u8 0] 5)) := fun _ => by kernel_rfl
  have hcv := conv_four (n % 256) (n / 256 % 256) (n / 256 / 256 % 256) (n / 256 / 256 / 256) w
  go_enter Tryz.func168, Tryz.ntmps168
  go_wp2
  refine wp_loop_rounds 5 ?_
  rw [rounds_succ]
  go_wp2
  rw [rounds_succ]
  go_wp2
  rw [rounds_succ]
  go_wp2
  rw [rounds_succ]
  go_wp2
  rw [rounds_succ]
  go_wp2
  go_ret
  refine ⟨retS ?_, (Below.refl _ _).alloc (Nat.le_refl _) _⟩
  have e2 : n / 256 / 256 = n / 65536 := by omega
  have e3 : n / 65536 / 256 = n / 16777216 := by omega
  rw [e2, e3]
  rfl

noncomputable def sealS (t : ByteArray) : ByteArray := t ++ strOfNums (fourN (crcOf 0 t))
theorem four_size (n : Int) : (strOfNums (fourN n)).size = 4 := by rw [strOfNums_size]; rfl

set_option maxHeartbeats 1000000 in
theorem specSeal_any (t : ByteArray) (w : World) (h : t.size ≤ 19996) :
    Calls Tryz.prog 137 #[.string t] w fun e w' => e = .returned (.string (sealS t)) ∧ Below w.heap.size w w' := by
  obtain ⟨c0, c1⟩ := crcOf_bd 0 t
  have HC := Lib.hid (fun w => l01Crc_any 0 t w (by omega) (by omega) (by unfold maxLen; omega))
  obtain ⟨c, HE⟩ : ∃ c, Hid (crcOf 0 t = c) := ⟨_, rfl⟩
  rw [HE.out] at HC c0 c1
  have HF := Lib.hid (fun w => four_any c w c0 c1)
  have hsz := Lib.hid (four_size c)
  obtain ⟨s, HS⟩ : ∃ s, Hid (strOfNums (fourN c) = s) := ⟨_, rfl⟩
  rw [HS.out] at HF hsz
  have hs4 : s.size ≤ 4 := Nat.le_of_eq hsz.out
  go_enter Tryz.func137, Tryz.ntmps137
  go_wp2_with (first
    | (go_at_call 165; refine (HC.out _).mono ?_; rintro e w1 ⟨rfl, rfl⟩)
    | (go_at_call 164; refine (HF.out _).mono ?_; rintro e w2 ⟨rfl, hb2⟩))
  go_ret
  exact ⟨retS (by unfold sealS; rw [HE.out, HS.out]), hb2⟩

set_option maxHeartbeats 1000000 in
theorem specSeal_out (t : ByteArray) (w : World) (hs : t.size ≤ maxLen) (h : 19996 < t.size) :
    Calls Tryz.prog 137 #[.string t] w fun e w' => e = .returned (.string ⟨#[]⟩) ∧ Below w.heap.size w w' := by
  unfold maxLen at hs
  go_enter Tryz.func137, Tryz.ntmps137
  go_wp2
  go_ret
  exact ⟨rfl, Below.refl _ _⟩

set_option maxHeartbeats 1000000 in
theorem implSeal_any (t : ByteArray) (w : World) (h : t.size ≤ 19996) :
    Calls Tryz.prog 141 #[.string t] w fun e w' => e = .returned (.string (sealS t)) ∧ Below w.heap.size w w' := by
  obtain ⟨c0, c1⟩ := crcOf_bd 0 t
  have HC := Lib.hid (fun w => implCrc_any t w (by omega))
  obtain ⟨c, HE⟩ : ∃ c, Hid (crcOf 0 t = c) := ⟨_, rfl⟩
  rw [HE.out] at HC c0 c1
  have HF := Lib.hid (fun w => crcText_any c w c0 c1)
  have hsz := Lib.hid (four_size c)
  obtain ⟨s, HS⟩ : ∃ s, Hid (strOfNums (fourN c) = s) := ⟨_, rfl⟩
  rw [HS.out] at HF hsz
  have hs4 : s.size ≤ 4 := Nat.le_of_eq hsz.out
  go_enter Tryz.func141, Tryz.ntmps141
  go_wp2_with (first
    | (go_at_call 169; refine (HC.out _).mono ?_; rintro e w1 ⟨rfl, rfl⟩)
    | (go_at_call 168; refine (HF.out _).mono ?_; rintro e w2 ⟨rfl, hb2⟩)
    | (go_at_call 129; refine (joined_any _ _ _ (by omega)).mono ?_; rintro e w3 ⟨rfl, hb3⟩))
  go_ret
  exact ⟨retS (by unfold sealS; rw [HE.out, HS.out]), hb2.trans (hb3.mono hb2.size)⟩

set_option maxHeartbeats 1000000 in
theorem implSeal_out (t : ByteArray) (w : World) (hs : t.size ≤ maxLen) (h : 19996 < t.size) :
    Calls Tryz.prog 141 #[.string t] w fun e w' => e = .returned (.string ⟨#[]⟩) ∧ Below w.heap.size w w' := by
  unfold maxLen at hs
  go_enter Tryz.func141, Tryz.ntmps141
  go_wp2
  go_ret
  exact ⟨rfl, Below.refl _ _⟩

end Go.Proofs.YtebkblmejkkhfaaGreatDoor
