/- Contracts of PutNum: spec and impl answer the same string, strOfNums (vint (zig n)). Contracts of PutText: spec and impl answer the same string. Contracts of the CRC functions: spec and impl answer the same number crcOf. -/
import Derived.Test.YtebkblmejkkhfaaGreatDoorNameW
import Derived.WalkKit
import Derived.Below
import Derived.Lib.Hide
import Derived.Laws.BitsAllLaws
import Derived.Laws.Closers25b
import Derived.Laws.BytesArg
import Derived.Test.YtebkblmejkkhfaaGreatDoorFApW
import Derived.Test.YtebkblmejkkhfaaGreatDoorCloneW
namespace Go.Proofs.YtebkblmejkkhfaaGreatDoor
open Go.RowKit
set_option linter.unusedVariables false

/-- The seven-bit groups of a number, the lowest first, 128 added to all but the last. -/
def vint (u : Nat) : List Int := if h : u < 128 then [(u : Int)] else ((u % 128 + 128 : Nat) : Int) :: vint (u / 128)
termination_by u
decreasing_by omega
theorem vint_small {u : Nat} (h : u < 128) : vint u = [(u : Int)] := by rw [vint, dif_pos h]
theorem vint_large {u : Nat} (h : ¬ u < 128) : vint u = ((u % 128 + 128 : Nat) : Int) :: vint (u / 128) := by rw [vint, dif_neg h]
theorem vint_len (k : Nat) : ∀ u : Nat, u < 128 ^ (k + 1) → (vint u).length ≤ k + 1 := by
  induction k with
  | zero => intro u h; rw [vint_small (by simpa using h)]; simp
  | succ k ih =>
    intro u h
    by_cases hu : u < 128
    · rw [vint_small hu]; simp
    · rw [vint_large hu]
      have h2 : u / 128 < 128 ^ (k + 1) := by rw [Nat.div_lt_iff_lt_mul (by omega)]; rw [Nat.pow_succ] at h; exact h
      have := ih _ h2
      simp; omega
theorem vint_len10 (u : Nat) (h : u < 18446744073709551616) : (vint u).length ≤ 10 := vint_len 9 u (Nat.lt_of_lt_of_le h (by decide))
theorem vint_pos (u : Nat) : 0 < (vint u).length := by
  by_cases h : u < 128
  · rw [vint_small h]; simp
  · rw [vint_large h]; simp
def zig (n : Int) : Nat := if n < 0 then (-2 * n - 1).toNat else (2 * n).toNat
theorem zig_neg {n : Int} (h : n < 0) : ((zig n : Nat) : Int) = -2 * n - 1 := by unfold zig; rw [if_pos h]; omega
theorem zig_pos {n : Int} (h : 0 ≤ n) : ((zig n : Nat) : Int) = 2 * n := by unfold zig; rw [if_neg (by omega)]; omega
theorem zig_lt {n : Int} (h0 : -9223372036854775808 ≤ n) (h1 : n ≤ 9223372036854775807) : zig n < 18446744073709551616 := by unfold zig; split <;> omega
theorem u64max : IntKind.u64.max = 18446744073709551615 := by decide
theorem not_u64 (a : Nat) (ha : a < 18446744073709551616) : bits BinOp.xor IntKind.u64 IntKind.u64.max (a : Int) = 18446744073709551615 - (a : Int) := by
  show IntKind.u64.wrap ((BitVec.ofInt 64 IntKind.u64.max ^^^ BitVec.ofInt 64 (a : Int)).toNat : Int) = _
  have h1 : BitVec.ofInt 64 IntKind.u64.max = BitVec.allOnes 64 := by decide
  rw [h1, BitVec.allOnes_xor, BitVec.toNat_not, ofInt_u64 a (by omega)]
  simp [IntKind.wrap, IntKind.bits, IntKind.signed]
  omega
theorem zigzag_neg {n : Int} (h0 : -9223372036854775808 ≤ n) (h1 : n < 0) :
    bits BinOp.xor IntKind.u64 IntKind.u64.max (IntKind.u64.wrap (IntKind.u64.wrap n * 2)) = ((zig n : Nat) : Int) := by
  have e : IntKind.u64.wrap (IntKind.u64.wrap n * 2) = ((2 * n + 18446744073709551616).toNat : Int) := by
    rw [IntKind.wrap_u64, IntKind.wrap_u64]; omega
  rw [e, not_u64 _ (by omega), zig_neg h1]; omega
set_option maxHeartbeats 400000 in
theorem fold_any (n : Int) (w : World) (h0 : -9223372036854775808 ≤ n) (h1 : n ≤ 9223372036854775807) :
    Calls Tryz.prog 177 #[.int .i64 n] w fun e w' => e = .returned (.int .u64 (zig n : Nat)) ∧ w = w' := by
  by_cases hneg : n < 0
  · go_enter Tryz.func177, Tryz.ntmps177
    go_wp2
    go_ret
    exact ⟨retI (by rw [zig_neg hneg]; omega), rfl⟩
  · have h' : 0 ≤ n := by omega
    go_enter Tryz.func177, Tryz.ntmps177
    go_wp2
    go_ret
    exact ⟨retI (by rw [zig_pos h']), rfl⟩

set_option maxHeartbeats 400000 in
theorem zigzag_any (n : Int) (w : World) (h0 : -9223372036854775808 ≤ n) (h1 : n ≤ 9223372036854775807) :
    Calls Tryz.prog 182 #[.int .i64 n] w fun e w' => e = .returned (.int .u64 (zig n : Nat)) ∧ w = w' := by
  by_cases hneg : n < 0
  · go_enter Tryz.func182, Tryz.ntmps182
    go_wp2
    all_goals go_ret
    all_goals first | (exact absurd ‹IntKind.u64.signed = true› (by decide)) | exact ⟨retI (zigzag_neg h0 hneg), rfl⟩
  · have h' : 0 ≤ n := by omega
    go_enter Tryz.func182, Tryz.ntmps182
    go_wp2
    go_ret
    exact ⟨retI (by rw [zig_pos h']; omega), rfl⟩

theorem vint_stop {acc : List Int} {u u0 : Nat} (h : acc ++ vint u = vint u0) (hu : u < 128) : acc ++ [(u : Int)] = vint u0 := by rw [← h, vint_small hu]
theorem vint_next {acc : List Int} {u u0 : Nat} (h : acc ++ vint u = vint u0) (hu : ¬ u < 128) : (acc ++ [((u % 128 + 128 : Nat) : Int)]) ++ vint (u / 128) = vint u0 := by
  rw [← h, vint_large hu]; simp
theorem vint_room {acc : List Int} {u u0 : Nat} (h : acc ++ vint u = vint u0) (h0 : u0 < 18446744073709551616) : acc.length + 1 ≤ 10 := by
  have := vint_len10 u0 h0
  rw [← h, List.length_append] at this
  have := vint_pos u
  omega
theorem wrap_div {u u0 : Nat} (h : u ≤ u0) (h0 : u0 < 18446744073709551616) : IntKind.u64.wrap ((u : Int) / 128) = ((u / 128 : Nat) : Int) := by rw [IntKind.wrap_u64]; omega
theorem vbyte {u u0 : Nat} (h : u ≤ u0) (h0 : u0 < 18446744073709551616) : bits BinOp.or IntKind.u8 (bits BinOp.and IntKind.u64 (u : Int) 127 % 256) 128 = ((u % 128 + 128 : Nat) : Int) := by
  have e1 : bits BinOp.and IntKind.u64 (u : Int) 127 = ((u % 128 : Nat) : Int) := by
    have := u64_and_nat u 127 (by omega) (by omega)
    rw [show (127 : Int) = ((127 : Nat) : Int) from rfl, this, show (127 : Nat) = 2 ^ 7 - 1 from rfl, Nat.and_two_pow_sub_one_eq_mod]
  have e2 : ((u % 128 : Nat) : Int) % 256 = ((u % 128 : Nat) : Int) := by omega
  have hm : u % 128 < 128 := Nat.mod_lt _ (by omega)
  rw [e1, e2, show (128 : Int) = ((128 : Nat) : Int) from rfl, u8_or_nat _ 128 (by omega) (by omega)]
  have : u % 128 ||| 128 = u % 128 + 128 := by
    have := Nat.two_pow_add_eq_or_of_lt (i := 7) (b := u % 128) (by simpa using hm) 1
    rw [show 2 ^ 7 * 1 = 128 from rfl] at this
    rw [Nat.or_comm]; omega
  rw [this]
theorem room_len {n : Nat} (h : n + 1 ≤ 10) : n + 1 ≤ maxLen := by unfold maxLen; omega

set_option maxHeartbeats 1600000 in
set_option maxRecDepth 1000000 in
theorem specPutNum_any (n : Int) (w : World) (h0 : -9223372036854775808 ≤ n) (h1 : n ≤ 9223372036854775807) :
    Calls Tryz.prog 163 #[.int .i64 n] w fun e w' => e = .returned (.string (strOfNums (vint (zig n)))) ∧ Below w.heap.size w w' := by
  have HZ := Lib.hid (zig_lt h0 h1)
  obtain ⟨u0, HU⟩ : ∃ u0, Hid (zig n = u0) := ⟨_, rfl⟩
  have hu0 : Hid (u0 < 18446744073709551616) := HU.out ▸ HZ.out
  obtain ⟨i0, hi, hz0, hz1, hz2⟩ := info_parts infoU8
  go_enter Tryz.func163, Tryz.ntmps163
  go_wp2_with (go_at_call 177; refine (fold_any _ _ h0 h1).mono ?_; rintro e w' ⟨rfl, rfl⟩; rw [HU.out])
  go_loopw [3, 4] (fun x v wr => ∃ (u : Nat) (acc : List Int), u ≤ u0 ∧ Hid (acc ++ vint u = vint u0) ∧ x = .int .u64 u ∧ wr.ownsRow w.heap.size 5 1 v acc.length (acc.map (Value.int .u8)) ∧ Below w.heap.size w wr) (fun x _ _ => (intOf x).toNat)
  case atStart => exact ⟨u0, [], Nat.le_refl _, rfl, rfl, World.ownsRow_lit w #[] 0 (Nat.le_refl _) (by simp) (by simp), (Below.refl _ _).alloc (Nat.le_refl _) _⟩
  case round =>
    obtain ⟨u, acc, hu, HA, rfl, hown, hb⟩ := hrel
    have hroom := vint_room HA.out hu0.out
    by_cases hlt : u < 128
    · have hc : 128 ≤ (u : Int) → False := by omega
      have HS := Lib.hid (vint_stop HA.out hlt)
      go_wp2_with (at_builtin; refine wpList_append_own _ rfl _ _ 22 rfl w.heap.size 5 i0 (.int .u8 0) 1 1 Tryz.underlying22 hi hz0 hz1 hz2 rfl (by decide) _ _ _ rfl (hown.alloc _) ⟨wr.heap.size, 0, none⟩ 1 1 [.int .u8 (u : Int)] rfl rfl (one_cell _ _ _) (one_oneCell _ _) (room_len hroom) (by omega) (by have := hb.size; simp; omega) ?_)
      intro v' w1 hown' hgrow _
      have hb1 := below_app hb (Nat.le_refl _) hown hgrow
      have hcv := own_string (own_snoc hown')
      clear hown' hgrow hown hb
      go_wp2
      go_ret
      exact ⟨retS (by rw [HS.out, HU.out]), hb1⟩
    · have hge : 128 ≤ u := by omega
      have HS := Lib.hid (vint_next HA.out hlt)
      have HW := Lib.hid (wrap_div hu hu0.out)
      go_wp2_with (at_builtin; refine wpList_append_own _ rfl _ _ 22 rfl w.heap.size 5 i0 (.int .u8 0) 1 1 Tryz.underlying22 hi hz0 hz1 hz2 rfl (by decide) _ _ _ rfl (hown.alloc _) ⟨wr.heap.size, 0, none⟩ 1 1 [.int .u8 ((u : Int) % 128 + 128)] rfl rfl (one_cell _ _ _) (one_oneCell _ _) (room_len hroom) (by omega) (by have := hb.size; simp; omega) ?_)
      intro v' w1 hown' hgrow _
      have hb1 := below_app hb (Nat.le_refl _) hown hgrow
      have hown1 := own_snoc hown'
      clear hown' hgrow hown hb
      go_wp2
      go_roundw
      case rel => exact ⟨u / 128, acc ++ [((u % 128 + 128 : Nat) : Int)], by omega, HS.out, by rw [HW.out], by simpa using hown1, hb1⟩
      case measure => rw [HW.out]; simp [intOf]; omega

set_option maxHeartbeats 1600000 in
set_option maxRecDepth 1000000 in
theorem implPutNum_any (n : Int) (w : World) (h0 : -9223372036854775808 ≤ n) (h1 : n ≤ 9223372036854775807) :
    Calls Tryz.prog 167 #[.int .i64 n] w fun e w' => e = .returned (.string (strOfNums (vint (zig n)))) ∧ Below w.heap.size w w' := by
  have HZ := Lib.hid (zig_lt h0 h1)
  obtain ⟨u0, HU⟩ : ∃ u0, Hid (zig n = u0) := ⟨_, rfl⟩
  have hu0 : Hid (u0 < 18446744073709551616) := HU.out ▸ HZ.out
  obtain ⟨i0, hi, hz0, hz1, hz2⟩ := info_parts infoU8
  go_enter Tryz.func167, Tryz.ntmps167
  go_wp2_with (first
    | (go_at_call 182; refine (zigzag_any _ _ h0 h1).mono ?_; rintro e w' ⟨rfl, rfl⟩; rw [HU.out])
    | (at_make; refine wpList_make_own _ rfl _ _ 22 rfl w.heap.size 5 i0 (.int .u8 0) 1 Tryz.underlying22 hi hz0 hz1 _ _ _ 10 rfl rfl (by omega) (by rw [hz2]; decide) (by decide) (Nat.le_refl _) ?_; intro w1 hown1 hgrow1))
  have hb1 := (Below.refl w.heap.size w).grown hgrow1 (Nat.le_refl _) (fun k e => by cases e)
  go_loopw [3, 4] (fun x v wr => ∃ (u : Nat) (acc : List Int), u ≤ u0 ∧ Hid (acc ++ vint u = vint u0) ∧ x = .int .u64 u ∧ wr.ownsRow w.heap.size 5 1 v acc.length (acc.map (Value.int .u8)) ∧ Below w.heap.size w wr) (fun x _ _ => (intOf x).toNat)
  case atStart => exact ⟨u0, [], Nat.le_refl _, rfl, rfl, hown1, hb1⟩
  case round =>
    clear hb1 hown1 hgrow1
    obtain ⟨u, acc, hu, HA, rfl, hown, hb⟩ := hrel
    have hroom := vint_room HA.out hu0.out
    by_cases hlt : u < 128
    · have hc : 128 ≤ (u : Int) → False := by omega
      have HS := Lib.hid (vint_stop HA.out hlt)
      go_wp2_with (at_builtin; refine wpList_append_own _ rfl _ _ 22 rfl w.heap.size 5 i0 (.int .u8 0) 1 1 Tryz.underlying22 hi hz0 hz1 hz2 rfl (by decide) _ _ _ rfl (hown.alloc _) ⟨wr.heap.size, 0, none⟩ 1 1 [.int .u8 (u : Int)] rfl rfl (one_cell _ _ _) (one_oneCell _ _) (room_len hroom) (by omega) (by have := hb.size; simp; omega) ?_)
      intro v' w2 hown' hgrow _
      have hb1 := below_app hb (Nat.le_refl _) hown hgrow
      have hcv := own_string (own_snoc hown')
      clear hown' hgrow hown hb
      go_wp2
      go_ret
      exact ⟨retS (by rw [HS.out, HU.out]), hb1⟩
    · have hge : 128 ≤ u := by omega
      have HS := Lib.hid (vint_next HA.out hlt)
      have HB := Lib.hid (vbyte hu hu0.out)
      have HW := Lib.hid (wrap_div hu hu0.out)
      go_wp2_with (at_builtin; refine wpList_append_own _ rfl _ _ 22 rfl w.heap.size 5 i0 (.int .u8 0) 1 1 Tryz.underlying22 hi hz0 hz1 hz2 rfl (by decide) _ _ _ rfl (hown.alloc _) ⟨wr.heap.size, 0, none⟩ 1 1 [.int .u8 (bits BinOp.or IntKind.u8 (bits BinOp.and IntKind.u64 (u : Int) 127 % 256) 128)] rfl rfl (one_cell _ _ _) (one_oneCell _ _) (room_len hroom) (by omega) (by have := hb.size; simp; omega) ?_)
      intro v' w2 hown' hgrow _
      have hb1 := below_app hb (Nat.le_refl _) hown hgrow
      have hown1 := own_snoc hown'
      rw [HB.out] at hown1
      clear hown' hgrow hown hb
      go_wp2
      go_roundw
      case rel => exact ⟨u / 128, acc ++ [((u % 128 + 128 : Nat) : Int)], by omega, HS.out, by first | go_num | rw [HW.out], by simpa using hown1, hb1⟩
      case measure => first | (simp [intOf]; omega) | (rw [HW.out]; simp [intOf]; omega)

end Go.Proofs.YtebkblmejkkhfaaGreatDoor

namespace Go.Proofs.YtebkblmejkkhfaaGreatDoor
open Go.RowKit
set_option linter.unusedVariables false

def ptext (t : ByteArray) : ByteArray := strOfNums (vint (zig t.size)) ++ t
theorem vint_size (t : ByteArray) (h : t.size ≤ 1048576) : (strOfNums (vint (zig t.size))).size ≤ 10 := by
  rw [strOfNums_size]; exact vint_len10 _ (zig_lt (by omega) (by omega))

set_option maxHeartbeats 1000000 in
theorem specPutText_any (t : ByteArray) (w : World) (h : t.size ≤ 20000) :
    Calls Tryz.prog 136 #[.string t] w fun e w' => e = .returned (.string (ptext t)) ∧ Below w.heap.size w w' := by
  have HV := Lib.hid (fun w => specPutNum_any t.size w (by omega) (by omega))
  have hv := vint_size t (by omega)
  obtain ⟨s, HE⟩ : ∃ s, Hid (strOfNums (vint (zig t.size)) = s) := ⟨_, rfl⟩
  rw [HE.out] at HV hv
  go_enter Tryz.func136, Tryz.ntmps136
  go_wp2_with (go_at_call 163; refine (HV.out _).mono ?_; rintro e w1 ⟨rfl, hb1⟩)
  go_ret
  exact ⟨retS (by unfold ptext; rw [HE.out]), hb1⟩

set_option maxHeartbeats 1000000 in
theorem specPutText_out (t : ByteArray) (w : World) (hs : t.size ≤ maxLen) (h : 20000 < t.size) :
    Calls Tryz.prog 136 #[.string t] w fun e w' => e = .returned (.string ⟨#[]⟩) ∧ Below w.heap.size w w' := by
  unfold maxLen at hs
  go_enter Tryz.func136, Tryz.ntmps136
  go_wp2
  go_ret
  exact ⟨rfl, Below.refl _ _⟩

set_option maxHeartbeats 1000000 in
theorem implPutText_any (t : ByteArray) (w : World) (h : t.size ≤ 20000) :
    Calls Tryz.prog 140 #[.string t] w fun e w' => e = .returned (.string (ptext t)) ∧ Below w.heap.size w w' := by
  have HV := Lib.hid (fun w => implPutNum_any t.size w (by omega) (by omega))
  have hv := vint_size t (by omega)
  obtain ⟨s, HE⟩ : ∃ s, Hid (strOfNums (vint (zig t.size)) = s) := ⟨_, rfl⟩
  rw [HE.out] at HV hv
  go_enter Tryz.func140, Tryz.ntmps140
  go_wp2_with (first
    | (go_at_call 74; go_in)
    | (go_at_call 167; refine (HV.out _).mono ?_; rintro e w1 ⟨rfl, hb1⟩)
    | (go_at_call 129; refine (joined_any _ _ _ (by omega)).mono ?_; rintro e w2 ⟨rfl, hb2⟩))
  go_ret
  exact ⟨retS (by unfold ptext; rw [HE.out]), hb1.trans (hb2.mono hb1.size)⟩

set_option maxHeartbeats 1000000 in
theorem implPutText_out (t : ByteArray) (w : World) (hs : t.size ≤ maxLen) (h : 20000 < t.size) :
    Calls Tryz.prog 140 #[.string t] w fun e w' => e = .returned (.string ⟨#[]⟩) ∧ Below w.heap.size w w' := by
  unfold maxLen at hs
  go_enter Tryz.func140, Tryz.ntmps140
  go_wp2
  go_ret
  exact ⟨rfl, Below.refl _ _⟩

end Go.Proofs.YtebkblmejkkhfaaGreatDoor

namespace Go.Proofs.YtebkblmejkkhfaaGreatDoor
open Go.RowKit
set_option linter.unusedVariables false

noncomputable def crcBit (r : Int) : Int := if (bits BinOp.and IntKind.u32 r 1 == 1) = true then bits BinOp.xor IntKind.u32 (r / 2) 3988292384 else r / 2
noncomputable def crcBits : Nat → Int → Int
  | 0, r => r
  | k + 1, r => crcBit (crcBits k r)
noncomputable def crcByte (r b : Int) : Int := crcBits 8 (bits BinOp.xor IntKind.u32 r b)
noncomputable def crcList (r : Int) (l : List UInt8) : Int := l.foldl (fun q c => crcByte q (c.toNat : Int)) r
noncomputable def crcOf (c : Int) (s : ByteArray) : Int := bits BinOp.xor IntKind.u32 (crcList (bits BinOp.xor IntKind.u32 c 4294967295) s.data.toList) 4294967295

theorem crcBit_on {r : Int} (h : (bits BinOp.and IntKind.u32 r 1 == 1) = true) : crcBit r = bits BinOp.xor IntKind.u32 (r / 2) 3988292384 := by unfold crcBit; rw [if_pos h]
theorem crcBit_off {r : Int} (h : (bits BinOp.and IntKind.u32 r 1 == 1) = false) : crcBit r = r / 2 := by unfold crcBit; rw [if_neg (by rw [h]; decide)]
theorem crcBit_bd {r : Int} (h0 : 0 ≤ r) (h1 : r ≤ 4294967295) : 0 ≤ crcBit r ∧ crcBit r ≤ 4294967295 := by
  unfold crcBit; split
  · exact ⟨bits_lo_u32 _ _ _, bits_hi_u32 _ _ _⟩
  · omega
theorem crcBits_bd {k : Nat} {r : Int} (h0 : 0 ≤ r) (h1 : r ≤ 4294967295) : 0 ≤ crcBits k r ∧ crcBits k r ≤ 4294967295 := by
  induction k with
  | zero => exact ⟨h0, h1⟩
  | succ k ih => exact crcBit_bd ih.1 ih.2
theorem crcByte_bd (r b : Int) : 0 ≤ crcByte r b ∧ crcByte r b ≤ 4294967295 := crcBits_bd (bits_lo_u32 _ _ _) (bits_hi_u32 _ _ _)
theorem crcList_bd {r : Int} (h0 : 0 ≤ r) (h1 : r ≤ 4294967295) (l : List UInt8) : 0 ≤ crcList r l ∧ crcList r l ≤ 4294967295 := by
  unfold crcList
  induction l generalizing r with
  | nil => exact ⟨h0, h1⟩
  | cons a l ih => exact ih (crcByte_bd _ _).1 (crcByte_bd _ _).2
theorem crcOf_bd (c : Int) (s : ByteArray) : 0 ≤ crcOf c s ∧ crcOf c s ≤ 4294967295 := ⟨bits_lo_u32 _ _ _, bits_hi_u32 _ _ _⟩
theorem u32max : IntKind.u32.max = 4294967295 := by decide
theorem xor_full {r : Int} (h0 : 0 ≤ r) (h1 : r ≤ 4294967295) : bits BinOp.xor IntKind.u32 IntKind.u32.max r = bits BinOp.xor IntKind.u32 r 4294967295 := by
  rw [u32max, u32_xor _ _ (by omega) (by omega) h0 (by omega), u32_xor _ _ h0 (by omega) (by omega) (by omega), Nat.xor_comm]
theorem crcList_snoc (r : Int) (s : ByteArray) (k : Nat) (h : k < s.size) : crcList r (s.data.toList.take (k + 1)) = crcByte (crcList r (s.data.toList.take k)) (s[k].toNat : Int) := by
  rw [take_snoc s k h]; unfold crcList; rw [List.foldl_append]; rfl

set_option maxHeartbeats 400000 in
theorem crcStep_any (r b : Int) (w : World) (h0 : 0 ≤ r) (h1 : r ≤ 4294967295) (h2 : 0 ≤ b) (h3 : b ≤ 255) :
    Calls Tryz.prog 198 #[.int .u32 r, .int .u8 b] w fun e w' => e = .returned (.int .u32 (crcByte r b)) ∧ w = w' := by
  have x0 := bits_lo_u32 BinOp.xor r b
  have x1 := bits_hi_u32 BinOp.xor r b
  go_enter Tryz.func198, Tryz.ntmps198
  go_wp2
  go_loop [0, 10] (fun x i => ∃ (k : Nat) (q : Int), k ≤ 8 ∧ Hid (q = crcBits k (bits BinOp.xor IntKind.u32 r b)) ∧ i = .int .i64 k ∧ x = .int .u32 q) (fun _ i => 8 - (intOf i).toNat)
  case atStart => exact ⟨0, _, by omega, rfl, rfl, rfl⟩
  case round =>
    obtain ⟨k, q, hk, HQ, rfl, rfl⟩ := hrel
    obtain ⟨q0, q1⟩ : 0 ≤ q ∧ q ≤ 4294967295 := by rw [HQ.out]; exact crcBits_bd x0 x1
    by_cases hlt : k < 8
    · go_wp2
      · go_round
        case rel => exact ⟨k + 1, _, by omega, (crcBit_on ‹_›).symm.trans (congrArg crcBit HQ.out), by go_num, rfl⟩
        case measure => simp [intOf]; omega
      · go_round
        case rel => exact ⟨k + 1, _, by omega, (crcBit_off ‹_›).symm.trans (congrArg crcBit HQ.out), by go_num, rfl⟩
        case measure => simp [intOf]; omega
    · go_wp2
      go_ret
      exact ⟨retI (by rw [HQ.out, show k = 8 by omega]; rfl), rfl⟩

set_option maxHeartbeats 1000000 in
theorem l01Crc_any (c : Int) (s : ByteArray) (w : World) (h0 : 0 ≤ c) (h1 : c ≤ 4294967295) (hs : s.size ≤ maxLen) :
    Calls Tryz.prog 165 #[.int .i64 c, .string s] w fun e w' => e = .returned (.int .i64 (crcOf c s)) ∧ w = w' := by
  unfold maxLen at hs
  have x0 := bits_lo_u32 BinOp.xor c 4294967295
  have x1 := bits_hi_u32 BinOp.xor c 4294967295
  go_enter Tryz.func165, Tryz.ntmps165
  go_wp2
  go_loop [5, 6] (fun x i => ∃ (k : Nat) (q : Int), k ≤ s.size ∧ Hid (q = crcList (bits BinOp.xor IntKind.u32 c 4294967295) (s.data.toList.take k)) ∧ i = .int .i64 k ∧ x = .int .u32 q) (fun _ i => s.size - (intOf i).toNat)
  case atStart => exact ⟨0, _, by omega, rfl, rfl, rfl⟩
  case round =>
    obtain ⟨k, q, hk, HQ, rfl, rfl⟩ := hrel
    obtain ⟨q0, q1⟩ : 0 ≤ q ∧ q ≤ 4294967295 := by rw [HQ.out]; exact crcList_bd x0 x1 _
    by_cases hlt : k < s.size
    · obtain ⟨b0, b1⟩ := byte_le s k hlt
      have y0 := bits_lo_u32 BinOp.xor q (s[k].toNat : Int)
      have y1 := bits_hi_u32 BinOp.xor q (s[k].toNat : Int)
      have HS := Lib.hid (crcList_snoc (bits BinOp.xor IntKind.u32 c 4294967295) s k hlt)
      go_wp2
      go_loop [5, 7] (fun x i => ∃ (m : Nat) (p : Int), m ≤ 8 ∧ Hid (p = crcBits m (bits BinOp.xor IntKind.u32 q (s[k].toNat : Int))) ∧ i = .int .i64 m ∧ x = .int .u32 p) (fun _ i => 8 - (intOf i).toNat)
      case atStart => exact ⟨0, _, by omega, rfl, rfl, rfl⟩
      case round =>
        obtain ⟨m, p, hm, HP, rfl, rfl⟩ := hrel
        obtain ⟨p0, p1⟩ : 0 ≤ p ∧ p ≤ 4294967295 := by rw [HP.out]; exact crcBits_bd y0 y1
        by_cases hmt : m < 8
        · go_wp2
          · go_round
            case rel => exact ⟨m + 1, _, by omega, (crcBit_on ‹_›).symm.trans (congrArg crcBit HP.out), by go_num, rfl⟩
            case measure => simp [intOf]; omega
          · go_round
            case rel => exact ⟨m + 1, _, by omega, (crcBit_off ‹_›).symm.trans (congrArg crcBit HP.out), by go_num, rfl⟩
            case measure => simp [intOf]; omega
        · go_wp2
          go_round
          case rel => exact ⟨k + 1, _, by omega, by unfold Hid; rw [HS.out, ← HQ.out, HP.out, show m = 8 by omega]; rfl, by go_num, rfl⟩
          case measure => simp [intOf]; omega
    · have z0 := bits_lo_u32 BinOp.xor q 4294967295
      have z1 := bits_hi_u32 BinOp.xor q 4294967295
      go_wp2
      go_ret
      exact ⟨retI (by rw [HQ.out, take_all s k (by omega)]; rfl), rfl⟩

set_option maxHeartbeats 1000000 in
theorem implCrcMore_any (c : Int) (s : ByteArray) (w : World) (h0 : 0 ≤ c) (h1 : c ≤ 4294967295) (hs : s.size ≤ 20000) :
    Calls Tryz.prog 183 #[.int .i64 c, .string s] w fun e w' => e = .returned (.int .i64 (crcOf c s)) ∧ w = w' := by
  have x0 := bits_lo_u32 BinOp.xor IntKind.u32.max c
  have x1 := bits_hi_u32 BinOp.xor IntKind.u32.max c
  have HX := Lib.hid (xor_full h0 h1)
  go_enter Tryz.func183, Tryz.ntmps183
  go_wp2
  go_loop [5, 22] (fun x i => ∃ (k : Nat) (q : Int), k ≤ s.size ∧ Hid (q = crcList (bits BinOp.xor IntKind.u32 IntKind.u32.max c) (s.data.toList.take k)) ∧ i = .int .i64 k ∧ x = .int .u32 q) (fun _ i => s.size - (intOf i).toNat)
  case atStart => exact ⟨0, _, by omega, rfl, rfl, rfl⟩
  case round =>
    obtain ⟨k, q, hk, HQ, rfl, rfl⟩ := hrel
    obtain ⟨q0, q1⟩ : 0 ≤ q ∧ q ≤ 4294967295 := by rw [HQ.out]; exact crcList_bd x0 x1 _
    by_cases hlt : k < s.size
    · obtain ⟨b0, b1⟩ := byte_le s k hlt
      have HS := Lib.hid (crcList_snoc (bits BinOp.xor IntKind.u32 IntKind.u32.max c) s k hlt)
      go_wp2_with (go_at_call 198; refine (crcStep_any _ _ _ (by omega) (by omega) (by omega) (by omega)).mono ?_; rintro e w' ⟨rfl, rfl⟩)
      go_round
      case rel => exact ⟨k + 1, _, by omega, by unfold Hid; rw [HS.out, ← HQ.out], by go_num, rfl⟩
      case measure => simp [intOf]; omega
    · have z0 := bits_lo_u32 BinOp.xor IntKind.u32.max q
      have z1 := bits_hi_u32 BinOp.xor IntKind.u32.max q
      have HZ := Lib.hid (xor_full q0 q1)
      go_wp2
      go_ret
      exact ⟨retI (by rw [HZ.out, HQ.out, take_all s k (by omega), HX.out]; rfl), rfl⟩

set_option maxHeartbeats 1000000 in
theorem implCrcMore_out (c : Int) (s : ByteArray) (w : World) (hs : s.size ≤ maxLen) (h : c < 0 ∨ 4294967295 < c ∨ 20000 < s.size) :
    Calls Tryz.prog 183 #[.int .i64 c, .string s] w fun e w' => e = .returned (.int .i64 0) ∧ w = w' := by
  unfold maxLen at hs
  by_cases k1 : 20000 < s.size <;> by_cases k2 : c < 0 <;> by_cases k3 : 4294967295 < c <;> try omega
  all_goals
    go_enter Tryz.func183, Tryz.ntmps183
    go_wp2
    go_ret
    exact ⟨rfl, rfl⟩

set_option maxHeartbeats 1000000 in
theorem implCrc_any (s : ByteArray) (w : World) (hs : s.size ≤ 20000) :
    Calls Tryz.prog 169 #[.string s] w fun e w' => e = .returned (.int .i64 (crcOf 0 s)) ∧ w = w' := by
  go_enter Tryz.func169, Tryz.ntmps169
  go_wp2_with (go_at_call 183; refine (implCrcMore_any 0 s _ (by omega) (by omega) hs).mono ?_; rintro e w' ⟨rfl, rfl⟩)
  go_ret
  exact ⟨rfl, rfl⟩

set_option maxHeartbeats 1000000 in
theorem implCrc_out (s : ByteArray) (w : World) (hs : s.size ≤ maxLen) (h : 20000 < s.size) :
    Calls Tryz.prog 169 #[.string s] w fun e w' => e = .returned (.int .i64 0) ∧ w = w' := by
  go_enter Tryz.func169, Tryz.ntmps169
  go_wp2_with (go_at_call 183; refine (implCrcMore_out 0 s _ hs (by omega)).mono ?_; rintro e w' ⟨rfl, rfl⟩)
  go_ret
  exact ⟨rfl, rfl⟩

end Go.Proofs.YtebkblmejkkhfaaGreatDoor
