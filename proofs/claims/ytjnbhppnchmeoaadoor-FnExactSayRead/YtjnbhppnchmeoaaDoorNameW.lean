/- The contract of impl.joined. Contracts of PutNum: spec and impl answer the same string, strOfNums (vint (zig n)). Contracts of PutText: spec and impl answer the same string. Contracts: spec.NameRight and impl.NameRight both answer nameB of their string. -/
import Derived.Test.YtjnbhppnchmeoaaDoorGtW
import Derived.Test.YtjnbhppnchmeoaaDoorRdW
import Derived.WalkKit
import Derived.Below
import Derived.Lib.Hide
import Derived.Laws.BitsAllLaws
import Derived.Laws.Closers25b
import Derived.Laws.BytesArg
namespace Go.Proofs.YtjnbhppnchmeoaaDoor
open Go.RowKit
set_option linter.unusedVariables false
end Go.Proofs.YtjnbhppnchmeoaaDoor

namespace Go.Proofs.YtjnbhppnchmeoaaDoor
open Go.RowKit
set_option linter.unusedVariables false

/-- The seven-bit groups of a number, the lowest first, 128 added to all but the last. -/
def vint (u : Nat) : List Int := if h : u < 128 then [(u : Int)] else ((u % 128 + 128 : Nat) : Int) :: vint (u / 128)
termination_by u
decreasing_by omega
theorem vint_small {u : Nat} (h : u < 128) : vint u = [(u : Int)] := by rw [vint, dif_pos h]
theorem vint_large {u : Nat} (h : ¬ u < 128) : vint u = ((u % 128 + 128 : Nat) : Int) :: vint (u / 128) := by rw [vint, dif_neg h]
theorem vint_len (k : Nat) : ∀ u : Nat, u < 128 ^ (k + 1) → (vint u).length ≤ k + 1 := by
  induction k with
  | zero => intro u h; rw [vint_small (by simpa using h)]; simp
  | succ k ih =>
    intro u h
    by_cases hu : u < 128
    · rw [vint_small hu]; simp
    · rw [vint_large hu]
      have h2 : u / 128 < 128 ^ (k + 1) := by rw [Nat.div_lt_iff_lt_mul (by omega)]; rw [Nat.pow_succ] at h; exact h
      have := ih _ h2
      simp; omega
theorem vint_len10 (u : Nat) (h : u < 18446744073709551616) : (vint u).length ≤ 10 := vint_len 9 u (Nat.lt_of_lt_of_le h (by decide))
theorem vint_pos (u : Nat) : 0 < (vint u).length := by
  by_cases h : u < 128
  · rw [vint_small h]; simp
  · rw [vint_large h]; simp
def zig (n : Int) : Nat := if n < 0 then (-2 * n - 1).toNat else (2 * n).toNat
theorem zig_neg {n : Int} (h : n < 0) : ((zig n : Nat) : Int) = -2 * n - 1 := by unfold zig; rw [if_pos h]; omega
theorem zig_pos {n : Int} (h : 0 ≤ n) : ((zig n : Nat) : Int) = 2 * n := by unfold zig; rw [if_neg (by omega)]; omega
theorem zig_lt {n : Int} (h0 : -9223372036854775808 ≤ n) (h1 : n ≤ 9223372036854775807) : zig n < 18446744073709551616 := by unfold zig; split <;> omega
theorem u64max : IntKind.u64.max = 18446744073709551615 := by decide
theorem not_u64 (a : Nat) (ha : a < 18446744073709551616) : bits BinOp.xor IntKind.u64 IntKind.u64.max (a : Int) = 18446744073709551615 - (a : Int) := by
  show IntKind.u64.wrap ((BitVec.ofInt 64 IntKind.u64.max ^^^ BitVec.ofInt 64 (a : Int)).toNat : Int) = _
  have h1 : BitVec.ofInt 64 IntKind.u64.max = BitVec.allOnes 64 := by decide
  rw [h1, BitVec.allOnes_xor, BitVec.toNat_not, ofInt_u64 a (by omega)]
  simp [IntKind.wrap, IntKind.bits, IntKind.signed]
  omega
theorem zigzag_neg {n : Int} (h0 : -9223372036854775808 ≤ n) (h1 : n < 0) :
    bits BinOp.xor IntKind.u64 IntKind.u64.max (IntKind.u64.wrap (IntKind.u64.wrap n * 2)) = ((zig n : Nat) : Int) := by
  have e : IntKind.u64.wrap (IntKind.u64.wrap n * 2) = ((2 * n + 18446744073709551616).toNat : Int) := by
    rw [IntKind.wrap_u64, IntKind.wrap_u64]; omega
  rw [e, not_u64 _ (by omega), zig_neg h1]; omega
set_option maxHeartbeats 400000 in
theorem fold_any (n : Int) (w : World) (h0 : -9223372036854775808 ≤ n) (h1 : n ≤ 9223372036854775807) :
    Calls Tryd.prog 89 #[.int .i64 n] w fun e w' => e = .returned (.int .u64 (zig n : Nat)) ∧ w = w' := by
  by_cases hneg : n < 0
  · go_enter Tryd.func89, Tryd.ntmps89
    go_wp2
    go_ret
    exact ⟨retI (by rw [zig_neg hneg]; omega), rfl⟩
  · have h' : 0 ≤ n := by omega
    go_enter Tryd.func89, Tryd.ntmps89
    go_wp2
    go_ret
    exact ⟨retI (by rw [zig_pos h']), rfl⟩

theorem vint_stop {acc : List Int} {u u0 : Nat} (h : acc ++ vint u = vint u0) (hu : u < 128) : acc ++ [(u : Int)] = vint u0 := by rw [← h, vint_small hu]
theorem vint_next {acc : List Int} {u u0 : Nat} (h : acc ++ vint u = vint u0) (hu : ¬ u < 128) : (acc ++ [((u % 128 + 128 : Nat) : Int)]) ++ vint (u / 128) = vint u0 := by
  rw [← h, vint_large hu]; simp
theorem vint_room {acc : List Int} {u u0 : Nat} (h : acc ++ vint u = vint u0) (h0 : u0 < 18446744073709551616) : acc.length + 1 ≤ 10 := by
  have := vint_len10 u0 h0
  rw [← h, List.length_append] at this
  have := vint_pos u
  omega
theorem wrap_div {u u0 : Nat} (h : u ≤ u0) (h0 : u0 < 18446744073709551616) : IntKind.u64.wrap ((u : Int) / 128) = ((u / 128 : Nat) : Int) := by rw [IntKind.wrap_u64]; omega
theorem vbyte {u u0 : Nat} (h : u ≤ u0) (h0 : u0 < 18446744073709551616) : bits BinOp.or IntKind.u8 (bits BinOp.and IntKind.u64 (u : Int) 127 % 256) 128 = ((u % 128 + 128 : Nat) : Int) := by
  have e1 : bits BinOp.and IntKind.u64 (u : Int) 127 = ((u % 128 : Nat) : Int) := by
    have := u64_and_nat u 127 (by omega) (by omega)
    rw [show (127 : Int) = ((127 : Nat) : Int) from rfl, this, show (127 : Nat) = 2 ^ 7 - 1 from rfl, Nat.and_two_pow_sub_one_eq_mod]
  have e2 : ((u % 128 : Nat) : Int) % 256 = ((u % 128 : Nat) : Int) := by omega
  have hm : u % 128 < 128 := Nat.mod_lt _ (by omega)
  rw [e1, e2, show (128 : Int) = ((128 : Nat) : Int) from rfl, u8_or_nat _ 128 (by omega) (by omega)]
  have : u % 128 ||| 128 = u % 128 + 128 := by
    have := Nat.two_pow_add_eq_or_of_lt (i := 7) (b := u % 128) (by simpa using hm) 1
    rw [show 2 ^ 7 * 1 = 128 from rfl] at this
    rw [Nat.or_comm]; omega
  rw [this]
theorem room_len {n : Nat} (h : n + 1 ≤ 10) : n + 1 ≤ maxLen := by unfold maxLen; omega

set_option maxHeartbeats 1600000 in
set_option maxRecDepth 1000000 in
theorem specPutNum_any (n : Int) (w : World) (h0 : -9223372036854775808 ≤ n) (h1 : n ≤ 9223372036854775807) :
    Calls Tryd.prog 63 #[.int .i64 n] w fun e w' => e = .returned (.string (strOfNums (vint (zig n)))) ∧ Below w.heap.size w w' := by
  have HZ := Lib.hid (zig_lt h0 h1)
  obtain ⟨u0, HU⟩ : ∃ u0, Hid (zig n = u0) := ⟨_, rfl⟩
  have hu0 : Hid (u0 < 18446744073709551616) := HU.out ▸ HZ.out
  obtain ⟨i0, hi, hz0, hz1, hz2⟩ := info_parts infoU8
  go_enter Tryd.func63, Tryd.ntmps63
  go_wp2_with (go_at_call 89; refine (fold_any _ _ h0 h1).mono ?_; rintro e w' ⟨rfl, rfl⟩; rw [HU.out])
  go_loopw [3, 4] (fun x v wr => ∃ (u : Nat) (acc : List Int), u ≤ u0 ∧ Hid (acc ++ vint u = vint u0) ∧ x = .int .u64 u ∧ wr.ownsRow w.heap.size 5 1 v acc.length (acc.map (Value.int .u8)) ∧ Below w.heap.size w wr) (fun x _ _ => (intOf x).toNat)
  case atStart => exact ⟨u0, [], Nat.le_refl _, rfl, rfl, World.ownsRow_lit w #[] 0 (Nat.le_refl _) (by simp) (by simp), (Below.refl _ _).alloc (Nat.le_refl _) _⟩
  case round =>
    obtain ⟨u, acc, hu, HA, rfl, hown, hb⟩ := hrel
    have hroom := vint_room HA.out hu0.out
    by_cases hlt : u < 128
    · have hc : 128 ≤ (u : Int) → False := by omega
      have HS := Lib.hid (vint_stop HA.out hlt)
      go_wp2_with (at_builtin; refine wpList_append_own _ rfl _ _ 118 rfl w.heap.size 5 i0 (.int .u8 0) 1 1 Tryd.underlying118 hi hz0 hz1 hz2 rfl (by decide) _ _ _ rfl (hown.alloc _) ⟨wr.heap.size, 0, none⟩ 1 1 [.int .u8 (u : Int)] rfl rfl (one_cell _ _ _) (one_oneCell _ _) (room_len hroom) (by omega) (by have := hb.size; simp; omega) ?_)
      intro v' w1 hown' hgrow _
      have hb1 := below_app hb (Nat.le_refl _) hown hgrow
      have hcv := own_string (own_snoc hown')
      clear hown' hgrow hown hb
      go_wp2
      go_ret
      exact ⟨retS (by rw [HS.out, HU.out]), hb1⟩
    · have hge : 128 ≤ u := by omega
      have HS := Lib.hid (vint_next HA.out hlt)
      have HW := Lib.hid (wrap_div hu hu0.out)
      go_wp2_with (at_builtin; refine wpList_append_own _ rfl _ _ 118 rfl w.heap.size 5 i0 (.int .u8 0) 1 1 Tryd.underlying118 hi hz0 hz1 hz2 rfl (by decide) _ _ _ rfl (hown.alloc _) ⟨wr.heap.size, 0, none⟩ 1 1 [.int .u8 ((u : Int) % 128 + 128)] rfl rfl (one_cell _ _ _) (one_oneCell _ _) (room_len hroom) (by omega) (by have := hb.size; simp; omega) ?_)
      intro v' w1 hown' hgrow _
      have hb1 := below_app hb (Nat.le_refl _) hown hgrow
      have hown1 := own_snoc hown'
      clear hown' hgrow hown hb
      go_wp2
      go_roundw
      case rel => exact ⟨u / 128, acc ++ [((u % 128 + 128 : Nat) : Int)], by omega, HS.out, by rw [HW.out], by simpa using hown1, hb1⟩
      case measure => rw [HW.out]; simp [intOf]; omega

end Go.Proofs.YtjnbhppnchmeoaaDoor

namespace Go.Proofs.YtjnbhppnchmeoaaDoor
open Go.RowKit
set_option linter.unusedVariables false

def ptext (t : ByteArray) : ByteArray := strOfNums (vint (zig t.size)) ++ t
theorem vint_size (t : ByteArray) (h : t.size ≤ 1048576) : (strOfNums (vint (zig t.size))).size ≤ 10 := by
  rw [strOfNums_size]; exact vint_len10 _ (zig_lt (by omega) (by omega))

set_option maxHeartbeats 1000000 in
theorem specPutText_any (t : ByteArray) (w : World) (h : t.size ≤ 20000) :
    Calls Tryd.prog 64 #[.string t] w fun e w' => e = .returned (.string (ptext t)) ∧ Below w.heap.size w w' := by
  have HV := Lib.hid (fun w => specPutNum_any t.size w (by omega) (by omega))
  have hv := vint_size t (by omega)
  obtain ⟨s, HE⟩ : ∃ s, Hid (strOfNums (vint (zig t.size)) = s) := ⟨_, rfl⟩
  rw [HE.out] at HV hv
  go_enter Tryd.func64, Tryd.ntmps64
  go_wp2_with (go_at_call 63; refine (HV.out _).mono ?_; rintro e w1 ⟨rfl, hb1⟩)
  go_ret
  exact ⟨retS (by unfold ptext; rw [HE.out]), hb1⟩

set_option maxHeartbeats 1000000 in
theorem specPutText_out (t : ByteArray) (w : World) (hs : t.size ≤ maxLen) (h : 20000 < t.size) :
    Calls Tryd.prog 64 #[.string t] w fun e w' => e = .returned (.string ⟨#[]⟩) ∧ Below w.heap.size w w' := by
  unfold maxLen at hs
  go_enter Tryd.func64, Tryd.ntmps64
  go_wp2
  go_ret
  exact ⟨rfl, Below.refl _ _⟩

end Go.Proofs.YtjnbhppnchmeoaaDoor

namespace Go.Proofs.YtjnbhppnchmeoaaDoor
open Go.RowKit
set_option linter.unusedVariables false

def letB (n : Int) : Bool := decide (97 ≤ n ∧ n ≤ 122)
def nameByteB (n : Int) : Bool := decide ((97 ≤ n ∧ n ≤ 122) ∨ (48 ≤ n ∧ n ≤ 57) ∨ n = 95)
def okAt (k : Nat) (n : Int) : Bool := decide ((97 ≤ n ∧ n ≤ 122) ∨ (0 < k ∧ ((48 ≤ n ∧ n ≤ 57) ∨ n = 95)))
def OkUpto (s : ByteArray) (m : Nat) : Prop := ∀ k (h : k < s.size), k < m → okAt k (s[k].toNat : Int) = true
noncomputable def nameB (s : ByteArray) : Bool := @decide (1 ≤ s.size ∧ s.size ≤ 20 ∧ OkUpto s s.size) (Classical.propDecidable _)

theorem okAt_cases (k : Nat) (n : Int) : okAt k n = true ∨ okAt k n = false := by cases okAt k n <;> simp
theorem okUpto_zero (s : ByteArray) : OkUpto s 0 := fun k _ h => absurd h (Nat.not_lt_zero k)
theorem okUpto_succ {s : ByteArray} {m : Nat} (hm : m < s.size) (h : OkUpto s m) (hk : okAt m (s[m].toNat : Int) = true) : OkUpto s (m + 1) := by
  intro k hks hkm
  by_cases e : k = m
  · subst e; exact hk
  · exact h k hks (by omega)
theorem nameB_true {s : ByteArray} (h1 : 1 ≤ s.size) (h2 : s.size ≤ 20) (h : OkUpto s s.size) : nameB s = true := by
  unfold nameB; exact @decide_eq_true _ (Classical.propDecidable _) ⟨h1, h2, h⟩
theorem nameB_false {s : ByteArray} (h : ¬ (1 ≤ s.size ∧ s.size ≤ 20 ∧ OkUpto s s.size)) : nameB s = false := by
  unfold nameB; exact @decide_eq_false _ (Classical.propDecidable _) h
theorem nameB_false_at {s : ByteArray} {m : Nat} (hm : m < s.size) (hk : okAt m (s[m].toNat : Int) = false) : nameB s = false :=
  nameB_false fun h => by have := h.2.2 m hm hm; rw [hk] at this; cases this

set_option maxHeartbeats 400000 in
theorem isLetter_any (n : Int) (w : World) :
    Calls Tryd.prog 116 #[.int .u8 n] w fun e w' => e = .returned (.bool (letB n)) ∧ w = w' := by
  by_cases h1 : 97 ≤ n <;> by_cases h2 : n ≤ 122
  all_goals
    go_enter Tryd.func116, Tryd.ntmps116
    go_wp2
    go_ret
    exact ⟨retB (by simp [letB] <;> omega), rfl⟩

set_option maxHeartbeats 400000 in
theorem isNameByte_any (n : Int) (w : World) :
    Calls Tryd.prog 117 #[.int .u8 n] w fun e w' => e = .returned (.bool (nameByteB n)) ∧ w = w' := by
  by_cases h1 : 97 ≤ n <;> by_cases h2 : n ≤ 122 <;> by_cases h3 : 48 ≤ n <;> by_cases h4 : n ≤ 57 <;> by_cases h5 : n = 95 <;> try omega
  all_goals
    go_enter Tryd.func117, Tryd.ntmps117
    go_wp2
    go_ret
    exact ⟨retB (by simp [nameByteB] <;> omega), rfl⟩

theorem boolWays (p : Prop) [Decidable p] : (p ∧ decide p = true) ∨ (¬ p ∧ decide p = false) := by by_cases h : p <;> simp [h]
theorem byteWays (n : Int) : n < 48 ∨ (48 ≤ n ∧ n ≤ 57) ∨ (58 ≤ n ∧ n ≤ 94) ∨ n = 95 ∨ n = 96 ∨ (97 ≤ n ∧ n ≤ 122) ∨ 122 < n := by omega

set_option maxHeartbeats 1000000 in
theorem specNameRight_any (s : ByteArray) (w : World) (hs : s.size ≤ maxLen) :
    Calls Tryd.prog 86 #[.string s] w fun e w' => e = .returned (.bool (nameB s)) ∧ w = w' := by
  unfold maxLen at hs
  by_cases h1 : 1 ≤ s.size
  · by_cases h2 : s.size ≤ 20
    · go_enter Tryd.func86, Tryd.ntmps86
      go_wp2
      go_loop [3] (fun i => ∃ k : Nat, k ≤ s.size ∧ OkUpto s k ∧ i = .int .i64 k) (fun i => s.size - (intOf i).toNat)
      case atStart => exact ⟨0, Nat.zero_le _, okUpto_zero s, rfl⟩
      case round =>
        obtain ⟨k, hk, hok, rfl⟩ := hrel
        by_cases hlt : k < s.size
        · have HN := Lib.hid (fun h => okUpto_succ hlt hok h)
          have HF := Lib.hid (fun h => nameB_false_at hlt h)
          clear hok
          obtain ⟨n, hn⟩ : ∃ n : Int, n = (s[k].toNat : Int) := ⟨_, rfl⟩
          rw [← hn] at HN HF
          have HE := Lib.hid hn
          clear hn
          rcases Nat.eq_zero_or_pos k with hk0 | hk0
          · subst hk0
            rcases byteWays n with h | h | h | h | h | h | h
            all_goals
              rw [HE.out] at h
              have q1 := boolWays ((s[0].toNat : Int) ≤ 122)
              have q2 := boolWays ((s[0].toNat : Int) ≤ 57)
              have q3 : ((s[0].toNat : Int) != 95) = true ∨ ((s[0].toNat : Int) != 95) = false := by cases ((s[0].toNat : Int) != 95) <;> simp
              rcases q1 with ⟨r1, q1⟩ | ⟨r1, q1⟩ <;> rcases q2 with ⟨r2, q2⟩ | ⟨r2, q2⟩ <;> try omega
              all_goals
                rcases q3 with q3 | q3 <;> (try (simp only [bne_iff_ne, bne_eq_false_iff_eq, ne_eq] at q3; omega))
                go_wp2
                first
                | (go_round
                   case rel => exact ⟨1, by omega, HN.out (by rw [HE.out]; simp [okAt]; omega), by go_num⟩
                   case measure => simp [intOf]; omega)
                | (go_ret
                   exact ⟨(congrArg _ (congrArg _ (HF.out (by rw [HE.out]; simp [okAt]; omega)))).symm, rfl⟩)
          · have q0 : ((k : Int) == 0) = false := by simp; omega
            rcases byteWays n with h | h | h | h | h | h | h
            all_goals
              rw [HE.out] at h
              have q1 := boolWays ((s[k].toNat : Int) ≤ 122)
              have q2 := boolWays ((s[k].toNat : Int) ≤ 57)
              have q3 : ((s[k].toNat : Int) != 95) = true ∨ ((s[k].toNat : Int) != 95) = false := by cases ((s[k].toNat : Int) != 95) <;> simp
              rcases q1 with ⟨r1, q1⟩ | ⟨r1, q1⟩ <;> rcases q2 with ⟨r2, q2⟩ | ⟨r2, q2⟩ <;> try omega
              all_goals
                rcases q3 with q3 | q3 <;> (try (simp only [bne_iff_ne, bne_eq_false_iff_eq, ne_eq] at q3; omega))
                go_wp2
                first
                | (go_round
                   case rel => exact ⟨k + 1, by omega, HN.out (by rw [HE.out]; simp [okAt]; omega), by go_num⟩
                   case measure => simp [intOf]; omega)
                | (go_ret
                   exact ⟨(congrArg _ (congrArg _ (HF.out (by rw [HE.out]; simp [okAt]; omega)))).symm, rfl⟩)
        · go_wp2
          go_ret
          exact ⟨(congrArg _ (congrArg _ (nameB_true h1 h2 ((show k = s.size by omega) ▸ hok)))).symm, rfl⟩
    · go_enter Tryd.func86, Tryd.ntmps86
      go_wp2
      go_ret
      rw [nameB_false (by omega)]
      exact ⟨rfl, rfl⟩
  · go_enter Tryd.func86, Tryd.ntmps86
    go_wp2
    go_ret
    rw [nameB_false (by omega)]
    exact ⟨rfl, rfl⟩

def NbUpto (s : ByteArray) (m : Nat) : Prop := ∀ k (h : k < s.size), k < m → nameByteB (s[k].toNat : Int) = true
theorem nbUpto_zero (s : ByteArray) : NbUpto s 0 := fun k _ h => absurd h (Nat.not_lt_zero k)
theorem nbUpto_succ {s : ByteArray} {m : Nat} (hm : m < s.size) (h : NbUpto s m) (hk : nameByteB (s[m].toNat : Int) = true) : NbUpto s (m + 1) := by
  intro k hks hkm
  by_cases e : k = m
  · subst e; exact hk
  · exact h k hks (by omega)
theorem okUpto_of_nb {s : ByteArray} {m : Nat} (h1 : 0 < s.size) (h0 : letB (s[0].toNat : Int) = true) (h : NbUpto s m) : OkUpto s m := by
  intro k hks hkm
  have hk := h k hks hkm
  rcases Nat.eq_zero_or_pos k with rfl | hp
  · simp [letB] at h0; simp [okAt]; omega
  · simp [nameByteB] at hk; simp [okAt]; omega
theorem okAt_of_let {s : ByteArray} (h1 : 0 < s.size) (h0 : letB (s[0].toNat : Int) = false) : nameB s = false :=
  nameB_false_at h1 (by simp [letB] at h0; simp [okAt]; omega)
theorem okAt_of_nb {s : ByteArray} {k : Nat} (h1 : k < s.size) (h0 : nameByteB (s[k].toNat : Int) = false) : nameB s = false :=
  nameB_false_at h1 (by simp [nameByteB] at h0; simp [okAt]; omega)

set_option maxHeartbeats 1000000 in
theorem implNameRight_any (s : ByteArray) (w : World) (hs : s.size ≤ maxLen) :
    Calls Tryd.prog 93 #[.string s] w fun e w' => e = .returned (.bool (nameB s)) ∧ w = w' := by
  unfold maxLen at hs
  by_cases h1 : 1 ≤ s.size
  · have h1' : 0 < s.size := h1
    by_cases h2 : s.size ≤ 20
    · rcases Bool.eq_false_or_eq_true (letB (s[0].toNat : Int)) with hl | hl
      · go_enter Tryd.func93, Tryd.ntmps93
        go_wp2_with (go_at_call 116; refine (isLetter_any _ _).mono ?_; rintro e w' ⟨rfl, rfl⟩)
        have HL := Lib.hid hl
        clear hl
        go_loop [20] (fun i => ∃ k : Nat, k ≤ s.size ∧ NbUpto s k ∧ i = .int .i64 k) (fun i => s.size - (intOf i).toNat)
        case atStart => exact ⟨0, Nat.zero_le _, nbUpto_zero s, rfl⟩
        case round =>
          obtain ⟨k, hk, hok, rfl⟩ := hrel
          by_cases hlt : k < s.size
          · rcases Bool.eq_false_or_eq_true (nameByteB (s[k].toNat : Int)) with hb | hb
            · have HN := Lib.hid (nbUpto_succ hlt hok hb)
              clear hok
              go_wp2_with (go_at_call 117; refine (isNameByte_any _ _).mono ?_; rintro e w' ⟨rfl, rfl⟩)
              go_round
              case rel => exact ⟨k + 1, by omega, HN.out, by go_num⟩
              case measure => simp [intOf]; omega
            · clear hok
              go_wp2_with (go_at_call 117; refine (isNameByte_any _ _).mono ?_; rintro e w' ⟨rfl, rfl⟩)
              go_ret
              exact ⟨(congrArg _ (congrArg _ (okAt_of_nb hlt hb))).symm, rfl⟩
          · have HO := Lib.hid hok
            clear hok
            go_wp2
            go_ret
            exact ⟨(congrArg _ (congrArg _ (nameB_true h1 h2 (okUpto_of_nb h1' HL.out ((show k = s.size by omega) ▸ HO.out))))).symm, rfl⟩
      · go_enter Tryd.func93, Tryd.ntmps93
        go_wp2_with (go_at_call 116; refine (isLetter_any _ _).mono ?_; rintro e w' ⟨rfl, rfl⟩)
        go_ret
        exact ⟨(congrArg _ (congrArg _ (okAt_of_let h1' hl))).symm, rfl⟩
    · go_enter Tryd.func93, Tryd.ntmps93
      go_wp2
      go_ret
      rw [nameB_false (by omega)]
      exact ⟨rfl, rfl⟩
  · go_enter Tryd.func93, Tryd.ntmps93
    go_wp2
    go_ret
    rw [nameB_false (by omega)]
    exact ⟨rfl, rfl⟩

end Go.Proofs.YtjnbhppnchmeoaaDoor
