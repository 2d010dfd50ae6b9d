/- Plain facts on the reading of a number: no program is named here. -/
import Derived.WalkKit
import Derived.Below
import Derived.Lib.Hide
import Derived.Laws.BitsAllLaws
import Derived.Laws.Closers25b
namespace Go.Proofs.YtpgodphnjeifhaaDoor
open Go.RowKit
set_option linter.unusedVariables false

abbrev numOut (n p c : Int) : Value := .agg #[.int .i64 n, .int .i64 p, .int .i64 c]
/-- What is read at p: an error's number, or the unsigned number and how many bytes it has; n: how many bytes may follow, k: how many are read, u: what they hold. -/
def rd (s : ByteArray) (p : Nat) : Nat → Nat → Nat → Except Int (Nat × Nat)
  | 0, _, _ => .error 3
  | n + 1, k, u => if h : p + k < s.size then
      if k = 9 ∧ 1 < s[p + k].toNat then .error 3
      else if s[p + k].toNat < 128 then (if s[p + k].toNat = 0 ∧ 0 < k then .error 3 else .ok (u + s[p + k].toNat * 2 ^ (7 * k), k + 1))
      else rd s p n (k + 1) (u + s[p + k].toNat % 128 * 2 ^ (7 * k))
    else .error 4
def unzig (u : Nat) : Int := if u % 2 = 1 then -((u / 2 : Nat) : Int) - 1 else ((u / 2 : Nat) : Int)
def numV (p : Nat) : Except Int (Nat × Nat) → Value
  | .error c => numOut 0 0 c
  | .ok (u, m) => numOut (unzig u) ((p : Int) + m) 0

section
variable {s : ByteArray} {p k u : Nat}
theorem rd_short (hk : k ≤ 9) (h : ¬ p + k < s.size) : rd s p (10 - k) k u = .error 4 := by
  rw [show 10 - k = (9 - k) + 1 by omega, rd, dif_neg h]
theorem rd_ten (hk : k = 9) (h : p + k < s.size) (hb : 1 < s[p + k].toNat) : rd s p (10 - k) k u = .error 3 := by
  rw [show 10 - k = (9 - k) + 1 by omega, rd, dif_pos h, if_pos ⟨hk, hb⟩]
theorem rd_zero (hk : k ≤ 9) (h : p + k < s.size) (hb : s[p + k].toNat = 0) (h0 : 0 < k) : rd s p (10 - k) k u = .error 3 := by
  rw [show 10 - k = (9 - k) + 1 by omega, rd, dif_pos h, if_neg (by omega), if_pos (by omega), if_pos ⟨hb, h0⟩]
theorem rd_done (hk : k ≤ 9) (h : p + k < s.size) (hb : s[p + k].toNat < 128) (h9 : ¬ (k = 9 ∧ 1 < s[p + k].toNat)) (h0 : ¬ (s[p + k].toNat = 0 ∧ 0 < k)) :
    rd s p (10 - k) k u = .ok (u + s[p + k].toNat * 2 ^ (7 * k), k + 1) := by
  rw [show 10 - k = (9 - k) + 1 by omega, rd, dif_pos h, if_neg h9, if_pos hb, if_neg h0]
theorem rd_more (hk : k < 9) (h : p + k < s.size) (hb : ¬ s[p + k].toNat < 128) :
    rd s p (10 - k) k u = rd s p (10 - (k + 1)) (k + 1) (u + s[p + k].toNat % 128 * 2 ^ (7 * k)) := by
  rw [show 10 - k = (10 - (k + 1)) + 1 by omega, rd, dif_pos h, if_neg (by omega), if_neg hb]
end

theorem pow7 (k : Nat) : 2 ^ (7 * (k + 1)) = 128 * 2 ^ (7 * k) := by rw [show 7 * (k + 1) = 7 + 7 * k by omega, Nat.pow_add]
theorem pow7_le {k : Nat} (hk : k ≤ 9) : 2 ^ (7 * k) ≤ 9223372036854775808 := by
  have : 2 ^ (7 * k) ≤ 2 ^ 63 := Nat.pow_le_pow_right (by omega) (by omega)
  exact this
/-- Seven bits more: what has been read stays below the next power. -/
theorem step_lt {k u b : Nat} (hu : u < 2 ^ (7 * k)) (hb : b < 128) : u + b * 2 ^ (7 * k) < 2 ^ (7 * (k + 1)) := by
  rw [pow7]
  have : b * 2 ^ (7 * k) ≤ 127 * 2 ^ (7 * k) := Nat.mul_le_mul_right _ (by omega)
  omega
theorem step_u64 {k u b : Nat} (hk : k ≤ 9) (hu : u < 2 ^ (7 * k)) (hb : b < 128) (h9 : ¬ (k = 9 ∧ 1 < b)) : u + b * 2 ^ (7 * k) < 18446744073709551616 := by
  by_cases h : k = 9
  · subst h
    have hb1 : b ≤ 1 := by omega
    have : b * 2 ^ (7 * 9) ≤ 1 * 2 ^ (7 * 9) := Nat.mul_le_mul_right _ hb1
    have e : 2 ^ (7 * 9) = 9223372036854775808 := by decide
    rw [e] at *
    omega
  · have h1 := step_lt hu hb
    have h2 := pow7_le (k := k + 1) (by omega)
    omega
/-- The sum as the walk writes it. -/
theorem step_wrap {k u b : Nat} (hk : k ≤ 9) (hu : u < 2 ^ (7 * k)) (hb : b < 128) (h9 : ¬ (k = 9 ∧ 1 < b)) :
    IntKind.u64.wrap ((u : Int) + IntKind.u64.wrap ((b : Int) * 2 ^ (7 * k))) = ((u + b * 2 ^ (7 * k) : Nat) : Int) := by
  have h := step_u64 hk hu hb h9
  have e : (b : Int) * 2 ^ (7 * k) = ((b * 2 ^ (7 * k) : Nat) : Int) := by simp
  rw [e, IntKind.wrap_u64, IntKind.wrap_u64]
  omega
/-- An or of what lies apart is a sum. -/
theorem or_add {k u b : Nat} (hu : u < 2 ^ (7 * k)) : u ||| b * 2 ^ (7 * k) = u + b * 2 ^ (7 * k) := by
  have := Nat.two_pow_add_eq_or_of_lt (i := 7 * k) (b := u) hu b
  rw [Nat.mul_comm b, Nat.or_comm]
  omega

end Go.Proofs.YtpgodphnjeifhaaDoor
