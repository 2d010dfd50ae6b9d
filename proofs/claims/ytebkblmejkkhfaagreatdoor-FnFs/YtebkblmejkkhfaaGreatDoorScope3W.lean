/- SegName: spec and impl answer alike. Plain facts on the reading of a number: no program is named here. A scope with three labels: from the first the run may jump back to it (a measure falls), on to the second and to the third; from the second to the third; from the third nowhere. -/
import Derived.Test.YtebkblmejkkhfaaGreatDoorDecW
import Derived.Test.YtebkblmejkkhfaaGreatDoorShelf
import Derived.Lib.SmallJoins
import Derived.Lib.LaidTab
import Derived.WalkKit
import Derived.Below
import Derived.Lib.Hide
import Derived.Laws.BitsAllLaws
import Derived.Laws.Closers25b
import Derived.WalkMore
import Derived.ScopeJumps
namespace Go.Proofs.YtebkblmejkkhfaaGreatDoor
open Go.RowKit
set_option linter.unusedVariables false
set_option maxRecDepth 1000000

/-- The table of the powers of ten, as the program's text lays it. -/
def Pow (w : World) : Prop := Lib.TabIs Tryz.prog w "internal/strconv.uint64pow10" .u64 Lib.pow10Tab
theorem gPow : Tryz.prog.globalNamed "internal/strconv.uint64pow10" = some 6 := by kernel_rfl
theorem Pow.below {w w' : World} (h : Pow w) (hb : Below w.heap.size w w') : Pow w' := Go.Joins.tab_stays gPow h hb (Nat.le_refl _)
/-- The name of a segment. -/
def segB (n : Nat) : ByteArray := ⟨#[115]⟩ ++ (⟨(List.replicate (6 - Lib.nDigits n) 48).toArray⟩ ++ decB n)
theorem segB_size (n : Nat) (h : n ≤ 999999) : (segB n).size = 7 := by
  have := nDigits_le n h
  unfold segB
  rw [ByteArray.size_append, ByteArray.size_append, decB_size]
  show 1 + ((List.replicate (6 - Lib.nDigits n) (48 : UInt8)).toArray.size + Lib.nDigits n) = 7
  simp
  omega
/-- What SegName answers. -/
def segN (n : Int) : ByteArray := if 0 ≤ n ∧ n ≤ 999999 then segB n.toNat else ⟨#[]⟩
theorem segN_in (n : Nat) (h : n ≤ 999999) : segN n = segB n := by unfold segN; rw [if_pos (by omega)]; simp
theorem segN_out (n : Int) (h : ¬ (0 ≤ n ∧ n ≤ 999999)) : segN n = ⟨#[]⟩ := by unfold segN; rw [if_neg h]

theorem l03Is_seg (n a b : Int) (w : World) : Calls Tryz.prog 93 #[.int .i64 n, .int .i64 a, .int .i64 b] w fun e w' => e = .returned (.bool (decide (a ≤ n ∧ n ≤ b))) ∧ w = w' := by
  by_cases h1 : a ≤ n
  all_goals
    by_cases h2 : n ≤ b
    all_goals
      go_enter Tryz.func93, Tryz.ntmps93
      go_wp2
      go_ret
      exact ⟨retB (by simp [h1, h2]), rfl⟩
set_option maxHeartbeats 1000000 in
theorem specSegName_in (n : Nat) (w : World) (h : n ≤ 999999) : Calls Tryz.prog 138 #[.int .i64 n] w fun e w' => e = .returned (.string (segB n)) ∧ Below w.heap.size w w' := by
  have hd := nDigits_le n h
  have hs := decB_size n
  have HS := Lib.hid hs
  have hI : decide ((0 : Int) ≤ n ∧ (n : Int) ≤ 999999) = true := by simp; omega
  obtain ⟨m, HM⟩ : ∃ m, Hid (Lib.nDigits n = m) := ⟨_, Lib.hid rfl⟩
  obtain ⟨s, HD⟩ : ∃ s, Hid (decB n = s) := ⟨_, Lib.hid rfl⟩
  have hm : 1 ≤ m ∧ m ≤ 6 := by rw [← HM.out]; exact hd
  have hsz : s.size ≤ m ∧ m ≤ s.size := by rw [← HM.out, ← HD.out, hs]; omega
  have HB : Hid (segB n = ⟨#[115]⟩ ++ (⟨(List.replicate (6 - m) 48).toArray⟩ ++ s)) := Lib.hid (by unfold segB; rw [HM.out, HD.out])
  generalize segB n = g at HB ⊢
  have HI := Lib.hid hI
  clear hs hd hI
  go_enter Tryz.func138, Tryz.ntmps138
  go_wp2_with (first
    | (go_at_call 93; refine (l03Is_seg _ _ _ _).mono ?_; rintro e w' ⟨rfl, rfl⟩; rw [HI.out])
    | (go_at_call 135; refine (l01Dec_nat n _ h).mono ?_; rintro e w1 ⟨rfl, hb1⟩; rw [HD.out]))
  go_loop [3] (fun t => ∃ k : Nat, k + m ≤ 6 ∧ t = .string (⟨(List.replicate k 48).toArray⟩ ++ s)) (fun t => match t with | .string x => 6 - x.size | _ => 0)
  case atStart => exact ⟨0, by omega, by simp only [List.replicate_zero]; exact congrArg Value.string (ByteArray.empty_append ..).symm⟩
  case round =>
    obtain ⟨k, hk, rfl⟩ := hrel
    obtain ⟨x, HX⟩ : ∃ x, Hid (⟨(List.replicate k (48 : UInt8)).toArray⟩ ++ s = x) := ⟨_, Lib.hid rfl⟩
    have hx : x.size ≤ k + m ∧ k + m ≤ x.size := by
      rw [← HX.out, ByteArray.size_append]
      have : (⟨(List.replicate k (48 : UInt8)).toArray⟩ : ByteArray).size = k := by show (List.replicate k (48 : UInt8)).toArray.size = k; simp
      omega
    rw [HX.out]
    by_cases hlt : x.size < 6
    · have hI : decide (x.size < 6) = true := by simpa using hlt
      go_wp2
      refine ⟨⟨k + 1, by omega, ?_⟩, ?_⟩
      · rw [← HX.out]
        refine congrArg Value.string ?_
        rw [← ByteArray.append_assoc]
        congr 1
      · show 6 - (⟨#[48]⟩ ++ x : ByteArray).size < 6 - x.size
        rw [ByteArray.size_append]
        have : (⟨#[48]⟩ : ByteArray).size = 1 := rfl
        omega
    · have hI : decide (x.size < 6) = false := by simpa using hlt
      have hkk : k = 6 - m := by omega
      have HK := Lib.hid hkk
      clear hkk
      go_wp2
      go_ret
      refine ⟨retS ?_, hb1⟩
      rw [HB.out, ← HX.out, HK.out]
set_option maxHeartbeats 1000000 in
theorem specSegName_out (n : Int) (w : World) (h : ¬ (0 ≤ n ∧ n ≤ 999999)) : Calls Tryz.prog 138 #[.int .i64 n] w fun e w' => e = .returned (.string ⟨#[]⟩) ∧ w = w' := by
  have hI : decide ((0 : Int) ≤ n ∧ n ≤ 999999) = false := by simpa using h
  have HI := Lib.hid hI
  clear hI h
  go_enter Tryz.func138, Tryz.ntmps138
  go_wp2_with ((go_at_call 93; refine (l03Is_seg _ _ _ _).mono ?_; rintro e w' ⟨rfl, rfl⟩; rw [HI.out]))
  go_ret
  exact ⟨rfl, rfl⟩
theorem specSegName_any (n : Int) (w : World) : Calls Tryz.prog 138 #[.int .i64 n] w fun e w' => e = .returned (.string (segN n)) ∧ Below w.heap.size w w' := by
  by_cases h : 0 ≤ n ∧ n ≤ 999999
  · obtain ⟨m, rfl⟩ : ∃ m : Nat, n = m := ⟨n.toNat, by omega⟩
    rw [segN_in m (by omega)]
    exact specSegName_in m w (by omega)
  · rw [segN_out n h]
    exact (specSegName_out n w h).mono fun _ _ ⟨a, b⟩ => ⟨a, b ▸ Below.refl _ _⟩
theorem below_growN (w : World) (k : Nat) (os : Array Obj) : Below w.heap.size w (Sort.grow (w.drewN k) os) :=
  ⟨rfl, rfl, rfl, by simp [Sort.grow, World.drewN], fun j hj => by show (w.heap ++ os)[j]? = w.heap[j]?; exact Array.getElem?_append_left hj⟩
theorem zeros_cut : ∀ k, k ≤ 6 → (⟨#[48, 48, 48, 48, 48, 48]⟩ : ByteArray).extract k 6 = ⟨(List.replicate (6 - k) 48).toArray⟩ := by decide +kernel
set_option maxHeartbeats 1000000 in
theorem implSegName_in (n : Nat) (w : World) (h : n ≤ 999999) (hP : Pow w) : Calls Tryz.prog 110 #[.int .i64 n] w fun e w' => e = .returned (.string (segB n)) ∧ Below w.heap.size w w' := by
  have hd := nDigits_le n h
  have hs := decB_size n
  have HI : Hid ((⟨(Lib.itoa n).toArray⟩ : ByteArray) = decB n) := Lib.hid (by rw [Lib.itoa_nonneg]; rfl)
  obtain ⟨m, HM⟩ : ∃ m, Hid (Lib.nDigits n = m) := ⟨_, Lib.hid rfl⟩
  obtain ⟨s, HD⟩ : ∃ s, Hid (decB n = s) := ⟨_, Lib.hid rfl⟩
  have hm : 1 ≤ m ∧ m ≤ 6 := by rw [← HM.out]; exact hd
  have hsz : s.size ≤ m ∧ m ≤ s.size := by rw [← HM.out, ← HD.out, hs]; omega
  have HB : Hid (segB n = ⟨#[115]⟩ ++ (⟨(List.replicate (6 - m) 48).toArray⟩ ++ s)) := Lib.hid (by unfold segB; rw [HM.out, HD.out])
  generalize segB n = g at HB ⊢
  clear hs hd
  go_enter Tryz.func110, Tryz.ntmps110
  go_wp2_with (go_at_call 139; refine (Tryz.strconv_FormatInt_10 n (by omega) (by omega) _ hP).mono ?_; rintro e w1 ⟨rfl, k, os, rfl⟩; rw [HI.out, HD.out])
  go_ret
  refine ⟨retS ?_, below_growN _ _ _⟩
  have e : s.size = m := by omega
  rw [e, zeros_cut m hm.2, HB.out, ByteArray.append_assoc]
set_option maxHeartbeats 1000000 in
theorem implSegName_out (n : Int) (w : World) (h : ¬ (0 ≤ n ∧ n ≤ 999999)) : Calls Tryz.prog 110 #[.int .i64 n] w fun e w' => e = .returned (.string ⟨#[]⟩) ∧ w = w' := by
  by_cases h1 : n < 0
  all_goals
    by_cases h2 : 999999 < n
    all_goals first | (exfalso; omega) | skip
  all_goals
    go_enter Tryz.func110, Tryz.ntmps110
    go_wp2
    go_ret
    exact ⟨rfl, rfl⟩
theorem implSegName_any (n : Int) (w : World) (hP : Pow w) : Calls Tryz.prog 110 #[.int .i64 n] w fun e w' => e = .returned (.string (segN n)) ∧ Below w.heap.size w w' := by
  by_cases h : 0 ≤ n ∧ n ≤ 999999
  · obtain ⟨m, rfl⟩ : ∃ m : Nat, n = m := ⟨n.toNat, by omega⟩
    rw [segN_in m (by omega)]
    exact implSegName_in m w (by omega) hP
  · rw [segN_out n h]
    exact (implSegName_out n w h).mono fun _ _ ⟨a, b⟩ => ⟨a, b ▸ Below.refl _ _⟩
end Go.Proofs.YtebkblmejkkhfaaGreatDoor

namespace Go.Proofs.YtebkblmejkkhfaaGreatDoor
open Go.RowKit
set_option linter.unusedVariables false

abbrev numOut (n p c : Int) : Value := .agg #[.int .i64 n, .int .i64 p, .int .i64 c]
/-- What is read at p: an error's number, or the unsigned number and how many bytes it has; n: how many bytes may follow, k: how many are read, u: what they hold. -/
def rd (s : ByteArray) (p : Nat) : Nat → Nat → Nat → Except Int (Nat × Nat)
  | 0, _, _ => .error 3
  | n + 1, k, u => if h : p + k < s.size then
      if k = 9 ∧ 1 < s[p + k].toNat then .error 3
      else if s[p + k].toNat < 128 then (if s[p + k].toNat = 0 ∧ 0 < k then .error 3 else .ok (u + s[p + k].toNat * 2 ^ (7 * k), k + 1))
      else rd s p n (k + 1) (u + s[p + k].toNat % 128 * 2 ^ (7 * k))
    else .error 4
def unzig (u : Nat) : Int := if u % 2 = 1 then -((u / 2 : Nat) : Int) - 1 else ((u / 2 : Nat) : Int)
def numV (p : Nat) : Except Int (Nat × Nat) → Value
  | .error c => numOut 0 0 c
  | .ok (u, m) => numOut (unzig u) ((p : Int) + m) 0

section
variable {s : ByteArray} {p k u : Nat}
theorem rd_short (hk : k ≤ 9) (h : ¬ p + k < s.size) : rd s p (10 - k) k u = .error 4 := by
  rw [show 10 - k = (9 - k) + 1 by omega, rd, dif_neg h]
theorem rd_ten (hk : k = 9) (h : p + k < s.size) (hb : 1 < s[p + k].toNat) : rd s p (10 - k) k u = .error 3 := by
  rw [show 10 - k = (9 - k) + 1 by omega, rd, dif_pos h, if_pos ⟨hk, hb⟩]
theorem rd_zero (hk : k ≤ 9) (h : p + k < s.size) (hb : s[p + k].toNat = 0) (h0 : 0 < k) : rd s p (10 - k) k u = .error 3 := by
  rw [show 10 - k = (9 - k) + 1 by omega, rd, dif_pos h, if_neg (by omega), if_pos (by omega), if_pos ⟨hb, h0⟩]
theorem rd_done (hk : k ≤ 9) (h : p + k < s.size) (hb : s[p + k].toNat < 128) (h9 : ¬ (k = 9 ∧ 1 < s[p + k].toNat)) (h0 : ¬ (s[p + k].toNat = 0 ∧ 0 < k)) :
    rd s p (10 - k) k u = .ok (u + s[p + k].toNat * 2 ^ (7 * k), k + 1) := by
  rw [show 10 - k = (9 - k) + 1 by omega, rd, dif_pos h, if_neg h9, if_pos hb, if_neg h0]
theorem rd_more (hk : k < 9) (h : p + k < s.size) (hb : ¬ s[p + k].toNat < 128) :
    rd s p (10 - k) k u = rd s p (10 - (k + 1)) (k + 1) (u + s[p + k].toNat % 128 * 2 ^ (7 * k)) := by
  rw [show 10 - k = (10 - (k + 1)) + 1 by omega, rd, dif_pos h, if_neg (by omega), if_neg hb]
end

theorem pow7 (k : Nat) : 2 ^ (7 * (k + 1)) = 128 * 2 ^ (7 * k) := by rw [show 7 * (k + 1) = 7 + 7 * k by omega, Nat.pow_add]
theorem pow7_le {k : Nat} (hk : k ≤ 9) : 2 ^ (7 * k) ≤ 9223372036854775808 := by
  have : 2 ^ (7 * k) ≤ 2 ^ 63 := Nat.pow_le_pow_right (by omega) (by omega)
  exact this
/-- Seven bits more: what has been read stays below the next power. -/
theorem step_lt {k u b : Nat} (hu : u < 2 ^ (7 * k)) (hb : b < 128) : u + b * 2 ^ (7 * k) < 2 ^ (7 * (k + 1)) := by
  rw [pow7]
  have : b * 2 ^ (7 * k) ≤ 127 * 2 ^ (7 * k) := Nat.mul_le_mul_right _ (by omega)
  omega
theorem step_u64 {k u b : Nat} (hk : k ≤ 9) (hu : u < 2 ^ (7 * k)) (hb : b < 128) (h9 : ¬ (k = 9 ∧ 1 < b)) : u + b * 2 ^ (7 * k) < 18446744073709551616 := by
  by_cases h : k = 9
  · subst h
    have hb1 : b ≤ 1 := by omega
    have : b * 2 ^ (7 * 9) ≤ 1 * 2 ^ (7 * 9) := Nat.mul_le_mul_right _ hb1
    have e : 2 ^ (7 * 9) = 9223372036854775808 := by decide
    rw [e] at *
    omega
  · have h1 := step_lt hu hb
    have h2 := pow7_le (k := k + 1) (by omega)
    omega
/-- The sum as the walk writes it. -/
theorem step_wrap {k u b : Nat} (hk : k ≤ 9) (hu : u < 2 ^ (7 * k)) (hb : b < 128) (h9 : ¬ (k = 9 ∧ 1 < b)) :
    IntKind.u64.wrap ((u : Int) + IntKind.u64.wrap ((b : Int) * 2 ^ (7 * k))) = ((u + b * 2 ^ (7 * k) : Nat) : Int) := by
  have h := step_u64 hk hu hb h9
  have e : (b : Int) * 2 ^ (7 * k) = ((b * 2 ^ (7 * k) : Nat) : Int) := by simp
  rw [e, IntKind.wrap_u64, IntKind.wrap_u64]
  omega
/-- An or of what lies apart is a sum. -/
theorem or_add {k u b : Nat} (hu : u < 2 ^ (7 * k)) : u ||| b * 2 ^ (7 * k) = u + b * 2 ^ (7 * k) := by
  have := Nat.two_pow_add_eq_or_of_lt (i := 7 * k) (b := u) hu b
  rw [Nat.mul_comm b, Nat.or_comm]
  omega

end Go.Proofs.YtebkblmejkkhfaaGreatDoor

namespace Go.Proofs.YtebkblmejkkhfaaGreatDoor
open Go

def jump3 (l0 l1 l2 : Nat) (J0 J1 J2 : Act → World → Prop) (Q : Exit → Act → World → Prop) : Exit → Act → World → Prop
  | .goto l, a, w => (l = l0 ∧ J0 a w) ∨ (l = l1 ∧ J1 a w) ∨ (l = l2 ∧ J2 a w)
  | e, a, w => Q e a w

section
variable {P : Program} {a : Act} {w : World} {Q : Exit → Act → World → Prop}

theorem jump3_mono {l0 l1 l2 : Nat} {J0 J1 J2 K0 K1 K2 : Act → World → Prop} (h0 : ∀ a w, J0 a w → K0 a w) (h1 : ∀ a w, J1 a w → K1 a w) (h2 : ∀ a w, J2 a w → K2 a w) :
    ∀ e a w, jump3 l0 l1 l2 J0 J1 J2 Q e a w → jump3 l0 l1 l2 K0 K1 K2 Q e a w := by
  intro e a w h
  cases e with
  | goto l =>
    rcases h with ⟨e, h⟩ | ⟨e, h⟩ | ⟨e, h⟩
    · exact .inl ⟨e, h0 _ _ h⟩
    · exact .inr (.inl ⟨e, h1 _ _ h⟩)
    · exact .inr (.inr ⟨e, h2 _ _ h⟩)
  | _ => exact h

theorem wp_mono' {c : Code} {Q Q' : Exit → Act → World → Prop} (h : ∀ e a w, Q e a w → Q' e a w) (hc : c.wp P Q a w) : c.wp P Q' a w := by
  intro b k cs
  obtain ⟨e, a', w', hq, har⟩ := hc b k cs
  exact ⟨e, a', w', h _ _ _ hq, har⟩

theorem wp_scope_three {c t0 r1 r2 : Code} (l0 l1 l2 : Nat) (J0 J1 J2 : Act → World → Prop) (μ : Act → World → Nat)
    (hf0 : findLabel c l0 = some (Code.skip.seq t0)) (hf1 : findLabel c l1 = some r1) (hf2 : findLabel c l2 = some r2)
    (pass0' : ∀ a w, J0 a w → t0.wp P (jump3 l0 l1 l2 (fun a' w' => J0 a' w' ∧ μ a' w' < μ a w) J1 J2 Q) a w)
    (pass1 : ∀ a w, J1 a w → r1.wp P (jump3 l0 l1 l2 (fun _ _ => False) (fun _ _ => False) J2 Q) a w)
    (pass2 : ∀ a w, J2 a w → r2.wp P (jump3 l0 l1 l2 (fun _ _ => False) (fun _ _ => False) (fun _ _ => False) Q) a w)
    (first : (∀ a w, J0 a w → t0.wp P (jump3 l0 l1 l2 J0 J1 J2 Q) a w) → c.wp P (jump3 l0 l1 l2 J0 J1 J2 Q) a w) : (Code.scope c).wp P Q a w := by
  obtain ⟨r0, er⟩ : ∃ r0, r0 = Code.skip.seq t0 := ⟨_, rfl⟩
  rw [← er] at hf0
  have pass0 : ∀ a w, J0 a w → r0.wp P (jump3 l0 l1 l2 (fun a' w' => J0 a' w' ∧ μ a' w' < μ a w) J1 J2 Q) a w := fun a w h => by
    rw [er]; exact wp_seq (wp_skip (pass0' a w h))
  intro b k cs
  have hg0 : gotoIn l0 (.inScope c :: k) = some (.code r0 :: .inScope c :: k) := by simp [gotoIn, hf0]
  have hg1 : gotoIn l1 (.inScope c :: k) = some (.code r1 :: .inScope c :: k) := by simp [gotoIn, hf1]
  have hg2 : gotoIn l2 (.inScope c :: k) = some (.code r2 :: .inScope c :: k) := by simp [gotoIn, hf2]
  have key2 : ∀ a w, J2 a w → ∃ e a' w', Q e a' w' ∧ Arrives P (lone (b.at a (.code r2 :: .inScope c :: k)) cs w) b k cs e a' w' := by
    intro a w hJ
    obtain ⟨e, a₁, w₁, hq, harr⟩ := pass2 a w hJ b (.inScope c :: k) cs
    cases e with
    | normal => exact ⟨.normal, a₁, w₁, hq, Steps.trans harr (.one step_inScope)⟩
    | exit id => exact ⟨.exit id, a₁, w₁, hq, fun k' hk => harr k' (by simp [exitTo, hk])⟩
    | goto l' => rcases hq with ⟨_, h⟩ | ⟨_, h⟩ | ⟨_, h⟩ <;> exact h.elim
    | ret => exact ⟨_, a₁, w₁, hq, harr⟩
    | panic ch => exact ⟨_, a₁, w₁, hq, harr⟩
    | outgrown => exact ⟨_, a₁, w₁, hq, harr⟩
  have key1 : ∀ a w, J1 a w → ∃ e a' w', Q e a' w' ∧ Arrives P (lone (b.at a (.code r1 :: .inScope c :: k)) cs w) b k cs e a' w' := by
    intro a w hJ
    obtain ⟨e, a₁, w₁, hq, harr⟩ := pass1 a w hJ b (.inScope c :: k) cs
    cases e with
    | normal => exact ⟨.normal, a₁, w₁, hq, Steps.trans harr (.one step_inScope)⟩
    | exit id => exact ⟨.exit id, a₁, w₁, hq, fun k' hk => harr k' (by simp [exitTo, hk])⟩
    | goto l' =>
      rcases hq with ⟨_, h⟩ | ⟨_, h⟩ | ⟨rfl, h⟩
      · exact h.elim
      · exact h.elim
      · obtain ⟨e₂, a₂, w₂, hq₂, harr₂⟩ := key2 a₁ w₁ h
        exact ⟨e₂, a₂, w₂, hq₂, .of_steps (harr _ hg2) harr₂⟩
    | ret => exact ⟨_, a₁, w₁, hq, harr⟩
    | panic ch => exact ⟨_, a₁, w₁, hq, harr⟩
    | outgrown => exact ⟨_, a₁, w₁, hq, harr⟩
  have key0 : ∀ n a w, μ a w = n → J0 a w → ∃ e a' w', Q e a' w' ∧ Arrives P (lone (b.at a (.code r0 :: .inScope c :: k)) cs w) b k cs e a' w' := by
    intro n
    induction n using Nat.strongRecOn with
    | _ n ih =>
      intro a w hn hJ
      obtain ⟨e, a₁, w₁, hq, harr⟩ := pass0 a w hJ b (.inScope c :: k) cs
      cases e with
      | normal => exact ⟨.normal, a₁, w₁, hq, Steps.trans harr (.one step_inScope)⟩
      | exit id => exact ⟨.exit id, a₁, w₁, hq, fun k' hk => harr k' (by simp [exitTo, hk])⟩
      | goto l' =>
        rcases hq with ⟨rfl, hJ', hlt⟩ | ⟨rfl, h⟩ | ⟨rfl, h⟩
        · obtain ⟨e₂, a₂, w₂, hq₂, harr₂⟩ := ih _ (by omega) a₁ w₁ rfl hJ'
          exact ⟨e₂, a₂, w₂, hq₂, .of_steps (harr _ hg0) harr₂⟩
        · obtain ⟨e₂, a₂, w₂, hq₂, harr₂⟩ := key1 a₁ w₁ h
          exact ⟨e₂, a₂, w₂, hq₂, .of_steps (harr _ hg1) harr₂⟩
        · obtain ⟨e₂, a₂, w₂, hq₂, harr₂⟩ := key2 a₁ w₁ h
          exact ⟨e₂, a₂, w₂, hq₂, .of_steps (harr _ hg2) harr₂⟩
      | ret => exact ⟨_, a₁, w₁, hq, harr⟩
      | panic ch => exact ⟨_, a₁, w₁, hq, harr⟩
      | outgrown => exact ⟨_, a₁, w₁, hq, harr⟩
  obtain ⟨e, a₁, w₁, hq, harr⟩ := first (fun a w h => wp_mono' (jump3_mono (fun _ _ h => h.1) (fun _ _ h => h) (fun _ _ h => h)) (pass0' a w h)) b (.inScope c :: k) cs
  cases e with
  | normal => exact ⟨.normal, a₁, w₁, hq, .head step_scope (Steps.trans harr (.one step_inScope))⟩
  | exit id => exact ⟨.exit id, a₁, w₁, hq, fun k' hk => .head step_scope (harr k' (by simp [exitTo, hk]))⟩
  | goto l' =>
    rcases hq with ⟨rfl, h⟩ | ⟨rfl, h⟩ | ⟨rfl, h⟩
    · obtain ⟨e₂, a₂, w₂, hq₂, harr₂⟩ := key0 _ a₁ w₁ rfl h
      exact ⟨e₂, a₂, w₂, hq₂, .of_steps (.head step_scope (harr _ hg0)) harr₂⟩
    · obtain ⟨e₂, a₂, w₂, hq₂, harr₂⟩ := key1 a₁ w₁ h
      exact ⟨e₂, a₂, w₂, hq₂, .of_steps (.head step_scope (harr _ hg1)) harr₂⟩
    · obtain ⟨e₂, a₂, w₂, hq₂, harr₂⟩ := key2 a₁ w₁ h
      exact ⟨e₂, a₂, w₂, hq₂, .of_steps (.head step_scope (harr _ hg2)) harr₂⟩
  | ret => exact ⟨_, a₁, w₁, hq, .of_steps (.one step_scope) harr⟩
  | panic ch => exact ⟨_, a₁, w₁, hq, .of_steps (.one step_scope) harr⟩
  | outgrown => exact ⟨_, a₁, w₁, hq, .of_steps (.one step_scope) harr⟩
end

end Go.Proofs.YtebkblmejkkhfaaGreatDoor
