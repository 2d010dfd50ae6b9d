/- A scope with three labels: from the first the run may jump back to it (a measure falls), on to the second and to the third; from the second to the third; from the third nowhere. The contract of impl.readNum. errors.As at a target of the program's own error type (a struct of one int64): what it answers and what it leaves in memory. errors.As at the program's own error: the walk; and malformedCode. -/
import Derived.WalkKit
import Derived.WalkMore
import Derived.ScopeJumps
import Derived.Test.YtjnbhppnchmeoaaDoorChecked
import Derived.Test.YtjnbhppnchmeoaaDoorRdW
import Derived.Below
import Derived.Lib.Hide
import Derived.LaidEql
import Derived.Stop.Asserts
import Derived.RowKitTokens
namespace Go.Proofs.YtjnbhppnchmeoaaDoor
open Go

def jump3 (l0 l1 l2 : Nat) (J0 J1 J2 : Act → World → Prop) (Q : Exit → Act → World → Prop) : Exit → Act → World → Prop
  | .goto l, a, w => (l = l0 ∧ J0 a w) ∨ (l = l1 ∧ J1 a w) ∨ (l = l2 ∧ J2 a w)
  | e, a, w => Q e a w

section
variable {P : Program} {a : Act} {w : World} {Q : Exit → Act → World → Prop}

theorem jump3_mono {l0 l1 l2 : Nat} {J0 J1 J2 K0 K1 K2 : Act → World → Prop} (h0 : ∀ a w, J0 a w → K0 a w) (h1 : ∀ a w, J1 a w → K1 a w) (h2 : ∀ a w, J2 a w → K2 a w) :
    ∀ e a w, jump3 l0 l1 l2 J0 J1 J2 Q e a w → jump3 l0 l1 l2 K0 K1 K2 Q e a w := by
  intro e a w h
  cases e with
  | goto l =>
    rcases h with ⟨e, h⟩ | ⟨e, h⟩ | ⟨e, h⟩
    · exact .inl ⟨e, h0 _ _ h⟩
    · exact .inr (.inl ⟨e, h1 _ _ h⟩)
    · exact .inr (.inr ⟨e, h2 _ _ h⟩)
  | _ => exact h

theorem wp_mono' {c : Code} {Q Q' : Exit → Act → World → Prop} (h : ∀ e a w, Q e a w → Q' e a w) (hc : c.wp P Q a w) : c.wp P Q' a w := by
  intro b k cs
  obtain ⟨e, a', w', hq, har⟩ := hc b k cs
  exact ⟨e, a', w', h _ _ _ hq, har⟩

theorem wp_scope_three {c t0 r1 r2 : Code} (l0 l1 l2 : Nat) (J0 J1 J2 : Act → World → Prop) (μ : Act → World → Nat)
    (hf0 : findLabel c l0 = some (Code.skip.seq t0)) (hf1 : findLabel c l1 = some r1) (hf2 : findLabel c l2 = some r2)
    (pass0' : ∀ a w, J0 a w → t0.wp P (jump3 l0 l1 l2 (fun a' w' => J0 a' w' ∧ μ a' w' < μ a w) J1 J2 Q) a w)
    (pass1 : ∀ a w, J1 a w → r1.wp P (jump3 l0 l1 l2 (fun _ _ => False) (fun _ _ => False) J2 Q) a w)
    (pass2 : ∀ a w, J2 a w → r2.wp P (jump3 l0 l1 l2 (fun _ _ => False) (fun _ _ => False) (fun _ _ => False) Q) a w)
    (first : (∀ a w, J0 a w → t0.wp P (jump3 l0 l1 l2 J0 J1 J2 Q) a w) → c.wp P (jump3 l0 l1 l2 J0 J1 J2 Q) a w) : (Code.scope c).wp P Q a w := by
  obtain ⟨r0, er⟩ : ∃ r0, r0 = Code.skip.seq t0 := ⟨_, rfl⟩
  rw [← er] at hf0
  have pass0 : ∀ a w, J0 a w → r0.wp P (jump3 l0 l1 l2 (fun a' w' => J0 a' w' ∧ μ a' w' < μ a w) J1 J2 Q) a w := fun a w h => by
    rw [er]; exact wp_seq (wp_skip (pass0' a w h))
  intro b k cs
  have hg0 : gotoIn l0 (.inScope c :: k) = some (.code r0 :: .inScope c :: k) := by simp [gotoIn, hf0]
  have hg1 : gotoIn l1 (.inScope c :: k) = some (.code r1 :: .inScope c :: k) := by simp [gotoIn, hf1]
  have hg2 : gotoIn l2 (.inScope c :: k) = some (.code r2 :: .inScope c :: k) := by simp [gotoIn, hf2]
  have key2 : ∀ a w, J2 a w → ∃ e a' w', Q e a' w' ∧ Arrives P (lone (b.at a (.code r2 :: .inScope c :: k)) cs w) b k cs e a' w' := by
    intro a w hJ
    obtain ⟨e, a₁, w₁, hq, harr⟩ := pass2 a w hJ b (.inScope c :: k) cs
    cases e with
    | normal => exact ⟨.normal, a₁, w₁, hq, Steps.trans harr (.one step_inScope)⟩
    | exit id => exact ⟨.exit id, a₁, w₁, hq, fun k' hk => harr k' (by simp [exitTo, hk])⟩
    | goto l' => rcases hq with ⟨_, h⟩ | ⟨_, h⟩ | ⟨_, h⟩ <;> exact h.elim
    | ret => exact ⟨_, a₁, w₁, hq, harr⟩
    | panic ch => exact ⟨_, a₁, w₁, hq, harr⟩
    | outgrown => exact ⟨_, a₁, w₁, hq, harr⟩
  have key1 : ∀ a w, J1 a w → ∃ e a' w', Q e a' w' ∧ Arrives P (lone (b.at a (.code r1 :: .inScope c :: k)) cs w) b k cs e a' w' := by
    intro a w hJ
    obtain ⟨e, a₁, w₁, hq, harr⟩ := pass1 a w hJ b (.inScope c :: k) cs
    cases e with
    | normal => exact ⟨.normal, a₁, w₁, hq, Steps.trans harr (.one step_inScope)⟩
    | exit id => exact ⟨.exit id, a₁, w₁, hq, fun k' hk => harr k' (by simp [exitTo, hk])⟩
    | goto l' =>
      rcases hq with ⟨_, h⟩ | ⟨_, h⟩ | ⟨rfl, h⟩
      · exact h.elim
      · exact h.elim
      · obtain ⟨e₂, a₂, w₂, hq₂, harr₂⟩ := key2 a₁ w₁ h
        exact ⟨e₂, a₂, w₂, hq₂, .of_steps (harr _ hg2) harr₂⟩
    | ret => exact ⟨_, a₁, w₁, hq, harr⟩
    | panic ch => exact ⟨_, a₁, w₁, hq, harr⟩
    | outgrown => exact ⟨_, a₁, w₁, hq, harr⟩
  have key0 : ∀ n a w, μ a w = n → J0 a w → ∃ e a' w', Q e a' w' ∧ Arrives P (lone (b.at a (.code r0 :: .inScope c :: k)) cs w) b k cs e a' w' := by
    intro n
    induction n using Nat.strongRecOn with
    | _ n ih =>
      intro a w hn hJ
      obtain ⟨e, a₁, w₁, hq, harr⟩ := pass0 a w hJ b (.inScope c :: k) cs
      cases e with
      | normal => exact ⟨.normal, a₁, w₁, hq, Steps.trans harr (.one step_inScope)⟩
      | exit id => exact ⟨.exit id, a₁, w₁, hq, fun k' hk => harr k' (by simp [exitTo, hk])⟩
      | goto l' =>
        rcases hq with ⟨rfl, hJ', hlt⟩ | ⟨rfl, h⟩ | ⟨rfl, h⟩
        · obtain ⟨e₂, a₂, w₂, hq₂, harr₂⟩ := ih _ (by omega) a₁ w₁ rfl hJ'
          exact ⟨e₂, a₂, w₂, hq₂, .of_steps (harr _ hg0) harr₂⟩
        · obtain ⟨e₂, a₂, w₂, hq₂, harr₂⟩ := key1 a₁ w₁ h
          exact ⟨e₂, a₂, w₂, hq₂, .of_steps (harr _ hg1) harr₂⟩
        · obtain ⟨e₂, a₂, w₂, hq₂, harr₂⟩ := key2 a₁ w₁ h
          exact ⟨e₂, a₂, w₂, hq₂, .of_steps (harr _ hg2) harr₂⟩
      | ret => exact ⟨_, a₁, w₁, hq, harr⟩
      | panic ch => exact ⟨_, a₁, w₁, hq, harr⟩
      | outgrown => exact ⟨_, a₁, w₁, hq, harr⟩
  obtain ⟨e, a₁, w₁, hq, harr⟩ := first (fun a w h => wp_mono' (jump3_mono (fun _ _ h => h.1) (fun _ _ h => h) (fun _ _ h => h)) (pass0' a w h)) b (.inScope c :: k) cs
  cases e with
  | normal => exact ⟨.normal, a₁, w₁, hq, .head step_scope (Steps.trans harr (.one step_inScope))⟩
  | exit id => exact ⟨.exit id, a₁, w₁, hq, fun k' hk => .head step_scope (harr k' (by simp [exitTo, hk]))⟩
  | goto l' =>
    rcases hq with ⟨rfl, h⟩ | ⟨rfl, h⟩ | ⟨rfl, h⟩
    · obtain ⟨e₂, a₂, w₂, hq₂, harr₂⟩ := key0 _ a₁ w₁ rfl h
      exact ⟨e₂, a₂, w₂, hq₂, .of_steps (.head step_scope (harr _ hg0)) harr₂⟩
    · obtain ⟨e₂, a₂, w₂, hq₂, harr₂⟩ := key1 a₁ w₁ h
      exact ⟨e₂, a₂, w₂, hq₂, .of_steps (.head step_scope (harr _ hg1)) harr₂⟩
    · obtain ⟨e₂, a₂, w₂, hq₂, harr₂⟩ := key2 a₁ w₁ h
      exact ⟨e₂, a₂, w₂, hq₂, .of_steps (.head step_scope (harr _ hg2)) harr₂⟩
  | ret => exact ⟨_, a₁, w₁, hq, .of_steps (.one step_scope) harr⟩
  | panic ch => exact ⟨_, a₁, w₁, hq, .of_steps (.one step_scope) harr⟩
  | outgrown => exact ⟨_, a₁, w₁, hq, .of_steps (.one step_scope) harr⟩
end

end Go.Proofs.YtjnbhppnchmeoaaDoor

namespace Go.Proofs.YtjnbhppnchmeoaaDoor
open Go.RowKit
set_option linter.unusedVariables false

theorem not_i64 {n : Nat} (h : n < 9223372036854775808) : bits BinOp.xor IntKind.i64 (-1) (n : Int) = -1 - (n : Int) := by
  show IntKind.i64.wrap ((BitVec.ofInt 64 (-1) ^^^ BitVec.ofInt 64 (n : Int)).toNat : Int) = _
  have h1 : BitVec.ofInt 64 (-1) = BitVec.allOnes 64 := by decide
  rw [h1, BitVec.allOnes_xor, BitVec.toNat_not, ofInt_u64 n (by omega)]
  simp [IntKind.wrap, IntKind.bits, IntKind.signed]
  omega
theorem and_one {u : Nat} (h : u < 18446744073709551616) : bits BinOp.and IntKind.u64 (u : Int) 1 = ((u % 2 : Nat) : Int) := by
  have := u64_and_nat u 1 h (by omega)
  rw [show (1 : Int) = ((1 : Nat) : Int) from rfl, this, show (1 : Nat) = 2 ^ 1 - 1 from rfl, Nat.and_two_pow_sub_one_eq_mod]
theorem retI' {k : IntKind} {a b : Int} (h : a = b) : Ending.returned (.int k a) = .returned (.int k b) := by rw [h]

/-- The next seven bits, as the walk writes them. -/
theorem or_walk {k u b : Nat} (hk : k ≤ 9) (hu : u < 2 ^ (7 * k)) (hb : b < 256) (h9 : ¬ (k = 9 ∧ 1 < b)) :
    bits BinOp.or IntKind.u64 (u : Int) (IntKind.u64.wrap (IntKind.u64.wrap (bits BinOp.and IntKind.u8 (b : Int) 127) * 2 ^ (7 * k))) = ((u + b % 128 * 2 ^ (7 * k) : Nat) : Int) := by
  have hm : b % 128 < 128 := Nat.mod_lt _ (by omega)
  have e1 : bits BinOp.and IntKind.u8 (b : Int) 127 = ((b % 128 : Nat) : Int) := by
    have := u8_and_nat b 127 hb (by omega)
    rw [show (127 : Int) = ((127 : Nat) : Int) from rfl, this, show (127 : Nat) = 2 ^ 7 - 1 from rfl, Nat.and_two_pow_sub_one_eq_mod]
  have h := step_u64 hk hu hm (by omega)
  have h1 : u < 18446744073709551616 := by omega
  have h2 : b % 128 * 2 ^ (7 * k) < 18446744073709551616 := by omega
  have e2 : IntKind.u64.wrap (IntKind.u64.wrap ((b % 128 : Nat) : Int) * 2 ^ (7 * k)) = ((b % 128 * 2 ^ (7 * k) : Nat) : Int) := by
    have e3 : IntKind.u64.wrap ((b % 128 : Nat) : Int) = ((b % 128 : Nat) : Int) := by rw [IntKind.wrap_u64]; omega
    have e4 : ((b % 128 : Nat) : Int) * 2 ^ (7 * k) = ((b % 128 * 2 ^ (7 * k) : Nat) : Int) := by simp
    rw [e3, e4, IntKind.wrap_u64]; omega
  rw [e1, e2, u64_or_nat _ _ h1 h2, or_add hu]
theorem wrap_half {u : Nat} (h : u < 18446744073709551616) : wrap64 ((u : Int) / 2) = ((u / 2 : Nat) : Int) := by simp only [wrap64]; omega
theorem unz1 {u : Nat} (h : u < 18446744073709551616) (ho : u % 2 = 1) : bits BinOp.xor IntKind.i64 (-1) (wrap64 ((u : Int) / 2)) = unzig u := by
  rw [wrap_half h, not_i64 (by omega)]; unfold unzig; rw [if_pos ho]; omega
theorem unz0 {u : Nat} (h : u < 18446744073709551616) (ho : ¬ u % 2 = 1) : wrap64 ((u : Int) / 2) = unzig u := by
  rw [wrap_half h]; unfold unzig; rw [if_neg ho]

set_option maxHeartbeats 1000000 in
theorem unzigzag_any (u : Nat) (w : World) (hu : Hid (u < 18446744073709551616)) :
    Calls Tryd.prog 90 #[.int .u64 u] w fun e w' => e = .returned (.int .i64 (unzig u)) ∧ w = w' := by
  have ha := and_one hu.out
  obtain ⟨m, HM⟩ : ∃ m : Nat, Hid (u % 2 = m) := ⟨_, rfl⟩
  rw [HM.out] at ha
  by_cases ho : m = 1
  · have ho' : ((m : Int) == 1) = true := by simp; omega
    go_enter Tryd.func90, Tryd.ntmps90
    go_wp2
    all_goals go_ret
    all_goals first | exact ⟨retI' (unz1 hu.out (HM.out.trans ho)), rfl⟩ | (exact absurd ‹¬ IntKind.i64.signed = true› (by decide))
  · have ho' : ((m : Int) == 1) = false := by simp; omega
    go_enter Tryd.func90, Tryd.ntmps90
    go_wp2
    go_ret
    exact ⟨retI' (unz0 hu.out (fun e => ho (HM.out.symm.trans e))), rfl⟩

def readV (p : Nat) : Except Int (Nat × Nat) → Value
  | .error c => .tuple #[.int .i64 0, .int .i64 0, .iface 121 (.agg #[.int .i64 c])]
  | .ok (u, m) => .tuple #[.int .i64 (unzig u), .int .i64 ((p : Int) + m), .nilIface]
/-- At the label more: k bytes are read, they hold q. -/
def AtMore (s : ByteArray) (p : Nat) (R : Except Int (Nat × Nat)) (w : World) (a' : Act) (w' : World) : Prop :=
  w' = w ∧ ∃ (k q : Nat) (ai ki : Int) (u8 u11 u12 u13 u14 u15 u16 u17 u18 u19 u20 u21 u22 u23 u24 u25 u26 u27 u28 u29 u30 u31 u32 u33 u34 u35 u36 u37 u38 u39 u40 u41 u42 u43 u44 u45 u46 u47 u48 u49 u50 : Value), k ≤ 9 ∧ Hid (q < 2 ^ (7 * k)) ∧ Hid (rd s p (10 - k) k q = R) ∧ ai = (p : Int) + k ∧ ki = (k : Int) ∧
    a' = { tmps := #[.string s, .int .i64 ai, undef, undef, .int .i64 0, .int .i64 0, .nilIface, .int .u64 q, u8, .int .u64 ki, .int .i64 0, u11, u12, u13, u14, u15, u16, u17, u18, u19, u20, u21, u22, u23, u24, u25, u26, u27, u28, u29, u30, u31, u32, u33, u34, u35, u36, u37, u38, u39, u40, u41, u42, u43, u44, u45, u46, u47, u48, u49, u50], defers := [] }
/-- At the label last: the last byte is b, all hold q. -/
def AtLast (s : ByteArray) (p : Nat) (R : Except Int (Nat × Nat)) (w : World) (a' : Act) (w' : World) : Prop :=
  w' = w ∧ ∃ (k q b : Nat) (u11 u12 u13 u14 u15 u16 u17 u18 u19 u20 u21 u22 u23 u24 u25 u26 u27 u28 u29 u30 u31 u32 u33 u34 u35 u36 u37 u38 u39 u40 u41 u42 u43 u44 u45 u46 u47 u48 u49 u50 : Value), k ≤ 9 ∧ b < 128 ∧ p + k < s.size ∧ Hid (q < 18446744073709551616) ∧ Hid ((if b = 0 ∧ 0 < k then .error 3 else .ok (q, k + 1)) = R) ∧
    a' = { tmps := #[.string s, .int .i64 ((p : Int) + k + 1), undef, undef, .int .i64 0, .int .i64 0, .nilIface, .int .u64 q, .int .u8 b, .int .u64 ((k : Int) + 1), .int .i64 0, u11, u12, u13, u14, u15, u16, u17, u18, u19, u20, u21, u22, u23, u24, u25, u26, u27, u28, u29, u30, u31, u32, u33, u34, u35, u36, u37, u38, u39, u40, u41, u42, u43, u44, u45, u46, u47, u48, u49, u50], defers := [] }
/-- At the label wrong: the code is c. -/
def AtWrong (s : ByteArray) (R : Except Int (Nat × Nat)) (w : World) (a' : Act) (w' : World) : Prop :=
  w' = w ∧ ∃ (c : Int) (u1 u7 u8 u9 u11 u12 u13 u14 u15 u16 u17 u18 u19 u20 u21 u22 u23 u24 u25 u26 u27 u28 u29 u30 u31 u32 u33 u34 u35 u36 u37 u38 u39 u40 u41 u42 u43 u44 u45 u46 u47 u48 u49 u50 : Value), Hid (.error c = R) ∧
    a' = { tmps := #[.string s, u1, undef, undef, .int .i64 0, .int .i64 0, .nilIface, u7, u8, u9, .int .i64 c, u11, u12, u13, u14, u15, u16, u17, u18, u19, u20, u21, u22, u23, u24, u25, u26, u27, u28, u29, u30, u31, u32, u33, u34, u35, u36, u37, u38, u39, u40, u41, u42, u43, u44, u45, u46, u47, u48, u49, u50], defers := [] }

set_option maxRecDepth 1000000 in
set_option maxHeartbeats 4000000 in
theorem readNum_any (s : ByteArray) (p : Nat) (w : World) (hs : s.size ≤ 20000) (hp : (p : Int) ≤ 9223372036854775807) :
    Calls Tryd.prog 65 #[.string s, .int .i64 p] w fun e w' => e = .returned (readV p (rd s p 10 0 0)) ∧ w = w' := by
  obtain ⟨R, HR⟩ : ∃ R, Hid (rd s p 10 0 0 = R) := ⟨_, rfl⟩
  rw [HR.out]
  go_enter Tryd.func65, Tryd.ntmps65
  go_wp2
  refine wp_scope_three 1 2 0 (AtMore s p R w) (AtLast s p R w) (AtWrong s R w) (fun a' _ => 10 - (intOf (a'.tmps.getD 9 undef)).toNat) rfl rfl rfl ?pass0 ?pass1 ?pass2 ?first
  case pass2 =>
    rintro a' w' ⟨rfl, c, u1, u7, u8, u9, u11, u12, u13, u14, u15, u16, u17, u18, u19, u20, u21, u22, u23, u24, u25, u26, u27, u28, u29, u30, u31, u32, u33, u34, u35, u36, u37, u38, u39, u40, u41, u42, u43, u44, u45, u46, u47, u48, u49, u50, HE, rfl⟩
    go_wp2
    simp only [jump3]
    go_ret3
    exact ⟨by rw [← HE.out]; rfl, rfl⟩
  case pass1 =>
    rintro a' w' ⟨rfl, k, q, b, u11, u12, u13, u14, u15, u16, u17, u18, u19, u20, u21, u22, u23, u24, u25, u26, u27, u28, u29, u30, u31, u32, u33, u34, u35, u36, u37, u38, u39, u40, u41, u42, u43, u44, u45, u46, u47, u48, u49, u50, hk, hb, hlt, HQ, HE, rfl⟩
    by_cases hz : b = 0 ∧ 0 < k
    · have HE' := HE.out
      rw [if_pos hz] at HE'
      have HE2 := Lib.hid HE'
      have hz1 : ((b : Int) == 0) = true := by simp; omega
      have hz2 : (1 : Int) < (k : Int) + 1 := by omega
      clear HE HE' hz
      go_wp2
      go_step3
      exact .inr (.inr ⟨rfl, rfl, 3, _, _, _, _, _, _, _, _, _, _, _, _, _, _, _, _, _, _, _, _, _, _, _, _, _, _, _, _, _, _, _, _, _, _, _, _, _, _, _, _, _, _, _, _, HE2, rfl⟩)
    · have HE' := HE.out
      rw [if_neg hz] at HE'
      have HE2 := Lib.hid HE'
      have hz1 : (((b : Int) == 0) = false) ∨ (((b : Int) == 0) = true ∧ ¬ (1 : Int) < (k : Int) + 1) := by
        by_cases e : b = 0
        · right; exact ⟨by simp; omega, by omega⟩
        · left; simp; omega
      clear HE HE' hz
      rcases hz1 with hz1 | ⟨hz1, hz2⟩
      all_goals
        go_wp2_with (go_at_call 90; refine (unzigzag_any q _ HQ).mono ?_; rintro e w1 ⟨rfl, rfl⟩)
        simp only [jump3]
        go_ret3
        exact ⟨by rw [← HE2.out]; simp [readV, Int.add_assoc], rfl⟩
  case pass0 =>
    rintro a' w' ⟨rfl, k, q, ai, ki, u8, u11, u12, u13, u14, u15, u16, u17, u18, u19, u20, u21, u22, u23, u24, u25, u26, u27, u28, u29, u30, u31, u32, u33, u34, u35, u36, u37, u38, u39, u40, u41, u42, u43, u44, u45, u46, u47, u48, u49, u50, hk, HQ, HK, rfl, rfl, rfl⟩
    by_cases hlt : p + k < s.size
    · have b1 : s[p + k].toNat < 256 := (s[p + k]).toNat_lt
      have b2 : (p : Int) + k < s.size := by omega
      have e1 : ((p : Int) + (k : Int)).toNat = p + k := by omega
      by_cases h9 : k = 9 ∧ 1 < s[p + k].toNat
      · obtain ⟨rfl, hb1⟩ := h9
        have HE := Lib.hid ((rd_ten (u := q) rfl hlt hb1).symm.trans HK.out)
        have hb2 : (1 : Int) < (s[p + 9].toNat : Int) := by omega
        clear HK
        go_wp2
        go_step3
        exact .inr (.inr ⟨rfl, rfl, 3, _, _, _, _, _, _, _, _, _, _, _, _, _, _, _, _, _, _, _, _, _, _, _, _, _, _, _, _, _, _, _, _, _, _, _, _, _, _, _, _, _, _, _, _, HE, rfl⟩)
      · have hg : ((k : Int) + 1 == 10) = false ∨ (((k : Int) + 1 == 10) = true ∧ (s[p + k].toNat : Int) ≤ 1) := by
          by_cases e : k = 9
          · right; exact ⟨by simp; omega, by omega⟩
          · left; simp; omega
        have hU := or_walk hk HQ.out b1 h9
        have hm : s[p + k].toNat % 128 < 128 := Nat.mod_lt _ (by omega)
        have HL := Lib.hid (step_u64 hk HQ.out hm (by omega))
        have HN := Lib.hid (step_lt HQ.out hm)
        obtain ⟨q', HQ'⟩ : ∃ q', Hid (q + s[p + k].toNat % 128 * 2 ^ (7 * k) = q') := ⟨q + s[p + k].toNat % 128 * 2 ^ (7 * k), Lib.hid rfl⟩
        rw [HQ'.out] at hU HL HN
        by_cases hb : s[p + k].toNat < 128
        · have HD : Hid ((if s[p + k].toNat = 0 ∧ 0 < k then .error 3 else .ok (q', k + 1)) = R) := by
            show _ = _
            by_cases hz : s[p + k].toNat = 0 ∧ 0 < k
            · rw [if_pos hz]; exact (rd_zero (u := q) hk hlt hz.1 hz.2).symm.trans HK.out
            · rw [if_neg hz, ← HQ'.out, Nat.mod_eq_of_lt hb]; exact (rd_done (u := q) hk hlt hb h9 hz).symm.trans HK.out
          clear hm h9
          rcases hg with hg | ⟨hg, hg1⟩
          all_goals
            go_wp2
            go_step3
            exact .inr (.inl ⟨rfl, rfl, k, q', s[p + k].toNat, _, _, _, _, _, _, _, _, _, _, _, _, _, _, _, _, _, _, _, _, _, _, _, _, _, _, _, _, _, _, _, _, _, _, _, _, _, _, _, _, hk, hb, hlt, HL, HD, rfl⟩)
        · have hk9 : k < 9 := by omega
          have hg' : ((k : Int) + 1 == 10) = false := by simp; omega
          have HM : Hid (rd s p (10 - (k + 1)) (k + 1) q' = R) := by
            show _ = _
            rw [← HQ'.out]; exact (rd_more (u := q) hk9 hlt hb).symm.trans HK.out
          clear hm h9 hg
          go_wp2
          go_step3
          refine .inl ⟨rfl, ⟨rfl, k + 1, q', _, _, _, _, _, _, _, _, _, _, _, _, _, _, _, _, _, _, _, _, _, _, _, _, _, _, _, _, _, _, _, _, _, _, _, _, _, _, _, _, _, _, _, by omega, HN, HM, by omega, by omega, rfl⟩, ?_⟩
          simp [intOf]; omega
    · have HE := Lib.hid ((rd_short (u := q) hk hlt).symm.trans HK.out)
      have b2 : ¬ (p : Int) + k < (s.size : Int) := by omega
      clear HK
      go_wp2
      go_step3
      exact .inr (.inr ⟨rfl, rfl, 4, _, _, _, _, _, _, _, _, _, _, _, _, _, _, _, _, _, _, _, _, _, _, _, _, _, _, _, _, _, _, _, _, _, _, _, _, _, _, _, _, _, _, _, _, HE, rfl⟩)
  case first =>
    intro hpass
    go_wp2
    go_step3
    rename_i K hK
    exact hK _ _ (hpass _ _ ⟨rfl, 0, 0, _, _, _, _, _, _, _, _, _, _, _, _, _, _, _, _, _, _, _, _, _, _, _, _, _, _, _, _, _, _, _, _, _, _, _, _, _, _, _, _, _, _, _, by omega, by show 0 < _; decide, HR, by simp, by simp, rfl⟩)

end Go.Proofs.YtjnbhppnchmeoaaDoor

namespace Go.Proofs.YtjnbhppnchmeoaaDoor
open Go.RowKit Go.Extern.Stop Go.Stop Go.Extern
set_option linter.unusedVariables false

theorem rl_valueOfP (t : Addr) (w : World) : (ReflectliteValue.unpack (.iface 123 (.pointer (some t)))).run Tryd.prog w
    = .ok (.agg #[.pointer (some ⟨1, 123, none⟩), .pointer (some ⟨w.heap.size, 0, none⟩), .int .u64 150]) (w.alloc (.cells #[.pointer (some t)] 123)) := by kernel_rfl
theorem rl_typeP (a : Addr) (w : World) : (ReflectliteValue.methodAny (ReflectliteValue.valueError "reflectlite.Value.Type" 0) (fun t _ _ _ => ReflectliteType.toType t) #[.agg #[.pointer (some ⟨1, 123, none⟩), .pointer (some a), .int .u64 150]]).run Tryd.prog w
    = .ok (.iface 153 (.agg #[.pointer (some ⟨1, 123, none⟩)])) w := by kernel_rfl
theorem rl_methodKind (h : Value) (w : World) : (Go.method 295 153 (.agg #[h]) "Kind").run Tryd.prog w = .ok (144, h) w := by kernel_rfl
theorem rl_kindP (w : World) : ((ReflectliteType.abiMethod fun t => (fun a : Nat => Value.int IntKind.u8 (a : Int)) <$> Rtype.kind t) #[.pointer (some ⟨1, 123, none⟩)]).run Tryd.prog w = .ok (.int .u8 22) w := by kernel_rfl
theorem rl_kindM (w : World) : ((ReflectliteType.abiMethod fun t => (fun a : Nat => Value.int IntKind.u8 (a : Int)) <$> Rtype.kind t) #[.pointer (some ⟨1, 121, none⟩)]).run Tryd.prog w = .ok (.int .u8 25) w := by kernel_rfl
theorem rl_m (z : Sem Value) (f : TypeId → Addr → Nat → Nat → Sem Value) (v : Value) :
    ReflectliteValue.method z f #[v] = (do match ← ReflectliteValue.parts v with | none => z | some (t, a, fl) => f t a fl (fl % 32)) := rfl
theorem rl_partsP (a : Addr) (w : World) : (ReflectliteValue.parts (.agg #[.pointer (some ⟨1, 123, none⟩), .pointer (some a), .int .u64 150])).run Tryd.prog w = .ok (some (123, a, 150)) w := by kernel_rfl
theorem rl_isNilP (a p : Addr) (W : World) (ha : W.cell? a = some (.pointer (some p))) :
    (ReflectliteValue.method (ReflectliteValue.valueError "reflectlite.Value.IsNil" 0) ReflectliteValue.isNil #[.agg #[.pointer (some ⟨1, 123, none⟩), .pointer (some a), .int .u64 150]]).run Tryd.prog W = .ok (.bool false) W := by
  rw [rl_m]
  simp only [Sem.run_bind, rl_partsP, Result.andThen]
  simp [ReflectliteValue.isNil, loadVar, isAgg, underlying, Tryd.underlying123, ha, Result.andThen]
theorem rl_methodElem (h : Value) (w : World) : (Go.method 295 153 (.agg #[h]) "Elem").run Tryd.prog w = .ok (154, .agg #[h]) w := by kernel_rfl
theorem rl_methodImplements (h : Value) (w : World) : (Go.method 295 153 (.agg #[h]) "Implements").run Tryd.prog w = .ok (155, .agg #[h]) w := by kernel_rfl
theorem rl_methodAssignableTo (h : Value) (w : World) : (Go.method 295 153 (.agg #[h]) "AssignableTo").run Tryd.prog w = .ok (152, .agg #[h]) w := by kernel_rfl
theorem rl_elemP (w : World) : (ReflectliteType.method ReflectliteType.elem #[.agg #[.pointer (some ⟨1, 123, none⟩)]]).run Tryd.prog w = .ok (.iface 153 (.agg #[.pointer (some ⟨1, 121, none⟩)])) w := by kernel_rfl
theorem rl_implementsM (w : World) : (ReflectliteType.relation "Implements" ReflectliteType.implements_ #[.agg #[.pointer (some ⟨1, 121, none⟩)], .iface 153 (.agg #[.pointer (some ⟨1, 101, none⟩)])]).run Tryd.prog w = .ok (.bool true) w := by kernel_rfl
theorem rl_typeOfM (v : Value) (w : World) : (ReflectliteType.typeOf #[.iface 121 v]).run Tryd.prog w = .ok (.iface 153 (.agg #[.pointer (some ⟨1, 121, none⟩)])) w := by kernel_rfl
theorem rl_assignableM (w : World) : (ReflectliteType.relation "AssignableTo" ReflectliteType.assignableTo #[.agg #[.pointer (some ⟨1, 121, none⟩)], .iface 153 (.agg #[.pointer (some ⟨1, 121, none⟩)])]).run Tryd.prog w = .ok (.bool true) w := by kernel_rfl
theorem rl_valueOfM (c : Int) (w : World) : (ReflectliteValue.unpack (.iface 121 (.agg #[.int .i64 c]))).run Tryd.prog w
    = .ok (.agg #[.pointer (some ⟨1, 121, none⟩), .pointer (some ⟨w.heap.size, 0, none⟩), .int .u64 153]) (w.alloc (.cells #[.int .i64 c] 121)) := by kernel_rfl
theorem rl_elemOfP (w : World) : (Rtype.elem? 123).run Tryd.prog w = .ok (some 121) w := by kernel_rfl
theorem rl_mkM (p : Addr) (w : World) : (ReflectliteValue.mk 121 p ReflectliteValue.flagAddr).run Tryd.prog w = .ok (.agg #[.pointer (some ⟨1, 121, none⟩), .pointer (some p), .int .u64 409]) w := by kernel_rfl
theorem rl_elemVP (a p : Addr) (W : World) (ha : W.cell? a = some (.pointer (some p))) :
    (ReflectliteValue.method (ReflectliteValue.valueError "reflectlite.Value.Elem" 0) ReflectliteValue.elem #[.agg #[.pointer (some ⟨1, 123, none⟩), .pointer (some a), .int .u64 150]]).run Tryd.prog W
      = .ok (.agg #[.pointer (some ⟨1, 121, none⟩), .pointer (some p), .int .u64 409]) W := by
  rw [rl_m]
  simp only [Sem.run_bind, rl_partsP, Result.andThen]
  simp [ReflectliteValue.elem, loadVar, isAgg, underlying, Tryd.underlying123, ha, Result.andThen, rl_elemOfP, rl_mkM]
theorem rl_s (v x : Value) : ReflectliteValue.set #[v, x] = (do
    let (some (dst, a, fl), some (src, b, _)) := (← ReflectliteValue.parts v, ← ReflectliteValue.parts x)
      | unsupported (.noEntry "extern/(internal/reflectlite.Value).Set.zeroValue")
    if fl / ReflectliteValue.flagAddr % 2 == 0 then unsupported (.noEntry "extern/(internal/reflectlite.Value).Set.unaddressable")
    let val ← loadVar src b
    if ← Rtype.directlyAssignable dst src then storeVar dst a val
    else if ← Rtype.implements dst src then
      if (← Rtype.kind src) == 20 then
        match val with
        | .nilIface => unsupported (.noEntry "extern/reflectlite: a nil value of one interface type handed on as a value of another")
        | _ => storeVar dst a val
      else storeVar dst a (.iface src val)
    else panicString ("reflectlite.Set: value of type " ++ (← Rtype.spelt src) ++ " is not assignable to type " ++ (← Rtype.spelt dst))
    pure (.tuple #[])) := rfl
theorem rl_partsMa (a : Addr) (w : World) : (ReflectliteValue.parts (.agg #[.pointer (some ⟨1, 121, none⟩), .pointer (some a), .int .u64 409])).run Tryd.prog w = .ok (some (121, a, 409)) w := by kernel_rfl
theorem rl_partsM (a : Addr) (w : World) : (ReflectliteValue.parts (.agg #[.pointer (some ⟨1, 121, none⟩), .pointer (some a), .int .u64 153])).run Tryd.prog w = .ok (some (121, a, 153)) w := by kernel_rfl
theorem rl_directM (w : World) : (Rtype.directlyAssignable 121 121).run Tryd.prog w = .ok true w := by kernel_rfl
theorem rl_sizeM (w : World) : (sizeOf 121).run Tryd.prog w = .ok 1 w := by kernel_rfl
theorem rl_aggM (w : World) : (isAgg 121).run Tryd.prog w = .ok true w := by kernel_rfl
theorem rl_loadM (b : Addr) (c : Int) (W : World) (hb : W.cell? b = some (.int .i64 c)) : (loadVar 121 b).run Tryd.prog W = .ok (.agg #[.int .i64 c]) W := by
  simp [loadVar, loadCells, loadCellsFrom, hb, Addr.add, Result.andThen]
theorem rl_storeM (ta : Addr) (c : Int) (old : Value) (W : World) (ht : W.cell? ta = some old) (hf : W.frozen? ta = false) : (storeVar 121 ta (.agg #[.int .i64 c])).run Tryd.prog W = .ok () (W.setCell ta (.int .i64 c)) := by
  simp [storeVar, Value.cells, storeCells, Addr.add, Result.andThen]
  rw [run_store Tryd.prog W ta _ _ (by rfl)]
  simp [ht, hf]
theorem rl_setM (ta b : Addr) (c : Int) (old : Value) (W : World) (hb : W.cell? b = some (.int .i64 c)) (ht : W.cell? ta = some old) (hf : W.frozen? ta = false) :
    (ReflectliteValue.set #[.agg #[.pointer (some ⟨1, 121, none⟩), .pointer (some ta), .int .u64 409], .agg #[.pointer (some ⟨1, 121, none⟩), .pointer (some b), .int .u64 153]]).run Tryd.prog W
      = .ok (.tuple #[]) (W.setCell ta (.int .i64 c)) := by
  rw [rl_s]
  simp only [Sem.run_bind, rl_partsMa, rl_partsM, Result.andThen]
  simp [ReflectliteValue.flagAddr, rl_loadM b c W hb, Result.andThen, rl_directM, rl_storeM ta c old W ht hf]

end Go.Proofs.YtjnbhppnchmeoaaDoor

namespace Go.Proofs.YtjnbhppnchmeoaaDoor
open Go.RowKit Go.Extern.Stop Go.Stop Go.Extern
set_option linter.unusedVariables false

set_option maxHeartbeats 4000000 in
theorem as_hit (c : Int) (t : Addr) (old : Value) (w : World) (hg : w.cell? ⟨0, 0, none⟩ = some (.iface 153 (.agg #[.pointer (some ⟨1, 101, none⟩)]))) (ht0 : w.cell? t = some old) (hf0 : w.frozen? t = false) :
    Calls Tryd.prog 91 #[.iface 121 (.agg #[.int .i64 c]), .iface 123 (.pointer (some t))] w fun ev w' => ev = .returned (.bool true) ∧ w' = ((((w.alloc (.cells #[.pointer (some t)] 123)).alloc (.cells #[.pointer (some ⟨1, 123, none⟩), .pointer (some ⟨w.heap.size, 0, none⟩), .int .u64 150] 137)).alloc (.cells #[.pointer (some ⟨1, 123, none⟩), .pointer (some ⟨w.heap.size, 0, none⟩), .int .u64 150] 137)).alloc (.cells #[.int .i64 c] 121)).setCell t (.int .i64 c) := by
  have h6 := @run_callFunc_extern Tryd.prog 112 _ (fun args => ReflectliteValue.unpack (args.getD 0 (.tuple #[]))) Tryd.func112 (by kernel_rfl) (by kernel_rfl) (by kernel_rfl) (by kernel_rfl)
  have h7 := @run_callFunc_extern Tryd.prog 113 _ (ReflectliteValue.methodAny (ReflectliteValue.valueError "reflectlite.Value.Type" 0) (fun t _ _ _ => ReflectliteType.toType t)) Tryd.func113 (by kernel_rfl) (by kernel_rfl) (by kernel_rfl) (by kernel_rfl)
  have h8 := @run_callFunc_extern Tryd.prog 114 _ (ReflectliteValue.method (ReflectliteValue.valueError "reflectlite.Value.IsNil" 0) ReflectliteValue.isNil) Tryd.func114 (by kernel_rfl) (by kernel_rfl) (by kernel_rfl) (by kernel_rfl)
  have h27 := @run_callFunc_extern Tryd.prog 144 _ (ReflectliteType.abiMethod fun t => do pure (.int .u8 (← Rtype.kind t))) Tryd.func144 (by kernel_rfl) (by kernel_rfl) (by kernel_rfl) (by kernel_rfl)
  have h37 := @run_callFunc_extern Tryd.prog 154 _ (ReflectliteType.method ReflectliteType.elem) Tryd.func154 (by kernel_rfl) (by kernel_rfl) (by kernel_rfl) (by kernel_rfl)
  have h38 := @run_callFunc_extern Tryd.prog 155 _ (ReflectliteType.relation "Implements" ReflectliteType.implements_) Tryd.func155 (by kernel_rfl) (by kernel_rfl) (by kernel_rfl) (by kernel_rfl)
  have h10 := @run_callFunc_extern Tryd.prog 125 _ ReflectliteType.typeOf Tryd.func125 (by kernel_rfl) (by kernel_rfl) (by kernel_rfl) (by kernel_rfl)
  have h35 := @run_callFunc_extern Tryd.prog 152 _ (ReflectliteType.relation "AssignableTo" ReflectliteType.assignableTo) Tryd.func152 (by kernel_rfl) (by kernel_rfl) (by kernel_rfl) (by kernel_rfl)
  have h11 := @run_callFunc_extern Tryd.prog 126 _ (ReflectliteValue.method (ReflectliteValue.valueError "reflectlite.Value.Elem" 0) ReflectliteValue.elem) Tryd.func126 (by kernel_rfl) (by kernel_rfl) (by kernel_rfl) (by kernel_rfl)
  have h12 := @run_callFunc_extern Tryd.prog 127 _ ReflectliteValue.set Tryd.func127 (by kernel_rfl) (by kernel_rfl) (by kernel_rfl) (by kernel_rfl)
  have tO := rl_typeOfM
  have mA := rl_methodAssignableTo
  have a25 := rl_assignableM
  have v25 := rl_valueOfM
  have f6 := rl_valueOfP
  have f7 := rl_typeP
  have mK := rl_methodKind
  have mE := rl_methodElem
  have mI := rl_methodImplements
  have k27 := rl_kindP
  have k25 := rl_kindM
  have e27 := rl_elemP
  have i25 := rl_implementsM
  have n8 := rl_isNilP ⟨w.heap.size, 0, none⟩ t ((w.alloc (.cells #[.pointer (some t)] 123)).alloc (.cells #[.pointer (some ⟨1, 123, none⟩), .pointer (some ⟨w.heap.size, 0, none⟩), .int .u64 150] 137)) (by simp)
  have hlt : 0 < w.heap.size := by
    rcases Nat.lt_or_ge 0 w.heap.size with h | h
    · exact h
    · simp [World.cell?, Array.getElem?_eq_none h] at hg
  have hg2 : ((w.alloc (.cells #[.pointer (some t)] 123)).alloc (.cells #[.pointer (some ⟨1, 123, none⟩), .pointer (some ⟨w.heap.size, 0, none⟩), .int .u64 150] 137)).cell? ⟨0, 0, none⟩ = some (.iface 153 (.agg #[.pointer (some ⟨1, 101, none⟩)])) := by
    rw [World.cell?_alloc_lt _ _ ⟨0, 0, none⟩ (by simp <;> omega), World.cell?_alloc_lt _ _ ⟨0, 0, none⟩ hlt]; exact hg
  have htl : t.block < w.heap.size := by
    rcases Nat.lt_or_ge t.block w.heap.size with h | h
    · exact h
    · simp [World.cell?, Array.getElem?_eq_none h] at ht0
  have el := rl_elemVP ⟨w.heap.size, 0, none⟩ t (((w.alloc (.cells #[.pointer (some t)] 123)).alloc (.cells #[.pointer (some ⟨1, 123, none⟩), .pointer (some ⟨w.heap.size, 0, none⟩), .int .u64 150] 137)).alloc (.cells #[.pointer (some ⟨1, 123, none⟩), .pointer (some ⟨w.heap.size, 0, none⟩), .int .u64 150] 137)) (by rw [World.cell?_alloc_lt _ _ ⟨w.heap.size, 0, none⟩ (by simp; omega)]; simp)
  have st := rl_setM t ⟨w.heap.size + 1 + 1 + 1, 0, none⟩ c old ((((w.alloc (.cells #[.pointer (some t)] 123)).alloc (.cells #[.pointer (some ⟨1, 123, none⟩), .pointer (some ⟨w.heap.size, 0, none⟩), .int .u64 150] 137)).alloc (.cells #[.pointer (some ⟨1, 123, none⟩), .pointer (some ⟨w.heap.size, 0, none⟩), .int .u64 150] 137)).alloc (.cells #[.int .i64 c] 121))
    (by rw [World.cell?_alloc_at _ _ _ _ (by simp)]; rfl)
    (by rw [World.cell?_alloc_lt _ _ t (by simp; omega), World.cell?_alloc_lt _ _ t (by simp; omega), World.cell?_alloc_lt _ _ t (by simp; omega), World.cell?_alloc_lt _ _ t htl]; exact ht0)
    (by rw [World.frozen?_alloc_old _ _ t (by simp; omega), World.frozen?_alloc_old _ _ t (by simp; omega), World.frozen?_alloc_old _ _ t (by simp; omega), World.frozen?_alloc_old _ _ t (Nat.ne_of_lt htl)]; exact hf0)
  go_enter Tryd.func91, Tryd.ntmps91
  go_wp2
  refine wp_loop_rounds 1 ?_
  rw [rounds_succ]
  go_wp2
  go_ret
  exact ⟨rfl, rfl⟩

end Go.Proofs.YtjnbhppnchmeoaaDoor
