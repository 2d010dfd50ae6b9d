/- The contract of impl.readNum. -/
import Derived.Test.YtpgodphnjeifhaaDoorChecked
import Derived.Test.YtpgodphnjeifhaaDoorRd
import Derived.Test.YtpgodphnjeifhaaDoorScope3
namespace Go.Proofs.YtpgodphnjeifhaaDoor
open Go.RowKit
set_option linter.unusedVariables false

theorem not_i64 {n : Nat} (h : n < 9223372036854775808) : bits BinOp.xor IntKind.i64 (-1) (n : Int) = -1 - (n : Int) := by
  show IntKind.i64.wrap ((BitVec.ofInt 64 (-1) ^^^ BitVec.ofInt 64 (n : Int)).toNat : Int) = _
  have h1 : BitVec.ofInt 64 (-1) = BitVec.allOnes 64 := by decide
  rw [h1, BitVec.allOnes_xor, BitVec.toNat_not, ofInt_u64 n (by omega)]
  simp [IntKind.wrap, IntKind.bits, IntKind.signed]
  omega
theorem and_one {u : Nat} (h : u < 18446744073709551616) : bits BinOp.and IntKind.u64 (u : Int) 1 = ((u % 2 : Nat) : Int) := by
  have := u64_and_nat u 1 h (by omega)
  rw [show (1 : Int) = ((1 : Nat) : Int) from rfl, this, show (1 : Nat) = 2 ^ 1 - 1 from rfl, Nat.and_two_pow_sub_one_eq_mod]
theorem retI' {k : IntKind} {a b : Int} (h : a = b) : Ending.returned (.int k a) = .returned (.int k b) := by rw [h]

/-- The next seven bits, as the walk writes them. -/
theorem or_walk {k u b : Nat} (hk : k ≤ 9) (hu : u < 2 ^ (7 * k)) (hb : b < 256) (h9 : ¬ (k = 9 ∧ 1 < b)) :
    bits BinOp.or IntKind.u64 (u : Int) (IntKind.u64.wrap (IntKind.u64.wrap (bits BinOp.and IntKind.u8 (b : Int) 127) * 2 ^ (7 * k))) = ((u + b % 128 * 2 ^ (7 * k) : Nat) : Int) := by
  have hm : b % 128 < 128 := Nat.mod_lt _ (by omega)
  have e1 : bits BinOp.and IntKind.u8 (b : Int) 127 = ((b % 128 : Nat) : Int) := by
    have := u8_and_nat b 127 hb (by omega)
    rw [show (127 : Int) = ((127 : Nat) : Int) from rfl, this, show (127 : Nat) = 2 ^ 7 - 1 from rfl, Nat.and_two_pow_sub_one_eq_mod]
  have h := step_u64 hk hu hm (by omega)
  have h1 : u < 18446744073709551616 := by omega
  have h2 : b % 128 * 2 ^ (7 * k) < 18446744073709551616 := by omega
  have e2 : IntKind.u64.wrap (IntKind.u64.wrap ((b % 128 : Nat) : Int) * 2 ^ (7 * k)) = ((b % 128 * 2 ^ (7 * k) : Nat) : Int) := by
    have e3 : IntKind.u64.wrap ((b % 128 : Nat) : Int) = ((b % 128 : Nat) : Int) := by rw [IntKind.wrap_u64]; omega
    have e4 : ((b % 128 : Nat) : Int) * 2 ^ (7 * k) = ((b % 128 * 2 ^ (7 * k) : Nat) : Int) := by simp
    rw [e3, e4, IntKind.wrap_u64]; omega
  rw [e1, e2, u64_or_nat _ _ h1 h2, or_add hu]
theorem wrap_half {u : Nat} (h : u < 18446744073709551616) : wrap64 ((u : Int) / 2) = ((u / 2 : Nat) : Int) := by simp only [wrap64]; omega
theorem unz1 {u : Nat} (h : u < 18446744073709551616) (ho : u % 2 = 1) : bits BinOp.xor IntKind.i64 (-1) (wrap64 ((u : Int) / 2)) = unzig u := by
  rw [wrap_half h, not_i64 (by omega)]; unfold unzig; rw [if_pos ho]; omega
theorem unz0 {u : Nat} (h : u < 18446744073709551616) (ho : ¬ u % 2 = 1) : wrap64 ((u : Int) / 2) = unzig u := by
  rw [wrap_half h]; unfold unzig; rw [if_neg ho]

set_option maxHeartbeats 1000000 in
theorem unzigzag_any (u : Nat) (w : World) (hu : Hid (u < 18446744073709551616)) :
    Calls Tryd.prog 57 #[.int .u64 u] w fun e w' => e = .returned (.int .i64 (unzig u)) ∧ w = w' := by
  have ha := and_one hu.out
  obtain ⟨m, HM⟩ : ∃ m : Nat, Hid (u % 2 = m) := ⟨_, rfl⟩
  rw [HM.out] at ha
  by_cases ho : m = 1
  · have ho' : ((m : Int) == 1) = true := by simp; omega
    go_enter Tryd.func57, Tryd.ntmps57
    go_wp2
    all_goals go_ret
    all_goals first | exact ⟨retI' (unz1 hu.out (HM.out.trans ho)), rfl⟩ | (exact absurd ‹¬ IntKind.i64.signed = true› (by decide))
  · have ho' : ((m : Int) == 1) = false := by simp; omega
    go_enter Tryd.func57, Tryd.ntmps57
    go_wp2
    go_ret
    exact ⟨retI' (unz0 hu.out (fun e => ho (HM.out.symm.trans e))), rfl⟩

def readV (p : Nat) : Except Int (Nat × Nat) → Value
  | .error c => .tuple #[.int .i64 0, .int .i64 0, .iface 80 (.agg #[.int .i64 c])]
  | .ok (u, m) => .tuple #[.int .i64 (unzig u), .int .i64 ((p : Int) + m), .nilIface]
/-- At the label more: k bytes are read, they hold q. -/
def AtMore (s : ByteArray) (p : Nat) (R : Except Int (Nat × Nat)) (w : World) (a' : Act) (w' : World) : Prop :=
  w' = w ∧ ∃ (k q : Nat) (ai ki : Int) (u8 u11 u12 u13 u14 u15 u16 u17 u18 u19 u20 u21 u22 u23 u24 u25 u26 u27 u28 u29 u30 u31 u32 u33 u34 u35 u36 u37 u38 u39 u40 u41 u42 u43 u44 u45 u46 u47 u48 u49 u50 : Value), k ≤ 9 ∧ Hid (q < 2 ^ (7 * k)) ∧ Hid (rd s p (10 - k) k q = R) ∧ ai = (p : Int) + k ∧ ki = (k : Int) ∧
    a' = { tmps := #[.string s, .int .i64 ai, undef, undef, .int .i64 0, .int .i64 0, .nilIface, .int .u64 q, u8, .int .u64 ki, .int .i64 0, u11, u12, u13, u14, u15, u16, u17, u18, u19, u20, u21, u22, u23, u24, u25, u26, u27, u28, u29, u30, u31, u32, u33, u34, u35, u36, u37, u38, u39, u40, u41, u42, u43, u44, u45, u46, u47, u48, u49, u50], defers := [] }
/-- At the label last: the last byte is b, all hold q. -/
def AtLast (s : ByteArray) (p : Nat) (R : Except Int (Nat × Nat)) (w : World) (a' : Act) (w' : World) : Prop :=
  w' = w ∧ ∃ (k q b : Nat) (u11 u12 u13 u14 u15 u16 u17 u18 u19 u20 u21 u22 u23 u24 u25 u26 u27 u28 u29 u30 u31 u32 u33 u34 u35 u36 u37 u38 u39 u40 u41 u42 u43 u44 u45 u46 u47 u48 u49 u50 : Value), k ≤ 9 ∧ b < 128 ∧ p + k < s.size ∧ Hid (q < 18446744073709551616) ∧ Hid ((if b = 0 ∧ 0 < k then .error 3 else .ok (q, k + 1)) = R) ∧
    a' = { tmps := #[.string s, .int .i64 ((p : Int) + k + 1), undef, undef, .int .i64 0, .int .i64 0, .nilIface, .int .u64 q, .int .u8 b, .int .u64 ((k : Int) + 1), .int .i64 0, u11, u12, u13, u14, u15, u16, u17, u18, u19, u20, u21, u22, u23, u24, u25, u26, u27, u28, u29, u30, u31, u32, u33, u34, u35, u36, u37, u38, u39, u40, u41, u42, u43, u44, u45, u46, u47, u48, u49, u50], defers := [] }
/-- At the label wrong: the code is c. -/
def AtWrong (s : ByteArray) (R : Except Int (Nat × Nat)) (w : World) (a' : Act) (w' : World) : Prop :=
  w' = w ∧ ∃ (c : Int) (u1 u7 u8 u9 u11 u12 u13 u14 u15 u16 u17 u18 u19 u20 u21 u22 u23 u24 u25 u26 u27 u28 u29 u30 u31 u32 u33 u34 u35 u36 u37 u38 u39 u40 u41 u42 u43 u44 u45 u46 u47 u48 u49 u50 : Value), Hid (.error c = R) ∧
    a' = { tmps := #[.string s, u1, undef, undef, .int .i64 0, .int .i64 0, .nilIface, u7, u8, u9, .int .i64 c, u11, u12, u13, u14, u15, u16, u17, u18, u19, u20, u21, u22, u23, u24, u25, u26, u27, u28, u29, u30, u31, u32, u33, u34, u35, u36, u37, u38, u39, u40, u41, u42, u43, u44, u45, u46, u47, u48, u49, u50], defers := [] }

set_option maxRecDepth 1000000 in
set_option maxHeartbeats 4000000 in
theorem readNum_any (s : ByteArray) (p : Nat) (w : World) (hs : s.size ≤ 20000) (hp : (p : Int) ≤ 9223372036854775807) :
    Calls Tryd.prog 52 #[.string s, .int .i64 p] w fun e w' => e = .returned (readV p (rd s p 10 0 0)) ∧ w = w' := by
  obtain ⟨R, HR⟩ : ∃ R, Hid (rd s p 10 0 0 = R) := ⟨_, rfl⟩
  rw [HR.out]
  go_enter Tryd.func52, Tryd.ntmps52
  go_wp2
  refine wp_scope_three 1 2 0 (AtMore s p R w) (AtLast s p R w) (AtWrong s R w) (fun a' _ => 10 - (intOf (a'.tmps.getD 9 undef)).toNat) rfl rfl rfl ?pass0 ?pass1 ?pass2 ?first
  case pass2 =>
    rintro a' w' ⟨rfl, c, u1, u7, u8, u9, u11, u12, u13, u14, u15, u16, u17, u18, u19, u20, u21, u22, u23, u24, u25, u26, u27, u28, u29, u30, u31, u32, u33, u34, u35, u36, u37, u38, u39, u40, u41, u42, u43, u44, u45, u46, u47, u48, u49, u50, HE, rfl⟩
    go_wp2
    simp only [jump3]
    go_ret3
    exact ⟨by rw [← HE.out]; rfl, rfl⟩
  case pass1 =>
    rintro a' w' ⟨rfl, k, q, b, u11, u12, u13, u14, u15, u16, u17, u18, u19, u20, u21, u22, u23, u24, u25, u26, u27, u28, u29, u30, u31, u32, u33, u34, u35, u36, u37, u38, u39, u40, u41, u42, u43, u44, u45, u46, u47, u48, u49, u50, hk, hb, hlt, HQ, HE, rfl⟩
    by_cases hz : b = 0 ∧ 0 < k
    · have HE' := HE.out
      rw [if_pos hz] at HE'
      have HE2 := Lib.hid HE'
      have hz1 : ((b : Int) == 0) = true := by simp; omega
      have hz2 : (1 : Int) < (k : Int) + 1 := by omega
      clear HE HE' hz
      go_wp2
      go_step3
      exact .inr (.inr ⟨rfl, rfl, 3, _, _, _, _, _, _, _, _, _, _, _, _, _, _, _, _, _, _, _, _, _, _, _, _, _, _, _, _, _, _, _, _, _, _, _, _, _, _, _, _, _, _, _, _, HE2, rfl⟩)
    · have HE' := HE.out
      rw [if_neg hz] at HE'
      have HE2 := Lib.hid HE'
      have hz1 : (((b : Int) == 0) = false) ∨ (((b : Int) == 0) = true ∧ ¬ (1 : Int) < (k : Int) + 1) := by
        by_cases e : b = 0
        · right; exact ⟨by simp; omega, by omega⟩
        · left; simp; omega
      clear HE HE' hz
      rcases hz1 with hz1 | ⟨hz1, hz2⟩
      all_goals
        go_wp2_with (go_at_call 57; refine (unzigzag_any q _ HQ).mono ?_; rintro e w1 ⟨rfl, rfl⟩)
        simp only [jump3]
        go_ret3
        exact ⟨by rw [← HE2.out]; simp [readV, Int.add_assoc], rfl⟩
  case pass0 =>
    rintro a' w' ⟨rfl, k, q, ai, ki, u8, u11, u12, u13, u14, u15, u16, u17, u18, u19, u20, u21, u22, u23, u24, u25, u26, u27, u28, u29, u30, u31, u32, u33, u34, u35, u36, u37, u38, u39, u40, u41, u42, u43, u44, u45, u46, u47, u48, u49, u50, hk, HQ, HK, rfl, rfl, rfl⟩
    by_cases hlt : p + k < s.size
    · have b1 : s[p + k].toNat < 256 := (s[p + k]).toNat_lt
      have b2 : (p : Int) + k < s.size := by omega
      have e1 : ((p : Int) + (k : Int)).toNat = p + k := by omega
      by_cases h9 : k = 9 ∧ 1 < s[p + k].toNat
      · obtain ⟨rfl, hb1⟩ := h9
        have HE := Lib.hid ((rd_ten (u := q) rfl hlt hb1).symm.trans HK.out)
        have hb2 : (1 : Int) < (s[p + 9].toNat : Int) := by omega
        clear HK
        go_wp2
        go_step3
        exact .inr (.inr ⟨rfl, rfl, 3, _, _, _, _, _, _, _, _, _, _, _, _, _, _, _, _, _, _, _, _, _, _, _, _, _, _, _, _, _, _, _, _, _, _, _, _, _, _, _, _, _, _, _, _, HE, rfl⟩)
      · have hg : ((k : Int) + 1 == 10) = false ∨ (((k : Int) + 1 == 10) = true ∧ (s[p + k].toNat : Int) ≤ 1) := by
          by_cases e : k = 9
          · right; exact ⟨by simp; omega, by omega⟩
          · left; simp; omega
        have hU := or_walk hk HQ.out b1 h9
        have hm : s[p + k].toNat % 128 < 128 := Nat.mod_lt _ (by omega)
        have HL := Lib.hid (step_u64 hk HQ.out hm (by omega))
        have HN := Lib.hid (step_lt HQ.out hm)
        obtain ⟨q', HQ'⟩ : ∃ q', Hid (q + s[p + k].toNat % 128 * 2 ^ (7 * k) = q') := ⟨q + s[p + k].toNat % 128 * 2 ^ (7 * k), Lib.hid rfl⟩
        rw [HQ'.out] at hU HL HN
        by_cases hb : s[p + k].toNat < 128
        · have HD : Hid ((if s[p + k].toNat = 0 ∧ 0 < k then .error 3 else .ok (q', k + 1)) = R) := by
            show _ = _
            by_cases hz : s[p + k].toNat = 0 ∧ 0 < k
            · rw [if_pos hz]; exact (rd_zero (u := q) hk hlt hz.1 hz.2).symm.trans HK.out
            · rw [if_neg hz, ← HQ'.out, Nat.mod_eq_of_lt hb]; exact (rd_done (u := q) hk hlt hb h9 hz).symm.trans HK.out
          clear hm h9
          rcases hg with hg | ⟨hg, hg1⟩
          all_goals
            go_wp2
            go_step3
            exact .inr (.inl ⟨rfl, rfl, k, q', s[p + k].toNat, _, _, _, _, _, _, _, _, _, _, _, _, _, _, _, _, _, _, _, _, _, _, _, _, _, _, _, _, _, _, _, _, _, _, _, _, _, _, _, _, hk, hb, hlt, HL, HD, rfl⟩)
        · have hk9 : k < 9 := by omega
          have hg' : ((k : Int) + 1 == 10) = false := by simp; omega
          have HM : Hid (rd s p (10 - (k + 1)) (k + 1) q' = R) := by
            show _ = _
            rw [← HQ'.out]; exact (rd_more (u := q) hk9 hlt hb).symm.trans HK.out
          clear hm h9 hg
          go_wp2
          go_step3
          refine .inl ⟨rfl, ⟨rfl, k + 1, q', _, _, _, _, _, _, _, _, _, _, _, _, _, _, _, _, _, _, _, _, _, _, _, _, _, _, _, _, _, _, _, _, _, _, _, _, _, _, _, _, _, _, _, by omega, HN, HM, by omega, by omega, rfl⟩, ?_⟩
          simp [intOf]; omega
    · have HE := Lib.hid ((rd_short (u := q) hk hlt).symm.trans HK.out)
      have b2 : ¬ (p : Int) + k < (s.size : Int) := by omega
      clear HK
      go_wp2
      go_step3
      exact .inr (.inr ⟨rfl, rfl, 4, _, _, _, _, _, _, _, _, _, _, _, _, _, _, _, _, _, _, _, _, _, _, _, _, _, _, _, _, _, _, _, _, _, _, _, _, _, _, _, _, _, _, _, _, HE, rfl⟩)
  case first =>
    intro hpass
    go_wp2
    go_step3
    rename_i K hK
    exact hK _ _ (hpass _ _ ⟨rfl, 0, 0, _, _, _, _, _, _, _, _, _, _, _, _, _, _, _, _, _, _, _, _, _, _, _, _, _, _, _, _, _, _, _, _, _, _, _, _, _, _, _, _, _, _, _, by omega, by show 0 < _; decide, HR, by simp, by simp, rfl⟩)

end Go.Proofs.YtpgodphnjeifhaaDoor
