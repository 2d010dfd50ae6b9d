/- Contracts: spec.NameRight and impl.NameRight both answer nameB of their string. -/
import Derived.Test.YtdehpdmgoaopfaaMem
import Derived.WalkKit
import Derived.Below
import Derived.Lib.Hide
namespace Go.Proofs.Ytdehpdmgoaopfaa
open Go.RowKit
set_option linter.unusedVariables false

def letB (n : Int) : Bool := decide (97 ≤ n ∧ n ≤ 122)
def nameByteB (n : Int) : Bool := decide ((97 ≤ n ∧ n ≤ 122) ∨ (48 ≤ n ∧ n ≤ 57) ∨ n = 95)
def okAt (k : Nat) (n : Int) : Bool := decide ((97 ≤ n ∧ n ≤ 122) ∨ (0 < k ∧ ((48 ≤ n ∧ n ≤ 57) ∨ n = 95)))
def OkUpto (s : ByteArray) (m : Nat) : Prop := ∀ k (h : k < s.size), k < m → okAt k (s[k].toNat : Int) = true
noncomputable def nameB (s : ByteArray) : Bool := @decide (1 ≤ s.size ∧ s.size ≤ 20 ∧ OkUpto s s.size) (Classical.propDecidable _)

theorem okAt_cases (k : Nat) (n : Int) : okAt k n = true ∨ okAt k n = false := by cases okAt k n <;> simp
theorem okUpto_zero (s : ByteArray) : OkUpto s 0 := fun k _ h => absurd h (Nat.not_lt_zero k)
theorem okUpto_succ {s : ByteArray} {m : Nat} (hm : m < s.size) (h : OkUpto s m) (hk : okAt m (s[m].toNat : Int) = true) : OkUpto s (m + 1) := by
  intro k hks hkm
  by_cases e : k = m
  · subst e; exact hk
  · exact h k hks (by omega)
theorem nameB_true {s : ByteArray} (h1 : 1 ≤ s.size) (h2 : s.size ≤ 20) (h : OkUpto s s.size) : nameB s = true := by
  unfold nameB; exact @decide_eq_true _ (Classical.propDecidable _) ⟨h1, h2, h⟩
theorem nameB_false {s : ByteArray} (h : ¬ (1 ≤ s.size ∧ s.size ≤ 20 ∧ OkUpto s s.size)) : nameB s = false := by
  unfold nameB; exact @decide_eq_false _ (Classical.propDecidable _) h
theorem nameB_false_at {s : ByteArray} {m : Nat} (hm : m < s.size) (hk : okAt m (s[m].toNat : Int) = false) : nameB s = false :=
  nameB_false fun h => by have := h.2.2 m hm hm; rw [hk] at this; cases this

set_option maxHeartbeats 400000 in
theorem isLetter_any (n : Int) (w : World) :
    Calls Try.prog 94 #[.int .u8 n] w fun e w' => e = .returned (.bool (letB n)) ∧ w = w' := by
  by_cases h1 : 97 ≤ n <;> by_cases h2 : n ≤ 122
  all_goals
    go_enter Try.func94, Try.ntmps94
    go_wp2
    go_ret
    exact ⟨retB (by simp [letB] <;> omega), rfl⟩

set_option maxHeartbeats 400000 in
theorem isNameByte_any (n : Int) (w : World) :
    Calls Try.prog 95 #[.int .u8 n] w fun e w' => e = .returned (.bool (nameByteB n)) ∧ w = w' := by
  by_cases h1 : 97 ≤ n <;> by_cases h2 : n ≤ 122 <;> by_cases h3 : 48 ≤ n <;> by_cases h4 : n ≤ 57 <;> by_cases h5 : n = 95 <;> try omega
  all_goals
    go_enter Try.func95, Try.ntmps95
    go_wp2
    go_ret
    exact ⟨retB (by simp [nameByteB] <;> omega), rfl⟩

theorem boolWays (p : Prop) [Decidable p] : (p ∧ decide p = true) ∨ (¬ p ∧ decide p = false) := by by_cases h : p <;> simp [h]
theorem byteWays (n : Int) : n < 48 ∨ (48 ≤ n ∧ n ≤ 57) ∨ (58 ≤ n ∧ n ≤ 94) ∨ n = 95 ∨ n = 96 ∨ (97 ≤ n ∧ n ≤ 122) ∨ 122 < n := by omega

set_option maxHeartbeats 1000000 in
theorem specNameRight_any (s : ByteArray) (w : World) (hs : s.size ≤ maxLen) :
    Calls Try.prog 67 #[.string s] w fun e w' => e = .returned (.bool (nameB s)) ∧ w = w' := by
  unfold maxLen at hs
  by_cases h1 : 1 ≤ s.size
  · by_cases h2 : s.size ≤ 20
    · go_enter Try.func67, Try.ntmps67
      go_wp2
      go_loop [3] (fun i => ∃ k : Nat, k ≤ s.size ∧ OkUpto s k ∧ i = .int .i64 k) (fun i => s.size - (intOf i).toNat)
      case atStart => exact ⟨0, Nat.zero_le _, okUpto_zero s, rfl⟩
      case round =>
        obtain ⟨k, hk, hok, rfl⟩ := hrel
        by_cases hlt : k < s.size
        · have HN := Lib.hid (fun h => okUpto_succ hlt hok h)
          have HF := Lib.hid (fun h => nameB_false_at hlt h)
          clear hok
          obtain ⟨n, hn⟩ : ∃ n : Int, n = (s[k].toNat : Int) := ⟨_, rfl⟩
          rw [← hn] at HN HF
          have HE := Lib.hid hn
          clear hn
          rcases Nat.eq_zero_or_pos k with hk0 | hk0
          · subst hk0
            rcases byteWays n with h | h | h | h | h | h | h
            all_goals
              rw [HE.out] at h
              have q1 := boolWays ((s[0].toNat : Int) ≤ 122)
              have q2 := boolWays ((s[0].toNat : Int) ≤ 57)
              have q3 : ((s[0].toNat : Int) != 95) = true ∨ ((s[0].toNat : Int) != 95) = false := by cases ((s[0].toNat : Int) != 95) <;> simp
              rcases q1 with ⟨r1, q1⟩ | ⟨r1, q1⟩ <;> rcases q2 with ⟨r2, q2⟩ | ⟨r2, q2⟩ <;> try omega
              all_goals
                rcases q3 with q3 | q3 <;> (try (simp only [bne_iff_ne, bne_eq_false_iff_eq, ne_eq] at q3; omega))
                go_wp2
                first
                | (go_round
                   case rel => exact ⟨1, by omega, HN.out (by rw [HE.out]; simp [okAt]; omega), by go_num⟩
                   case measure => simp [intOf]; omega)
                | (go_ret
                   exact ⟨(congrArg _ (congrArg _ (HF.out (by rw [HE.out]; simp [okAt]; omega)))).symm, rfl⟩)
          · have q0 : ((k : Int) == 0) = false := by simp; omega
            rcases byteWays n with h | h | h | h | h | h | h
            all_goals
              rw [HE.out] at h
              have q1 := boolWays ((s[k].toNat : Int) ≤ 122)
              have q2 := boolWays ((s[k].toNat : Int) ≤ 57)
              have q3 : ((s[k].toNat : Int) != 95) = true ∨ ((s[k].toNat : Int) != 95) = false := by cases ((s[k].toNat : Int) != 95) <;> simp
              rcases q1 with ⟨r1, q1⟩ | ⟨r1, q1⟩ <;> rcases q2 with ⟨r2, q2⟩ | ⟨r2, q2⟩ <;> try omega
              all_goals
                rcases q3 with q3 | q3 <;> (try (simp only [bne_iff_ne, bne_eq_false_iff_eq, ne_eq] at q3; omega))
                go_wp2
                first
                | (go_round
                   case rel => exact ⟨k + 1, by omega, HN.out (by rw [HE.out]; simp [okAt]; omega), by go_num⟩
                   case measure => simp [intOf]; omega)
                | (go_ret
                   exact ⟨(congrArg _ (congrArg _ (HF.out (by rw [HE.out]; simp [okAt]; omega)))).symm, rfl⟩)
        · go_wp2
          go_ret
          exact ⟨(congrArg _ (congrArg _ (nameB_true h1 h2 ((show k = s.size by omega) ▸ hok)))).symm, rfl⟩
    · go_enter Try.func67, Try.ntmps67
      go_wp2
      go_ret
      rw [nameB_false (by omega)]
      exact ⟨rfl, rfl⟩
  · go_enter Try.func67, Try.ntmps67
    go_wp2
    go_ret
    rw [nameB_false (by omega)]
    exact ⟨rfl, rfl⟩

def NbUpto (s : ByteArray) (m : Nat) : Prop := ∀ k (h : k < s.size), k < m → nameByteB (s[k].toNat : Int) = true
theorem nbUpto_zero (s : ByteArray) : NbUpto s 0 := fun k _ h => absurd h (Nat.not_lt_zero k)
theorem nbUpto_succ {s : ByteArray} {m : Nat} (hm : m < s.size) (h : NbUpto s m) (hk : nameByteB (s[m].toNat : Int) = true) : NbUpto s (m + 1) := by
  intro k hks hkm
  by_cases e : k = m
  · subst e; exact hk
  · exact h k hks (by omega)
theorem okUpto_of_nb {s : ByteArray} {m : Nat} (h1 : 0 < s.size) (h0 : letB (s[0].toNat : Int) = true) (h : NbUpto s m) : OkUpto s m := by
  intro k hks hkm
  have hk := h k hks hkm
  rcases Nat.eq_zero_or_pos k with rfl | hp
  · simp [letB] at h0; simp [okAt]; omega
  · simp [nameByteB] at hk; simp [okAt]; omega
theorem okAt_of_let {s : ByteArray} (h1 : 0 < s.size) (h0 : letB (s[0].toNat : Int) = false) : nameB s = false :=
  nameB_false_at h1 (by simp [letB] at h0; simp [okAt]; omega)
theorem okAt_of_nb {s : ByteArray} {k : Nat} (h1 : k < s.size) (h0 : nameByteB (s[k].toNat : Int) = false) : nameB s = false :=
  nameB_false_at h1 (by simp [nameByteB] at h0; simp [okAt]; omega)

set_option maxHeartbeats 1000000 in
theorem implNameRight_any (s : ByteArray) (w : World) (hs : s.size ≤ maxLen) :
    Calls Try.prog 62 #[.string s] w fun e w' => e = .returned (.bool (nameB s)) ∧ w = w' := by
  unfold maxLen at hs
  by_cases h1 : 1 ≤ s.size
  · have h1' : 0 < s.size := h1
    by_cases h2 : s.size ≤ 20
    · rcases Bool.eq_false_or_eq_true (letB (s[0].toNat : Int)) with hl | hl
      · go_enter Try.func62, Try.ntmps62
        go_wp2_with (go_at_call 94; refine (isLetter_any _ _).mono ?_; rintro e w' ⟨rfl, rfl⟩)
        have HL := Lib.hid hl
        clear hl
        go_loop [20] (fun i => ∃ k : Nat, k ≤ s.size ∧ NbUpto s k ∧ i = .int .i64 k) (fun i => s.size - (intOf i).toNat)
        case atStart => exact ⟨0, Nat.zero_le _, nbUpto_zero s, rfl⟩
        case round =>
          obtain ⟨k, hk, hok, rfl⟩ := hrel
          by_cases hlt : k < s.size
          · rcases Bool.eq_false_or_eq_true (nameByteB (s[k].toNat : Int)) with hb | hb
            · have HN := Lib.hid (nbUpto_succ hlt hok hb)
              clear hok
              go_wp2_with (go_at_call 95; refine (isNameByte_any _ _).mono ?_; rintro e w' ⟨rfl, rfl⟩)
              go_round
              case rel => exact ⟨k + 1, by omega, HN.out, by go_num⟩
              case measure => simp [intOf]; omega
            · clear hok
              go_wp2_with (go_at_call 95; refine (isNameByte_any _ _).mono ?_; rintro e w' ⟨rfl, rfl⟩)
              go_ret
              exact ⟨(congrArg _ (congrArg _ (okAt_of_nb hlt hb))).symm, rfl⟩
          · have HO := Lib.hid hok
            clear hok
            go_wp2
            go_ret
            exact ⟨(congrArg _ (congrArg _ (nameB_true h1 h2 (okUpto_of_nb h1' HL.out ((show k = s.size by omega) ▸ HO.out))))).symm, rfl⟩
      · go_enter Try.func62, Try.ntmps62
        go_wp2_with (go_at_call 94; refine (isLetter_any _ _).mono ?_; rintro e w' ⟨rfl, rfl⟩)
        go_ret
        exact ⟨(congrArg _ (congrArg _ (okAt_of_let h1' hl))).symm, rfl⟩
    · go_enter Try.func62, Try.ntmps62
      go_wp2
      go_ret
      rw [nameB_false (by omega)]
      exact ⟨rfl, rfl⟩
  · go_enter Try.func62, Try.ntmps62
    go_wp2
    go_ret
    rw [nameB_false (by omega)]
    exact ⟨rfl, rfl⟩

end Go.Proofs.Ytdehpdmgoaopfaa
