/- The contract of spec.GetNum. -/
import Derived.Test.YtpgodphnjeifhaaDoorChecked
import Derived.Test.YtpgodphnjeifhaaDoorRd
namespace Go.Proofs.YtpgodphnjeifhaaDoor
open Go.RowKit
set_option linter.unusedVariables false

set_option maxHeartbeats 1000000 in
theorem specGetNum_size (s : ByteArray) (a : Int) (w : World) (hs : s.size ≤ maxLen) (h : 20000 < s.size) :
    Calls Tryd.prog 55 #[.string s, .int .i64 a] w fun e w' => e = .returned (numOut 0 0 2) ∧ Below w.heap.size w w' := by
  unfold maxLen at hs
  go_enter Tryd.func55, Tryd.ntmps55
  go_wp2
  exact bodyPost_ret (v := numOut 0 0 2) (by simp [results, Tryd.results55, go_sem]) rfl ⟨rfl, (Below.refl _ _).alloc (Nat.le_refl _) _⟩

set_option maxHeartbeats 1000000 in
theorem specGetNum_neg (s : ByteArray) (a : Int) (w : World) (hs : s.size ≤ 20000) (h : a < 0) :
    Calls Tryd.prog 55 #[.string s, .int .i64 a] w fun e w' => e = .returned (numOut 0 0 1) ∧ Below w.heap.size w w' := by
  go_enter Tryd.func55, Tryd.ntmps55
  go_wp2
  exact bodyPost_ret (v := numOut 0 0 1) (by simp [results, Tryd.results55, go_sem]) rfl ⟨rfl, (Below.refl _ _).alloc (Nat.le_refl _) _⟩

theorem retV {a b : Value} (h : a = b) : Ending.returned a = .returned b := by rw [h]
theorem step_walk {k u b : Nat} (hk : k ≤ 9) (hu : u < 2 ^ (7 * k)) (hb : b < 128) (h9 : ¬ (k = 9 ∧ 1 < b)) :
    IntKind.u64.wrap ((u : Int) + IntKind.u64.wrap ((b : Int) % 128 * 2 ^ (7 * k))) = ((u + b * 2 ^ (7 * k) : Nat) : Int) := by
  rw [show (b : Int) % 128 = (b : Int) by omega]; exact step_wrap hk hu hb h9
theorem unz_odd {q : Nat} (h : q < 18446744073709551616) (ho : ((q : Int) % 2 == 1) = true) : wrap64 (wrap64 (-wrap64 (IntKind.u64.wrap ((q : Int) / 2))) - 1) = unzig q := by
  have ho' : (q : Int) % 2 = 1 := by simpa using ho
  unfold unzig; rw [if_pos (by omega), IntKind.wrap_u64]; simp only [wrap64]; omega
theorem unz_even {q : Nat} (h : q < 18446744073709551616) (ho : ((q : Int) % 2 == 1) = false) : wrap64 (IntKind.u64.wrap ((q : Int) / 2)) = unzig q := by
  have ho' : ¬ (q : Int) % 2 = 1 := by simpa using ho
  unfold unzig; rw [if_neg (by omega), IntKind.wrap_u64]; simp only [wrap64]; omega
theorem numV_ok {p k u : Nat} {n a : Int} {R : Except Int (Nat × Nat)} (h : .ok (u, k + 1) = R) (hn : n = unzig u) (ha : a = (p : Int) + k + 1) : numOut n a 0 = numV p R := by
  rw [← h, hn, ha]; unfold numV; simp [Int.add_assoc]

set_option maxRecDepth 1000000 in
set_option maxHeartbeats 4000000 in
theorem specGetNum_any (s : ByteArray) (p : Nat) (w : World) (hs : s.size ≤ 20000) (hp : (p : Int) ≤ 9223372036854775807) :
    Calls Tryd.prog 55 #[.string s, .int .i64 p] w fun e w' => e = .returned (numV p (rd s p 10 0 0)) ∧ Below w.heap.size w w' := by
  obtain ⟨R, HR⟩ : ∃ R, Hid (rd s p 10 0 0 = R) := ⟨_, rfl⟩
  rw [HR.out]
  go_enter Tryd.func55, Tryd.ntmps55
  go_wp2
  go_loop [5, 6] (fun u i => ∃ (k : Nat) (q : Nat), k ≤ 9 ∧ Hid (q < 2 ^ (7 * k)) ∧ Hid (rd s p (10 - k) k q = R) ∧ i = .int .i64 k ∧ u = .int .u64 q) (fun _ i => 10 - (intOf i).toNat)
  case atStart => exact ⟨0, 0, by omega, by show 0 < _; decide, HR, rfl, rfl⟩
  case round =>
    obtain ⟨k, q, hk, HQ, HK, rfl, rfl⟩ := hrel
    by_cases hlt : p + k < s.size
    · have b1 : s[p + k].toNat < 256 := (s[p + k]).toNat_lt
      have b2 : (p : Int) + k < s.size := by omega
      have e1 : ((p : Int) + (k : Int)).toNat = p + k := by omega
      by_cases h9 : k = 9 ∧ 1 < s[p + k].toNat
      · obtain ⟨rfl, hb1⟩ := h9
        have HE := Lib.hid ((rd_ten (u := q) rfl hlt hb1).symm.trans HK.out)
        have hb2 : (1 : Int) < (s[p + 9].toNat : Int) := by omega
        go_wp2
        exact bodyPost_ret (v := numOut 0 0 3) (by simp [results, Tryd.results55, go_sem]) rfl ⟨retV (by rw [← HE.out]; rfl), (Below.refl _ _).alloc (Nat.le_refl _) _⟩
      · have hg : ((k : Int) == 9) = false ∨ (((k : Int) == 9) = true ∧ (s[p + k].toNat : Int) ≤ 1) := by
          by_cases e : k = 9
          · right; exact ⟨by simp; omega, by omega⟩
          · left; simp; omega
        by_cases hb : (s[p + k]).toNat < 128
        · by_cases hz : s[p + k].toNat = 0 ∧ 0 < k
          · have HE := Lib.hid ((rd_zero (u := q) hk hlt hz.1 hz.2).symm.trans HK.out)
            obtain ⟨hz1, hz2⟩ := hz
            have hz3 : ((s[p + k].toNat : Int) == 0) = true := by simp; omega
            have hz4 : (0 : Int) < (k : Int) := by omega
            have HZ := Lib.hid hz1
            clear hz1
            rcases hg with hg | ⟨hg, hg1⟩
            all_goals
              go_wp2
              exact bodyPost_ret (v := numOut 0 0 3) (by simp [results, Tryd.results55, go_sem]) rfl ⟨retV (by rw [← HE.out]; rfl), (Below.refl _ _).alloc (Nat.le_refl _) _⟩
          · have HD := Lib.hid ((rd_done (u := q) hk hlt hb h9 hz).symm.trans HK.out)
            have hlt' := Lib.hid (step_u64 hk HQ.out hb h9)
            have hU := step_walk hk HQ.out hb h9
            obtain ⟨q', HQ'⟩ : ∃ q', Hid (q + s[p + k].toNat * 2 ^ (7 * k) = q') := ⟨q + s[p + k].toNat * 2 ^ (7 * k), Lib.hid rfl⟩
            rw [HQ'.out] at hU HD hlt'
            by_cases hz2 : s[p + k].toNat = 0
            · have hk0 : k = 0 := by omega
              have hz3 : ((s[p + k].toNat : Int) == 0) = true := by simp; omega
              have hz4 : decide ((0 : Int) < (k : Int)) = false := by simp; omega
              have HZ := Lib.hid hz2
              have HK0 := Lib.hid hk0
              have hg' : ((k : Int) == 9) = false := by simp; omega
              have hq0 : q' = 0 := by
                have h1 := HQ.out
                have h2 := HQ'.out
                rw [hk0] at h1
                rw [hz2, Nat.zero_mul] at h2
                simp at h1
                omega
              subst hq0
              clear hz2 hk0 hz hg h9
              have hU' : IntKind.u64.wrap ((q : Int) + IntKind.u64.wrap ((s[p + k].toNat : Int) % 128 * 2 ^ (7 * k))) = 0 := hU
              clear hU
              go_wp2
              · exfalso
                have := HK0.out
                omega
              refine bodyPost_ret (v := numOut 0 ((p : Int) + k + 1) 0) (by simp [results, Tryd.results55, go_sem]) rfl ⟨retV (numV_ok HD.out rfl rfl), (Below.refl _ _).alloc (Nat.le_refl _) _⟩
            · have hz' : ((s[p + k].toNat : Int) == 0) = false := by simp; omega
              rcases hg with hg | ⟨hg, hg1⟩
              all_goals
                go_wp2
                · refine bodyPost_ret (v := numOut (wrap64 (wrap64 (-wrap64 (IntKind.u64.wrap ((q' : Int) / 2))) - 1)) ((p : Int) + k + 1) 0) (by simp [results, Tryd.results55, go_sem]) rfl ⟨retV (numV_ok HD.out (unz_odd hlt'.out ‹_›) rfl), (Below.refl _ _).alloc (Nat.le_refl _) _⟩
                · refine bodyPost_ret (v := numOut (wrap64 (IntKind.u64.wrap ((q' : Int) / 2))) ((p : Int) + k + 1) 0) (by simp [results, Tryd.results55, go_sem]) rfl ⟨retV (numV_ok HD.out (unz_even hlt'.out ‹_›) rfl), (Below.refl _ _).alloc (Nat.le_refl _) _⟩
        · have h9' : ((k : Int) == 9) = false := by simp; omega
          have hm : s[p + k].toNat % 128 < 128 := Nat.mod_lt _ (by omega)
          have HS := Lib.hid (step_wrap hk HQ.out hm (by omega))
          have HN := Lib.hid (step_lt HQ.out hm)
          have HM := Lib.hid ((rd_more (u := q) (by omega) hlt hb).symm.trans HK.out)
          clear hg
          go_wp2
          go_round
          case rel => exact ⟨k + 1, _, by omega, HN, HM, by go_num, by rw [← HS.out]; rfl⟩
          case measure => simp [intOf]; omega
    · have HE := Lib.hid ((rd_short (u := q) hk hlt).symm.trans HK.out)
      have b2 : ¬ (p : Int) < (s.size : Int) - k := by omega
      go_wp2
      exact bodyPost_ret (v := numOut 0 0 4) (by simp [results, Tryd.results55, go_sem]) rfl ⟨retV (by rw [← HE.out]; rfl), (Below.refl _ _).alloc (Nat.le_refl _) _⟩

end Go.Proofs.YtpgodphnjeifhaaDoor
