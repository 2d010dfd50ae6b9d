/- Leader and QuorumRight: spec and impl answer alike. -/
import Derived.Test.YtodnmbppgjbpmaaBlkW
import Derived.Test.YtodnmbppgjbpmaaNmsW
import Derived.BigRegion
namespace Go.Proofs.Ytodnmbppgjbpmaa
open Go.RowKit
set_option linter.unusedVariables false
set_option maxRecDepth 1000000

/-- The leader of a view. -/
def leadI (v : Int) : Int := if v < 0 then 0 else v % 4
theorem specLeader_any (v : Int) (w : World) (hv : (Lit.int .i64 v).wf = true) : Calls Try.prog 9 #[.int .i64 v] w fun e w' => e = .returned (.int .i64 (leadI v)) ∧ w = w' := by
  have hb := wf_i64 hv
  by_cases h : v < 0
  · have e : leadI v = 0 := if_pos h
    rw [e]
    go_enter Try.func9, Try.ntmps9
    go_wp2
    go_ret
    exact ⟨rfl, rfl⟩
  · have e : leadI v = v % 4 := if_neg h
    rw [e]
    go_enter Try.func9, Try.ntmps9
    go_wp2
    go_ret
    exact ⟨rfl, rfl⟩
theorem implLeader_any (v : Int) (w : World) (hv : (Lit.int .i64 v).wf = true) : Calls Try.prog 10 #[.int .i64 v] w fun e w' => e = .returned (.int .i64 (leadI v)) ∧ w = w' := by
  have hb := wf_i64 hv
  by_cases h : v < 0
  · have e : leadI v = 0 := if_pos h
    rw [e]
    go_enter Try.func10, Try.ntmps10
    go_wp2
    go_ret
    exact ⟨rfl, rfl⟩
  · have e : leadI v = v % 4 := if_neg h
    rw [e]
    go_enter Try.func10, Try.ntmps10
    go_wp2
    go_ret
    exact ⟨rfl, rfl⟩
theorem lawLeader (v : Int) (hv : (Lit.int .i64 v).wf = true) (w : World) : Calls Try.prog 3 #[.int .i64 v] w fun e w' => e = .returned (.bool true) ∧ Below w.heap.size w w' := by
  generalize hl : leadI v = L
  go_enter Try.func3, Try.ntmps3
  go_wp2_with (first
    | (go_at_call 9; refine (specLeader_any v _ hv).mono ?_; rintro e w1 ⟨rfl, rfl⟩; rw [hl])
    | (go_at_call 10; refine (implLeader_any v _ hv).mono ?_; rintro e w1 ⟨rfl, rfl⟩; rw [hl]))
  go_ret
  exact ⟨rfl, Below.refl _ _⟩
theorem inQ_any {n a b : Int} {r : Bool} (h : decide (a ≤ n ∧ n ≤ b) = r) (w : World) : Calls Try.prog 58 #[.int .i64 n, .int .i64 a, .int .i64 b] w fun e w' => e = .returned (.bool r) ∧ w = w' := by
  subst h
  by_cases h1 : a ≤ n <;> by_cases h2 : n ≤ b
  all_goals
    go_enter Try.func58, Try.ntmps58
    go_wp2
    go_ret
    exact ⟨retB (by simp [h1, h2]), rfl⟩
theorem replQ_any {n : Int} {r : Bool} (h : decide (0 ≤ n ∧ n ≤ 3) = r) (w : World) : Calls Try.prog 42 #[.int .i64 n] w fun e w' => e = .returned (.bool r) ∧ w = w' := by
  go_enter Try.func42, Try.ntmps42
  go_wp2_with (go_at_call 58; refine (inQ_any h _).mono ?_; rintro e w1 ⟨rfl, rfl⟩)
  go_ret
  exact ⟨rfl, rfl⟩
theorem whoQ_any {n : Int} {r : Bool} (h : decide (0 ≤ n ∧ n ≤ 3) = r) (w : World) : Calls Try.prog 41 #[.int .i64 n] w fun e w' => e = .returned (.bool r) ∧ ∃ m, w' = w.drewN m := by
  have h' : (decide (0 ≤ n) && decide (n ≤ 3)) = r := by rw [← h, ← Bool.decide_and]
  go_enter Try.func41, Try.ntmps41
  go_wp2_with (go_at_call 63; refine (l03Is_any n 0 3 _).mono ?_; rintro e w1 ⟨rfl, rfl⟩; rw [h'])
  go_ret
  exact ⟨rfl, 0, rfl⟩

set_option maxHeartbeats 4000000 in
theorem implQuorum_any (A : Option Addr) (L : List Int) (c : Nat) (w : World) (hL : Nms w w.heap.size A L) :
    Calls Try.prog 13 #[.slice A L.length c] w fun e w' => e = .returned (.bool (quorum L)) ∧ Below w.heap.size w w' := by
  have hn := hL.1
  unfold maxLen at hn
  obtain ⟨V, HV⟩ : ∃ V, Hid (qr (-1) L = V) := ⟨_, Lib.hid rfl⟩
  obtain ⟨R, HR⟩ : ∃ V, Hid (quorum L = V) := ⟨_, Lib.hid rfl⟩
  have HVR : Hid (R = (V && decide (3 ≤ L.length))) := Lib.hid (by rw [← HR.out, ← HV.out]; rfl)
  rw [HR.out]
  clear HR
  go_enter Try.func13, Try.ntmps13
  go_wp2
  go_loopw [3, 8] (fun l i wr => ∃ (k : Nat) (last : Int), k ≤ L.length ∧ i = .int .i64 k ∧ l = .int .i64 last ∧ Hid (qr last (L.drop k) = V) ∧ Below w.heap.size w wr) (fun _ i _ => L.length - (intOf i).toNat)
  case atStart => exact ⟨0, -1, by omega, rfl, rfl, HV, Below.refl _ _⟩
  case round =>
    clear HV
    obtain ⟨k, last, hk, rfl, rfl, HQ, hb⟩ := hrel
    by_cases hlt : k < L.length
    · obtain ⟨a, rfl, hab, c0, _⟩ := (hL.below hb (Nat.le_refl _)).2 k hlt
      have hlt' : (k : Int) < (L.length : Int) := by omega
      have hbad := Lib.hid (qr_bad (last := last) hlt)
      have hnext := Lib.hid (qr_next (last := last) hlt)
      obtain ⟨x, HX⟩ : ∃ x, Hid (L[k] = x) := ⟨_, Lib.hid rfl⟩
      rw [HX.out] at hbad hnext c0
      by_cases hle : x ≤ last
      · have hV : V = false := by rw [← HQ.out, hbad.out (by omega)]
        subst hV
        obtain rfl : R = false := by rw [HVR.out]; rfl
        go_wp2
        go_ret
        exact ⟨rfl, hb⟩
      · rcases Bool.eq_false_or_eq_true (decide (0 ≤ x ∧ x ≤ 3)) with hr | hr
        · have hr' := of_decide_eq_true hr
          have HN := Lib.hid ((hnext.out ⟨by omega, hr'.1, hr'.2⟩).symm.trans HQ.out)
          clear hbad hnext
          go_wp2_with (go_at_call 42; refine (replQ_any hr _).mono ?_; rintro e w1 ⟨rfl, rfl⟩)
          exact ⟨⟨k + 1, x, by omega, by go_num, rfl, HN, hb⟩, by simp [intOf]; omega⟩
        · have hr' := of_decide_eq_false hr
          have hV : V = false := by rw [← HQ.out, hbad.out (fun h => hr' h.2)]
          subst hV
          obtain rfl : R = false := by rw [HVR.out]; rfl
          go_wp2_with (go_at_call 42; refine (replQ_any hr _).mono ?_; rintro e w1 ⟨rfl, rfl⟩)
          go_ret
          exact ⟨rfl, hb⟩
    · obtain rfl : k = L.length := by omega
      have hV : V = true := by rw [← HQ.out, qr_end (Nat.le_refl _)]
      subst hV
      go_wp2
      go_ret
      exact ⟨retB (by rw [HVR.out, Bool.true_and]; simp; omega), hb⟩

set_option maxHeartbeats 4000000 in
theorem specQuorum_any (A : Option Addr) (L : List Int) (c : Nat) (w : World) (hL : Nms w w.heap.size A L) :
    Calls Try.prog 11 #[.slice A L.length c] w fun e w' => e = .returned (.bool (quorum L)) ∧ Below w.heap.size w w' := by
  have hn := hL.1
  unfold maxLen at hn
  obtain ⟨V, HV⟩ : ∃ V, Hid (qr (-1) L = V) := ⟨_, Lib.hid rfl⟩
  obtain ⟨R, HR⟩ : ∃ V, Hid (quorum L = V) := ⟨_, Lib.hid rfl⟩
  have HVR : Hid (R = (V && decide (3 ≤ L.length))) := Lib.hid (by rw [← HR.out, ← HV.out]; rfl)
  rw [HR.out]
  clear HR
  go_enter Try.func11, Try.ntmps11
  go_wp2
  go_loopw [3] (fun i wr => ∃ (k : Nat) (last : Int), k ≤ L.length ∧ i = .int .i64 k ∧ Hid (k = 0 → last = -1) ∧ Hid (∀ h : k - 1 < L.length, 0 < k → L[k - 1] = last) ∧ Hid (qr last (L.drop k) = V) ∧ Below w.heap.size w wr) (fun i _ => L.length - (intOf i).toNat)
  case atStart => exact ⟨0, -1, by omega, rfl, Lib.hid fun _ => rfl, Lib.hid fun _ h => absurd h (Nat.lt_irrefl 0), HV, Below.refl _ _⟩
  case round =>
    clear HV
    obtain ⟨k, last, hk, rfl, HA0, HA1, HQ, hb⟩ := hrel
    by_cases hlt : k < L.length
    · have hLw := hL.below hb (Nat.le_refl _)
      obtain ⟨a, rfl, hab, c0, _⟩ := hLw.2 k hlt
      have hlt' : (k : Int) < (L.length : Int) := by omega
      have hbad := Lib.hid (qr_bad (last := last) hlt)
      have hnext := Lib.hid (qr_next (last := last) hlt)
      obtain ⟨x, HX⟩ : ∃ x, Hid (L[k] = x) := ⟨_, Lib.hid rfl⟩
      have HL1 : Hid (∀ h : k + 1 - 1 < L.length, 0 < k + 1 → L[k + 1 - 1] = x) := Lib.hid fun h _ => by simpa using HX.out
      rw [HX.out] at hbad hnext c0
      rcases Bool.eq_false_or_eq_true (decide (0 ≤ x ∧ x ≤ 3)) with hr | hr
      · have hr' := of_decide_eq_true hr
        have WH := Lib.hid (fun W => whoQ_any hr W)
        rcases Nat.eq_zero_or_pos k with h0 | h0
        · subst h0
          have hl1 := HA0.out rfl
          have HN := Lib.hid ((hnext.out ⟨by omega, hr'.1, hr'.2⟩).symm.trans HQ.out)
          clear hbad hnext HA0 HA1
          have c1 : wr.cell? a = some (.int .i64 x) := by simpa [Addr.add] using c0
          go_wp2_with (fail)
          go_quiet ((go_at_call 41; (with_reducible exact Calls.quiet_of (WH.out _))))
          go_wp2
          exact ⟨⟨1, x, by omega, by go_num, Lib.hid (fun h => absurd h (by decide)), HL1, HN, below_drewN hb _⟩, by simp [intOf]; omega⟩
        · obtain ⟨j, hj⟩ : ∃ j, k = j + 1 := ⟨k - 1, by omega⟩
          have hjl : j < L.length := by omega
          obtain ⟨a', e', _, d0, _⟩ := hLw.2 j hjl
          injection e' with e'
          subst e'
          have hlast : L[j] = last := by have := HA1.out (by omega) h0; simp only [hj] at this; exact this
          rw [hlast] at d0
          have hjl' : (j : Int) < (L.length : Int) := by omega
          have hj0 : (0 : Int) ≤ (j : Int) := by omega
          have hk1 : IntKind.i64.wrap ((k : Int) - 1) = (j : Int) := by rw [IntWalk.i64_in _ (by omega)]; omega
          have h0' : (0 : Int) < (k : Int) := by omega
          have h0d : decide (0 < k) = true := by simp; exact h0
          clear hlast HA0 HA1 hj
          by_cases hle : last < x
          · have HN := Lib.hid ((hnext.out ⟨hle, hr'.1, hr'.2⟩).symm.trans HQ.out)
            have hd : decide (x ≤ last) = false := by simp; omega
            clear hbad hnext
            go_wp2_with (fail)
            go_quiet ((go_at_call 41; (with_reducible exact Calls.quiet_of (WH.out _))))
            go_wp2
            exact ⟨⟨k + 1, x, by omega, by go_num, Lib.hid (fun h => absurd h (by omega)), HL1, HN, below_drewN hb _⟩, by simp [intOf]; omega⟩
          · have hV : V = false := by rw [← HQ.out, hbad.out (fun h => hle h.1)]
            subst hV
            obtain rfl : R = false := by rw [HVR.out]; rfl
            have hd : decide (x ≤ last) = true := by simp; omega
            clear hbad hnext
            go_wp2_with (fail)
            go_quiet ((go_at_call 41; (with_reducible exact Calls.quiet_of (WH.out _))))
            go_wp2
            go_ret
            exact ⟨rfl, below_drewN hb _⟩
      · have hr' := of_decide_eq_false hr
        have WH := Lib.hid (fun W => whoQ_any hr W)
        have hV : V = false := by rw [← HQ.out, hbad.out (fun h => hr' h.2)]
        subst hV
        obtain rfl : R = false := by rw [HVR.out]; rfl
        clear hbad hnext HA0 HA1
        rcases Nat.eq_zero_or_pos k with h0 | h0
        · subst h0
          have c1 : wr.cell? a = some (.int .i64 x) := by simpa [Addr.add] using c0
          go_wp2_with (fail)
          go_quiet ((go_at_call 41; (with_reducible exact Calls.quiet_of (WH.out _))))
          go_wp2
          go_ret
          exact ⟨rfl, below_drewN hb _⟩
        · go_wp2_with (fail)
          go_quiet ((go_at_call 41; (with_reducible exact Calls.quiet_of (WH.out _))))
          go_wp2
          go_ret
          exact ⟨rfl, below_drewN hb _⟩
    · obtain rfl : k = L.length := by omega
      have hV : V = true := by rw [← HQ.out, qr_end (Nat.le_refl _)]
      subst hV
      go_wp2
      go_ret
      exact ⟨retB (by rw [HVR.out, Bool.true_and]; simp; omega), hb⟩
end Go.Proofs.Ytodnmbppgjbpmaa
