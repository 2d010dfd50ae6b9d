/- malformedCode, and what is known of the variable errors.errorType. The contract of spec.GetNum. The contract of impl.GetNum. The walk of the law of GetNum; contracts of GetText over those of GetNum. -/
import Derived.Test.YtjnbhppnchmeoaaDoorAsWalkW
import Derived.Test.YtjnbhppnchmeoaaDoorChecked
import Derived.Test.YtjnbhppnchmeoaaDoorRdW
namespace Go.Proofs.YtjnbhppnchmeoaaDoor
open Go.RowKit
set_option linter.unusedVariables false

def Handle (w : World) : Prop := w.cell? ⟨0, 0, none⟩ = some (.iface 153 (.agg #[.pointer (some ⟨1, 101, none⟩)]))
theorem Handle.lt {w : World} (h : Handle w) : 0 < w.heap.size := by
  rcases Nat.lt_or_ge 0 w.heap.size with h' | h'
  · exact h'
  · simp [Handle, World.cell?, Array.getElem?_eq_none h'] at h
theorem Handle.below {w w' : World} (h : Handle w) (hb : Below w.heap.size w w') : Handle w' := by
  unfold Handle at *
  rw [hb.cell (p := ⟨0, 0, none⟩) (Handle.lt h)]; exact h

set_option maxHeartbeats 4000000 in
theorem malformedCode_any (c : Int) (w : World) (hg : Handle w) :
    Calls Tryd.prog 66 #[.iface 121 (.agg #[.int .i64 c])] w fun e w' => e = .returned (.int .i64 c) ∧ Below w.heap.size w w' := by
  have hg' := Handle.below hg ((Below.refl _ w).alloc (Nat.le_refl _) (.cells #[.int .i64 0] 121))
  have HG := Lib.hid hg'
  have hlt := Lib.hid hg.lt
  clear hg'
  go_enter Tryd.func66, Tryd.ntmps66
  go_wp2_with (go_at_call 91; refine (as_hit c ⟨w.heap.size, 0, none⟩ (.int .i64 0) _ HG.out (by simp) (by simp)).mono ?_; rintro e w1 ⟨rfl, rfl⟩)
  go_ret
  refine ⟨rfl, ?_⟩
  exact ((((((Below.refl w.heap.size w).alloc (Nat.le_refl _) _).alloc (by simp) _).alloc (by simp; omega) _).alloc (by simp; omega) _).alloc (by simp; omega) _)

end Go.Proofs.YtjnbhppnchmeoaaDoor

namespace Go.Proofs.YtjnbhppnchmeoaaDoor
open Go.RowKit
set_option linter.unusedVariables false

set_option maxHeartbeats 1000000 in
theorem specGetNum_size (s : ByteArray) (a : Int) (w : World) (hs : s.size ≤ maxLen) (h : 20000 < s.size) :
    Calls Tryd.prog 37 #[.string s, .int .i64 a] w fun e w' => e = .returned (numOut 0 0 2) ∧ Below w.heap.size w w' := by
  unfold maxLen at hs
  go_enter Tryd.func37, Tryd.ntmps37
  go_wp2
  exact bodyPost_ret (v := numOut 0 0 2) (by simp [results, Tryd.results37, go_sem]) rfl ⟨rfl, (Below.refl _ _).alloc (Nat.le_refl _) _⟩

set_option maxHeartbeats 1000000 in
theorem specGetNum_neg (s : ByteArray) (a : Int) (w : World) (hs : s.size ≤ 20000) (h : a < 0) :
    Calls Tryd.prog 37 #[.string s, .int .i64 a] w fun e w' => e = .returned (numOut 0 0 1) ∧ Below w.heap.size w w' := by
  go_enter Tryd.func37, Tryd.ntmps37
  go_wp2
  exact bodyPost_ret (v := numOut 0 0 1) (by simp [results, Tryd.results37, go_sem]) rfl ⟨rfl, (Below.refl _ _).alloc (Nat.le_refl _) _⟩

theorem retV {a b : Value} (h : a = b) : Ending.returned a = .returned b := by rw [h]
theorem step_walk {k u b : Nat} (hk : k ≤ 9) (hu : u < 2 ^ (7 * k)) (hb : b < 128) (h9 : ¬ (k = 9 ∧ 1 < b)) :
    IntKind.u64.wrap ((u : Int) + IntKind.u64.wrap ((b : Int) % 128 * 2 ^ (7 * k))) = ((u + b * 2 ^ (7 * k) : Nat) : Int) := by
  rw [show (b : Int) % 128 = (b : Int) by omega]; exact step_wrap hk hu hb h9
theorem unz_odd {q : Nat} (h : q < 18446744073709551616) (ho : ((q : Int) % 2 == 1) = true) : wrap64 (wrap64 (-wrap64 (IntKind.u64.wrap ((q : Int) / 2))) - 1) = unzig q := by
  have ho' : (q : Int) % 2 = 1 := by simpa using ho
  unfold unzig; rw [if_pos (by omega), IntKind.wrap_u64]; simp only [wrap64]; omega
theorem unz_even {q : Nat} (h : q < 18446744073709551616) (ho : ((q : Int) % 2 == 1) = false) : wrap64 (IntKind.u64.wrap ((q : Int) / 2)) = unzig q := by
  have ho' : ¬ (q : Int) % 2 = 1 := by simpa using ho
  unfold unzig; rw [if_neg (by omega), IntKind.wrap_u64]; simp only [wrap64]; omega
theorem numV_ok {p k u : Nat} {n a : Int} {R : Except Int (Nat × Nat)} (h : .ok (u, k + 1) = R) (hn : n = unzig u) (ha : a = (p : Int) + k + 1) : numOut n a 0 = numV p R := by
  rw [← h, hn, ha]; unfold numV; simp [Int.add_assoc]

set_option maxRecDepth 1000000 in
set_option maxHeartbeats 4000000 in
theorem specGetNum_any (s : ByteArray) (p : Nat) (w : World) (hs : s.size ≤ 20000) (hp : (p : Int) ≤ 9223372036854775807) :
    Calls Tryd.prog 37 #[.string s, .int .i64 p] w fun e w' => e = .returned (numV p (rd s p 10 0 0)) ∧ Below w.heap.size w w' := by
  obtain ⟨R, HR⟩ : ∃ R, Hid (rd s p 10 0 0 = R) := ⟨_, rfl⟩
  rw [HR.out]
  go_enter Tryd.func37, Tryd.ntmps37
  go_wp2
  go_loop [5, 6] (fun u i => ∃ (k : Nat) (q : Nat), k ≤ 9 ∧ Hid (q < 2 ^ (7 * k)) ∧ Hid (rd s p (10 - k) k q = R) ∧ i = .int .i64 k ∧ u = .int .u64 q) (fun _ i => 10 - (intOf i).toNat)
  case atStart => exact ⟨0, 0, by omega, by show 0 < _; decide, HR, rfl, rfl⟩
  case round =>
    obtain ⟨k, q, hk, HQ, HK, rfl, rfl⟩ := hrel
    by_cases hlt : p + k < s.size
    · have b1 : s[p + k].toNat < 256 := (s[p + k]).toNat_lt
      have b2 : (p : Int) + k < s.size := by omega
      have e1 : ((p : Int) + (k : Int)).toNat = p + k := by omega
      by_cases h9 : k = 9 ∧ 1 < s[p + k].toNat
      · obtain ⟨rfl, hb1⟩ := h9
        have HE := Lib.hid ((rd_ten (u := q) rfl hlt hb1).symm.trans HK.out)
        have hb2 : (1 : Int) < (s[p + 9].toNat : Int) := by omega
        go_wp2
        exact bodyPost_ret (v := numOut 0 0 3) (by simp [results, Tryd.results37, go_sem]) rfl ⟨retV (by rw [← HE.out]; rfl), (Below.refl _ _).alloc (Nat.le_refl _) _⟩
      · have hg : ((k : Int) == 9) = false ∨ (((k : Int) == 9) = true ∧ (s[p + k].toNat : Int) ≤ 1) := by
          by_cases e : k = 9
          · right; exact ⟨by simp; omega, by omega⟩
          · left; simp; omega
        by_cases hb : (s[p + k]).toNat < 128
        · by_cases hz : s[p + k].toNat = 0 ∧ 0 < k
          · have HE := Lib.hid ((rd_zero (u := q) hk hlt hz.1 hz.2).symm.trans HK.out)
            obtain ⟨hz1, hz2⟩ := hz
            have hz3 : ((s[p + k].toNat : Int) == 0) = true := by simp; omega
            have hz4 : (0 : Int) < (k : Int) := by omega
            have HZ := Lib.hid hz1
            clear hz1
            rcases hg with hg | ⟨hg, hg1⟩
            all_goals
              go_wp2
              exact bodyPost_ret (v := numOut 0 0 3) (by simp [results, Tryd.results37, go_sem]) rfl ⟨retV (by rw [← HE.out]; rfl), (Below.refl _ _).alloc (Nat.le_refl _) _⟩
          · have HD := Lib.hid ((rd_done (u := q) hk hlt hb h9 hz).symm.trans HK.out)
            have hlt' := Lib.hid (step_u64 hk HQ.out hb h9)
            have hU := step_walk hk HQ.out hb h9
            obtain ⟨q', HQ'⟩ : ∃ q', Hid (q + s[p + k].toNat * 2 ^ (7 * k) = q') := ⟨q + s[p + k].toNat * 2 ^ (7 * k), Lib.hid rfl⟩
            rw [HQ'.out] at hU HD hlt'
            by_cases hz2 : s[p + k].toNat = 0
            · have hk0 : k = 0 := by omega
              have hz3 : ((s[p + k].toNat : Int) == 0) = true := by simp; omega
              have hz4 : decide ((0 : Int) < (k : Int)) = false := by simp; omega
              have HZ := Lib.hid hz2
              have HK0 := Lib.hid hk0
              have hg' : ((k : Int) == 9) = false := by simp; omega
              have hq0 : q' = 0 := by
                have h1 := HQ.out
                have h2 := HQ'.out
                rw [hk0] at h1
                rw [hz2, Nat.zero_mul] at h2
                simp at h1
                omega
              subst hq0
              clear hz2 hk0 hz hg h9
              have hU' : IntKind.u64.wrap ((q : Int) + IntKind.u64.wrap ((s[p + k].toNat : Int) % 128 * 2 ^ (7 * k))) = 0 := hU
              clear hU
              go_wp2
              · exfalso
                have := HK0.out
                omega
              refine bodyPost_ret (v := numOut 0 ((p : Int) + k + 1) 0) (by simp [results, Tryd.results37, go_sem]) rfl ⟨retV (numV_ok HD.out rfl rfl), (Below.refl _ _).alloc (Nat.le_refl _) _⟩
            · have hz' : ((s[p + k].toNat : Int) == 0) = false := by simp; omega
              rcases hg with hg | ⟨hg, hg1⟩
              all_goals
                go_wp2
                · refine bodyPost_ret (v := numOut (wrap64 (wrap64 (-wrap64 (IntKind.u64.wrap ((q' : Int) / 2))) - 1)) ((p : Int) + k + 1) 0) (by simp [results, Tryd.results37, go_sem]) rfl ⟨retV (numV_ok HD.out (unz_odd hlt'.out ‹_›) rfl), (Below.refl _ _).alloc (Nat.le_refl _) _⟩
                · refine bodyPost_ret (v := numOut (wrap64 (IntKind.u64.wrap ((q' : Int) / 2))) ((p : Int) + k + 1) 0) (by simp [results, Tryd.results37, go_sem]) rfl ⟨retV (numV_ok HD.out (unz_even hlt'.out ‹_›) rfl), (Below.refl _ _).alloc (Nat.le_refl _) _⟩
        · have h9' : ((k : Int) == 9) = false := by simp; omega
          have hm : s[p + k].toNat % 128 < 128 := Nat.mod_lt _ (by omega)
          have HS := Lib.hid (step_wrap hk HQ.out hm (by omega))
          have HN := Lib.hid (step_lt HQ.out hm)
          have HM := Lib.hid ((rd_more (u := q) (by omega) hlt hb).symm.trans HK.out)
          clear hg
          go_wp2
          go_round
          case rel => exact ⟨k + 1, _, by omega, HN, HM, by go_num, by rw [← HS.out]; rfl⟩
          case measure => simp [intOf]; omega
    · have HE := Lib.hid ((rd_short (u := q) hk hlt).symm.trans HK.out)
      have b2 : ¬ (p : Int) < (s.size : Int) - k := by omega
      go_wp2
      exact bodyPost_ret (v := numOut 0 0 4) (by simp [results, Tryd.results37, go_sem]) rfl ⟨retV (by rw [← HE.out]; rfl), (Below.refl _ _).alloc (Nat.le_refl _) _⟩

end Go.Proofs.YtjnbhppnchmeoaaDoor

namespace Go.Proofs.YtjnbhppnchmeoaaDoor
open Go.RowKit
set_option linter.unusedVariables false

set_option maxHeartbeats 1000000 in
theorem implGetNum_size (s : ByteArray) (a : Int) (w : World) (hs : s.size ≤ maxLen) (h : 20000 < s.size) :
    Calls Tryd.prog 42 #[.string s, .int .i64 a] w fun e w' => e = .returned (numOut 0 0 2) ∧ Below w.heap.size w w' := by
  unfold maxLen at hs
  go_enter Tryd.func42, Tryd.ntmps42
  go_wp2
  exact bodyPost_ret (v := numOut 0 0 2) (by simp [results, Tryd.results42, go_sem]) rfl ⟨rfl, (Below.refl _ _).alloc (Nat.le_refl _) _⟩

set_option maxHeartbeats 1000000 in
theorem implGetNum_neg (s : ByteArray) (a : Int) (w : World) (hs : s.size ≤ 20000) (h : a < 0) :
    Calls Tryd.prog 42 #[.string s, .int .i64 a] w fun e w' => e = .returned (numOut 0 0 1) ∧ Below w.heap.size w w' := by
  go_enter Tryd.func42, Tryd.ntmps42
  go_wp2
  exact bodyPost_ret (v := numOut 0 0 1) (by simp [results, Tryd.results42, go_sem]) rfl ⟨rfl, (Below.refl _ _).alloc (Nat.le_refl _) _⟩

set_option maxHeartbeats 4000000 in
theorem implGetNum_any (s : ByteArray) (p : Nat) (w : World) (hs : s.size ≤ 20000) (hp : (p : Int) ≤ 9223372036854775807) (hg : Handle w) :
    Calls Tryd.prog 42 #[.string s, .int .i64 p] w fun e w' => e = .returned (numV p (rd s p 10 0 0)) ∧ Below w.heap.size w w' := by
  have HC := Lib.hid (fun w => readNum_any s p w hs hp)
  obtain ⟨R, HR⟩ : ∃ R, Hid (rd s p 10 0 0 = R) := ⟨_, rfl⟩
  rw [HR.out] at HC ⊢
  have hg' := Handle.below hg ((Below.refl _ w).alloc (Nat.le_refl _) (.cells #[.int .i64 0, .int .i64 0, .int .i64 0] 75))
  have HG := Lib.hid hg'
  clear hg' hg
  match R with
  | .error c =>
    go_enter Tryd.func42, Tryd.ntmps42
    go_wp2_with (first
      | (go_at_call 20; go_in)
      | (go_at_call 65; refine (HC.out _).mono ?_; rintro e w1 ⟨rfl, rfl⟩; unfold readV)
      | (go_at_call 66; refine (malformedCode_any c _ HG.out).mono ?_; rintro e w2 ⟨rfl, hb2⟩; obtain ⟨hc2, hf2⟩ := bcell hb2; have hz2 := hb2.size; simp at hz2))
    refine bodyPost_ret (v := numOut 0 0 c) (by simp [results, Tryd.results42, hc2, go_sem]) rfl ⟨rfl, ?_⟩
    exact ((((((Below.refl w.heap.size w).alloc (Nat.le_refl _) _).trans (hb2.mono (by simp))).setCell (Nat.le_refl _) _).setCell (Nat.le_refl _) _).setCell (Nat.le_refl _) _)
  | .ok (u, m) =>
    go_enter Tryd.func42, Tryd.ntmps42
    go_wp2_with (first
      | (go_at_call 20; go_in)
      | (go_at_call 65; refine (HC.out _).mono ?_; rintro e w1 ⟨rfl, rfl⟩; unfold readV))
    exact bodyPost_ret (v := numOut (unzig u) ((p : Int) + m) 0) (by simp [results, Tryd.results42, go_sem]) rfl ⟨rfl, (Below.refl _ _).alloc (Nat.le_refl _) _⟩

end Go.Proofs.YtjnbhppnchmeoaaDoor

namespace Go.Proofs.YtjnbhppnchmeoaaDoor
open Go.RowKit
set_option linter.unusedVariables false
/-- What rd reads lies within the string. -/
theorem rd_within {s : ByteArray} {p : Nat} : ∀ (n k u : Nat) {u' m : Nat}, rd s p n k u = .ok (u', m) → p + m ≤ s.size := by
  intro n
  induction n with
  | zero => intro k u u' m h; simp [rd] at h
  | succ n ih =>
    intro k u u' m h
    rw [rd] at h
    split at h
    · rename_i hlt
      split at h
      · cases h
      · split at h
        · split at h
          · cases h
          · cases h; omega
        · exact ih _ _ h
    · cases h

/-- GetNum: spec and impl answer alike; a good answer's offset lies within the string. -/
theorem getNum_both (s : ByteArray) (a0 : Int) (ws : s.size ≤ maxLen) (wa : -9223372036854775808 ≤ a0 ∧ a0 ≤ 9223372036854775807) :
    ∃ n a c : Int, (c = 0 → 0 ≤ a ∧ a ≤ s.size ∧ s.size ≤ 20000) ∧ (∀ w, Calls Tryd.prog 37 #[.string s, .int .i64 a0] w fun e w' => e = .returned (numOut n a c) ∧ Below w.heap.size w w') ∧
      (∀ w, Handle w → Calls Tryd.prog 42 #[.string s, .int .i64 a0] w fun e w' => e = .returned (numOut n a c) ∧ Below w.heap.size w w') := by
  by_cases h1 : 20000 < s.size
  · exact ⟨0, 0, 2, by omega, fun w => specGetNum_size s a0 w ws h1, fun w _ => implGetNum_size s a0 w ws h1⟩
  · by_cases h2 : a0 < 0
    · exact ⟨0, 0, 1, by omega, fun w => specGetNum_neg s a0 w (by omega) h2, fun w _ => implGetNum_neg s a0 w (by omega) h2⟩
    · obtain ⟨p, rfl⟩ : ∃ p : Nat, a0 = p := ⟨a0.toNat, by omega⟩
      have hs := fun w => specGetNum_any s p w (by omega) wa.2
      have hi := fun w hg => implGetNum_any s p w (by omega) wa.2 hg
      cases hr : rd s p 10 0 0 with
      | error c =>
        rw [hr] at hs hi
        refine ⟨0, 0, c, ?_, hs, hi⟩
        intro e
        have : ∀ (n k u : Nat) (c : Int), rd s p n k u = .error c → c ≠ 0 := by
          intro n
          induction n with
          | zero => intro k u c h; simp [rd] at h; omega
          | succ n ih =>
            intro k u c h
            rw [rd] at h
            split at h
            · split at h
              · cases h; omega
              · split at h
                · split at h
                  · cases h; omega
                  · cases h
                · exact ih _ _ _ h
            · cases h; omega
        exact absurd e (this _ _ _ _ hr)
      | ok x =>
        obtain ⟨u, m⟩ := x
        rw [hr] at hs hi
        have := rd_within _ _ _ hr
        exact ⟨unzig u, (p : Int) + m, 0, by omega, hs, hi⟩

end Go.Proofs.YtjnbhppnchmeoaaDoor
