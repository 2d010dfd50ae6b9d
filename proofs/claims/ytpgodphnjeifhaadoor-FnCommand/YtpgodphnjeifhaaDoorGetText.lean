/- The walk of the law of GetNum; contracts of GetText over those of GetNum. -/
import Derived.Test.YtpgodphnjeifhaaDoorGetImpl
import Derived.Test.YtpgodphnjeifhaaDoorMem
namespace Go.Proofs.YtpgodphnjeifhaaDoor
open Go.RowKit
set_option linter.unusedVariables false
/-- What rd reads lies within the string. -/
theorem rd_within {s : ByteArray} {p : Nat} : ∀ (n k u : Nat) {u' m : Nat}, rd s p n k u = .ok (u', m) → p + m ≤ s.size := by
  intro n
  induction n with
  | zero => intro k u u' m h; simp [rd] at h
  | succ n ih =>
    intro k u u' m h
    rw [rd] at h
    split at h
    · rename_i hlt
      split at h
      · cases h
      · split at h
        · split at h
          · cases h
          · cases h; omega
        · exact ih _ _ h
    · cases h

/-- GetNum: spec and impl answer alike; a good answer's offset lies within the string. -/
theorem getNum_both (s : ByteArray) (a0 : Int) (ws : s.size ≤ maxLen) (wa : -9223372036854775808 ≤ a0 ∧ a0 ≤ 9223372036854775807) :
    ∃ n a c : Int, (c = 0 → 0 ≤ a ∧ a ≤ s.size ∧ s.size ≤ 20000) ∧ (∀ w, Calls Tryd.prog 55 #[.string s, .int .i64 a0] w fun e w' => e = .returned (numOut n a c) ∧ Below w.heap.size w w') ∧
      (∀ w, Handle w → Calls Tryd.prog 47 #[.string s, .int .i64 a0] w fun e w' => e = .returned (numOut n a c) ∧ Below w.heap.size w w') := by
  by_cases h1 : 20000 < s.size
  · exact ⟨0, 0, 2, by omega, fun w => specGetNum_size s a0 w ws h1, fun w _ => implGetNum_size s a0 w ws h1⟩
  · by_cases h2 : a0 < 0
    · exact ⟨0, 0, 1, by omega, fun w => specGetNum_neg s a0 w (by omega) h2, fun w _ => implGetNum_neg s a0 w (by omega) h2⟩
    · obtain ⟨p, rfl⟩ : ∃ p : Nat, a0 = p := ⟨a0.toNat, by omega⟩
      have hs := fun w => specGetNum_any s p w (by omega) wa.2
      have hi := fun w hg => implGetNum_any s p w (by omega) wa.2 hg
      cases hr : rd s p 10 0 0 with
      | error c =>
        rw [hr] at hs hi
        refine ⟨0, 0, c, ?_, hs, hi⟩
        intro e
        have : ∀ (n k u : Nat) (c : Int), rd s p n k u = .error c → c ≠ 0 := by
          intro n
          induction n with
          | zero => intro k u c h; simp [rd] at h; omega
          | succ n ih =>
            intro k u c h
            rw [rd] at h
            split at h
            · split at h
              · cases h; omega
              · split at h
                · split at h
                  · cases h; omega
                  · cases h
                · exact ih _ _ _ h
            · cases h; omega
        exact absurd e (this _ _ _ _ hr)
      | ok x =>
        obtain ⟨u, m⟩ := x
        rw [hr] at hs hi
        have := rd_within _ _ _ hr
        exact ⟨unzig u, (p : Int) + m, 0, by omega, hs, hi⟩

end Go.Proofs.YtpgodphnjeifhaaDoor
