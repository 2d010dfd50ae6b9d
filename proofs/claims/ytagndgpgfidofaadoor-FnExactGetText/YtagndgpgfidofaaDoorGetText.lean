/- The walk of the law of GetNum; contracts of GetText over those of GetNum. -/
import Derived.Test.YtagndgpgfidofaaDoorGetImpl
import Derived.Test.YtagndgpgfidofaaDoorMem
namespace Go.Proofs.YtagndgpgfidofaaDoor
open Go.RowKit
set_option linter.unusedVariables false

set_option maxHeartbeats 1000000 in
theorem eqNumOut_same (n a c : Int) (w : World) :
    Calls Tryd.prog 7 #[numOut n a c, numOut n a c] w fun e w' => e = .returned (.bool true) ∧ Below w.heap.size w w' := by
  go_enter Tryd.func7, Tryd.ntmps7
  go_wp2
  go_ret
  exact ⟨rfl, ((Below.refl _ _).alloc (Nat.le_refl _) _).alloc (by simp) _⟩
theorem below_four {w w1 w2 w3 : World} {o1 o2 : Obj} (hb1 : Below w.heap.size w w1) (hb2 : Below (w1.alloc o1).heap.size (w1.alloc o1) w2) (hb3 : Below (w2.alloc o2).heap.size (w2.alloc o2) w3) : Below w.heap.size w w3 := by
  have h1 := hb1.size
  have h2 := hb2.size
  simp at h2
  exact (((hb1.alloc h1 o1).trans (hb2.mono (by simp; omega))).alloc (by omega) o2).trans (hb3.mono (by simp; omega))
/-- What rd reads lies within the string. -/
theorem rd_within {s : ByteArray} {p : Nat} : ∀ (n k u : Nat) {u' m : Nat}, rd s p n k u = .ok (u', m) → p + m ≤ s.size := by
  intro n
  induction n with
  | zero => intro k u u' m h; simp [rd] at h
  | succ n ih =>
    intro k u u' m h
    rw [rd] at h
    split at h
    · rename_i hlt
      split at h
      · cases h
      · split at h
        · split at h
          · cases h
          · cases h; omega
        · exact ih _ _ h
    · cases h

/-- GetNum: spec and impl answer alike; a good answer's offset lies within the string. -/
theorem getNum_both (s : ByteArray) (a0 : Int) (ws : s.size ≤ maxLen) (wa : -9223372036854775808 ≤ a0 ∧ a0 ≤ 9223372036854775807) :
    ∃ n a c : Int, (c = 0 → 0 ≤ a ∧ a ≤ s.size ∧ s.size ≤ 20000) ∧ (∀ w, Calls Tryd.prog 5 #[.string s, .int .i64 a0] w fun e w' => e = .returned (numOut n a c) ∧ Below w.heap.size w w') ∧
      (∀ w, Handle w → Calls Tryd.prog 6 #[.string s, .int .i64 a0] w fun e w' => e = .returned (numOut n a c) ∧ Below w.heap.size w w') := by
  by_cases h1 : 20000 < s.size
  · exact ⟨0, 0, 2, by omega, fun w => specGetNum_size s a0 w ws h1, fun w _ => implGetNum_size s a0 w ws h1⟩
  · by_cases h2 : a0 < 0
    · exact ⟨0, 0, 1, by omega, fun w => specGetNum_neg s a0 w (by omega) h2, fun w _ => implGetNum_neg s a0 w (by omega) h2⟩
    · obtain ⟨p, rfl⟩ : ∃ p : Nat, a0 = p := ⟨a0.toNat, by omega⟩
      have hs := fun w => specGetNum_any s p w (by omega) wa.2
      have hi := fun w hg => implGetNum_any s p w (by omega) wa.2 hg
      cases hr : rd s p 10 0 0 with
      | error c =>
        rw [hr] at hs hi
        refine ⟨0, 0, c, ?_, hs, hi⟩
        intro e
        have : ∀ (n k u : Nat) (c : Int), rd s p n k u = .error c → c ≠ 0 := by
          intro n
          induction n with
          | zero => intro k u c h; simp [rd] at h; omega
          | succ n ih =>
            intro k u c h
            rw [rd] at h
            split at h
            · split at h
              · cases h; omega
              · split at h
                · split at h
                  · cases h; omega
                  · cases h
                · exact ih _ _ _ h
            · cases h; omega
        exact absurd e (this _ _ _ _ hr)
      | ok x =>
        obtain ⟨u, m⟩ := x
        rw [hr] at hs hi
        have := rd_within _ _ _ hr
        exact ⟨unzig u, (p : Int) + m, 0, by omega, hs, hi⟩

set_option maxHeartbeats 1000000 in
theorem lawGetNum (s : ByteArray) (a0 : Int) (w0 : s.size ≤ maxLen) (w1 : (Lit.int .i64 a0).wf = true) (w : World) (hg : Handle w) :
    Calls Tryd.prog 3 #[.string s, .int .i64 a0] w fun e w' => e = .returned (.bool true) ∧ Below w.heap.size w w' := by
  have hs := w0
  unfold maxLen at hs
  by_cases hl : s.size ≤ 1048576
  · obtain ⟨n, a, c, _, hS, hI⟩ := getNum_both s a0 w0 (wf_i64 w1)
    have HS := Lib.hid hS
    have HI := Lib.hid hI
    have HG := Lib.hid hg
    clear hS hI hg
    go_enter Tryd.func3, Tryd.ntmps3
    go_wp2_with (first
      | (go_at_call 5; refine (HS.out _).mono ?_; rintro e w1 ⟨rfl, hb1⟩)
      | (go_at_call 6; refine (HI.out _ (HG.out.below ((hb1.alloc hb1.size _)))).mono ?_; rintro e w2 ⟨rfl, hb2⟩; have hc2 := (bcell hb2).1; have hlt : w1.heap.size < w2.heap.size := (by have := hb2.size; simp at this; omega))
      | (go_at_call 7; refine (eqNumOut_same _ _ _ _).mono ?_; rintro e w3 ⟨rfl, hb3⟩))
    go_ret
    exact ⟨rfl, below_four hb1 hb2 hb3⟩
  · go_enter Tryd.func3, Tryd.ntmps3
    go_wp2
    go_ret
    exact ⟨rfl, Below.refl _ _⟩

end Go.Proofs.YtagndgpgfidofaaDoor
