/- The contract of impl.GetNum. -/
import Derived.Test.YtpgodphnjeifhaaDoorRead
import Derived.Test.YtpgodphnjeifhaaDoorCode
import Derived.Test.YtpgodphnjeifhaaDoorGetSpec
import Derived.Test.YtpgodphnjeifhaaDoorMem
namespace Go.Proofs.YtpgodphnjeifhaaDoor
open Go.RowKit
set_option linter.unusedVariables false

set_option maxHeartbeats 1000000 in
theorem implGetNum_size (s : ByteArray) (a : Int) (w : World) (hs : s.size ≤ maxLen) (h : 20000 < s.size) :
    Calls Tryd.prog 47 #[.string s, .int .i64 a] w fun e w' => e = .returned (numOut 0 0 2) ∧ Below w.heap.size w w' := by
  unfold maxLen at hs
  go_enter Tryd.func47, Tryd.ntmps47
  go_wp2
  exact bodyPost_ret (v := numOut 0 0 2) (by simp [results, Tryd.results47, go_sem]) rfl ⟨rfl, (Below.refl _ _).alloc (Nat.le_refl _) _⟩

set_option maxHeartbeats 1000000 in
theorem implGetNum_neg (s : ByteArray) (a : Int) (w : World) (hs : s.size ≤ 20000) (h : a < 0) :
    Calls Tryd.prog 47 #[.string s, .int .i64 a] w fun e w' => e = .returned (numOut 0 0 1) ∧ Below w.heap.size w w' := by
  go_enter Tryd.func47, Tryd.ntmps47
  go_wp2
  exact bodyPost_ret (v := numOut 0 0 1) (by simp [results, Tryd.results47, go_sem]) rfl ⟨rfl, (Below.refl _ _).alloc (Nat.le_refl _) _⟩

set_option maxHeartbeats 4000000 in
theorem implGetNum_any (s : ByteArray) (p : Nat) (w : World) (hs : s.size ≤ 20000) (hp : (p : Int) ≤ 9223372036854775807) (hg : Handle w) :
    Calls Tryd.prog 47 #[.string s, .int .i64 p] w fun e w' => e = .returned (numV p (rd s p 10 0 0)) ∧ Below w.heap.size w w' := by
  have HC := Lib.hid (fun w => readNum_any s p w hs hp)
  obtain ⟨R, HR⟩ : ∃ R, Hid (rd s p 10 0 0 = R) := ⟨_, rfl⟩
  rw [HR.out] at HC ⊢
  have hg' := Handle.below hg ((Below.refl _ w).alloc (Nat.le_refl _) (.cells #[.int .i64 0, .int .i64 0, .int .i64 0] 65))
  have HG := Lib.hid hg'
  clear hg' hg
  match R with
  | .error c =>
    go_enter Tryd.func47, Tryd.ntmps47
    go_wp2_with (first
      | (go_at_call 32; go_in)
      | (go_at_call 52; refine (HC.out _).mono ?_; rintro e w1 ⟨rfl, rfl⟩; unfold readV)
      | (go_at_call 53; refine (malformedCode_any c _ HG.out).mono ?_; rintro e w2 ⟨rfl, hb2⟩; obtain ⟨hc2, hf2⟩ := bcell hb2; have hz2 := hb2.size; simp at hz2))
    refine bodyPost_ret (v := numOut 0 0 c) (by simp [results, Tryd.results47, hc2, go_sem]) rfl ⟨rfl, ?_⟩
    exact ((((((Below.refl w.heap.size w).alloc (Nat.le_refl _) _).trans (hb2.mono (by simp))).setCell (Nat.le_refl _) _).setCell (Nat.le_refl _) _).setCell (Nat.le_refl _) _)
  | .ok (u, m) =>
    go_enter Tryd.func47, Tryd.ntmps47
    go_wp2_with (first
      | (go_at_call 32; go_in)
      | (go_at_call 52; refine (HC.out _).mono ?_; rintro e w1 ⟨rfl, rfl⟩; unfold readV))
    exact bodyPost_ret (v := numOut (unzig u) ((p : Int) + m) 0) (by simp [results, Tryd.results47, go_sem]) rfl ⟨rfl, (Below.refl _ _).alloc (Nat.le_refl _) _⟩

end Go.Proofs.YtpgodphnjeifhaaDoor
