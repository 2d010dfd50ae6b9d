/- The contract of impl.joined. -/
import Derived.Test.YtpgodphnjeifhaaDoorRow
namespace Go.Proofs.YtpgodphnjeifhaaDoor
open Go.RowKit
set_option linter.unusedVariables false

set_option maxHeartbeats 1600000 in
set_option maxRecDepth 1000000 in
theorem joined_any (a b : ByteArray) (w : World) (hab : a.size + b.size ≤ 1048576) :
    Calls Tryd.prog 41 #[.string a, .string b] w fun e w' => e = .returned (.string (a ++ b)) ∧ Below w.heap.size w w' := by
  obtain ⟨i0, hi, hz0, hz1, hz2⟩ := info_parts infoU8
  have hA : (a.size : Int) + (b.size : Int) = ((a.size + b.size : Nat) : Int) := by omega
  have HA := Lib.hid hA
  clear hA
  go_enter Tryd.func41, Tryd.ntmps41
  go_wp2_with (first
    | (at_make; refine wpList_make_full _ rfl _ _ 22 rfl w.heap.size 5 i0 (.int .u8 0) 1 Tryd.underlying22 hi hz0 hz1 _ _ _ _ (a.size + b.size) rfl rfl HA.out HA.out (by rw [hz2]; omega) (by unfold maxLen; omega) (Nat.le_refl _) ?_; intro w1 hown1 hgrow1; obtain ⟨Z, HG1, hZ⟩ := own_heap' hown1; have HZ := Lib.hid hZ; clear hZ; have hb1 := (Below.refl w.heap.size w).grown hgrow1 (Nat.le_refl _) (fun k e => by cases e); clear hown1 hgrow1)
    | ((with_reducible refine wpList_copy_str rfl (.tmp 12) (.tmp 13) 22 9 rfl 5 Tryd.underlying22 sizeU8 _ _ _ a rfl rfl w.heap.size 0 _ 5 HG1.out (by omega) (fun _ => rfl) (by rw [HZ.out]; omega) w.heap.size w hb1 (Nat.le_refl _) ?_); intro w2 HG2 hb2; clear HG1 hb1)
    | ((with_reducible refine wpList_copy_str rfl (.tmp 18) (.tmp 19) 22 9 rfl 5 Tryd.underlying22 sizeU8 _ _ _ b rfl rfl w.heap.size a.size _ 5 HG2.out ?_ ?_ ?_ w.heap.size w hb2 (Nat.le_refl _) ?_); (omega); (intro h; rw [if_neg (ne_empty h)]); (have := splice_len0 HZ.out; omega); intro w3 HG3 hb3; clear HG2 hb2; have hcv := conv_two (n := a.size + b.size) rfl hab HG3 HZ))
  all_goals go_ret
  all_goals exact ⟨rfl, hb3⟩

end Go.Proofs.YtpgodphnjeifhaaDoor
