/- The walks of the exact laws of the digests. -/
import Derived.Test.YtahfpcagblcdmaaDoorSpecMac
namespace Go.Proofs.YtahfpcagblcdmaaDoor
open Go.RowKit
set_option linter.unusedVariables false

set_option maxHeartbeats 1600000 in
theorem lawDigest (t : ByteArray) (w0 : t.size ≤ maxLen) (w : World) (hK : Keys w) (hw : 0 < w.heap.size) :
    Calls Tryd.prog 4 #[.string t] w fun e w' => e = .returned (.bool true) ∧ Below w.heap.size w w' := by
  have hs := w0
  unfold maxLen at hs
  by_cases hl : t.size ≤ 1048576
  · obtain ⟨s, hv⟩ : ∃ s : ByteArray, ∀ w, Keys w → 0 < w.heap.size → (Calls Tryd.prog 13 #[.string t] w fun e w' => e = .returned (.string s) ∧ Below w.heap.size w w') ∧ (Calls Tryd.prog 8 #[.string t] w fun e w' => e = .returned (.string s) ∧ Below w.heap.size w w') := by
      by_cases k : t.size ≤ 20000
      · exact ⟨_, fun w hK hw => ⟨specDigest_any t w k, implDigest_any t w k hK hw⟩⟩
      · exact ⟨_, fun w hK hw => ⟨specDigest_out t w w0 (by omega), implDigest_out t w w0 (by omega)⟩⟩
    have HV := Lib.hid hv
    clear hv
    go_enter Tryd.func4, Tryd.ntmps4
    go_wp2_with (first
      | (go_at_call 13; refine (HV.out _ hK hw).1.mono ?_; rintro e w1 ⟨rfl, hb1⟩; have hz1 := hb1.size; have hK1 := hK.below hb1 hw)
      | (go_at_call 8; refine (HV.out _ hK1 (by omega)).2.mono ?_; rintro e w2 ⟨rfl, hb2⟩))
    go_ret
    exact ⟨rfl, hb1.trans (hb2.mono hz1)⟩
  · go_enter Tryd.func4, Tryd.ntmps4
    go_wp2
    go_ret
    exact ⟨rfl, Below.refl _ _⟩

set_option maxHeartbeats 1600000 in
theorem lawMac (key t : ByteArray) (w0 : key.size ≤ maxLen) (w1 : t.size ≤ maxLen) (w : World) (hK : Keys w) (hw : 0 < w.heap.size) :
    Calls Tryd.prog 5 #[.string key, .string t] w fun e w' => e = .returned (.bool true) ∧ Below w.heap.size w w' := by
  have hs := w0
  have hs1 := w1
  unfold maxLen at hs hs1
  by_cases hl1 : key.size ≤ 1048576
  · by_cases hl2 : t.size ≤ 1048576
    · obtain ⟨s, hv⟩ : ∃ s : ByteArray, ∀ w, Keys w → 0 < w.heap.size → (Calls Tryd.prog 16 #[.string key, .string t] w fun e w' => e = .returned (.string s) ∧ Below w.heap.size w w') ∧ (Calls Tryd.prog 10 #[.string key, .string t] w fun e w' => e = .returned (.string s) ∧ Below w.heap.size w w') := by
        by_cases k : key.size ≤ 20000 ∧ t.size ≤ 20000
        · exact ⟨_, fun w hK hw => ⟨specMac_any key t w k.1 k.2, implMac_any key t w k.1 k.2 hK hw⟩⟩
        · exact ⟨_, fun w hK hw => ⟨specMac_out key t w w0 w1 (by omega), implMac_out key t w w0 w1 (by omega)⟩⟩
      have HV := Lib.hid hv
      clear hv
      go_enter Tryd.func5, Tryd.ntmps5
      go_wp2_with (first
        | (go_at_call 16; refine (HV.out _ hK hw).1.mono ?_; rintro e w1 ⟨rfl, hb1⟩; have hz1 := hb1.size; have hK1 := hK.below hb1 hw)
        | (go_at_call 10; refine (HV.out _ hK1 (by omega)).2.mono ?_; rintro e w2 ⟨rfl, hb2⟩))
      go_ret
      exact ⟨rfl, hb1.trans (hb2.mono hz1)⟩
    · go_enter Tryd.func5, Tryd.ntmps5
      go_wp2
      go_ret
      exact ⟨rfl, Below.refl _ _⟩
  · go_enter Tryd.func5, Tryd.ntmps5
    go_wp2
    go_ret
    exact ⟨rfl, Below.refl _ _⟩

set_option maxHeartbeats 1600000 in
theorem lawStretch (pass : ByteArray) (n : Int) (w0 : pass.size ≤ maxLen) (w1 : (Lit.int .i64 n).wf = true) (w : World) (hK : Keys w) (hw : 0 < w.heap.size) :
    Calls Tryd.prog 6 #[.string pass, .int .i64 n] w fun e w' => e = .returned (.bool true) ∧ Below w.heap.size w w' := by
  have hs := w0
  unfold maxLen at hs
  by_cases hl : pass.size ≤ 1048576
  · obtain ⟨s, hv⟩ : ∃ s : ByteArray, ∀ w, Keys w → 0 < w.heap.size → (Calls Tryd.prog 15 #[.string pass, .int .i64 n] w fun e w' => e = .returned (.string s) ∧ Below w.heap.size w w') ∧ (Calls Tryd.prog 14 #[.string pass, .int .i64 n] w fun e w' => e = .returned (.string s) ∧ Below w.heap.size w w') := by
      by_cases k : pass.size ≤ 20000 ∧ 1 ≤ n ∧ n ≤ 100
      · exact ⟨_, fun w hK hw => ⟨specStretch_any pass n w k.1 k.2.1 k.2.2, implStretch_any pass n w k.1 k.2.1 k.2.2 hK hw⟩⟩
      · exact ⟨_, fun w hK hw => ⟨specStretch_out pass n w w0 (by omega), implStretch_out pass n w w0 (by omega)⟩⟩
    have HV := Lib.hid hv
    clear hv
    go_enter Tryd.func6, Tryd.ntmps6
    go_wp2_with (first
      | (go_at_call 15; refine (HV.out _ hK hw).1.mono ?_; rintro e w1 ⟨rfl, hb1⟩; have hz1 := hb1.size; have hK1 := hK.below hb1 hw)
      | (go_at_call 14; refine (HV.out _ hK1 (by omega)).2.mono ?_; rintro e w2 ⟨rfl, hb2⟩))
    go_ret
    exact ⟨rfl, hb1.trans (hb2.mono hz1)⟩
  · go_enter Tryd.func6, Tryd.ntmps6
    go_wp2
    go_ret
    exact ⟨rfl, Below.refl _ _⟩
end Go.Proofs.YtahfpcagblcdmaaDoor
