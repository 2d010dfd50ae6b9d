/- Contracts of PutText: spec and impl answer the same string. -/
import Derived.Test.YtpgodphnjeifhaaDoorJoined
import Derived.Test.YtpgodphnjeifhaaDoorNum
import Derived.Test.YtpgodphnjeifhaaDoorClone
namespace Go.Proofs.YtpgodphnjeifhaaDoor
open Go.RowKit
set_option linter.unusedVariables false

def ptext (t : ByteArray) : ByteArray := strOfNums (vint (zig t.size)) ++ t
theorem vint_size (t : ByteArray) (h : t.size ≤ 1048576) : (strOfNums (vint (zig t.size))).size ≤ 10 := by
  rw [strOfNums_size]; exact vint_len10 _ (zig_lt (by omega) (by omega))

set_option maxHeartbeats 1000000 in
theorem specPutText_any (t : ByteArray) (w : World) (h : t.size ≤ 20000) :
    Calls Tryd.prog 43 #[.string t] w fun e w' => e = .returned (.string (ptext t)) ∧ Below w.heap.size w w' := by
  have HV := Lib.hid (fun w => specPutNum_any t.size w (by omega) (by omega))
  have hv := vint_size t (by omega)
  obtain ⟨s, HE⟩ : ∃ s, Hid (strOfNums (vint (zig t.size)) = s) := ⟨_, rfl⟩
  rw [HE.out] at HV hv
  go_enter Tryd.func43, Tryd.ntmps43
  go_wp2_with (go_at_call 42; refine (HV.out _).mono ?_; rintro e w1 ⟨rfl, hb1⟩)
  go_ret
  exact ⟨retS (by unfold ptext; rw [HE.out]), hb1⟩

set_option maxHeartbeats 1000000 in
theorem specPutText_out (t : ByteArray) (w : World) (hs : t.size ≤ maxLen) (h : 20000 < t.size) :
    Calls Tryd.prog 43 #[.string t] w fun e w' => e = .returned (.string ⟨#[]⟩) ∧ Below w.heap.size w w' := by
  unfold maxLen at hs
  go_enter Tryd.func43, Tryd.ntmps43
  go_wp2
  go_ret
  exact ⟨rfl, Below.refl _ _⟩

set_option maxHeartbeats 1000000 in
theorem implPutText_any (t : ByteArray) (w : World) (h : t.size ≤ 20000) :
    Calls Tryd.prog 20 #[.string t] w fun e w' => e = .returned (.string (ptext t)) ∧ Below w.heap.size w w' := by
  have HV := Lib.hid (fun w => implPutNum_any t.size w (by omega) (by omega))
  have hv := vint_size t (by omega)
  obtain ⟨s, HE⟩ : ∃ s, Hid (strOfNums (vint (zig t.size)) = s) := ⟨_, rfl⟩
  rw [HE.out] at HV hv
  go_enter Tryd.func20, Tryd.ntmps20
  go_wp2_with (first
    | (go_at_call 32; go_in)
    | (go_at_call 19; refine (HV.out _).mono ?_; rintro e w1 ⟨rfl, hb1⟩)
    | (go_at_call 41; refine (joined_any _ _ _ (by omega)).mono ?_; rintro e w2 ⟨rfl, hb2⟩))
  go_ret
  exact ⟨retS (by unfold ptext; rw [HE.out]), hb1.trans (hb2.mono hb1.size)⟩

set_option maxHeartbeats 1000000 in
theorem implPutText_out (t : ByteArray) (w : World) (hs : t.size ≤ maxLen) (h : 20000 < t.size) :
    Calls Tryd.prog 20 #[.string t] w fun e w' => e = .returned (.string ⟨#[]⟩) ∧ Below w.heap.size w w' := by
  unfold maxLen at hs
  go_enter Tryd.func20, Tryd.ntmps20
  go_wp2
  go_ret
  exact ⟨rfl, Below.refl _ _⟩

end Go.Proofs.YtpgodphnjeifhaaDoor
