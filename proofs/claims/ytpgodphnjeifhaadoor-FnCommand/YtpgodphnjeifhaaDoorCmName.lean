/- CommandName: spec and impl answer alike. -/
import Derived.Test.YtpgodphnjeifhaaDoorCm
namespace Go.Proofs.YtpgodphnjeifhaaDoor
open Go.RowKit
set_option linter.unusedVariables false
set_option maxRecDepth 1000000

/-- The name of a kind. -/
def kindN (k : Int) : ByteArray :=
  if k = 1 then ⟨#[99, 114, 101, 97, 116, 101]⟩ else if k = 2 then ⟨#[100, 101, 108, 101, 116, 101]⟩ else if k = 3 then ⟨#[112, 117, 98, 108, 105, 115, 104]⟩
  else if k = 4 then ⟨#[102, 101, 116, 99, 104]⟩ else if k = 5 then ⟨#[97, 99, 107]⟩ else if k = 6 then ⟨#[115, 101, 101, 107]⟩ else if k = 7 then ⟨#[114, 101, 116, 97, 105, 110]⟩ else ⟨#[]⟩
theorem kindN_out {k : Int} (h : (k == 1) = false ∧ (k == 2) = false ∧ (k == 3) = false ∧ (k == 4) = false ∧ (k == 5) = false ∧ (k == 6) = false ∧ (k == 7) = false) : kindN k = ⟨#[]⟩ := by
  simp only [beq_eq_false_iff_ne, ne_eq] at h
  obtain ⟨h1, h2, h3, h4, h5, h6, h7⟩ := h
  unfold kindN
  rw [if_neg h1, if_neg h2, if_neg h3, if_neg h4, if_neg h5, if_neg h6, if_neg h7]
set_option maxHeartbeats 2000000 in
theorem implCommandName_any (k : Int) (w : World) :
    Calls Tryd.prog 11 #[.int .i64 k] w fun e w' => e = .returned (.string (kindN k)) ∧ Below w.heap.size w w' := by
  rcases kindWays k with rfl | rfl | rfl | rfl | rfl | rfl | rfl | h
  all_goals try
    go_enter Tryd.func11, Tryd.ntmps11
    go_wp2
    go_ret
    exact ⟨rfl, Below.refl _ _⟩
  rw [kindN_out h]
  obtain ⟨k1, k2, k3, k4, k5, k6, k7⟩ := h
  go_enter Tryd.func11, Tryd.ntmps11
  go_wp2
  go_ret
  exact ⟨rfl, Below.refl _ _⟩
set_option maxHeartbeats 2000000 in
theorem specCommandName_any (k : Int) (w : World) :
    Calls Tryd.prog 12 #[.int .i64 k] w fun e w' => e = .returned (.string (kindN k)) ∧ Below w.heap.size w w' := by
  rcases kindWays k with rfl | rfl | rfl | rfl | rfl | rfl | rfl | h
  all_goals try
    go_enter Tryd.func12, Tryd.ntmps12
    go_wp2_with (first
      | (go_at_call 28; go_in)
      | (go_at_call 31; go_in))
    go_ret
    exact ⟨rfl, below_box _ _⟩
  rw [kindN_out h]
  have h0 : inB k 1 7 = false := by
    simp only [beq_eq_false_iff_ne, ne_eq] at h
    simp [inB]
    omega
  have IA := fun W => is3 h0 W
  clear h h0
  go_enter Tryd.func12, Tryd.ntmps12
  go_wp2_with (go_at_call 28; (with_reducible refine (IA _).mono ?_); rintro e w1 ⟨rfl, rfl⟩)
  go_ret
  exact ⟨rfl, Below.refl _ _⟩
end Go.Proofs.YtpgodphnjeifhaaDoor
