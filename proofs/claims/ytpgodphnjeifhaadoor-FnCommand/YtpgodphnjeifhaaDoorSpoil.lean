/- The draw of a text that is changed a little. -/
import Derived.Test.YtpgodphnjeifhaaDoorDrawMac
import Derived.BigQuiet
import Derived.Deep.QuietTactic
import Derived.Outline
namespace Go.Proofs.YtpgodphnjeifhaaDoor
open Go.RowKit
set_option linter.unusedVariables false
set_option maxRecDepth 1000000

/-- What a draw of a string answers. -/
def StrM (B g m : Nat) (w : World) (e : Ending) (w' : World) : Prop := ∃ s : ByteArray, e = .returned (.string s) ∧ s.size ≤ m ∧ Drw w' B g ∧ w.grownBy w' (some g)
theorem u8_str (b : Int) (w : World) : (convert 22 9 (.slice (some ⟨w.heap.size, 0, none⟩) 1 1)).run Tryd.prog (w.alloc (.cells #[.int .u8 b] 5)) = .ok (.string (strOfNums [b])) (w.alloc (.cells #[.int .u8 b] 5)) :=
  own_string (base := w.heap.size) (n := 1) (ns := [b]) (World.ownsRow_lit w #[.int .u8 b] 1 (Nat.le_refl _) (by decide) rfl)
abbrev spoilC : ByteArray := ⟨#[32, 10, 48, 97, 45, 110, 44, 58, 93, 255, 40, 120, 126, 49, 128, 225, 59]⟩
theorem spoil_at (y : Int) (h0 : 0 ≤ y) (h1 : y < 17) : ∃ b : Int, ∀ w : World, (Instr.index 9 (.string spoilC) (.int .i64 y)).run Tryd.prog w = .ok (.int .u8 b) w := by
  have hz : y.toNat < spoilC.size := by show y.toNat < 17; omega
  refine ⟨(spoilC[y.toNat].toNat : Int), fun w => ?_⟩
  rw [run_index_string (P := Tryd.prog) w 9 spoilC .i64 y Tryd.underlying9, dif_pos ⟨h0, by show y < ((17 : Nat) : Int); omega⟩]
set_option maxHeartbeats 8000000 in
theorem spoil_any (B g : Nat) (t : ByteArray) (w : World) (h : Drw w B g) (ht : t.size ≤ 1048576) :
    Calls Tryd.prog 36 #[.pointer (some ⟨g, 0, none⟩), .string t] w (StrM B g (t.size + 1) w) := by
  go_enter Tryd.func36, Tryd.ntmps36
  go_wp2_with (fail)
  refine (n_any B g ((t.size : Int) + 1) _ h (by omega) (by omega)).mono ?_
  rintro e w1 ⟨k, rfl, k0, k1, k2, hd1, ho1⟩
  have k3 : k ≤ t.size := by by_cases h1 : 1 < (t.size : Int) + 1; (have := k1 h1; omega); (have := k2 (by omega); omega)
  clear k1 k2
  go_wp2_with (fail)
  refine (n_any B g 17 _ hd1 (by omega) (by omega)).mono ?_
  rintro e w2 ⟨y, rfl, y0, y1, _, hd2, ho2⟩
  have y2 := y1 (by omega)
  clear y1
  obtain ⟨b, hix⟩ := spoil_at y y0 y2
  have hcv := fun W => u8_str b W
  obtain ⟨c, HC⟩ : ∃ c, Hid (strOfNums [b] = c) := ⟨_, Lib.hid rfl⟩
  have hcs : c.size = 1 := by rw [← HC.out, strOfNums_size]; rfl
  rw [HC.out] at hcv
  obtain ⟨q, rfl⟩ : ∃ q : Nat, k = q := ⟨k.toNat, by omega⟩
  have k4 : q ≤ t.size := by omega
  have k5 : (q : Int) ≤ (t.size : Int) := by omega
  have ho12 := only_trans ho1 ho2
  have hdX := hd2.alloc (.cells #[.int .u8 b] 5)
  have hoX := only_trans ho12 (World.grownBy_alloc w2 (.cells #[.int .u8 b] 5) (some g))
  clear ho1 ho2 hd1 h HC
  by_cases hq : q = t.size
  · have HQ := Lib.hid hq
    have hq' : ((q : Int) == (t.size : Int)) = true := by simp [hq]
    clear hq
    go_wp2_with (fail)
    go_quiet (fail)
    go_wp2
    go_ret
    exact ⟨_, rfl, by simp; omega, hdX.drewN _, only_drewN hoX _⟩
  · have hq' : ((q : Int) == (t.size : Int)) = false := by simp; omega
    have k6 : (q : Int) < (t.size : Int) := by omega
    have hwr : IntKind.i64.wrap ((q : Int) + 1) = ((q + 1 : Nat) : Int) := by rw [IntWalk.i64_in _ (by omega)]; omega
    have k7 : ((q + 1 : Nat) : Int) ≤ (t.size : Int) := by omega
    have k8 : q + 1 ≤ t.size := by omega
    clear hq
    go_wp2_with (fail)
    refine (one_any B g 3 _ hdX (by omega) (by omega)).mono ?_
    rintro e w3 ⟨b3, rfl, hd3, ho3⟩
    cases b3
    · go_wp2_with (fail)
      refine (one_any B g 2 _ hd3 (by omega) (by omega)).mono ?_
      rintro e w4 ⟨b4, rfl, hd4, ho4⟩
      cases b4
      · go_wp2_with (fail)
        go_quiet (fail)
        go_wp2
        go_ret
        exact ⟨_, rfl, by simp; omega, hd4.drewN _, only_drewN (only_trans (only_trans hoX ho3) ho4) _⟩
      · go_wp2_with (fail)
        go_quiet (fail)
        go_wp2
        go_ret
        exact ⟨_, rfl, by simp; omega, hd4.drewN _, only_drewN (only_trans (only_trans hoX ho3) ho4) _⟩
    · go_wp2_with (fail)
      go_quiet (fail)
      go_wp2
      go_ret
      exact ⟨_, rfl, by simp; omega, hd3.drewN _, only_drewN (only_trans hoX ho3) _⟩
end Go.Proofs.YtpgodphnjeifhaaDoor
