/- spec.CommandRight answers cmdB. -/
import Derived.Test.YtpgodphnjeifhaaDoorCm
namespace Go.Proofs.YtpgodphnjeifhaaDoor
open Go.RowKit
set_option linter.unusedVariables false
set_option maxRecDepth 1000000
set_option linter.unusedSimpArgs false

set_option maxHeartbeats 8000000 in
theorem specCommandRight_any (c : Cmd) (hs : c.small) (w : World) :
    Calls Tryd.prog 10 #[c.v] w fun e w' => e = .returned (.bool (cmdB c)) ∧ Below w.heap.size w w' := by
  obtain ⟨a, b, k, t, g, x, n⟩ := c
  obtain ⟨ht, hg, hx⟩ := hs
  obtain ⟨r, hr⟩ : ∃ r, cmdB ⟨a, b, k, t, g, x, n⟩ = r := ⟨_, rfl⟩
  rw [hr]
  unfold Cmd.v
  unfold cmdB at hr
  simp only at ht hg hx hr ⊢
  cases ha : inB a 1 9
  · obtain rfl : r = false := by rw [← hr, ha]; rfl
    clear hr
    have IA := fun W => is3 ha W
    go_enter Tryd.func10, Tryd.ntmps10
    go_wp2_with (go_at_call 28; refine (IA _).mono ?_; rintro e w1 ⟨rfl, rfl⟩)
    go_ret
    exact ⟨rfl, below_box _ _⟩
  have IA := fun W => is3 ha W
  cases hb : inB b 1 1000000000
  · obtain rfl : r = false := by rw [← hr, ha, hb]; rfl
    clear hr
    have IB := fun W => is3 hb W
    go_enter Tryd.func10, Tryd.ntmps10
    go_wp2_with (first
      | (go_at_call 28; (with_reducible refine (IA _).mono ?_); rintro e w1 ⟨rfl, rfl⟩)
      | (go_at_call 28; (with_reducible refine (IB _).mono ?_); rintro e w1 ⟨rfl, rfl⟩))
    go_ret
    exact ⟨rfl, below_box _ _⟩
  have IB := fun W => is3 hb W
  cases hn : nameB t
  · obtain rfl : r = false := by rw [← hr, ha, hb, hn]; rfl
    clear hr
    have NT := fun W => specName_b hn ht W
    go_enter Tryd.func10, Tryd.ntmps10
    go_wp2_with (first
      | (go_at_call 28; (with_reducible refine (IA _).mono ?_); rintro e w1 ⟨rfl, rfl⟩)
      | (go_at_call 28; (with_reducible refine (IB _).mono ?_); rintro e w1 ⟨rfl, rfl⟩)
      | (go_at_call 29; (with_reducible refine (NT _).mono ?_); rintro e w1 ⟨rfl, rfl⟩))
    go_ret
    exact ⟨rfl, below_box _ _⟩
  have NT := fun W => specName_b hn ht W
  rw [ha, hb, hn] at hr
  simp only [Bool.true_and] at hr
  clear ha hb hn
  rcases kindWays k with rfl | rfl | rfl | rfl | rfl | rfl | rfl | ⟨k1, k2, k3, k4, k5, k6, k7⟩
  · rcases emptyWays g with ⟨rfl, eg⟩ | ⟨eg', eg⟩
    rotate_left
    · obtain rfl : r = false := by rw [← hr]; simp [kindB, eg]
      clear hr
      go_enter Tryd.func10, Tryd.ntmps10
      go_wp2_with (first
        | (go_at_call 28; (with_reducible refine (IA _).mono ?_); rintro e w1 ⟨rfl, rfl⟩)
        | (go_at_call 28; (with_reducible refine (IB _).mono ?_); rintro e w1 ⟨rfl, rfl⟩)
        | (go_at_call 29; (with_reducible refine (NT _).mono ?_); rintro e w1 ⟨rfl, rfl⟩))
      go_ret
      exact ⟨rfl, below_box _ _⟩
    rcases emptyWays x with ⟨rfl, ex⟩ | ⟨ex', ex⟩
    rotate_left
    · obtain rfl : r = false := by rw [← hr]; simp [kindB, ex]
      clear hr
      go_enter Tryd.func10, Tryd.ntmps10
      go_wp2_with (first
        | (go_at_call 28; (with_reducible refine (IA _).mono ?_); rintro e w1 ⟨rfl, rfl⟩)
        | (go_at_call 28; (with_reducible refine (IB _).mono ?_); rintro e w1 ⟨rfl, rfl⟩)
        | (go_at_call 29; (with_reducible refine (NT _).mono ?_); rintro e w1 ⟨rfl, rfl⟩))
      go_ret
      exact ⟨rfl, below_box _ _⟩
    rcases zeroWays n with ⟨rfl, en⟩ | ⟨en', en⟩
    rotate_left
    · obtain rfl : r = false := by rw [← hr]; simp [kindB, en]
      clear hr
      go_enter Tryd.func10, Tryd.ntmps10
      go_wp2_with (first
        | (go_at_call 28; (with_reducible refine (IA _).mono ?_); rintro e w1 ⟨rfl, rfl⟩)
        | (go_at_call 28; (with_reducible refine (IB _).mono ?_); rintro e w1 ⟨rfl, rfl⟩)
        | (go_at_call 29; (with_reducible refine (NT _).mono ?_); rintro e w1 ⟨rfl, rfl⟩))
      go_ret
      exact ⟨rfl, below_box _ _⟩
    obtain rfl : r = true := by rw [← hr]; simp [kindB, eg, ex]
    clear hr
    go_enter Tryd.func10, Tryd.ntmps10
    go_wp2_with (first
      | (go_at_call 28; (with_reducible refine (IA _).mono ?_); rintro e w1 ⟨rfl, rfl⟩)
      | (go_at_call 28; (with_reducible refine (IB _).mono ?_); rintro e w1 ⟨rfl, rfl⟩)
      | (go_at_call 29; (with_reducible refine (NT _).mono ?_); rintro e w1 ⟨rfl, rfl⟩))
    go_ret
    exact ⟨rfl, below_box _ _⟩
  · rcases emptyWays g with ⟨rfl, eg⟩ | ⟨eg', eg⟩
    rotate_left
    · obtain rfl : r = false := by rw [← hr]; simp [kindB, eg]
      clear hr
      go_enter Tryd.func10, Tryd.ntmps10
      go_wp2_with (first
        | (go_at_call 28; (with_reducible refine (IA _).mono ?_); rintro e w1 ⟨rfl, rfl⟩)
        | (go_at_call 28; (with_reducible refine (IB _).mono ?_); rintro e w1 ⟨rfl, rfl⟩)
        | (go_at_call 29; (with_reducible refine (NT _).mono ?_); rintro e w1 ⟨rfl, rfl⟩))
      go_ret
      exact ⟨rfl, below_box _ _⟩
    rcases emptyWays x with ⟨rfl, ex⟩ | ⟨ex', ex⟩
    rotate_left
    · obtain rfl : r = false := by rw [← hr]; simp [kindB, ex]
      clear hr
      go_enter Tryd.func10, Tryd.ntmps10
      go_wp2_with (first
        | (go_at_call 28; (with_reducible refine (IA _).mono ?_); rintro e w1 ⟨rfl, rfl⟩)
        | (go_at_call 28; (with_reducible refine (IB _).mono ?_); rintro e w1 ⟨rfl, rfl⟩)
        | (go_at_call 29; (with_reducible refine (NT _).mono ?_); rintro e w1 ⟨rfl, rfl⟩))
      go_ret
      exact ⟨rfl, below_box _ _⟩
    rcases zeroWays n with ⟨rfl, en⟩ | ⟨en', en⟩
    rotate_left
    · obtain rfl : r = false := by rw [← hr]; simp [kindB, en]
      clear hr
      go_enter Tryd.func10, Tryd.ntmps10
      go_wp2_with (first
        | (go_at_call 28; (with_reducible refine (IA _).mono ?_); rintro e w1 ⟨rfl, rfl⟩)
        | (go_at_call 28; (with_reducible refine (IB _).mono ?_); rintro e w1 ⟨rfl, rfl⟩)
        | (go_at_call 29; (with_reducible refine (NT _).mono ?_); rintro e w1 ⟨rfl, rfl⟩))
      go_ret
      exact ⟨rfl, below_box _ _⟩
    obtain rfl : r = true := by rw [← hr]; simp [kindB, eg, ex]
    clear hr
    go_enter Tryd.func10, Tryd.ntmps10
    go_wp2_with (first
      | (go_at_call 28; (with_reducible refine (IA _).mono ?_); rintro e w1 ⟨rfl, rfl⟩)
      | (go_at_call 28; (with_reducible refine (IB _).mono ?_); rintro e w1 ⟨rfl, rfl⟩)
      | (go_at_call 29; (with_reducible refine (NT _).mono ?_); rintro e w1 ⟨rfl, rfl⟩))
    go_ret
    exact ⟨rfl, below_box _ _⟩
  · rcases emptyWays g with ⟨rfl, eg⟩ | ⟨eg', eg⟩
    rotate_left
    · obtain rfl : r = false := by rw [← hr]; simp [kindB, eg]
      clear hr
      go_enter Tryd.func10, Tryd.ntmps10
      go_wp2_with (first
        | (go_at_call 28; (with_reducible refine (IA _).mono ?_); rintro e w1 ⟨rfl, rfl⟩)
        | (go_at_call 28; (with_reducible refine (IB _).mono ?_); rintro e w1 ⟨rfl, rfl⟩)
        | (go_at_call 29; (with_reducible refine (NT _).mono ?_); rintro e w1 ⟨rfl, rfl⟩))
      go_ret
      exact ⟨rfl, below_box _ _⟩
    cases ex : inB x.size 1 40
    · have TX := fun W => l07Text_b ex hx W
      obtain rfl : r = false := by rw [← hr]; simp [kindB, ex]
      clear hr ex
      go_enter Tryd.func10, Tryd.ntmps10
      go_wp2_with (first
        | (go_at_call 28; (with_reducible refine (IA _).mono ?_); rintro e w1 ⟨rfl, rfl⟩)
        | (go_at_call 28; (with_reducible refine (IB _).mono ?_); rintro e w1 ⟨rfl, rfl⟩)
        | (go_at_call 29; (with_reducible refine (NT _).mono ?_); rintro e w1 ⟨rfl, rfl⟩)
        | (go_at_call 30; (with_reducible refine (TX _).mono ?_); rintro e w1 ⟨rfl, rfl⟩))
      go_ret
      exact ⟨rfl, below_box _ _⟩
    have TX := fun W => l07Text_b ex hx W
    rcases zeroWays n with ⟨rfl, en⟩ | ⟨en', en⟩
    rotate_left
    · obtain rfl : r = false := by rw [← hr]; simp [kindB, en]
      clear hr
      go_enter Tryd.func10, Tryd.ntmps10
      go_wp2_with (first
        | (go_at_call 28; (with_reducible refine (IA _).mono ?_); rintro e w1 ⟨rfl, rfl⟩)
        | (go_at_call 28; (with_reducible refine (IB _).mono ?_); rintro e w1 ⟨rfl, rfl⟩)
        | (go_at_call 29; (with_reducible refine (NT _).mono ?_); rintro e w1 ⟨rfl, rfl⟩)
        | (go_at_call 30; (with_reducible refine (TX _).mono ?_); rintro e w1 ⟨rfl, rfl⟩))
      go_ret
      exact ⟨rfl, below_box _ _⟩
    obtain rfl : r = true := by rw [← hr]; simp [kindB, eg, ex]
    clear hr ex
    go_enter Tryd.func10, Tryd.ntmps10
    go_wp2_with (first
      | (go_at_call 28; (with_reducible refine (IA _).mono ?_); rintro e w1 ⟨rfl, rfl⟩)
      | (go_at_call 28; (with_reducible refine (IB _).mono ?_); rintro e w1 ⟨rfl, rfl⟩)
      | (go_at_call 29; (with_reducible refine (NT _).mono ?_); rintro e w1 ⟨rfl, rfl⟩)
      | (go_at_call 30; (with_reducible refine (TX _).mono ?_); rintro e w1 ⟨rfl, rfl⟩))
    go_ret
    exact ⟨rfl, below_box _ _⟩
  · cases eg : nameB g
    · have NG := fun W => specName_b eg hg W
      obtain rfl : r = false := by rw [← hr]; simp [kindB, eg]
      clear hr eg
      go_enter Tryd.func10, Tryd.ntmps10
      go_wp2_with (first
        | (go_at_call 28; (with_reducible refine (IA _).mono ?_); rintro e w1 ⟨rfl, rfl⟩)
        | (go_at_call 28; (with_reducible refine (IB _).mono ?_); rintro e w1 ⟨rfl, rfl⟩)
        | (go_at_call 29; (with_reducible refine (NT _).mono ?_); rintro e w1 ⟨rfl, rfl⟩)
        | (go_at_call 29; (with_reducible refine (NG _).mono ?_); rintro e w1 ⟨rfl, rfl⟩))
      go_ret
      exact ⟨rfl, below_box _ _⟩
    have NG := fun W => specName_b eg hg W
    rcases emptyWays x with ⟨rfl, ex⟩ | ⟨ex', ex⟩
    rotate_left
    · obtain rfl : r = false := by rw [← hr]; simp [kindB, ex]
      clear hr eg
      go_enter Tryd.func10, Tryd.ntmps10
      go_wp2_with (first
        | (go_at_call 28; (with_reducible refine (IA _).mono ?_); rintro e w1 ⟨rfl, rfl⟩)
        | (go_at_call 28; (with_reducible refine (IB _).mono ?_); rintro e w1 ⟨rfl, rfl⟩)
        | (go_at_call 29; (with_reducible refine (NT _).mono ?_); rintro e w1 ⟨rfl, rfl⟩)
        | (go_at_call 29; (with_reducible refine (NG _).mono ?_); rintro e w1 ⟨rfl, rfl⟩))
      go_ret
      exact ⟨rfl, below_box _ _⟩
    cases en : inB n 0 1000000000
    · have IN := fun W => is3 en W
      obtain rfl : r = false := by rw [← hr]; simp [kindB, en]
      clear hr en eg
      go_enter Tryd.func10, Tryd.ntmps10
      go_wp2_with (first
        | (go_at_call 28; (with_reducible refine (IA _).mono ?_); rintro e w1 ⟨rfl, rfl⟩)
        | (go_at_call 28; (with_reducible refine (IB _).mono ?_); rintro e w1 ⟨rfl, rfl⟩)
        | (go_at_call 29; (with_reducible refine (NT _).mono ?_); rintro e w1 ⟨rfl, rfl⟩)
        | (go_at_call 29; (with_reducible refine (NG _).mono ?_); rintro e w1 ⟨rfl, rfl⟩)
        | (go_at_call 28; (with_reducible refine (IN _).mono ?_); rintro e w1 ⟨rfl, rfl⟩))
      go_ret
      exact ⟨rfl, below_box _ _⟩
    have IN := fun W => is3 en W
    obtain rfl : r = true := by rw [← hr]; simp [kindB, eg, ex, en]
    clear hr en eg
    go_enter Tryd.func10, Tryd.ntmps10
    go_wp2_with (first
      | (go_at_call 28; (with_reducible refine (IA _).mono ?_); rintro e w1 ⟨rfl, rfl⟩)
      | (go_at_call 28; (with_reducible refine (IB _).mono ?_); rintro e w1 ⟨rfl, rfl⟩)
      | (go_at_call 29; (with_reducible refine (NT _).mono ?_); rintro e w1 ⟨rfl, rfl⟩)
      | (go_at_call 29; (with_reducible refine (NG _).mono ?_); rintro e w1 ⟨rfl, rfl⟩)
      | (go_at_call 28; (with_reducible refine (IN _).mono ?_); rintro e w1 ⟨rfl, rfl⟩))
    go_ret
    exact ⟨rfl, below_box _ _⟩
  · cases eg : nameB g
    · have NG := fun W => specName_b eg hg W
      obtain rfl : r = false := by rw [← hr]; simp [kindB, eg]
      clear hr eg
      go_enter Tryd.func10, Tryd.ntmps10
      go_wp2_with (first
        | (go_at_call 28; (with_reducible refine (IA _).mono ?_); rintro e w1 ⟨rfl, rfl⟩)
        | (go_at_call 28; (with_reducible refine (IB _).mono ?_); rintro e w1 ⟨rfl, rfl⟩)
        | (go_at_call 29; (with_reducible refine (NT _).mono ?_); rintro e w1 ⟨rfl, rfl⟩)
        | (go_at_call 29; (with_reducible refine (NG _).mono ?_); rintro e w1 ⟨rfl, rfl⟩))
      go_ret
      exact ⟨rfl, below_box _ _⟩
    have NG := fun W => specName_b eg hg W
    rcases emptyWays x with ⟨rfl, ex⟩ | ⟨ex', ex⟩
    rotate_left
    · obtain rfl : r = false := by rw [← hr]; simp [kindB, ex]
      clear hr eg
      go_enter Tryd.func10, Tryd.ntmps10
      go_wp2_with (first
        | (go_at_call 28; (with_reducible refine (IA _).mono ?_); rintro e w1 ⟨rfl, rfl⟩)
        | (go_at_call 28; (with_reducible refine (IB _).mono ?_); rintro e w1 ⟨rfl, rfl⟩)
        | (go_at_call 29; (with_reducible refine (NT _).mono ?_); rintro e w1 ⟨rfl, rfl⟩)
        | (go_at_call 29; (with_reducible refine (NG _).mono ?_); rintro e w1 ⟨rfl, rfl⟩))
      go_ret
      exact ⟨rfl, below_box _ _⟩
    cases en : inB n 0 1000000000
    · have IN := fun W => is3 en W
      obtain rfl : r = false := by rw [← hr]; simp [kindB, en]
      clear hr en eg
      go_enter Tryd.func10, Tryd.ntmps10
      go_wp2_with (first
        | (go_at_call 28; (with_reducible refine (IA _).mono ?_); rintro e w1 ⟨rfl, rfl⟩)
        | (go_at_call 28; (with_reducible refine (IB _).mono ?_); rintro e w1 ⟨rfl, rfl⟩)
        | (go_at_call 29; (with_reducible refine (NT _).mono ?_); rintro e w1 ⟨rfl, rfl⟩)
        | (go_at_call 29; (with_reducible refine (NG _).mono ?_); rintro e w1 ⟨rfl, rfl⟩)
        | (go_at_call 28; (with_reducible refine (IN _).mono ?_); rintro e w1 ⟨rfl, rfl⟩))
      go_ret
      exact ⟨rfl, below_box _ _⟩
    have IN := fun W => is3 en W
    obtain rfl : r = true := by rw [← hr]; simp [kindB, eg, ex, en]
    clear hr en eg
    go_enter Tryd.func10, Tryd.ntmps10
    go_wp2_with (first
      | (go_at_call 28; (with_reducible refine (IA _).mono ?_); rintro e w1 ⟨rfl, rfl⟩)
      | (go_at_call 28; (with_reducible refine (IB _).mono ?_); rintro e w1 ⟨rfl, rfl⟩)
      | (go_at_call 29; (with_reducible refine (NT _).mono ?_); rintro e w1 ⟨rfl, rfl⟩)
      | (go_at_call 29; (with_reducible refine (NG _).mono ?_); rintro e w1 ⟨rfl, rfl⟩)
      | (go_at_call 28; (with_reducible refine (IN _).mono ?_); rintro e w1 ⟨rfl, rfl⟩))
    go_ret
    exact ⟨rfl, below_box _ _⟩
  · cases eg : nameB g
    · have NG := fun W => specName_b eg hg W
      obtain rfl : r = false := by rw [← hr]; simp [kindB, eg]
      clear hr eg
      go_enter Tryd.func10, Tryd.ntmps10
      go_wp2_with (first
        | (go_at_call 28; (with_reducible refine (IA _).mono ?_); rintro e w1 ⟨rfl, rfl⟩)
        | (go_at_call 28; (with_reducible refine (IB _).mono ?_); rintro e w1 ⟨rfl, rfl⟩)
        | (go_at_call 29; (with_reducible refine (NT _).mono ?_); rintro e w1 ⟨rfl, rfl⟩)
        | (go_at_call 29; (with_reducible refine (NG _).mono ?_); rintro e w1 ⟨rfl, rfl⟩))
      go_ret
      exact ⟨rfl, below_box _ _⟩
    have NG := fun W => specName_b eg hg W
    rcases emptyWays x with ⟨rfl, ex⟩ | ⟨ex', ex⟩
    rotate_left
    · obtain rfl : r = false := by rw [← hr]; simp [kindB, ex]
      clear hr eg
      go_enter Tryd.func10, Tryd.ntmps10
      go_wp2_with (first
        | (go_at_call 28; (with_reducible refine (IA _).mono ?_); rintro e w1 ⟨rfl, rfl⟩)
        | (go_at_call 28; (with_reducible refine (IB _).mono ?_); rintro e w1 ⟨rfl, rfl⟩)
        | (go_at_call 29; (with_reducible refine (NT _).mono ?_); rintro e w1 ⟨rfl, rfl⟩)
        | (go_at_call 29; (with_reducible refine (NG _).mono ?_); rintro e w1 ⟨rfl, rfl⟩))
      go_ret
      exact ⟨rfl, below_box _ _⟩
    cases en : inB n 0 1000000000
    · have IN := fun W => is3 en W
      obtain rfl : r = false := by rw [← hr]; simp [kindB, en]
      clear hr en eg
      go_enter Tryd.func10, Tryd.ntmps10
      go_wp2_with (first
        | (go_at_call 28; (with_reducible refine (IA _).mono ?_); rintro e w1 ⟨rfl, rfl⟩)
        | (go_at_call 28; (with_reducible refine (IB _).mono ?_); rintro e w1 ⟨rfl, rfl⟩)
        | (go_at_call 29; (with_reducible refine (NT _).mono ?_); rintro e w1 ⟨rfl, rfl⟩)
        | (go_at_call 29; (with_reducible refine (NG _).mono ?_); rintro e w1 ⟨rfl, rfl⟩)
        | (go_at_call 28; (with_reducible refine (IN _).mono ?_); rintro e w1 ⟨rfl, rfl⟩))
      go_ret
      exact ⟨rfl, below_box _ _⟩
    have IN := fun W => is3 en W
    obtain rfl : r = true := by rw [← hr]; simp [kindB, eg, ex, en]
    clear hr en eg
    go_enter Tryd.func10, Tryd.ntmps10
    go_wp2_with (first
      | (go_at_call 28; (with_reducible refine (IA _).mono ?_); rintro e w1 ⟨rfl, rfl⟩)
      | (go_at_call 28; (with_reducible refine (IB _).mono ?_); rintro e w1 ⟨rfl, rfl⟩)
      | (go_at_call 29; (with_reducible refine (NT _).mono ?_); rintro e w1 ⟨rfl, rfl⟩)
      | (go_at_call 29; (with_reducible refine (NG _).mono ?_); rintro e w1 ⟨rfl, rfl⟩)
      | (go_at_call 28; (with_reducible refine (IN _).mono ?_); rintro e w1 ⟨rfl, rfl⟩))
    go_ret
    exact ⟨rfl, below_box _ _⟩
  · rcases emptyWays g with ⟨rfl, eg⟩ | ⟨eg', eg⟩
    rotate_left
    · obtain rfl : r = false := by rw [← hr]; simp [kindB, eg]
      clear hr
      go_enter Tryd.func10, Tryd.ntmps10
      go_wp2_with (first
        | (go_at_call 28; (with_reducible refine (IA _).mono ?_); rintro e w1 ⟨rfl, rfl⟩)
        | (go_at_call 28; (with_reducible refine (IB _).mono ?_); rintro e w1 ⟨rfl, rfl⟩)
        | (go_at_call 29; (with_reducible refine (NT _).mono ?_); rintro e w1 ⟨rfl, rfl⟩))
      go_ret
      exact ⟨rfl, below_box _ _⟩
    rcases emptyWays x with ⟨rfl, ex⟩ | ⟨ex', ex⟩
    rotate_left
    · obtain rfl : r = false := by rw [← hr]; simp [kindB, ex]
      clear hr
      go_enter Tryd.func10, Tryd.ntmps10
      go_wp2_with (first
        | (go_at_call 28; (with_reducible refine (IA _).mono ?_); rintro e w1 ⟨rfl, rfl⟩)
        | (go_at_call 28; (with_reducible refine (IB _).mono ?_); rintro e w1 ⟨rfl, rfl⟩)
        | (go_at_call 29; (with_reducible refine (NT _).mono ?_); rintro e w1 ⟨rfl, rfl⟩))
      go_ret
      exact ⟨rfl, below_box _ _⟩
    cases en : inB n 0 20
    · have IN := fun W => is3 en W
      obtain rfl : r = false := by rw [← hr]; simp [kindB, en]
      clear hr en
      go_enter Tryd.func10, Tryd.ntmps10
      go_wp2_with (first
        | (go_at_call 28; (with_reducible refine (IA _).mono ?_); rintro e w1 ⟨rfl, rfl⟩)
        | (go_at_call 28; (with_reducible refine (IB _).mono ?_); rintro e w1 ⟨rfl, rfl⟩)
        | (go_at_call 29; (with_reducible refine (NT _).mono ?_); rintro e w1 ⟨rfl, rfl⟩)
        | (go_at_call 28; (with_reducible refine (IN _).mono ?_); rintro e w1 ⟨rfl, rfl⟩))
      go_ret
      exact ⟨rfl, below_box _ _⟩
    have IN := fun W => is3 en W
    obtain rfl : r = true := by rw [← hr]; simp [kindB, eg, ex, en]
    clear hr en
    go_enter Tryd.func10, Tryd.ntmps10
    go_wp2_with (first
      | (go_at_call 28; (with_reducible refine (IA _).mono ?_); rintro e w1 ⟨rfl, rfl⟩)
      | (go_at_call 28; (with_reducible refine (IB _).mono ?_); rintro e w1 ⟨rfl, rfl⟩)
      | (go_at_call 29; (with_reducible refine (NT _).mono ?_); rintro e w1 ⟨rfl, rfl⟩)
      | (go_at_call 28; (with_reducible refine (IN _).mono ?_); rintro e w1 ⟨rfl, rfl⟩))
    go_ret
    exact ⟨rfl, below_box _ _⟩
  · obtain rfl : r = false := by
      rw [← hr]
      simp only [beq_eq_false_iff_ne, ne_eq] at k1 k2 k3 k4 k5 k6 k7
      unfold kindB
      rw [if_neg (by omega), if_neg (by omega), if_neg (by omega), if_neg (by omega)]
    clear hr
    go_enter Tryd.func10, Tryd.ntmps10
    go_wp2_with (first
      | (go_at_call 28; (with_reducible refine (IA _).mono ?_); rintro e w1 ⟨rfl, rfl⟩)
      | (go_at_call 28; (with_reducible refine (IB _).mono ?_); rintro e w1 ⟨rfl, rfl⟩)
      | (go_at_call 29; (with_reducible refine (NT _).mono ?_); rintro e w1 ⟨rfl, rfl⟩))
    go_ret
    exact ⟨rfl, below_box _ _⟩
end Go.Proofs.YtpgodphnjeifhaaDoor
