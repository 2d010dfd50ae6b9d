/- impl.CommandRight answers cmdB. -/
import Derived.Test.YtpgodphnjeifhaaDoorCmS
import Derived.BigRegion
namespace Go.Proofs.YtpgodphnjeifhaaDoor
open Go.RowKit
set_option linter.unusedVariables false
set_option maxRecDepth 1000000
set_option linter.unusedSimpArgs false

theorem eqCm (a b k : Int) (t g x g' x' : ByteArray) (n n' : Int) (w : World) : (Op.equalIn 10000 24 (cmdV a b k t g x n) (cmdV a b k t g' x' n')).run Tryd.prog w = .ok ((g.toList == g'.toList) && ((x.toList == x'.toList) && (n == n'))) w := by
  have u2 := Tryd.underlying2
  have u9 := Tryd.underlying9
  have hS : Tryd.prog.underlying 24 = some (.struct (Tryd.prog.fieldsOf 24)) := by kernel_rfl
  have hp : Tryd.prog.stoodInHeld 24 = false := by kernel_rfl
  rw [show (10000 : Nat) = 9999 + 1 from rfl, run_equalIn_agg w 9999 24 _ _ hS hp]
  simp only [Program.fieldsOf, Tryd.underlying24]
  go_simp
  by_cases h1 : g.toList = g'.toList <;> by_cases h2 : x.toList = x'.toList <;> by_cases h3 : n = n' <;> simp [h1, h2, h3]
theorem drew_below {b : Nat} {w w' : World} (h : Below b w w') : Below b w w'.drew := ⟨h.os, h.tape, h.output, h.size, h.block⟩
theorem nilList : (⟨#[]⟩ : ByteArray).toList = [] := by rw [ByteArray.toList_eq]
theorem emptyB_list (s : ByteArray) : (s.toList == (⟨#[]⟩ : ByteArray).toList) = emptyB s := by
  rw [nilList]
  cases h : emptyB s
  · exact empty_list h
  · rw [empty_eq h, nilList]; rfl
theorem list_same (s : ByteArray) : (s.toList == s.toList) = true := by simp
theorem noGuard : Tryd.prog.eqGuardType Tryd.prog.depth 24 = false := by kernel_rfl
theorem zeroB (n : Int) : (n == 0) = decide (n = 0) := by by_cases h : n = 0 <;> simp [h]

set_option maxHeartbeats 8000000 in
theorem kindRight_any (a b k : Int) (t g x : ByteArray) (n : Int) (ht : t.size ≤ maxLen) (hg : g.size ≤ maxLen) (hx : x.size ≤ maxLen) (w : World) :
    Calls Tryd.prog 27 #[cmdV a b k t g x n] w fun e w' => e = .returned (.bool (kindB k g x n)) ∧ Below w.heap.size w w' := by
  have hng := noGuard
  obtain ⟨r, hr⟩ : ∃ r, kindB k g x n = r := ⟨_, rfl⟩
  rw [hr]
  rcases kindWays k with rfl | rfl | rfl | rfl | rfl | rfl | rfl | ⟨k1, k2, k3, k4, k5, k6, k7⟩
  · have hq := fun W => eqCm a b 1 t g x ⟨#[]⟩ ⟨#[]⟩ n 0 W
    rw [emptyB_list, emptyB_list, zeroB] at hq
    rw [show kindB 1 g x n = (emptyB g && (emptyB x && decide (n = 0))) from rfl] at hr
    rw [hr] at hq
    clear hr
    go_enter Tryd.func27, Tryd.ntmps27
    go_wp2
    go_ret
    exact ⟨rfl, (below_box _ _).alloc (by simp) _⟩
  · have hq := fun W => eqCm a b 2 t g x ⟨#[]⟩ ⟨#[]⟩ n 0 W
    rw [emptyB_list, emptyB_list, zeroB] at hq
    rw [show kindB 2 g x n = (emptyB g && (emptyB x && decide (n = 0))) from rfl] at hr
    rw [hr] at hq
    clear hr
    go_enter Tryd.func27, Tryd.ntmps27
    go_wp2
    go_ret
    exact ⟨rfl, (below_box _ _).alloc (by simp) _⟩
  · have hq := fun W => eqCm a b 3 t g x ⟨#[]⟩ x n 0 W
    rw [emptyB_list, list_same, zeroB, Bool.true_and] at hq
    rw [show kindB 3 g x n = (emptyB g && (inB x.size 1 40 && decide (n = 0))) from rfl] at hr
    cases ex : inB x.size 1 40
    all_goals have TX := fun W => textRight_b ex hx W
    all_goals rw [ex] at hr
    all_goals cases eE : (emptyB g && decide (n = 0))
    all_goals
      rw [eE] at hq
      have hr' : r = ((emptyB g && decide (n = 0)) && inB x.size 1 40) := by rw [← hr, ex]; cases emptyB g <;> cases decide (n = 0) <;> rfl
      rw [eE, ex] at hr'
      simp only [Bool.and_true, Bool.and_false, Bool.true_and, Bool.false_and] at hr'
      subst hr'
      clear hr eE ex
      go_enter Tryd.func27, Tryd.ntmps27
      go_wp2_with (go_at_call 46; (with_reducible refine (TX _).mono ?_); rintro e w1 ⟨rfl, rfl⟩)
      go_ret
      exact ⟨rfl, (below_box _ _).alloc (by simp) _⟩
  · have hq := fun W => eqCm a b 4 t g x g ⟨#[]⟩ n n W
    rw [emptyB_list, list_same, Bool.true_and, show (n == n) = true by simp, Bool.and_true] at hq
    rw [show kindB 4 g x n = (nameB g && (emptyB x && inB n 0 1000000000)) from rfl] at hr
    cases ex : emptyB x
    · rw [ex] at hq
      obtain rfl : r = false := by rw [← hr, ex]; simp
      clear hr ex
      go_enter Tryd.func27, Tryd.ntmps27
      go_wp2_with (fail)
      go_region
      go_wp2
      go_ret
      exact ⟨rfl, drew_below ((below_box _ _).alloc (by simp) _)⟩
    rw [ex] at hq hr
    cases eg : nameB g
    · have NG := fun W => implName_b eg hg W
      obtain rfl : r = false := by rw [← hr, eg]; rfl
      clear hr ex eg
      go_enter Tryd.func27, Tryd.ntmps27
      go_wp2_with (fail)
      go_region
      go_wp2_with (go_at_call 26; (with_reducible refine (NG _).mono ?_); rintro e w1 ⟨rfl, rfl⟩)
      go_ret
      exact ⟨rfl, drew_below ((below_box _ _).alloc (by simp) _)⟩
    have NG := fun W => implName_b eg hg W
    rw [eg] at hr
    cases en : inB n 0 1000000000
    all_goals
      have IN := fun W => inRange_any en W
      rw [en] at hr
      simp only [Bool.true_and] at hr
      subst hr
      clear eg en ex
      go_enter Tryd.func27, Tryd.ntmps27
      go_wp2_with (fail)
      go_region
      go_wp2_with (first
        | (go_at_call 26; (with_reducible refine (NG _).mono ?_); rintro e w1 ⟨rfl, rfl⟩)
        | (go_at_call 25; (with_reducible refine (IN _).mono ?_); rintro e w1 ⟨rfl, rfl⟩))
      go_ret
      exact ⟨rfl, drew_below ((below_box _ _).alloc (by simp) _)⟩
  · have hq := fun W => eqCm a b 5 t g x g ⟨#[]⟩ n n W
    rw [emptyB_list, list_same, Bool.true_and, show (n == n) = true by simp, Bool.and_true] at hq
    rw [show kindB 5 g x n = (nameB g && (emptyB x && inB n 0 1000000000)) from rfl] at hr
    cases ex : emptyB x
    · rw [ex] at hq
      obtain rfl : r = false := by rw [← hr, ex]; simp
      clear hr ex
      go_enter Tryd.func27, Tryd.ntmps27
      go_wp2_with (fail)
      go_region
      go_wp2
      go_ret
      exact ⟨rfl, drew_below ((below_box _ _).alloc (by simp) _)⟩
    rw [ex] at hq hr
    cases eg : nameB g
    · have NG := fun W => implName_b eg hg W
      obtain rfl : r = false := by rw [← hr, eg]; rfl
      clear hr ex eg
      go_enter Tryd.func27, Tryd.ntmps27
      go_wp2_with (fail)
      go_region
      go_wp2_with (go_at_call 26; (with_reducible refine (NG _).mono ?_); rintro e w1 ⟨rfl, rfl⟩)
      go_ret
      exact ⟨rfl, drew_below ((below_box _ _).alloc (by simp) _)⟩
    have NG := fun W => implName_b eg hg W
    rw [eg] at hr
    cases en : inB n 0 1000000000
    all_goals
      have IN := fun W => inRange_any en W
      rw [en] at hr
      simp only [Bool.true_and] at hr
      subst hr
      clear eg en ex
      go_enter Tryd.func27, Tryd.ntmps27
      go_wp2_with (fail)
      go_region
      go_wp2_with (first
        | (go_at_call 26; (with_reducible refine (NG _).mono ?_); rintro e w1 ⟨rfl, rfl⟩)
        | (go_at_call 25; (with_reducible refine (IN _).mono ?_); rintro e w1 ⟨rfl, rfl⟩))
      go_ret
      exact ⟨rfl, drew_below ((below_box _ _).alloc (by simp) _)⟩
  · have hq := fun W => eqCm a b 6 t g x g ⟨#[]⟩ n n W
    rw [emptyB_list, list_same, Bool.true_and, show (n == n) = true by simp, Bool.and_true] at hq
    rw [show kindB 6 g x n = (nameB g && (emptyB x && inB n 0 1000000000)) from rfl] at hr
    cases ex : emptyB x
    · rw [ex] at hq
      obtain rfl : r = false := by rw [← hr, ex]; simp
      clear hr ex
      go_enter Tryd.func27, Tryd.ntmps27
      go_wp2_with (fail)
      go_region
      go_wp2
      go_ret
      exact ⟨rfl, drew_below ((below_box _ _).alloc (by simp) _)⟩
    rw [ex] at hq hr
    cases eg : nameB g
    · have NG := fun W => implName_b eg hg W
      obtain rfl : r = false := by rw [← hr, eg]; rfl
      clear hr ex eg
      go_enter Tryd.func27, Tryd.ntmps27
      go_wp2_with (fail)
      go_region
      go_wp2_with (go_at_call 26; (with_reducible refine (NG _).mono ?_); rintro e w1 ⟨rfl, rfl⟩)
      go_ret
      exact ⟨rfl, drew_below ((below_box _ _).alloc (by simp) _)⟩
    have NG := fun W => implName_b eg hg W
    rw [eg] at hr
    cases en : inB n 0 1000000000
    all_goals
      have IN := fun W => inRange_any en W
      rw [en] at hr
      simp only [Bool.true_and] at hr
      subst hr
      clear eg en ex
      go_enter Tryd.func27, Tryd.ntmps27
      go_wp2_with (fail)
      go_region
      go_wp2_with (first
        | (go_at_call 26; (with_reducible refine (NG _).mono ?_); rintro e w1 ⟨rfl, rfl⟩)
        | (go_at_call 25; (with_reducible refine (IN _).mono ?_); rintro e w1 ⟨rfl, rfl⟩))
      go_ret
      exact ⟨rfl, drew_below ((below_box _ _).alloc (by simp) _)⟩
  · have hq := fun W => eqCm a b 7 t g x ⟨#[]⟩ ⟨#[]⟩ n n W
    rw [emptyB_list, emptyB_list, show (n == n) = true by simp, Bool.and_true] at hq
    rw [show kindB 7 g x n = (emptyB g && (emptyB x && inB n 0 20)) from rfl] at hr
    cases en : inB n 0 20
    all_goals have IN := fun W => inRange_any en W
    all_goals cases eE : (emptyB g && emptyB x)
    all_goals
      rw [eE] at hq
      have hr' : r = ((emptyB g && emptyB x) && inB n 0 20) := by rw [← hr]; cases emptyB g <;> cases emptyB x <;> rfl
      rw [eE, en] at hr'
      simp only [Bool.and_true, Bool.and_false, Bool.true_and, Bool.false_and] at hr'
      subst hr'
      clear hr eE en
      go_enter Tryd.func27, Tryd.ntmps27
      go_wp2_with (go_at_call 25; (with_reducible refine (IN _).mono ?_); rintro e w1 ⟨rfl, rfl⟩)
      go_ret
      exact ⟨rfl, (below_box _ _).alloc (by simp) _⟩
  · obtain rfl : r = false := by
      rw [← hr]
      simp only [beq_eq_false_iff_ne, ne_eq] at k1 k2 k3 k4 k5 k6 k7
      unfold kindB
      rw [if_neg (by omega), if_neg (by omega), if_neg (by omega), if_neg (by omega)]
    clear hr
    go_enter Tryd.func27, Tryd.ntmps27
    go_wp2
    go_ret
    exact ⟨rfl, (below_box _ _).alloc (by simp) _⟩

set_option maxHeartbeats 8000000 in
theorem implCommandRight_any (c : Cmd) (hs : c.small) (w : World) :
    Calls Tryd.prog 9 #[c.v] w fun e w' => e = .returned (.bool (cmdB c)) ∧ Below w.heap.size w w' := by
  obtain ⟨a, b, k, t, g, x, n⟩ := c
  obtain ⟨ht, hg, hx⟩ := hs
  obtain ⟨r, hr⟩ : ∃ r, cmdB ⟨a, b, k, t, g, x, n⟩ = r := ⟨_, rfl⟩
  rw [hr]
  unfold Cmd.v
  unfold cmdB at hr
  simp only at ht hg hx hr ⊢
  cases ha : inB a 1 9
  · obtain rfl : r = false := by rw [← hr, ha]; rfl
    clear hr
    have IA := fun W => inRange_any ha W
    go_enter Tryd.func9, Tryd.ntmps9
    go_wp2_with (go_at_call 25; refine (IA _).mono ?_; rintro e w1 ⟨rfl, rfl⟩)
    go_ret
    exact ⟨rfl, below_box _ _⟩
  have IA := fun W => inRange_any ha W
  cases hb : inB b 1 1000000000
  · obtain rfl : r = false := by rw [← hr, ha, hb]; rfl
    clear hr
    have IB := fun W => inRange_any hb W
    go_enter Tryd.func9, Tryd.ntmps9
    go_wp2_with (first
      | (go_at_call 25; (with_reducible refine (IA _).mono ?_); rintro e w1 ⟨rfl, rfl⟩)
      | (go_at_call 25; (with_reducible refine (IB _).mono ?_); rintro e w1 ⟨rfl, rfl⟩))
    go_ret
    exact ⟨rfl, below_box _ _⟩
  have IB := fun W => inRange_any hb W
  cases hn : nameB t
  · obtain rfl : r = false := by rw [← hr, ha, hb, hn]; rfl
    clear hr
    have NT := fun W => implName_b hn ht W
    go_enter Tryd.func9, Tryd.ntmps9
    go_wp2_with (first
      | (go_at_call 25; (with_reducible refine (IA _).mono ?_); rintro e w1 ⟨rfl, rfl⟩)
      | (go_at_call 25; (with_reducible refine (IB _).mono ?_); rintro e w1 ⟨rfl, rfl⟩)
      | (go_at_call 26; (with_reducible refine (NT _).mono ?_); rintro e w1 ⟨rfl, rfl⟩))
    go_ret
    exact ⟨rfl, below_box _ _⟩
  have NT := fun W => implName_b hn ht W
  have KR := fun W => kindRight_any a b k t g x n ht hg hx W
  rw [ha, hb, hn] at hr
  simp only [Bool.true_and] at hr
  rw [hr] at KR
  clear ha hb hn hr
  go_enter Tryd.func9, Tryd.ntmps9
  go_wp2_with (first
    | (go_at_call 25; (with_reducible refine (IA _).mono ?_); rintro e w1 ⟨rfl, rfl⟩)
    | (go_at_call 25; (with_reducible refine (IB _).mono ?_); rintro e w1 ⟨rfl, rfl⟩)
    | (go_at_call 26; (with_reducible refine (NT _).mono ?_); rintro e w1 ⟨rfl, rfl⟩)
    | (go_at_call 27; (with_reducible refine (KR _).mono ?_); rintro e w1 ⟨rfl, hb1⟩))
  go_ret
  exact ⟨rfl, (below_box _ _).trans (hb1.mono (below_box _ _).size)⟩
end Go.Proofs.YtpgodphnjeifhaaDoor
