/- The contract of impl.TopicRight. The contract of impl.TopicRight. Strings compared, as a walk spells it. The place of a group: plain mathematics. -/
import Derived.Test.YtjmmffhndecikaaQTailW
import Derived.BigQuiet
import Derived.Deep.RegionHeld3
import Derived.Test.YtjmmffhndecikaaRwkW
import Derived.Lib.Bytealg
namespace Go.Proofs.Ytjmmffhndecikaa
open Go.RowKit
set_option linter.unusedVariables false
set_option maxRecDepth 1000000

/-- messagesRight. -/
noncomputable def msgB (H : List ByteArray) : Bool := @decide (H.length ≤ 20 ∧ ∀ i (h : i < H.length), inB H[i].size 1 40 = true) (Classical.propDecidable _)
theorem msgB_true {H : List ByteArray} (h : H.length ≤ 20 ∧ ∀ i (h : i < H.length), inB H[i].size 1 40 = true) : msgB H = true := by unfold msgB; exact @decide_eq_true _ (Classical.propDecidable _) h
theorem msgB_false {H : List ByteArray} (h : ¬ (H.length ≤ 20 ∧ ∀ i (h : i < H.length), inB H[i].size 1 40 = true)) : msgB H = false := by unfold msgB; exact @decide_eq_false _ (Classical.propDecidable _) h
theorem msgB_iff {H : List ByteArray} : msgB H = true ↔ (H.length ≤ 20 ∧ ∀ i (h : i < H.length), inB H[i].size 1 40 = true) := ⟨fun h => by unfold msgB at h; exact @of_decide_eq_true _ (Classical.propDecidable _) h, msgB_true⟩
set_option maxHeartbeats 2000000 in
theorem messagesRight_any (A : Option Addr) (H : List ByteArray) (c : Nat) (w : World) (hA : Strs w w.heap.size A H) (hf : ∀ s ∈ H, s.size ≤ maxLen) :
    Calls Try.prog 64 #[.slice A H.length c] w fun e w' => e = .returned (.bool (msgB H)) ∧ w' = w := by
  have hn := hA.1
  unfold maxLen at hn
  by_cases h3 : H.length ≤ 20
  rotate_left
  · have HR := Lib.hid (msgB_false (H := H) fun h => h3 h.1)
    go_enter Try.func64, Try.ntmps64
    go_wp2
    go_ret
    exact ⟨by rw [HR.out]; rfl, rfl⟩
  go_enter Try.func64, Try.ntmps64
  go_wp2
  go_loopw [4, 10] (fun _ i wr => ∃ k : Nat, k ≤ H.length ∧ i = .int .i64 k ∧ (∀ j (h : j < H.length), j < k → inB H[j].size 1 40 = true) ∧ wr = w) (fun _ i _ => H.length - (intOf i).toNat)
  case atStart => exact ⟨0, by omega, rfl, fun j _ h => by omega, rfl⟩
  case round =>
    obtain ⟨k, hk, rfl, hok, rfl⟩ := hrel
    by_cases hlt : k < H.length
    · obtain ⟨a, rfl, hab, c0⟩ := hA.2 k hlt
      have hlt' : (k : Int) < (H.length : Int) := by omega
      rcases Bool.eq_false_or_eq_true (inB H[k].size 1 40) with hT | hT
      · have TX := textRight_b hT (hf _ (List.getElem_mem hlt))
        go_wp2_with (go_at_call 54; refine (TX _).mono ?_; rintro e w' ⟨rfl, rfl⟩)
        refine ⟨⟨k + 1, by omega, by go_num, fun j hj hjk => ?_, trivial⟩, by simp [intOf]; omega⟩
        by_cases e : j = k
        · subst e; exact hT
        · exact hok j hj (by omega)
      · have TX := textRight_b hT (hf _ (List.getElem_mem hlt))
        have HR := Lib.hid (msgB_false (H := H) fun h => by have := h.2 k hlt; rw [hT] at this; cases this)
        go_wp2_with (go_at_call 54; refine (TX _).mono ?_; rintro e w' ⟨rfl, rfl⟩)
        go_ret
        exact ⟨by rw [HR.out]; rfl, rfl⟩
    · obtain rfl : k = H.length := by omega
      have HR := Lib.hid (msgB_true (H := H) ⟨h3, fun j h => hok j h h⟩)
      go_wp2
      go_ret
      exact ⟨by rw [HR.out]; rfl, rfl⟩

/-- The function that tests the numbers between two. -/
abbrev btwV (p q : Nat) : Value := .func (.func 96) #[] #[.pointer (some ⟨p, 0, none⟩), .pointer (some ⟨q, 0, none⟩)]
theorem between_any {n a b : Int} {r : Bool} (h : inB n a b = r) (p q : Nat) (w : World) (hp : w.cell? ⟨p, 0, none⟩ = some (.int .i64 a)) (hq : w.cell? ⟨q, 0, none⟩ = some (.int .i64 b)) :
    Calls Try.prog 96 #[.int .i64 n, .pointer (some ⟨p, 0, none⟩), .pointer (some ⟨q, 0, none⟩)] w fun e w' => e = .returned (.bool r) ∧ w' = w := by
  have IR := inRange_any h
  clear h
  go_enter Try.func96, Try.ntmps96
  go_wp2_with (go_at_call 63; refine (IR _).mono ?_; rintro e w' ⟨rfl, rfl⟩)
  go_ret
  exact ⟨rfl, rfl⟩
theorem numbersBetween_any (a b : Int) (w : World) :
    Calls Try.prog 66 #[.int .i64 a, .int .i64 b] w fun e w' => e = .returned (btwV w.heap.size (w.heap.size + 1)) ∧ w' = (w.alloc (.cells #[.int .i64 a] 2)).alloc (.cells #[.int .i64 b] 2) := by
  go_enter Try.func66, Try.ntmps66
  go_wp2
  go_ret
  exact ⟨rfl, rfl⟩

/-- groupsRight. -/
noncomputable def grpsB (t : Tpc) : Bool := @decide (t.groups.length ≤ 4 ∧ ∀ i (h : i < t.groups.length), grpIn t i h) (Classical.propDecidable _)
theorem grpsB_true {t : Tpc} (h : t.groups.length ≤ 4 ∧ ∀ i (h : i < t.groups.length), grpIn t i h) : grpsB t = true := by unfold grpsB; exact @decide_eq_true _ (Classical.propDecidable _) h
theorem grpsB_false {t : Tpc} (h : ¬ (t.groups.length ≤ 4 ∧ ∀ i (h : i < t.groups.length), grpIn t i h)) : grpsB t = false := by unfold grpsB; exact @decide_eq_false _ (Classical.propDecidable _) h
theorem grpsB_iff {t : Tpc} : grpsB t = true ↔ (t.groups.length ≤ 4 ∧ ∀ i (h : i < t.groups.length), grpIn t i h) := ⟨fun h => by unfold grpsB at h; exact @of_decide_eq_true _ (Classical.propDecidable _) h, grpsB_true⟩
set_option maxHeartbeats 8000000 in
theorem groupsRight_any (nm : ByteArray) (bs : Int) (H : List ByteArray) (G : List Grp) (B : Option Addr) (d p q : Nat) (w : World) (f3 : ∀ g ∈ G, g.fits) (hB : Grs w w.heap.size B G) (hp : w.cell? ⟨p, 0, none⟩ = some (.int .i64 bs)) (hq : w.cell? ⟨q, 0, none⟩ = some (.int .i64 (bs + H.length))) :
    Calls Try.prog 65 #[.slice B G.length d, btwV p q] w fun e w' => e = .returned (.bool (grpsB ⟨nm, bs, H, G⟩)) ∧ Below w.heap.size w w' := by
  have hm := hB.1
  unfold maxLen at hm
  have F0 : Hid (∀ h : ¬ (G.length ≤ 4 ∧ ∀ i (h : i < G.length), grpIn ⟨nm, bs, H, G⟩ i h), grpsB ⟨nm, bs, H, G⟩ = false) := Lib.hid (grpsB_false (t := ⟨nm, bs, H, G⟩))
  have F1 : Hid (∀ h : (G.length ≤ 4 ∧ ∀ i (h : i < G.length), grpIn ⟨nm, bs, H, G⟩ i h), grpsB ⟨nm, bs, H, G⟩ = true) := Lib.hid (grpsB_true (t := ⟨nm, bs, H, G⟩))
  generalize grpsB ⟨nm, bs, H, G⟩ = R at F0 F1 ⊢
  by_cases h4 : G.length ≤ 4
  rotate_left
  · have HR := Lib.hid (F0.out fun h => h4 h.1)
    go_enter Try.func65, Try.ntmps65
    go_wp2
    go_ret
    exact ⟨by rw [HR.out]; rfl, Below.refl _ _⟩
  go_enter Try.func65, Try.ntmps65
  go_wp2
  go_loopw [5, 6, 12] (fun _ _ i wr => ∃ k : Nat, k ≤ G.length ∧ i = .int .i64 k ∧ (∀ j (h : j < G.length), j < k → grpIn ⟨nm, bs, H, G⟩ j h) ∧ Below w.heap.size w wr) (fun _ _ i _ => G.length - (intOf i).toNat)
  case atStart => exact ⟨0, by omega, rfl, fun j _ h => by omega, Below.refl _ _⟩
  case round =>
    obtain ⟨k, hk, rfl, hok, hw3⟩ := hrel
    by_cases hlt : k < G.length
    rotate_left
    · obtain rfl : k = G.length := by omega
      have HR := Lib.hid (F1.out ⟨h4, fun i h => hok i h h⟩)
      go_wp2
      go_ret
      exact ⟨by rw [HR.out]; rfl, hw3⟩
    obtain ⟨a, rfl, hab, c0, c1⟩ := (hB.below hw3 (Nat.le_refl _)).at k hlt
    have hlt' : (k : Int) < (G.length : Int) := by omega
    have hG := Blk.fresh wr 47 [.string G[k].name, .int .i64 G[k].acked]
    have hw4 := hw3.alloc hw3.size (.cells #[.string G[k].name, .int .i64 G[k].acked] 47)
    have hpr : ∀ q, (h : q + 1 = k) → (wr.alloc (.cells #[.string G[k].name, .int .i64 G[k].acked] 47)).cell? (a.add (q * 2)) = some (.string (G[q]'(by omega)).name) := by
      intro q h
      obtain ⟨a', e, _, h2, _⟩ := (hB.below hw4 (Nat.le_refl _)).at q (by omega)
      cases e
      exact h2
    simp only [List.toArray] at hG
    go_wp2
    generalize wr.alloc (.cells #[.string G[k].name, .int .i64 G[k].acked] 47) = w3 at hG hw4 hpr ⊢
    clear c0 c1
    have n1 : G[k].name.size ≤ maxLen := (f3 _ (List.getElem_mem hlt)).1
    obtain ⟨I, f, hI', g0, gk, gc, ge⟩ := class_grown w3
    have x0 := fun s => kept_cell (gk s) (hG.cell (i := 0) rfl)
    have x1 := fun s => kept_cell (gk s) (hG.cell (i := 1) rfl)
    have vp := fun s => kept_cell (gk s) (kept_cell hw4 hp)
    have vq := fun s => kept_cell (gk s) (kept_cell hw4 hq)
    have HW : Hid (∀ W, Below w3.heap.size w3 W → Below w.heap.size w W) := Lib.hid fun W h => hw4.trans (h.mono hw4.size)
    have HOK := Lib.hid hok
    have HB := Lib.hid (fun h : ¬ grpIn ⟨nm, bs, H, G⟩ k hlt => F0.out fun q => h (q.2 k hlt))
    clear hok hG hw4
    rcases Bool.eq_false_or_eq_true (nameB G[k].name) with hN2 | hN2
    rotate_left
    · have NG := Lib.hid (fun W => bl (implName_b hN2 n1 W))
      have HR := Lib.hid (HB.out fun h => by have := h.1; rw [hN2] at this; cases this)
      refine wp_region_kept f (by kernel_rfl) (by kernel_rfl) g0 ?_
      repeat (first
        | go_big_quiet_skip
        | (go_big_quiet_want; go_big_quiet_op; first
          | go_big_quiet_on
          | (apply Exists.intro; refine ⟨fun s => ?_, ?_⟩; (go_at_call 62; (with_reducible refine (NG.out _).mono ?_); rintro e w4 ⟨rfl, hb4⟩; exact ⟨rfl, gc _ _ hb4⟩); go_big_quiet_on)
          | (apply Exists.intro; refine ⟨fun s => ?_, ?_⟩; (go_at_call 96; (with_reducible refine (IG.out _).mono ?_); rintro e w4 ⟨rfl, hb4⟩; exact ⟨rfl, gc _ _ hb4⟩); go_big_quiet_on)))
      refine wpQuiet_nil ?_
      intro w5 h5
      have hb5 := ge _ h5
      go_wp2
      go_ret
      exact ⟨by rw [HR.out]; rfl, HW.out _ hb5⟩
    have NG := Lib.hid (fun W => bl (implName_b hN2 n1 W))
    rcases Bool.eq_false_or_eq_true (inB G[k].acked bs (bs + H.length)) with hI2 | hI2
    rotate_left
    · have IG := Lib.hid (fun s => bl (between_any hI2 p q (f s) (vp s) (vq s)))
      have HR := Lib.hid (HB.out fun h => by have := h.2.1; rw [hI2] at this; cases this)
      refine wp_region_kept f (by kernel_rfl) (by kernel_rfl) g0 ?_
      repeat (first
        | go_big_quiet_skip
        | (go_big_quiet_want; go_big_quiet_op; first
          | go_big_quiet_on
          | (apply Exists.intro; refine ⟨fun s => ?_, ?_⟩; (go_at_call 62; (with_reducible refine (NG.out _).mono ?_); rintro e w4 ⟨rfl, hb4⟩; exact ⟨rfl, gc _ _ hb4⟩); go_big_quiet_on)
          | (apply Exists.intro; refine ⟨fun s => ?_, ?_⟩; (go_at_call 96; (with_reducible refine (IG.out _).mono ?_); rintro e w4 ⟨rfl, hb4⟩; exact ⟨rfl, gc _ _ hb4⟩); go_big_quiet_on)))
      refine wpQuiet_nil ?_
      intro w5 h5
      have hb5 := ge _ h5
      go_wp2
      go_ret
      exact ⟨by rw [HR.out]; rfl, HW.out _ hb5⟩
    have IG := Lib.hid (fun s => bl (between_any hI2 p q (f s) (vp s) (vq s)))
    by_cases hk0 : 0 < k
    · obtain ⟨q', hq'⟩ : ∃ q, q + 1 = k := ⟨k - 1, by omega⟩
      have p0 := fun s => kept_cell (gk s) (hpr q' hq')
      have hd : decide ((0 : Int) < (k : Int)) = true := by simp; omega
      have e1 : IntKind.i64.wrap ((k : Int) - 1) = (q' : Int) := by rw [IntWalk.i64_in _ (by omega)]; omega
      have e2 : (q' : Int) < (G.length : Int) := by omega
      have hql : q' < G.length := by omega
      clear hpr
      rcases Bool.eq_false_or_eq_true (Op.bytesLess G[q'].name.toList G[k].name.toList) with hl | hl
      rotate_left
      · have HR := Lib.hid (HB.out (not_grp_less hq' hlt hql hl))
        refine wp_region_kept f (by kernel_rfl) (by kernel_rfl) g0 ?_
        repeat (first
          | go_big_quiet_skip
          | (go_big_quiet_want; go_big_quiet_op; first
            | go_big_quiet_on
            | (apply Exists.intro; refine ⟨fun s => ?_, ?_⟩; (go_at_call 62; (with_reducible refine (NG.out _).mono ?_); rintro e w4 ⟨rfl, hb4⟩; exact ⟨rfl, gc _ _ hb4⟩); go_big_quiet_on)
            | (apply Exists.intro; refine ⟨fun s => ?_, ?_⟩; (go_at_call 96; (with_reducible refine (IG.out _).mono ?_); rintro e w4 ⟨rfl, hb4⟩; exact ⟨rfl, gc _ _ hb4⟩); go_big_quiet_on)))
        refine wpQuiet_nil ?_
        intro w5 h5
        have hb5 := ge _ h5
        go_wp2
        go_ret
        exact ⟨by rw [HR.out]; rfl, HW.out _ hb5⟩
      have HL := Lib.hid (grp_less (t := ⟨nm, bs, H, G⟩) hq' hlt hql hl)
      refine wp_region_kept f (by kernel_rfl) (by kernel_rfl) g0 ?_
      repeat (first
        | go_big_quiet_skip
        | (go_big_quiet_want; go_big_quiet_op; first
          | go_big_quiet_on
          | (apply Exists.intro; refine ⟨fun s => ?_, ?_⟩; (go_at_call 62; (with_reducible refine (NG.out _).mono ?_); rintro e w4 ⟨rfl, hb4⟩; exact ⟨rfl, gc _ _ hb4⟩); go_big_quiet_on)
          | (apply Exists.intro; refine ⟨fun s => ?_, ?_⟩; (go_at_call 96; (with_reducible refine (IG.out _).mono ?_); rintro e w4 ⟨rfl, hb4⟩; exact ⟨rfl, gc _ _ hb4⟩); go_big_quiet_on)))
      refine wpQuiet_nil ?_
      intro w5 h5
      have hb5 := ge _ h5
      go_wp2
      refine ⟨⟨k + 1, by omega, by go_num, fun j hj hjk => ?_, HW.out _ hb5⟩, by simp [intOf]; omega⟩
      by_cases e : j = k
      · subst e
        exact ⟨hN2, hI2, HL.out⟩
      · exact HOK.out j hj (by omega)
    · have hd : decide ((0 : Int) < (k : Int)) = false := by simp; omega
      clear hpr
      refine wp_region_kept f (by kernel_rfl) (by kernel_rfl) g0 ?_
      repeat (first
        | go_big_quiet_skip
        | (go_big_quiet_want; go_big_quiet_op; first
          | go_big_quiet_on
          | (apply Exists.intro; refine ⟨fun s => ?_, ?_⟩; (go_at_call 62; (with_reducible refine (NG.out _).mono ?_); rintro e w4 ⟨rfl, hb4⟩; exact ⟨rfl, gc _ _ hb4⟩); go_big_quiet_on)
          | (apply Exists.intro; refine ⟨fun s => ?_, ?_⟩; (go_at_call 96; (with_reducible refine (IG.out _).mono ?_); rintro e w4 ⟨rfl, hb4⟩; exact ⟨rfl, gc _ _ hb4⟩); go_big_quiet_on)))
      refine wpQuiet_nil ?_
      intro w5 h5
      have hb5 := ge _ h5
      go_wp2
      refine ⟨⟨k + 1, by omega, by go_num, fun j hj hjk => ?_, HW.out _ hb5⟩, by simp [intOf]; omega⟩
      by_cases e : j = k
      · subst e
        exact ⟨hN2, hI2, fun h => absurd h hk0⟩
      · exact HOK.out j hj (by omega)
end Go.Proofs.Ytjmmffhndecikaa

namespace Go.Proofs.Ytjmmffhndecikaa
open Go.RowKit
set_option linter.unusedVariables false
set_option maxRecDepth 1000000

theorem numbersBetween_b (a b : Int) (w : World) : Calls Try.prog 66 #[.int .i64 a, .int .i64 b] w fun e w' => e = .returned (btwV w.heap.size (w.heap.size + 1)) ∧ w'.cell? ⟨w.heap.size, 0, none⟩ = some (.int .i64 a) ∧ w'.cell? ⟨w.heap.size + 1, 0, none⟩ = some (.int .i64 b) ∧ Below w.heap.size w w' := by
  refine (numbersBetween_any a b w).mono ?_
  rintro e w7 ⟨rfl, rfl⟩
  refine ⟨rfl, ((Blk.fresh w 2 [.int .i64 a]).alloc _).cell (i := 0) rfl, ?_, ((Below.refl _ _).alloc (Nat.le_refl _) _).alloc (by simp) _⟩
  have := (Blk.fresh (w.alloc (.cells #[.int .i64 a] 2)) 2 [.int .i64 b]).cell (i := 0) rfl
  simp only [World.size_alloc] at this
  exact this
set_option maxHeartbeats 8000000 in
theorem implTopicRight_any (t : Tpc) (A : Option Addr) (c : Nat) (B : Option Addr) (d : Nat) (w : World) (hf : t.fits) (hA : Strs w w.heap.size A t.held) (hB : Grs w w.heap.size B t.groups) :
    Calls Try.prog 22 #[topV t.name t.base (.slice A t.held.length c) (.slice B t.groups.length d)] w fun e w' => e = .returned (.bool (topB t)) ∧ Below w.heap.size w w' := by
  obtain ⟨f0, f1, f2, f3⟩ := hf
  have F0 : Hid (∀ h : ¬ topOK t, topB t = false) := Lib.hid topB_false
  have F1 : Hid (∀ h : topOK t, topB t = true) := Lib.hid topB_true
  obtain ⟨nm, bs, H, G⟩ := t
  simp only at f0 f1 f2 f3 hA hB F0 F1 ⊢
  generalize topB ⟨nm, bs, H, G⟩ = R at F0 F1 ⊢
  have hK := Blk.fresh w 26 [.string nm, .int .i64 bs, .slice A H.length c, .slice B G.length d]
  have hb0 := below_box w (.cells #[.string nm, .int .i64 bs, .slice A H.length c, .slice B G.length d] 26)
  simp only [List.toArray] at hK
  go_enter Try.func22, Try.ntmps22
  go_wp2_with (fail)
  generalize w.alloc (.cells #[.string nm, .int .i64 bs, .slice A H.length c, .slice B G.length d] 26) = w3 at hK hb0 ⊢
  have hA3 := hA.on hb0
  have hB3 := hB.on hb0
  obtain ⟨I, f, hI', g0, gk, gc, ge⟩ := class_grown w3
  have y0 := fun s => kept_cell (gk s) (hK.cell (i := 0) rfl)
  have y1 := fun s => kept_cell (gk s) (hK.cell (i := 1) rfl)
  have y2 := fun s => kept_cell (gk s) (hK.cell (i := 2) rfl)
  have y3 := fun s => kept_cell (gk s) (hK.cell (i := 3) rfl)
  rcases Bool.eq_false_or_eq_true (nameB nm) with hN | hN
  rotate_left
  · have NG := Lib.hid (fun W => bl (implName_b hN f0 W))
    have HR := Lib.hid (F0.out fun h => by have := h.1; rw [hN] at this; cases this)
    refine wp_region_kept f (by kernel_rfl) (by kernel_rfl) g0 ?_
    repeat (first
      | go_big_quiet_skip
      | (go_big_quiet_want; go_big_quiet_op; first
        | go_big_quiet_on
        | (apply Exists.intro; refine ⟨fun s => ?_, ?_⟩; (go_at_call 62; (with_reducible refine (NG.out _).mono ?_); rintro e w4 ⟨rfl, hb4⟩; exact ⟨rfl, gc _ _ hb4⟩); go_big_quiet_on)
        | (apply Exists.intro; refine ⟨fun s => ?_, ?_⟩; (go_at_call 63; (with_reducible refine (IG.out _).mono ?_); rintro e w4 ⟨rfl, hb4⟩; exact ⟨rfl, gc _ _ hb4⟩); go_big_quiet_on)
        | (apply Exists.intro; refine ⟨fun s => ?_, ?_⟩; (go_at_call 64; (with_reducible refine (MG.out _).mono ?_); rintro e w4 ⟨rfl, hb4⟩; exact ⟨rfl, gc _ _ hb4⟩); go_big_quiet_on)
        | (apply Exists.intro; refine ⟨fun s => ?_, ?_⟩; (go_at_call 61; (with_reducible refine (EN.out _).mono ?_); rintro e w4 ⟨rfl, hb4⟩; exact ⟨rfl, gc _ _ hb4⟩); go_big_quiet_on)))
    refine wpQuiet_nil ?_
    intro w5 h5
    have hb5 := ge _ h5
    go_wp2
    go_ret
    exact ⟨by rw [HR.out]; rfl, hb0.trans (hb5.mono hb0.size)⟩
  have NG := Lib.hid (fun W => bl (implName_b hN f0 W))
  rcases Bool.eq_false_or_eq_true (inB bs 0 1000000000) with hI | hI
  rotate_left
  · have IG := Lib.hid (fun W => bl (inRange_any hI W))
    have HR := Lib.hid (F0.out fun h => by have := h.2.1; rw [hI] at this; cases this)
    refine wp_region_kept f (by kernel_rfl) (by kernel_rfl) g0 ?_
    repeat (first
      | go_big_quiet_skip
      | (go_big_quiet_want; go_big_quiet_op; first
        | go_big_quiet_on
        | (apply Exists.intro; refine ⟨fun s => ?_, ?_⟩; (go_at_call 62; (with_reducible refine (NG.out _).mono ?_); rintro e w4 ⟨rfl, hb4⟩; exact ⟨rfl, gc _ _ hb4⟩); go_big_quiet_on)
        | (apply Exists.intro; refine ⟨fun s => ?_, ?_⟩; (go_at_call 63; (with_reducible refine (IG.out _).mono ?_); rintro e w4 ⟨rfl, hb4⟩; exact ⟨rfl, gc _ _ hb4⟩); go_big_quiet_on)
        | (apply Exists.intro; refine ⟨fun s => ?_, ?_⟩; (go_at_call 64; (with_reducible refine (MG.out _).mono ?_); rintro e w4 ⟨rfl, hb4⟩; exact ⟨rfl, gc _ _ hb4⟩); go_big_quiet_on)
        | (apply Exists.intro; refine ⟨fun s => ?_, ?_⟩; (go_at_call 61; (with_reducible refine (EN.out _).mono ?_); rintro e w4 ⟨rfl, hb4⟩; exact ⟨rfl, gc _ _ hb4⟩); go_big_quiet_on)))
    refine wpQuiet_nil ?_
    intro w5 h5
    have hb5 := ge _ h5
    go_wp2
    go_ret
    exact ⟨by rw [HR.out]; rfl, hb0.trans (hb5.mono hb0.size)⟩
  have IG := Lib.hid (fun W => bl (inRange_any hI W))
  have hbs := inB_true hI
  have MM := fun s => messagesRight_any A H c (f s) (hA3.on (gk s)) f2
  rcases Bool.eq_false_or_eq_true (msgB H) with hM | hM
  rotate_left
  · rw [hM] at MM
    have MG := Lib.hid (fun s => bl (MM s))
    have HR := Lib.hid (F0.out fun h => by have := msgB_true ⟨h.2.2.1, h.2.2.2.1⟩; rw [hM] at this; cases this)
    refine wp_region_kept f (by kernel_rfl) (by kernel_rfl) g0 ?_
    repeat (first
      | go_big_quiet_skip
      | (go_big_quiet_want; go_big_quiet_op; first
        | go_big_quiet_on
        | (apply Exists.intro; refine ⟨fun s => ?_, ?_⟩; (go_at_call 62; (with_reducible refine (NG.out _).mono ?_); rintro e w4 ⟨rfl, hb4⟩; exact ⟨rfl, gc _ _ hb4⟩); go_big_quiet_on)
        | (apply Exists.intro; refine ⟨fun s => ?_, ?_⟩; (go_at_call 63; (with_reducible refine (IG.out _).mono ?_); rintro e w4 ⟨rfl, hb4⟩; exact ⟨rfl, gc _ _ hb4⟩); go_big_quiet_on)
        | (apply Exists.intro; refine ⟨fun s => ?_, ?_⟩; (go_at_call 64; (with_reducible refine (MG.out _).mono ?_); rintro e w4 ⟨rfl, hb4⟩; exact ⟨rfl, gc _ _ hb4⟩); go_big_quiet_on)
        | (apply Exists.intro; refine ⟨fun s => ?_, ?_⟩; (go_at_call 61; (with_reducible refine (EN.out _).mono ?_); rintro e w4 ⟨rfl, hb4⟩; exact ⟨rfl, gc _ _ hb4⟩); go_big_quiet_on)))
    refine wpQuiet_nil ?_
    intro w5 h5
    have hb5 := ge _ h5
    go_wp2
    go_ret
    exact ⟨by rw [HR.out]; rfl, hb0.trans (hb5.mono hb0.size)⟩
  rw [hM] at MM
  have MG := Lib.hid (fun s => bl (MM s))
  have hM2 := msgB_iff.1 hM
  have EN := Lib.hid (endOf_any nm bs A H.length c (.slice B G.length d) (by omega) hbs.1 hbs.2 rfl)
  by_cases h5 : bs + H.length ≤ 1000000000
  rotate_left
  · have HR := Lib.hid (F0.out fun h => h5 h.2.2.2.2.2.1)
    refine wp_region_kept f (by kernel_rfl) (by kernel_rfl) g0 ?_
    repeat (first
      | go_big_quiet_skip
      | (go_big_quiet_want; go_big_quiet_op; first
        | go_big_quiet_on
        | (apply Exists.intro; refine ⟨fun s => ?_, ?_⟩; (go_at_call 62; (with_reducible refine (NG.out _).mono ?_); rintro e w4 ⟨rfl, hb4⟩; exact ⟨rfl, gc _ _ hb4⟩); go_big_quiet_on)
        | (apply Exists.intro; refine ⟨fun s => ?_, ?_⟩; (go_at_call 63; (with_reducible refine (IG.out _).mono ?_); rintro e w4 ⟨rfl, hb4⟩; exact ⟨rfl, gc _ _ hb4⟩); go_big_quiet_on)
        | (apply Exists.intro; refine ⟨fun s => ?_, ?_⟩; (go_at_call 64; (with_reducible refine (MG.out _).mono ?_); rintro e w4 ⟨rfl, hb4⟩; exact ⟨rfl, gc _ _ hb4⟩); go_big_quiet_on)
        | (apply Exists.intro; refine ⟨fun s => ?_, ?_⟩; (go_at_call 61; (with_reducible refine (EN.out _).mono ?_); rintro e w4 ⟨rfl, hb4⟩; exact ⟨rfl, gc _ _ hb4⟩); go_big_quiet_on)))
    refine wpQuiet_nil ?_
    intro w5 h5
    have hb5 := ge _ h5
    go_wp2
    go_ret
    exact ⟨by rw [HR.out]; rfl, hb0.trans (hb5.mono hb0.size)⟩
  clear g0 gk gc ge y0 y1 y2 y3 MG MM
  have c0 : w3.drew.cell? ⟨w.heap.size, 0, none⟩ = some (.string nm) := hK.cell (i := 0) rfl
  have c1 : w3.drew.cell? ⟨w.heap.size, 1, none⟩ = some (.int .i64 bs) := hK.cell (i := 1) rfl
  have c2 : w3.drew.cell? ⟨w.heap.size, 2, none⟩ = some (.slice A H.length c) := hK.cell (i := 2) rfl
  have c3 : w3.drew.cell? ⟨w.heap.size, 3, none⟩ = some (.slice B G.length d) := hK.cell (i := 3) rfl
  have hd5 : decide (bs + (H.length : Int) ≤ 1000000000) = true := by simp; exact h5
  have NQ := Lib.hid (implName_b hN f0)
  have IQ := Lib.hid (inRange_any hI)
  have MQ := Lib.hid (fun W (h : Below w3.drew.heap.size w3.drew W) => by have := messagesRight_any A H c W (hA3.on (below_drew (Below.refl _ w3) |>.trans h)) f2; rw [hM] at this; exact this)
  have GQ := Lib.hid (fun W p q (h : Below w3.drew.heap.size w3.drew W) => groupsRight_any nm bs H G B d p q W f3 (hB3.on (below_drew (Below.refl _ w3) |>.trans h)))
  go_region_held3 (fun W => W.cell? ⟨w.heap.size, 0, none⟩ = some (.string nm) ∧ W.cell? ⟨w.heap.size, 1, none⟩ = some (.int .i64 bs) ∧ W.cell? ⟨w.heap.size, 2, none⟩ = some (.slice A H.length c) ∧ W.cell? ⟨w.heap.size, 3, none⟩ = some (.slice B G.length d))
    (first
      | with_reducible exact ⟨c0, c1, c2, c3⟩
      | with_reducible exact ⟨kept_cell hb5 c0, kept_cell hb5 c1, kept_cell hb5 c2, kept_cell hb5 c3⟩
      | with_reducible exact ⟨kept_cell hb6 c0, kept_cell hb6 c1, kept_cell hb6 c2, kept_cell hb6 c3⟩
      | with_reducible exact ⟨kept_cell hb7 c0, kept_cell hb7 c1, kept_cell hb7 c2, kept_cell hb7 c3⟩
      | with_reducible exact ⟨kept_cell hb8 c0, kept_cell hb8 c1, kept_cell hb8 c2, kept_cell hb8 c3⟩)
    (first
      | (go_at_call 62; (with_reducible refine (NQ.out _).mono ?_); rintro e w' ⟨rfl, rfl⟩)
      | (go_at_call 63; (with_reducible refine (IQ.out _).mono ?_); rintro e w' ⟨rfl, rfl⟩)
      | (go_at_call 64; (with_reducible refine (MQ.out _ (Below.refl _ _)).mono ?_); rintro e w' ⟨rfl, rfl⟩)
      | (go_at_call 61; (with_reducible refine (EN.out w3.drew).mono ?_); rintro e w5 ⟨rfl, hb5⟩)
      | (go_at_call 61; (with_reducible refine (EN.out w5).mono ?_); rintro e w6 ⟨rfl, hb6'⟩; have hb6 := hb5.trans (hb6'.mono hb5.size))
      | (go_at_call 66; (with_reducible refine (numbersBetween_b bs (bs + H.length) w6).mono ?_); rintro e w7 ⟨rfl, p7, q7, hb7'⟩; have hb7 := hb6.trans (hb7'.mono hb6.size))
      | (go_at_call 65; (with_reducible refine (GQ.out w7 _ _ hb7 p7 q7).mono ?_); rintro e w8 ⟨rfl, hb8'⟩; have hb8 := hb7.trans (hb8'.mono hb7.size)))
  have HR : Hid (R = grpsB ⟨nm, bs, H, G⟩) := Lib.hid (by
    rcases Bool.eq_false_or_eq_true (grpsB ⟨nm, bs, H, G⟩) with hg | hg
    · have := grpsB_iff.1 hg
      rw [hg]; exact F1.out ⟨hN, hI, hM2.1, hM2.2, this.1, h5, this.2⟩
    · rw [hg]; exact F0.out fun h => by have := grpsB_true ⟨h.2.2.2.2.1, h.2.2.2.2.2.2⟩; rw [hg] at this; cases this)
  have hb9 : Below w3.heap.size w3 w8 := (below_drew (Below.refl _ w3)).trans hb8
  go_wp2
  go_ret
  exact ⟨by rw [HR.out]; rfl, hb0.trans (hb9.mono hb0.size)⟩
end Go.Proofs.Ytjmmffhndecikaa

namespace Go.Proofs.Ytjmmffhndecikaa
open Go.RowKit
set_option linter.unusedVariables false

theorem str_beq_t {a b : ByteArray} (h : a = b) : (a.toList == b.toList) = true := by rw [h]; simp
theorem str_beq_f {a b : ByteArray} (h : ¬ a = b) : (a.toList == b.toList) = false := by
  rw [beq_eq_false_iff_ne]; intro e; rw [Lib.toList_data, Lib.toList_data] at e; exact h (ByteArray.ext (Array.toList_inj.1 e))
theorem str_bne_f {a b : ByteArray} (h : a = b) : (a.toList != b.toList) = false := by rw [bne, str_beq_t h]; rfl
theorem str_bne_t {a b : ByteArray} (h : ¬ a = b) : (a.toList != b.toList) = true := by rw [bne, str_beq_f h]; rfl
end Go.Proofs.Ytjmmffhndecikaa

namespace Go.Proofs.Ytjmmffhndecikaa
open Go.RowKit
set_option linter.unusedVariables false

theorem gless_iff : ∀ x y : List UInt8, Op.bytesLess x y = true ↔ x < y
  | [], [] => by simp [Op.bytesLess]
  | [], _ :: _ => by simp [Op.bytesLess]
  | _ :: _, [] => by simp [Op.bytesLess]
  | a :: x, b :: y => by
    rw [Op.bytesLess, List.cons_lt_cons_iff]
    have := gless_iff x y
    simp only [Bool.or_eq_true, decide_eq_true_eq, Bool.and_eq_true, beq_iff_eq, this]
theorem lessG_iff (a b : ByteArray) : lessB a b = true ↔ a.data.toList < b.data.toList := by
  unfold lessB; rw [gless_iff, Lib.toList_data, Lib.toList_data]
theorem lessG_trans {a b c : ByteArray} (h1 : lessB a b = true) (h2 : lessB b c = true) : lessB a c = true := by
  rw [lessG_iff] at *; exact List.lt_trans h1 h2
theorem lessG_irrefl (a : ByteArray) : lessB a a = false := by
  cases h : lessB a a
  · rfl
  · rw [lessG_iff] at h; exact absurd h (List.lt_irrefl _)
theorem u8_tri {a b : UInt8} (h1 : ¬ a < b) (h2 : ¬ b < a) : a = b := by
  rw [UInt8.lt_iff_toNat_lt] at h1 h2
  exact UInt8.toNat_inj.1 (by omega)
theorem comp_neg : ∀ x y : List UInt8, Lib.compareBytes x y < 0 ↔ x < y
  | [], [] => by simp [Lib.compareBytes]
  | [], _ :: _ => by simp [Lib.compareBytes]
  | _ :: _, [] => by simp [Lib.compareBytes]
  | a :: x, b :: y => by
    unfold Lib.compareBytes
    rw [List.cons_lt_cons_iff]
    have ih := comp_neg x y
    by_cases h : a < b
    · simp [h]
    · by_cases h2 : b < a
      · have hne : a ≠ b := by rintro rfl; exact h h2
        simp [h, h2, hne]
      · have e := u8_tri h h2
        subst e
        simp [h, ih]
theorem comp_zero : ∀ x y : List UInt8, Lib.compareBytes x y = 0 ↔ x = y
  | [], [] => by simp [Lib.compareBytes]
  | [], _ :: _ => by simp [Lib.compareBytes]
  | _ :: _, [] => by simp [Lib.compareBytes]
  | a :: x, b :: y => by
    unfold Lib.compareBytes
    have ih := comp_zero x y
    by_cases h : a < b
    · have hne : a ≠ b := by rintro rfl; exact absurd h (UInt8.lt_irrefl _)
      simp [h, hne]
    · by_cases h2 : b < a
      · have hne : a ≠ b := by rintro rfl; exact h h2
        simp [h, h2, hne]
      · have e := u8_tri h h2
        subst e
        simp [h, ih]
/-- How the program compares two names. -/
def cmpG (a b : ByteArray) : Int := Lib.compareBytes a.data.toList b.data.toList
theorem cmpG_neg (a b : ByteArray) : cmpG a b < 0 ↔ lessB a b = true := by unfold cmpG; rw [comp_neg, lessG_iff]
theorem cmpG_zero (a b : ByteArray) : cmpG a b = 0 ↔ a = b := by
  unfold cmpG; rw [comp_zero]
  exact ⟨fun h => ByteArray.ext (Array.toList_inj.1 h), fun h => by rw [h]⟩
theorem comp_rng : ∀ x y : List UInt8, -1 ≤ Lib.compareBytes x y ∧ Lib.compareBytes x y ≤ 1
  | [], [] => by simp [Lib.compareBytes]
  | [], _ :: _ => by simp [Lib.compareBytes]
  | _ :: _, [] => by simp [Lib.compareBytes]
  | a :: x, b :: y => by
    unfold Lib.compareBytes
    have ih := comp_rng x y
    split
    · simp
    · split
      · simp
      · exact ih
theorem cmpG_rng (a b : ByteArray) : -1 ≤ cmpG a b ∧ cmpG a b ≤ 1 := comp_rng _ _
/-- Groups that rise by name. -/
def RisingG (G : List Grp) : Prop := ∀ i j (hi : i < j) (hj : j < G.length), lessB (G[i]'(by omega)).name G[j].name = true
theorem rising_of {t : Tpc} (h : topOK t) : RisingG t.groups := by
  have step : ∀ i (hi : i + 1 < t.groups.length), lessB (t.groups[i]'(by omega)).name t.groups[i + 1].name = true := fun i hi => (h.2.2.2.2.2.2 (i + 1) hi).2.2 (by omega)
  intro i j hij hj
  induction j with
  | zero => omega
  | succ j ih =>
    by_cases e : i = j
    · subst e; exact step i hj
    · exact lessG_trans (ih (by omega) (by omega)) (step j hj)
/-- Where a group is, or would have to be. -/
def posG : List Grp → ByteArray → Nat
  | [], _ => 0
  | g :: G, s => if lessB g.name s then posG G s + 1 else 0
theorem posG_le : ∀ (G : List Grp) (s : ByteArray), posG G s ≤ G.length
  | [], _ => Nat.le_refl _
  | g :: G, s => by unfold posG; have := posG_le G s; split <;> simp <;> omega
theorem posG_lt : ∀ (G : List Grp) (s : ByteArray) (i : Nat) (h : i < G.length), i < posG G s → lessB G[i].name s = true
  | [], _, i, h, _ => by simp at h
  | g :: G, s, i, h, hi => by
    unfold posG at hi
    split at hi
    · cases i with
      | zero => assumption
      | succ i => exact posG_lt G s i (by simpa using h) (by omega)
    · omega
theorem posG_at : ∀ (G : List Grp) (s : ByteArray) (h : posG G s < G.length), lessB (G[posG G s]).name s = false
  | [], _, h => by simp at h
  | g :: G, s, h => by
    by_cases hl : lessB g.name s = true
    · have e : posG (g :: G) s = posG G s + 1 := by simp [posG, hl]
      simp only [e, List.getElem_cons_succ]
      exact posG_at G s (by rw [e] at h; simpa using h)
    · have e : posG (g :: G) s = 0 := by simp [posG, hl]
      simp only [e, List.getElem_cons_zero]
      simpa using hl
/-- The place is found by halves. -/
theorem posG_iff {G : List Grp} {s : ByteArray} (hr : RisingG G) {i : Nat} (h : i < G.length) : lessB G[i].name s = true ↔ i < posG G s := by
  refine ⟨fun hl => ?_, posG_lt G s i h⟩
  rcases Nat.lt_or_ge i (posG G s) with h1 | h1
  · exact h1
  · have h2 := posG_at G s (by omega)
    rcases Nat.eq_or_lt_of_le h1 with e | h3
    · simp only [e] at h2; rw [hl] at h2; cases h2
    · have := lessG_trans (hr _ _ h3 h) hl
      rw [this] at h2; cases h2
/-- Whether a group is there. -/
noncomputable def isG (G : List Grp) (s : ByteArray) : Bool := @decide (∃ h : posG G s < G.length, (G[posG G s]).name = s) (Classical.propDecidable _)
theorem isG_iff {G : List Grp} {s : ByteArray} : isG G s = true ↔ ∃ h : posG G s < G.length, (G[posG G s]).name = s :=
  ⟨fun h => by unfold isG at h; exact @of_decide_eq_true _ (Classical.propDecidable _) h, fun h => by unfold isG; exact @decide_eq_true _ (Classical.propDecidable _) h⟩
theorem isG_not {G : List Grp} {s : ByteArray} (h : ¬ ∃ h : posG G s < G.length, (G[posG G s]).name = s) : isG G s = false := by
  unfold isG; exact @decide_eq_false _ (Classical.propDecidable _) h
theorem isG_at {G : List Grp} {s : ByteArray} (hr : RisingG G) {i : Nat} (h : i < G.length) (e : G[i].name = s) : i = posG G s ∧ isG G s = true := by
  have hi : ¬ i < posG G s := fun hl => by have := posG_lt G s i h hl; rw [e, lessG_irrefl] at this; cases this
  have hp : ¬ posG G s < i := fun hl => by
    have h2 := hr _ _ hl h
    rw [e] at h2
    rw [posG_at G s (by omega)] at h2; cases h2
  obtain rfl : i = posG G s := by omega
  exact ⟨rfl, isG_iff.2 ⟨h, e⟩⟩
/-- TopicLag. -/
noncomputable def lagT (t : Tpc) (s : ByteArray) : Int :=
  if topB t = false then 0 else if isG t.groups s = false then 0 else t.base + t.held.length - (t.groups.getD (posG t.groups s) zeroGrp).acked
end Go.Proofs.Ytjmmffhndecikaa
