/- The contract of impl.TopicRight. -/
import Derived.Test.YtdehpdmgoaopfaaTpR
import Derived.Test.YtdehpdmgoaopfaaQTail
import Derived.BigQuiet
namespace Go.Proofs.Ytdehpdmgoaopfaa
open Go.RowKit
set_option linter.unusedVariables false
set_option maxRecDepth 1000000

/-- messagesRight. -/
noncomputable def msgB (H : List ByteArray) : Bool := @decide (H.length ≤ 20 ∧ ∀ i (h : i < H.length), inB H[i].size 1 40 = true) (Classical.propDecidable _)
theorem msgB_true {H : List ByteArray} (h : H.length ≤ 20 ∧ ∀ i (h : i < H.length), inB H[i].size 1 40 = true) : msgB H = true := by unfold msgB; exact @decide_eq_true _ (Classical.propDecidable _) h
theorem msgB_false {H : List ByteArray} (h : ¬ (H.length ≤ 20 ∧ ∀ i (h : i < H.length), inB H[i].size 1 40 = true)) : msgB H = false := by unfold msgB; exact @decide_eq_false _ (Classical.propDecidable _) h
theorem msgB_iff {H : List ByteArray} : msgB H = true ↔ (H.length ≤ 20 ∧ ∀ i (h : i < H.length), inB H[i].size 1 40 = true) := ⟨fun h => by unfold msgB at h; exact @of_decide_eq_true _ (Classical.propDecidable _) h, msgB_true⟩
set_option maxHeartbeats 2000000 in
theorem messagesRight_any (A : Option Addr) (H : List ByteArray) (c : Nat) (w : World) (hA : Strs w w.heap.size A H) (hf : ∀ s ∈ H, s.size ≤ maxLen) :
    Calls Try.prog 64 #[.slice A H.length c] w fun e w' => e = .returned (.bool (msgB H)) ∧ w' = w := by
  have hn := hA.1
  unfold maxLen at hn
  by_cases h3 : H.length ≤ 20
  rotate_left
  · have HR := Lib.hid (msgB_false (H := H) fun h => h3 h.1)
    go_enter Try.func64, Try.ntmps64
    go_wp2
    go_ret
    exact ⟨by rw [HR.out]; rfl, rfl⟩
  go_enter Try.func64, Try.ntmps64
  go_wp2
  go_loopw [4, 10] (fun _ i wr => ∃ k : Nat, k ≤ H.length ∧ i = .int .i64 k ∧ (∀ j (h : j < H.length), j < k → inB H[j].size 1 40 = true) ∧ wr = w) (fun _ i _ => H.length - (intOf i).toNat)
  case atStart => exact ⟨0, by omega, rfl, fun j _ h => by omega, rfl⟩
  case round =>
    obtain ⟨k, hk, rfl, hok, rfl⟩ := hrel
    by_cases hlt : k < H.length
    · obtain ⟨a, rfl, hab, c0⟩ := hA.2 k hlt
      have hlt' : (k : Int) < (H.length : Int) := by omega
      rcases Bool.eq_false_or_eq_true (inB H[k].size 1 40) with hT | hT
      · have TX := textRight_b hT (hf _ (List.getElem_mem hlt))
        go_wp2_with (go_at_call 54; refine (TX _).mono ?_; rintro e w' ⟨rfl, rfl⟩)
        refine ⟨⟨k + 1, by omega, by go_num, fun j hj hjk => ?_, trivial⟩, by simp [intOf]; omega⟩
        by_cases e : j = k
        · subst e; exact hT
        · exact hok j hj (by omega)
      · have TX := textRight_b hT (hf _ (List.getElem_mem hlt))
        have HR := Lib.hid (msgB_false (H := H) fun h => by have := h.2 k hlt; rw [hT] at this; cases this)
        go_wp2_with (go_at_call 54; refine (TX _).mono ?_; rintro e w' ⟨rfl, rfl⟩)
        go_ret
        exact ⟨by rw [HR.out]; rfl, rfl⟩
    · obtain rfl : k = H.length := by omega
      have HR := Lib.hid (msgB_true (H := H) ⟨h3, fun j h => hok j h h⟩)
      go_wp2
      go_ret
      exact ⟨by rw [HR.out]; rfl, rfl⟩

/-- The function that tests the numbers between two. -/
abbrev btwV (p q : Nat) : Value := .func (.func 96) #[] #[.pointer (some ⟨p, 0, none⟩), .pointer (some ⟨q, 0, none⟩)]
theorem between_any {n a b : Int} {r : Bool} (h : inB n a b = r) (p q : Nat) (w : World) (hp : w.cell? ⟨p, 0, none⟩ = some (.int .i64 a)) (hq : w.cell? ⟨q, 0, none⟩ = some (.int .i64 b)) :
    Calls Try.prog 96 #[.int .i64 n, .pointer (some ⟨p, 0, none⟩), .pointer (some ⟨q, 0, none⟩)] w fun e w' => e = .returned (.bool r) ∧ w' = w := by
  have IR := inRange_any h
  clear h
  go_enter Try.func96, Try.ntmps96
  go_wp2_with (go_at_call 63; refine (IR _).mono ?_; rintro e w' ⟨rfl, rfl⟩)
  go_ret
  exact ⟨rfl, rfl⟩
theorem numbersBetween_any (a b : Int) (w : World) :
    Calls Try.prog 66 #[.int .i64 a, .int .i64 b] w fun e w' => e = .returned (btwV w.heap.size (w.heap.size + 1)) ∧ w' = (w.alloc (.cells #[.int .i64 a] 2)).alloc (.cells #[.int .i64 b] 2) := by
  go_enter Try.func66, Try.ntmps66
  go_wp2
  go_ret
  exact ⟨rfl, rfl⟩

/-- groupsRight. -/
noncomputable def grpsB (t : Tpc) : Bool := @decide (t.groups.length ≤ 4 ∧ ∀ i (h : i < t.groups.length), grpIn t i h) (Classical.propDecidable _)
theorem grpsB_true {t : Tpc} (h : t.groups.length ≤ 4 ∧ ∀ i (h : i < t.groups.length), grpIn t i h) : grpsB t = true := by unfold grpsB; exact @decide_eq_true _ (Classical.propDecidable _) h
theorem grpsB_false {t : Tpc} (h : ¬ (t.groups.length ≤ 4 ∧ ∀ i (h : i < t.groups.length), grpIn t i h)) : grpsB t = false := by unfold grpsB; exact @decide_eq_false _ (Classical.propDecidable _) h
theorem grpsB_iff {t : Tpc} : grpsB t = true ↔ (t.groups.length ≤ 4 ∧ ∀ i (h : i < t.groups.length), grpIn t i h) := ⟨fun h => by unfold grpsB at h; exact @of_decide_eq_true _ (Classical.propDecidable _) h, grpsB_true⟩
set_option maxHeartbeats 8000000 in
theorem groupsRight_any (nm : ByteArray) (bs : Int) (H : List ByteArray) (G : List Grp) (B : Option Addr) (d p q : Nat) (w : World) (f3 : ∀ g ∈ G, g.fits) (hB : Grs w w.heap.size B G) (hp : w.cell? ⟨p, 0, none⟩ = some (.int .i64 bs)) (hq : w.cell? ⟨q, 0, none⟩ = some (.int .i64 (bs + H.length))) :
    Calls Try.prog 65 #[.slice B G.length d, btwV p q] w fun e w' => e = .returned (.bool (grpsB ⟨nm, bs, H, G⟩)) ∧ Below w.heap.size w w' := by
  have hm := hB.1
  unfold maxLen at hm
  have F0 : Hid (∀ h : ¬ (G.length ≤ 4 ∧ ∀ i (h : i < G.length), grpIn ⟨nm, bs, H, G⟩ i h), grpsB ⟨nm, bs, H, G⟩ = false) := Lib.hid (grpsB_false (t := ⟨nm, bs, H, G⟩))
  have F1 : Hid (∀ h : (G.length ≤ 4 ∧ ∀ i (h : i < G.length), grpIn ⟨nm, bs, H, G⟩ i h), grpsB ⟨nm, bs, H, G⟩ = true) := Lib.hid (grpsB_true (t := ⟨nm, bs, H, G⟩))
  generalize grpsB ⟨nm, bs, H, G⟩ = R at F0 F1 ⊢
  by_cases h4 : G.length ≤ 4
  rotate_left
  · have HR := Lib.hid (F0.out fun h => h4 h.1)
    go_enter Try.func65, Try.ntmps65
    go_wp2
    go_ret
    exact ⟨by rw [HR.out]; rfl, Below.refl _ _⟩
  go_enter Try.func65, Try.ntmps65
  go_wp2
  go_loopw [5, 6, 12] (fun _ _ i wr => ∃ k : Nat, k ≤ G.length ∧ i = .int .i64 k ∧ (∀ j (h : j < G.length), j < k → grpIn ⟨nm, bs, H, G⟩ j h) ∧ Below w.heap.size w wr) (fun _ _ i _ => G.length - (intOf i).toNat)
  case atStart => exact ⟨0, by omega, rfl, fun j _ h => by omega, Below.refl _ _⟩
  case round =>
    obtain ⟨k, hk, rfl, hok, hw3⟩ := hrel
    by_cases hlt : k < G.length
    rotate_left
    · obtain rfl : k = G.length := by omega
      have HR := Lib.hid (F1.out ⟨h4, fun i h => hok i h h⟩)
      go_wp2
      go_ret
      exact ⟨by rw [HR.out]; rfl, hw3⟩
    obtain ⟨a, rfl, hab, c0, c1⟩ := (hB.below hw3 (Nat.le_refl _)).at k hlt
    have hlt' : (k : Int) < (G.length : Int) := by omega
    have hG := Blk.fresh wr 47 [.string G[k].name, .int .i64 G[k].acked]
    have hw4 := hw3.alloc hw3.size (.cells #[.string G[k].name, .int .i64 G[k].acked] 47)
    have hpr : ∀ q, (h : q + 1 = k) → (wr.alloc (.cells #[.string G[k].name, .int .i64 G[k].acked] 47)).cell? (a.add (q * 2)) = some (.string (G[q]'(by omega)).name) := by
      intro q h
      obtain ⟨a', e, _, h2, _⟩ := (hB.below hw4 (Nat.le_refl _)).at q (by omega)
      cases e
      exact h2
    simp only [List.toArray] at hG
    go_wp2
    generalize wr.alloc (.cells #[.string G[k].name, .int .i64 G[k].acked] 47) = w3 at hG hw4 hpr ⊢
    clear c0 c1
    have n1 : G[k].name.size ≤ maxLen := (f3 _ (List.getElem_mem hlt)).1
    obtain ⟨I, f, hI', g0, gk, gc, ge⟩ := class_grown w3
    have x0 := fun s => kept_cell (gk s) (hG.cell (i := 0) rfl)
    have x1 := fun s => kept_cell (gk s) (hG.cell (i := 1) rfl)
    have vp := fun s => kept_cell (gk s) (kept_cell hw4 hp)
    have vq := fun s => kept_cell (gk s) (kept_cell hw4 hq)
    have HW : Hid (∀ W, Below w3.heap.size w3 W → Below w.heap.size w W) := Lib.hid fun W h => hw4.trans (h.mono hw4.size)
    have HOK := Lib.hid hok
    have HB := Lib.hid (fun h : ¬ grpIn ⟨nm, bs, H, G⟩ k hlt => F0.out fun q => h (q.2 k hlt))
    clear hok hG hw4
    rcases Bool.eq_false_or_eq_true (nameB G[k].name) with hN2 | hN2
    rotate_left
    · have NG := Lib.hid (fun W => bl (implName_b hN2 n1 W))
      have HR := Lib.hid (HB.out fun h => by have := h.1; rw [hN2] at this; cases this)
      refine wp_region_kept f (by kernel_rfl) (by kernel_rfl) g0 ?_
      repeat (first
        | go_big_quiet_skip
        | (go_big_quiet_want; go_big_quiet_op; first
          | go_big_quiet_on
          | (apply Exists.intro; refine ⟨fun s => ?_, ?_⟩; (go_at_call 62; (with_reducible refine (NG.out _).mono ?_); rintro e w4 ⟨rfl, hb4⟩; exact ⟨rfl, gc _ _ hb4⟩); go_big_quiet_on)
          | (apply Exists.intro; refine ⟨fun s => ?_, ?_⟩; (go_at_call 96; (with_reducible refine (IG.out _).mono ?_); rintro e w4 ⟨rfl, hb4⟩; exact ⟨rfl, gc _ _ hb4⟩); go_big_quiet_on)))
      refine wpQuiet_nil ?_
      intro w5 h5
      have hb5 := ge _ h5
      go_wp2
      go_ret
      exact ⟨by rw [HR.out]; rfl, HW.out _ hb5⟩
    have NG := Lib.hid (fun W => bl (implName_b hN2 n1 W))
    rcases Bool.eq_false_or_eq_true (inB G[k].acked bs (bs + H.length)) with hI2 | hI2
    rotate_left
    · have IG := Lib.hid (fun s => bl (between_any hI2 p q (f s) (vp s) (vq s)))
      have HR := Lib.hid (HB.out fun h => by have := h.2.1; rw [hI2] at this; cases this)
      refine wp_region_kept f (by kernel_rfl) (by kernel_rfl) g0 ?_
      repeat (first
        | go_big_quiet_skip
        | (go_big_quiet_want; go_big_quiet_op; first
          | go_big_quiet_on
          | (apply Exists.intro; refine ⟨fun s => ?_, ?_⟩; (go_at_call 62; (with_reducible refine (NG.out _).mono ?_); rintro e w4 ⟨rfl, hb4⟩; exact ⟨rfl, gc _ _ hb4⟩); go_big_quiet_on)
          | (apply Exists.intro; refine ⟨fun s => ?_, ?_⟩; (go_at_call 96; (with_reducible refine (IG.out _).mono ?_); rintro e w4 ⟨rfl, hb4⟩; exact ⟨rfl, gc _ _ hb4⟩); go_big_quiet_on)))
      refine wpQuiet_nil ?_
      intro w5 h5
      have hb5 := ge _ h5
      go_wp2
      go_ret
      exact ⟨by rw [HR.out]; rfl, HW.out _ hb5⟩
    have IG := Lib.hid (fun s => bl (between_any hI2 p q (f s) (vp s) (vq s)))
    by_cases hk0 : 0 < k
    · obtain ⟨q', hq'⟩ : ∃ q, q + 1 = k := ⟨k - 1, by omega⟩
      have p0 := fun s => kept_cell (gk s) (hpr q' hq')
      have hd : decide ((0 : Int) < (k : Int)) = true := by simp; omega
      have e1 : IntKind.i64.wrap ((k : Int) - 1) = (q' : Int) := by rw [IntWalk.i64_in _ (by omega)]; omega
      have e2 : (q' : Int) < (G.length : Int) := by omega
      have hql : q' < G.length := by omega
      clear hpr
      rcases Bool.eq_false_or_eq_true (Op.bytesLess G[q'].name.toList G[k].name.toList) with hl | hl
      rotate_left
      · have HR := Lib.hid (HB.out (not_grp_less hq' hlt hql hl))
        refine wp_region_kept f (by kernel_rfl) (by kernel_rfl) g0 ?_
        repeat (first
          | go_big_quiet_skip
          | (go_big_quiet_want; go_big_quiet_op; first
            | go_big_quiet_on
            | (apply Exists.intro; refine ⟨fun s => ?_, ?_⟩; (go_at_call 62; (with_reducible refine (NG.out _).mono ?_); rintro e w4 ⟨rfl, hb4⟩; exact ⟨rfl, gc _ _ hb4⟩); go_big_quiet_on)
            | (apply Exists.intro; refine ⟨fun s => ?_, ?_⟩; (go_at_call 96; (with_reducible refine (IG.out _).mono ?_); rintro e w4 ⟨rfl, hb4⟩; exact ⟨rfl, gc _ _ hb4⟩); go_big_quiet_on)))
        refine wpQuiet_nil ?_
        intro w5 h5
        have hb5 := ge _ h5
        go_wp2
        go_ret
        exact ⟨by rw [HR.out]; rfl, HW.out _ hb5⟩
      have HL := Lib.hid (grp_less (t := ⟨nm, bs, H, G⟩) hq' hlt hql hl)
      refine wp_region_kept f (by kernel_rfl) (by kernel_rfl) g0 ?_
      repeat (first
        | go_big_quiet_skip
        | (go_big_quiet_want; go_big_quiet_op; first
          | go_big_quiet_on
          | (apply Exists.intro; refine ⟨fun s => ?_, ?_⟩; (go_at_call 62; (with_reducible refine (NG.out _).mono ?_); rintro e w4 ⟨rfl, hb4⟩; exact ⟨rfl, gc _ _ hb4⟩); go_big_quiet_on)
          | (apply Exists.intro; refine ⟨fun s => ?_, ?_⟩; (go_at_call 96; (with_reducible refine (IG.out _).mono ?_); rintro e w4 ⟨rfl, hb4⟩; exact ⟨rfl, gc _ _ hb4⟩); go_big_quiet_on)))
      refine wpQuiet_nil ?_
      intro w5 h5
      have hb5 := ge _ h5
      go_wp2
      refine ⟨⟨k + 1, by omega, by go_num, fun j hj hjk => ?_, HW.out _ hb5⟩, by simp [intOf]; omega⟩
      by_cases e : j = k
      · subst e
        exact ⟨hN2, hI2, HL.out⟩
      · exact HOK.out j hj (by omega)
    · have hd : decide ((0 : Int) < (k : Int)) = false := by simp; omega
      clear hpr
      refine wp_region_kept f (by kernel_rfl) (by kernel_rfl) g0 ?_
      repeat (first
        | go_big_quiet_skip
        | (go_big_quiet_want; go_big_quiet_op; first
          | go_big_quiet_on
          | (apply Exists.intro; refine ⟨fun s => ?_, ?_⟩; (go_at_call 62; (with_reducible refine (NG.out _).mono ?_); rintro e w4 ⟨rfl, hb4⟩; exact ⟨rfl, gc _ _ hb4⟩); go_big_quiet_on)
          | (apply Exists.intro; refine ⟨fun s => ?_, ?_⟩; (go_at_call 96; (with_reducible refine (IG.out _).mono ?_); rintro e w4 ⟨rfl, hb4⟩; exact ⟨rfl, gc _ _ hb4⟩); go_big_quiet_on)))
      refine wpQuiet_nil ?_
      intro w5 h5
      have hb5 := ge _ h5
      go_wp2
      refine ⟨⟨k + 1, by omega, by go_num, fun j hj hjk => ?_, HW.out _ hb5⟩, by simp [intOf]; omega⟩
      by_cases e : j = k
      · subst e
        exact ⟨hN2, hI2, fun h => absurd h hk0⟩
      · exact HOK.out j hj (by omega)
end Go.Proofs.Ytdehpdmgoaopfaa
