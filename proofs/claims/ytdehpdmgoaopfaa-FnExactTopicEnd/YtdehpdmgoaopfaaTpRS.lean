/- The contract of spec.TopicRight. -/
import Derived.Test.YtdehpdmgoaopfaaTpR
import Derived.BigQuiet
namespace Go.Proofs.Ytdehpdmgoaopfaa
open Go.RowKit
set_option linter.unusedVariables false
set_option maxRecDepth 1000000

set_option maxHeartbeats 8000000 in
theorem specTopicRight_any (t : Tpc) (A : Option Addr) (c : Nat) (B : Option Addr) (d : Nat) (w : World) (hf : t.fits) (hA : Strs w w.heap.size A t.held) (hB : Grs w w.heap.size B t.groups) :
    Calls Try.prog 23 #[topV t.name t.base (.slice A t.held.length c) (.slice B t.groups.length d)] w fun e w' => e = .returned (.bool (topB t)) ∧ Below w.heap.size w w' := by
  obtain ⟨f0, f1, f2, f3⟩ := hf
  have hn := hA.1
  have hm := hB.1
  have hn' := hn
  unfold maxLen at hn' hm
  have F0 : Hid (∀ h : ¬ topOK t, topB t = false) := Lib.hid topB_false
  have F1 : Hid (∀ h : topOK t, topB t = true) := Lib.hid topB_true
  have OK : Hid (∀ P : topOK t → Prop, True) := Lib.hid fun _ => trivial
  obtain ⟨nm, bs, H, G⟩ := t
  simp only at f0 f1 f2 f3 hA hB hn hm hn' F0 F1 OK ⊢
  generalize topB ⟨nm, bs, H, G⟩ = R at F0 F1 ⊢
  have hK := Blk.fresh w 26 [.string nm, .int .i64 bs, .slice A H.length c, .slice B G.length d]
  have hb0 := below_box w (.cells #[.string nm, .int .i64 bs, .slice A H.length c, .slice B G.length d] 26)
  simp only [List.toArray] at hK
  rcases Bool.eq_false_or_eq_true (nameB nm) with hN | hN
  rotate_left
  · have NR := specName_b hN f0
    have HR := Lib.hid (F0.out fun h => by have := h.1; rw [hN] at this; cases this)
    go_enter Try.func23, Try.ntmps23
    go_wp2_with (go_at_call 67; refine (NR _).mono ?_; rintro e w' ⟨rfl, rfl⟩)
    go_ret
    exact ⟨by rw [HR.out]; rfl, hb0⟩
  have NR := specName_b hN f0
  rcases Bool.eq_false_or_eq_true (inB bs 0 1000000000) with hI | hI
  rotate_left
  · have IS := is3 hI
    have HR := Lib.hid (F0.out fun h => by have := h.2.1; rw [hI] at this; cases this)
    go_enter Try.func23, Try.ntmps23
    go_wp2_with (first | (go_at_call 67; refine (NR _).mono ?_; rintro e w' ⟨rfl, rfl⟩) | (go_at_call 68; refine (IS _).mono ?_; rintro e w' ⟨rfl, rfl⟩))
    go_ret
    exact ⟨by rw [HR.out]; rfl, hb0⟩
  have IS := is3 hI
  have hbs := inB_true hI
  by_cases h3 : H.length ≤ 20
  rotate_left
  · have HR := Lib.hid (F0.out fun h => h3 h.2.2.1)
    go_enter Try.func23, Try.ntmps23
    go_wp2_with (first | (go_at_call 67; refine (NR _).mono ?_; rintro e w' ⟨rfl, rfl⟩) | (go_at_call 68; refine (IS _).mono ?_; rintro e w' ⟨rfl, rfl⟩))
    go_ret
    exact ⟨by rw [HR.out]; rfl, hb0⟩
  by_cases h4 : G.length ≤ 4
  rotate_left
  · have HR := Lib.hid (F0.out fun h => h4 h.2.2.2.2.1)
    go_enter Try.func23, Try.ntmps23
    go_wp2_with (first | (go_at_call 67; refine (NR _).mono ?_; rintro e w' ⟨rfl, rfl⟩) | (go_at_call 68; refine (IS _).mono ?_; rintro e w' ⟨rfl, rfl⟩))
    go_ret
    exact ⟨by rw [HR.out]; rfl, hb0⟩
  have EN := Lib.hid (l07End_any nm bs A H.length c (.slice B G.length d) (by omega) hbs.1 hbs.2 rfl)
  by_cases h5 : bs + H.length ≤ 1000000000
  rotate_left
  · have HR := Lib.hid (F0.out fun h => h5 h.2.2.2.2.2.1)
    go_enter Try.func23, Try.ntmps23
    go_wp2_with (first | (go_at_call 67; refine (NR _).mono ?_; rintro e w' ⟨rfl, rfl⟩) | (go_at_call 68; refine (IS _).mono ?_; rintro e w' ⟨rfl, rfl⟩) | (go_at_call 59; refine (EN.out _).mono ?_; rintro e w1 ⟨rfl, hb1⟩))
    go_ret
    exact ⟨by rw [HR.out]; rfl, hb0.trans (hb1.mono hb0.size)⟩
  go_enter Try.func23, Try.ntmps23
  go_wp2_with (first | (go_at_call 67; refine (NR _).mono ?_; rintro e w' ⟨rfl, rfl⟩) | (go_at_call 68; refine (IS _).mono ?_; rintro e w' ⟨rfl, rfl⟩) | (go_at_call 59; refine (EN.out _).mono ?_; rintro e w1 ⟨rfl, hb1⟩))
  have hK1 := hK.below hb1 hK.lt
  have hw1 := hb0.trans (hb1.mono hb0.size)
  clear hK hb0 hb1
  go_loopw [3] (fun i wr => ∃ k : Nat, k ≤ H.length ∧ i = .int .i64 k ∧ (∀ j (h : j < H.length), j < k → inB H[j].size 1 40 = true) ∧ Blk wr w.heap.size 26 [.string nm, .int .i64 bs, .slice A H.length c, .slice B G.length d] ∧ Below w.heap.size w wr) (fun i _ => H.length - (intOf i).toNat)
  case atStart => exact ⟨0, by omega, rfl, fun j _ h => by omega, hK1, hw1⟩
  case round =>
    obtain ⟨k, hk, rfl, hok, hK2, hw2⟩ := hrel
    have b2 := hK2.cell (i := 2) rfl
    by_cases hlt : k < H.length
    · obtain ⟨a, rfl, hab, c0⟩ := (hA.below hw2 (Nat.le_refl _)).2 k hlt
      have hlt' : (k : Int) < (H.length : Int) := by omega
      rcases Bool.eq_false_or_eq_true (inB H[k].size 1 40) with hT | hT
      · have TX := l07Text_b hT (f2 _ (List.getElem_mem hlt))
        go_wp2_with (go_at_call 58; refine (TX _).mono ?_; rintro e w' ⟨rfl, rfl⟩)
        refine ⟨⟨k + 1, by omega, by go_num, fun j hj hjk => ?_, hK2, hw2⟩, by simp [intOf]; omega⟩
        by_cases e : j = k
        · subst e; exact hT
        · exact hok j hj (by omega)
      · have TX := l07Text_b hT (f2 _ (List.getElem_mem hlt))
        have HR := Lib.hid (F0.out fun h => by have := h.2.2.2.1 k hlt; rw [hT] at this; cases this)
        go_wp2_with (go_at_call 58; refine (TX _).mono ?_; rintro e w' ⟨rfl, rfl⟩)
        go_ret
        exact ⟨by rw [HR.out]; rfl, hw2⟩
    · obtain rfl : k = H.length := by omega
      have HH := Lib.hid (fun j (h : j < H.length) => hok j h h)
      have b3 := hK2.cell (i := 3) rfl
      clear hok hK1 hw1
      go_wp2
      go_loopw [4, 5] (fun i _ wr => ∃ k : Nat, k ≤ G.length ∧ i = .int .i64 k ∧ (∀ j (h : j < G.length), j < k → grpIn ⟨nm, bs, H, G⟩ j h) ∧ Blk wr w.heap.size 26 [.string nm, .int .i64 bs, .slice A H.length c, .slice B G.length d] ∧ Below w.heap.size w wr) (fun i _ _ => G.length - (intOf i).toNat)
      case atStart => exact ⟨0, by omega, rfl, fun j _ h => by omega, hK2, hw2⟩
      case round =>
        obtain ⟨k, hk, rfl, hok, hK3, hw3⟩ := hrel
        clear b2 b3 hK2 hw2
        have b3 := hK3.cell (i := 3) rfl
        by_cases hlt : k < G.length
        rotate_left
        · obtain rfl : k = G.length := by omega
          have HR := Lib.hid (F1.out ⟨hN, hI, h3, HH.out, h4, h5, fun i h => hok i h h⟩)
          go_wp2
          go_ret
          exact ⟨by rw [HR.out]; rfl, hw3⟩
        obtain ⟨a, rfl, hab, c0, c1⟩ := (hB.below hw3 (Nat.le_refl _)).at k hlt
        have hlt' : (k : Int) < (G.length : Int) := by omega
        have hG := Blk.fresh wr 47 [.string G[k].name, .int .i64 G[k].acked]
        have hK4 := hK3.alloc (.cells #[.string G[k].name, .int .i64 G[k].acked] 47)
        have hw4 := hw3.alloc hw3.size (.cells #[.string G[k].name, .int .i64 G[k].acked] 47)
        have hp : ∀ q, (h : q + 1 = k) → (wr.alloc (.cells #[.string G[k].name, .int .i64 G[k].acked] 47)).cell? (a.add (q * 2)) = some (.string (G[q]'(by omega)).name) := by
          intro q h
          obtain ⟨a', e, _, h2, _⟩ := (hB.below hw4 (Nat.le_refl _)).at q (by omega)
          cases e
          exact h2
        simp only [List.toArray] at hG
        go_wp2
        generalize wr.alloc (.cells #[.string G[k].name, .int .i64 G[k].acked] 47) = w3 at hG hK4 hw4 hp ⊢
        clear c0 c1 b3 hK3
        have n1 : G[k].name.size ≤ maxLen := (f3 _ (List.getElem_mem hlt)).1
        obtain ⟨I, f, hI', g0, gk, gc, ge⟩ := class_grown w3
        have x0 := fun s => kept_cell (gk s) (hG.cell (i := 0) rfl)
        have x1 := fun s => kept_cell (gk s) (hG.cell (i := 1) rfl)
        have y0 := fun s => kept_cell (gk s) (hK4.cell (i := 0) rfl)
        have y1 := fun s => kept_cell (gk s) (hK4.cell (i := 1) rfl)
        have y2 := fun s => kept_cell (gk s) (hK4.cell (i := 2) rfl)
        have y3 := fun s => kept_cell (gk s) (hK4.cell (i := 3) rfl)
        have HW : Hid (∀ W, Below w3.heap.size w3 W → Blk W w.heap.size 26 [.string nm, .int .i64 bs, .slice A H.length c, .slice (some a) G.length d] ∧ Below w.heap.size w W) := Lib.hid fun W h => ⟨hK4.below h hK4.lt, hw4.trans (h.mono hw4.size)⟩
        have HOK := Lib.hid hok
        have HB := Lib.hid (fun h : ¬ grpIn ⟨nm, bs, H, G⟩ k hlt => F0.out fun q => h (q.2.2.2.2.2.2 k hlt))
        clear hok hK4 hG hw4
        rcases Bool.eq_false_or_eq_true (nameB G[k].name) with hN2 | hN2
        rotate_left
        · have NG := Lib.hid (fun W => bl (specName_b hN2 n1 W))
          have HR := Lib.hid (HB.out fun h => by have := h.1; rw [hN2] at this; cases this)
          refine wp_region_kept f (by kernel_rfl) (by kernel_rfl) g0 ?_
          repeat (first
            | go_big_quiet_skip
            | (go_big_quiet_want; go_big_quiet_op; first
              | go_big_quiet_on
              | (apply Exists.intro; refine ⟨fun s => ?_, ?_⟩; (go_at_call 67; (with_reducible refine (NG.out _).mono ?_); rintro e w4 ⟨rfl, hb4⟩; exact ⟨rfl, gc _ _ hb4⟩); go_big_quiet_on)
              | (apply Exists.intro; refine ⟨fun s => ?_, ?_⟩; (go_at_call 59; (with_reducible refine (EN.out _).mono ?_); rintro e w4 ⟨rfl, hb4⟩; exact ⟨rfl, gc _ _ hb4⟩); go_big_quiet_on)
              | (apply Exists.intro; refine ⟨fun s => ?_, ?_⟩; (go_at_call 68; (with_reducible refine (IG.out _).mono ?_); rintro e w4 ⟨rfl, hb4⟩; exact ⟨rfl, gc _ _ hb4⟩); go_big_quiet_on)))
          refine wpQuiet_nil ?_
          intro w5 h5
          have hb5 := ge _ h5
          go_wp2
          go_ret
          exact ⟨by rw [HR.out]; rfl, (HW.out _ hb5).2⟩
        have NG := Lib.hid (fun W => bl (specName_b hN2 n1 W))
        by_cases hk0 : 0 < k
        · obtain ⟨q, hq⟩ : ∃ q, q + 1 = k := ⟨k - 1, by omega⟩
          have p0 := fun s => kept_cell (gk s) (hp q hq)
          have hd : decide ((0 : Int) < (k : Int)) = true := by simp; omega
          have e1 : IntKind.i64.wrap ((k : Int) - 1) = (q : Int) := by rw [IntWalk.i64_in _ (by omega)]; omega
          have e2 : (q : Int) < (G.length : Int) := by omega
          have hql : q < G.length := by omega
          clear hp
          rcases Bool.eq_false_or_eq_true (Op.bytesLess G[q].name.toList G[k].name.toList) with hl | hl
          rotate_left
          · have HR := Lib.hid (HB.out (not_grp_less hq hlt hql hl))
            refine wp_region_kept f (by kernel_rfl) (by kernel_rfl) g0 ?_
            repeat (first
              | go_big_quiet_skip
              | (go_big_quiet_want; go_big_quiet_op; first
                | go_big_quiet_on
                | (apply Exists.intro; refine ⟨fun s => ?_, ?_⟩; (go_at_call 67; (with_reducible refine (NG.out _).mono ?_); rintro e w4 ⟨rfl, hb4⟩; exact ⟨rfl, gc _ _ hb4⟩); go_big_quiet_on)
                | (apply Exists.intro; refine ⟨fun s => ?_, ?_⟩; (go_at_call 59; (with_reducible refine (EN.out _).mono ?_); rintro e w4 ⟨rfl, hb4⟩; exact ⟨rfl, gc _ _ hb4⟩); go_big_quiet_on)
                | (apply Exists.intro; refine ⟨fun s => ?_, ?_⟩; (go_at_call 68; (with_reducible refine (IG.out _).mono ?_); rintro e w4 ⟨rfl, hb4⟩; exact ⟨rfl, gc _ _ hb4⟩); go_big_quiet_on)))
            refine wpQuiet_nil ?_
            intro w5 h5
            have hb5 := ge _ h5
            go_wp2
            go_ret
            exact ⟨by rw [HR.out]; rfl, (HW.out _ hb5).2⟩
          have HL := Lib.hid (grp_less (t := ⟨nm, bs, H, G⟩) hq hlt hql hl)
          rcases Bool.eq_false_or_eq_true (inB G[k].acked bs (bs + H.length)) with hI2 | hI2
          · have IG := Lib.hid (fun W => bl (is3 hI2 W))
            refine wp_region_kept f (by kernel_rfl) (by kernel_rfl) g0 ?_
            repeat (first
              | go_big_quiet_skip
              | (go_big_quiet_want; go_big_quiet_op; first
                | go_big_quiet_on
                | (apply Exists.intro; refine ⟨fun s => ?_, ?_⟩; (go_at_call 67; (with_reducible refine (NG.out _).mono ?_); rintro e w4 ⟨rfl, hb4⟩; exact ⟨rfl, gc _ _ hb4⟩); go_big_quiet_on)
                | (apply Exists.intro; refine ⟨fun s => ?_, ?_⟩; (go_at_call 59; (with_reducible refine (EN.out _).mono ?_); rintro e w4 ⟨rfl, hb4⟩; exact ⟨rfl, gc _ _ hb4⟩); go_big_quiet_on)
                | (apply Exists.intro; refine ⟨fun s => ?_, ?_⟩; (go_at_call 68; (with_reducible refine (IG.out _).mono ?_); rintro e w4 ⟨rfl, hb4⟩; exact ⟨rfl, gc _ _ hb4⟩); go_big_quiet_on)))
            refine wpQuiet_nil ?_
            intro w5 h5
            have hb5 := ge _ h5
            go_wp2
            refine ⟨⟨k + 1, by omega, by go_num, fun j hj hjk => ?_, (HW.out _ hb5).1, (HW.out _ hb5).2⟩, by simp [intOf]; omega⟩
            by_cases e : j = k
            · subst e
              exact ⟨hN2, hI2, HL.out⟩
            · exact HOK.out j hj (by omega)
          · have IG := Lib.hid (fun W => bl (is3 hI2 W))
            have HR := Lib.hid (HB.out fun h => by have := h.2.1; rw [hI2] at this; cases this)
            refine wp_region_kept f (by kernel_rfl) (by kernel_rfl) g0 ?_
            repeat (first
              | go_big_quiet_skip
              | (go_big_quiet_want; go_big_quiet_op; first
                | go_big_quiet_on
                | (apply Exists.intro; refine ⟨fun s => ?_, ?_⟩; (go_at_call 67; (with_reducible refine (NG.out _).mono ?_); rintro e w4 ⟨rfl, hb4⟩; exact ⟨rfl, gc _ _ hb4⟩); go_big_quiet_on)
                | (apply Exists.intro; refine ⟨fun s => ?_, ?_⟩; (go_at_call 59; (with_reducible refine (EN.out _).mono ?_); rintro e w4 ⟨rfl, hb4⟩; exact ⟨rfl, gc _ _ hb4⟩); go_big_quiet_on)
                | (apply Exists.intro; refine ⟨fun s => ?_, ?_⟩; (go_at_call 68; (with_reducible refine (IG.out _).mono ?_); rintro e w4 ⟨rfl, hb4⟩; exact ⟨rfl, gc _ _ hb4⟩); go_big_quiet_on)))
            refine wpQuiet_nil ?_
            intro w5 h5
            have hb5 := ge _ h5
            go_wp2
            go_ret
            exact ⟨by rw [HR.out]; rfl, (HW.out _ hb5).2⟩
        · have hd : decide ((0 : Int) < (k : Int)) = false := by simp; omega
          clear hp
          rcases Bool.eq_false_or_eq_true (inB G[k].acked bs (bs + H.length)) with hI2 | hI2
          · have IG := Lib.hid (fun W => bl (is3 hI2 W))
            refine wp_region_kept f (by kernel_rfl) (by kernel_rfl) g0 ?_
            repeat (first
              | go_big_quiet_skip
              | (go_big_quiet_want; go_big_quiet_op; first
                | go_big_quiet_on
                | (apply Exists.intro; refine ⟨fun s => ?_, ?_⟩; (go_at_call 67; (with_reducible refine (NG.out _).mono ?_); rintro e w4 ⟨rfl, hb4⟩; exact ⟨rfl, gc _ _ hb4⟩); go_big_quiet_on)
                | (apply Exists.intro; refine ⟨fun s => ?_, ?_⟩; (go_at_call 59; (with_reducible refine (EN.out _).mono ?_); rintro e w4 ⟨rfl, hb4⟩; exact ⟨rfl, gc _ _ hb4⟩); go_big_quiet_on)
                | (apply Exists.intro; refine ⟨fun s => ?_, ?_⟩; (go_at_call 68; (with_reducible refine (IG.out _).mono ?_); rintro e w4 ⟨rfl, hb4⟩; exact ⟨rfl, gc _ _ hb4⟩); go_big_quiet_on)))
            refine wpQuiet_nil ?_
            intro w5 h5
            have hb5 := ge _ h5
            go_wp2
            refine ⟨⟨k + 1, by omega, by go_num, fun j hj hjk => ?_, (HW.out _ hb5).1, (HW.out _ hb5).2⟩, by simp [intOf]; omega⟩
            by_cases e : j = k
            · subst e
              exact ⟨hN2, hI2, fun h => absurd h hk0⟩
            · exact HOK.out j hj (by omega)
          · have IG := Lib.hid (fun W => bl (is3 hI2 W))
            have HR := Lib.hid (HB.out fun h => by have := h.2.1; rw [hI2] at this; cases this)
            refine wp_region_kept f (by kernel_rfl) (by kernel_rfl) g0 ?_
            repeat (first
              | go_big_quiet_skip
              | (go_big_quiet_want; go_big_quiet_op; first
                | go_big_quiet_on
                | (apply Exists.intro; refine ⟨fun s => ?_, ?_⟩; (go_at_call 67; (with_reducible refine (NG.out _).mono ?_); rintro e w4 ⟨rfl, hb4⟩; exact ⟨rfl, gc _ _ hb4⟩); go_big_quiet_on)
                | (apply Exists.intro; refine ⟨fun s => ?_, ?_⟩; (go_at_call 59; (with_reducible refine (EN.out _).mono ?_); rintro e w4 ⟨rfl, hb4⟩; exact ⟨rfl, gc _ _ hb4⟩); go_big_quiet_on)
                | (apply Exists.intro; refine ⟨fun s => ?_, ?_⟩; (go_at_call 68; (with_reducible refine (IG.out _).mono ?_); rintro e w4 ⟨rfl, hb4⟩; exact ⟨rfl, gc _ _ hb4⟩); go_big_quiet_on)))
            refine wpQuiet_nil ?_
            intro w5 h5
            have hb5 := ge _ h5
            go_wp2
            go_ret
            exact ⟨by rw [HR.out]; rfl, (HW.out _ hb5).2⟩
end Go.Proofs.Ytdehpdmgoaopfaa
