/- SayRight of impl. The contract of tooLong. impl.SayRead: a say read, its rows its own. What a call leaves that writes only into blocks from lo up to hi. -/
import Derived.Test.YtjnbhppnchmeoaaDoorSySRW
import Derived.Test.YtjnbhppnchmeoaaDoorRdW
import Derived.Test.YtjnbhppnchmeoaaDoorRwkW
namespace Go.Proofs.YtjnbhppnchmeoaaDoor
open Go.RowKit
set_option linter.unusedVariables false
set_option maxRecDepth 1000000

set_option maxHeartbeats 16000000 in
theorem implSayRight_any (y : Sy) (A : Option Addr) (c : Nat) (w : World) {lo : Nat} (hf : y.fits) (hA : Chs w lo w.heap.size A y.changes) :
    Calls Tryd.prog 32 #[syV y (.slice A y.changes.length c)] w fun e w' => e = .returned (.bool (sayB y)) ∧ Below w.heap.size w w' := by
  have HR : Hid (sayB y = (decide (0 ≤ y.frm ∧ y.frm ≤ 3) && (decide (0 ≤ y.view ∧ y.view ≤ 7) && restB y))) := Lib.hid rfl
  have HN := Lib.hid (rest_num (y := y))
  have HC := Lib.hid (rest_chg (y := y))
  have HW := Lib.hid (rest_new (y := y))
  have HO := Lib.hid (rest_no (y := y))
  have HN2 : Hid (numB y = (decide (1 ≤ y.seq ∧ y.seq ≤ 6) && (decide (y.op.size ≤ 120) && (decide (y.changes.length = 0) && decide (y.kind ≠ 1 ∨ y.frm = leadI y.view))))) := Lib.hid rfl
  have HC2 : Hid (chgB y = (decide (1 ≤ y.view) && (decide (y.seq = 0) && (decide (y.op.size = 0) && oneB y.frm y.view y.changes)))) := Lib.hid rfl
  have HW2 : Hid (newB y = (decide (1 ≤ y.view) && (decide (y.frm = leadI y.view) && (decide (y.seq = 0) && (decide (y.op.size = 0) && (cr y.view (-1) y.changes && decide (3 ≤ y.changes.length))))))) := Lib.hid rfl
  have HC3 := Lib.hid (fun c hc hf => chg_impl (y := y) (c := c) hc hf)
  have HW3 := Lib.hid (fun hl => new_impl (y := y) hl)
  have NU := Lib.hid (fun W => numbered_any y A c W hf.2.2.2.2.1 hA.1 rfl rfl rfl rfl)
  have VR := Lib.hid (fun W (h : Below w.heap.size w W) => viewRight_any y A c W hf (hA.on h) rfl rfl rfl)
  generalize sayB y = Z at HR ⊢
  generalize restB y = R at HR HN HC HW HO
  generalize numB y = R1 at HN HN2
  generalize chgB y = R2 at HC HC2 HC3
  generalize newB y = R3 at HW HW2 HW3
  obtain ⟨kind, frm, view, seq, op, L⟩ := y
  obtain ⟨f0, f1, f2, f3, f4, f5⟩ := hf
  simp only at f0 f1 f2 f3 f4 f5 hA HR HN HC HW HO HN2 HC2 HW2 HC3 HW3 NU VR ⊢
  have hn := hA.1
  unfold maxLen at hn
  rcases Bool.eq_false_or_eq_true (decide (0 ≤ frm ∧ frm ≤ 3)) with h1 | h1
  rotate_left
  · have I1 := Lib.hid (fun W => replQ_any h1 W)
    rw [h1] at HR
    obtain rfl : Z = false := by rw [HR.out]; rfl
    clear HR
    have hb0 := below_bx w (.cells #[.int .i64 kind, .int .i64 frm, .int .i64 view, .int .i64 seq, .string op, .slice A L.length c] 34)
    go_enter Tryd.func32, Tryd.ntmps32
    go_wp2_with (go_at_call 55; (with_reducible refine (I1.out _).mono ?_); rintro e w1 ⟨rfl, rfl⟩)
    go_ret
    exact ⟨rfl, hb0⟩
  have I1 := Lib.hid (fun W => replQ_any h1 W)
  have hv8 : (Lit.int .i64 view).wf = true := wf_in f2
  have LD := Lib.hid (fun W => implLeader_any view W hv8)
  rw [h1] at HR
  have HZ : Hid (Z = (decide (0 ≤ view ∧ view ≤ 7) && R)) := Lib.hid (by rw [HR.out]; rfl)
  clear HR h1
  generalize leadI view = ld at LD HN2 HW2 HW3
  obtain ⟨nu, Hnu⟩ : ∃ x, Hid ((decide (0 ≤ view ∧ view ≤ 7) && (decide (1 ≤ seq ∧ seq ≤ 6) && (decide (op.size ≤ 120) && decide (L.length = 0)))) = x) := ⟨_, Lib.hid rfl⟩
  obtain ⟨vr, Hvr⟩ : ∃ x, Hid ((decide (1 ≤ view ∧ view ≤ 7) && (decide (seq = 0) && (decide (op.size = 0) && cr view (-1) L))) = x) := ⟨_, Lib.hid rfl⟩
  rw [Hnu.out] at NU
  rw [Hvr.out] at VR HC3 HW3
  by_cases hk1 : kind = 1
  · subst hk1
    have HZ1 : Hid (Z = (decide (0 ≤ view ∧ view ≤ 7) && R1)) := Lib.hid (by rw [HZ.out, HN.out (by omega)])
    clear HN HC HW HO HC2 HW2 HZ HC3 HW3 Hvr VR
    by_cases hl : frm = ld
    rotate_left
    · have e6 : (frm == ld) = false := by simp [hl]
      obtain rfl : Z = false := by rw [HZ1.out, HN2.out]; simp [hl]
      clear HZ1 HN2 Hnu NU hl
      have hb0 := below_bx w (.cells #[.int .i64 1, .int .i64 frm, .int .i64 view, .int .i64 seq, .string op, .slice A L.length c] 34)
      have hK := Blk.fresh w 34 [.int .i64 1, .int .i64 frm, .int .i64 view, .int .i64 seq, .string op, .slice A L.length c]
      simp only [List.toArray] at hK
      go_enter Tryd.func32, Tryd.ntmps32
      go_wp2_with (go_at_call 55; (with_reducible refine (I1.out _).mono ?_); rintro e w1 ⟨rfl, rfl⟩)
      generalize w.alloc (.cells #[.int .i64 1, .int .i64 frm, .int .i64 view, .int .i64 seq, .string op, .slice A L.length c] 34) = w1 at hK hb0 ⊢
      obtain ⟨I, f, hI, g0, gk, gc, ge⟩ := class_grown w1
      have x1 := fun s => kept_cell (gk s) (hK.cell (i := 1) rfl)
      have x2 := fun s => kept_cell (gk s) (hK.cell (i := 2) rfl)
      refine wp_region_kept f (by kernel_rfl) (by kernel_rfl) g0 ?_
      repeat (first
        | go_big_quiet_skip
        | (go_big_quiet_want; go_big_quiet_op; first
            | go_big_quiet_on
            | (apply Exists.intro; refine ⟨fun s => ?_, ?_⟩; (first | (go_at_call 56; (with_reducible refine (LD.out _).mono ?_); rintro e w4 ⟨rfl, rfl⟩; exact ⟨rfl, gc _ _ (Below.refl _ _)⟩)); go_big_quiet_on)))
      refine wpQuiet_nil ?_
      intro w5 h5
      have hb5 := ge _ h5
      clear x1 x2
      have hK5 := hK.below hb5 hK.lt
      have hw5 := hb0.trans (hb5.mono hb0.size)
      clear hK hb0 hb5 hI g0 gk gc ge h5
      have y0 := hK5.cell (i := 0) rfl
      have y1 := hK5.cell (i := 1) rfl
      have y2 := hK5.cell (i := 2) rfl
      have y3 := hK5.cell (i := 3) rfl
      have y4 := hK5.cell (i := 4) rfl
      have y5 := hK5.cell (i := 5) rfl
      go_wp2
      go_ret
      exact ⟨rfl, hw5⟩
    have e6 : (frm == ld) = true := by simp [hl]
    obtain rfl : Z = nu := by rw [HZ1.out, HN2.out, ← Hnu.out]; simp [hl]
    clear HZ1 HN2 Hnu hl
    have hb0 := below_bx w (.cells #[.int .i64 1, .int .i64 frm, .int .i64 view, .int .i64 seq, .string op, .slice A L.length c] 34)
    have hK := Blk.fresh w 34 [.int .i64 1, .int .i64 frm, .int .i64 view, .int .i64 seq, .string op, .slice A L.length c]
    simp only [List.toArray] at hK
    go_enter Tryd.func32, Tryd.ntmps32
    go_wp2_with (go_at_call 55; (with_reducible refine (I1.out _).mono ?_); rintro e w1 ⟨rfl, rfl⟩)
    generalize w.alloc (.cells #[.int .i64 1, .int .i64 frm, .int .i64 view, .int .i64 seq, .string op, .slice A L.length c] 34) = w1 at hK hb0 ⊢
    obtain ⟨I, f, hI, g0, gk, gc, ge⟩ := class_grown w1
    have x1 := fun s => kept_cell (gk s) (hK.cell (i := 1) rfl)
    have x2 := fun s => kept_cell (gk s) (hK.cell (i := 2) rfl)
    refine wp_region_kept f (by kernel_rfl) (by kernel_rfl) g0 ?_
    repeat (first
      | go_big_quiet_skip
      | (go_big_quiet_want; go_big_quiet_op; first
          | go_big_quiet_on
          | (apply Exists.intro; refine ⟨fun s => ?_, ?_⟩; (first | (go_at_call 56; (with_reducible refine (LD.out _).mono ?_); rintro e w4 ⟨rfl, rfl⟩; exact ⟨rfl, gc _ _ (Below.refl _ _)⟩)); go_big_quiet_on)))
    refine wpQuiet_nil ?_
    intro w5 h5
    have hb5 := ge _ h5
    clear x1 x2
    have hK5 := hK.below hb5 hK.lt
    have hw5 := hb0.trans (hb5.mono hb0.size)
    clear hK hb0 hb5 hI g0 gk gc ge h5
    have y0 := hK5.cell (i := 0) rfl
    have y1 := hK5.cell (i := 1) rfl
    have y2 := hK5.cell (i := 2) rfl
    have y3 := hK5.cell (i := 3) rfl
    have y4 := hK5.cell (i := 4) rfl
    have y5 := hK5.cell (i := 5) rfl
    go_wp2_with (go_at_call 57; (with_reducible refine (NU.out _).mono ?_); rintro e w6 ⟨rfl, hb6⟩)
    go_ret
    exact ⟨rfl, hw5.trans (hb6.mono hw5.size)⟩
  by_cases hk2 : kind = 2
  · subst hk2
    have HZ1 : Hid (Z = (decide (0 ≤ view ∧ view ≤ 7) && R1)) := Lib.hid (by rw [HZ.out, HN.out (by omega)])
    clear HN HC HW HO HC2 HW2 HZ HC3 HW3 Hvr VR
    obtain rfl : Z = nu := by rw [HZ1.out, HN2.out, ← Hnu.out]; simp
    clear HZ1 HN2 Hnu
    obtain ⟨b, Hb⟩ : ∃ b, Hid ((frm == ld) = b) := ⟨_, Lib.hid rfl⟩
    have e6 := Hb.out
    have hb0 := below_bx w (.cells #[.int .i64 2, .int .i64 frm, .int .i64 view, .int .i64 seq, .string op, .slice A L.length c] 34)
    have hK := Blk.fresh w 34 [.int .i64 2, .int .i64 frm, .int .i64 view, .int .i64 seq, .string op, .slice A L.length c]
    simp only [List.toArray] at hK
    go_enter Tryd.func32, Tryd.ntmps32
    go_wp2_with (go_at_call 55; (with_reducible refine (I1.out _).mono ?_); rintro e w1 ⟨rfl, rfl⟩)
    generalize w.alloc (.cells #[.int .i64 2, .int .i64 frm, .int .i64 view, .int .i64 seq, .string op, .slice A L.length c] 34) = w1 at hK hb0 ⊢
    obtain ⟨I, f, hI, g0, gk, gc, ge⟩ := class_grown w1
    have x1 := fun s => kept_cell (gk s) (hK.cell (i := 1) rfl)
    have x2 := fun s => kept_cell (gk s) (hK.cell (i := 2) rfl)
    refine wp_region_kept f (by kernel_rfl) (by kernel_rfl) g0 ?_
    repeat (first
      | go_big_quiet_skip
      | (go_big_quiet_want; go_big_quiet_op; first
          | go_big_quiet_on
          | (apply Exists.intro; refine ⟨fun s => ?_, ?_⟩; (first | (go_at_call 56; (with_reducible refine (LD.out _).mono ?_); rintro e w4 ⟨rfl, rfl⟩; exact ⟨rfl, gc _ _ (Below.refl _ _)⟩)); go_big_quiet_on)))
    refine wpQuiet_nil ?_
    intro w5 h5
    have hb5 := ge _ h5
    clear x1 x2
    have hK5 := hK.below hb5 hK.lt
    have hw5 := hb0.trans (hb5.mono hb0.size)
    clear hK hb0 hb5 hI g0 gk gc ge h5
    have y0 := hK5.cell (i := 0) rfl
    have y1 := hK5.cell (i := 1) rfl
    have y2 := hK5.cell (i := 2) rfl
    have y3 := hK5.cell (i := 3) rfl
    have y4 := hK5.cell (i := 4) rfl
    have y5 := hK5.cell (i := 5) rfl
    clear e6
    go_wp2_with (go_at_call 57; (with_reducible refine (NU.out _).mono ?_); rintro e w6 ⟨rfl, hb6⟩)
    go_ret
    exact ⟨rfl, hw5.trans (hb6.mono hw5.size)⟩
  by_cases hk3 : kind = 3
  · subst hk3
    have HZ1 : Hid (Z = (decide (0 ≤ view ∧ view ≤ 7) && R1)) := Lib.hid (by rw [HZ.out, HN.out (by omega)])
    clear HN HC HW HO HC2 HW2 HZ HC3 HW3 Hvr VR
    obtain rfl : Z = nu := by rw [HZ1.out, HN2.out, ← Hnu.out]; simp
    clear HZ1 HN2 Hnu
    obtain ⟨b, Hb⟩ : ∃ b, Hid ((frm == ld) = b) := ⟨_, Lib.hid rfl⟩
    have e6 := Hb.out
    have hb0 := below_bx w (.cells #[.int .i64 3, .int .i64 frm, .int .i64 view, .int .i64 seq, .string op, .slice A L.length c] 34)
    have hK := Blk.fresh w 34 [.int .i64 3, .int .i64 frm, .int .i64 view, .int .i64 seq, .string op, .slice A L.length c]
    simp only [List.toArray] at hK
    go_enter Tryd.func32, Tryd.ntmps32
    go_wp2_with (go_at_call 55; (with_reducible refine (I1.out _).mono ?_); rintro e w1 ⟨rfl, rfl⟩)
    generalize w.alloc (.cells #[.int .i64 3, .int .i64 frm, .int .i64 view, .int .i64 seq, .string op, .slice A L.length c] 34) = w1 at hK hb0 ⊢
    obtain ⟨I, f, hI, g0, gk, gc, ge⟩ := class_grown w1
    have x1 := fun s => kept_cell (gk s) (hK.cell (i := 1) rfl)
    have x2 := fun s => kept_cell (gk s) (hK.cell (i := 2) rfl)
    refine wp_region_kept f (by kernel_rfl) (by kernel_rfl) g0 ?_
    repeat (first
      | go_big_quiet_skip
      | (go_big_quiet_want; go_big_quiet_op; first
          | go_big_quiet_on
          | (apply Exists.intro; refine ⟨fun s => ?_, ?_⟩; (first | (go_at_call 56; (with_reducible refine (LD.out _).mono ?_); rintro e w4 ⟨rfl, rfl⟩; exact ⟨rfl, gc _ _ (Below.refl _ _)⟩)); go_big_quiet_on)))
    refine wpQuiet_nil ?_
    intro w5 h5
    have hb5 := ge _ h5
    clear x1 x2
    have hK5 := hK.below hb5 hK.lt
    have hw5 := hb0.trans (hb5.mono hb0.size)
    clear hK hb0 hb5 hI g0 gk gc ge h5
    have y0 := hK5.cell (i := 0) rfl
    have y1 := hK5.cell (i := 1) rfl
    have y2 := hK5.cell (i := 2) rfl
    have y3 := hK5.cell (i := 3) rfl
    have y4 := hK5.cell (i := 4) rfl
    have y5 := hK5.cell (i := 5) rfl
    clear e6
    go_wp2_with (go_at_call 57; (with_reducible refine (NU.out _).mono ?_); rintro e w6 ⟨rfl, hb6⟩)
    go_ret
    exact ⟨rfl, hw5.trans (hb6.mono hw5.size)⟩
  by_cases hk4 : kind = 4
  · subst hk4
    have HZ1 : Hid (Z = (decide (0 ≤ view ∧ view ≤ 7) && R2)) := Lib.hid (by rw [HZ.out, HC.out rfl])
    clear HN HC HW HO HN2 HW2 HZ HW3 Hnu NU Hvr
    obtain ⟨b, Hb⟩ : ∃ b, Hid ((frm == ld) = b) := ⟨_, Lib.hid rfl⟩
    have e6 := Hb.out
    by_cases hl : L.length = 1
    rotate_left
    · have e7 : ((L.length : Int) == 1) = false := by simp; omega
      obtain rfl : Z = false := by rw [HZ1.out, HC2.out, oneB_len hl]; simp
      clear HZ1 HC2 HC3 VR hl
      have hb0 := below_bx w (.cells #[.int .i64 4, .int .i64 frm, .int .i64 view, .int .i64 seq, .string op, .slice A L.length c] 34)
      have hK := Blk.fresh w 34 [.int .i64 4, .int .i64 frm, .int .i64 view, .int .i64 seq, .string op, .slice A L.length c]
      simp only [List.toArray] at hK
      go_enter Tryd.func32, Tryd.ntmps32
      go_wp2_with (go_at_call 55; (with_reducible refine (I1.out _).mono ?_); rintro e w1 ⟨rfl, rfl⟩)
      generalize w.alloc (.cells #[.int .i64 4, .int .i64 frm, .int .i64 view, .int .i64 seq, .string op, .slice A L.length c] 34) = w1 at hK hb0 ⊢
      obtain ⟨I, f, hI, g0, gk, gc, ge⟩ := class_grown w1
      have x1 := fun s => kept_cell (gk s) (hK.cell (i := 1) rfl)
      have x2 := fun s => kept_cell (gk s) (hK.cell (i := 2) rfl)
      refine wp_region_kept f (by kernel_rfl) (by kernel_rfl) g0 ?_
      repeat (first
        | go_big_quiet_skip
        | (go_big_quiet_want; go_big_quiet_op; first
            | go_big_quiet_on
            | (apply Exists.intro; refine ⟨fun s => ?_, ?_⟩; (first | (go_at_call 56; (with_reducible refine (LD.out _).mono ?_); rintro e w4 ⟨rfl, rfl⟩; exact ⟨rfl, gc _ _ (Below.refl _ _)⟩)); go_big_quiet_on)))
      refine wpQuiet_nil ?_
      intro w5 h5
      have hb5 := ge _ h5
      clear x1 x2
      have hK5 := hK.below hb5 hK.lt
      have hw5 := hb0.trans (hb5.mono hb0.size)
      clear hK hb0 hb5 hI g0 gk gc ge h5
      have y0 := hK5.cell (i := 0) rfl
      have y1 := hK5.cell (i := 1) rfl
      have y2 := hK5.cell (i := 2) rfl
      have y3 := hK5.cell (i := 3) rfl
      have y4 := hK5.cell (i := 4) rfl
      have y5 := hK5.cell (i := 5) rfl
      clear e6
      go_wp2_with (fail)
      obtain ⟨I, f, hI, g0, gk, gc, ge⟩ := class_grown w5
      refine wp_region_kept f (by kernel_rfl) (by kernel_rfl) g0 ?_
      repeat (first
        | go_big_quiet_skip
        | (go_big_quiet_want; go_big_quiet_op; first
            | go_big_quiet_on))
      refine wpQuiet_nil ?_
      intro w6 h5
      have hb6 := ge _ h5
      go_wp2
      go_ret
      exact ⟨rfl, hw5.trans (hb6.mono hw5.size)⟩
    obtain ⟨c0, rfl⟩ := len_one hl
    obtain ⟨a, rfl, hab, C, c1, a0, a1, a2, hC⟩ := hA.at 0 (by simp)
    have HC4 := Lib.hid (HC3.out c0 rfl)
    simp only [List.getElem_cons_zero] at a0 a1 a2 hC
    obtain ⟨cf, cv, Q⟩ := c0
    simp only at a0 a1 a2 hC HC4
    replace a0 : w.cell? a = some (.int .i64 cf) := by simpa [Addr.add] using a0
    clear HC3 a1 a2 hl
    simp only [List.length_singleton] at VR
    by_cases hc : cf = frm
    rotate_left
    · have e7 : (cf == frm) = false := by simp [hc]
      obtain rfl : Z = false := by rw [HZ1.out, HC2.out]; unfold oneB; simp [hc]
      clear HZ1 HC2 HC4 VR hc
      have hb0 := below_bx w (.cells #[.int .i64 4, .int .i64 frm, .int .i64 view, .int .i64 seq, .string op, .slice (some a) 1 c] 34)
      have hK := Blk.fresh w 34 [.int .i64 4, .int .i64 frm, .int .i64 view, .int .i64 seq, .string op, .slice (some a) 1 c]
      simp only [List.toArray] at hK
      go_enter Tryd.func32, Tryd.ntmps32
      go_wp2_with (go_at_call 55; (with_reducible refine (I1.out _).mono ?_); rintro e w1 ⟨rfl, rfl⟩)
      generalize w.alloc (.cells #[.int .i64 4, .int .i64 frm, .int .i64 view, .int .i64 seq, .string op, .slice (some a) 1 c] 34) = w1 at hK hb0 ⊢
      obtain ⟨I, f, hI, g0, gk, gc, ge⟩ := class_grown w1
      have x1 := fun s => kept_cell (gk s) (hK.cell (i := 1) rfl)
      have x2 := fun s => kept_cell (gk s) (hK.cell (i := 2) rfl)
      refine wp_region_kept f (by kernel_rfl) (by kernel_rfl) g0 ?_
      repeat (first
        | go_big_quiet_skip
        | (go_big_quiet_want; go_big_quiet_op; first
            | go_big_quiet_on
            | (apply Exists.intro; refine ⟨fun s => ?_, ?_⟩; (first | (go_at_call 56; (with_reducible refine (LD.out _).mono ?_); rintro e w4 ⟨rfl, rfl⟩; exact ⟨rfl, gc _ _ (Below.refl _ _)⟩)); go_big_quiet_on)))
      refine wpQuiet_nil ?_
      intro w5 h5
      have hb5 := ge _ h5
      clear x1 x2
      have hK5 := hK.below hb5 hK.lt
      have hw5 := hb0.trans (hb5.mono hb0.size)
      clear hK hb0 hb5 hI g0 gk gc ge h5
      have y0 := hK5.cell (i := 0) rfl
      have y1 := hK5.cell (i := 1) rfl
      have y2 := hK5.cell (i := 2) rfl
      have y3 := hK5.cell (i := 3) rfl
      have y4 := hK5.cell (i := 4) rfl
      have y5 := hK5.cell (i := 5) rfl
      clear e6
      go_wp2_with (fail)
      obtain ⟨I, f, hI, g0, gk, gc, ge⟩ := class_grown w5
      have x1 := fun s => kept_cell (gk s) y1
      have x5 := fun s => kept_cell (gk s) y5
      have z0 := fun s => kept_cell (hw5.trans ((gk s).mono hw5.size)) a0
      clear y0 y1 y2 y3 y4 y5 a0
      refine wp_region_kept f (by kernel_rfl) (by kernel_rfl) g0 ?_
      repeat (first
        | go_big_quiet_skip
        | (go_big_quiet_want; go_big_quiet_op; first
            | go_big_quiet_on))
      refine wpQuiet_nil ?_
      intro w6 h5
      have hb6 := ge _ h5
      go_wp2
      go_ret
      exact ⟨rfl, hw5.trans (hb6.mono hw5.size)⟩
    have e7 : (cf == frm) = true := by simp [hc]
    obtain rfl : Z = vr := by rw [HZ1.out, HC4.out hc]
    clear HZ1 HC2 HC4 hc
    have hb0 := below_bx w (.cells #[.int .i64 4, .int .i64 frm, .int .i64 view, .int .i64 seq, .string op, .slice (some a) 1 c] 34)
    have hK := Blk.fresh w 34 [.int .i64 4, .int .i64 frm, .int .i64 view, .int .i64 seq, .string op, .slice (some a) 1 c]
    simp only [List.toArray] at hK
    go_enter Tryd.func32, Tryd.ntmps32
    go_wp2_with (go_at_call 55; (with_reducible refine (I1.out _).mono ?_); rintro e w1 ⟨rfl, rfl⟩)
    generalize w.alloc (.cells #[.int .i64 4, .int .i64 frm, .int .i64 view, .int .i64 seq, .string op, .slice (some a) 1 c] 34) = w1 at hK hb0 ⊢
    obtain ⟨I, f, hI, g0, gk, gc, ge⟩ := class_grown w1
    have x1 := fun s => kept_cell (gk s) (hK.cell (i := 1) rfl)
    have x2 := fun s => kept_cell (gk s) (hK.cell (i := 2) rfl)
    refine wp_region_kept f (by kernel_rfl) (by kernel_rfl) g0 ?_
    repeat (first
      | go_big_quiet_skip
      | (go_big_quiet_want; go_big_quiet_op; first
          | go_big_quiet_on
          | (apply Exists.intro; refine ⟨fun s => ?_, ?_⟩; (first | (go_at_call 56; (with_reducible refine (LD.out _).mono ?_); rintro e w4 ⟨rfl, rfl⟩; exact ⟨rfl, gc _ _ (Below.refl _ _)⟩)); go_big_quiet_on)))
    refine wpQuiet_nil ?_
    intro w5 h5
    have hb5 := ge _ h5
    clear x1 x2
    have hK5 := hK.below hb5 hK.lt
    have hw5 := hb0.trans (hb5.mono hb0.size)
    clear hK hb0 hb5 hI g0 gk gc ge h5
    have y0 := hK5.cell (i := 0) rfl
    have y1 := hK5.cell (i := 1) rfl
    have y2 := hK5.cell (i := 2) rfl
    have y3 := hK5.cell (i := 3) rfl
    have y4 := hK5.cell (i := 4) rfl
    have y5 := hK5.cell (i := 5) rfl
    clear e6
    go_wp2_with (fail)
    obtain ⟨I, f, hI, g0, gk, gc, ge⟩ := class_grown w5
    have x0 := fun s => kept_cell (gk s) y0
    have x1 := fun s => kept_cell (gk s) y1
    have x2 := fun s => kept_cell (gk s) y2
    have x3 := fun s => kept_cell (gk s) y3
    have x4 := fun s => kept_cell (gk s) y4
    have x5 := fun s => kept_cell (gk s) y5
    have z0 := fun s => kept_cell (hw5.trans ((gk s).mono hw5.size)) a0
    have TR := Lib.hid (fun s => VR.out (f s) (hw5.trans ((gk s).mono hw5.size)))
    clear y0 y1 y2 y3 y4 y5 a0
    refine wp_region_kept f (by kernel_rfl) (by kernel_rfl) g0 ?_
    repeat (first
      | go_big_quiet_skip
      | (go_big_quiet_want; go_big_quiet_op; first
          | go_big_quiet_on
          | (apply Exists.intro; refine ⟨fun s => ?_, ?_⟩; (first | (go_at_call 58; (with_reducible refine (TR.out _).mono ?_); rintro e w4 ⟨rfl, hb4⟩; exact ⟨rfl, gc _ _ hb4⟩)); go_big_quiet_on)))
    refine wpQuiet_nil ?_
    intro w6 h5
    have hb6 := ge _ h5
    go_wp2
    go_ret
    exact ⟨rfl, hw5.trans (hb6.mono hw5.size)⟩
  by_cases hk5 : kind = 5
  · subst hk5
    have HZ1 : Hid (Z = (decide (0 ≤ view ∧ view ≤ 7) && R3)) := Lib.hid (by rw [HZ.out, HW.out rfl])
    clear HN HC HW HO HN2 HC2 HZ HC3 Hnu NU Hvr
    by_cases hl : frm = ld
    rotate_left
    · have e6 : (frm == ld) = false := by simp [hl]
      obtain rfl : Z = false := by rw [HZ1.out, HW2.out]; simp [hl]
      clear HZ1 HW2 HW3 VR hl
      have hb0 := below_bx w (.cells #[.int .i64 5, .int .i64 frm, .int .i64 view, .int .i64 seq, .string op, .slice A L.length c] 34)
      have hK := Blk.fresh w 34 [.int .i64 5, .int .i64 frm, .int .i64 view, .int .i64 seq, .string op, .slice A L.length c]
      simp only [List.toArray] at hK
      go_enter Tryd.func32, Tryd.ntmps32
      go_wp2_with (go_at_call 55; (with_reducible refine (I1.out _).mono ?_); rintro e w1 ⟨rfl, rfl⟩)
      generalize w.alloc (.cells #[.int .i64 5, .int .i64 frm, .int .i64 view, .int .i64 seq, .string op, .slice A L.length c] 34) = w1 at hK hb0 ⊢
      obtain ⟨I, f, hI, g0, gk, gc, ge⟩ := class_grown w1
      have x1 := fun s => kept_cell (gk s) (hK.cell (i := 1) rfl)
      have x2 := fun s => kept_cell (gk s) (hK.cell (i := 2) rfl)
      refine wp_region_kept f (by kernel_rfl) (by kernel_rfl) g0 ?_
      repeat (first
        | go_big_quiet_skip
        | (go_big_quiet_want; go_big_quiet_op; first
            | go_big_quiet_on
            | (apply Exists.intro; refine ⟨fun s => ?_, ?_⟩; (first | (go_at_call 56; (with_reducible refine (LD.out _).mono ?_); rintro e w4 ⟨rfl, rfl⟩; exact ⟨rfl, gc _ _ (Below.refl _ _)⟩)); go_big_quiet_on)))
      refine wpQuiet_nil ?_
      intro w5 h5
      have hb5 := ge _ h5
      clear x1 x2
      have hK5 := hK.below hb5 hK.lt
      have hw5 := hb0.trans (hb5.mono hb0.size)
      clear hK hb0 hb5 hI g0 gk gc ge h5
      have y0 := hK5.cell (i := 0) rfl
      have y1 := hK5.cell (i := 1) rfl
      have y2 := hK5.cell (i := 2) rfl
      have y3 := hK5.cell (i := 3) rfl
      have y4 := hK5.cell (i := 4) rfl
      have y5 := hK5.cell (i := 5) rfl
      go_wp2
      go_ret
      exact ⟨rfl, hw5⟩
    have e6 : (frm == ld) = true := by simp [hl]
    have HZ2 : Hid (Z = (decide (3 ≤ (L.length : Int) ∧ (L.length : Int) ≤ 4) && vr)) := Lib.hid (by rw [HZ1.out, HW3.out hl])
    clear HZ1 HW2 HW3 hl
    rcases Bool.eq_false_or_eq_true (decide (3 ≤ (L.length : Int) ∧ (L.length : Int) ≤ 4)) with h3 | h3
    rotate_left
    · have I3 := Lib.hid (fun W => inQ_any h3 W)
      rw [h3] at HZ2
      obtain rfl : Z = false := by rw [HZ2.out]; rfl
      clear HZ2 VR
      have hb0 := below_bx w (.cells #[.int .i64 5, .int .i64 frm, .int .i64 view, .int .i64 seq, .string op, .slice A L.length c] 34)
      have hK := Blk.fresh w 34 [.int .i64 5, .int .i64 frm, .int .i64 view, .int .i64 seq, .string op, .slice A L.length c]
      simp only [List.toArray] at hK
      go_enter Tryd.func32, Tryd.ntmps32
      go_wp2_with (go_at_call 55; (with_reducible refine (I1.out _).mono ?_); rintro e w1 ⟨rfl, rfl⟩)
      generalize w.alloc (.cells #[.int .i64 5, .int .i64 frm, .int .i64 view, .int .i64 seq, .string op, .slice A L.length c] 34) = w1 at hK hb0 ⊢
      obtain ⟨I, f, hI, g0, gk, gc, ge⟩ := class_grown w1
      have x1 := fun s => kept_cell (gk s) (hK.cell (i := 1) rfl)
      have x2 := fun s => kept_cell (gk s) (hK.cell (i := 2) rfl)
      refine wp_region_kept f (by kernel_rfl) (by kernel_rfl) g0 ?_
      repeat (first
        | go_big_quiet_skip
        | (go_big_quiet_want; go_big_quiet_op; first
            | go_big_quiet_on
            | (apply Exists.intro; refine ⟨fun s => ?_, ?_⟩; (first | (go_at_call 56; (with_reducible refine (LD.out _).mono ?_); rintro e w4 ⟨rfl, rfl⟩; exact ⟨rfl, gc _ _ (Below.refl _ _)⟩)); go_big_quiet_on)))
      refine wpQuiet_nil ?_
      intro w5 h5
      have hb5 := ge _ h5
      clear x1 x2
      have hK5 := hK.below hb5 hK.lt
      have hw5 := hb0.trans (hb5.mono hb0.size)
      clear hK hb0 hb5 hI g0 gk gc ge h5
      have y0 := hK5.cell (i := 0) rfl
      have y1 := hK5.cell (i := 1) rfl
      have y2 := hK5.cell (i := 2) rfl
      have y3 := hK5.cell (i := 3) rfl
      have y4 := hK5.cell (i := 4) rfl
      have y5 := hK5.cell (i := 5) rfl
      go_wp2_with (go_at_call 41; (with_reducible refine (I3.out _).mono ?_); rintro e w6 ⟨rfl, rfl⟩)
      go_ret
      exact ⟨rfl, hw5⟩
    have I3 := Lib.hid (fun W => inQ_any h3 W)
    rw [h3] at HZ2
    obtain rfl : Z = vr := by rw [HZ2.out]; rfl
    clear HZ2
    have hb0 := below_bx w (.cells #[.int .i64 5, .int .i64 frm, .int .i64 view, .int .i64 seq, .string op, .slice A L.length c] 34)
    have hK := Blk.fresh w 34 [.int .i64 5, .int .i64 frm, .int .i64 view, .int .i64 seq, .string op, .slice A L.length c]
    simp only [List.toArray] at hK
    go_enter Tryd.func32, Tryd.ntmps32
    go_wp2_with (go_at_call 55; (with_reducible refine (I1.out _).mono ?_); rintro e w1 ⟨rfl, rfl⟩)
    generalize w.alloc (.cells #[.int .i64 5, .int .i64 frm, .int .i64 view, .int .i64 seq, .string op, .slice A L.length c] 34) = w1 at hK hb0 ⊢
    obtain ⟨I, f, hI, g0, gk, gc, ge⟩ := class_grown w1
    have x1 := fun s => kept_cell (gk s) (hK.cell (i := 1) rfl)
    have x2 := fun s => kept_cell (gk s) (hK.cell (i := 2) rfl)
    refine wp_region_kept f (by kernel_rfl) (by kernel_rfl) g0 ?_
    repeat (first
      | go_big_quiet_skip
      | (go_big_quiet_want; go_big_quiet_op; first
          | go_big_quiet_on
          | (apply Exists.intro; refine ⟨fun s => ?_, ?_⟩; (first | (go_at_call 56; (with_reducible refine (LD.out _).mono ?_); rintro e w4 ⟨rfl, rfl⟩; exact ⟨rfl, gc _ _ (Below.refl _ _)⟩)); go_big_quiet_on)))
    refine wpQuiet_nil ?_
    intro w5 h5
    have hb5 := ge _ h5
    clear x1 x2
    have hK5 := hK.below hb5 hK.lt
    have hw5 := hb0.trans (hb5.mono hb0.size)
    clear hK hb0 hb5 hI g0 gk gc ge h5
    have y0 := hK5.cell (i := 0) rfl
    have y1 := hK5.cell (i := 1) rfl
    have y2 := hK5.cell (i := 2) rfl
    have y3 := hK5.cell (i := 3) rfl
    have y4 := hK5.cell (i := 4) rfl
    have y5 := hK5.cell (i := 5) rfl
    go_wp2_with (first | (go_at_call 41; (with_reducible refine (I3.out _).mono ?_); rintro e w6 ⟨rfl, rfl⟩) | (go_at_call 58; (with_reducible refine (VR.out _ hw5).mono ?_); rintro e w6 ⟨rfl, hb6⟩))
    go_ret
    exact ⟨rfl, hw5.trans (hb6.mono hw5.size)⟩
  obtain rfl : Z = false := by rw [HZ.out, HO.out hk1 hk2 hk3 hk4 hk5]; simp
  have e1 : (kind == 1) = false := by simp; exact hk1
  have e2 : (kind == 2) = false := by simp; exact hk2
  have e3 : (kind == 3) = false := by simp; exact hk3
  have e4 : (kind == 4) = false := by simp; exact hk4
  have e5 : (kind == 5) = false := by simp; exact hk5
  clear HN HC HW HO HN2 HC2 HW2 HZ HC3 HW3 Hnu NU Hvr VR
  obtain ⟨b, Hb⟩ : ∃ b, Hid ((frm == ld) = b) := ⟨_, Lib.hid rfl⟩
  have e6 := Hb.out
  have hb0 := below_bx w (.cells #[.int .i64 kind, .int .i64 frm, .int .i64 view, .int .i64 seq, .string op, .slice A L.length c] 34)
  have hK := Blk.fresh w 34 [.int .i64 kind, .int .i64 frm, .int .i64 view, .int .i64 seq, .string op, .slice A L.length c]
  simp only [List.toArray] at hK
  go_enter Tryd.func32, Tryd.ntmps32
  go_wp2_with (go_at_call 55; (with_reducible refine (I1.out _).mono ?_); rintro e w1 ⟨rfl, rfl⟩)
  generalize w.alloc (.cells #[.int .i64 kind, .int .i64 frm, .int .i64 view, .int .i64 seq, .string op, .slice A L.length c] 34) = w1 at hK hb0 ⊢
  obtain ⟨I, f, hI, g0, gk, gc, ge⟩ := class_grown w1
  have x1 := fun s => kept_cell (gk s) (hK.cell (i := 1) rfl)
  have x2 := fun s => kept_cell (gk s) (hK.cell (i := 2) rfl)
  refine wp_region_kept f (by kernel_rfl) (by kernel_rfl) g0 ?_
  repeat (first
    | go_big_quiet_skip
    | (go_big_quiet_want; go_big_quiet_op; first
        | go_big_quiet_on
        | (apply Exists.intro; refine ⟨fun s => ?_, ?_⟩; (first | (go_at_call 56; (with_reducible refine (LD.out _).mono ?_); rintro e w4 ⟨rfl, rfl⟩; exact ⟨rfl, gc _ _ (Below.refl _ _)⟩)); go_big_quiet_on)))
  refine wpQuiet_nil ?_
  intro w5 h5
  have hb5 := ge _ h5
  clear x1 x2
  have hK5 := hK.below hb5 hK.lt
  have hw5 := hb0.trans (hb5.mono hb0.size)
  clear hK hb0 hb5 hI g0 gk gc ge h5
  have y0 := hK5.cell (i := 0) rfl
  have y1 := hK5.cell (i := 1) rfl
  have y2 := hK5.cell (i := 2) rfl
  have y3 := hK5.cell (i := 3) rfl
  have y4 := hK5.cell (i := 4) rfl
  have y5 := hK5.cell (i := 5) rfl
  clear e6
  go_wp2
  go_ret
  exact ⟨rfl, hw5⟩
theorem bothSayRight (t : Sy) (hf : t.fits) (hs : t.small) : ∃ r : Bool,
    (∀ A c W, Chs W 0 W.heap.size A t.changes → Calls Tryd.prog 78 #[syV t (.slice A t.changes.length c)] W fun e w' => e = .returned (.bool r) ∧ Below W.heap.size W w') ∧
    (∀ A c W, Chs W 0 W.heap.size A t.changes → Calls Tryd.prog 32 #[syV t (.slice A t.changes.length c)] W fun e w' => e = .returned (.bool r) ∧ Below W.heap.size W w') :=
  ⟨sayB t, fun A c W h => specSayRight_any t A c W hf h, fun A c W h => implSayRight_any t A c W hf h⟩
end Go.Proofs.YtjnbhppnchmeoaaDoor

namespace Go.Proofs.YtjnbhppnchmeoaaDoor
open Go.RowKit
set_option linter.unusedVariables false
theorem tooLong_any (s : ByteArray) (w : World) (hs : s.size ≤ maxLen) : Calls Tryd.prog 20 #[.string s] w fun e w' => e = .returned (.bool (decide (20000 < s.size))) ∧ w' = w := by
  unfold maxLen at hs
  go_enter Tryd.func20, Tryd.ntmps20
  go_wp2
  go_ret
  exact ⟨retB (by simp; omega), rfl⟩
end Go.Proofs.YtjnbhppnchmeoaaDoor

namespace Go.Proofs.YtjnbhppnchmeoaaDoor
open Go.RowKit
set_option linter.unusedVariables false
set_option linter.unusedSimpArgs false
set_option maxRecDepth 1000000

def zeroY : Sy := ⟨0, 0, 0, 0, ⟨#[]⟩, []⟩
/-- SayRead. -/
def goodY (s : ByteArray) : Bool := ((rSy s).2 == some s.size) && sayB (rSy s).1
def syRead (s : ByteArray) : Sy × Int := if 20000 < s.size then (zeroY, 2) else if goodY s = true then ((rSy s).1, 0) else (zeroY, 3)
abbrev soutV (y : Sy) (x : Value) (cd : Int) : Value := .agg #[.int .i64 y.kind, .int .i64 y.frm, .int .i64 y.view, .int .i64 y.seq, .string y.op, x, .int .i64 cd]
/-- An answer whose rows are the call's own. -/
def SyOutO (w w' : World) (e : Ending) (y : Sy) (cd : Int) : Prop := ∃ (A : Option Addr) (c : Nat) (CL : List CM), e = .returned (soutV y (.slice A y.changes.length c) cd) ∧ w'.ownsRow w.heap.size 66 3 (.slice A y.changes.length c) y.changes.length (cflat (CL.map CM.m)) ∧
  (CL.map CM.m).map (·.t) = y.changes ∧ CngsO w' w.heap.size CL ∧ Below w.heap.size w w'
theorem SyOutO.zero {w w' : World} {cd : Int} (h : Below w.heap.size w w') : SyOutO w w' (.returned (soutV zeroY (.slice none 0 0) cd)) zeroY cd :=
  ⟨none, 0, [], rfl, World.ownsRow_nil _ _ _ _, rfl, CngsO.nil _ _, h⟩
theorem implSayRead_size (s : ByteArray) (w : World) (hs : s.size ≤ maxLen) (h : 20000 < s.size) :
    Calls Tryd.prog 11 #[.string s] w fun e w' => SyOutO w w' e (syRead s).1 (syRead s).2 := by
  have hr : syRead s = (zeroY, 2) := by unfold syRead; rw [if_pos h]
  rw [hr]
  have TL := Lib.hid (fun W => tooLong_any s W hs)
  rw [decide_eq_true h] at TL
  go_enter Tryd.func11, Tryd.ntmps11
  go_wp2_with (go_at_call 20; (with_reducible refine (TL.out _).mono ?_); rintro e w1 ⟨rfl, rfl⟩)
  exact bodyPost_ret (v := soutV zeroY (.slice none 0 0) 2) (by simp [results, Tryd.results11, go_sem, zeroY]) rfl (SyOutO.zero (below_bx _ _))
/-- What impl.SayRead knows while it reads changes. -/
def SRI (w wr : World) (P : Nat) (s : ByteArray) (a0 a1 a2 a3 : Int) (a4 : ByteArray) (o : Option Nat) (L : List Cng) (A : Option Addr) (j c : Nat) (M : List CM) : Prop :=
  Rdr 55 wr (w.heap.size + 1) s o ∧ Blk wr P 34 [.int .i64 a0, .int .i64 a1, .int .i64 a2, .int .i64 a3, .string a4, .slice A j c] ∧ wr.ownsRow (P + 1) 66 3 (.slice A j c) j (cflat (M.map CM.m)) ∧ CngsO wr (P + 1) M ∧ (M.map CM.m).map (·.t) = L ∧ Blk wr w.heap.size 36 [.int .i64 0, .int .i64 0, .int .i64 0, .int .i64 0, .string ⟨#[]⟩, .slice none 0 0, .int .i64 0] ∧ Below w.heap.size w wr
set_option maxHeartbeats 16000000 in
theorem implSayRead_in (s : ByteArray) (w : World) (hg : Handle w) (hs : s.size ≤ 20000) :
    Calls Tryd.prog 11 #[.string s] w fun e w' => SyOutO w w' e (syRead s).1 (syRead s).2 := by
  have hn2 : ¬ 20000 < s.size := by omega
  have hrc : syRead s = if goodY s = true then ((rSy s).1, 0) else (zeroY, 3) := by unfold syRead; rw [if_neg hn2]
  have TL := Lib.hid (fun W => tooLong_any s W (by unfold maxLen; omega))
  rw [decide_eq_false hn2] at TL
  obtain ⟨ii, hii, iz0, iz1, iz2⟩ := info_parts infoCng
  have hVl := hg.lt
  have hv : w.heap.size + 1 ≠ 0 := by omega
  have hfit := rSy_in hs
  have C0 := Lib.hid (fun W h1 h2 => implNum_any (w.heap.size + 1) s (some 0) W h1 h2 hs)
  obtain ⟨a0, o0, E0⟩ : ∃ x y, rN s (some 0) = (x, y) := ⟨_, _, rfl⟩
  rw [E0] at C0
  have C1 := Lib.hid (fun W h1 h2 => implNum_any (w.heap.size + 1) s o0 W h1 h2 hs)
  obtain ⟨a1, o1, E1⟩ : ∃ x y, rN s o0 = (x, y) := ⟨_, _, rfl⟩
  rw [E1] at C1
  have C2 := Lib.hid (fun W h1 h2 => implNum_any (w.heap.size + 1) s o1 W h1 h2 hs)
  obtain ⟨a2, o2, E2⟩ : ∃ x y, rN s o1 = (x, y) := ⟨_, _, rfl⟩
  rw [E2] at C2
  have C3 := Lib.hid (fun W h1 h2 => implNum_any (w.heap.size + 1) s o2 W h1 h2 hs)
  obtain ⟨a3, o3, E3⟩ : ∃ x y, rN s o2 = (x, y) := ⟨_, _, rfl⟩
  rw [E3] at C3
  have C4 := Lib.hid (fun W h1 h2 => implText_any (w.heap.size + 1) s o3 W h1 h2 hs)
  obtain ⟨a4, o4, E4⟩ : ∃ x y, rT s o3 = (x, y) := ⟨_, _, rfl⟩
  rw [E4] at C4
  have C5 := Lib.hid (fun W h1 h2 => count_any (w.heap.size + 1) s 4 o4 W h1 h2 hs)
  have hK0 := rM_in s (most := 4) (by decide) o4
  obtain ⟨K, o5, E5⟩ : ∃ x y, rM s 4 o4 = (x, y) := ⟨_, _, rfl⟩
  rw [E5] at C5 hK0
  have hRC : rSy s = (⟨a0, a1, a2, a3, a4, (rL (rCng s) K.toNat o5).1⟩, (rL (rCng s) K.toNat o5).2) := by unfold rSy; simp only [E0, E1, E2, E3, E4, E5]
  have HLN := Lib.hid (rL_len (rCng s) K.toNat o5)
  simp only at C0 C1 C2 C3 C4 C5 hK0
  obtain ⟨n, hn⟩ : ∃ n : Nat, K = n := ⟨K.toNat, by omega⟩
  subst hn
  rw [Int.toNat_natCast] at HLN hRC
  have hn4 : n ≤ 4 := by omega
  clear E0 E1 E2 E3 E4 E5 hK0
  obtain ⟨LN, HL⟩ : ∃ x, Hid (rL (rCng s) n o5 = x) := ⟨_, Lib.hid rfl⟩
  rw [HL.out] at HLN hRC
  obtain ⟨LL, oe⟩ := LN
  simp only at HLN hRC
  have hgd : goodY s = ((oe == some s.size) && sayB ⟨a0, a1, a2, a3, a4, LL⟩) := by unfold goodY; rw [hRC]
  rw [hRC] at hrc hfit
  obtain ⟨hf1, hf2⟩ := hfit
  have SRT := Lib.hid (fun W A c (h : Chs W w.heap.size W.heap.size A LL) => implSayRight_any ⟨a0, a1, a2, a3, a4, LL⟩ A c W hf1 h)
  have CC := Lib.hid (fun W h => complete_any (w.heap.size + 1) s oe W h hs)
  simp only [HLN.out] at SRT
  generalize (oe == some s.size) = fin at CC hgd
  generalize sayB ⟨a0, a1, a2, a3, a4, LL⟩ = rgt at SRT hgd
  have HG := Lib.hid hgd
  have HC := Lib.hid hrc
  clear hgd hrc hRC hf1
  generalize syRead s = res at HC ⊢
  have OX := (Blk.fresh w 36 [.int .i64 0, .int .i64 0, .int .i64 0, .int .i64 0, .string ⟨#[]⟩, .slice none 0 0, .int .i64 0]).alloc (.cells #[.string s, .int .i64 0, .bool false] 55)
  have OR := Blk.fresh (w.alloc (.cells #[.int .i64 0, .int .i64 0, .int .i64 0, .int .i64 0, .string ⟨#[]⟩, .slice none 0 0, .int .i64 0] 36)) 55 [.string s, .int .i64 0, .bool false]
  have B0 : Below w.heap.size w ((w.alloc (.cells #[.int .i64 0, .int .i64 0, .int .i64 0, .int .i64 0, .string ⟨#[]⟩, .slice none 0 0, .int .i64 0] 36)).alloc (.cells #[.string s, .int .i64 0, .bool false] 55)) := ((Below.refl _ w).alloc (Nat.le_refl _) _).alloc (by simp) _
  simp only [List.toArray, World.size_alloc] at OX OR
  replace OR : Blk ((w.alloc (.cells #[.int .i64 0, .int .i64 0, .int .i64 0, .int .i64 0, .string ⟨#[]⟩, .slice none 0 0, .int .i64 0] 36)).alloc (.cells #[.string s, .int .i64 0, .bool false] 55)) (w.heap.size + 1) 55 [.string s, .int .i64 0, .bool false] := OR
  replace OX : Blk ((w.alloc (.cells #[.int .i64 0, .int .i64 0, .int .i64 0, .int .i64 0, .string ⟨#[]⟩, .slice none 0 0, .int .i64 0] 36)).alloc (.cells #[.string s, .int .i64 0, .bool false] 55)) w.heap.size 36 [.int .i64 0, .int .i64 0, .int .i64 0, .int .i64 0, .string ⟨#[]⟩, .slice none 0 0, .int .i64 0] := OX
  go_enter Tryd.func11, Tryd.ntmps11
  go_wp2_with (first | (go_at_call 20; (with_reducible refine (TL.out _).mono ?_); rintro e w1 ⟨rfl, rfl⟩))
  generalize (w.alloc (.cells #[.int .i64 0, .int .i64 0, .int .i64 0, .int .i64 0, .string ⟨#[]⟩, .slice none 0 0, .int .i64 0] 36)).alloc (.cells #[.string s, .int .i64 0, .bool false] 55) = v0 at OX OR B0 ⊢
  have R0 : Rdr 55 v0 (w.heap.size + 1) s (some 0) := ⟨OR, Nat.zero_le _⟩
  clear OR TL
  refine (C0.out _ (Handle.below hg B0) R0).mono ?_
  rintro e w0 ⟨rfl, R_0, g0⟩
  have X_0 := OX.grown g0 (fun e => by have := Option.some.inj e; omega)
  have B_0 := below_grown B0 g0 (by omega)
  clear OX R0 B0 g0
  go_wp2_with (fail)
  refine (C1.out _ (Handle.below hg B_0) R_0).mono ?_
  rintro e w1 ⟨rfl, R_1, g1⟩
  have X_1 := X_0.grown g1 (fun e => by have := Option.some.inj e; omega)
  have B_1 := below_grown B_0 g1 (by omega)
  clear X_0 R_0 B_0 g1
  go_wp2_with (fail)
  refine (C2.out _ (Handle.below hg B_1) R_1).mono ?_
  rintro e w2 ⟨rfl, R_2, g2⟩
  have X_2 := X_1.grown g2 (fun e => by have := Option.some.inj e; omega)
  have B_2 := below_grown B_1 g2 (by omega)
  clear X_1 R_1 B_1 g2
  go_wp2_with (fail)
  refine (C3.out _ (Handle.below hg B_2) R_2).mono ?_
  rintro e w3 ⟨rfl, R_3, g3⟩
  have X_3 := X_2.grown g3 (fun e => by have := Option.some.inj e; omega)
  have B_3 := below_grown B_2 g3 (by omega)
  clear X_2 R_2 B_2 g3
  go_wp2_with (fail)
  refine (C4.out _ (Handle.below hg B_3) R_3).mono ?_
  rintro e w4 ⟨rfl, R_4, g4⟩
  have X_4 := X_3.grown g4 (fun e => by have := Option.some.inj e; omega)
  have B_4 := below_grown B_3 g4 (by omega)
  clear X_3 R_3 B_3 g4
  have P4 := Blk.fresh w4 34 [.int .i64 a0, .int .i64 a1, .int .i64 a2, .int .i64 a3, .string a4, .slice none 0 0]
  have b4 := below_bx w4 (.cells #[.int .i64 a0, .int .i64 a1, .int .i64 a2, .int .i64 a3, .string a4, .slice none 0 0] 34)
  simp only [List.toArray] at P4
  have X4 := X_4.below b4 X_4.lt
  have R4 := R_4.below b4
  have B4 := B_4.trans (b4.mono B_4.size)
  have hzr : w.heap.size + 1 < w4.heap.size := R_4.lt
  go_wp2_with (fail)
  generalize w4.alloc (.cells #[.int .i64 a0, .int .i64 a1, .int .i64 a2, .int .i64 a3, .string a4, .slice none 0 0] 34) = v4 at P4 b4 X4 R4 B4 ⊢
  clear b4 X_4 R_4 B_4
  generalize w4.heap.size = P at P4 hzr ⊢
  refine (C5.out _ (Handle.below hg B4) R4).mono ?_
  rintro e v5 ⟨rfl, R5, g5⟩
  have P5 := P4.grown g5 (fun e => by have := Option.some.inj e; omega)
  have X5 := X4.grown g5 (fun e => by have := Option.some.inj e; omega)
  have B5 := below_grown B4 g5 (by omega)
  clear P4 X4 R4 B4 g5 C0 C1 C2 C3 C4 C5
  go_wp2_with (fail)
  go_loopw [17] (fun i wr => ∃ (j : Nat) (A : Option Addr) (c : Nat) (M : List CM), j ≤ n ∧ i = .int .i64 j ∧ SRI w wr P s a0 a1 a2 a3 a4 (rL (rCng s) j o5).2 (rL (rCng s) j o5).1 A j c M) (fun i _ => n - (intOf i).toNat)
  case atStart => exact ⟨0, none, 0, [], by omega, rfl, ⟨R5, P5, World.ownsRow_nil _ _ _ _, CngsO.nil _ _, rfl, X5, B5⟩⟩
  case round =>
    clear R5 P5 X5 B5
    obtain ⟨j, A, c, M, hj, rfl, ⟨R, PK, ow, oM, hMt, XO, B⟩⟩ := hrel
    have H := Handle.below hg B
    by_cases hlt : j < n
    · have hlt' : (j : Int) < (n : Int) := by omega
      have HS := Lib.hid (rL_snoc (rCng s) j o5)
      have hln := rL_len (rCng s) j o5
      obtain ⟨⟨L, oj⟩, hLj⟩ : ∃ x, rL (rCng s) j o5 = x := ⟨_, rfl⟩
      rw [hLj] at HS R hMt hln
      simp only at HS R hMt hln
      clear hLj
      have CN := Lib.hid (fun W h1 h2 => implReadChange_any (w.heap.size + 1) s oj W h1 hv h2 hs)
      obtain ⟨⟨x, ox⟩, hx⟩ : ∃ y, rCng s oj = y := ⟨_, rfl⟩
      rw [hx] at HS CN
      simp only at HS CN
      clear hx
      have Rd := rdr_drew R
      have Bd := below_drew B
      have Hd : Handle wr.drew := Handle.below hg Bd
      have y0 := PK.drew.cell (i := 5) rfl
      have yf := PK.drew.froz 5
      have hpl := PK.lt
      have owd := ow.drew
      have PKd := PK.drew
      go_wp2_with (fail)
      go_region_law
        (first
          | (go_simp; go_at_call 31; (with_reducible refine (CN.out _ Hd Rd).mono ?_); rintro e u4 ⟨Ax, cx, Mx, rfl, oP, R4, g4⟩; have PK4 := PKd.grown g4 (fun e => by have := Option.some.inj e; omega); have y4 := PK4.cell (i := 5) rfl; have y4a := (PK4.alloc (.cells #[.int .i64 x.frm, .int .i64 x.view, .slice Ax x.proofs.length cx] 66)).cell (i := 5) rfl; have ow4 := World.ownsRow.kept owd g4 (.inr (fun e => by have := (owd.lt _ e).1; omega)); have zz := g4.size)
          | (refine step_append_lies _ (by rfl) _ _ _ (by rfl) (P + 1) 66 ii _ 3 40 Tryd.underlying32 hii iz0 iz1 iz2 rfl (by omega) (.slice A j c) j _ (by rfl) (World.ownsRow.alloc ow4 _)
                  ⟨u4.heap.size, 0, none⟩ 1 1 [.int .i64 x.frm, .int .i64 x.view, .slice Ax x.proofs.length cx] (by rfl) (by rfl) (World.news_of_block (cs := #[.int .i64 x.frm, .int .i64 x.view, .slice Ax x.proofs.length cx]) (t := 66) (fr := (0, 0)) (heap_alloc_new u4 _)) (by simp [Value.oneCell'])
                  (by omega) (by unfold maxLen; omega) (by omega) (by have := PK4.lt; simp only [World.size_alloc]; omega) (u4.heap.size + 1) (by simp) ?_; intro gg cap' u5 hown5 hgrow5 hat5 hlt5; have O5 := (PK4.alloc (.cells #[.int .i64 x.frm, .int .i64 x.view, .slice Ax x.proofs.length cx] 66)).grown hgrow5 (fun e => by have := (ow4.lt _ e.symm).1; omega); have y5 := O5.cell (i := 5) rfl; have f5 := O5.froz 5))
      all_goals
        have R6 := (((rdr_alloc R4 (.cells #[.int .i64 x.frm, .int .i64 x.view, .slice Ax x.proofs.length cx] 66)).grown hgrow5 (fun e => by have := (ow4.lt _ e.symm).1; omega)).far (p := ⟨P, 5, none⟩) (by simp; omega) (.slice (some ⟨gg, 0, none⟩) (j + 1) cap'))
        have PK6 := O5.put 5 (.slice (some ⟨gg, 0, none⟩) (j + 1) cap')
        simp only [List.set_cons_succ, List.set_cons_zero] at PK6
        have ow6 := row_far hown5 (p := ⟨P, 5, none⟩) (by simp) (.slice (some ⟨gg, 0, none⟩) (j + 1) cap')
        have X6 := ((((XO.drew.grown g4 (fun e => by have := Option.some.inj e; omega)).alloc (.cells #[.int .i64 x.frm, .int .i64 x.view, .slice Ax x.proofs.length cx] 66)).grown hgrow5 (fun e => by have := (ow4.lt _ e.symm).1; omega)).far (p := ⟨P, 5, none⟩) (by simp; omega) (.slice (some ⟨gg, 0, none⟩) (j + 1) cap'))
        have Ba := below_grown Bd g4 (by omega)
        have B6 := (below_row (Ba.alloc Ba.size (.cells #[.int .i64 x.frm, .int .i64 x.view, .slice Ax x.proofs.length cx] 66)) (Nat.le_refl _) hgrow5 (fun k e => by have := (ow4.lt k e).1; omega)).setCell (p := ⟨P, 5, none⟩) (by simp; omega) (.slice (some ⟨gg, 0, none⟩) (j + 1) cap')
        rw [show cflat (M.map CM.m) ++ [.int .i64 x.frm, .int .i64 x.view, .slice Ax x.proofs.length cx] = cflat ((M ++ [(⟨⟨x, Ax, cx⟩, Mx⟩ : CM)]).map CM.m) by rw [List.map_append, cflat_append]; rfl] at ow6
        have oM4 := ((oM.kept (grown_drew (World.grownBy.refl wr (some (w.heap.size + 1)))) (fun k e => by cases e; omega)).kept g4 (fun k e => by cases e; omega)).alloc (.cells #[.int .i64 x.frm, .int .i64 x.view, .slice Ax x.proofs.length cx] 66)
        have owa := World.ownsRow.alloc ow4 (.cells #[.int .i64 x.frm, .int .i64 x.view, .slice Ax x.proofs.length cx] 66)
        have oM6 := (oM4.row' owa (by decide) (by decide) hgrow5).set (p := ⟨P, 5, none⟩) (by simp) (.slice (some ⟨gg, 0, none⟩) (j + 1) cap')
        have oPr := row_far (World.ownsRow.kept (World.ownsRow.alloc oP.row (.cells #[.int .i64 x.frm, .int .i64 x.view, .slice Ax x.proofs.length cx] 66)) hgrow5 (own_apart (World.ownsRow.alloc oP.row (.cells #[.int .i64 x.frm, .int .i64 x.view, .slice Ax x.proofs.length cx] 66)) owa (by decide))) (p := ⟨P, 5, none⟩) (by simp; omega) (.slice (some ⟨gg, 0, none⟩) (j + 1) cap')
        have oPo := ((oP.own.alloc (.cells #[.int .i64 x.frm, .int .i64 x.view, .slice Ax x.proofs.length cx] 66)).row owa (by decide) hgrow5).set (p := ⟨P, 5, none⟩) (by simp; omega) (.slice (some ⟨gg, 0, none⟩) (j + 1) cap')
        have oN6 := oM6.snoc (mid := wr.drew.heap.size) (c := ⟨⟨x, Ax, cx⟩, Mx⟩) (CngO.mk oPr oP.all oPo) (fun i hi a e => (oM.lt i hi a e).2) (fun i hi a e => (oM.own.lt i hi a e).2) (by simp; omega)
        clear y0 yf y4 y4a y5 f5
        go_wp2_with (fail)
        exact ⟨⟨j + 1, _, _, M ++ [⟨⟨x, Ax, cx⟩, Mx⟩], by omega, by go_num, by rw [HS.out]; exact ⟨R6, PK6, ow6, oN6, by rw [List.map_append, List.map_append, hMt]; rfl, X6, B6⟩⟩, by simp [intOf]; omega⟩
    · obtain rfl : j = n := by omega
      rw [HL.out] at R hMt
      simp only at R hMt
      clear HL
      have CH := CngsO.read ow (by have := congrArg List.length hMt; simp at this; rw [this, HLN.out]) oM (fun cm hc p hp => by
        have h1 : cm.m.t ∈ LL := by rw [← hMt]; exact List.mem_map.2 ⟨cm.m, List.mem_map.2 ⟨cm, hc, rfl⟩, rfl⟩
        obtain ⟨i, hi, he⟩ := List.getElem_of_mem hc
        have h2 := oM.all i hi
        rw [he] at h2
        exact hf2 _ h1 _ (by rw [← h2]; exact List.mem_map.2 ⟨p, hp, rfl⟩))
      rw [hMt] at CH
      have Cx := CC.out wr R
      have p0 := PK.cell (i := 0) rfl
      have p1 := PK.cell (i := 1) rfl
      have p2 := PK.cell (i := 2) rfl
      have p3 := PK.cell (i := 3) rfl
      have p4 := PK.cell (i := 4) rfl
      have p5 := PK.cell (i := 5) rfl
      go_wp2_with (fail)
      refine Cx.mono ?_
      rintro e wy ⟨rfl, hby⟩
      clear p0 p1 p2 p3 p4 p5
      replace XO := XO.below hby XO.lt
      replace PK := PK.below hby PK.lt
      replace B := B.trans (hby.mono B.size)
      replace ow := row_below ow hby (Nat.le_refl _)
      replace oM := oM.kept (grown_below (row := none) hby) (fun k e => by cases e)
      replace CH := CH.on hby
      clear R H hby Cx
      cases fin
      · obtain rfl : res = (zeroY, 3) := by rw [HC.out, HG.out]; rfl
        have z0 := XO.cell (i := 0) rfl
        have y0 := XO.froz 0
        have z1 := XO.cell (i := 1) rfl
        have y1 := XO.froz 1
        have z2 := XO.cell (i := 2) rfl
        have y2 := XO.froz 2
        have z3 := XO.cell (i := 3) rfl
        have y3 := XO.froz 3
        have z4 := XO.cell (i := 4) rfl
        have y4 := XO.froz 4
        have z5 := XO.cell (i := 5) rfl
        have y5 := XO.froz 5
        have z6 := XO.cell (i := 6) rfl
        have y6 := XO.froz 6
        go_wp2
        have Xf := (((((((XO.put 0 (.int .i64 0)).put 1 (.int .i64 0)).put 2 (.int .i64 0)).put 3 (.int .i64 0)).put 4 (.string ⟨#[]⟩)).put 5 (.slice none 0 0)).put 6 (.int .i64 3))
        simp only [List.set_cons_succ, List.set_cons_zero] at Xf
        have Bf := (((((((B.setCell (p := ⟨w.heap.size, 0, none⟩) (Nat.le_refl _) (.int .i64 0)).setCell (p := ⟨w.heap.size, 1, none⟩) (Nat.le_refl _) (.int .i64 0)).setCell (p := ⟨w.heap.size, 2, none⟩) (Nat.le_refl _) (.int .i64 0)).setCell (p := ⟨w.heap.size, 3, none⟩) (Nat.le_refl _) (.int .i64 0)).setCell (p := ⟨w.heap.size, 4, none⟩) (Nat.le_refl _) (.string ⟨#[]⟩)).setCell (p := ⟨w.heap.size, 5, none⟩) (Nat.le_refl _) (.slice none 0 0)).setCell (p := ⟨w.heap.size, 6, none⟩) (Nat.le_refl _) (.int .i64 3))
        generalize (((((((wy.setCell ⟨w.heap.size, 0, none⟩ (.int .i64 0)).setCell ⟨w.heap.size, 1, none⟩ (.int .i64 0)).setCell ⟨w.heap.size, 2, none⟩ (.int .i64 0)).setCell ⟨w.heap.size, 3, none⟩ (.int .i64 0)).setCell ⟨w.heap.size, 4, none⟩ (.string ⟨#[]⟩)).setCell ⟨w.heap.size, 5, none⟩ (.slice none 0 0)).setCell ⟨w.heap.size, 6, none⟩ (.int .i64 3)) = w9 at Xf Bf ⊢
        have k0 := Xf.cell (i := 0) rfl
        have k1 := Xf.cell (i := 1) rfl
        have k2 := Xf.cell (i := 2) rfl
        have k3 := Xf.cell (i := 3) rfl
        have k4 := Xf.cell (i := 4) rfl
        have k5 := Xf.cell (i := 5) rfl
        have k6 := Xf.cell (i := 6) rfl
        refine bodyPost_ret (v := .agg #[.int .i64 0, .int .i64 0, .int .i64 0, .int .i64 0, .string ⟨#[]⟩, .slice none 0 0, .int .i64 3]) (by simp [results, Tryd.results11, go_sem, k0, k1, k2, k3, k4, k5, k6]) rfl (SyOutO.zero Bf)
      have ST := SRT.out wy A c (CH.mono (show w.heap.size ≤ P + 1 by omega) (Nat.le_refl _))
      have p0 := PK.cell (i := 0) rfl
      have p1 := PK.cell (i := 1) rfl
      have p2 := PK.cell (i := 2) rfl
      have p3 := PK.cell (i := 3) rfl
      have p4 := PK.cell (i := 4) rfl
      have p5 := PK.cell (i := 5) rfl
      go_wp2_with (fail)
      refine ST.mono ?_
      rintro e wx ⟨rfl, hbx⟩
      clear p0 p1 p2 p3 p4 p5 SRT CC
      replace XO := XO.below hbx XO.lt
      replace PK := PK.below hbx PK.lt
      replace B := B.trans (hbx.mono B.size)
      replace ow := row_below ow hbx (Nat.le_refl _)
      replace oM := oM.kept (grown_below (row := none) hbx) (fun k e => by cases e)
      replace CH := CH.on hbx
      clear hbx
      cases rgt
      · obtain rfl : res = (zeroY, 3) := by rw [HC.out, HG.out]; rfl
        have z0 := XO.cell (i := 0) rfl
        have y0 := XO.froz 0
        have z1 := XO.cell (i := 1) rfl
        have y1 := XO.froz 1
        have z2 := XO.cell (i := 2) rfl
        have y2 := XO.froz 2
        have z3 := XO.cell (i := 3) rfl
        have y3 := XO.froz 3
        have z4 := XO.cell (i := 4) rfl
        have y4 := XO.froz 4
        have z5 := XO.cell (i := 5) rfl
        have y5 := XO.froz 5
        have z6 := XO.cell (i := 6) rfl
        have y6 := XO.froz 6
        go_wp2
        have Xf := (((((((XO.put 0 (.int .i64 0)).put 1 (.int .i64 0)).put 2 (.int .i64 0)).put 3 (.int .i64 0)).put 4 (.string ⟨#[]⟩)).put 5 (.slice none 0 0)).put 6 (.int .i64 3))
        simp only [List.set_cons_succ, List.set_cons_zero] at Xf
        have Bf := (((((((B.setCell (p := ⟨w.heap.size, 0, none⟩) (Nat.le_refl _) (.int .i64 0)).setCell (p := ⟨w.heap.size, 1, none⟩) (Nat.le_refl _) (.int .i64 0)).setCell (p := ⟨w.heap.size, 2, none⟩) (Nat.le_refl _) (.int .i64 0)).setCell (p := ⟨w.heap.size, 3, none⟩) (Nat.le_refl _) (.int .i64 0)).setCell (p := ⟨w.heap.size, 4, none⟩) (Nat.le_refl _) (.string ⟨#[]⟩)).setCell (p := ⟨w.heap.size, 5, none⟩) (Nat.le_refl _) (.slice none 0 0)).setCell (p := ⟨w.heap.size, 6, none⟩) (Nat.le_refl _) (.int .i64 3))
        generalize (((((((wx.setCell ⟨w.heap.size, 0, none⟩ (.int .i64 0)).setCell ⟨w.heap.size, 1, none⟩ (.int .i64 0)).setCell ⟨w.heap.size, 2, none⟩ (.int .i64 0)).setCell ⟨w.heap.size, 3, none⟩ (.int .i64 0)).setCell ⟨w.heap.size, 4, none⟩ (.string ⟨#[]⟩)).setCell ⟨w.heap.size, 5, none⟩ (.slice none 0 0)).setCell ⟨w.heap.size, 6, none⟩ (.int .i64 3)) = w9 at Xf Bf ⊢
        have k0 := Xf.cell (i := 0) rfl
        have k1 := Xf.cell (i := 1) rfl
        have k2 := Xf.cell (i := 2) rfl
        have k3 := Xf.cell (i := 3) rfl
        have k4 := Xf.cell (i := 4) rfl
        have k5 := Xf.cell (i := 5) rfl
        have k6 := Xf.cell (i := 6) rfl
        refine bodyPost_ret (v := .agg #[.int .i64 0, .int .i64 0, .int .i64 0, .int .i64 0, .string ⟨#[]⟩, .slice none 0 0, .int .i64 3]) (by simp [results, Tryd.results11, go_sem, k0, k1, k2, k3, k4, k5, k6]) rfl (SyOutO.zero Bf)
      obtain rfl : res = (⟨a0, a1, a2, a3, a4, LL⟩, 0) := by rw [HC.out, HG.out]; rfl
      have p0 := PK.cell (i := 0) rfl
      have p1 := PK.cell (i := 1) rfl
      have p2 := PK.cell (i := 2) rfl
      have p3 := PK.cell (i := 3) rfl
      have p4 := PK.cell (i := 4) rfl
      have p5 := PK.cell (i := 5) rfl
      have z0 := XO.cell (i := 0) rfl
      have y0 := XO.froz 0
      have z1 := XO.cell (i := 1) rfl
      have y1 := XO.froz 1
      have z2 := XO.cell (i := 2) rfl
      have y2 := XO.froz 2
      have z3 := XO.cell (i := 3) rfl
      have y3 := XO.froz 3
      have z4 := XO.cell (i := 4) rfl
      have y4 := XO.froz 4
      have z5 := XO.cell (i := 5) rfl
      have y5 := XO.froz 5
      have z6 := XO.cell (i := 6) rfl
      have y6 := XO.froz 6
      go_wp2
      have Xf := (((((((XO.put 0 (.int .i64 a0)).put 1 (.int .i64 a1)).put 2 (.int .i64 a2)).put 3 (.int .i64 a3)).put 4 (.string a4)).put 5 (.slice A j c)).put 6 (.int .i64 0))
      simp only [List.set_cons_succ, List.set_cons_zero] at Xf
      have Bf := (((((((B.setCell (p := ⟨w.heap.size, 0, none⟩) (Nat.le_refl _) (.int .i64 a0)).setCell (p := ⟨w.heap.size, 1, none⟩) (Nat.le_refl _) (.int .i64 a1)).setCell (p := ⟨w.heap.size, 2, none⟩) (Nat.le_refl _) (.int .i64 a2)).setCell (p := ⟨w.heap.size, 3, none⟩) (Nat.le_refl _) (.int .i64 a3)).setCell (p := ⟨w.heap.size, 4, none⟩) (Nat.le_refl _) (.string a4)).setCell (p := ⟨w.heap.size, 5, none⟩) (Nat.le_refl _) (.slice A j c)).setCell (p := ⟨w.heap.size, 6, none⟩) (Nat.le_refl _) (.int .i64 0))
      have of := (row_far (row_far (row_far (row_far (row_far (row_far (row_far ow (p := ⟨w.heap.size, 0, none⟩) (by simp; omega) (.int .i64 a0)) (p := ⟨w.heap.size, 1, none⟩) (by simp; omega) (.int .i64 a1)) (p := ⟨w.heap.size, 2, none⟩) (by simp; omega) (.int .i64 a2)) (p := ⟨w.heap.size, 3, none⟩) (by simp; omega) (.int .i64 a3)) (p := ⟨w.heap.size, 4, none⟩) (by simp; omega) (.string a4)) (p := ⟨w.heap.size, 5, none⟩) (by simp; omega) (.slice A j c)) (p := ⟨w.heap.size, 6, none⟩) (by simp; omega) (.int .i64 0))
      have oMf := (((((((oM.set (p := ⟨w.heap.size, 0, none⟩) (by simp; omega) (.int .i64 a0)).set (p := ⟨w.heap.size, 1, none⟩) (by simp; omega) (.int .i64 a1)).set (p := ⟨w.heap.size, 2, none⟩) (by simp; omega) (.int .i64 a2)).set (p := ⟨w.heap.size, 3, none⟩) (by simp; omega) (.int .i64 a3)).set (p := ⟨w.heap.size, 4, none⟩) (by simp; omega) (.string a4)).set (p := ⟨w.heap.size, 5, none⟩) (by simp; omega) (.slice A j c)).set (p := ⟨w.heap.size, 6, none⟩) (by simp; omega) (.int .i64 0))
      generalize (((((((wx.setCell ⟨w.heap.size, 0, none⟩ (.int .i64 a0)).setCell ⟨w.heap.size, 1, none⟩ (.int .i64 a1)).setCell ⟨w.heap.size, 2, none⟩ (.int .i64 a2)).setCell ⟨w.heap.size, 3, none⟩ (.int .i64 a3)).setCell ⟨w.heap.size, 4, none⟩ (.string a4)).setCell ⟨w.heap.size, 5, none⟩ (.slice A j c)).setCell ⟨w.heap.size, 6, none⟩ (.int .i64 0)) = w9 at Xf Bf of oMf ⊢
      have k0 := Xf.cell (i := 0) rfl
      have k1 := Xf.cell (i := 1) rfl
      have k2 := Xf.cell (i := 2) rfl
      have k3 := Xf.cell (i := 3) rfl
      have k4 := Xf.cell (i := 4) rfl
      have k5 := Xf.cell (i := 5) rfl
      have k6 := Xf.cell (i := 6) rfl
      refine bodyPost_ret (v := .agg #[.int .i64 a0, .int .i64 a1, .int .i64 a2, .int .i64 a3, .string a4, .slice A j c, .int .i64 0]) (by simp [results, Tryd.results11, go_sem, k0, k1, k2, k3, k4, k5, k6]) rfl ⟨A, c, M, ?_, ?_, hMt, oMf.low (by omega), Bf⟩
      · simp only [HLN.out]
      · simp only [HLN.out]
        exact own_base of (by omega)
theorem implSayRead_any (s : ByteArray) (w : World) (hg : Handle w) (hs : s.size ≤ maxLen) :
    Calls Tryd.prog 11 #[.string s] w fun e w' => SyOutO w w' e (syRead s).1 (syRead s).2 := by
  by_cases h : 20000 < s.size
  · exact implSayRead_size s w hs h
  · exact implSayRead_in s w hg (by omega)
end Go.Proofs.YtjnbhppnchmeoaaDoor

namespace Go.Proofs.YtjnbhppnchmeoaaDoor
open Go.RowKit
set_option linter.unusedVariables false

structure Chg (w w' : World) (lo hi : Nat) : Prop where
  os : w'.os = w.os
  tape : w'.tape = w.tape
  output : w'.output = w.output
  size : w.heap.size ≤ w'.heap.size
  block : ∀ k, k < w.heap.size → (k < lo ∨ hi ≤ k) → w'.heap[k]? = w.heap[k]?
section
variable {w w' w2 : World} {lo hi lo' hi' : Nat}
theorem Chg.of {row : Option Nat} (h : w.grownBy w' row) (hr : ∀ k, row = some k → lo ≤ k ∧ k < hi) : Chg w w' lo hi :=
  ⟨h.os, h.tape, h.output, h.size, fun k hk ho => h.block k hk fun e => by have := hr k e.symm; omega⟩
theorem Chg.trans (h : Chg w w' lo hi) (h2 : Chg w' w2 lo hi) : Chg w w2 lo hi :=
  ⟨h2.os.trans h.os, h2.tape.trans h.tape, h2.output.trans h.output, Nat.le_trans h.size h2.size, fun k hk ho => (h2.block k (by have := h.size; omega) ho).trans (h.block k hk ho)⟩
theorem Chg.after (hb : Below w.heap.size w w') (h : Chg w' w2 lo hi) : Chg w w2 lo hi :=
  ⟨h.os.trans hb.os, h.tape.trans hb.tape, h.output.trans hb.output, Nat.le_trans hb.size h.size, fun k hk ho => (h.block k (by have := hb.size; omega) ho).trans (hb.block k hk)⟩
theorem Chg.thenB (h : Chg w w' lo hi) (hb : Below w'.heap.size w' w2) : Chg w w2 lo hi :=
  ⟨hb.os.trans h.os, hb.tape.trans h.tape, hb.output.trans h.output, Nat.le_trans h.size hb.size, fun k hk ho => (hb.block k (by have := h.size; omega)).trans (h.block k hk ho)⟩
theorem Blk.offC {g : Nat} {t : TypeId} {cs : List Value} (h : Blk w g t cs) (hc : Chg w w' lo hi) (ho : g < lo ∨ hi ≤ g) : Blk w' g t cs := (hc.block g h.lt ho).trans h
theorem Rw.farC {e : TypeId} {size n : Nat} {v : Value} {xs : List Value} (h : Rw w lo' hi' e size v n xs) (hc : Chg w w' lo hi) (ho : hi' ≤ lo ∨ hi ≤ lo') : Rw w' lo' hi' e size v n xs := by
  refine ⟨?_, h.2⟩
  cases hv : v.ownBlock with
  | none =>
    have hg : w.grownBy w v.ownBlock := ⟨rfl, rfl, rfl, Nat.le_refl _, fun _ _ _ => rfl⟩
    rcases h.1.2 with ⟨he, h0⟩ | ⟨g, cap, cur, he, _⟩
    · exact ⟨h.1.1, .inl ⟨he, h0⟩⟩
    · rw [he] at hv; cases hv
  | some k =>
    have h1 := h.at k hv
    rcases h.1.2 with ⟨he, h0⟩ | ⟨g, cap, cur, he, hb, hh, hr⟩
    · rw [he] at hv; cases hv
    · rw [he] at hv
      cases hv
      exact ⟨h.1.1, .inr ⟨g, cap, cur, he, hb, (hc.block g (h.1.lt g (by rw [he]; rfl)).2 (by simp at h1; omega)).trans hh, hr⟩⟩
theorem below_offC {B : Nat} {a : World} (h : Below B a w) (hc : Chg w w' lo hi) (ho : B ≤ lo) (hB : B ≤ a.heap.size) : Below B a w' :=
  ⟨hc.os.trans h.os, hc.tape.trans h.tape, hc.output.trans h.output, Nat.le_trans h.size hc.size, fun k hk => (hc.block k (by have := h.size; omega) (by omega)).trans (h.block k hk)⟩
end
end Go.Proofs.YtjnbhppnchmeoaaDoor
