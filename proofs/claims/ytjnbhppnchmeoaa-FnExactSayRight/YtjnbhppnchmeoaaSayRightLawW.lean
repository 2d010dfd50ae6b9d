/- SayRight of impl. The walk of the law on SayRight. -/
import Derived.Test.YtjnbhppnchmeoaaSySRW
import Derived.Test.YtjnbhppnchmeoaaSyCRW
import Derived.Deep.RegionHeld3
namespace Go.Proofs.Ytjnbhppnchmeoaa
open Go.RowKit
set_option linter.unusedVariables false
set_option maxRecDepth 1000000

set_option maxHeartbeats 16000000 in
theorem implSayRight_any (y : Sy) (A : Option Addr) (c : Nat) (w : World) {lo : Nat} (hf : y.fits) (hA : Chs w lo w.heap.size A y.changes) :
    Calls Try.prog 45 #[syV y (.slice A y.changes.length c)] w fun e w' => e = .returned (.bool (sayB y)) ∧ Below w.heap.size w w' := by
  have HR : Hid (sayB y = (decide (0 ≤ y.frm ∧ y.frm ≤ 3) && (decide (0 ≤ y.view ∧ y.view ≤ 7) && restB y))) := Lib.hid rfl
  have HN := Lib.hid (rest_num (y := y))
  have HC := Lib.hid (rest_chg (y := y))
  have HW := Lib.hid (rest_new (y := y))
  have HO := Lib.hid (rest_no (y := y))
  have HN2 : Hid (numB y = (decide (1 ≤ y.seq ∧ y.seq ≤ 6) && (decide (y.op.size ≤ 120) && (decide (y.changes.length = 0) && decide (y.kind ≠ 1 ∨ y.frm = leadI y.view))))) := Lib.hid rfl
  have HC2 : Hid (chgB y = (decide (1 ≤ y.view) && (decide (y.seq = 0) && (decide (y.op.size = 0) && oneB y.frm y.view y.changes)))) := Lib.hid rfl
  have HW2 : Hid (newB y = (decide (1 ≤ y.view) && (decide (y.frm = leadI y.view) && (decide (y.seq = 0) && (decide (y.op.size = 0) && (cr y.view (-1) y.changes && decide (3 ≤ y.changes.length))))))) := Lib.hid rfl
  have HC3 := Lib.hid (fun c hc hf => chg_impl (y := y) (c := c) hc hf)
  have HW3 := Lib.hid (fun hl => new_impl (y := y) hl)
  have NU := Lib.hid (fun W => numbered_any y A c W hf.2.2.2.2.1 hA.1 rfl rfl rfl rfl)
  have VR := Lib.hid (fun W (h : Below w.heap.size w W) => viewRight_any y A c W hf (hA.on h) rfl rfl rfl)
  generalize sayB y = Z at HR ⊢
  generalize restB y = R at HR HN HC HW HO
  generalize numB y = R1 at HN HN2
  generalize chgB y = R2 at HC HC2 HC3
  generalize newB y = R3 at HW HW2 HW3
  obtain ⟨kind, frm, view, seq, op, L⟩ := y
  obtain ⟨f0, f1, f2, f3, f4, f5⟩ := hf
  simp only at f0 f1 f2 f3 f4 f5 hA HR HN HC HW HO HN2 HC2 HW2 HC3 HW3 NU VR ⊢
  have hn := hA.1
  unfold maxLen at hn
  rcases Bool.eq_false_or_eq_true (decide (0 ≤ frm ∧ frm ≤ 3)) with h1 | h1
  rotate_left
  · have I1 := Lib.hid (fun W => replQ_any h1 W)
    rw [h1] at HR
    obtain rfl : Z = false := by rw [HR.out]; rfl
    clear HR
    have hb0 := below_bx w (.cells #[.int .i64 kind, .int .i64 frm, .int .i64 view, .int .i64 seq, .string op, .slice A L.length c] 71)
    go_enter Try.func45, Try.ntmps45
    go_wp2_with (go_at_call 96; (with_reducible refine (I1.out _).mono ?_); rintro e w1 ⟨rfl, rfl⟩)
    go_ret
    exact ⟨rfl, hb0⟩
  have I1 := Lib.hid (fun W => replQ_any h1 W)
  have hv8 : (Lit.int .i64 view).wf = true := wf_in f2
  have LD := Lib.hid (fun W => implLeader_any view W hv8)
  rw [h1] at HR
  have HZ : Hid (Z = (decide (0 ≤ view ∧ view ≤ 7) && R)) := Lib.hid (by rw [HR.out]; rfl)
  clear HR h1
  generalize leadI view = ld at LD HN2 HW2 HW3
  obtain ⟨nu, Hnu⟩ : ∃ x, Hid ((decide (0 ≤ view ∧ view ≤ 7) && (decide (1 ≤ seq ∧ seq ≤ 6) && (decide (op.size ≤ 120) && decide (L.length = 0)))) = x) := ⟨_, Lib.hid rfl⟩
  obtain ⟨vr, Hvr⟩ : ∃ x, Hid ((decide (1 ≤ view ∧ view ≤ 7) && (decide (seq = 0) && (decide (op.size = 0) && cr view (-1) L))) = x) := ⟨_, Lib.hid rfl⟩
  rw [Hnu.out] at NU
  rw [Hvr.out] at VR HC3 HW3
  by_cases hk1 : kind = 1
  · subst hk1
    have HZ1 : Hid (Z = (decide (0 ≤ view ∧ view ≤ 7) && R1)) := Lib.hid (by rw [HZ.out, HN.out (by omega)])
    clear HN HC HW HO HC2 HW2 HZ HC3 HW3 Hvr VR
    by_cases hl : frm = ld
    rotate_left
    · have e6 : (frm == ld) = false := by simp [hl]
      obtain rfl : Z = false := by rw [HZ1.out, HN2.out]; simp [hl]
      clear HZ1 HN2 Hnu NU hl
      have hb0 := below_bx w (.cells #[.int .i64 1, .int .i64 frm, .int .i64 view, .int .i64 seq, .string op, .slice A L.length c] 71)
      have hK := Blk.fresh w 71 [.int .i64 1, .int .i64 frm, .int .i64 view, .int .i64 seq, .string op, .slice A L.length c]
      simp only [List.toArray] at hK
      go_enter Try.func45, Try.ntmps45
      go_wp2_with (go_at_call 96; (with_reducible refine (I1.out _).mono ?_); rintro e w1 ⟨rfl, rfl⟩)
      generalize w.alloc (.cells #[.int .i64 1, .int .i64 frm, .int .i64 view, .int .i64 seq, .string op, .slice A L.length c] 71) = w1 at hK hb0 ⊢
      obtain ⟨I, f, hI, g0, gk, gc, ge⟩ := class_grown w1
      have x1 := fun s => kept_cell (gk s) (hK.cell (i := 1) rfl)
      have x2 := fun s => kept_cell (gk s) (hK.cell (i := 2) rfl)
      refine wp_region_kept f (by kernel_rfl) (by kernel_rfl) g0 ?_
      repeat (first
        | go_big_quiet_skip
        | (go_big_quiet_want; go_big_quiet_op; first
            | go_big_quiet_on
            | (apply Exists.intro; refine ⟨fun s => ?_, ?_⟩; (first | (go_at_call 97; (with_reducible refine (LD.out _).mono ?_); rintro e w4 ⟨rfl, rfl⟩; exact ⟨rfl, gc _ _ (Below.refl _ _)⟩)); go_big_quiet_on)))
      refine wpQuiet_nil ?_
      intro w5 h5
      have hb5 := ge _ h5
      clear x1 x2
      have hK5 := hK.below hb5 hK.lt
      have hw5 := hb0.trans (hb5.mono hb0.size)
      clear hK hb0 hb5 hI g0 gk gc ge h5
      have y0 := hK5.cell (i := 0) rfl
      have y1 := hK5.cell (i := 1) rfl
      have y2 := hK5.cell (i := 2) rfl
      have y3 := hK5.cell (i := 3) rfl
      have y4 := hK5.cell (i := 4) rfl
      have y5 := hK5.cell (i := 5) rfl
      go_wp2
      go_ret
      exact ⟨rfl, hw5⟩
    have e6 : (frm == ld) = true := by simp [hl]
    obtain rfl : Z = nu := by rw [HZ1.out, HN2.out, ← Hnu.out]; simp [hl]
    clear HZ1 HN2 Hnu hl
    have hb0 := below_bx w (.cells #[.int .i64 1, .int .i64 frm, .int .i64 view, .int .i64 seq, .string op, .slice A L.length c] 71)
    have hK := Blk.fresh w 71 [.int .i64 1, .int .i64 frm, .int .i64 view, .int .i64 seq, .string op, .slice A L.length c]
    simp only [List.toArray] at hK
    go_enter Try.func45, Try.ntmps45
    go_wp2_with (go_at_call 96; (with_reducible refine (I1.out _).mono ?_); rintro e w1 ⟨rfl, rfl⟩)
    generalize w.alloc (.cells #[.int .i64 1, .int .i64 frm, .int .i64 view, .int .i64 seq, .string op, .slice A L.length c] 71) = w1 at hK hb0 ⊢
    obtain ⟨I, f, hI, g0, gk, gc, ge⟩ := class_grown w1
    have x1 := fun s => kept_cell (gk s) (hK.cell (i := 1) rfl)
    have x2 := fun s => kept_cell (gk s) (hK.cell (i := 2) rfl)
    refine wp_region_kept f (by kernel_rfl) (by kernel_rfl) g0 ?_
    repeat (first
      | go_big_quiet_skip
      | (go_big_quiet_want; go_big_quiet_op; first
          | go_big_quiet_on
          | (apply Exists.intro; refine ⟨fun s => ?_, ?_⟩; (first | (go_at_call 97; (with_reducible refine (LD.out _).mono ?_); rintro e w4 ⟨rfl, rfl⟩; exact ⟨rfl, gc _ _ (Below.refl _ _)⟩)); go_big_quiet_on)))
    refine wpQuiet_nil ?_
    intro w5 h5
    have hb5 := ge _ h5
    clear x1 x2
    have hK5 := hK.below hb5 hK.lt
    have hw5 := hb0.trans (hb5.mono hb0.size)
    clear hK hb0 hb5 hI g0 gk gc ge h5
    have y0 := hK5.cell (i := 0) rfl
    have y1 := hK5.cell (i := 1) rfl
    have y2 := hK5.cell (i := 2) rfl
    have y3 := hK5.cell (i := 3) rfl
    have y4 := hK5.cell (i := 4) rfl
    have y5 := hK5.cell (i := 5) rfl
    go_wp2_with (go_at_call 98; (with_reducible refine (NU.out _).mono ?_); rintro e w6 ⟨rfl, hb6⟩)
    go_ret
    exact ⟨rfl, hw5.trans (hb6.mono hw5.size)⟩
  by_cases hk2 : kind = 2
  · subst hk2
    have HZ1 : Hid (Z = (decide (0 ≤ view ∧ view ≤ 7) && R1)) := Lib.hid (by rw [HZ.out, HN.out (by omega)])
    clear HN HC HW HO HC2 HW2 HZ HC3 HW3 Hvr VR
    obtain rfl : Z = nu := by rw [HZ1.out, HN2.out, ← Hnu.out]; simp
    clear HZ1 HN2 Hnu
    obtain ⟨b, Hb⟩ : ∃ b, Hid ((frm == ld) = b) := ⟨_, Lib.hid rfl⟩
    have e6 := Hb.out
    have hb0 := below_bx w (.cells #[.int .i64 2, .int .i64 frm, .int .i64 view, .int .i64 seq, .string op, .slice A L.length c] 71)
    have hK := Blk.fresh w 71 [.int .i64 2, .int .i64 frm, .int .i64 view, .int .i64 seq, .string op, .slice A L.length c]
    simp only [List.toArray] at hK
    go_enter Try.func45, Try.ntmps45
    go_wp2_with (go_at_call 96; (with_reducible refine (I1.out _).mono ?_); rintro e w1 ⟨rfl, rfl⟩)
    generalize w.alloc (.cells #[.int .i64 2, .int .i64 frm, .int .i64 view, .int .i64 seq, .string op, .slice A L.length c] 71) = w1 at hK hb0 ⊢
    obtain ⟨I, f, hI, g0, gk, gc, ge⟩ := class_grown w1
    have x1 := fun s => kept_cell (gk s) (hK.cell (i := 1) rfl)
    have x2 := fun s => kept_cell (gk s) (hK.cell (i := 2) rfl)
    refine wp_region_kept f (by kernel_rfl) (by kernel_rfl) g0 ?_
    repeat (first
      | go_big_quiet_skip
      | (go_big_quiet_want; go_big_quiet_op; first
          | go_big_quiet_on
          | (apply Exists.intro; refine ⟨fun s => ?_, ?_⟩; (first | (go_at_call 97; (with_reducible refine (LD.out _).mono ?_); rintro e w4 ⟨rfl, rfl⟩; exact ⟨rfl, gc _ _ (Below.refl _ _)⟩)); go_big_quiet_on)))
    refine wpQuiet_nil ?_
    intro w5 h5
    have hb5 := ge _ h5
    clear x1 x2
    have hK5 := hK.below hb5 hK.lt
    have hw5 := hb0.trans (hb5.mono hb0.size)
    clear hK hb0 hb5 hI g0 gk gc ge h5
    have y0 := hK5.cell (i := 0) rfl
    have y1 := hK5.cell (i := 1) rfl
    have y2 := hK5.cell (i := 2) rfl
    have y3 := hK5.cell (i := 3) rfl
    have y4 := hK5.cell (i := 4) rfl
    have y5 := hK5.cell (i := 5) rfl
    clear e6
    go_wp2_with (go_at_call 98; (with_reducible refine (NU.out _).mono ?_); rintro e w6 ⟨rfl, hb6⟩)
    go_ret
    exact ⟨rfl, hw5.trans (hb6.mono hw5.size)⟩
  by_cases hk3 : kind = 3
  · subst hk3
    have HZ1 : Hid (Z = (decide (0 ≤ view ∧ view ≤ 7) && R1)) := Lib.hid (by rw [HZ.out, HN.out (by omega)])
    clear HN HC HW HO HC2 HW2 HZ HC3 HW3 Hvr VR
    obtain rfl : Z = nu := by rw [HZ1.out, HN2.out, ← Hnu.out]; simp
    clear HZ1 HN2 Hnu
    obtain ⟨b, Hb⟩ : ∃ b, Hid ((frm == ld) = b) := ⟨_, Lib.hid rfl⟩
    have e6 := Hb.out
    have hb0 := below_bx w (.cells #[.int .i64 3, .int .i64 frm, .int .i64 view, .int .i64 seq, .string op, .slice A L.length c] 71)
    have hK := Blk.fresh w 71 [.int .i64 3, .int .i64 frm, .int .i64 view, .int .i64 seq, .string op, .slice A L.length c]
    simp only [List.toArray] at hK
    go_enter Try.func45, Try.ntmps45
    go_wp2_with (go_at_call 96; (with_reducible refine (I1.out _).mono ?_); rintro e w1 ⟨rfl, rfl⟩)
    generalize w.alloc (.cells #[.int .i64 3, .int .i64 frm, .int .i64 view, .int .i64 seq, .string op, .slice A L.length c] 71) = w1 at hK hb0 ⊢
    obtain ⟨I, f, hI, g0, gk, gc, ge⟩ := class_grown w1
    have x1 := fun s => kept_cell (gk s) (hK.cell (i := 1) rfl)
    have x2 := fun s => kept_cell (gk s) (hK.cell (i := 2) rfl)
    refine wp_region_kept f (by kernel_rfl) (by kernel_rfl) g0 ?_
    repeat (first
      | go_big_quiet_skip
      | (go_big_quiet_want; go_big_quiet_op; first
          | go_big_quiet_on
          | (apply Exists.intro; refine ⟨fun s => ?_, ?_⟩; (first | (go_at_call 97; (with_reducible refine (LD.out _).mono ?_); rintro e w4 ⟨rfl, rfl⟩; exact ⟨rfl, gc _ _ (Below.refl _ _)⟩)); go_big_quiet_on)))
    refine wpQuiet_nil ?_
    intro w5 h5
    have hb5 := ge _ h5
    clear x1 x2
    have hK5 := hK.below hb5 hK.lt
    have hw5 := hb0.trans (hb5.mono hb0.size)
    clear hK hb0 hb5 hI g0 gk gc ge h5
    have y0 := hK5.cell (i := 0) rfl
    have y1 := hK5.cell (i := 1) rfl
    have y2 := hK5.cell (i := 2) rfl
    have y3 := hK5.cell (i := 3) rfl
    have y4 := hK5.cell (i := 4) rfl
    have y5 := hK5.cell (i := 5) rfl
    clear e6
    go_wp2_with (go_at_call 98; (with_reducible refine (NU.out _).mono ?_); rintro e w6 ⟨rfl, hb6⟩)
    go_ret
    exact ⟨rfl, hw5.trans (hb6.mono hw5.size)⟩
  by_cases hk4 : kind = 4
  · subst hk4
    have HZ1 : Hid (Z = (decide (0 ≤ view ∧ view ≤ 7) && R2)) := Lib.hid (by rw [HZ.out, HC.out rfl])
    clear HN HC HW HO HN2 HW2 HZ HW3 Hnu NU Hvr
    obtain ⟨b, Hb⟩ : ∃ b, Hid ((frm == ld) = b) := ⟨_, Lib.hid rfl⟩
    have e6 := Hb.out
    by_cases hl : L.length = 1
    rotate_left
    · have e7 : ((L.length : Int) == 1) = false := by simp; omega
      obtain rfl : Z = false := by rw [HZ1.out, HC2.out, oneB_len hl]; simp
      clear HZ1 HC2 HC3 VR hl
      have hb0 := below_bx w (.cells #[.int .i64 4, .int .i64 frm, .int .i64 view, .int .i64 seq, .string op, .slice A L.length c] 71)
      have hK := Blk.fresh w 71 [.int .i64 4, .int .i64 frm, .int .i64 view, .int .i64 seq, .string op, .slice A L.length c]
      simp only [List.toArray] at hK
      go_enter Try.func45, Try.ntmps45
      go_wp2_with (go_at_call 96; (with_reducible refine (I1.out _).mono ?_); rintro e w1 ⟨rfl, rfl⟩)
      generalize w.alloc (.cells #[.int .i64 4, .int .i64 frm, .int .i64 view, .int .i64 seq, .string op, .slice A L.length c] 71) = w1 at hK hb0 ⊢
      obtain ⟨I, f, hI, g0, gk, gc, ge⟩ := class_grown w1
      have x1 := fun s => kept_cell (gk s) (hK.cell (i := 1) rfl)
      have x2 := fun s => kept_cell (gk s) (hK.cell (i := 2) rfl)
      refine wp_region_kept f (by kernel_rfl) (by kernel_rfl) g0 ?_
      repeat (first
        | go_big_quiet_skip
        | (go_big_quiet_want; go_big_quiet_op; first
            | go_big_quiet_on
            | (apply Exists.intro; refine ⟨fun s => ?_, ?_⟩; (first | (go_at_call 97; (with_reducible refine (LD.out _).mono ?_); rintro e w4 ⟨rfl, rfl⟩; exact ⟨rfl, gc _ _ (Below.refl _ _)⟩)); go_big_quiet_on)))
      refine wpQuiet_nil ?_
      intro w5 h5
      have hb5 := ge _ h5
      clear x1 x2
      have hK5 := hK.below hb5 hK.lt
      have hw5 := hb0.trans (hb5.mono hb0.size)
      clear hK hb0 hb5 hI g0 gk gc ge h5
      have y0 := hK5.cell (i := 0) rfl
      have y1 := hK5.cell (i := 1) rfl
      have y2 := hK5.cell (i := 2) rfl
      have y3 := hK5.cell (i := 3) rfl
      have y4 := hK5.cell (i := 4) rfl
      have y5 := hK5.cell (i := 5) rfl
      clear e6
      go_wp2_with (fail)
      obtain ⟨I, f, hI, g0, gk, gc, ge⟩ := class_grown w5
      refine wp_region_kept f (by kernel_rfl) (by kernel_rfl) g0 ?_
      repeat (first
        | go_big_quiet_skip
        | (go_big_quiet_want; go_big_quiet_op; first
            | go_big_quiet_on))
      refine wpQuiet_nil ?_
      intro w6 h5
      have hb6 := ge _ h5
      go_wp2
      go_ret
      exact ⟨rfl, hw5.trans (hb6.mono hw5.size)⟩
    obtain ⟨c0, rfl⟩ := len_one hl
    obtain ⟨a, rfl, hab, C, c1, a0, a1, a2, hC⟩ := hA.at 0 (by simp)
    have HC4 := Lib.hid (HC3.out c0 rfl)
    simp only [List.getElem_cons_zero] at a0 a1 a2 hC
    obtain ⟨cf, cv, Q⟩ := c0
    simp only at a0 a1 a2 hC HC4
    replace a0 : w.cell? a = some (.int .i64 cf) := by simpa [Addr.add] using a0
    clear HC3 a1 a2 hl
    simp only [List.length_singleton] at VR
    by_cases hc : cf = frm
    rotate_left
    · have e7 : (cf == frm) = false := by simp [hc]
      obtain rfl : Z = false := by rw [HZ1.out, HC2.out]; unfold oneB; simp [hc]
      clear HZ1 HC2 HC4 VR hc
      have hb0 := below_bx w (.cells #[.int .i64 4, .int .i64 frm, .int .i64 view, .int .i64 seq, .string op, .slice (some a) 1 c] 71)
      have hK := Blk.fresh w 71 [.int .i64 4, .int .i64 frm, .int .i64 view, .int .i64 seq, .string op, .slice (some a) 1 c]
      simp only [List.toArray] at hK
      go_enter Try.func45, Try.ntmps45
      go_wp2_with (go_at_call 96; (with_reducible refine (I1.out _).mono ?_); rintro e w1 ⟨rfl, rfl⟩)
      generalize w.alloc (.cells #[.int .i64 4, .int .i64 frm, .int .i64 view, .int .i64 seq, .string op, .slice (some a) 1 c] 71) = w1 at hK hb0 ⊢
      obtain ⟨I, f, hI, g0, gk, gc, ge⟩ := class_grown w1
      have x1 := fun s => kept_cell (gk s) (hK.cell (i := 1) rfl)
      have x2 := fun s => kept_cell (gk s) (hK.cell (i := 2) rfl)
      refine wp_region_kept f (by kernel_rfl) (by kernel_rfl) g0 ?_
      repeat (first
        | go_big_quiet_skip
        | (go_big_quiet_want; go_big_quiet_op; first
            | go_big_quiet_on
            | (apply Exists.intro; refine ⟨fun s => ?_, ?_⟩; (first | (go_at_call 97; (with_reducible refine (LD.out _).mono ?_); rintro e w4 ⟨rfl, rfl⟩; exact ⟨rfl, gc _ _ (Below.refl _ _)⟩)); go_big_quiet_on)))
      refine wpQuiet_nil ?_
      intro w5 h5
      have hb5 := ge _ h5
      clear x1 x2
      have hK5 := hK.below hb5 hK.lt
      have hw5 := hb0.trans (hb5.mono hb0.size)
      clear hK hb0 hb5 hI g0 gk gc ge h5
      have y0 := hK5.cell (i := 0) rfl
      have y1 := hK5.cell (i := 1) rfl
      have y2 := hK5.cell (i := 2) rfl
      have y3 := hK5.cell (i := 3) rfl
      have y4 := hK5.cell (i := 4) rfl
      have y5 := hK5.cell (i := 5) rfl
      clear e6
      go_wp2_with (fail)
      obtain ⟨I, f, hI, g0, gk, gc, ge⟩ := class_grown w5
      have x1 := fun s => kept_cell (gk s) y1
      have x5 := fun s => kept_cell (gk s) y5
      have z0 := fun s => kept_cell (hw5.trans ((gk s).mono hw5.size)) a0
      clear y0 y1 y2 y3 y4 y5 a0
      refine wp_region_kept f (by kernel_rfl) (by kernel_rfl) g0 ?_
      repeat (first
        | go_big_quiet_skip
        | (go_big_quiet_want; go_big_quiet_op; first
            | go_big_quiet_on))
      refine wpQuiet_nil ?_
      intro w6 h5
      have hb6 := ge _ h5
      go_wp2
      go_ret
      exact ⟨rfl, hw5.trans (hb6.mono hw5.size)⟩
    have e7 : (cf == frm) = true := by simp [hc]
    obtain rfl : Z = vr := by rw [HZ1.out, HC4.out hc]
    clear HZ1 HC2 HC4 hc
    have hb0 := below_bx w (.cells #[.int .i64 4, .int .i64 frm, .int .i64 view, .int .i64 seq, .string op, .slice (some a) 1 c] 71)
    have hK := Blk.fresh w 71 [.int .i64 4, .int .i64 frm, .int .i64 view, .int .i64 seq, .string op, .slice (some a) 1 c]
    simp only [List.toArray] at hK
    go_enter Try.func45, Try.ntmps45
    go_wp2_with (go_at_call 96; (with_reducible refine (I1.out _).mono ?_); rintro e w1 ⟨rfl, rfl⟩)
    generalize w.alloc (.cells #[.int .i64 4, .int .i64 frm, .int .i64 view, .int .i64 seq, .string op, .slice (some a) 1 c] 71) = w1 at hK hb0 ⊢
    obtain ⟨I, f, hI, g0, gk, gc, ge⟩ := class_grown w1
    have x1 := fun s => kept_cell (gk s) (hK.cell (i := 1) rfl)
    have x2 := fun s => kept_cell (gk s) (hK.cell (i := 2) rfl)
    refine wp_region_kept f (by kernel_rfl) (by kernel_rfl) g0 ?_
    repeat (first
      | go_big_quiet_skip
      | (go_big_quiet_want; go_big_quiet_op; first
          | go_big_quiet_on
          | (apply Exists.intro; refine ⟨fun s => ?_, ?_⟩; (first | (go_at_call 97; (with_reducible refine (LD.out _).mono ?_); rintro e w4 ⟨rfl, rfl⟩; exact ⟨rfl, gc _ _ (Below.refl _ _)⟩)); go_big_quiet_on)))
    refine wpQuiet_nil ?_
    intro w5 h5
    have hb5 := ge _ h5
    clear x1 x2
    have hK5 := hK.below hb5 hK.lt
    have hw5 := hb0.trans (hb5.mono hb0.size)
    clear hK hb0 hb5 hI g0 gk gc ge h5
    have y0 := hK5.cell (i := 0) rfl
    have y1 := hK5.cell (i := 1) rfl
    have y2 := hK5.cell (i := 2) rfl
    have y3 := hK5.cell (i := 3) rfl
    have y4 := hK5.cell (i := 4) rfl
    have y5 := hK5.cell (i := 5) rfl
    clear e6
    go_wp2_with (fail)
    obtain ⟨I, f, hI, g0, gk, gc, ge⟩ := class_grown w5
    have x0 := fun s => kept_cell (gk s) y0
    have x1 := fun s => kept_cell (gk s) y1
    have x2 := fun s => kept_cell (gk s) y2
    have x3 := fun s => kept_cell (gk s) y3
    have x4 := fun s => kept_cell (gk s) y4
    have x5 := fun s => kept_cell (gk s) y5
    have z0 := fun s => kept_cell (hw5.trans ((gk s).mono hw5.size)) a0
    have TR := Lib.hid (fun s => VR.out (f s) (hw5.trans ((gk s).mono hw5.size)))
    clear y0 y1 y2 y3 y4 y5 a0
    refine wp_region_kept f (by kernel_rfl) (by kernel_rfl) g0 ?_
    repeat (first
      | go_big_quiet_skip
      | (go_big_quiet_want; go_big_quiet_op; first
          | go_big_quiet_on
          | (apply Exists.intro; refine ⟨fun s => ?_, ?_⟩; (first | (go_at_call 99; (with_reducible refine (TR.out _).mono ?_); rintro e w4 ⟨rfl, hb4⟩; exact ⟨rfl, gc _ _ hb4⟩)); go_big_quiet_on)))
    refine wpQuiet_nil ?_
    intro w6 h5
    have hb6 := ge _ h5
    go_wp2
    go_ret
    exact ⟨rfl, hw5.trans (hb6.mono hw5.size)⟩
  by_cases hk5 : kind = 5
  · subst hk5
    have HZ1 : Hid (Z = (decide (0 ≤ view ∧ view ≤ 7) && R3)) := Lib.hid (by rw [HZ.out, HW.out rfl])
    clear HN HC HW HO HN2 HC2 HZ HC3 Hnu NU Hvr
    by_cases hl : frm = ld
    rotate_left
    · have e6 : (frm == ld) = false := by simp [hl]
      obtain rfl : Z = false := by rw [HZ1.out, HW2.out]; simp [hl]
      clear HZ1 HW2 HW3 VR hl
      have hb0 := below_bx w (.cells #[.int .i64 5, .int .i64 frm, .int .i64 view, .int .i64 seq, .string op, .slice A L.length c] 71)
      have hK := Blk.fresh w 71 [.int .i64 5, .int .i64 frm, .int .i64 view, .int .i64 seq, .string op, .slice A L.length c]
      simp only [List.toArray] at hK
      go_enter Try.func45, Try.ntmps45
      go_wp2_with (go_at_call 96; (with_reducible refine (I1.out _).mono ?_); rintro e w1 ⟨rfl, rfl⟩)
      generalize w.alloc (.cells #[.int .i64 5, .int .i64 frm, .int .i64 view, .int .i64 seq, .string op, .slice A L.length c] 71) = w1 at hK hb0 ⊢
      obtain ⟨I, f, hI, g0, gk, gc, ge⟩ := class_grown w1
      have x1 := fun s => kept_cell (gk s) (hK.cell (i := 1) rfl)
      have x2 := fun s => kept_cell (gk s) (hK.cell (i := 2) rfl)
      refine wp_region_kept f (by kernel_rfl) (by kernel_rfl) g0 ?_
      repeat (first
        | go_big_quiet_skip
        | (go_big_quiet_want; go_big_quiet_op; first
            | go_big_quiet_on
            | (apply Exists.intro; refine ⟨fun s => ?_, ?_⟩; (first | (go_at_call 97; (with_reducible refine (LD.out _).mono ?_); rintro e w4 ⟨rfl, rfl⟩; exact ⟨rfl, gc _ _ (Below.refl _ _)⟩)); go_big_quiet_on)))
      refine wpQuiet_nil ?_
      intro w5 h5
      have hb5 := ge _ h5
      clear x1 x2
      have hK5 := hK.below hb5 hK.lt
      have hw5 := hb0.trans (hb5.mono hb0.size)
      clear hK hb0 hb5 hI g0 gk gc ge h5
      have y0 := hK5.cell (i := 0) rfl
      have y1 := hK5.cell (i := 1) rfl
      have y2 := hK5.cell (i := 2) rfl
      have y3 := hK5.cell (i := 3) rfl
      have y4 := hK5.cell (i := 4) rfl
      have y5 := hK5.cell (i := 5) rfl
      go_wp2
      go_ret
      exact ⟨rfl, hw5⟩
    have e6 : (frm == ld) = true := by simp [hl]
    have HZ2 : Hid (Z = (decide (3 ≤ (L.length : Int) ∧ (L.length : Int) ≤ 4) && vr)) := Lib.hid (by rw [HZ1.out, HW3.out hl])
    clear HZ1 HW2 HW3 hl
    rcases Bool.eq_false_or_eq_true (decide (3 ≤ (L.length : Int) ∧ (L.length : Int) ≤ 4)) with h3 | h3
    rotate_left
    · have I3 := Lib.hid (fun W => inQ_any h3 W)
      rw [h3] at HZ2
      obtain rfl : Z = false := by rw [HZ2.out]; rfl
      clear HZ2 VR
      have hb0 := below_bx w (.cells #[.int .i64 5, .int .i64 frm, .int .i64 view, .int .i64 seq, .string op, .slice A L.length c] 71)
      have hK := Blk.fresh w 71 [.int .i64 5, .int .i64 frm, .int .i64 view, .int .i64 seq, .string op, .slice A L.length c]
      simp only [List.toArray] at hK
      go_enter Try.func45, Try.ntmps45
      go_wp2_with (go_at_call 96; (with_reducible refine (I1.out _).mono ?_); rintro e w1 ⟨rfl, rfl⟩)
      generalize w.alloc (.cells #[.int .i64 5, .int .i64 frm, .int .i64 view, .int .i64 seq, .string op, .slice A L.length c] 71) = w1 at hK hb0 ⊢
      obtain ⟨I, f, hI, g0, gk, gc, ge⟩ := class_grown w1
      have x1 := fun s => kept_cell (gk s) (hK.cell (i := 1) rfl)
      have x2 := fun s => kept_cell (gk s) (hK.cell (i := 2) rfl)
      refine wp_region_kept f (by kernel_rfl) (by kernel_rfl) g0 ?_
      repeat (first
        | go_big_quiet_skip
        | (go_big_quiet_want; go_big_quiet_op; first
            | go_big_quiet_on
            | (apply Exists.intro; refine ⟨fun s => ?_, ?_⟩; (first | (go_at_call 97; (with_reducible refine (LD.out _).mono ?_); rintro e w4 ⟨rfl, rfl⟩; exact ⟨rfl, gc _ _ (Below.refl _ _)⟩)); go_big_quiet_on)))
      refine wpQuiet_nil ?_
      intro w5 h5
      have hb5 := ge _ h5
      clear x1 x2
      have hK5 := hK.below hb5 hK.lt
      have hw5 := hb0.trans (hb5.mono hb0.size)
      clear hK hb0 hb5 hI g0 gk gc ge h5
      have y0 := hK5.cell (i := 0) rfl
      have y1 := hK5.cell (i := 1) rfl
      have y2 := hK5.cell (i := 2) rfl
      have y3 := hK5.cell (i := 3) rfl
      have y4 := hK5.cell (i := 4) rfl
      have y5 := hK5.cell (i := 5) rfl
      go_wp2_with (go_at_call 64; (with_reducible refine (I3.out _).mono ?_); rintro e w6 ⟨rfl, rfl⟩)
      go_ret
      exact ⟨rfl, hw5⟩
    have I3 := Lib.hid (fun W => inQ_any h3 W)
    rw [h3] at HZ2
    obtain rfl : Z = vr := by rw [HZ2.out]; rfl
    clear HZ2
    have hb0 := below_bx w (.cells #[.int .i64 5, .int .i64 frm, .int .i64 view, .int .i64 seq, .string op, .slice A L.length c] 71)
    have hK := Blk.fresh w 71 [.int .i64 5, .int .i64 frm, .int .i64 view, .int .i64 seq, .string op, .slice A L.length c]
    simp only [List.toArray] at hK
    go_enter Try.func45, Try.ntmps45
    go_wp2_with (go_at_call 96; (with_reducible refine (I1.out _).mono ?_); rintro e w1 ⟨rfl, rfl⟩)
    generalize w.alloc (.cells #[.int .i64 5, .int .i64 frm, .int .i64 view, .int .i64 seq, .string op, .slice A L.length c] 71) = w1 at hK hb0 ⊢
    obtain ⟨I, f, hI, g0, gk, gc, ge⟩ := class_grown w1
    have x1 := fun s => kept_cell (gk s) (hK.cell (i := 1) rfl)
    have x2 := fun s => kept_cell (gk s) (hK.cell (i := 2) rfl)
    refine wp_region_kept f (by kernel_rfl) (by kernel_rfl) g0 ?_
    repeat (first
      | go_big_quiet_skip
      | (go_big_quiet_want; go_big_quiet_op; first
          | go_big_quiet_on
          | (apply Exists.intro; refine ⟨fun s => ?_, ?_⟩; (first | (go_at_call 97; (with_reducible refine (LD.out _).mono ?_); rintro e w4 ⟨rfl, rfl⟩; exact ⟨rfl, gc _ _ (Below.refl _ _)⟩)); go_big_quiet_on)))
    refine wpQuiet_nil ?_
    intro w5 h5
    have hb5 := ge _ h5
    clear x1 x2
    have hK5 := hK.below hb5 hK.lt
    have hw5 := hb0.trans (hb5.mono hb0.size)
    clear hK hb0 hb5 hI g0 gk gc ge h5
    have y0 := hK5.cell (i := 0) rfl
    have y1 := hK5.cell (i := 1) rfl
    have y2 := hK5.cell (i := 2) rfl
    have y3 := hK5.cell (i := 3) rfl
    have y4 := hK5.cell (i := 4) rfl
    have y5 := hK5.cell (i := 5) rfl
    go_wp2_with (first | (go_at_call 64; (with_reducible refine (I3.out _).mono ?_); rintro e w6 ⟨rfl, rfl⟩) | (go_at_call 99; (with_reducible refine (VR.out _ hw5).mono ?_); rintro e w6 ⟨rfl, hb6⟩))
    go_ret
    exact ⟨rfl, hw5.trans (hb6.mono hw5.size)⟩
  obtain rfl : Z = false := by rw [HZ.out, HO.out hk1 hk2 hk3 hk4 hk5]; simp
  have e1 : (kind == 1) = false := by simp; exact hk1
  have e2 : (kind == 2) = false := by simp; exact hk2
  have e3 : (kind == 3) = false := by simp; exact hk3
  have e4 : (kind == 4) = false := by simp; exact hk4
  have e5 : (kind == 5) = false := by simp; exact hk5
  clear HN HC HW HO HN2 HC2 HW2 HZ HC3 HW3 Hnu NU Hvr VR
  obtain ⟨b, Hb⟩ : ∃ b, Hid ((frm == ld) = b) := ⟨_, Lib.hid rfl⟩
  have e6 := Hb.out
  have hb0 := below_bx w (.cells #[.int .i64 kind, .int .i64 frm, .int .i64 view, .int .i64 seq, .string op, .slice A L.length c] 71)
  have hK := Blk.fresh w 71 [.int .i64 kind, .int .i64 frm, .int .i64 view, .int .i64 seq, .string op, .slice A L.length c]
  simp only [List.toArray] at hK
  go_enter Try.func45, Try.ntmps45
  go_wp2_with (go_at_call 96; (with_reducible refine (I1.out _).mono ?_); rintro e w1 ⟨rfl, rfl⟩)
  generalize w.alloc (.cells #[.int .i64 kind, .int .i64 frm, .int .i64 view, .int .i64 seq, .string op, .slice A L.length c] 71) = w1 at hK hb0 ⊢
  obtain ⟨I, f, hI, g0, gk, gc, ge⟩ := class_grown w1
  have x1 := fun s => kept_cell (gk s) (hK.cell (i := 1) rfl)
  have x2 := fun s => kept_cell (gk s) (hK.cell (i := 2) rfl)
  refine wp_region_kept f (by kernel_rfl) (by kernel_rfl) g0 ?_
  repeat (first
    | go_big_quiet_skip
    | (go_big_quiet_want; go_big_quiet_op; first
        | go_big_quiet_on
        | (apply Exists.intro; refine ⟨fun s => ?_, ?_⟩; (first | (go_at_call 97; (with_reducible refine (LD.out _).mono ?_); rintro e w4 ⟨rfl, rfl⟩; exact ⟨rfl, gc _ _ (Below.refl _ _)⟩)); go_big_quiet_on)))
  refine wpQuiet_nil ?_
  intro w5 h5
  have hb5 := ge _ h5
  clear x1 x2
  have hK5 := hK.below hb5 hK.lt
  have hw5 := hb0.trans (hb5.mono hb0.size)
  clear hK hb0 hb5 hI g0 gk gc ge h5
  have y0 := hK5.cell (i := 0) rfl
  have y1 := hK5.cell (i := 1) rfl
  have y2 := hK5.cell (i := 2) rfl
  have y3 := hK5.cell (i := 3) rfl
  have y4 := hK5.cell (i := 4) rfl
  have y5 := hK5.cell (i := 5) rfl
  clear e6
  go_wp2
  go_ret
  exact ⟨rfl, hw5⟩
theorem bothSayRight (t : Sy) (hf : t.fits) (hs : t.small) : ∃ r : Bool,
    (∀ A c W, Chs W 0 W.heap.size A t.changes → Calls Try.prog 43 #[syV t (.slice A t.changes.length c)] W fun e w' => e = .returned (.bool r) ∧ Below W.heap.size W w') ∧
    (∀ A c W, Chs W 0 W.heap.size A t.changes → Calls Try.prog 45 #[syV t (.slice A t.changes.length c)] W fun e w' => e = .returned (.bool r) ∧ Below W.heap.size W w') :=
  ⟨sayB t, fun A c W h => specSayRight_any t A c W hf h, fun A c W h => implSayRight_any t A c W hf h⟩
end Go.Proofs.Ytjnbhppnchmeoaa

namespace Go.Proofs.Ytjnbhppnchmeoaa
open Go.RowKit
set_option linter.unusedVariables false

set_option maxHeartbeats 8000000 in
set_option maxRecDepth 1000000 in
theorem lawSayRight (t : Sy) (A : Option Addr) (c : Nat) (w : World) (hf : t.fits) (hA : Chs w 0 w.heap.size A t.changes) :
    Calls Try.prog 8 #[syV t (.slice A t.changes.length c)] w fun e w' => e = .returned (.bool true) ∧ Below w.heap.size w w' := by
  obtain ⟨kind, frm, view, seq, op, L⟩ := t
  simp only at hA ⊢
  have HA : Hid (∀ W, Below w.heap.size w W → Chs W 0 W.heap.size A L) := Lib.hid fun W h => hA.on h
  have hB0 := Blk.fresh w 66 [.int .i64 kind, .int .i64 frm, .int .i64 view, .int .i64 seq, .string op, .slice A L.length c]
  have hb0 : Below w.heap.size w (w.alloc (.cells #[.int .i64 kind, .int .i64 frm, .int .i64 view, .int .i64 seq, .string op, .slice A L.length c] 66)) := (Below.refl _ _).alloc (Nat.le_refl _) _
  have hz0 : (w.alloc (.cells #[.int .i64 kind, .int .i64 frm, .int .i64 view, .int .i64 seq, .string op, .slice A L.length c] 66)).heap.size = w.heap.size + 1 := by simp
  simp only [List.toArray] at hB0
  go_enter Try.func8, Try.ntmps8
  have q0 := hB0.cell (i := 0) rfl
  have q1 := hB0.cell (i := 1) rfl
  have q2 := hB0.cell (i := 2) rfl
  have q3 := hB0.cell (i := 3) rfl
  have q4 := hB0.cell (i := 4) rfl
  have q5 := hB0.cell (i := 5) rfl
  go_wp2_with (fail)
  clear q0 q1 q2 q3 q4 q5
  generalize w.alloc (.cells #[.int .i64 kind, .int .i64 frm, .int .i64 view, .int .i64 seq, .string op, .slice A L.length c] 66) = v0 at hB0 hb0 hz0 ⊢
  refine (szSay_left ⟨kind, frm, view, seq, op, L⟩ A c 1048576 _ hf (HA.out _ hb0) (by omega) (by omega)).mono ?_
  rintro e v1 ⟨r, rfl, r0, r1, hS, hb1⟩
  have hz1 := hb1.size
  have hB1 := hB0.below hb1 (by omega)
  have hw1 := hb0.trans (hb1.mono (by omega))
  clear hB0
  by_cases hr : r < 0
  · go_wp2
    go_ret
    exact ⟨rfl, hw1⟩
  · have hS' := hS (by omega)
    obtain ⟨r9, hsp, him⟩ := bothSayRight ⟨kind, frm, view, seq, op, L⟩ hf hS'
    have Sp := Lib.hid hsp
    have Im := Lib.hid him
    clear hsp him
    have chB0 := hB1.cell (i := 0) rfl
    have chB1 := hB1.cell (i := 1) rfl
    have chB2 := hB1.cell (i := 2) rfl
    have chB3 := hB1.cell (i := 3) rfl
    have chB4 := hB1.cell (i := 4) rfl
    have chB5 := hB1.cell (i := 5) rfl
    go_wp2_with (fail)
    refine (toSay_any ⟨kind, frm, view, seq, op, L⟩ A c _ hS' (HA.out _ hw1)).mono ?_
    rintro e v2 ⟨g2, c2, rfl, TS2, hb2⟩
    have hz2 := hb2.size
    have hB2 := hB1.below hb2 hB1.lt
    have hw2 := hw1.trans (hb2.mono hw1.size)
    clear hB1
    clear chB0 chB1 chB2 chB3 chB4 chB5
    replace TS2 := TS2.mono (Nat.zero_le _) (Nat.le_refl _)
    go_wp2_with (fail)
    refine (Sp.out _ _ _ TS2).mono ?_
    rintro e v3 ⟨rfl, hb3⟩
    have hz3 := hb3.size
    have hB3 := hB2.below hb3 hB2.lt
    have TS3 := TS2.on hb3
    have hw3 := hw2.trans (hb3.mono hw2.size)
    clear hB2 TS2
    clear TS3
    have chB0 := hB3.cell (i := 0) rfl
    have chB1 := hB3.cell (i := 1) rfl
    have chB2 := hB3.cell (i := 2) rfl
    have chB3 := hB3.cell (i := 3) rfl
    have chB4 := hB3.cell (i := 4) rfl
    have chB5 := hB3.cell (i := 5) rfl
    go_wp2_with (fail)
    refine (toSay_any ⟨kind, frm, view, seq, op, L⟩ A c _ hS' (HA.out _ hw3)).mono ?_
    rintro e v4 ⟨g4, c4, rfl, XS4, hb4⟩
    have hz4 := hb4.size
    have hB4 := hB3.below hb4 hB3.lt
    have hw4 := hw3.trans (hb4.mono hw3.size)
    clear hB3
    clear chB0 chB1 chB2 chB3 chB4 chB5
    replace XS4 := XS4.mono (Nat.zero_le _) (Nat.le_refl _)
    have hP5 := Blk.fresh v4 71 [.int .i64 kind, .int .i64 frm, .int .i64 view, .int .i64 seq, .string op, .slice (some ⟨g4, 0, none⟩) L.length c4]
    replace hP5 : Blk (v4.alloc (.cells #[.int .i64 kind, .int .i64 frm, .int .i64 view, .int .i64 seq, .string op, .slice (some ⟨g4, 0, none⟩) L.length c4] 71)) v4.heap.size 71 [.int .i64 kind, .int .i64 frm, .int .i64 view, .int .i64 seq, .string op, .slice (some ⟨g4, 0, none⟩) L.length c4] := hP5
    have hb5 : Below v4.heap.size v4 (v4.alloc (.cells #[.int .i64 kind, .int .i64 frm, .int .i64 view, .int .i64 seq, .string op, .slice (some ⟨g4, 0, none⟩) L.length c4] 71)) := (Below.refl _ _).alloc (Nat.le_refl _) _
    have hs5 : (v4.alloc (.cells #[.int .i64 kind, .int .i64 frm, .int .i64 view, .int .i64 seq, .string op, .slice (some ⟨g4, 0, none⟩) L.length c4] 71)).heap.size = v4.heap.size + 1 := by simp
    have qq0 := hP5.cell (i := 0) rfl
    have qq1 := hP5.cell (i := 1) rfl
    have qq2 := hP5.cell (i := 2) rfl
    have qq3 := hP5.cell (i := 3) rfl
    have qq4 := hP5.cell (i := 4) rfl
    have qq5 := hP5.cell (i := 5) rfl
    go_wp2_with (fail)
    clear qq0 qq1 qq2 qq3 qq4 qq5
    generalize v4.alloc (.cells #[.int .i64 kind, .int .i64 frm, .int .i64 view, .int .i64 seq, .string op, .slice (some ⟨g4, 0, none⟩) L.length c4] 71) = v5 at hP5 hb5 hs5 ⊢
    have hz5 := hb5.size
    have hB5 := hB4.below hb5 hB4.lt
    have XS5 := XS4.on hb5
    have hw5 := hw4.trans (hb5.mono hw4.size)
    clear hB4 XS4
    have chP0 := hP5.cell (i := 0) rfl
    have chP1 := hP5.cell (i := 1) rfl
    have chP2 := hP5.cell (i := 2) rfl
    have chP3 := hP5.cell (i := 3) rfl
    have chP4 := hP5.cell (i := 4) rfl
    have chP5 := hP5.cell (i := 5) rfl
    go_wp2_with (fail)
    refine (Im.out _ _ _ XS5).mono ?_
    rintro e v6 ⟨rfl, hb6⟩
    have hz6 := hb6.size
    have hB6 := hB5.below hb6 hB5.lt
    have hP6 := hP5.below hb6 hP5.lt
    have XS6 := XS5.on hb6
    have hw6 := hw5.trans (hb6.mono hw5.size)
    clear hB5 hP5 XS5
    clear chP0 chP1 chP2 chP3 chP4 chP5
    have chB0 := hB6.cell (i := 0) rfl
    have chB1 := hB6.cell (i := 1) rfl
    have chB2 := hB6.cell (i := 2) rfl
    have chB3 := hB6.cell (i := 3) rfl
    have chB4 := hB6.cell (i := 4) rfl
    have chB5 := hB6.cell (i := 5) rfl
    have chP0 := hP6.cell (i := 0) rfl
    have chP1 := hP6.cell (i := 1) rfl
    have chP2 := hP6.cell (i := 2) rfl
    have chP3 := hP6.cell (i := 3) rfl
    have chP4 := hP6.cell (i := 4) rfl
    have chP5 := hP6.cell (i := 5) rfl
    go_wp2_with (fail)
    have z0 : v6.drew.cell? ⟨w.heap.size, 0, none⟩ = some (.int .i64 kind) := chB0
    have z1 : v6.drew.cell? ⟨w.heap.size, 1, none⟩ = some (.int .i64 frm) := chB1
    have z2 : v6.drew.cell? ⟨w.heap.size, 2, none⟩ = some (.int .i64 view) := chB2
    have z3 : v6.drew.cell? ⟨w.heap.size, 3, none⟩ = some (.int .i64 seq) := chB3
    have z4 : v6.drew.cell? ⟨w.heap.size, 4, none⟩ = some (.string op) := chB4
    have z5 : v6.drew.cell? ⟨w.heap.size, 5, none⟩ = some (.slice A L.length c) := chB5
    have z6 : v6.drew.cell? ⟨v4.heap.size, 0, none⟩ = some (.int .i64 kind) := chP0
    have z7 : v6.drew.cell? ⟨v4.heap.size, 1, none⟩ = some (.int .i64 frm) := chP1
    have z8 : v6.drew.cell? ⟨v4.heap.size, 2, none⟩ = some (.int .i64 view) := chP2
    have z9 : v6.drew.cell? ⟨v4.heap.size, 3, none⟩ = some (.int .i64 seq) := chP3
    have z10 : v6.drew.cell? ⟨v4.heap.size, 4, none⟩ = some (.string op) := chP4
    have z11 : v6.drew.cell? ⟨v4.heap.size, 5, none⟩ = some (.slice (some ⟨g4, 0, none⟩) L.length c4) := chP5
    have XSd : Chs v6.drew 0 v6.drew.heap.size (some ⟨g4, 0, none⟩) L := XS6
    go_region_held3 (fun W => W.cell? ⟨w.heap.size, 0, none⟩ = some (.int .i64 kind) ∧ W.cell? ⟨w.heap.size, 1, none⟩ = some (.int .i64 frm) ∧ W.cell? ⟨w.heap.size, 2, none⟩ = some (.int .i64 view) ∧ W.cell? ⟨w.heap.size, 3, none⟩ = some (.int .i64 seq) ∧ W.cell? ⟨w.heap.size, 4, none⟩ = some (.string op) ∧ W.cell? ⟨w.heap.size, 5, none⟩ = some (.slice A L.length c) ∧ W.cell? ⟨v4.heap.size, 0, none⟩ = some (.int .i64 kind) ∧ W.cell? ⟨v4.heap.size, 1, none⟩ = some (.int .i64 frm) ∧ W.cell? ⟨v4.heap.size, 2, none⟩ = some (.int .i64 view) ∧ W.cell? ⟨v4.heap.size, 3, none⟩ = some (.int .i64 seq) ∧ W.cell? ⟨v4.heap.size, 4, none⟩ = some (.string op) ∧ W.cell? ⟨v4.heap.size, 5, none⟩ = some (.slice (some ⟨g4, 0, none⟩) L.length c4))
      (first
        | with_reducible exact ⟨z0, z1, z2, z3, z4, z5, z6, z7, z8, z9, z10, z11⟩
        | with_reducible exact ⟨kept_cell hb7 z0, kept_cell hb7 z1, kept_cell hb7 z2, kept_cell hb7 z3, kept_cell hb7 z4, kept_cell hb7 z5, kept_cell hb7 z6, kept_cell hb7 z7, kept_cell hb7 z8, kept_cell hb7 z9, kept_cell hb7 z10, kept_cell hb7 z11⟩
        | with_reducible exact ⟨kept_cell hb8 (kept_cell hb7 z0), kept_cell hb8 (kept_cell hb7 z1), kept_cell hb8 (kept_cell hb7 z2), kept_cell hb8 (kept_cell hb7 z3), kept_cell hb8 (kept_cell hb7 z4), kept_cell hb8 (kept_cell hb7 z5), kept_cell hb8 (kept_cell hb7 z6), kept_cell hb8 (kept_cell hb7 z7), kept_cell hb8 (kept_cell hb7 z8), kept_cell hb8 (kept_cell hb7 z9), kept_cell hb8 (kept_cell hb7 z10), kept_cell hb8 (kept_cell hb7 z11)⟩)
      (first
        | (go_at_call 44; (with_reducible refine (toSay_any ⟨kind, frm, view, seq, op, L⟩ A c _ hS' (HA.out _ (below_drew hw6))).mono ?_); rintro e v7 ⟨g7, c7, rfl, hF7, hb7⟩)
        | (go_at_call 46; (with_reducible refine (eqSay_same ⟨kind, frm, view, seq, op, L⟩ _ _ _ _ v7 (XSd.on hb7) hF7).mono ?_); rintro e v8 ⟨rfl, hb8⟩))
    have hbz : Below v6.heap.size v6 v8 := (below_drew (Below.refl _ v6)).trans ((hb7.trans (hb8.mono hb7.size)).mono (Nat.le_refl _))
    clear chB0 chB1 chB2 chB3 chB4 chB5 chP0 chP1 chP2 chP3 chP4 chP5
    clear z0 z1 z2 z3 z4 z5 z6 z7 z8 z9 z10 z11 XSd hF7
    have hz8 := hbz.size
    have hB8 := hB6.below hbz hB6.lt
    have hP8 := hP6.below hbz hP6.lt
    have XS8 := XS6.on hbz
    have hw8 := hw6.trans (hbz.mono hw6.size)
    clear hB6 hP6 XS6
    go_wp2
    go_ret
    exact ⟨rfl, hw8⟩
end Go.Proofs.Ytjnbhppnchmeoaa
