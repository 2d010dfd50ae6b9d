/- SayRight of impl. The encoders of stage 10: impl. The encoders of stage 10: spec. The walk of the law on SayBytes. -/
import Derived.Test.YtjnbhppnchmeoaaSySRW
import Derived.Test.YtjnbhppnchmeoaaSyEncW
import Derived.Test.YtjnbhppnchmeoaaSyCRW
import Derived.Deep.RegionHeld3
namespace Go.Proofs.Ytjnbhppnchmeoaa
open Go.RowKit
set_option linter.unusedVariables false
set_option maxRecDepth 1000000

set_option maxHeartbeats 16000000 in
theorem implSayRight_any (y : Sy) (A : Option Addr) (c : Nat) (w : World) {lo : Nat} (hf : y.fits) (hA : Chs w lo w.heap.size A y.changes) :
    Calls Try.prog 45 #[syV y (.slice A y.changes.length c)] w fun e w' => e = .returned (.bool (sayB y)) ∧ Below w.heap.size w w' := by
  have HR : Hid (sayB y = (decide (0 ≤ y.frm ∧ y.frm ≤ 3) && (decide (0 ≤ y.view ∧ y.view ≤ 7) && restB y))) := Lib.hid rfl
  have HN := Lib.hid (rest_num (y := y))
  have HC := Lib.hid (rest_chg (y := y))
  have HW := Lib.hid (rest_new (y := y))
  have HO := Lib.hid (rest_no (y := y))
  have HN2 : Hid (numB y = (decide (1 ≤ y.seq ∧ y.seq ≤ 6) && (decide (y.op.size ≤ 120) && (decide (y.changes.length = 0) && decide (y.kind ≠ 1 ∨ y.frm = leadI y.view))))) := Lib.hid rfl
  have HC2 : Hid (chgB y = (decide (1 ≤ y.view) && (decide (y.seq = 0) && (decide (y.op.size = 0) && oneB y.frm y.view y.changes)))) := Lib.hid rfl
  have HW2 : Hid (newB y = (decide (1 ≤ y.view) && (decide (y.frm = leadI y.view) && (decide (y.seq = 0) && (decide (y.op.size = 0) && (cr y.view (-1) y.changes && decide (3 ≤ y.changes.length))))))) := Lib.hid rfl
  have HC3 := Lib.hid (fun c hc hf => chg_impl (y := y) (c := c) hc hf)
  have HW3 := Lib.hid (fun hl => new_impl (y := y) hl)
  have NU := Lib.hid (fun W => numbered_any y A c W hf.2.2.2.2.1 hA.1 rfl rfl rfl rfl)
  have VR := Lib.hid (fun W (h : Below w.heap.size w W) => viewRight_any y A c W hf (hA.on h) rfl rfl rfl)
  generalize sayB y = Z at HR ⊢
  generalize restB y = R at HR HN HC HW HO
  generalize numB y = R1 at HN HN2
  generalize chgB y = R2 at HC HC2 HC3
  generalize newB y = R3 at HW HW2 HW3
  obtain ⟨kind, frm, view, seq, op, L⟩ := y
  obtain ⟨f0, f1, f2, f3, f4, f5⟩ := hf
  simp only at f0 f1 f2 f3 f4 f5 hA HR HN HC HW HO HN2 HC2 HW2 HC3 HW3 NU VR ⊢
  have hn := hA.1
  unfold maxLen at hn
  rcases Bool.eq_false_or_eq_true (decide (0 ≤ frm ∧ frm ≤ 3)) with h1 | h1
  rotate_left
  · have I1 := Lib.hid (fun W => replQ_any h1 W)
    rw [h1] at HR
    obtain rfl : Z = false := by rw [HR.out]; rfl
    clear HR
    have hb0 := below_bx w (.cells #[.int .i64 kind, .int .i64 frm, .int .i64 view, .int .i64 seq, .string op, .slice A L.length c] 71)
    go_enter Try.func45, Try.ntmps45
    go_wp2_with (go_at_call 96; (with_reducible refine (I1.out _).mono ?_); rintro e w1 ⟨rfl, rfl⟩)
    go_ret
    exact ⟨rfl, hb0⟩
  have I1 := Lib.hid (fun W => replQ_any h1 W)
  have hv8 : (Lit.int .i64 view).wf = true := wf_in f2
  have LD := Lib.hid (fun W => implLeader_any view W hv8)
  rw [h1] at HR
  have HZ : Hid (Z = (decide (0 ≤ view ∧ view ≤ 7) && R)) := Lib.hid (by rw [HR.out]; rfl)
  clear HR h1
  generalize leadI view = ld at LD HN2 HW2 HW3
  obtain ⟨nu, Hnu⟩ : ∃ x, Hid ((decide (0 ≤ view ∧ view ≤ 7) && (decide (1 ≤ seq ∧ seq ≤ 6) && (decide (op.size ≤ 120) && decide (L.length = 0)))) = x) := ⟨_, Lib.hid rfl⟩
  obtain ⟨vr, Hvr⟩ : ∃ x, Hid ((decide (1 ≤ view ∧ view ≤ 7) && (decide (seq = 0) && (decide (op.size = 0) && cr view (-1) L))) = x) := ⟨_, Lib.hid rfl⟩
  rw [Hnu.out] at NU
  rw [Hvr.out] at VR HC3 HW3
  by_cases hk1 : kind = 1
  · subst hk1
    have HZ1 : Hid (Z = (decide (0 ≤ view ∧ view ≤ 7) && R1)) := Lib.hid (by rw [HZ.out, HN.out (by omega)])
    clear HN HC HW HO HC2 HW2 HZ HC3 HW3 Hvr VR
    by_cases hl : frm = ld
    rotate_left
    · have e6 : (frm == ld) = false := by simp [hl]
      obtain rfl : Z = false := by rw [HZ1.out, HN2.out]; simp [hl]
      clear HZ1 HN2 Hnu NU hl
      have hb0 := below_bx w (.cells #[.int .i64 1, .int .i64 frm, .int .i64 view, .int .i64 seq, .string op, .slice A L.length c] 71)
      have hK := Blk.fresh w 71 [.int .i64 1, .int .i64 frm, .int .i64 view, .int .i64 seq, .string op, .slice A L.length c]
      simp only [List.toArray] at hK
      go_enter Try.func45, Try.ntmps45
      go_wp2_with (go_at_call 96; (with_reducible refine (I1.out _).mono ?_); rintro e w1 ⟨rfl, rfl⟩)
      generalize w.alloc (.cells #[.int .i64 1, .int .i64 frm, .int .i64 view, .int .i64 seq, .string op, .slice A L.length c] 71) = w1 at hK hb0 ⊢
      obtain ⟨I, f, hI, g0, gk, gc, ge⟩ := class_grown w1
      have x1 := fun s => kept_cell (gk s) (hK.cell (i := 1) rfl)
      have x2 := fun s => kept_cell (gk s) (hK.cell (i := 2) rfl)
      refine wp_region_kept f (by kernel_rfl) (by kernel_rfl) g0 ?_
      repeat (first
        | go_big_quiet_skip
        | (go_big_quiet_want; go_big_quiet_op; first
            | go_big_quiet_on
            | (apply Exists.intro; refine ⟨fun s => ?_, ?_⟩; (first | (go_at_call 97; (with_reducible refine (LD.out _).mono ?_); rintro e w4 ⟨rfl, rfl⟩; exact ⟨rfl, gc _ _ (Below.refl _ _)⟩)); go_big_quiet_on)))
      refine wpQuiet_nil ?_
      intro w5 h5
      have hb5 := ge _ h5
      clear x1 x2
      have hK5 := hK.below hb5 hK.lt
      have hw5 := hb0.trans (hb5.mono hb0.size)
      clear hK hb0 hb5 hI g0 gk gc ge h5
      have y0 := hK5.cell (i := 0) rfl
      have y1 := hK5.cell (i := 1) rfl
      have y2 := hK5.cell (i := 2) rfl
      have y3 := hK5.cell (i := 3) rfl
      have y4 := hK5.cell (i := 4) rfl
      have y5 := hK5.cell (i := 5) rfl
      go_wp2
      go_ret
      exact ⟨rfl, hw5⟩
    have e6 : (frm == ld) = true := by simp [hl]
    obtain rfl : Z = nu := by rw [HZ1.out, HN2.out, ← Hnu.out]; simp [hl]
    clear HZ1 HN2 Hnu hl
    have hb0 := below_bx w (.cells #[.int .i64 1, .int .i64 frm, .int .i64 view, .int .i64 seq, .string op, .slice A L.length c] 71)
    have hK := Blk.fresh w 71 [.int .i64 1, .int .i64 frm, .int .i64 view, .int .i64 seq, .string op, .slice A L.length c]
    simp only [List.toArray] at hK
    go_enter Try.func45, Try.ntmps45
    go_wp2_with (go_at_call 96; (with_reducible refine (I1.out _).mono ?_); rintro e w1 ⟨rfl, rfl⟩)
    generalize w.alloc (.cells #[.int .i64 1, .int .i64 frm, .int .i64 view, .int .i64 seq, .string op, .slice A L.length c] 71) = w1 at hK hb0 ⊢
    obtain ⟨I, f, hI, g0, gk, gc, ge⟩ := class_grown w1
    have x1 := fun s => kept_cell (gk s) (hK.cell (i := 1) rfl)
    have x2 := fun s => kept_cell (gk s) (hK.cell (i := 2) rfl)
    refine wp_region_kept f (by kernel_rfl) (by kernel_rfl) g0 ?_
    repeat (first
      | go_big_quiet_skip
      | (go_big_quiet_want; go_big_quiet_op; first
          | go_big_quiet_on
          | (apply Exists.intro; refine ⟨fun s => ?_, ?_⟩; (first | (go_at_call 97; (with_reducible refine (LD.out _).mono ?_); rintro e w4 ⟨rfl, rfl⟩; exact ⟨rfl, gc _ _ (Below.refl _ _)⟩)); go_big_quiet_on)))
    refine wpQuiet_nil ?_
    intro w5 h5
    have hb5 := ge _ h5
    clear x1 x2
    have hK5 := hK.below hb5 hK.lt
    have hw5 := hb0.trans (hb5.mono hb0.size)
    clear hK hb0 hb5 hI g0 gk gc ge h5
    have y0 := hK5.cell (i := 0) rfl
    have y1 := hK5.cell (i := 1) rfl
    have y2 := hK5.cell (i := 2) rfl
    have y3 := hK5.cell (i := 3) rfl
    have y4 := hK5.cell (i := 4) rfl
    have y5 := hK5.cell (i := 5) rfl
    go_wp2_with (go_at_call 98; (with_reducible refine (NU.out _).mono ?_); rintro e w6 ⟨rfl, hb6⟩)
    go_ret
    exact ⟨rfl, hw5.trans (hb6.mono hw5.size)⟩
  by_cases hk2 : kind = 2
  · subst hk2
    have HZ1 : Hid (Z = (decide (0 ≤ view ∧ view ≤ 7) && R1)) := Lib.hid (by rw [HZ.out, HN.out (by omega)])
    clear HN HC HW HO HC2 HW2 HZ HC3 HW3 Hvr VR
    obtain rfl : Z = nu := by rw [HZ1.out, HN2.out, ← Hnu.out]; simp
    clear HZ1 HN2 Hnu
    obtain ⟨b, Hb⟩ : ∃ b, Hid ((frm == ld) = b) := ⟨_, Lib.hid rfl⟩
    have e6 := Hb.out
    have hb0 := below_bx w (.cells #[.int .i64 2, .int .i64 frm, .int .i64 view, .int .i64 seq, .string op, .slice A L.length c] 71)
    have hK := Blk.fresh w 71 [.int .i64 2, .int .i64 frm, .int .i64 view, .int .i64 seq, .string op, .slice A L.length c]
    simp only [List.toArray] at hK
    go_enter Try.func45, Try.ntmps45
    go_wp2_with (go_at_call 96; (with_reducible refine (I1.out _).mono ?_); rintro e w1 ⟨rfl, rfl⟩)
    generalize w.alloc (.cells #[.int .i64 2, .int .i64 frm, .int .i64 view, .int .i64 seq, .string op, .slice A L.length c] 71) = w1 at hK hb0 ⊢
    obtain ⟨I, f, hI, g0, gk, gc, ge⟩ := class_grown w1
    have x1 := fun s => kept_cell (gk s) (hK.cell (i := 1) rfl)
    have x2 := fun s => kept_cell (gk s) (hK.cell (i := 2) rfl)
    refine wp_region_kept f (by kernel_rfl) (by kernel_rfl) g0 ?_
    repeat (first
      | go_big_quiet_skip
      | (go_big_quiet_want; go_big_quiet_op; first
          | go_big_quiet_on
          | (apply Exists.intro; refine ⟨fun s => ?_, ?_⟩; (first | (go_at_call 97; (with_reducible refine (LD.out _).mono ?_); rintro e w4 ⟨rfl, rfl⟩; exact ⟨rfl, gc _ _ (Below.refl _ _)⟩)); go_big_quiet_on)))
    refine wpQuiet_nil ?_
    intro w5 h5
    have hb5 := ge _ h5
    clear x1 x2
    have hK5 := hK.below hb5 hK.lt
    have hw5 := hb0.trans (hb5.mono hb0.size)
    clear hK hb0 hb5 hI g0 gk gc ge h5
    have y0 := hK5.cell (i := 0) rfl
    have y1 := hK5.cell (i := 1) rfl
    have y2 := hK5.cell (i := 2) rfl
    have y3 := hK5.cell (i := 3) rfl
    have y4 := hK5.cell (i := 4) rfl
    have y5 := hK5.cell (i := 5) rfl
    clear e6
    go_wp2_with (go_at_call 98; (with_reducible refine (NU.out _).mono ?_); rintro e w6 ⟨rfl, hb6⟩)
    go_ret
    exact ⟨rfl, hw5.trans (hb6.mono hw5.size)⟩
  by_cases hk3 : kind = 3
  · subst hk3
    have HZ1 : Hid (Z = (decide (0 ≤ view ∧ view ≤ 7) && R1)) := Lib.hid (by rw [HZ.out, HN.out (by omega)])
    clear HN HC HW HO HC2 HW2 HZ HC3 HW3 Hvr VR
    obtain rfl : Z = nu := by rw [HZ1.out, HN2.out, ← Hnu.out]; simp
    clear HZ1 HN2 Hnu
    obtain ⟨b, Hb⟩ : ∃ b, Hid ((frm == ld) = b) := ⟨_, Lib.hid rfl⟩
    have e6 := Hb.out
    have hb0 := below_bx w (.cells #[.int .i64 3, .int .i64 frm, .int .i64 view, .int .i64 seq, .string op, .slice A L.length c] 71)
    have hK := Blk.fresh w 71 [.int .i64 3, .int .i64 frm, .int .i64 view, .int .i64 seq, .string op, .slice A L.length c]
    simp only [List.toArray] at hK
    go_enter Try.func45, Try.ntmps45
    go_wp2_with (go_at_call 96; (with_reducible refine (I1.out _).mono ?_); rintro e w1 ⟨rfl, rfl⟩)
    generalize w.alloc (.cells #[.int .i64 3, .int .i64 frm, .int .i64 view, .int .i64 seq, .string op, .slice A L.length c] 71) = w1 at hK hb0 ⊢
    obtain ⟨I, f, hI, g0, gk, gc, ge⟩ := class_grown w1
    have x1 := fun s => kept_cell (gk s) (hK.cell (i := 1) rfl)
    have x2 := fun s => kept_cell (gk s) (hK.cell (i := 2) rfl)
    refine wp_region_kept f (by kernel_rfl) (by kernel_rfl) g0 ?_
    repeat (first
      | go_big_quiet_skip
      | (go_big_quiet_want; go_big_quiet_op; first
          | go_big_quiet_on
          | (apply Exists.intro; refine ⟨fun s => ?_, ?_⟩; (first | (go_at_call 97; (with_reducible refine (LD.out _).mono ?_); rintro e w4 ⟨rfl, rfl⟩; exact ⟨rfl, gc _ _ (Below.refl _ _)⟩)); go_big_quiet_on)))
    refine wpQuiet_nil ?_
    intro w5 h5
    have hb5 := ge _ h5
    clear x1 x2
    have hK5 := hK.below hb5 hK.lt
    have hw5 := hb0.trans (hb5.mono hb0.size)
    clear hK hb0 hb5 hI g0 gk gc ge h5
    have y0 := hK5.cell (i := 0) rfl
    have y1 := hK5.cell (i := 1) rfl
    have y2 := hK5.cell (i := 2) rfl
    have y3 := hK5.cell (i := 3) rfl
    have y4 := hK5.cell (i := 4) rfl
    have y5 := hK5.cell (i := 5) rfl
    clear e6
    go_wp2_with (go_at_call 98; (with_reducible refine (NU.out _).mono ?_); rintro e w6 ⟨rfl, hb6⟩)
    go_ret
    exact ⟨rfl, hw5.trans (hb6.mono hw5.size)⟩
  by_cases hk4 : kind = 4
  · subst hk4
    have HZ1 : Hid (Z = (decide (0 ≤ view ∧ view ≤ 7) && R2)) := Lib.hid (by rw [HZ.out, HC.out rfl])
    clear HN HC HW HO HN2 HW2 HZ HW3 Hnu NU Hvr
    obtain ⟨b, Hb⟩ : ∃ b, Hid ((frm == ld) = b) := ⟨_, Lib.hid rfl⟩
    have e6 := Hb.out
    by_cases hl : L.length = 1
    rotate_left
    · have e7 : ((L.length : Int) == 1) = false := by simp; omega
      obtain rfl : Z = false := by rw [HZ1.out, HC2.out, oneB_len hl]; simp
      clear HZ1 HC2 HC3 VR hl
      have hb0 := below_bx w (.cells #[.int .i64 4, .int .i64 frm, .int .i64 view, .int .i64 seq, .string op, .slice A L.length c] 71)
      have hK := Blk.fresh w 71 [.int .i64 4, .int .i64 frm, .int .i64 view, .int .i64 seq, .string op, .slice A L.length c]
      simp only [List.toArray] at hK
      go_enter Try.func45, Try.ntmps45
      go_wp2_with (go_at_call 96; (with_reducible refine (I1.out _).mono ?_); rintro e w1 ⟨rfl, rfl⟩)
      generalize w.alloc (.cells #[.int .i64 4, .int .i64 frm, .int .i64 view, .int .i64 seq, .string op, .slice A L.length c] 71) = w1 at hK hb0 ⊢
      obtain ⟨I, f, hI, g0, gk, gc, ge⟩ := class_grown w1
      have x1 := fun s => kept_cell (gk s) (hK.cell (i := 1) rfl)
      have x2 := fun s => kept_cell (gk s) (hK.cell (i := 2) rfl)
      refine wp_region_kept f (by kernel_rfl) (by kernel_rfl) g0 ?_
      repeat (first
        | go_big_quiet_skip
        | (go_big_quiet_want; go_big_quiet_op; first
            | go_big_quiet_on
            | (apply Exists.intro; refine ⟨fun s => ?_, ?_⟩; (first | (go_at_call 97; (with_reducible refine (LD.out _).mono ?_); rintro e w4 ⟨rfl, rfl⟩; exact ⟨rfl, gc _ _ (Below.refl _ _)⟩)); go_big_quiet_on)))
      refine wpQuiet_nil ?_
      intro w5 h5
      have hb5 := ge _ h5
      clear x1 x2
      have hK5 := hK.below hb5 hK.lt
      have hw5 := hb0.trans (hb5.mono hb0.size)
      clear hK hb0 hb5 hI g0 gk gc ge h5
      have y0 := hK5.cell (i := 0) rfl
      have y1 := hK5.cell (i := 1) rfl
      have y2 := hK5.cell (i := 2) rfl
      have y3 := hK5.cell (i := 3) rfl
      have y4 := hK5.cell (i := 4) rfl
      have y5 := hK5.cell (i := 5) rfl
      clear e6
      go_wp2_with (fail)
      obtain ⟨I, f, hI, g0, gk, gc, ge⟩ := class_grown w5
      refine wp_region_kept f (by kernel_rfl) (by kernel_rfl) g0 ?_
      repeat (first
        | go_big_quiet_skip
        | (go_big_quiet_want; go_big_quiet_op; first
            | go_big_quiet_on))
      refine wpQuiet_nil ?_
      intro w6 h5
      have hb6 := ge _ h5
      go_wp2
      go_ret
      exact ⟨rfl, hw5.trans (hb6.mono hw5.size)⟩
    obtain ⟨c0, rfl⟩ := len_one hl
    obtain ⟨a, rfl, hab, C, c1, a0, a1, a2, hC⟩ := hA.at 0 (by simp)
    have HC4 := Lib.hid (HC3.out c0 rfl)
    simp only [List.getElem_cons_zero] at a0 a1 a2 hC
    obtain ⟨cf, cv, Q⟩ := c0
    simp only at a0 a1 a2 hC HC4
    replace a0 : w.cell? a = some (.int .i64 cf) := by simpa [Addr.add] using a0
    clear HC3 a1 a2 hl
    simp only [List.length_singleton] at VR
    by_cases hc : cf = frm
    rotate_left
    · have e7 : (cf == frm) = false := by simp [hc]
      obtain rfl : Z = false := by rw [HZ1.out, HC2.out]; unfold oneB; simp [hc]
      clear HZ1 HC2 HC4 VR hc
      have hb0 := below_bx w (.cells #[.int .i64 4, .int .i64 frm, .int .i64 view, .int .i64 seq, .string op, .slice (some a) 1 c] 71)
      have hK := Blk.fresh w 71 [.int .i64 4, .int .i64 frm, .int .i64 view, .int .i64 seq, .string op, .slice (some a) 1 c]
      simp only [List.toArray] at hK
      go_enter Try.func45, Try.ntmps45
      go_wp2_with (go_at_call 96; (with_reducible refine (I1.out _).mono ?_); rintro e w1 ⟨rfl, rfl⟩)
      generalize w.alloc (.cells #[.int .i64 4, .int .i64 frm, .int .i64 view, .int .i64 seq, .string op, .slice (some a) 1 c] 71) = w1 at hK hb0 ⊢
      obtain ⟨I, f, hI, g0, gk, gc, ge⟩ := class_grown w1
      have x1 := fun s => kept_cell (gk s) (hK.cell (i := 1) rfl)
      have x2 := fun s => kept_cell (gk s) (hK.cell (i := 2) rfl)
      refine wp_region_kept f (by kernel_rfl) (by kernel_rfl) g0 ?_
      repeat (first
        | go_big_quiet_skip
        | (go_big_quiet_want; go_big_quiet_op; first
            | go_big_quiet_on
            | (apply Exists.intro; refine ⟨fun s => ?_, ?_⟩; (first | (go_at_call 97; (with_reducible refine (LD.out _).mono ?_); rintro e w4 ⟨rfl, rfl⟩; exact ⟨rfl, gc _ _ (Below.refl _ _)⟩)); go_big_quiet_on)))
      refine wpQuiet_nil ?_
      intro w5 h5
      have hb5 := ge _ h5
      clear x1 x2
      have hK5 := hK.below hb5 hK.lt
      have hw5 := hb0.trans (hb5.mono hb0.size)
      clear hK hb0 hb5 hI g0 gk gc ge h5
      have y0 := hK5.cell (i := 0) rfl
      have y1 := hK5.cell (i := 1) rfl
      have y2 := hK5.cell (i := 2) rfl
      have y3 := hK5.cell (i := 3) rfl
      have y4 := hK5.cell (i := 4) rfl
      have y5 := hK5.cell (i := 5) rfl
      clear e6
      go_wp2_with (fail)
      obtain ⟨I, f, hI, g0, gk, gc, ge⟩ := class_grown w5
      have x1 := fun s => kept_cell (gk s) y1
      have x5 := fun s => kept_cell (gk s) y5
      have z0 := fun s => kept_cell (hw5.trans ((gk s).mono hw5.size)) a0
      clear y0 y1 y2 y3 y4 y5 a0
      refine wp_region_kept f (by kernel_rfl) (by kernel_rfl) g0 ?_
      repeat (first
        | go_big_quiet_skip
        | (go_big_quiet_want; go_big_quiet_op; first
            | go_big_quiet_on))
      refine wpQuiet_nil ?_
      intro w6 h5
      have hb6 := ge _ h5
      go_wp2
      go_ret
      exact ⟨rfl, hw5.trans (hb6.mono hw5.size)⟩
    have e7 : (cf == frm) = true := by simp [hc]
    obtain rfl : Z = vr := by rw [HZ1.out, HC4.out hc]
    clear HZ1 HC2 HC4 hc
    have hb0 := below_bx w (.cells #[.int .i64 4, .int .i64 frm, .int .i64 view, .int .i64 seq, .string op, .slice (some a) 1 c] 71)
    have hK := Blk.fresh w 71 [.int .i64 4, .int .i64 frm, .int .i64 view, .int .i64 seq, .string op, .slice (some a) 1 c]
    simp only [List.toArray] at hK
    go_enter Try.func45, Try.ntmps45
    go_wp2_with (go_at_call 96; (with_reducible refine (I1.out _).mono ?_); rintro e w1 ⟨rfl, rfl⟩)
    generalize w.alloc (.cells #[.int .i64 4, .int .i64 frm, .int .i64 view, .int .i64 seq, .string op, .slice (some a) 1 c] 71) = w1 at hK hb0 ⊢
    obtain ⟨I, f, hI, g0, gk, gc, ge⟩ := class_grown w1
    have x1 := fun s => kept_cell (gk s) (hK.cell (i := 1) rfl)
    have x2 := fun s => kept_cell (gk s) (hK.cell (i := 2) rfl)
    refine wp_region_kept f (by kernel_rfl) (by kernel_rfl) g0 ?_
    repeat (first
      | go_big_quiet_skip
      | (go_big_quiet_want; go_big_quiet_op; first
          | go_big_quiet_on
          | (apply Exists.intro; refine ⟨fun s => ?_, ?_⟩; (first | (go_at_call 97; (with_reducible refine (LD.out _).mono ?_); rintro e w4 ⟨rfl, rfl⟩; exact ⟨rfl, gc _ _ (Below.refl _ _)⟩)); go_big_quiet_on)))
    refine wpQuiet_nil ?_
    intro w5 h5
    have hb5 := ge _ h5
    clear x1 x2
    have hK5 := hK.below hb5 hK.lt
    have hw5 := hb0.trans (hb5.mono hb0.size)
    clear hK hb0 hb5 hI g0 gk gc ge h5
    have y0 := hK5.cell (i := 0) rfl
    have y1 := hK5.cell (i := 1) rfl
    have y2 := hK5.cell (i := 2) rfl
    have y3 := hK5.cell (i := 3) rfl
    have y4 := hK5.cell (i := 4) rfl
    have y5 := hK5.cell (i := 5) rfl
    clear e6
    go_wp2_with (fail)
    obtain ⟨I, f, hI, g0, gk, gc, ge⟩ := class_grown w5
    have x0 := fun s => kept_cell (gk s) y0
    have x1 := fun s => kept_cell (gk s) y1
    have x2 := fun s => kept_cell (gk s) y2
    have x3 := fun s => kept_cell (gk s) y3
    have x4 := fun s => kept_cell (gk s) y4
    have x5 := fun s => kept_cell (gk s) y5
    have z0 := fun s => kept_cell (hw5.trans ((gk s).mono hw5.size)) a0
    have TR := Lib.hid (fun s => VR.out (f s) (hw5.trans ((gk s).mono hw5.size)))
    clear y0 y1 y2 y3 y4 y5 a0
    refine wp_region_kept f (by kernel_rfl) (by kernel_rfl) g0 ?_
    repeat (first
      | go_big_quiet_skip
      | (go_big_quiet_want; go_big_quiet_op; first
          | go_big_quiet_on
          | (apply Exists.intro; refine ⟨fun s => ?_, ?_⟩; (first | (go_at_call 99; (with_reducible refine (TR.out _).mono ?_); rintro e w4 ⟨rfl, hb4⟩; exact ⟨rfl, gc _ _ hb4⟩)); go_big_quiet_on)))
    refine wpQuiet_nil ?_
    intro w6 h5
    have hb6 := ge _ h5
    go_wp2
    go_ret
    exact ⟨rfl, hw5.trans (hb6.mono hw5.size)⟩
  by_cases hk5 : kind = 5
  · subst hk5
    have HZ1 : Hid (Z = (decide (0 ≤ view ∧ view ≤ 7) && R3)) := Lib.hid (by rw [HZ.out, HW.out rfl])
    clear HN HC HW HO HN2 HC2 HZ HC3 Hnu NU Hvr
    by_cases hl : frm = ld
    rotate_left
    · have e6 : (frm == ld) = false := by simp [hl]
      obtain rfl : Z = false := by rw [HZ1.out, HW2.out]; simp [hl]
      clear HZ1 HW2 HW3 VR hl
      have hb0 := below_bx w (.cells #[.int .i64 5, .int .i64 frm, .int .i64 view, .int .i64 seq, .string op, .slice A L.length c] 71)
      have hK := Blk.fresh w 71 [.int .i64 5, .int .i64 frm, .int .i64 view, .int .i64 seq, .string op, .slice A L.length c]
      simp only [List.toArray] at hK
      go_enter Try.func45, Try.ntmps45
      go_wp2_with (go_at_call 96; (with_reducible refine (I1.out _).mono ?_); rintro e w1 ⟨rfl, rfl⟩)
      generalize w.alloc (.cells #[.int .i64 5, .int .i64 frm, .int .i64 view, .int .i64 seq, .string op, .slice A L.length c] 71) = w1 at hK hb0 ⊢
      obtain ⟨I, f, hI, g0, gk, gc, ge⟩ := class_grown w1
      have x1 := fun s => kept_cell (gk s) (hK.cell (i := 1) rfl)
      have x2 := fun s => kept_cell (gk s) (hK.cell (i := 2) rfl)
      refine wp_region_kept f (by kernel_rfl) (by kernel_rfl) g0 ?_
      repeat (first
        | go_big_quiet_skip
        | (go_big_quiet_want; go_big_quiet_op; first
            | go_big_quiet_on
            | (apply Exists.intro; refine ⟨fun s => ?_, ?_⟩; (first | (go_at_call 97; (with_reducible refine (LD.out _).mono ?_); rintro e w4 ⟨rfl, rfl⟩; exact ⟨rfl, gc _ _ (Below.refl _ _)⟩)); go_big_quiet_on)))
      refine wpQuiet_nil ?_
      intro w5 h5
      have hb5 := ge _ h5
      clear x1 x2
      have hK5 := hK.below hb5 hK.lt
      have hw5 := hb0.trans (hb5.mono hb0.size)
      clear hK hb0 hb5 hI g0 gk gc ge h5
      have y0 := hK5.cell (i := 0) rfl
      have y1 := hK5.cell (i := 1) rfl
      have y2 := hK5.cell (i := 2) rfl
      have y3 := hK5.cell (i := 3) rfl
      have y4 := hK5.cell (i := 4) rfl
      have y5 := hK5.cell (i := 5) rfl
      go_wp2
      go_ret
      exact ⟨rfl, hw5⟩
    have e6 : (frm == ld) = true := by simp [hl]
    have HZ2 : Hid (Z = (decide (3 ≤ (L.length : Int) ∧ (L.length : Int) ≤ 4) && vr)) := Lib.hid (by rw [HZ1.out, HW3.out hl])
    clear HZ1 HW2 HW3 hl
    rcases Bool.eq_false_or_eq_true (decide (3 ≤ (L.length : Int) ∧ (L.length : Int) ≤ 4)) with h3 | h3
    rotate_left
    · have I3 := Lib.hid (fun W => inQ_any h3 W)
      rw [h3] at HZ2
      obtain rfl : Z = false := by rw [HZ2.out]; rfl
      clear HZ2 VR
      have hb0 := below_bx w (.cells #[.int .i64 5, .int .i64 frm, .int .i64 view, .int .i64 seq, .string op, .slice A L.length c] 71)
      have hK := Blk.fresh w 71 [.int .i64 5, .int .i64 frm, .int .i64 view, .int .i64 seq, .string op, .slice A L.length c]
      simp only [List.toArray] at hK
      go_enter Try.func45, Try.ntmps45
      go_wp2_with (go_at_call 96; (with_reducible refine (I1.out _).mono ?_); rintro e w1 ⟨rfl, rfl⟩)
      generalize w.alloc (.cells #[.int .i64 5, .int .i64 frm, .int .i64 view, .int .i64 seq, .string op, .slice A L.length c] 71) = w1 at hK hb0 ⊢
      obtain ⟨I, f, hI, g0, gk, gc, ge⟩ := class_grown w1
      have x1 := fun s => kept_cell (gk s) (hK.cell (i := 1) rfl)
      have x2 := fun s => kept_cell (gk s) (hK.cell (i := 2) rfl)
      refine wp_region_kept f (by kernel_rfl) (by kernel_rfl) g0 ?_
      repeat (first
        | go_big_quiet_skip
        | (go_big_quiet_want; go_big_quiet_op; first
            | go_big_quiet_on
            | (apply Exists.intro; refine ⟨fun s => ?_, ?_⟩; (first | (go_at_call 97; (with_reducible refine (LD.out _).mono ?_); rintro e w4 ⟨rfl, rfl⟩; exact ⟨rfl, gc _ _ (Below.refl _ _)⟩)); go_big_quiet_on)))
      refine wpQuiet_nil ?_
      intro w5 h5
      have hb5 := ge _ h5
      clear x1 x2
      have hK5 := hK.below hb5 hK.lt
      have hw5 := hb0.trans (hb5.mono hb0.size)
      clear hK hb0 hb5 hI g0 gk gc ge h5
      have y0 := hK5.cell (i := 0) rfl
      have y1 := hK5.cell (i := 1) rfl
      have y2 := hK5.cell (i := 2) rfl
      have y3 := hK5.cell (i := 3) rfl
      have y4 := hK5.cell (i := 4) rfl
      have y5 := hK5.cell (i := 5) rfl
      go_wp2_with (go_at_call 64; (with_reducible refine (I3.out _).mono ?_); rintro e w6 ⟨rfl, rfl⟩)
      go_ret
      exact ⟨rfl, hw5⟩
    have I3 := Lib.hid (fun W => inQ_any h3 W)
    rw [h3] at HZ2
    obtain rfl : Z = vr := by rw [HZ2.out]; rfl
    clear HZ2
    have hb0 := below_bx w (.cells #[.int .i64 5, .int .i64 frm, .int .i64 view, .int .i64 seq, .string op, .slice A L.length c] 71)
    have hK := Blk.fresh w 71 [.int .i64 5, .int .i64 frm, .int .i64 view, .int .i64 seq, .string op, .slice A L.length c]
    simp only [List.toArray] at hK
    go_enter Try.func45, Try.ntmps45
    go_wp2_with (go_at_call 96; (with_reducible refine (I1.out _).mono ?_); rintro e w1 ⟨rfl, rfl⟩)
    generalize w.alloc (.cells #[.int .i64 5, .int .i64 frm, .int .i64 view, .int .i64 seq, .string op, .slice A L.length c] 71) = w1 at hK hb0 ⊢
    obtain ⟨I, f, hI, g0, gk, gc, ge⟩ := class_grown w1
    have x1 := fun s => kept_cell (gk s) (hK.cell (i := 1) rfl)
    have x2 := fun s => kept_cell (gk s) (hK.cell (i := 2) rfl)
    refine wp_region_kept f (by kernel_rfl) (by kernel_rfl) g0 ?_
    repeat (first
      | go_big_quiet_skip
      | (go_big_quiet_want; go_big_quiet_op; first
          | go_big_quiet_on
          | (apply Exists.intro; refine ⟨fun s => ?_, ?_⟩; (first | (go_at_call 97; (with_reducible refine (LD.out _).mono ?_); rintro e w4 ⟨rfl, rfl⟩; exact ⟨rfl, gc _ _ (Below.refl _ _)⟩)); go_big_quiet_on)))
    refine wpQuiet_nil ?_
    intro w5 h5
    have hb5 := ge _ h5
    clear x1 x2
    have hK5 := hK.below hb5 hK.lt
    have hw5 := hb0.trans (hb5.mono hb0.size)
    clear hK hb0 hb5 hI g0 gk gc ge h5
    have y0 := hK5.cell (i := 0) rfl
    have y1 := hK5.cell (i := 1) rfl
    have y2 := hK5.cell (i := 2) rfl
    have y3 := hK5.cell (i := 3) rfl
    have y4 := hK5.cell (i := 4) rfl
    have y5 := hK5.cell (i := 5) rfl
    go_wp2_with (first | (go_at_call 64; (with_reducible refine (I3.out _).mono ?_); rintro e w6 ⟨rfl, rfl⟩) | (go_at_call 99; (with_reducible refine (VR.out _ hw5).mono ?_); rintro e w6 ⟨rfl, hb6⟩))
    go_ret
    exact ⟨rfl, hw5.trans (hb6.mono hw5.size)⟩
  obtain rfl : Z = false := by rw [HZ.out, HO.out hk1 hk2 hk3 hk4 hk5]; simp
  have e1 : (kind == 1) = false := by simp; exact hk1
  have e2 : (kind == 2) = false := by simp; exact hk2
  have e3 : (kind == 3) = false := by simp; exact hk3
  have e4 : (kind == 4) = false := by simp; exact hk4
  have e5 : (kind == 5) = false := by simp; exact hk5
  clear HN HC HW HO HN2 HC2 HW2 HZ HC3 HW3 Hnu NU Hvr VR
  obtain ⟨b, Hb⟩ : ∃ b, Hid ((frm == ld) = b) := ⟨_, Lib.hid rfl⟩
  have e6 := Hb.out
  have hb0 := below_bx w (.cells #[.int .i64 kind, .int .i64 frm, .int .i64 view, .int .i64 seq, .string op, .slice A L.length c] 71)
  have hK := Blk.fresh w 71 [.int .i64 kind, .int .i64 frm, .int .i64 view, .int .i64 seq, .string op, .slice A L.length c]
  simp only [List.toArray] at hK
  go_enter Try.func45, Try.ntmps45
  go_wp2_with (go_at_call 96; (with_reducible refine (I1.out _).mono ?_); rintro e w1 ⟨rfl, rfl⟩)
  generalize w.alloc (.cells #[.int .i64 kind, .int .i64 frm, .int .i64 view, .int .i64 seq, .string op, .slice A L.length c] 71) = w1 at hK hb0 ⊢
  obtain ⟨I, f, hI, g0, gk, gc, ge⟩ := class_grown w1
  have x1 := fun s => kept_cell (gk s) (hK.cell (i := 1) rfl)
  have x2 := fun s => kept_cell (gk s) (hK.cell (i := 2) rfl)
  refine wp_region_kept f (by kernel_rfl) (by kernel_rfl) g0 ?_
  repeat (first
    | go_big_quiet_skip
    | (go_big_quiet_want; go_big_quiet_op; first
        | go_big_quiet_on
        | (apply Exists.intro; refine ⟨fun s => ?_, ?_⟩; (first | (go_at_call 97; (with_reducible refine (LD.out _).mono ?_); rintro e w4 ⟨rfl, rfl⟩; exact ⟨rfl, gc _ _ (Below.refl _ _)⟩)); go_big_quiet_on)))
  refine wpQuiet_nil ?_
  intro w5 h5
  have hb5 := ge _ h5
  clear x1 x2
  have hK5 := hK.below hb5 hK.lt
  have hw5 := hb0.trans (hb5.mono hb0.size)
  clear hK hb0 hb5 hI g0 gk gc ge h5
  have y0 := hK5.cell (i := 0) rfl
  have y1 := hK5.cell (i := 1) rfl
  have y2 := hK5.cell (i := 2) rfl
  have y3 := hK5.cell (i := 3) rfl
  have y4 := hK5.cell (i := 4) rfl
  have y5 := hK5.cell (i := 5) rfl
  clear e6
  go_wp2
  go_ret
  exact ⟨rfl, hw5⟩
theorem bothSayRight (t : Sy) (hf : t.fits) (hs : t.small) : ∃ r : Bool,
    (∀ A c W, Chs W 0 W.heap.size A t.changes → Calls Try.prog 43 #[syV t (.slice A t.changes.length c)] W fun e w' => e = .returned (.bool r) ∧ Below W.heap.size W w') ∧
    (∀ A c W, Chs W 0 W.heap.size A t.changes → Calls Try.prog 45 #[syV t (.slice A t.changes.length c)] W fun e w' => e = .returned (.bool r) ∧ Below W.heap.size W w') :=
  ⟨sayB t, fun A c W h => specSayRight_any t A c W hf h, fun A c W h => implSayRight_any t A c W hf h⟩
end Go.Proofs.Ytjnbhppnchmeoaa

namespace Go.Proofs.Ytjnbhppnchmeoaa
open Go.RowKit
set_option linter.unusedVariables false
set_option maxRecDepth 1000000

theorem putNum_e (n : Int) (h0 : -9223372036854775808 ≤ n) (h1 : n ≤ 9223372036854775807) : ∀ W, Calls Try.prog 102 #[.int .i64 n] W fun e w' => e = .returned (.string (numS n)) ∧ Below W.heap.size W w' := fun W => implPutNum_any n W h0 h1
theorem sizePrf_any (A : Option Addr) (n c : Nat) (w : World) (h : n ≤ 1000) : Calls Try.prog 136 #[.slice A n c] w fun e w' => e = .returned (.string (numS n)) ∧ Below w.heap.size w w' := by
  have P := Lib.hid (implPutNum_any n w (by omega) (by omega))
  have E : Hid (strOfNums (vint (zig n)) = numS n) := rfl
  rw [E.out] at P
  go_enter Try.func136, Try.ntmps136
  go_wp2_with (go_at_call 102; (with_reducible refine (P.out).mono ?_); rintro e w1 ⟨rfl, hb1⟩)
  go_ret
  exact ⟨rfl, hb1⟩
theorem sizeCng_any (A : Option Addr) (n c : Nat) (w : World) (h : n ≤ 1000) : Calls Try.prog 127 #[.slice A n c] w fun e w' => e = .returned (.string (numS n)) ∧ Below w.heap.size w w' := by
  have P := Lib.hid (implPutNum_any n w (by omega) (by omega))
  have E : Hid (strOfNums (vint (zig n)) = numS n) := rfl
  rw [E.out] at P
  go_enter Try.func127, Try.ntmps127
  go_wp2_with (go_at_call 102; (with_reducible refine (P.out).mono ?_); rintro e w1 ⟨rfl, hb1⟩)
  go_ret
  exact ⟨rfl, hb1⟩
theorem sizeSy_any (A : Option Addr) (n c : Nat) (w : World) (h : n ≤ 1000) : Calls Try.prog 104 #[.slice A n c] w fun e w' => e = .returned (.string (numS n)) ∧ Below w.heap.size w w' := by
  have P := Lib.hid (implPutNum_any n w (by omega) (by omega))
  have E : Hid (strOfNums (vint (zig n)) = numS n) := rfl
  rw [E.out] at P
  go_enter Try.func104, Try.ntmps104
  go_wp2_with (go_at_call 102; (with_reducible refine (P.out).mono ?_); rintro e w1 ⟨rfl, hb1⟩)
  go_ret
  exact ⟨rfl, hb1⟩
set_option maxHeartbeats 8000000 in
theorem proofBytes_any (t : Prf) (A : Option Addr) (c : Nat) (w : World) {lo : Nat} (h : PrfSz t) (hA : Ints w lo w.heap.size A t.who) :
    Calls Try.prog 128 #[prfV t (.slice A t.who.length c)] w fun e w' => e = .returned (.string (prfE t)) ∧ Below w.heap.size w w' := by
  have HE0 : Hid (prfE t = numS t.view ++ numS t.seq ++ ptext t.op ++ numS t.who.length ++ cat numS t.who) := rfl
  obtain ⟨view, seq, op, L⟩ := t
  obtain ⟨z0, z1, z2, z3, z4⟩ := h
  simp only at z0 z1 z2 z3 z4 hA HE0 ⊢
  generalize prfE ⟨view, seq, op, L⟩ = E at HE0 ⊢
  have hK := Blk.fresh w 49 [.int .i64 view, .int .i64 seq, .string op, .slice A L.length c]
  have hb0 := below_bx w (.cells #[.int .i64 view, .int .i64 seq, .string op, .slice A L.length c] 49)
  simp only [List.toArray] at hK
  have P0 := Lib.hid (putNum_e view (by omega) (by omega))
  have l0 := numS10 (n := view) (by omega) (by omega)
  have P1 := Lib.hid (putNum_e seq (by omega) (by omega))
  have l1 := numS10 (n := seq) (by omega) (by omega)
  have P2 := Lib.hid (fun W => implPutText_any op W (by omega))
  have l2 := ptext_le (t := op) (by omega)
  have P3 := Lib.hid (fun W => sizePrf_any A L.length c W (by omega))
  have l3 := numS10 (n := (L.length : Int)) (by omega) (by omega)
  have ZL := Lib.hid z4
  clear z4
  generalize numS view = s0 at P0 l0 HE0
  generalize numS seq = s1 at P1 l1 HE0
  generalize ptext op = s2 at P2 l2 HE0
  generalize numS (L.length : Int) = s3 at P3 l3 HE0
  have l2' : s2.size ≤ 130 := by omega
  clear l2
  go_enter Try.func128, Try.ntmps128
  go_wp2_with (fail)
  generalize w.alloc (.cells #[.int .i64 view, .int .i64 seq, .string op, .slice A L.length c] 49) = v0 at hK hb0 ⊢
  obtain ⟨I, f, hI, g0, gk, gc, ge⟩ := class_grown v0
  have x0 := fun s => kept_cell (gk s) (hK.cell (i := 0) rfl)
  have x1 := fun s => kept_cell (gk s) (hK.cell (i := 1) rfl)
  have x2 := fun s => kept_cell (gk s) (hK.cell (i := 2) rfl)
  have x3 := fun s => kept_cell (gk s) (hK.cell (i := 3) rfl)
  refine wp_region_kept f (by kernel_rfl) (by kernel_rfl) g0 ?_
  repeat (first
    | go_big_quiet_skip
    | (go_big_quiet_want; go_big_quiet_op; first
        | go_big_quiet_on
        | (apply Exists.intro; refine ⟨fun s => ?_, ?_⟩; (go_at_call 102; (with_reducible refine (P0.out _).mono ?_); rintro e w4 ⟨rfl, hb4⟩; exact ⟨rfl, gc _ _ hb4⟩); go_big_quiet_on)
        | (apply Exists.intro; refine ⟨fun s => ?_, ?_⟩; (go_at_call 102; (with_reducible refine (P1.out _).mono ?_); rintro e w4 ⟨rfl, hb4⟩; exact ⟨rfl, gc _ _ hb4⟩); go_big_quiet_on)
        | (apply Exists.intro; refine ⟨fun s => ?_, ?_⟩; (go_at_call 103; (with_reducible refine (P2.out _).mono ?_); rintro e w4 ⟨rfl, hb4⟩; exact ⟨rfl, gc _ _ hb4⟩); go_big_quiet_on)
        | (apply Exists.intro; refine ⟨fun s => ?_, ?_⟩; (go_at_call 136; (with_reducible refine (P3.out _).mono ?_); rintro e w4 ⟨rfl, hb4⟩; exact ⟨rfl, gc _ _ hb4⟩); go_big_quiet_on)))
  refine wpQuiet_nil ?_
  intro w1 h1
  have hb1 := ge _ h1
  have hK1 := hK.below hb1 hK.lt
  have hw1 := hb0.trans (hb1.mono hb0.size)
  clear x0 x1 x2 x3 gk gc ge g0 hI h1 hb1 hK hb0 P0 P1 P2 P3
  obtain ⟨e1, HE1⟩ : ∃ e1, Hid (s0 ++ s1 ++ s2 ++ s3 = e1) := ⟨_, Lib.hid rfl⟩
  have hl1 : e1.size ≤ 180 := by rw [← HE1.out]; simp only [ByteArray.size_append]; omega
  rw [HE1.out] at HE0
  have c3 := hK1.cell (i := 3) rfl
  go_wp2
  rw [HE1.out]
  clear HE1 c3 l0 l1 l2' l3
  go_loopw [3, 5, 24] (fun v _ i wr => ∃ (k : Nat) (acc : ByteArray), k ≤ L.length ∧ i = .int .i64 k ∧ v = .string acc ∧ acc = e1 ++ cat numS (L.take k) ∧ acc.size ≤ 180 + k * 10 ∧ Blk wr w.heap.size 49 [.int .i64 view, .int .i64 seq, .string op, .slice A L.length c] ∧ Below w.heap.size w wr) (fun _ _ i _ => L.length - (intOf i).toNat)
  case atStart => exact ⟨0, e1, by omega, rfl, rfl, (cat_zero _ _ _).symm, by omega, hK1, hw1⟩
  case round =>
    obtain ⟨k, acc, hk, rfl, rfl, hacc, hl, hK3, hw3⟩ := hrel
    have HA := Lib.hid hacc
    clear hacc hK1 hw1
    have k5 := hK3.cell (i := 3) rfl
    by_cases hlt : k < L.length
    rotate_left
    · obtain rfl : k = L.length := by omega
      have HA2 : Hid (E = acc) := Lib.hid (by rw [HE0.out, HA.out, cat_all])
      obtain rfl := HA2.out
      clear HA HE0 HA2
      go_wp2
      go_ret
      exact ⟨rfl, hw3⟩
    have hlt' : (k : Int) < (L.length : Int) := by omega
    have HC := Lib.hid (cat_next numS L hlt e1)
    have hz := ZL.out k hlt
    obtain ⟨a, rfl, _, hab, a0, _⟩ := (hA.on hw3).2 k hlt
    have PE := Lib.hid (putNum_e L[k] (by omega) (by omega))
    have le := numS10 (n := L[k]) (by omega) (by omega)
    generalize numS L[k] = se at PE le HC
    go_wp2_with (go_at_call 102; (with_reducible refine (PE.out _).mono ?_); rintro e w5 ⟨rfl, hb5⟩)
    exact ⟨⟨k + 1, acc ++ se, by omega, by go_num, rfl, by rw [HC.out, HA.out], by rw [ByteArray.size_append]; omega, hK3.below hb5 hK3.lt, hw3.trans (hb5.mono hw3.size)⟩, by simp [intOf]; omega⟩
set_option maxHeartbeats 8000000 in
theorem changeBytes_any (t : Cng) (A : Option Addr) (c : Nat) (w : World) {lo : Nat} (h : CngSz t) (hA : Prs w lo w.heap.size A t.proofs) :
    Calls Try.prog 105 #[cngV t (.slice A t.proofs.length c)] w fun e w' => e = .returned (.string (cngE t)) ∧ Below w.heap.size w w' := by
  have HE0 : Hid (cngE t = numS t.frm ++ numS t.view ++ numS t.proofs.length ++ cat prfE t.proofs) := rfl
  obtain ⟨frm, view, L⟩ := t
  obtain ⟨z0, z1, z2, z3⟩ := h
  simp only at z0 z1 z2 z3 hA HE0 ⊢
  generalize cngE ⟨frm, view, L⟩ = E at HE0 ⊢
  have hK := Blk.fresh w 60 [.int .i64 frm, .int .i64 view, .slice A L.length c]
  have hb0 := below_bx w (.cells #[.int .i64 frm, .int .i64 view, .slice A L.length c] 60)
  simp only [List.toArray] at hK
  have P0 := Lib.hid (putNum_e frm (by omega) (by omega))
  have l0 := numS10 (n := frm) (by omega) (by omega)
  have P1 := Lib.hid (putNum_e view (by omega) (by omega))
  have l1 := numS10 (n := view) (by omega) (by omega)
  have P2 := Lib.hid (fun W => sizeCng_any A L.length c W (by omega))
  have l2 := numS10 (n := (L.length : Int)) (by omega) (by omega)
  have ZL := Lib.hid z3
  clear z3
  generalize numS frm = s0 at P0 l0 HE0
  generalize numS view = s1 at P1 l1 HE0
  generalize numS (L.length : Int) = s2 at P2 l2 HE0
  go_enter Try.func105, Try.ntmps105
  go_wp2_with (fail)
  generalize w.alloc (.cells #[.int .i64 frm, .int .i64 view, .slice A L.length c] 60) = v0 at hK hb0 ⊢
  obtain ⟨I, f, hI, g0, gk, gc, ge⟩ := class_grown v0
  have x0 := fun s => kept_cell (gk s) (hK.cell (i := 0) rfl)
  have x1 := fun s => kept_cell (gk s) (hK.cell (i := 1) rfl)
  have x2 := fun s => kept_cell (gk s) (hK.cell (i := 2) rfl)
  refine wp_region_kept f (by kernel_rfl) (by kernel_rfl) g0 ?_
  repeat (first
    | go_big_quiet_skip
    | (go_big_quiet_want; go_big_quiet_op; first
        | go_big_quiet_on
        | (apply Exists.intro; refine ⟨fun s => ?_, ?_⟩; (go_at_call 102; (with_reducible refine (P0.out _).mono ?_); rintro e w4 ⟨rfl, hb4⟩; exact ⟨rfl, gc _ _ hb4⟩); go_big_quiet_on)
        | (apply Exists.intro; refine ⟨fun s => ?_, ?_⟩; (go_at_call 102; (with_reducible refine (P1.out _).mono ?_); rintro e w4 ⟨rfl, hb4⟩; exact ⟨rfl, gc _ _ hb4⟩); go_big_quiet_on)
        | (apply Exists.intro; refine ⟨fun s => ?_, ?_⟩; (go_at_call 127; (with_reducible refine (P2.out _).mono ?_); rintro e w4 ⟨rfl, hb4⟩; exact ⟨rfl, gc _ _ hb4⟩); go_big_quiet_on)))
  refine wpQuiet_nil ?_
  intro w1 h1
  have hb1 := ge _ h1
  have hK1 := hK.below hb1 hK.lt
  have hw1 := hb0.trans (hb1.mono hb0.size)
  clear x0 x1 x2 gk gc ge g0 hI h1 hb1 hK hb0 P0 P1 P2
  obtain ⟨e1, HE1⟩ : ∃ e1, Hid (s0 ++ s1 ++ s2 = e1) := ⟨_, Lib.hid rfl⟩
  have hl1 : e1.size ≤ 30 := by rw [← HE1.out]; simp only [ByteArray.size_append]; omega
  rw [HE1.out] at HE0
  have c2 := hK1.cell (i := 2) rfl
  go_wp2
  rw [HE1.out]
  clear HE1 c2 l0 l1 l2
  go_loopw [3, 5, 20] (fun v _ i wr => ∃ (k : Nat) (acc : ByteArray), k ≤ L.length ∧ i = .int .i64 k ∧ v = .string acc ∧ acc = e1 ++ cat prfE (L.take k) ∧ acc.size ≤ 30 + k * 210 ∧ Blk wr w.heap.size 60 [.int .i64 frm, .int .i64 view, .slice A L.length c] ∧ Below w.heap.size w wr) (fun _ _ i _ => L.length - (intOf i).toNat)
  case atStart => exact ⟨0, e1, by omega, rfl, rfl, (cat_zero _ _ _).symm, by omega, hK1, hw1⟩
  case round =>
    obtain ⟨k, acc, hk, rfl, rfl, hacc, hl, hK3, hw3⟩ := hrel
    have HA := Lib.hid hacc
    clear hacc hK1 hw1
    have k5 := hK3.cell (i := 2) rfl
    by_cases hlt : k < L.length
    rotate_left
    · obtain rfl : k = L.length := by omega
      have HA2 : Hid (E = acc) := Lib.hid (by rw [HE0.out, HA.out, cat_all])
      obtain rfl := HA2.out
      clear HA HE0 HA2
      go_wp2
      go_ret
      exact ⟨rfl, hw3⟩
    have hlt' : (k : Int) < (L.length : Int) := by omega
    have HC := Lib.hid (cat_next prfE L hlt e1)
    have hz := ZL.out k hlt
    obtain ⟨a, rfl, hab, C, c1, a0, a1, a2, a3, hC⟩ := (hA.on hw3).at k hlt
    have le := prfE_le hz
    have hG := Blk.fresh wr 49 [.int .i64 L[k].view, .int .i64 L[k].seq, .string L[k].op, .slice C L[k].who.length c1]
    have hbx := below_bx wr (.cells #[.int .i64 L[k].view, .int .i64 L[k].seq, .string L[k].op, .slice C L[k].who.length c1] 49)
    have hK4 := hK3.alloc (.cells #[.int .i64 L[k].view, .int .i64 L[k].seq, .string L[k].op, .slice C L[k].who.length c1] 49)
    have hw4 := hw3.alloc hw3.size (.cells #[.int .i64 L[k].view, .int .i64 L[k].seq, .string L[k].op, .slice C L[k].who.length c1] 49)
    have PE := Lib.hid (proofBytes_any L[k] C c1 (wr.alloc (.cells #[.int .i64 L[k].view, .int .i64 L[k].seq, .string L[k].op, .slice C L[k].who.length c1] 49)) hz (hC.on hbx))
    generalize prfE L[k] = se at PE le HC
    simp only [List.toArray] at hG
    have q0 := hG.cell (i := 0) rfl
    have q1 := hG.cell (i := 1) rfl
    have q2 := hG.cell (i := 2) rfl
    have q3 := hG.cell (i := 3) rfl
    go_wp2_with (go_at_call 128; (with_reducible refine (PE.out).mono ?_); rintro e w5 ⟨rfl, hb5⟩)
    exact ⟨⟨k + 1, acc ++ se, by omega, by go_num, rfl, by rw [HC.out, HA.out], by rw [ByteArray.size_append]; omega, hK4.below hb5 hK4.lt, hw4.trans (hb5.mono hw4.size)⟩, by simp [intOf]; omega⟩
set_option maxHeartbeats 8000000 in
theorem implSayBytes_any (t : Sy) (A : Option Addr) (c : Nat) (w : World) {lo : Nat} (hf : t.fits) (hA : Chs w lo w.heap.size A t.changes) :
    Calls Try.prog 48 #[syV t (.slice A t.changes.length c)] w fun e w' => e = .returned (.string (syBytes t)) ∧ Below w.heap.size w w' := by
  have BR := Lib.hid (fun W (h : Below w.heap.size w W) => implSayRight_any t A c W hf (hA.on h))
  have F0 : Hid (sayB t = false → syBytes t = ⟨#[]⟩) := Lib.hid syBytes_no
  have F1 : Hid (sayB t = true → syBytes t = syE t) := Lib.hid syBytes_ok
  have HS := Lib.hid (fun h => sySz (y := t) h)
  generalize syBytes t = r at F0 F1 ⊢
  have HE0 : Hid (syE t = numS t.kind ++ numS t.frm ++ numS t.view ++ numS t.seq ++ ptext t.op ++ numS t.changes.length ++ cat cngE t.changes) := rfl
  obtain ⟨kind, frm, view, seq, op, L⟩ := t
  simp only at hA HE0 HS BR
  generalize syE ⟨kind, frm, view, seq, op, L⟩ = E at HE0 F1
  have hK := Blk.fresh w 71 [.int .i64 kind, .int .i64 frm, .int .i64 view, .int .i64 seq, .string op, .slice A L.length c]
  have hb0 := below_bx w (.cells #[.int .i64 kind, .int .i64 frm, .int .i64 view, .int .i64 seq, .string op, .slice A L.length c] 71)
  simp only [List.toArray] at hK
  rcases Bool.eq_false_or_eq_true (sayB ⟨kind, frm, view, seq, op, L⟩) with hT | hT
  rotate_left
  · have H0 := Lib.hid (F0.out hT)
    rw [hT] at BR
    obtain rfl := H0.out
    clear hT F0 F1 HS HE0 H0
    go_enter Try.func48, Try.ntmps48
    have k0 := hK.cell (i := 0) rfl
    have k1 := hK.cell (i := 1) rfl
    have k2 := hK.cell (i := 2) rfl
    have k3 := hK.cell (i := 3) rfl
    have k4 := hK.cell (i := 4) rfl
    have k5 := hK.cell (i := 5) rfl
    go_wp2_with (fail)
    clear k0 k1 k2 k3 k4 k5
    generalize w.alloc (.cells #[.int .i64 kind, .int .i64 frm, .int .i64 view, .int .i64 seq, .string op, .slice A L.length c] 71) = v0 at hK hb0 ⊢
    refine (BR.out _ hb0).mono ?_
    rintro e w1 ⟨rfl, hb1⟩
    go_wp2
    go_ret
    exact ⟨rfl, hb0.trans (hb1.mono hb0.size)⟩
  obtain rfl := F1.out hT
  obtain ⟨z0, z1, z2, z3, z4, z5, z6⟩ := HS.out hT
  simp only at z0 z1 z2 z3 z4 z5 z6
  rw [hT] at BR
  clear hT F0 F1 HS
  have P0 := Lib.hid (putNum_e kind (by omega) (by omega))
  have l0 := numS10 (n := kind) (by omega) (by omega)
  have P1 := Lib.hid (putNum_e frm (by omega) (by omega))
  have l1 := numS10 (n := frm) (by omega) (by omega)
  have P2 := Lib.hid (putNum_e view (by omega) (by omega))
  have l2 := numS10 (n := view) (by omega) (by omega)
  have P3 := Lib.hid (putNum_e seq (by omega) (by omega))
  have l3 := numS10 (n := seq) (by omega) (by omega)
  have P4 := Lib.hid (fun W => implPutText_any op W (by omega))
  have l4 := ptext_le (t := op) (by omega)
  have P5 := Lib.hid (fun W => sizeSy_any A L.length c W (by omega))
  have l5 := numS10 (n := (L.length : Int)) (by omega) (by omega)
  have ZL := Lib.hid z6
  clear z6
  generalize numS kind = s0 at P0 l0 HE0
  generalize numS frm = s1 at P1 l1 HE0
  generalize numS view = s2 at P2 l2 HE0
  generalize numS seq = s3 at P3 l3 HE0
  generalize ptext op = s4 at P4 l4 HE0
  generalize numS (L.length : Int) = s5 at P5 l5 HE0
  have l4' : s4.size ≤ 130 := by omega
  clear l4
  go_enter Try.func48, Try.ntmps48
  have k0 := hK.cell (i := 0) rfl
  have k1 := hK.cell (i := 1) rfl
  have k2 := hK.cell (i := 2) rfl
  have k3 := hK.cell (i := 3) rfl
  have k4 := hK.cell (i := 4) rfl
  have k5 := hK.cell (i := 5) rfl
  go_wp2_with (fail)
  clear k0 k1 k2 k3 k4 k5
  generalize w.alloc (.cells #[.int .i64 kind, .int .i64 frm, .int .i64 view, .int .i64 seq, .string op, .slice A L.length c] 71) = v0 at hK hb0 ⊢
  refine (BR.out _ hb0).mono ?_
  rintro e w0 ⟨rfl, hb⟩
  replace hK := hK.below hb hK.lt
  replace hb0 := hb0.trans (hb.mono hb0.size)
  clear hb BR
  go_wp2_with (fail)
  obtain ⟨I, f, hI, g0, gk, gc, ge⟩ := class_grown w0
  have x0 := fun s => kept_cell (gk s) (hK.cell (i := 0) rfl)
  have x1 := fun s => kept_cell (gk s) (hK.cell (i := 1) rfl)
  have x2 := fun s => kept_cell (gk s) (hK.cell (i := 2) rfl)
  have x3 := fun s => kept_cell (gk s) (hK.cell (i := 3) rfl)
  have x4 := fun s => kept_cell (gk s) (hK.cell (i := 4) rfl)
  have x5 := fun s => kept_cell (gk s) (hK.cell (i := 5) rfl)
  refine wp_region_kept f (by kernel_rfl) (by kernel_rfl) g0 ?_
  repeat (first
    | go_big_quiet_skip
    | (go_big_quiet_want; go_big_quiet_op; first
        | go_big_quiet_on
        | (apply Exists.intro; refine ⟨fun s => ?_, ?_⟩; (go_at_call 102; (with_reducible refine (P0.out _).mono ?_); rintro e w4 ⟨rfl, hb4⟩; exact ⟨rfl, gc _ _ hb4⟩); go_big_quiet_on)
        | (apply Exists.intro; refine ⟨fun s => ?_, ?_⟩; (go_at_call 102; (with_reducible refine (P1.out _).mono ?_); rintro e w4 ⟨rfl, hb4⟩; exact ⟨rfl, gc _ _ hb4⟩); go_big_quiet_on)
        | (apply Exists.intro; refine ⟨fun s => ?_, ?_⟩; (go_at_call 102; (with_reducible refine (P2.out _).mono ?_); rintro e w4 ⟨rfl, hb4⟩; exact ⟨rfl, gc _ _ hb4⟩); go_big_quiet_on)
        | (apply Exists.intro; refine ⟨fun s => ?_, ?_⟩; (go_at_call 102; (with_reducible refine (P3.out _).mono ?_); rintro e w4 ⟨rfl, hb4⟩; exact ⟨rfl, gc _ _ hb4⟩); go_big_quiet_on)
        | (apply Exists.intro; refine ⟨fun s => ?_, ?_⟩; (go_at_call 103; (with_reducible refine (P4.out _).mono ?_); rintro e w4 ⟨rfl, hb4⟩; exact ⟨rfl, gc _ _ hb4⟩); go_big_quiet_on)
        | (apply Exists.intro; refine ⟨fun s => ?_, ?_⟩; (go_at_call 104; (with_reducible refine (P5.out _).mono ?_); rintro e w4 ⟨rfl, hb4⟩; exact ⟨rfl, gc _ _ hb4⟩); go_big_quiet_on)))
  refine wpQuiet_nil ?_
  intro w1 h1
  have hb1 := ge _ h1
  have hK1 := hK.below hb1 hK.lt
  have hw1 := hb0.trans (hb1.mono hb0.size)
  clear x0 x1 x2 x3 x4 x5 gk gc ge g0 hI h1 hb1 hK hb0 P0 P1 P2 P3 P4 P5
  obtain ⟨e1, HE1⟩ : ∃ e1, Hid (s0 ++ s1 ++ s2 ++ s3 ++ s4 ++ s5 = e1) := ⟨_, Lib.hid rfl⟩
  have hl1 : e1.size ≤ 180 := by rw [← HE1.out]; simp only [ByteArray.size_append]; omega
  rw [HE1.out] at HE0
  have c5 := hK1.cell (i := 5) rfl
  go_wp2
  rw [HE1.out]
  clear HE1 c5 l0 l1 l2 l3 l4' l5
  go_loopw [3, 5, 35] (fun v _ i wr => ∃ (k : Nat) (acc : ByteArray), k ≤ L.length ∧ i = .int .i64 k ∧ v = .string acc ∧ acc = e1 ++ cat cngE (L.take k) ∧ acc.size ≤ 180 + k * 1300 ∧ Blk wr w.heap.size 71 [.int .i64 kind, .int .i64 frm, .int .i64 view, .int .i64 seq, .string op, .slice A L.length c] ∧ Below w.heap.size w wr) (fun _ _ i _ => L.length - (intOf i).toNat)
  case atStart => exact ⟨0, e1, by omega, rfl, rfl, (cat_zero _ _ _).symm, by omega, hK1, hw1⟩
  case round =>
    obtain ⟨k, acc, hk, rfl, rfl, hacc, hl, hK3, hw3⟩ := hrel
    have HA := Lib.hid hacc
    clear hacc hK1 hw1
    have k5 := hK3.cell (i := 5) rfl
    by_cases hlt : k < L.length
    rotate_left
    · obtain rfl : k = L.length := by omega
      have HA2 : Hid (r = acc) := Lib.hid (by rw [HE0.out, HA.out, cat_all])
      obtain rfl := HA2.out
      clear HA HE0 HA2
      go_wp2
      go_ret
      exact ⟨rfl, hw3⟩
    have hlt' : (k : Int) < (L.length : Int) := by omega
    have HC := Lib.hid (cat_next cngE L hlt e1)
    have hz := ZL.out k hlt
    obtain ⟨a, rfl, hab, C, c1, a0, a1, a2, hC⟩ := (hA.on hw3).at k hlt
    have le := cngE_le hz
    have hG := Blk.fresh wr 60 [.int .i64 L[k].frm, .int .i64 L[k].view, .slice C L[k].proofs.length c1]
    have hbx := below_bx wr (.cells #[.int .i64 L[k].frm, .int .i64 L[k].view, .slice C L[k].proofs.length c1] 60)
    have hK4 := hK3.alloc (.cells #[.int .i64 L[k].frm, .int .i64 L[k].view, .slice C L[k].proofs.length c1] 60)
    have hw4 := hw3.alloc hw3.size (.cells #[.int .i64 L[k].frm, .int .i64 L[k].view, .slice C L[k].proofs.length c1] 60)
    have PE := Lib.hid (changeBytes_any L[k] C c1 (wr.alloc (.cells #[.int .i64 L[k].frm, .int .i64 L[k].view, .slice C L[k].proofs.length c1] 60)) hz (hC.on hbx))
    generalize cngE L[k] = se at PE le HC
    simp only [List.toArray] at hG
    have q0 := hG.cell (i := 0) rfl
    have q1 := hG.cell (i := 1) rfl
    have q2 := hG.cell (i := 2) rfl
    go_wp2_with (go_at_call 105; (with_reducible refine (PE.out).mono ?_); rintro e w5 ⟨rfl, hb5⟩)
    exact ⟨⟨k + 1, acc ++ se, by omega, by go_num, rfl, by rw [HC.out, HA.out], by rw [ByteArray.size_append]; omega, hK4.below hb5 hK4.lt, hw4.trans (hb5.mono hw4.size)⟩, by simp [intOf]; omega⟩
end Go.Proofs.Ytjnbhppnchmeoaa

namespace Go.Proofs.Ytjnbhppnchmeoaa
open Go.RowKit
set_option linter.unusedVariables false
set_option maxRecDepth 1000000

theorem sputNum_e (n : Int) (h0 : -9223372036854775808 ≤ n) (h1 : n ≤ 9223372036854775807) : ∀ W, Calls Try.prog 122 #[.int .i64 n] W fun e w' => e = .returned (.string (numS n)) ∧ Below W.heap.size W w' := fun W => specPutNum_any n W h0 h1
set_option maxHeartbeats 8000000 in
theorem l10Proof_any (t : Prf) (A : Option Addr) (c : Nat) (w : World) {lo : Nat} (h : PrfSz t) (hA : Ints w lo w.heap.size A t.who) :
    Calls Try.prog 135 #[prfV t (.slice A t.who.length c)] w fun e w' => e = .returned (.string (prfE t)) ∧ Below w.heap.size w w' := by
  have HE0 : Hid (prfE t = numS t.view ++ numS t.seq ++ ptext t.op ++ numS t.who.length ++ cat numS t.who) := rfl
  obtain ⟨view, seq, op, L⟩ := t
  obtain ⟨z0, z1, z2, z3, z4⟩ := h
  simp only at z0 z1 z2 z3 z4 hA HE0 ⊢
  generalize prfE ⟨view, seq, op, L⟩ = E at HE0 ⊢
  have hK := Blk.fresh w 49 [.int .i64 view, .int .i64 seq, .string op, .slice A L.length c]
  have hb0 := below_bx w (.cells #[.int .i64 view, .int .i64 seq, .string op, .slice A L.length c] 49)
  simp only [List.toArray] at hK
  have P0 := Lib.hid (sputNum_e view (by omega) (by omega))
  have l0 := numS10 (n := view) (by omega) (by omega)
  have P1 := Lib.hid (sputNum_e seq (by omega) (by omega))
  have l1 := numS10 (n := seq) (by omega) (by omega)
  have P2 := Lib.hid (fun W => specPutText_any op W (by omega))
  have l2 := ptext_le (t := op) (by omega)
  have P3 := Lib.hid (sputNum_e L.length (by omega) (by omega))
  have l3 := numS10 (n := (L.length : Int)) (by omega) (by omega)
  have ZL := Lib.hid z4
  clear z4
  generalize numS view = s0 at P0 l0 HE0
  generalize numS seq = s1 at P1 l1 HE0
  generalize ptext op = s2 at P2 l2 HE0
  generalize numS (L.length : Int) = s3 at P3 l3 HE0
  have l2' : s2.size ≤ 130 := by omega
  clear l2
  go_enter Try.func135, Try.ntmps135
  go_wp2_with (fail)
  generalize w.alloc (.cells #[.int .i64 view, .int .i64 seq, .string op, .slice A L.length c] 49) = v0 at hK hb0 ⊢
  obtain ⟨I, f, hI, g0, gk, gc, ge⟩ := class_grown v0
  have x0 := fun s => kept_cell (gk s) (hK.cell (i := 0) rfl)
  have x1 := fun s => kept_cell (gk s) (hK.cell (i := 1) rfl)
  have x2 := fun s => kept_cell (gk s) (hK.cell (i := 2) rfl)
  have x3 := fun s => kept_cell (gk s) (hK.cell (i := 3) rfl)
  refine wp_region_kept f (by kernel_rfl) (by kernel_rfl) g0 ?_
  repeat (first
    | go_big_quiet_skip
    | (go_big_quiet_want; go_big_quiet_op; first
        | go_big_quiet_on
        | (apply Exists.intro; refine ⟨fun s => ?_, ?_⟩; (go_at_call 122; (with_reducible refine (P0.out _).mono ?_); rintro e w4 ⟨rfl, hb4⟩; exact ⟨rfl, gc _ _ hb4⟩); go_big_quiet_on)
        | (apply Exists.intro; refine ⟨fun s => ?_, ?_⟩; (go_at_call 122; (with_reducible refine (P1.out _).mono ?_); rintro e w4 ⟨rfl, hb4⟩; exact ⟨rfl, gc _ _ hb4⟩); go_big_quiet_on)
        | (apply Exists.intro; refine ⟨fun s => ?_, ?_⟩; (go_at_call 123; (with_reducible refine (P2.out _).mono ?_); rintro e w4 ⟨rfl, hb4⟩; exact ⟨rfl, gc _ _ hb4⟩); go_big_quiet_on)
        | (apply Exists.intro; refine ⟨fun s => ?_, ?_⟩; (go_at_call 122; (with_reducible refine (P3.out _).mono ?_); rintro e w4 ⟨rfl, hb4⟩; exact ⟨rfl, gc _ _ hb4⟩); go_big_quiet_on)))
  refine wpQuiet_nil ?_
  intro w1 h1
  have hb1 := ge _ h1
  have hK1 := hK.below hb1 hK.lt
  have hw1 := hb0.trans (hb1.mono hb0.size)
  clear x0 x1 x2 x3 gk gc ge g0 hI h1 hb1 hK hb0 P0 P1 P2 P3
  obtain ⟨e1, HE1⟩ : ∃ e1, Hid (s0 ++ s1 ++ s2 ++ s3 = e1) := ⟨_, Lib.hid rfl⟩
  have hl1 : e1.size ≤ 180 := by rw [← HE1.out]; simp only [ByteArray.size_append]; omega
  rw [HE1.out] at HE0
  have c3 := hK1.cell (i := 3) rfl
  go_wp2
  rw [HE1.out]
  clear HE1 c3 l0 l1 l2' l3
  go_loopw [3, 4] (fun v i wr => ∃ (k : Nat) (acc : ByteArray), k ≤ L.length ∧ i = .int .i64 k ∧ v = .string acc ∧ acc = e1 ++ cat numS (L.take k) ∧ acc.size ≤ 180 + k * 10 ∧ Blk wr w.heap.size 49 [.int .i64 view, .int .i64 seq, .string op, .slice A L.length c] ∧ Below w.heap.size w wr) (fun _ i _ => L.length - (intOf i).toNat)
  case atStart => exact ⟨0, e1, by omega, rfl, rfl, (cat_zero _ _ _).symm, by omega, hK1, hw1⟩
  case round =>
    obtain ⟨k, acc, hk, rfl, rfl, hacc, hl, hK3, hw3⟩ := hrel
    have HA := Lib.hid hacc
    clear hacc hK1 hw1
    have k5 := hK3.cell (i := 3) rfl
    by_cases hlt : k < L.length
    rotate_left
    · obtain rfl : k = L.length := by omega
      have HA2 : Hid (E = acc) := Lib.hid (by rw [HE0.out, HA.out, cat_all])
      obtain rfl := HA2.out
      clear HA HE0 HA2
      go_wp2
      go_ret
      exact ⟨rfl, hw3⟩
    have hlt' : (k : Int) < (L.length : Int) := by omega
    have HC := Lib.hid (cat_next numS L hlt e1)
    have hz := ZL.out k hlt
    obtain ⟨a, rfl, _, hab, a0, _⟩ := (hA.on hw3).2 k hlt
    have PE := Lib.hid (sputNum_e L[k] (by omega) (by omega))
    have le := numS10 (n := L[k]) (by omega) (by omega)
    generalize numS L[k] = se at PE le HC
    go_wp2_with (go_at_call 122; (with_reducible refine (PE.out _).mono ?_); rintro e w5 ⟨rfl, hb5⟩)
    exact ⟨⟨k + 1, acc ++ se, by omega, by go_num, rfl, by rw [HC.out, HA.out], by rw [ByteArray.size_append]; omega, hK3.below hb5 hK3.lt, hw3.trans (hb5.mono hw3.size)⟩, by simp [intOf]; omega⟩
set_option maxHeartbeats 8000000 in
theorem l10Change_any (t : Cng) (A : Option Addr) (c : Nat) (w : World) {lo : Nat} (h : CngSz t) (hA : Prs w lo w.heap.size A t.proofs) :
    Calls Try.prog 124 #[cngV t (.slice A t.proofs.length c)] w fun e w' => e = .returned (.string (cngE t)) ∧ Below w.heap.size w w' := by
  have HE0 : Hid (cngE t = numS t.frm ++ numS t.view ++ numS t.proofs.length ++ cat prfE t.proofs) := rfl
  obtain ⟨frm, view, L⟩ := t
  obtain ⟨z0, z1, z2, z3⟩ := h
  simp only at z0 z1 z2 z3 hA HE0 ⊢
  generalize cngE ⟨frm, view, L⟩ = E at HE0 ⊢
  have hK := Blk.fresh w 60 [.int .i64 frm, .int .i64 view, .slice A L.length c]
  have hb0 := below_bx w (.cells #[.int .i64 frm, .int .i64 view, .slice A L.length c] 60)
  simp only [List.toArray] at hK
  have P0 := Lib.hid (sputNum_e frm (by omega) (by omega))
  have l0 := numS10 (n := frm) (by omega) (by omega)
  have P1 := Lib.hid (sputNum_e view (by omega) (by omega))
  have l1 := numS10 (n := view) (by omega) (by omega)
  have P2 := Lib.hid (sputNum_e L.length (by omega) (by omega))
  have l2 := numS10 (n := (L.length : Int)) (by omega) (by omega)
  have ZL := Lib.hid z3
  clear z3
  generalize numS frm = s0 at P0 l0 HE0
  generalize numS view = s1 at P1 l1 HE0
  generalize numS (L.length : Int) = s2 at P2 l2 HE0
  go_enter Try.func124, Try.ntmps124
  go_wp2_with (fail)
  generalize w.alloc (.cells #[.int .i64 frm, .int .i64 view, .slice A L.length c] 60) = v0 at hK hb0 ⊢
  obtain ⟨I, f, hI, g0, gk, gc, ge⟩ := class_grown v0
  have x0 := fun s => kept_cell (gk s) (hK.cell (i := 0) rfl)
  have x1 := fun s => kept_cell (gk s) (hK.cell (i := 1) rfl)
  have x2 := fun s => kept_cell (gk s) (hK.cell (i := 2) rfl)
  refine wp_region_kept f (by kernel_rfl) (by kernel_rfl) g0 ?_
  repeat (first
    | go_big_quiet_skip
    | (go_big_quiet_want; go_big_quiet_op; first
        | go_big_quiet_on
        | (apply Exists.intro; refine ⟨fun s => ?_, ?_⟩; (go_at_call 122; (with_reducible refine (P0.out _).mono ?_); rintro e w4 ⟨rfl, hb4⟩; exact ⟨rfl, gc _ _ hb4⟩); go_big_quiet_on)
        | (apply Exists.intro; refine ⟨fun s => ?_, ?_⟩; (go_at_call 122; (with_reducible refine (P1.out _).mono ?_); rintro e w4 ⟨rfl, hb4⟩; exact ⟨rfl, gc _ _ hb4⟩); go_big_quiet_on)
        | (apply Exists.intro; refine ⟨fun s => ?_, ?_⟩; (go_at_call 122; (with_reducible refine (P2.out _).mono ?_); rintro e w4 ⟨rfl, hb4⟩; exact ⟨rfl, gc _ _ hb4⟩); go_big_quiet_on)))
  refine wpQuiet_nil ?_
  intro w1 h1
  have hb1 := ge _ h1
  have hK1 := hK.below hb1 hK.lt
  have hw1 := hb0.trans (hb1.mono hb0.size)
  clear x0 x1 x2 gk gc ge g0 hI h1 hb1 hK hb0 P0 P1 P2
  obtain ⟨e1, HE1⟩ : ∃ e1, Hid (s0 ++ s1 ++ s2 = e1) := ⟨_, Lib.hid rfl⟩
  have hl1 : e1.size ≤ 30 := by rw [← HE1.out]; simp only [ByteArray.size_append]; omega
  rw [HE1.out] at HE0
  have c2 := hK1.cell (i := 2) rfl
  go_wp2
  rw [HE1.out]
  clear HE1 c2 l0 l1 l2
  go_loopw [3, 4] (fun v i wr => ∃ (k : Nat) (acc : ByteArray), k ≤ L.length ∧ i = .int .i64 k ∧ v = .string acc ∧ acc = e1 ++ cat prfE (L.take k) ∧ acc.size ≤ 30 + k * 210 ∧ Blk wr w.heap.size 60 [.int .i64 frm, .int .i64 view, .slice A L.length c] ∧ Below w.heap.size w wr) (fun _ i _ => L.length - (intOf i).toNat)
  case atStart => exact ⟨0, e1, by omega, rfl, rfl, (cat_zero _ _ _).symm, by omega, hK1, hw1⟩
  case round =>
    obtain ⟨k, acc, hk, rfl, rfl, hacc, hl, hK3, hw3⟩ := hrel
    have HA := Lib.hid hacc
    clear hacc hK1 hw1
    have k5 := hK3.cell (i := 2) rfl
    by_cases hlt : k < L.length
    rotate_left
    · obtain rfl : k = L.length := by omega
      have HA2 : Hid (E = acc) := Lib.hid (by rw [HE0.out, HA.out, cat_all])
      obtain rfl := HA2.out
      clear HA HE0 HA2
      go_wp2
      go_ret
      exact ⟨rfl, hw3⟩
    have hlt' : (k : Int) < (L.length : Int) := by omega
    have HC := Lib.hid (cat_next prfE L hlt e1)
    have hz := ZL.out k hlt
    obtain ⟨a, rfl, hab, C, c1, a0, a1, a2, a3, hC⟩ := (hA.on hw3).at k hlt
    have le := prfE_le hz
    have hK4 := hK3
    have hw4 := hw3
    have PE := Lib.hid (l10Proof_any L[k] C c1 wr hz hC)
    generalize prfE L[k] = se at PE le HC
    go_wp2_with (go_at_call 135; (with_reducible refine (PE.out).mono ?_); rintro e w5 ⟨rfl, hb5⟩)
    exact ⟨⟨k + 1, acc ++ se, by omega, by go_num, rfl, by rw [HC.out, HA.out], by rw [ByteArray.size_append]; omega, hK4.below hb5 hK4.lt, hw4.trans (hb5.mono hw4.size)⟩, by simp [intOf]; omega⟩
set_option maxHeartbeats 8000000 in
theorem l10Bytes_any (t : Sy) (A : Option Addr) (c : Nat) (w : World) {lo : Nat} (h : SySz t) (hA : Chs w lo w.heap.size A t.changes) :
    Calls Try.prog 101 #[syV t (.slice A t.changes.length c)] w fun e w' => e = .returned (.string (syE t)) ∧ Below w.heap.size w w' := by
  have HE0 : Hid (syE t = numS t.kind ++ numS t.frm ++ numS t.view ++ numS t.seq ++ ptext t.op ++ numS t.changes.length ++ cat cngE t.changes) := rfl
  obtain ⟨kind, frm, view, seq, op, L⟩ := t
  obtain ⟨z0, z1, z2, z3, z4, z5, z6⟩ := h
  simp only at z0 z1 z2 z3 z4 z5 z6 hA HE0 ⊢
  generalize syE ⟨kind, frm, view, seq, op, L⟩ = E at HE0 ⊢
  have hK := Blk.fresh w 71 [.int .i64 kind, .int .i64 frm, .int .i64 view, .int .i64 seq, .string op, .slice A L.length c]
  have hb0 := below_bx w (.cells #[.int .i64 kind, .int .i64 frm, .int .i64 view, .int .i64 seq, .string op, .slice A L.length c] 71)
  simp only [List.toArray] at hK
  have P0 := Lib.hid (sputNum_e kind (by omega) (by omega))
  have l0 := numS10 (n := kind) (by omega) (by omega)
  have P1 := Lib.hid (sputNum_e frm (by omega) (by omega))
  have l1 := numS10 (n := frm) (by omega) (by omega)
  have P2 := Lib.hid (sputNum_e view (by omega) (by omega))
  have l2 := numS10 (n := view) (by omega) (by omega)
  have P3 := Lib.hid (sputNum_e seq (by omega) (by omega))
  have l3 := numS10 (n := seq) (by omega) (by omega)
  have P4 := Lib.hid (fun W => specPutText_any op W (by omega))
  have l4 := ptext_le (t := op) (by omega)
  have P5 := Lib.hid (sputNum_e L.length (by omega) (by omega))
  have l5 := numS10 (n := (L.length : Int)) (by omega) (by omega)
  have ZL := Lib.hid z6
  clear z6
  generalize numS kind = s0 at P0 l0 HE0
  generalize numS frm = s1 at P1 l1 HE0
  generalize numS view = s2 at P2 l2 HE0
  generalize numS seq = s3 at P3 l3 HE0
  generalize ptext op = s4 at P4 l4 HE0
  generalize numS (L.length : Int) = s5 at P5 l5 HE0
  have l4' : s4.size ≤ 130 := by omega
  clear l4
  go_enter Try.func101, Try.ntmps101
  go_wp2_with (fail)
  generalize w.alloc (.cells #[.int .i64 kind, .int .i64 frm, .int .i64 view, .int .i64 seq, .string op, .slice A L.length c] 71) = v0 at hK hb0 ⊢
  obtain ⟨I, f, hI, g0, gk, gc, ge⟩ := class_grown v0
  have x0 := fun s => kept_cell (gk s) (hK.cell (i := 0) rfl)
  have x1 := fun s => kept_cell (gk s) (hK.cell (i := 1) rfl)
  have x2 := fun s => kept_cell (gk s) (hK.cell (i := 2) rfl)
  have x3 := fun s => kept_cell (gk s) (hK.cell (i := 3) rfl)
  have x4 := fun s => kept_cell (gk s) (hK.cell (i := 4) rfl)
  have x5 := fun s => kept_cell (gk s) (hK.cell (i := 5) rfl)
  refine wp_region_kept f (by kernel_rfl) (by kernel_rfl) g0 ?_
  repeat (first
    | go_big_quiet_skip
    | (go_big_quiet_want; go_big_quiet_op; first
        | go_big_quiet_on
        | (apply Exists.intro; refine ⟨fun s => ?_, ?_⟩; (go_at_call 122; (with_reducible refine (P0.out _).mono ?_); rintro e w4 ⟨rfl, hb4⟩; exact ⟨rfl, gc _ _ hb4⟩); go_big_quiet_on)
        | (apply Exists.intro; refine ⟨fun s => ?_, ?_⟩; (go_at_call 122; (with_reducible refine (P1.out _).mono ?_); rintro e w4 ⟨rfl, hb4⟩; exact ⟨rfl, gc _ _ hb4⟩); go_big_quiet_on)
        | (apply Exists.intro; refine ⟨fun s => ?_, ?_⟩; (go_at_call 122; (with_reducible refine (P2.out _).mono ?_); rintro e w4 ⟨rfl, hb4⟩; exact ⟨rfl, gc _ _ hb4⟩); go_big_quiet_on)
        | (apply Exists.intro; refine ⟨fun s => ?_, ?_⟩; (go_at_call 122; (with_reducible refine (P3.out _).mono ?_); rintro e w4 ⟨rfl, hb4⟩; exact ⟨rfl, gc _ _ hb4⟩); go_big_quiet_on)
        | (apply Exists.intro; refine ⟨fun s => ?_, ?_⟩; (go_at_call 123; (with_reducible refine (P4.out _).mono ?_); rintro e w4 ⟨rfl, hb4⟩; exact ⟨rfl, gc _ _ hb4⟩); go_big_quiet_on)
        | (apply Exists.intro; refine ⟨fun s => ?_, ?_⟩; (go_at_call 122; (with_reducible refine (P5.out _).mono ?_); rintro e w4 ⟨rfl, hb4⟩; exact ⟨rfl, gc _ _ hb4⟩); go_big_quiet_on)))
  refine wpQuiet_nil ?_
  intro w1 h1
  have hb1 := ge _ h1
  have hK1 := hK.below hb1 hK.lt
  have hw1 := hb0.trans (hb1.mono hb0.size)
  clear x0 x1 x2 x3 x4 x5 gk gc ge g0 hI h1 hb1 hK hb0 P0 P1 P2 P3 P4 P5
  obtain ⟨e1, HE1⟩ : ∃ e1, Hid (s0 ++ s1 ++ s2 ++ s3 ++ s4 ++ s5 = e1) := ⟨_, Lib.hid rfl⟩
  have hl1 : e1.size ≤ 180 := by rw [← HE1.out]; simp only [ByteArray.size_append]; omega
  rw [HE1.out] at HE0
  have c5 := hK1.cell (i := 5) rfl
  go_wp2
  rw [HE1.out]
  clear HE1 c5 l0 l1 l2 l3 l4' l5
  go_loopw [3, 4] (fun v i wr => ∃ (k : Nat) (acc : ByteArray), k ≤ L.length ∧ i = .int .i64 k ∧ v = .string acc ∧ acc = e1 ++ cat cngE (L.take k) ∧ acc.size ≤ 180 + k * 1300 ∧ Blk wr w.heap.size 71 [.int .i64 kind, .int .i64 frm, .int .i64 view, .int .i64 seq, .string op, .slice A L.length c] ∧ Below w.heap.size w wr) (fun _ i _ => L.length - (intOf i).toNat)
  case atStart => exact ⟨0, e1, by omega, rfl, rfl, (cat_zero _ _ _).symm, by omega, hK1, hw1⟩
  case round =>
    obtain ⟨k, acc, hk, rfl, rfl, hacc, hl, hK3, hw3⟩ := hrel
    have HA := Lib.hid hacc
    clear hacc hK1 hw1
    have k5 := hK3.cell (i := 5) rfl
    by_cases hlt : k < L.length
    rotate_left
    · obtain rfl : k = L.length := by omega
      have HA2 : Hid (E = acc) := Lib.hid (by rw [HE0.out, HA.out, cat_all])
      obtain rfl := HA2.out
      clear HA HE0 HA2
      go_wp2
      go_ret
      exact ⟨rfl, hw3⟩
    have hlt' : (k : Int) < (L.length : Int) := by omega
    have HC := Lib.hid (cat_next cngE L hlt e1)
    have hz := ZL.out k hlt
    obtain ⟨a, rfl, hab, C, c1, a0, a1, a2, hC⟩ := (hA.on hw3).at k hlt
    have le := cngE_le hz
    have hK4 := hK3
    have hw4 := hw3
    have PE := Lib.hid (l10Change_any L[k] C c1 wr hz hC)
    generalize cngE L[k] = se at PE le HC
    go_wp2_with (go_at_call 124; (with_reducible refine (PE.out).mono ?_); rintro e w5 ⟨rfl, hb5⟩)
    exact ⟨⟨k + 1, acc ++ se, by omega, by go_num, rfl, by rw [HC.out, HA.out], by rw [ByteArray.size_append]; omega, hK4.below hb5 hK4.lt, hw4.trans (hb5.mono hw4.size)⟩, by simp [intOf]; omega⟩
set_option maxHeartbeats 4000000 in
theorem specSayBytes_any (t : Sy) (A : Option Addr) (c : Nat) (w : World) {lo : Nat} (hf : t.fits) (hA : Chs w lo w.heap.size A t.changes) :
    Calls Try.prog 47 #[syV t (.slice A t.changes.length c)] w fun e w' => e = .returned (.string (syBytes t)) ∧ Below w.heap.size w w' := by
  have BR := Lib.hid (fun W (h : Below w.heap.size w W) => specSayRight_any t A c W hf (hA.on h))
  have F0 : Hid (sayB t = false → syBytes t = ⟨#[]⟩) := Lib.hid syBytes_no
  have F1 : Hid (sayB t = true → syBytes t = syE t) := Lib.hid syBytes_ok
  have BY := Lib.hid (fun (h : sayB t = true) W (hb : Below w.heap.size w W) => l10Bytes_any t A c W (sySz h) (hA.on hb))
  generalize syBytes t = r at F0 F1 ⊢
  generalize syE t = E at F1 BY
  obtain ⟨kind, frm, view, seq, op, L⟩ := t
  simp only at hA BR BY
  have hK := Blk.fresh w 71 [.int .i64 kind, .int .i64 frm, .int .i64 view, .int .i64 seq, .string op, .slice A L.length c]
  have hb0 := below_bx w (.cells #[.int .i64 kind, .int .i64 frm, .int .i64 view, .int .i64 seq, .string op, .slice A L.length c] 71)
  simp only [List.toArray] at hK
  rcases Bool.eq_false_or_eq_true (sayB ⟨kind, frm, view, seq, op, L⟩) with hT | hT
  rotate_left
  · have H0 := Lib.hid (F0.out hT)
    rw [hT] at BR
    obtain rfl := H0.out
    clear hT F0 F1 H0 BY
    go_enter Try.func47, Try.ntmps47
    have k0 := hK.cell (i := 0) rfl
    have k1 := hK.cell (i := 1) rfl
    have k2 := hK.cell (i := 2) rfl
    have k3 := hK.cell (i := 3) rfl
    have k4 := hK.cell (i := 4) rfl
    have k5 := hK.cell (i := 5) rfl
    go_wp2_with (fail)
    clear k0 k1 k2 k3 k4 k5
    generalize w.alloc (.cells #[.int .i64 kind, .int .i64 frm, .int .i64 view, .int .i64 seq, .string op, .slice A L.length c] 71) = v0 at hK hb0 ⊢
    refine (BR.out _ hb0).mono ?_
    rintro e w1 ⟨rfl, hb1⟩
    go_wp2
    go_ret
    exact ⟨rfl, hb0.trans (hb1.mono hb0.size)⟩
  obtain rfl := F1.out hT
  have BY2 := Lib.hid (BY.out hT)
  rw [hT] at BR
  clear hT F0 F1 BY
  go_enter Try.func47, Try.ntmps47
  have k0 := hK.cell (i := 0) rfl
  have k1 := hK.cell (i := 1) rfl
  have k2 := hK.cell (i := 2) rfl
  have k3 := hK.cell (i := 3) rfl
  have k4 := hK.cell (i := 4) rfl
  have k5 := hK.cell (i := 5) rfl
  go_wp2_with (fail)
  clear k0 k1 k2 k3 k4 k5
  generalize w.alloc (.cells #[.int .i64 kind, .int .i64 frm, .int .i64 view, .int .i64 seq, .string op, .slice A L.length c] 71) = v0 at hK hb0 ⊢
  refine (BR.out _ hb0).mono ?_
  rintro e w1 ⟨rfl, hb1⟩
  have hK1 := hK.below hb1 hK.lt
  have hw1 := hb0.trans (hb1.mono hb0.size)
  have k0 := hK1.cell (i := 0) rfl
  have k1 := hK1.cell (i := 1) rfl
  have k2 := hK1.cell (i := 2) rfl
  have k3 := hK1.cell (i := 3) rfl
  have k4 := hK1.cell (i := 4) rfl
  have k5 := hK1.cell (i := 5) rfl
  go_wp2_with (fail)
  clear k0 k1 k2 k3 k4 k5
  refine (BY2.out _ hw1).mono ?_
  rintro e w2 ⟨rfl, hb2⟩
  go_wp2
  go_ret
  exact ⟨rfl, hw1.trans (hb2.mono hw1.size)⟩
theorem bothSayBytes (t : Sy) (hf : t.fits) (hs : t.small) : ∃ r : ByteArray,
    (∀ A c W, Chs W 0 W.heap.size A t.changes → Calls Try.prog 47 #[syV t (.slice A t.changes.length c)] W fun e w' => e = .returned (.string r) ∧ Below W.heap.size W w') ∧
    (∀ A c W, Chs W 0 W.heap.size A t.changes → Calls Try.prog 48 #[syV t (.slice A t.changes.length c)] W fun e w' => e = .returned (.string r) ∧ Below W.heap.size W w') :=
  ⟨syBytes t, fun A c W h => specSayBytes_any t A c W hf h, fun A c W h => implSayBytes_any t A c W hf h⟩
end Go.Proofs.Ytjnbhppnchmeoaa

namespace Go.Proofs.Ytjnbhppnchmeoaa
open Go.RowKit
set_option linter.unusedVariables false

set_option maxHeartbeats 8000000 in
set_option maxRecDepth 1000000 in
theorem lawSayBytes (t : Sy) (A : Option Addr) (c : Nat) (w : World) (hf : t.fits) (hA : Chs w 0 w.heap.size A t.changes) :
    Calls Try.prog 9 #[syV t (.slice A t.changes.length c)] w fun e w' => e = .returned (.bool true) ∧ Below w.heap.size w w' := by
  obtain ⟨kind, frm, view, seq, op, L⟩ := t
  simp only at hA ⊢
  have HA : Hid (∀ W, Below w.heap.size w W → Chs W 0 W.heap.size A L) := Lib.hid fun W h => hA.on h
  have hB0 := Blk.fresh w 66 [.int .i64 kind, .int .i64 frm, .int .i64 view, .int .i64 seq, .string op, .slice A L.length c]
  have hb0 : Below w.heap.size w (w.alloc (.cells #[.int .i64 kind, .int .i64 frm, .int .i64 view, .int .i64 seq, .string op, .slice A L.length c] 66)) := (Below.refl _ _).alloc (Nat.le_refl _) _
  have hz0 : (w.alloc (.cells #[.int .i64 kind, .int .i64 frm, .int .i64 view, .int .i64 seq, .string op, .slice A L.length c] 66)).heap.size = w.heap.size + 1 := by simp
  simp only [List.toArray] at hB0
  go_enter Try.func9, Try.ntmps9
  have q0 := hB0.cell (i := 0) rfl
  have q1 := hB0.cell (i := 1) rfl
  have q2 := hB0.cell (i := 2) rfl
  have q3 := hB0.cell (i := 3) rfl
  have q4 := hB0.cell (i := 4) rfl
  have q5 := hB0.cell (i := 5) rfl
  go_wp2_with (fail)
  clear q0 q1 q2 q3 q4 q5
  generalize w.alloc (.cells #[.int .i64 kind, .int .i64 frm, .int .i64 view, .int .i64 seq, .string op, .slice A L.length c] 66) = v0 at hB0 hb0 hz0 ⊢
  refine (szSay_left ⟨kind, frm, view, seq, op, L⟩ A c 1048576 _ hf (HA.out _ hb0) (by omega) (by omega)).mono ?_
  rintro e v1 ⟨r, rfl, r0, r1, hS, hb1⟩
  have hz1 := hb1.size
  have hB1 := hB0.below hb1 (by omega)
  have hw1 := hb0.trans (hb1.mono (by omega))
  clear hB0
  by_cases hr : r < 0
  · go_wp2
    go_ret
    exact ⟨rfl, hw1⟩
  · have hS' := hS (by omega)
    obtain ⟨r9, hsp, him⟩ := bothSayBytes ⟨kind, frm, view, seq, op, L⟩ hf hS'
    have Sp := Lib.hid hsp
    have Im := Lib.hid him
    clear hsp him
    have chB0 := hB1.cell (i := 0) rfl
    have chB1 := hB1.cell (i := 1) rfl
    have chB2 := hB1.cell (i := 2) rfl
    have chB3 := hB1.cell (i := 3) rfl
    have chB4 := hB1.cell (i := 4) rfl
    have chB5 := hB1.cell (i := 5) rfl
    go_wp2_with (fail)
    refine (toSay_any ⟨kind, frm, view, seq, op, L⟩ A c _ hS' (HA.out _ hw1)).mono ?_
    rintro e v2 ⟨g2, c2, rfl, TS2, hb2⟩
    have hz2 := hb2.size
    have hB2 := hB1.below hb2 hB1.lt
    have hw2 := hw1.trans (hb2.mono hw1.size)
    clear hB1
    clear chB0 chB1 chB2 chB3 chB4 chB5
    replace TS2 := TS2.mono (Nat.zero_le _) (Nat.le_refl _)
    go_wp2_with (fail)
    refine (Sp.out _ _ _ TS2).mono ?_
    rintro e v3 ⟨rfl, hb3⟩
    have hz3 := hb3.size
    have hB3 := hB2.below hb3 hB2.lt
    have TS3 := TS2.on hb3
    have hw3 := hw2.trans (hb3.mono hw2.size)
    clear hB2 TS2
    clear TS3
    have chB0 := hB3.cell (i := 0) rfl
    have chB1 := hB3.cell (i := 1) rfl
    have chB2 := hB3.cell (i := 2) rfl
    have chB3 := hB3.cell (i := 3) rfl
    have chB4 := hB3.cell (i := 4) rfl
    have chB5 := hB3.cell (i := 5) rfl
    go_wp2_with (fail)
    refine (toSay_any ⟨kind, frm, view, seq, op, L⟩ A c _ hS' (HA.out _ hw3)).mono ?_
    rintro e v4 ⟨g4, c4, rfl, XS4, hb4⟩
    have hz4 := hb4.size
    have hB4 := hB3.below hb4 hB3.lt
    have hw4 := hw3.trans (hb4.mono hw3.size)
    clear hB3
    clear chB0 chB1 chB2 chB3 chB4 chB5
    replace XS4 := XS4.mono (Nat.zero_le _) (Nat.le_refl _)
    have hP5 := Blk.fresh v4 71 [.int .i64 kind, .int .i64 frm, .int .i64 view, .int .i64 seq, .string op, .slice (some ⟨g4, 0, none⟩) L.length c4]
    replace hP5 : Blk (v4.alloc (.cells #[.int .i64 kind, .int .i64 frm, .int .i64 view, .int .i64 seq, .string op, .slice (some ⟨g4, 0, none⟩) L.length c4] 71)) v4.heap.size 71 [.int .i64 kind, .int .i64 frm, .int .i64 view, .int .i64 seq, .string op, .slice (some ⟨g4, 0, none⟩) L.length c4] := hP5
    have hb5 : Below v4.heap.size v4 (v4.alloc (.cells #[.int .i64 kind, .int .i64 frm, .int .i64 view, .int .i64 seq, .string op, .slice (some ⟨g4, 0, none⟩) L.length c4] 71)) := (Below.refl _ _).alloc (Nat.le_refl _) _
    have hs5 : (v4.alloc (.cells #[.int .i64 kind, .int .i64 frm, .int .i64 view, .int .i64 seq, .string op, .slice (some ⟨g4, 0, none⟩) L.length c4] 71)).heap.size = v4.heap.size + 1 := by simp
    have qq0 := hP5.cell (i := 0) rfl
    have qq1 := hP5.cell (i := 1) rfl
    have qq2 := hP5.cell (i := 2) rfl
    have qq3 := hP5.cell (i := 3) rfl
    have qq4 := hP5.cell (i := 4) rfl
    have qq5 := hP5.cell (i := 5) rfl
    go_wp2_with (fail)
    clear qq0 qq1 qq2 qq3 qq4 qq5
    generalize v4.alloc (.cells #[.int .i64 kind, .int .i64 frm, .int .i64 view, .int .i64 seq, .string op, .slice (some ⟨g4, 0, none⟩) L.length c4] 71) = v5 at hP5 hb5 hs5 ⊢
    have hz5 := hb5.size
    have hB5 := hB4.below hb5 hB4.lt
    have XS5 := XS4.on hb5
    have hw5 := hw4.trans (hb5.mono hw4.size)
    clear hB4 XS4
    have chP0 := hP5.cell (i := 0) rfl
    have chP1 := hP5.cell (i := 1) rfl
    have chP2 := hP5.cell (i := 2) rfl
    have chP3 := hP5.cell (i := 3) rfl
    have chP4 := hP5.cell (i := 4) rfl
    have chP5 := hP5.cell (i := 5) rfl
    go_wp2_with (fail)
    refine (Im.out _ _ _ XS5).mono ?_
    rintro e v6 ⟨rfl, hb6⟩
    have hz6 := hb6.size
    have hB6 := hB5.below hb6 hB5.lt
    have hP6 := hP5.below hb6 hP5.lt
    have XS6 := XS5.on hb6
    have hw6 := hw5.trans (hb6.mono hw5.size)
    clear hB5 hP5 XS5
    clear chP0 chP1 chP2 chP3 chP4 chP5
    have chB0 := hB6.cell (i := 0) rfl
    have chB1 := hB6.cell (i := 1) rfl
    have chB2 := hB6.cell (i := 2) rfl
    have chB3 := hB6.cell (i := 3) rfl
    have chB4 := hB6.cell (i := 4) rfl
    have chB5 := hB6.cell (i := 5) rfl
    have chP0 := hP6.cell (i := 0) rfl
    have chP1 := hP6.cell (i := 1) rfl
    have chP2 := hP6.cell (i := 2) rfl
    have chP3 := hP6.cell (i := 3) rfl
    have chP4 := hP6.cell (i := 4) rfl
    have chP5 := hP6.cell (i := 5) rfl
    go_wp2_with (fail)
    have z0 : v6.drew.cell? ⟨w.heap.size, 0, none⟩ = some (.int .i64 kind) := chB0
    have z1 : v6.drew.cell? ⟨w.heap.size, 1, none⟩ = some (.int .i64 frm) := chB1
    have z2 : v6.drew.cell? ⟨w.heap.size, 2, none⟩ = some (.int .i64 view) := chB2
    have z3 : v6.drew.cell? ⟨w.heap.size, 3, none⟩ = some (.int .i64 seq) := chB3
    have z4 : v6.drew.cell? ⟨w.heap.size, 4, none⟩ = some (.string op) := chB4
    have z5 : v6.drew.cell? ⟨w.heap.size, 5, none⟩ = some (.slice A L.length c) := chB5
    have z6 : v6.drew.cell? ⟨v4.heap.size, 0, none⟩ = some (.int .i64 kind) := chP0
    have z7 : v6.drew.cell? ⟨v4.heap.size, 1, none⟩ = some (.int .i64 frm) := chP1
    have z8 : v6.drew.cell? ⟨v4.heap.size, 2, none⟩ = some (.int .i64 view) := chP2
    have z9 : v6.drew.cell? ⟨v4.heap.size, 3, none⟩ = some (.int .i64 seq) := chP3
    have z10 : v6.drew.cell? ⟨v4.heap.size, 4, none⟩ = some (.string op) := chP4
    have z11 : v6.drew.cell? ⟨v4.heap.size, 5, none⟩ = some (.slice (some ⟨g4, 0, none⟩) L.length c4) := chP5
    have XSd : Chs v6.drew 0 v6.drew.heap.size (some ⟨g4, 0, none⟩) L := XS6
    go_region_held3 (fun W => W.cell? ⟨w.heap.size, 0, none⟩ = some (.int .i64 kind) ∧ W.cell? ⟨w.heap.size, 1, none⟩ = some (.int .i64 frm) ∧ W.cell? ⟨w.heap.size, 2, none⟩ = some (.int .i64 view) ∧ W.cell? ⟨w.heap.size, 3, none⟩ = some (.int .i64 seq) ∧ W.cell? ⟨w.heap.size, 4, none⟩ = some (.string op) ∧ W.cell? ⟨w.heap.size, 5, none⟩ = some (.slice A L.length c) ∧ W.cell? ⟨v4.heap.size, 0, none⟩ = some (.int .i64 kind) ∧ W.cell? ⟨v4.heap.size, 1, none⟩ = some (.int .i64 frm) ∧ W.cell? ⟨v4.heap.size, 2, none⟩ = some (.int .i64 view) ∧ W.cell? ⟨v4.heap.size, 3, none⟩ = some (.int .i64 seq) ∧ W.cell? ⟨v4.heap.size, 4, none⟩ = some (.string op) ∧ W.cell? ⟨v4.heap.size, 5, none⟩ = some (.slice (some ⟨g4, 0, none⟩) L.length c4))
      (first
        | with_reducible exact ⟨z0, z1, z2, z3, z4, z5, z6, z7, z8, z9, z10, z11⟩
        | with_reducible exact ⟨kept_cell hb7 z0, kept_cell hb7 z1, kept_cell hb7 z2, kept_cell hb7 z3, kept_cell hb7 z4, kept_cell hb7 z5, kept_cell hb7 z6, kept_cell hb7 z7, kept_cell hb7 z8, kept_cell hb7 z9, kept_cell hb7 z10, kept_cell hb7 z11⟩
        | with_reducible exact ⟨kept_cell hb8 (kept_cell hb7 z0), kept_cell hb8 (kept_cell hb7 z1), kept_cell hb8 (kept_cell hb7 z2), kept_cell hb8 (kept_cell hb7 z3), kept_cell hb8 (kept_cell hb7 z4), kept_cell hb8 (kept_cell hb7 z5), kept_cell hb8 (kept_cell hb7 z6), kept_cell hb8 (kept_cell hb7 z7), kept_cell hb8 (kept_cell hb7 z8), kept_cell hb8 (kept_cell hb7 z9), kept_cell hb8 (kept_cell hb7 z10), kept_cell hb8 (kept_cell hb7 z11)⟩)
      (first
        | (go_at_call 44; (with_reducible refine (toSay_any ⟨kind, frm, view, seq, op, L⟩ A c _ hS' (HA.out _ (below_drew hw6))).mono ?_); rintro e v7 ⟨g7, c7, rfl, hF7, hb7⟩)
        | (go_at_call 46; (with_reducible refine (eqSay_same ⟨kind, frm, view, seq, op, L⟩ _ _ _ _ v7 (XSd.on hb7) hF7).mono ?_); rintro e v8 ⟨rfl, hb8⟩))
    have hbz : Below v6.heap.size v6 v8 := (below_drew (Below.refl _ v6)).trans ((hb7.trans (hb8.mono hb7.size)).mono (Nat.le_refl _))
    clear chB0 chB1 chB2 chB3 chB4 chB5 chP0 chP1 chP2 chP3 chP4 chP5
    clear z0 z1 z2 z3 z4 z5 z6 z7 z8 z9 z10 z11 XSd hF7
    have hz8 := hbz.size
    have hB8 := hB6.below hbz hB6.lt
    have hP8 := hP6.below hbz hP6.lt
    have XS8 := XS6.on hbz
    have hw8 := hw6.trans (hbz.mono hw6.size)
    clear hB6 hP6 XS6
    go_wp2
    go_ret
    exact ⟨rfl, hw8⟩
end Go.Proofs.Ytjnbhppnchmeoaa
