/- The contract of impl.TopicRight. -/
import Derived.Test.YtdehpdmgoaopfaaTpRI
import Derived.Deep.RegionHeld3
namespace Go.Proofs.Ytdehpdmgoaopfaa
open Go.RowKit
set_option linter.unusedVariables false
set_option maxRecDepth 1000000

theorem numbersBetween_b (a b : Int) (w : World) : Calls Try.prog 66 #[.int .i64 a, .int .i64 b] w fun e w' => e = .returned (btwV w.heap.size (w.heap.size + 1)) ∧ w'.cell? ⟨w.heap.size, 0, none⟩ = some (.int .i64 a) ∧ w'.cell? ⟨w.heap.size + 1, 0, none⟩ = some (.int .i64 b) ∧ Below w.heap.size w w' := by
  refine (numbersBetween_any a b w).mono ?_
  rintro e w7 ⟨rfl, rfl⟩
  refine ⟨rfl, ((Blk.fresh w 2 [.int .i64 a]).alloc _).cell (i := 0) rfl, ?_, ((Below.refl _ _).alloc (Nat.le_refl _) _).alloc (by simp) _⟩
  have := (Blk.fresh (w.alloc (.cells #[.int .i64 a] 2)) 2 [.int .i64 b]).cell (i := 0) rfl
  simp only [World.size_alloc] at this
  exact this
set_option maxHeartbeats 8000000 in
theorem implTopicRight_any (t : Tpc) (A : Option Addr) (c : Nat) (B : Option Addr) (d : Nat) (w : World) (hf : t.fits) (hA : Strs w w.heap.size A t.held) (hB : Grs w w.heap.size B t.groups) :
    Calls Try.prog 22 #[topV t.name t.base (.slice A t.held.length c) (.slice B t.groups.length d)] w fun e w' => e = .returned (.bool (topB t)) ∧ Below w.heap.size w w' := by
  obtain ⟨f0, f1, f2, f3⟩ := hf
  have F0 : Hid (∀ h : ¬ topOK t, topB t = false) := Lib.hid topB_false
  have F1 : Hid (∀ h : topOK t, topB t = true) := Lib.hid topB_true
  obtain ⟨nm, bs, H, G⟩ := t
  simp only at f0 f1 f2 f3 hA hB F0 F1 ⊢
  generalize topB ⟨nm, bs, H, G⟩ = R at F0 F1 ⊢
  have hK := Blk.fresh w 26 [.string nm, .int .i64 bs, .slice A H.length c, .slice B G.length d]
  have hb0 := below_box w (.cells #[.string nm, .int .i64 bs, .slice A H.length c, .slice B G.length d] 26)
  simp only [List.toArray] at hK
  go_enter Try.func22, Try.ntmps22
  go_wp2_with (fail)
  generalize w.alloc (.cells #[.string nm, .int .i64 bs, .slice A H.length c, .slice B G.length d] 26) = w3 at hK hb0 ⊢
  have hA3 := hA.on hb0
  have hB3 := hB.on hb0
  obtain ⟨I, f, hI', g0, gk, gc, ge⟩ := class_grown w3
  have y0 := fun s => kept_cell (gk s) (hK.cell (i := 0) rfl)
  have y1 := fun s => kept_cell (gk s) (hK.cell (i := 1) rfl)
  have y2 := fun s => kept_cell (gk s) (hK.cell (i := 2) rfl)
  have y3 := fun s => kept_cell (gk s) (hK.cell (i := 3) rfl)
  rcases Bool.eq_false_or_eq_true (nameB nm) with hN | hN
  rotate_left
  · have NG := Lib.hid (fun W => bl (implName_b hN f0 W))
    have HR := Lib.hid (F0.out fun h => by have := h.1; rw [hN] at this; cases this)
    refine wp_region_kept f (by kernel_rfl) (by kernel_rfl) g0 ?_
    repeat (first
      | go_big_quiet_skip
      | (go_big_quiet_want; go_big_quiet_op; first
        | go_big_quiet_on
        | (apply Exists.intro; refine ⟨fun s => ?_, ?_⟩; (go_at_call 62; (with_reducible refine (NG.out _).mono ?_); rintro e w4 ⟨rfl, hb4⟩; exact ⟨rfl, gc _ _ hb4⟩); go_big_quiet_on)
        | (apply Exists.intro; refine ⟨fun s => ?_, ?_⟩; (go_at_call 63; (with_reducible refine (IG.out _).mono ?_); rintro e w4 ⟨rfl, hb4⟩; exact ⟨rfl, gc _ _ hb4⟩); go_big_quiet_on)
        | (apply Exists.intro; refine ⟨fun s => ?_, ?_⟩; (go_at_call 64; (with_reducible refine (MG.out _).mono ?_); rintro e w4 ⟨rfl, hb4⟩; exact ⟨rfl, gc _ _ hb4⟩); go_big_quiet_on)
        | (apply Exists.intro; refine ⟨fun s => ?_, ?_⟩; (go_at_call 61; (with_reducible refine (EN.out _).mono ?_); rintro e w4 ⟨rfl, hb4⟩; exact ⟨rfl, gc _ _ hb4⟩); go_big_quiet_on)))
    refine wpQuiet_nil ?_
    intro w5 h5
    have hb5 := ge _ h5
    go_wp2
    go_ret
    exact ⟨by rw [HR.out]; rfl, hb0.trans (hb5.mono hb0.size)⟩
  have NG := Lib.hid (fun W => bl (implName_b hN f0 W))
  rcases Bool.eq_false_or_eq_true (inB bs 0 1000000000) with hI | hI
  rotate_left
  · have IG := Lib.hid (fun W => bl (inRange_any hI W))
    have HR := Lib.hid (F0.out fun h => by have := h.2.1; rw [hI] at this; cases this)
    refine wp_region_kept f (by kernel_rfl) (by kernel_rfl) g0 ?_
    repeat (first
      | go_big_quiet_skip
      | (go_big_quiet_want; go_big_quiet_op; first
        | go_big_quiet_on
        | (apply Exists.intro; refine ⟨fun s => ?_, ?_⟩; (go_at_call 62; (with_reducible refine (NG.out _).mono ?_); rintro e w4 ⟨rfl, hb4⟩; exact ⟨rfl, gc _ _ hb4⟩); go_big_quiet_on)
        | (apply Exists.intro; refine ⟨fun s => ?_, ?_⟩; (go_at_call 63; (with_reducible refine (IG.out _).mono ?_); rintro e w4 ⟨rfl, hb4⟩; exact ⟨rfl, gc _ _ hb4⟩); go_big_quiet_on)
        | (apply Exists.intro; refine ⟨fun s => ?_, ?_⟩; (go_at_call 64; (with_reducible refine (MG.out _).mono ?_); rintro e w4 ⟨rfl, hb4⟩; exact ⟨rfl, gc _ _ hb4⟩); go_big_quiet_on)
        | (apply Exists.intro; refine ⟨fun s => ?_, ?_⟩; (go_at_call 61; (with_reducible refine (EN.out _).mono ?_); rintro e w4 ⟨rfl, hb4⟩; exact ⟨rfl, gc _ _ hb4⟩); go_big_quiet_on)))
    refine wpQuiet_nil ?_
    intro w5 h5
    have hb5 := ge _ h5
    go_wp2
    go_ret
    exact ⟨by rw [HR.out]; rfl, hb0.trans (hb5.mono hb0.size)⟩
  have IG := Lib.hid (fun W => bl (inRange_any hI W))
  have hbs := inB_true hI
  have MM := fun s => messagesRight_any A H c (f s) (hA3.on (gk s)) f2
  rcases Bool.eq_false_or_eq_true (msgB H) with hM | hM
  rotate_left
  · rw [hM] at MM
    have MG := Lib.hid (fun s => bl (MM s))
    have HR := Lib.hid (F0.out fun h => by have := msgB_true ⟨h.2.2.1, h.2.2.2.1⟩; rw [hM] at this; cases this)
    refine wp_region_kept f (by kernel_rfl) (by kernel_rfl) g0 ?_
    repeat (first
      | go_big_quiet_skip
      | (go_big_quiet_want; go_big_quiet_op; first
        | go_big_quiet_on
        | (apply Exists.intro; refine ⟨fun s => ?_, ?_⟩; (go_at_call 62; (with_reducible refine (NG.out _).mono ?_); rintro e w4 ⟨rfl, hb4⟩; exact ⟨rfl, gc _ _ hb4⟩); go_big_quiet_on)
        | (apply Exists.intro; refine ⟨fun s => ?_, ?_⟩; (go_at_call 63; (with_reducible refine (IG.out _).mono ?_); rintro e w4 ⟨rfl, hb4⟩; exact ⟨rfl, gc _ _ hb4⟩); go_big_quiet_on)
        | (apply Exists.intro; refine ⟨fun s => ?_, ?_⟩; (go_at_call 64; (with_reducible refine (MG.out _).mono ?_); rintro e w4 ⟨rfl, hb4⟩; exact ⟨rfl, gc _ _ hb4⟩); go_big_quiet_on)
        | (apply Exists.intro; refine ⟨fun s => ?_, ?_⟩; (go_at_call 61; (with_reducible refine (EN.out _).mono ?_); rintro e w4 ⟨rfl, hb4⟩; exact ⟨rfl, gc _ _ hb4⟩); go_big_quiet_on)))
    refine wpQuiet_nil ?_
    intro w5 h5
    have hb5 := ge _ h5
    go_wp2
    go_ret
    exact ⟨by rw [HR.out]; rfl, hb0.trans (hb5.mono hb0.size)⟩
  rw [hM] at MM
  have MG := Lib.hid (fun s => bl (MM s))
  have hM2 := msgB_iff.1 hM
  have EN := Lib.hid (endOf_any nm bs A H.length c (.slice B G.length d) (by omega) hbs.1 hbs.2 rfl)
  by_cases h5 : bs + H.length ≤ 1000000000
  rotate_left
  · have HR := Lib.hid (F0.out fun h => h5 h.2.2.2.2.2.1)
    refine wp_region_kept f (by kernel_rfl) (by kernel_rfl) g0 ?_
    repeat (first
      | go_big_quiet_skip
      | (go_big_quiet_want; go_big_quiet_op; first
        | go_big_quiet_on
        | (apply Exists.intro; refine ⟨fun s => ?_, ?_⟩; (go_at_call 62; (with_reducible refine (NG.out _).mono ?_); rintro e w4 ⟨rfl, hb4⟩; exact ⟨rfl, gc _ _ hb4⟩); go_big_quiet_on)
        | (apply Exists.intro; refine ⟨fun s => ?_, ?_⟩; (go_at_call 63; (with_reducible refine (IG.out _).mono ?_); rintro e w4 ⟨rfl, hb4⟩; exact ⟨rfl, gc _ _ hb4⟩); go_big_quiet_on)
        | (apply Exists.intro; refine ⟨fun s => ?_, ?_⟩; (go_at_call 64; (with_reducible refine (MG.out _).mono ?_); rintro e w4 ⟨rfl, hb4⟩; exact ⟨rfl, gc _ _ hb4⟩); go_big_quiet_on)
        | (apply Exists.intro; refine ⟨fun s => ?_, ?_⟩; (go_at_call 61; (with_reducible refine (EN.out _).mono ?_); rintro e w4 ⟨rfl, hb4⟩; exact ⟨rfl, gc _ _ hb4⟩); go_big_quiet_on)))
    refine wpQuiet_nil ?_
    intro w5 h5
    have hb5 := ge _ h5
    go_wp2
    go_ret
    exact ⟨by rw [HR.out]; rfl, hb0.trans (hb5.mono hb0.size)⟩
  clear g0 gk gc ge y0 y1 y2 y3 MG MM
  have c0 : w3.drew.cell? ⟨w.heap.size, 0, none⟩ = some (.string nm) := hK.cell (i := 0) rfl
  have c1 : w3.drew.cell? ⟨w.heap.size, 1, none⟩ = some (.int .i64 bs) := hK.cell (i := 1) rfl
  have c2 : w3.drew.cell? ⟨w.heap.size, 2, none⟩ = some (.slice A H.length c) := hK.cell (i := 2) rfl
  have c3 : w3.drew.cell? ⟨w.heap.size, 3, none⟩ = some (.slice B G.length d) := hK.cell (i := 3) rfl
  have hd5 : decide (bs + (H.length : Int) ≤ 1000000000) = true := by simp; exact h5
  have NQ := Lib.hid (implName_b hN f0)
  have IQ := Lib.hid (inRange_any hI)
  have MQ := Lib.hid (fun W (h : Below w3.drew.heap.size w3.drew W) => by have := messagesRight_any A H c W (hA3.on (below_drew (Below.refl _ w3) |>.trans h)) f2; rw [hM] at this; exact this)
  have GQ := Lib.hid (fun W p q (h : Below w3.drew.heap.size w3.drew W) => groupsRight_any nm bs H G B d p q W f3 (hB3.on (below_drew (Below.refl _ w3) |>.trans h)))
  go_region_held3 (fun W => W.cell? ⟨w.heap.size, 0, none⟩ = some (.string nm) ∧ W.cell? ⟨w.heap.size, 1, none⟩ = some (.int .i64 bs) ∧ W.cell? ⟨w.heap.size, 2, none⟩ = some (.slice A H.length c) ∧ W.cell? ⟨w.heap.size, 3, none⟩ = some (.slice B G.length d))
    (first
      | with_reducible exact ⟨c0, c1, c2, c3⟩
      | with_reducible exact ⟨kept_cell hb5 c0, kept_cell hb5 c1, kept_cell hb5 c2, kept_cell hb5 c3⟩
      | with_reducible exact ⟨kept_cell hb6 c0, kept_cell hb6 c1, kept_cell hb6 c2, kept_cell hb6 c3⟩
      | with_reducible exact ⟨kept_cell hb7 c0, kept_cell hb7 c1, kept_cell hb7 c2, kept_cell hb7 c3⟩
      | with_reducible exact ⟨kept_cell hb8 c0, kept_cell hb8 c1, kept_cell hb8 c2, kept_cell hb8 c3⟩)
    (first
      | (go_at_call 62; (with_reducible refine (NQ.out _).mono ?_); rintro e w' ⟨rfl, rfl⟩)
      | (go_at_call 63; (with_reducible refine (IQ.out _).mono ?_); rintro e w' ⟨rfl, rfl⟩)
      | (go_at_call 64; (with_reducible refine (MQ.out _ (Below.refl _ _)).mono ?_); rintro e w' ⟨rfl, rfl⟩)
      | (go_at_call 61; (with_reducible refine (EN.out w3.drew).mono ?_); rintro e w5 ⟨rfl, hb5⟩)
      | (go_at_call 61; (with_reducible refine (EN.out w5).mono ?_); rintro e w6 ⟨rfl, hb6'⟩; have hb6 := hb5.trans (hb6'.mono hb5.size))
      | (go_at_call 66; (with_reducible refine (numbersBetween_b bs (bs + H.length) w6).mono ?_); rintro e w7 ⟨rfl, p7, q7, hb7'⟩; have hb7 := hb6.trans (hb7'.mono hb6.size))
      | (go_at_call 65; (with_reducible refine (GQ.out w7 _ _ hb7 p7 q7).mono ?_); rintro e w8 ⟨rfl, hb8'⟩; have hb8 := hb7.trans (hb8'.mono hb7.size)))
  have HR : Hid (R = grpsB ⟨nm, bs, H, G⟩) := Lib.hid (by
    rcases Bool.eq_false_or_eq_true (grpsB ⟨nm, bs, H, G⟩) with hg | hg
    · have := grpsB_iff.1 hg
      rw [hg]; exact F1.out ⟨hN, hI, hM2.1, hM2.2, this.1, h5, this.2⟩
    · rw [hg]; exact F0.out fun h => by have := grpsB_true ⟨h.2.2.2.2.1, h.2.2.2.2.2.2⟩; rw [hg] at this; cases this)
  have hb9 : Below w3.heap.size w3 w8 := (below_drew (Below.refl _ w3)).trans hb8
  go_wp2
  go_ret
  exact ⟨by rw [HR.out]; rfl, hb0.trans (hb9.mono hb0.size)⟩
end Go.Proofs.Ytdehpdmgoaopfaa
