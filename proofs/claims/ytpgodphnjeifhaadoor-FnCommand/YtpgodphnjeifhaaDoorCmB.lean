/- CommandBytes: spec and impl answer alike. -/
import Derived.Test.YtpgodphnjeifhaaDoorCmEnc
import Derived.Test.YtpgodphnjeifhaaDoorCmArg
import Derived.Test.YtpgodphnjeifhaaDoorKept
namespace Go.Proofs.YtpgodphnjeifhaaDoor
open Go.RowKit
set_option linter.unusedVariables false
set_option maxRecDepth 1000000

set_option maxHeartbeats 4000000 in
theorem specL06Bytes_any (c : Cmd) (hs : c.small) (h : cmdB c = true) (w : World) :
    Calls Tryd.prog 24 #[c.v] w fun e w' => e = .returned (.string c.enc) ∧ Below w.heap.size w w' := by
  have RI := Lib.hid (specCommandRight_any c hs)
  rw [h] at RI
  obtain ⟨z1, z2, z3, z4, z5, z6, z7⟩ := cmdB_sizes h
  clear h hs
  obtain ⟨a, b, k, t, g, x, n⟩ := c
  simp only at z1 z2 z3 z4 z5 z6 z7
  have PA := Lib.hid (fun W => specPutNum_any a W (by omega) (by omega))
  have PB := Lib.hid (fun W => specPutNum_any b W (by omega) (by omega))
  have PK := Lib.hid (fun W => specPutNum_any k W (by omega) (by omega))
  have PN := Lib.hid (fun W => specPutNum_any n W (by omega) (by omega))
  have PT := Lib.hid (fun W => specPutText_any t W (by omega))
  have PG := Lib.hid (fun W => specPutText_any g W (by omega))
  have PX := Lib.hid (fun W => specPutText_any x W (by omega))
  have la : (strOfNums (vint (zig a))).size ≤ 10 := numS_le (by omega) (by omega)
  have lb : (strOfNums (vint (zig b))).size ≤ 10 := numS_le (by omega) (by omega)
  have lk : (strOfNums (vint (zig k))).size ≤ 10 := numS_le (by omega) (by omega)
  have ln : (strOfNums (vint (zig n))).size ≤ 10 := numS_le (by omega) (by omega)
  have lt := ptext_le (t := t) (by omega)
  have lg := ptext_le (t := g) (by omega)
  have lx := ptext_le (t := x) (by omega)
  have HE : Hid ((⟨a, b, k, t, g, x, n⟩ : Cmd).enc = strOfNums (vint (zig a)) ++ strOfNums (vint (zig b)) ++ strOfNums (vint (zig k)) ++ ptext t ++ ptext g ++ ptext x ++ strOfNums (vint (zig n))) := rfl
  rw [HE.out]
  clear HE
  generalize strOfNums (vint (zig a)) = sa at PA la ⊢
  generalize strOfNums (vint (zig b)) = sb at PB lb ⊢
  generalize strOfNums (vint (zig k)) = sk at PK lk ⊢
  generalize strOfNums (vint (zig n)) = sn at PN ln ⊢
  generalize ptext t = st at PT lt ⊢
  generalize ptext g = sg at PG lg ⊢
  generalize ptext x = sx at PX lx ⊢
  have l1 : st.size ≤ 50 := by omega
  have l2 : sg.size ≤ 50 := by omega
  have l3 : sx.size ≤ 50 := by omega
  unfold Cmd.v at RI ⊢
  simp only at RI ⊢
  clear z1 z2 z3 z4 z5 z6 z7 lt lg lx
  have hB := Blk.fresh w 24 [.int .i64 a, .int .i64 b, .int .i64 k, .string t, .string g, .string x, .int .i64 n]
  have hw0 := below_box w (.cells #[.int .i64 a, .int .i64 b, .int .i64 k, .string t, .string g, .string x, .int .i64 n] 24)
  simp only [List.toArray] at hB
  go_enter Tryd.func24, Tryd.ntmps24
  go_wp2_with (fail)
  generalize w.alloc (.cells #[.int .i64 a, .int .i64 b, .int .i64 k, .string t, .string g, .string x, .int .i64 n] 24) = v0 at hB hw0 ⊢
  obtain ⟨I, f, hI, g0, gk, gc, ge⟩ := class_grown v0
  have x0 := fun s => kept_cell (gk s) (hB.cell (i := 0) rfl)
  have x1 := fun s => kept_cell (gk s) (hB.cell (i := 1) rfl)
  have x2 := fun s => kept_cell (gk s) (hB.cell (i := 2) rfl)
  have x3 := fun s => kept_cell (gk s) (hB.cell (i := 3) rfl)
  have x4 := fun s => kept_cell (gk s) (hB.cell (i := 4) rfl)
  have x5 := fun s => kept_cell (gk s) (hB.cell (i := 5) rfl)
  have x6 := fun s => kept_cell (gk s) (hB.cell (i := 6) rfl)
  clear hB
  refine wp_region_kept f (by kernel_rfl) (by kernel_rfl) g0 ?_
  repeat (first
    | go_big_quiet_skip
    | (go_big_quiet_want; go_big_quiet_op; first
      | go_big_quiet_on
      | (apply Exists.intro; refine ⟨fun s => ?_, ?_⟩; (go_at_call 42; (with_reducible refine (PA.out _).mono ?_); rintro e w4 ⟨rfl, hb4⟩; exact ⟨rfl, gc _ _ hb4⟩); go_big_quiet_on)
      | (apply Exists.intro; refine ⟨fun s => ?_, ?_⟩; (go_at_call 42; (with_reducible refine (PB.out _).mono ?_); rintro e w4 ⟨rfl, hb4⟩; exact ⟨rfl, gc _ _ hb4⟩); go_big_quiet_on)
      | (apply Exists.intro; refine ⟨fun s => ?_, ?_⟩; (go_at_call 42; (with_reducible refine (PK.out _).mono ?_); rintro e w4 ⟨rfl, hb4⟩; exact ⟨rfl, gc _ _ hb4⟩); go_big_quiet_on)
      | (apply Exists.intro; refine ⟨fun s => ?_, ?_⟩; (go_at_call 42; (with_reducible refine (PN.out _).mono ?_); rintro e w4 ⟨rfl, hb4⟩; exact ⟨rfl, gc _ _ hb4⟩); go_big_quiet_on)
      | (apply Exists.intro; refine ⟨fun s => ?_, ?_⟩; (go_at_call 43; (with_reducible refine (PT.out _).mono ?_); rintro e w4 ⟨rfl, hb4⟩; exact ⟨rfl, gc _ _ hb4⟩); go_big_quiet_on)
      | (apply Exists.intro; refine ⟨fun s => ?_, ?_⟩; (go_at_call 43; (with_reducible refine (PG.out _).mono ?_); rintro e w4 ⟨rfl, hb4⟩; exact ⟨rfl, gc _ _ hb4⟩); go_big_quiet_on)
      | (apply Exists.intro; refine ⟨fun s => ?_, ?_⟩; (go_at_call 43; (with_reducible refine (PX.out _).mono ?_); rintro e w4 ⟨rfl, hb4⟩; exact ⟨rfl, gc _ _ hb4⟩); go_big_quiet_on)))
  refine wpQuiet_nil ?_
  intro w5 h5
  have hb5 := ge _ h5
  go_wp2
  go_ret
  exact ⟨rfl, hw0.trans (hb5.mono hw0.size)⟩
set_option maxHeartbeats 4000000 in
theorem implCommandBytes_ok (c : Cmd) (hs : c.small) (h : cmdB c = true) (w : World) :
    Calls Tryd.prog 6 #[c.v] w fun e w' => e = .returned (.string c.enc) ∧ Below w.heap.size w w' := by
  have RI := Lib.hid (implCommandRight_any c hs)
  rw [h] at RI
  obtain ⟨z1, z2, z3, z4, z5, z6, z7⟩ := cmdB_sizes h
  clear h hs
  obtain ⟨a, b, k, t, g, x, n⟩ := c
  simp only at z1 z2 z3 z4 z5 z6 z7
  have PA := Lib.hid (fun W => implPutNum_any a W (by omega) (by omega))
  have PB := Lib.hid (fun W => implPutNum_any b W (by omega) (by omega))
  have PK := Lib.hid (fun W => implPutNum_any k W (by omega) (by omega))
  have PN := Lib.hid (fun W => implPutNum_any n W (by omega) (by omega))
  have PT := Lib.hid (fun W => implPutText_any t W (by omega))
  have PG := Lib.hid (fun W => implPutText_any g W (by omega))
  have PX := Lib.hid (fun W => implPutText_any x W (by omega))
  have la : (strOfNums (vint (zig a))).size ≤ 10 := numS_le (by omega) (by omega)
  have lb : (strOfNums (vint (zig b))).size ≤ 10 := numS_le (by omega) (by omega)
  have lk : (strOfNums (vint (zig k))).size ≤ 10 := numS_le (by omega) (by omega)
  have ln : (strOfNums (vint (zig n))).size ≤ 10 := numS_le (by omega) (by omega)
  have lt := ptext_le (t := t) (by omega)
  have lg := ptext_le (t := g) (by omega)
  have lx := ptext_le (t := x) (by omega)
  have HE : Hid ((⟨a, b, k, t, g, x, n⟩ : Cmd).enc = strOfNums (vint (zig a)) ++ strOfNums (vint (zig b)) ++ strOfNums (vint (zig k)) ++ ptext t ++ ptext g ++ ptext x ++ strOfNums (vint (zig n))) := rfl
  rw [HE.out]
  clear HE
  generalize strOfNums (vint (zig a)) = sa at PA la ⊢
  generalize strOfNums (vint (zig b)) = sb at PB lb ⊢
  generalize strOfNums (vint (zig k)) = sk at PK lk ⊢
  generalize strOfNums (vint (zig n)) = sn at PN ln ⊢
  generalize ptext t = st at PT lt ⊢
  generalize ptext g = sg at PG lg ⊢
  generalize ptext x = sx at PX lx ⊢
  have l1 : st.size ≤ 50 := by omega
  have l2 : sg.size ≤ 50 := by omega
  have l3 : sx.size ≤ 50 := by omega
  unfold Cmd.v at RI ⊢
  simp only at RI ⊢
  clear z1 z2 z3 z4 z5 z6 z7 lt lg lx
  have hB := Blk.fresh w 24 [.int .i64 a, .int .i64 b, .int .i64 k, .string t, .string g, .string x, .int .i64 n]
  have hw0 := below_box w (.cells #[.int .i64 a, .int .i64 b, .int .i64 k, .string t, .string g, .string x, .int .i64 n] 24)
  simp only [List.toArray] at hB
  go_enter Tryd.func6, Tryd.ntmps6
  go_wp2_with (fail)
  generalize w.alloc (.cells #[.int .i64 a, .int .i64 b, .int .i64 k, .string t, .string g, .string x, .int .i64 n] 24) = v0 at hB hw0 ⊢
  refine (RI.out _).mono ?_
  rintro e w1 ⟨rfl, hb1⟩
  replace hB := hB.below hb1 hB.lt
  replace hw0 := hw0.trans (hb1.mono hw0.size)
  clear hb1
  generalize w1 = v0 at hB hw0 ⊢
  go_wp2_with (fail)
  obtain ⟨I, f, hI, g0, gk, gc, ge⟩ := class_grown v0
  have x0 := fun s => kept_cell (gk s) (hB.cell (i := 0) rfl)
  have x1 := fun s => kept_cell (gk s) (hB.cell (i := 1) rfl)
  have x2 := fun s => kept_cell (gk s) (hB.cell (i := 2) rfl)
  have x3 := fun s => kept_cell (gk s) (hB.cell (i := 3) rfl)
  have x4 := fun s => kept_cell (gk s) (hB.cell (i := 4) rfl)
  have x5 := fun s => kept_cell (gk s) (hB.cell (i := 5) rfl)
  have x6 := fun s => kept_cell (gk s) (hB.cell (i := 6) rfl)
  clear hB
  refine wp_region_kept f (by kernel_rfl) (by kernel_rfl) g0 ?_
  repeat (first
    | go_big_quiet_skip
    | (go_big_quiet_want; go_big_quiet_op; first
      | go_big_quiet_on
      | (apply Exists.intro; refine ⟨fun s => ?_, ?_⟩; (go_at_call 19; (with_reducible refine (PA.out _).mono ?_); rintro e w4 ⟨rfl, hb4⟩; exact ⟨rfl, gc _ _ hb4⟩); go_big_quiet_on)
      | (apply Exists.intro; refine ⟨fun s => ?_, ?_⟩; (go_at_call 19; (with_reducible refine (PB.out _).mono ?_); rintro e w4 ⟨rfl, hb4⟩; exact ⟨rfl, gc _ _ hb4⟩); go_big_quiet_on)
      | (apply Exists.intro; refine ⟨fun s => ?_, ?_⟩; (go_at_call 19; (with_reducible refine (PK.out _).mono ?_); rintro e w4 ⟨rfl, hb4⟩; exact ⟨rfl, gc _ _ hb4⟩); go_big_quiet_on)
      | (apply Exists.intro; refine ⟨fun s => ?_, ?_⟩; (go_at_call 19; (with_reducible refine (PN.out _).mono ?_); rintro e w4 ⟨rfl, hb4⟩; exact ⟨rfl, gc _ _ hb4⟩); go_big_quiet_on)
      | (apply Exists.intro; refine ⟨fun s => ?_, ?_⟩; (go_at_call 20; (with_reducible refine (PT.out _).mono ?_); rintro e w4 ⟨rfl, hb4⟩; exact ⟨rfl, gc _ _ hb4⟩); go_big_quiet_on)
      | (apply Exists.intro; refine ⟨fun s => ?_, ?_⟩; (go_at_call 20; (with_reducible refine (PG.out _).mono ?_); rintro e w4 ⟨rfl, hb4⟩; exact ⟨rfl, gc _ _ hb4⟩); go_big_quiet_on)
      | (apply Exists.intro; refine ⟨fun s => ?_, ?_⟩; (go_at_call 20; (with_reducible refine (PX.out _).mono ?_); rintro e w4 ⟨rfl, hb4⟩; exact ⟨rfl, gc _ _ hb4⟩); go_big_quiet_on)))
  refine wpQuiet_nil ?_
  intro w5 h5
  have hb5 := ge _ h5
  go_wp2
  go_ret
  exact ⟨rfl, hw0.trans (hb5.mono hw0.size)⟩

set_option maxHeartbeats 1000000 in
theorem implCommandBytes_any (c : Cmd) (hs : c.small) (w : World) :
    Calls Tryd.prog 6 #[c.v] w fun e w' => e = .returned (.string (cmdBytes c)) ∧ Below w.heap.size w w' := by
  cases h : cmdB c
  · have RI := Lib.hid (implCommandRight_any c hs)
    rw [show cmdBytes c = ⟨#[]⟩ by simp [cmdBytes, h]]
    rw [h] at RI
    obtain ⟨a, b, k, t, g, x, n⟩ := c
    unfold Cmd.v at RI ⊢
    simp only at RI ⊢
    go_enter Tryd.func6, Tryd.ntmps6
    go_wp2_with (fail)
    refine (RI.out _).mono ?_
    rintro e w1 ⟨rfl, hb1⟩
    go_wp2
    go_ret
    exact ⟨rfl, (below_box _ _).trans (hb1.mono (below_box _ _).size)⟩
  · rw [show cmdBytes c = c.enc by simp [cmdBytes, h]]
    exact implCommandBytes_ok c hs h w
set_option maxHeartbeats 1000000 in
theorem specCommandBytes_any (c : Cmd) (hs : c.small) (w : World) :
    Calls Tryd.prog 8 #[c.v] w fun e w' => e = .returned (.string (cmdBytes c)) ∧ Below w.heap.size w w' := by
  have RI := Lib.hid (specCommandRight_any c hs)
  cases h : cmdB c
  · rw [show cmdBytes c = ⟨#[]⟩ by simp [cmdBytes, h]]
    rw [h] at RI
    obtain ⟨a, b, k, t, g, x, n⟩ := c
    unfold Cmd.v at RI ⊢
    simp only at RI ⊢
    go_enter Tryd.func8, Tryd.ntmps8
    go_wp2_with (fail)
    refine (RI.out _).mono ?_
    rintro e w1 ⟨rfl, hb1⟩
    go_wp2
    go_ret
    exact ⟨rfl, (below_box _ _).trans (hb1.mono (below_box _ _).size)⟩
  · rw [show cmdBytes c = c.enc by simp [cmdBytes, h]]
    have PB := Lib.hid (specL06Bytes_any c hs h)
    rw [h] at RI
    generalize c.enc = r at PB ⊢
    clear h hs
    obtain ⟨a, b, k, t, g, x, n⟩ := c
    unfold Cmd.v at RI PB ⊢
    simp only at RI PB ⊢
    have hB := Blk.fresh w 24 [.int .i64 a, .int .i64 b, .int .i64 k, .string t, .string g, .string x, .int .i64 n]
    have hw0 := below_box w (.cells #[.int .i64 a, .int .i64 b, .int .i64 k, .string t, .string g, .string x, .int .i64 n] 24)
    simp only [List.toArray] at hB
    go_enter Tryd.func8, Tryd.ntmps8
    go_wp2_with (fail)
    generalize w.alloc (.cells #[.int .i64 a, .int .i64 b, .int .i64 k, .string t, .string g, .string x, .int .i64 n] 24) = v0 at hB hw0 ⊢
    refine (RI.out _).mono ?_
    rintro e w1 ⟨rfl, hb1⟩
    have hB1 := hB.below hb1 hB.lt
    have hw1 := hw0.trans (hb1.mono hw0.size)
    have c0 := hB1.cell (i := 0) rfl
    have c1 := hB1.cell (i := 1) rfl
    have c2 := hB1.cell (i := 2) rfl
    have c3 := hB1.cell (i := 3) rfl
    have c4 := hB1.cell (i := 4) rfl
    have c5 := hB1.cell (i := 5) rfl
    have c6 := hB1.cell (i := 6) rfl
    clear hb1 hB hw0 hB1
    go_wp2_with (fail)
    refine (PB.out _).mono ?_
    rintro e w2 ⟨rfl, hb2⟩
    go_wp2
    go_ret
    exact ⟨rfl, hw1.trans (hb2.mono hw1.size)⟩

end Go.Proofs.YtpgodphnjeifhaaDoor
