/- impl.SeglogAdd. SeglogAdd: spec and impl answer alike. The walk of the law on SeglogAdd. -/
import Derived.Test.YtebkblmejkkhfaaGreatDoorLogAddSW
import Derived.Test.YtebkblmejkkhfaaGreatDoorQTailW
import Derived.Test.YtebkblmejkkhfaaGreatDoorSgMarkW
import Derived.Test.YtebkblmejkkhfaaGreatDoorSgOutW
import Derived.Test.YtebkblmejkkhfaaGreatDoorChgW
import Derived.Deep.RegionHeld3
namespace Go.Proofs.YtebkblmejkkhfaaGreatDoor
open Go.RowKit
set_option linter.unusedVariables false
set_option linter.unusedSimpArgs false
set_option maxRecDepth 1000000

set_option maxHeartbeats 8000000 in
theorem implAdd_ok (a : Addr) (L : List Fil) (c : Nat) (f m : Int) (t s s2 : ByteArray) (w : World) (hL : Fls w w.heap.size (some a) L) (hlog : logB L f m = true) (hfw : (Lit.int .i64 f).wf = true) (hmw : (Lit.int .i64 m).wf = true) (ht : t.size ≤ 300) (hm : m < 60) (hfm : f + m < 900000) (hs : segN (f + m - m % 4) = s) (hs2 : segN (f + m - m % 4 + 4) = s2) (M : List Fil) (cd : Int) (M3 : List Fil) (cd3 : Int) (hPw : Pow w) (hHd : Handle w) (hSg : Seg w)
    (AP : Hid (∀ W, Below w.heap.size w W → Calls Tryz.prog 12 #[.agg #[.slice (some a) L.length c], .string s, .string (frameS t)] W fun e w' => ∃ C x, e = .returned (fsOut (.slice C M.length x) cd) ∧ OwnF w' W.heap.size (.slice C M.length x) M ∧ Below W.heap.size W w'))
    (AP2 : Hid (∀ W C x, Fls W W.heap.size C M → Below w.heap.size w W → Calls Tryz.prog 12 #[.agg #[.slice C M.length x], .string s2, .string ⟨#[]⟩] W fun e w' => ∃ C x, e = .returned (fsOut (.slice C M3.length x) cd3) ∧ OwnF w' W.heap.size (.slice C M3.length x) M3 ∧ Below W.heap.size W w'))
    (M2 : List Fil) (fo mo co : Int) (hbad : cd ≠ 0 → M2 = [] ∧ fo = 0 ∧ mo = 0 ∧ co = cd) (hno : cd = 0 → (m + 1) % 4 ≠ 0 → M2 = M ∧ fo = f ∧ mo = m + 1 ∧ co = 0)
    (hyb : cd = 0 → (m + 1) % 4 = 0 → cd3 ≠ 0 → M2 = [] ∧ fo = 0 ∧ mo = 0 ∧ co = cd3) (hyg : cd = 0 → (m + 1) % 4 = 0 → cd3 = 0 → M2 = M3 ∧ fo = f ∧ mo = m + 1 ∧ co = 0) :
    Calls Tryz.prog 42 #[segV (.slice (some a) L.length c) f m, .string t] w fun e w' => ∃ C x, e = .returned (slOut (.slice C M2.length x) fo mo (.slice none 0 0) co) ∧ OwnF w' w.heap.size (.slice C M2.length x) M2 ∧ Below w.heap.size w w' := by
  obtain ⟨g1, g2, g3, g4, g5, g6, g7⟩ := logB_nums hlog
  clear g6
  have hb0 : Below w.heap.size w ((w.alloc (.cells #[.slice (some a) L.length c, .int .i64 f, .int .i64 m] 61)).alloc (.cells #[.slice none 0 0, .int .i64 0, .int .i64 0, .slice none 0 0, .int .i64 0] 63)) := ((Below.refl _ _).alloc (Nat.le_refl _) _).alloc (by simp) _
  have k0 := (Blk.fresh w 61 [.slice (some a) L.length c, .int .i64 f, .int .i64 m]).alloc (.cells #[.slice none 0 0, .int .i64 0, .int .i64 0, .slice none 0 0, .int .i64 0] 63)
  have k1 := Blk.fresh (w.alloc (.cells #[.slice (some a) L.length c, .int .i64 f, .int .i64 m] 61)) 63 [.slice none 0 0, .int .i64 0, .int .i64 0, .slice none 0 0, .int .i64 0]
  simp only [List.toArray, World.size_alloc] at k0 k1
  have HR := implSeglogRight_any (some a) L c f m _ ((hL.below hb0 (Nat.le_refl _)).mono hb0.size) hfw hmw (hPw.below hb0) (Handle.below hHd hb0) (hSg.below hb0)
  rw [hlog] at HR
  have HRH := Lib.hid HR
  have hmx : t.size ≤ maxLen := by unfold maxLen; omega
  have TL := tooLong_any t ((w.alloc (.cells #[.slice (some a) L.length c, .int .i64 f, .int .i64 m] 61)).alloc (.cells #[.slice none 0 0, .int .i64 0, .int .i64 0, .slice none 0 0, .int .i64 0] 63)) hmx
  have htl : decide (20000 < t.size) = false := by simp; omega
  rw [htl] at TL
  have TLH := Lib.hid TL
  have FO := Lib.hid (fun W => implFrameOf_any t W (by omega))
  have NR : Hid (∀ W, Below w.heap.size w W → Calls Tryz.prog 110 #[.int .i64 (f + m - m % 4)] W fun e w' => e = .returned (.string s) ∧ Below W.heap.size W w') := Lib.hid fun W h => by have := implSegName_any (f + m - m % 4) W (hPw.below h); rw [hs] at this; exact this
  have NR2 : Hid (∀ W, Below w.heap.size w W → Calls Tryz.prog 110 #[.int .i64 (f + m - m % 4 + 4)] W fun e w' => e = .returned (.string s2) ∧ Below W.heap.size W w') := Lib.hid fun W h => by have := implSegName_any (f + m - m % 4 + 4) W (hPw.below h); rw [hs2] at this; exact this
  have dm : (m == 60) = false := by simp; omega
  have dfm : (f + m == 900000) = false := by simp; omega
  have hr4 : 0 ≤ m % 4 ∧ m % 4 ≤ 3 := by omega
  clear hfw hmw HR hlog hs hs2 TL htl hmx
  go_enter Tryz.func42, Tryz.ntmps42
  go_wp2_with (fail)
  refine TLH.out.mono ?_
  rintro e w' ⟨rfl, rfl⟩
  clear TLH
  go_wp2_with (fail)
  refine HRH.out.mono ?_
  clear HRH
  generalize (w.alloc (.cells #[.slice (some a) L.length c, .int .i64 f, .int .i64 m] 61)).alloc (.cells #[.slice none 0 0, .int .i64 0, .int .i64 0, .slice none 0 0, .int .i64 0] 63) = w1 at hb0 k0 k1 ⊢
  rintro e w2 ⟨rfl, hb2⟩
  have hP := k0.below hb2 k0.lt
  have hQ := k1.below hb2 k1.lt
  have hw2 := hb0.trans (hb2.mono hb0.size)
  clear k0 k1 hb0 hb2
  have c0 := hP.cell (i := 0) rfl
  have c1 := hP.cell (i := 1) rfl
  have c2 := hP.cell (i := 2) rfl
  go_upto_region 8 with (fail)
  go_cut [6] (fun y wx => ApCut w M cd [.slice (some a) L.length c, .int .i64 f, .int .i64 m] [.slice none 0 0, .int .i64 0, .int .i64 0, .slice none 0 0, .int .i64 0] y wx)
  case first =>
    clear c0 c1 c2
    have hsd := below_drew hw2
    have hPd := hP.drew
    have hQd := hQ.drew
    have hQl := hQ.lt
    have al1 := (Below.refl w2.heap.size w2).alloc (Nat.le_refl _) (.cells #[.slice none 0 0, .int .i64 0] 29)
    have al0 : Below w2.drew.heap.size w2.drew (w2.alloc (.cells #[.slice none 0 0, .int .i64 0] 29)).drew := ⟨al1.os, al1.tape, al1.output, al1.size, al1.block⟩
    clear al1
    have x0 : w2.drew.cell? ⟨w.heap.size, 0, none⟩ = some (.slice (some a) L.length c) := hPd.cell (i := 0) rfl
    have x0a : (w2.alloc (.cells #[.slice none 0 0, .int .i64 0] 29)).drew.cell? ⟨w.heap.size, 0, none⟩ = some (.slice (some a) L.length c) := kept_cell al0 x0
    have hsa : Below w.heap.size w (w2.alloc (.cells #[.slice none 0 0, .int .i64 0] 29)).drew := hsd.trans (al0.mono hsd.size)
    have hPa := hPd.below al0 hPd.lt
    have hQa := hQd.below al0 hQd.lt
    have hBa := (Blk.fresh w2 29 [.slice none 0 0, .int .i64 0]).drew
    go_region_held3 (fun W => W.cell? ⟨w.heap.size, 0, none⟩ = some (.slice (some a) L.length c))
      (first
        | exact x0
        | exact x0a
        | exact x1
        | exact kept_cell ((Below.refl v1.heap.size v1).alloc (Nat.le_refl _) (.cells #[.slice none 0 0, .int .i64 0] 29)) x1
        | exact x2
        | exact kept_cell ((Below.refl v2.heap.size v2).alloc (Nat.le_refl _) (.cells #[.slice none 0 0, .int .i64 0] 29)) x2
        | exact x9
        | exact kept_cell ((Below.refl v9.heap.size v9).alloc (Nat.le_refl _) _) x9
        | exact cell_put_far (cell_put_far x9 (by simp; omega) _) (by simp; omega) _
        | exact cell_put_far (cell_put_far x9 (Nat.ne_of_lt hP1.lt) _) (Nat.ne_of_lt hP1.lt) _
        | exact cell_put_far (cell_put_far x9 (Nat.ne_of_lt hP2.lt) _) (Nat.ne_of_lt hP2.lt) _
        | exact cell_put_far (cell_put_far x9 (Nat.ne_of_lt hP.lt) _) (Nat.ne_of_lt hP.lt) _)
      (first
        | (go_at_call 110; first
            | ((with_reducible refine (NR.out w2.drew (hsd)).mono ?_); rintro e v1 ⟨rfl, hb1⟩; have hs1 := (hsd).trans (hb1.mono (hsd).size); have hP1 := (hPd).below hb1 (hPd).lt; have hQ1 := (hQd).below hb1 (hQd).lt; have x1 : v1.cell? ⟨w.heap.size, 0, none⟩ = some (.slice (some a) L.length c) := kept_cell hb1 x0)
            | ((with_reducible refine (NR.out (w2.alloc (.cells #[.slice none 0 0, .int .i64 0] 29)).drew (hsa)).mono ?_); rintro e v1 ⟨rfl, hb1⟩; have hs1 := (hsa).trans (hb1.mono (hsa).size); have hP1 := (hPa).below hb1 (hPa).lt; have hQ1 := (hQa).below hb1 (hQa).lt; have x1 : v1.cell? ⟨w.heap.size, 0, none⟩ = some (.slice (some a) L.length c) := kept_cell hb1 x0a; have hB1 := (hBa).below hb1 (hBa).lt; have hBl1 : w.heap.size + 1 < w2.heap.size := hQl))
        | (go_at_call 111; first
            | ((with_reducible refine (FO.out v1).mono ?_); rintro e v2 ⟨rfl, hb2⟩; have hs2 := (hs1).trans (hb2.mono (hs1).size); have hP2 := (hP1).below hb2 (hP1).lt; have hQ2 := (hQ1).below hb2 (hQ1).lt; have x2 : v2.cell? ⟨w.heap.size, 0, none⟩ = some (.slice (some a) L.length c) := kept_cell hb2 x1; try (have hB2 := hB1.below hb2 hB1.lt; have hBl2 := hBl1))
            | ((with_reducible refine (FO.out (v1.alloc (.cells #[.slice none 0 0, .int .i64 0] 29))).mono ?_); rintro e v2 ⟨rfl, hb2⟩; have hs2 := (hs1.alloc hs1.size (.cells #[.slice none 0 0, .int .i64 0] 29)).trans (hb2.mono (hs1.alloc hs1.size (.cells #[.slice none 0 0, .int .i64 0] 29)).size); have hP2 := (hP1.alloc (.cells #[.slice none 0 0, .int .i64 0] 29)).below hb2 (hP1.alloc (.cells #[.slice none 0 0, .int .i64 0] 29)).lt; have hQ2 := (hQ1.alloc (.cells #[.slice none 0 0, .int .i64 0] 29)).below hb2 (hQ1.alloc (.cells #[.slice none 0 0, .int .i64 0] 29)).lt; have x2 : v2.cell? ⟨w.heap.size, 0, none⟩ = some (.slice (some a) L.length c) := kept_cell hb2 (show (v1.alloc (.cells #[.slice none 0 0, .int .i64 0] 29)).cell? ⟨w.heap.size, 0, none⟩ = some (.slice (some a) L.length c) from kept_cell ((Below.refl v1.heap.size v1).alloc (Nat.le_refl _) (.cells #[.slice none 0 0, .int .i64 0] 29)) x1); have hB2 := (Blk.fresh v1 29 [.slice none 0 0, .int .i64 0]).below hb2 (Blk.fresh v1 29 [.slice none 0 0, .int .i64 0]).lt; have hBl2 : w.heap.size + 1 < v1.heap.size := hQ1.lt))
        | (go_at_call 12; first
            | ((with_reducible refine (AP.out v2 hs2).mono ?_); rintro e v9 ⟨C, x, rfl, hO, hb9⟩; have x9 : v9.cell? ⟨w.heap.size, 0, none⟩ = some (.slice (some a) L.length c) := kept_cell hb9 x2; try (have hB9 := hB2.below hb9 hB2.lt; have u0 := hB9.cell (i := 0) rfl; have u1 := hB9.cell (i := 1) rfl; have z0 := hB9.froz 0; have z1 := hB9.froz 1))
            | ((with_reducible refine (AP.out (v2.alloc (.cells #[.slice none 0 0, .int .i64 0] 29)) (hs2.alloc hs2.size (.cells #[.slice none 0 0, .int .i64 0] 29))).mono ?_); rintro e v9 ⟨C, x, rfl, hO, hb9⟩; have x9 : v9.cell? ⟨w.heap.size, 0, none⟩ = some (.slice (some a) L.length c) := kept_cell hb9 (show (v2.alloc (.cells #[.slice none 0 0, .int .i64 0] 29)).cell? ⟨w.heap.size, 0, none⟩ = some (.slice (some a) L.length c) from kept_cell ((Below.refl v2.heap.size v2).alloc (Nat.le_refl _) (.cells #[.slice none 0 0, .int .i64 0] 29)) x2); have hB9 := (Blk.fresh v2 29 [.slice none 0 0, .int .i64 0]).below hb9 (by simp); have u0 := hB9.cell (i := 0) rfl; have u1 := hB9.cell (i := 1) rfl; have z0 := hB9.froz 0; have z1 := hB9.froz 1)))
    all_goals
      go_wp2_with (fail)
      go_meet
      case rel => first | exact ap_late hO hb9 hP2 hQ2 hs2 | exact ap_early hO hb9 (hP2.alloc (.cells #[.slice none 0 0, .int .i64 0] 29)) (hQ2.alloc (.cells #[.slice none 0 0, .int .i64 0] 29)) (hs2.alloc hs2.size (.cells #[.slice none 0 0, .int .i64 0] 29)) (Blk.fresh v2 29 [.slice none 0 0, .int .i64 0]) hQ2.lt | exact ap_early hO hb9 hP2 hQ2 hs2 hB2 hBl2
  case rest =>
    obtain ⟨bx, C, x, rfl, hbb, hBx, hO, hP9, hQ9, hb9⟩ := hcut
    clear c0 c1 c2 hP hQ
    have y0 := hBx.cell (i := 0) rfl
    have y1 := hBx.cell (i := 1) rfl
    have p1 := hP9.cell (i := 1) rfl
    have p2 := hP9.cell (i := 2) rfl
    have hQl := hQ9.lt
    have hBl := hBx.lt
    by_cases hcd : cd = 0
    · have dcd : (cd != 0) = false := by simp [hcd]
      have dce : (cd == 0) = true := by simp [hcd]
      by_cases h4 : (m + 1) % 4 = 0
      · have d4 : ((m + 1) % 4 == 0) = true := by simp [h4]
        have HY := Lib.hid (hyb hcd h4)
        have HG := Lib.hid (hyg hcd h4)
        clear hcd h4 hbad hno hyb hyg
        go_wp2_with (fail)
        have e1 : IntKind.i64.wrap (f + m - m % 4 + 4) = f + m - m % 4 + 4 := IntWalk.i64_in _ (by omega)
        obtain ⟨I, fw, hI, g5', h6, g6', g7'⟩ := class_grown wc
        have q0 : ∀ s, (fw s).cell? ⟨bx, 0, none⟩ = some (.slice C M.length x) := fun s => kept_cell (h6 s) y0
        have G7 := Lib.hid g7'
        have G6 := Lib.hid g6'
        have HB9 := Lib.hid hb9
        clear h6 g7' g6'
        refine wp_region_class_tail (C := fun w' => ∃ s, w' = fw s) 5 (by kernel_rfl) (by kernel_rfl) g5' ?_
        simp only [List.take_succ_cons, List.take_zero, List.drop_succ_cons, List.drop_zero]
        repeat (first
          | go_big_quiet_skip
          | (go_big_quiet_want; go_big_quiet_op; first | go_big_quiet_on | (apply Exists.intro; refine ⟨fun s => ?_, ?_⟩; (go_at_call 110; refine (NR2.out _ (hb9.trans ((G7.out _ ⟨_, rfl⟩).mono hb9.size))).mono ?_; rintro e w9 ⟨rfl, hb9'⟩; exact ⟨rfl, G6.out _ _ hb9'⟩); go_big_quiet_on)))
        refine wpQuiet_nil ?_
        intro w5 h5
        have hb45 := G7.out _ h5
        have hB5 := hBx.below hb45 hBx.lt
        have hP5 := hP9.below hb45 hP9.lt
        have hQ5 := hQ9.below hb45 hQ9.lt
        have hO5 := OwnF.below hO hb45 (Nat.le_refl _)
        have hb5 := hb9.trans (hb45.mono hb9.size)
        clear q0 g5' h5 y0 y1 p1 p2 hO e1
        go_wp2_with (fail)
        refine (AP2.out _ C x (OwnF.fls hO5) hb5).mono ?_
        rintro e w6 ⟨C6, x6, rfl, hO6, hb6⟩
        have hz5 := hb45.size
        have hz6 := hb6.size
        have hB6 := hB5.below hb6 hB5.lt
        have hP6 := hP5.below hb6 hP5.lt
        have hQ6 := hQ5.below hb6 hQ5.lt
        have hw6 := hb5.trans (hb6.mono hb5.size)
        have hne : (Value.slice C6 M3.length x6).ownBlock ≠ some bx := fun e => by have := (hO6.1.lt _ e).1; omega
        have hB7 : Blk _ bx 29 [.slice C6 M3.length x6, .int .i64 cd3] := (hB6.put 0 (.slice C6 M3.length x6)).put 1 (.int .i64 cd3)
        have hP7 := (hP6.far (p := ⟨bx, 0, none⟩) (by simp; omega) (.slice C6 M3.length x6)).far (p := ⟨bx, 1, none⟩) (by simp; omega) (.int .i64 cd3)
        have hQ7 := (hQ6.far (p := ⟨bx, 0, none⟩) (by simp; omega) (.slice C6 M3.length x6)).far (p := ⟨bx, 1, none⟩) (by simp; omega) (.int .i64 cd3)
        have hO7 := (hO6.off (p := ⟨bx, 0, none⟩) hne (.slice C6 M3.length x6)).off (p := ⟨bx, 1, none⟩) hne (.int .i64 cd3)
        have hw7 := (hw6.setCell (p := ⟨bx, 0, none⟩) (by simp; omega) (.slice C6 M3.length x6)).setCell (p := ⟨bx, 1, none⟩) (by simp; omega) (.int .i64 cd3)
        have u0 := hB6.cell (i := 0) rfl
        have u1 := hB6.cell (i := 1) rfl
        have z0 := hB6.froz 0
        have z1 := hB6.froz 1
        clear hB5 hP5 hQ5 hO5
        have v1 := hB7.cell (i := 1) rfl
        have v0 := hB7.cell (i := 0) rfl
        have p1 := hP7.cell (i := 1) rfl
        have p2 := hP7.cell (i := 2) rfl
        have t0 := hQ7.cell (i := 0) rfl; have t1 := hQ7.cell (i := 1) rfl; have t2 := hQ7.cell (i := 2) rfl; have t3 := hQ7.cell (i := 3) rfl; have t4 := hQ7.cell (i := 4) rfl; have ft0 := hQ7.froz 0; have ft1 := hQ7.froz 1; have ft2 := hQ7.froz 2; have ft3 := hQ7.froz 3; have ft4 := hQ7.froz 4; 
        by_cases hc3 : cd3 = 0
        · have d3 : (cd3 != 0) = false := by simp [hc3]
          obtain ⟨rfl, rfl, rfl, rfl⟩ := HG.out hc3
          clear hc3
          go_wp2
          generalize (w6.setCell ⟨bx, 0, none⟩ (.slice C6 M2.length x6)).setCell ⟨bx, 1, none⟩ (.int .i64 cd3) = w7 at hB7 hP7 hQ7 hO7 hw7 ⊢
          have r1 := ((((hQ7.put 0 (.slice C6 M2.length x6)).put 1 (.int .i64 fo)).put 2 (.int .i64 (m + 1))).put 3 (.slice none 0 0)).put 4 (.int .i64 0)
          have r2 := ((((hO7.far (p := ⟨w.heap.size + 1, 0, none⟩) (by first | (simp; done) | (simp; omega)) (.slice C6 M2.length x6)).far (p := ⟨w.heap.size + 1, 1, none⟩) (by first | (simp; done) | (simp; omega)) (.int .i64 fo)).far (p := ⟨w.heap.size + 1, 2, none⟩) (by first | (simp; done) | (simp; omega)) (.int .i64 (m + 1))).far (p := ⟨w.heap.size + 1, 3, none⟩) (by first | (simp; done) | (simp; omega)) (.slice none 0 0)).far (p := ⟨w.heap.size + 1, 4, none⟩) (by first | (simp; done) | (simp; omega)) (.int .i64 0)
          have r3 := ((((hw7.setCell (p := ⟨w.heap.size + 1, 0, none⟩) (by simp) (.slice C6 M2.length x6)).setCell (p := ⟨w.heap.size + 1, 1, none⟩) (by simp) (.int .i64 fo)).setCell (p := ⟨w.heap.size + 1, 2, none⟩) (by simp) (.int .i64 (m + 1))).setCell (p := ⟨w.heap.size + 1, 3, none⟩) (by simp) (.slice none 0 0)).setCell (p := ⟨w.heap.size + 1, 4, none⟩) (by simp) (.int .i64 0)
          generalize ((((w7.setCell ⟨w.heap.size + 1, 0, none⟩ (.slice C6 M2.length x6)).setCell ⟨w.heap.size + 1, 1, none⟩ (.int .i64 fo)).setCell ⟨w.heap.size + 1, 2, none⟩ (.int .i64 (m + 1))).setCell ⟨w.heap.size + 1, 3, none⟩ (.slice none 0 0)).setCell ⟨w.heap.size + 1, 4, none⟩ (.int .i64 0) = w9 at r1 r2 r3 ⊢
          have y0 := r1.cell (i := 0) rfl
          have y1 := r1.cell (i := 1) rfl
          have y2 := r1.cell (i := 2) rfl
          have y3 := r1.cell (i := 3) rfl
          have y4 := r1.cell (i := 4) rfl
          exact bodyPost_ret (v := .agg #[.slice C6 M2.length x6, .int .i64 fo, .int .i64 (m + 1), .slice none 0 0, .int .i64 0]) (by simp [results, Tryz.results42, go_sem, y0, y1, y2, y3, y4]) rfl ⟨C6, x6, rfl, r2.base (by omega), r3⟩
        · have d3 : (cd3 != 0) = true := by simpa using hc3
          obtain ⟨rfl, rfl, rfl, rfl⟩ := HY.out hc3
          clear hc3
          go_wp2
          generalize (w6.setCell ⟨bx, 0, none⟩ (.slice C6 M3.length x6)).setCell ⟨bx, 1, none⟩ (.int .i64 co) = w7 at hB7 hP7 hQ7 hO7 hw7 ⊢
          have r1 := ((((hQ7.put 0 (.slice none 0 0)).put 1 (.int .i64 0)).put 2 (.int .i64 0)).put 3 (.slice none 0 0)).put 4 (.int .i64 co)
          have r3 := ((((hw7.setCell (p := ⟨w.heap.size + 1, 0, none⟩) (by simp) (.slice none 0 0)).setCell (p := ⟨w.heap.size + 1, 1, none⟩) (by simp) (.int .i64 0)).setCell (p := ⟨w.heap.size + 1, 2, none⟩) (by simp) (.int .i64 0)).setCell (p := ⟨w.heap.size + 1, 3, none⟩) (by simp) (.slice none 0 0)).setCell (p := ⟨w.heap.size + 1, 4, none⟩) (by simp) (.int .i64 co)
          generalize ((((w7.setCell ⟨w.heap.size + 1, 0, none⟩ (.slice none 0 0)).setCell ⟨w.heap.size + 1, 1, none⟩ (.int .i64 0)).setCell ⟨w.heap.size + 1, 2, none⟩ (.int .i64 0)).setCell ⟨w.heap.size + 1, 3, none⟩ (.slice none 0 0)).setCell ⟨w.heap.size + 1, 4, none⟩ (.int .i64 co) = w9 at r1 r3 ⊢
          have y0 := r1.cell (i := 0) rfl
          have y1 := r1.cell (i := 1) rfl
          have y2 := r1.cell (i := 2) rfl
          have y3 := r1.cell (i := 3) rfl
          have y4 := r1.cell (i := 4) rfl
          exact bodyPost_ret (v := .agg #[.slice none 0 0, .int .i64 0, .int .i64 0, .slice none 0 0, .int .i64 co]) (by simp [results, Tryz.results42, go_sem, y0, y1, y2, y3, y4]) rfl ⟨none, 0, rfl, ownF_nil _ _, r3⟩
      · have d4 : ((m + 1) % 4 == 0) = false := by simpa using h4
        obtain ⟨rfl, rfl, rfl, rfl⟩ := hno hcd h4
        clear hcd h4 hbad hno hyb hyg
        have t0 := hQ9.cell (i := 0) rfl; have t1 := hQ9.cell (i := 1) rfl; have t2 := hQ9.cell (i := 2) rfl; have t3 := hQ9.cell (i := 3) rfl; have t4 := hQ9.cell (i := 4) rfl; have ft0 := hQ9.froz 0; have ft1 := hQ9.froz 1; have ft2 := hQ9.froz 2; have ft3 := hQ9.froz 3; have ft4 := hQ9.froz 4; 
        go_wp2
        have r1 := ((((hQ9.put 0 (.slice C M2.length x)).put 1 (.int .i64 fo)).put 2 (.int .i64 (m + 1))).put 3 (.slice none 0 0)).put 4 (.int .i64 0)
        have r2 := ((((hO.far (p := ⟨w.heap.size + 1, 0, none⟩) (by first | (simp; done) | (simp; omega)) (.slice C M2.length x)).far (p := ⟨w.heap.size + 1, 1, none⟩) (by first | (simp; done) | (simp; omega)) (.int .i64 fo)).far (p := ⟨w.heap.size + 1, 2, none⟩) (by first | (simp; done) | (simp; omega)) (.int .i64 (m + 1))).far (p := ⟨w.heap.size + 1, 3, none⟩) (by first | (simp; done) | (simp; omega)) (.slice none 0 0)).far (p := ⟨w.heap.size + 1, 4, none⟩) (by first | (simp; done) | (simp; omega)) (.int .i64 0)
        have r3 := ((((hb9.setCell (p := ⟨w.heap.size + 1, 0, none⟩) (by simp) (.slice C M2.length x)).setCell (p := ⟨w.heap.size + 1, 1, none⟩) (by simp) (.int .i64 fo)).setCell (p := ⟨w.heap.size + 1, 2, none⟩) (by simp) (.int .i64 (m + 1))).setCell (p := ⟨w.heap.size + 1, 3, none⟩) (by simp) (.slice none 0 0)).setCell (p := ⟨w.heap.size + 1, 4, none⟩) (by simp) (.int .i64 0)
        generalize ((((wc.setCell ⟨w.heap.size + 1, 0, none⟩ (.slice C M2.length x)).setCell ⟨w.heap.size + 1, 1, none⟩ (.int .i64 fo)).setCell ⟨w.heap.size + 1, 2, none⟩ (.int .i64 (m + 1))).setCell ⟨w.heap.size + 1, 3, none⟩ (.slice none 0 0)).setCell ⟨w.heap.size + 1, 4, none⟩ (.int .i64 0) = w9 at r1 r2 r3 ⊢
        have y0 := r1.cell (i := 0) rfl
        have y1 := r1.cell (i := 1) rfl
        have y2 := r1.cell (i := 2) rfl
        have y3 := r1.cell (i := 3) rfl
        have y4 := r1.cell (i := 4) rfl
        exact bodyPost_ret (v := .agg #[.slice C M2.length x, .int .i64 fo, .int .i64 (m + 1), .slice none 0 0, .int .i64 0]) (by simp [results, Tryz.results42, go_sem, y0, y1, y2, y3, y4]) rfl ⟨C, x, rfl, r2.base (by omega), r3⟩
    · have dcd : (cd != 0) = true := by simpa using hcd
      have dce : (cd == 0) = false := by simpa using hcd
      obtain ⟨rfl, rfl, rfl, rfl⟩ := hbad hcd
      clear hcd hbad hno hyb hyg
      have t0 := hQ9.cell (i := 0) rfl; have t1 := hQ9.cell (i := 1) rfl; have t2 := hQ9.cell (i := 2) rfl; have t3 := hQ9.cell (i := 3) rfl; have t4 := hQ9.cell (i := 4) rfl; have ft0 := hQ9.froz 0; have ft1 := hQ9.froz 1; have ft2 := hQ9.froz 2; have ft3 := hQ9.froz 3; have ft4 := hQ9.froz 4; 
      go_wp2
      have r1 := ((((hQ9.put 0 (.slice none 0 0)).put 1 (.int .i64 0)).put 2 (.int .i64 0)).put 3 (.slice none 0 0)).put 4 (.int .i64 co)
      have r3 := ((((hb9.setCell (p := ⟨w.heap.size + 1, 0, none⟩) (by simp) (.slice none 0 0)).setCell (p := ⟨w.heap.size + 1, 1, none⟩) (by simp) (.int .i64 0)).setCell (p := ⟨w.heap.size + 1, 2, none⟩) (by simp) (.int .i64 0)).setCell (p := ⟨w.heap.size + 1, 3, none⟩) (by simp) (.slice none 0 0)).setCell (p := ⟨w.heap.size + 1, 4, none⟩) (by simp) (.int .i64 co)
      generalize ((((wc.setCell ⟨w.heap.size + 1, 0, none⟩ (.slice none 0 0)).setCell ⟨w.heap.size + 1, 1, none⟩ (.int .i64 0)).setCell ⟨w.heap.size + 1, 2, none⟩ (.int .i64 0)).setCell ⟨w.heap.size + 1, 3, none⟩ (.slice none 0 0)).setCell ⟨w.heap.size + 1, 4, none⟩ (.int .i64 co) = w9 at r1 r3 ⊢
      have y0 := r1.cell (i := 0) rfl
      have y1 := r1.cell (i := 1) rfl
      have y2 := r1.cell (i := 2) rfl
      have y3 := r1.cell (i := 3) rfl
      have y4 := r1.cell (i := 4) rfl
      exact bodyPost_ret (v := .agg #[.slice none 0 0, .int .i64 0, .int .i64 0, .slice none 0 0, .int .i64 co]) (by simp [results, Tryz.results42, go_sem, y0, y1, y2, y3, y4]) rfl ⟨none, 0, rfl, ownF_nil _ _, r3⟩
end Go.Proofs.YtebkblmejkkhfaaGreatDoor
namespace Go.Proofs.YtebkblmejkkhfaaGreatDoor
open Go.RowKit
set_option linter.unusedVariables false
set_option linter.unusedSimpArgs false
set_option maxRecDepth 1000000

set_option maxHeartbeats 4000000 in
theorem specAdd_long (A : Option Addr) (L : List Fil) (c : Nat) (f m : Int) (t : ByteArray) (w : World) (hL : Fls w w.heap.size A L) (hfw : (Lit.int .i64 f).wf = true) (hmw : (Lit.int .i64 m).wf = true) (ht : t.size ≤ maxLen) (hlong : 20000 < t.size) :
    Calls Tryz.prog 40 #[segV (.slice A L.length c) f m, .string t] w fun e w' => ∃ (C : Option Addr) (x : Nat), e = .returned (slOut (.slice C ([] : List Fil).length x) 0 0 (.slice none 0 0) 2) ∧ OwnF w' w.heap.size (.slice C ([] : List Fil).length x) [] ∧ Below w.heap.size w w' := by
  have hb0 : Below w.heap.size w ((w.alloc (.cells #[.slice A L.length c, .int .i64 f, .int .i64 m] 61)).alloc (.cells #[.slice none 0 0, .int .i64 0, .int .i64 0, .slice none 0 0, .int .i64 0] 63)) := ((Below.refl _ _).alloc (Nat.le_refl _) _).alloc (by simp) _
  have k0 := (Blk.fresh w 61 [.slice A L.length c, .int .i64 f, .int .i64 m]).alloc (.cells #[.slice none 0 0, .int .i64 0, .int .i64 0, .slice none 0 0, .int .i64 0] 63)
  have k1 := Blk.fresh (w.alloc (.cells #[.slice A L.length c, .int .i64 f, .int .i64 m] 61)) 63 [.slice none 0 0, .int .i64 0, .int .i64 0, .slice none 0 0, .int .i64 0]
  simp only [List.toArray, World.size_alloc] at k0 k1
  have htn := ht
  unfold maxLen at htn
  have hl' : (20000 : Int) < (t.size : Int) := by omega
  clear hfw hmw
  go_enter Tryz.func40, Tryz.ntmps40
  go_wp2_with (fail)
  refine (l05Ill_any 2 _).mono ?_
  rintro e w6 ⟨rfl, hb6⟩
  have hQ6 := k1.below hb6 k1.lt
  have hw6 := hb0.trans (hb6.mono hb0.size)
  have t0 := hQ6.cell (i := 0) rfl; have t1 := hQ6.cell (i := 1) rfl; have t2 := hQ6.cell (i := 2) rfl; have t3 := hQ6.cell (i := 3) rfl; have t4 := hQ6.cell (i := 4) rfl; have ft0 := hQ6.froz 0; have ft1 := hQ6.froz 1; have ft2 := hQ6.froz 2; have ft3 := hQ6.froz 3; have ft4 := hQ6.froz 4; 
  go_wp2
  have r1 := ((((hQ6.put 0 (.slice none 0 0)).put 1 (.int .i64 0)).put 2 (.int .i64 0)).put 3 (.slice none 0 0)).put 4 (.int .i64 2)
  have r3 := ((((hw6.setCell (p := ⟨w.heap.size + 1, 0, none⟩) (by simp) (.slice none 0 0)).setCell (p := ⟨w.heap.size + 1, 1, none⟩) (by simp) (.int .i64 0)).setCell (p := ⟨w.heap.size + 1, 2, none⟩) (by simp) (.int .i64 0)).setCell (p := ⟨w.heap.size + 1, 3, none⟩) (by simp) (.slice none 0 0)).setCell (p := ⟨w.heap.size + 1, 4, none⟩) (by simp) (.int .i64 2)
  generalize ((((w6.setCell ⟨w.heap.size + 1, 0, none⟩ (.slice none 0 0)).setCell ⟨w.heap.size + 1, 1, none⟩ (.int .i64 0)).setCell ⟨w.heap.size + 1, 2, none⟩ (.int .i64 0)).setCell ⟨w.heap.size + 1, 3, none⟩ (.slice none 0 0)).setCell ⟨w.heap.size + 1, 4, none⟩ (.int .i64 2) = w9 at r1 r3 ⊢
  have y0 := r1.cell (i := 0) rfl
  have y1 := r1.cell (i := 1) rfl
  have y2 := r1.cell (i := 2) rfl
  have y3 := r1.cell (i := 3) rfl
  have y4 := r1.cell (i := 4) rfl
  exact bodyPost_ret (v := .agg #[.slice none 0 0, .int .i64 0, .int .i64 0, .slice none 0 0, .int .i64 2]) (by simp [results, Tryz.results40, go_sem, y0, y1, y2, y3, y4]) rfl ⟨none, 0, rfl, ownF_nil _ _, r3⟩
set_option maxHeartbeats 4000000 in
theorem specAdd_bad (A : Option Addr) (L : List Fil) (c : Nat) (f m : Int) (t : ByteArray) (w : World) (hL : Fls w w.heap.size A L) (hfw : (Lit.int .i64 f).wf = true) (hmw : (Lit.int .i64 m).wf = true) (ht : t.size ≤ maxLen) (hlong : ¬ 20000 < t.size) (hbad : logB L f m = false ∨ 300 < t.size) :
    Calls Tryz.prog 40 #[segV (.slice A L.length c) f m, .string t] w fun e w' => ∃ (C : Option Addr) (x : Nat), e = .returned (slOut (.slice C ([] : List Fil).length x) 0 0 (.slice none 0 0) 1) ∧ OwnF w' w.heap.size (.slice C ([] : List Fil).length x) [] ∧ Below w.heap.size w w' := by
  have hb0 : Below w.heap.size w ((w.alloc (.cells #[.slice A L.length c, .int .i64 f, .int .i64 m] 61)).alloc (.cells #[.slice none 0 0, .int .i64 0, .int .i64 0, .slice none 0 0, .int .i64 0] 63)) := ((Below.refl _ _).alloc (Nat.le_refl _) _).alloc (by simp) _
  have k0 := (Blk.fresh w 61 [.slice A L.length c, .int .i64 f, .int .i64 m]).alloc (.cells #[.slice none 0 0, .int .i64 0, .int .i64 0, .slice none 0 0, .int .i64 0] 63)
  have k1 := Blk.fresh (w.alloc (.cells #[.slice A L.length c, .int .i64 f, .int .i64 m] 61)) 63 [.slice none 0 0, .int .i64 0, .int .i64 0, .slice none 0 0, .int .i64 0]
  simp only [List.toArray, World.size_alloc] at k0 k1
  have htn := ht
  unfold maxLen at htn
  have HRH := Lib.hid (specSeglogRight_any A L c f m _ ((hL.below hb0 (Nat.le_refl _)).mono hb0.size) hfw hmw)
  clear hfw hmw
  go_enter Tryz.func40, Tryz.ntmps40
  go_wp2_with (fail)
  refine HRH.out.mono ?_
  clear HRH
  generalize (w.alloc (.cells #[.slice A L.length c, .int .i64 f, .int .i64 m] 61)).alloc (.cells #[.slice none 0 0, .int .i64 0, .int .i64 0, .slice none 0 0, .int .i64 0] 63) = w1 at hb0 k0 k1 ⊢
  rintro e w2 ⟨rfl, hb2⟩
  have hP := k0.below hb2 k0.lt
  have hQ := k1.below hb2 k1.lt
  have hw2 := hb0.trans (hb2.mono hb0.size)
  clear k0 k1 hb0 hb2
  rcases Bool.eq_false_or_eq_true (logB L f m) with hB | hB
  · have h3 : 300 < t.size := by rcases hbad with h | h; (rw [h] at hB; cases hB); exact h
    rw [hB]
    clear hB hbad
    go_wp2_with (fail)
    refine (l05Ill_any 1 _).mono ?_
    rintro e w6 ⟨rfl, hb6⟩
    have hQ6 := hQ.below hb6 hQ.lt
    have hw6 := hw2.trans (hb6.mono hw2.size)
    have t0 := hQ6.cell (i := 0) rfl; have t1 := hQ6.cell (i := 1) rfl; have t2 := hQ6.cell (i := 2) rfl; have t3 := hQ6.cell (i := 3) rfl; have t4 := hQ6.cell (i := 4) rfl; have ft0 := hQ6.froz 0; have ft1 := hQ6.froz 1; have ft2 := hQ6.froz 2; have ft3 := hQ6.froz 3; have ft4 := hQ6.froz 4; 
    go_wp2
    have r1 := ((((hQ6.put 0 (.slice none 0 0)).put 1 (.int .i64 0)).put 2 (.int .i64 0)).put 3 (.slice none 0 0)).put 4 (.int .i64 1)
    have r3 := ((((hw6.setCell (p := ⟨w.heap.size + 1, 0, none⟩) (by simp) (.slice none 0 0)).setCell (p := ⟨w.heap.size + 1, 1, none⟩) (by simp) (.int .i64 0)).setCell (p := ⟨w.heap.size + 1, 2, none⟩) (by simp) (.int .i64 0)).setCell (p := ⟨w.heap.size + 1, 3, none⟩) (by simp) (.slice none 0 0)).setCell (p := ⟨w.heap.size + 1, 4, none⟩) (by simp) (.int .i64 1)
    generalize ((((w6.setCell ⟨w.heap.size + 1, 0, none⟩ (.slice none 0 0)).setCell ⟨w.heap.size + 1, 1, none⟩ (.int .i64 0)).setCell ⟨w.heap.size + 1, 2, none⟩ (.int .i64 0)).setCell ⟨w.heap.size + 1, 3, none⟩ (.slice none 0 0)).setCell ⟨w.heap.size + 1, 4, none⟩ (.int .i64 1) = w9 at r1 r3 ⊢
    have y0 := r1.cell (i := 0) rfl
    have y1 := r1.cell (i := 1) rfl
    have y2 := r1.cell (i := 2) rfl
    have y3 := r1.cell (i := 3) rfl
    have y4 := r1.cell (i := 4) rfl
    exact bodyPost_ret (v := .agg #[.slice none 0 0, .int .i64 0, .int .i64 0, .slice none 0 0, .int .i64 1]) (by simp [results, Tryz.results40, go_sem, y0, y1, y2, y3, y4]) rfl ⟨none, 0, rfl, ownF_nil _ _, r3⟩
  · rw [hB]
    clear hB hbad
    go_wp2_with (fail)
    refine (l05Ill_any 1 _).mono ?_
    rintro e w6 ⟨rfl, hb6⟩
    have hQ6 := hQ.below hb6 hQ.lt
    have hw6 := hw2.trans (hb6.mono hw2.size)
    have t0 := hQ6.cell (i := 0) rfl; have t1 := hQ6.cell (i := 1) rfl; have t2 := hQ6.cell (i := 2) rfl; have t3 := hQ6.cell (i := 3) rfl; have t4 := hQ6.cell (i := 4) rfl; have ft0 := hQ6.froz 0; have ft1 := hQ6.froz 1; have ft2 := hQ6.froz 2; have ft3 := hQ6.froz 3; have ft4 := hQ6.froz 4; 
    go_wp2
    have r1 := ((((hQ6.put 0 (.slice none 0 0)).put 1 (.int .i64 0)).put 2 (.int .i64 0)).put 3 (.slice none 0 0)).put 4 (.int .i64 1)
    have r3 := ((((hw6.setCell (p := ⟨w.heap.size + 1, 0, none⟩) (by simp) (.slice none 0 0)).setCell (p := ⟨w.heap.size + 1, 1, none⟩) (by simp) (.int .i64 0)).setCell (p := ⟨w.heap.size + 1, 2, none⟩) (by simp) (.int .i64 0)).setCell (p := ⟨w.heap.size + 1, 3, none⟩) (by simp) (.slice none 0 0)).setCell (p := ⟨w.heap.size + 1, 4, none⟩) (by simp) (.int .i64 1)
    generalize ((((w6.setCell ⟨w.heap.size + 1, 0, none⟩ (.slice none 0 0)).setCell ⟨w.heap.size + 1, 1, none⟩ (.int .i64 0)).setCell ⟨w.heap.size + 1, 2, none⟩ (.int .i64 0)).setCell ⟨w.heap.size + 1, 3, none⟩ (.slice none 0 0)).setCell ⟨w.heap.size + 1, 4, none⟩ (.int .i64 1) = w9 at r1 r3 ⊢
    have y0 := r1.cell (i := 0) rfl
    have y1 := r1.cell (i := 1) rfl
    have y2 := r1.cell (i := 2) rfl
    have y3 := r1.cell (i := 3) rfl
    have y4 := r1.cell (i := 4) rfl
    exact bodyPost_ret (v := .agg #[.slice none 0 0, .int .i64 0, .int .i64 0, .slice none 0 0, .int .i64 1]) (by simp [results, Tryz.results40, go_sem, y0, y1, y2, y3, y4]) rfl ⟨none, 0, rfl, ownF_nil _ _, r3⟩
set_option maxHeartbeats 4000000 in
theorem specAdd_full (A : Option Addr) (L : List Fil) (c : Nat) (f m : Int) (t : ByteArray) (w : World) (hL : Fls w w.heap.size A L) (hfw : (Lit.int .i64 f).wf = true) (hmw : (Lit.int .i64 m).wf = true) (ht : t.size ≤ maxLen) (hlog : logB L f m = true) (h3 : t.size ≤ 300) (hfull : m = 60 ∨ f + m = 900000) :
    Calls Tryz.prog 40 #[segV (.slice A L.length c) f m, .string t] w fun e w' => ∃ (C : Option Addr) (x : Nat), e = .returned (slOut (.slice C ([] : List Fil).length x) 0 0 (.slice none 0 0) 9) ∧ OwnF w' w.heap.size (.slice C ([] : List Fil).length x) [] ∧ Below w.heap.size w w' := by
  have hb0 : Below w.heap.size w ((w.alloc (.cells #[.slice A L.length c, .int .i64 f, .int .i64 m] 61)).alloc (.cells #[.slice none 0 0, .int .i64 0, .int .i64 0, .slice none 0 0, .int .i64 0] 63)) := ((Below.refl _ _).alloc (Nat.le_refl _) _).alloc (by simp) _
  have k0 := (Blk.fresh w 61 [.slice A L.length c, .int .i64 f, .int .i64 m]).alloc (.cells #[.slice none 0 0, .int .i64 0, .int .i64 0, .slice none 0 0, .int .i64 0] 63)
  have k1 := Blk.fresh (w.alloc (.cells #[.slice A L.length c, .int .i64 f, .int .i64 m] 61)) 63 [.slice none 0 0, .int .i64 0, .int .i64 0, .slice none 0 0, .int .i64 0]
  simp only [List.toArray, World.size_alloc] at k0 k1
  have htn := ht
  unfold maxLen at htn
  have HRH := Lib.hid (specSeglogRight_any A L c f m _ ((hL.below hb0 (Nat.le_refl _)).mono hb0.size) hfw hmw)
  obtain ⟨g1, g2, g3, g4, g5, g6, g7⟩ := logB_nums hlog
  rw [hlog] at HRH
  clear hfw hmw hlog g6
  go_enter Tryz.func40, Tryz.ntmps40
  go_wp2_with (fail)
  refine HRH.out.mono ?_
  clear HRH
  generalize (w.alloc (.cells #[.slice A L.length c, .int .i64 f, .int .i64 m] 61)).alloc (.cells #[.slice none 0 0, .int .i64 0, .int .i64 0, .slice none 0 0, .int .i64 0] 63) = w1 at hb0 k0 k1 ⊢
  rintro e w2 ⟨rfl, hb2⟩
  have hP := k0.below hb2 k0.lt
  have hQ := k1.below hb2 k1.lt
  have hw2 := hb0.trans (hb2.mono hb0.size)
  clear k0 k1 hb0 hb2
  have c1 := hP.cell (i := 1) rfl
  have c2 := hP.cell (i := 2) rfl
  by_cases h6 : m = 60
  · have d6 : (m == 60) = true := by simp [h6]
    have h60 : 60 ≤ m := by omega
    clear h6 hfull
    go_wp2_with (fail)
    refine (l05Ill_any 9 _).mono ?_
    rintro e w6 ⟨rfl, hb6⟩
    have hQ6 := hQ.below hb6 hQ.lt
    have hw6 := hw2.trans (hb6.mono hw2.size)
    have t0 := hQ6.cell (i := 0) rfl; have t1 := hQ6.cell (i := 1) rfl; have t2 := hQ6.cell (i := 2) rfl; have t3 := hQ6.cell (i := 3) rfl; have t4 := hQ6.cell (i := 4) rfl; have ft0 := hQ6.froz 0; have ft1 := hQ6.froz 1; have ft2 := hQ6.froz 2; have ft3 := hQ6.froz 3; have ft4 := hQ6.froz 4; 
    go_wp2
    have r1 := ((((hQ6.put 0 (.slice none 0 0)).put 1 (.int .i64 0)).put 2 (.int .i64 0)).put 3 (.slice none 0 0)).put 4 (.int .i64 9)
    have r3 := ((((hw6.setCell (p := ⟨w.heap.size + 1, 0, none⟩) (by simp) (.slice none 0 0)).setCell (p := ⟨w.heap.size + 1, 1, none⟩) (by simp) (.int .i64 0)).setCell (p := ⟨w.heap.size + 1, 2, none⟩) (by simp) (.int .i64 0)).setCell (p := ⟨w.heap.size + 1, 3, none⟩) (by simp) (.slice none 0 0)).setCell (p := ⟨w.heap.size + 1, 4, none⟩) (by simp) (.int .i64 9)
    generalize ((((w6.setCell ⟨w.heap.size + 1, 0, none⟩ (.slice none 0 0)).setCell ⟨w.heap.size + 1, 1, none⟩ (.int .i64 0)).setCell ⟨w.heap.size + 1, 2, none⟩ (.int .i64 0)).setCell ⟨w.heap.size + 1, 3, none⟩ (.slice none 0 0)).setCell ⟨w.heap.size + 1, 4, none⟩ (.int .i64 9) = w9 at r1 r3 ⊢
    have y0 := r1.cell (i := 0) rfl
    have y1 := r1.cell (i := 1) rfl
    have y2 := r1.cell (i := 2) rfl
    have y3 := r1.cell (i := 3) rfl
    have y4 := r1.cell (i := 4) rfl
    exact bodyPost_ret (v := .agg #[.slice none 0 0, .int .i64 0, .int .i64 0, .slice none 0 0, .int .i64 9]) (by simp [results, Tryz.results40, go_sem, y0, y1, y2, y3, y4]) rfl ⟨none, 0, rfl, ownF_nil _ _, r3⟩
  · have d6 : (m == 60) = false := by simpa using h6
    have d7 : (f + m == 900000) = true := by simp; omega
    have h70 : 900000 ≤ f + m := by omega
    have h60 : ¬ 60 ≤ m := by omega
    clear h6 hfull
    go_wp2_with (fail)
    refine (l05Ill_any 9 _).mono ?_
    rintro e w6 ⟨rfl, hb6⟩
    have hQ6 := hQ.below hb6 hQ.lt
    have hw6 := hw2.trans (hb6.mono hw2.size)
    have t0 := hQ6.cell (i := 0) rfl; have t1 := hQ6.cell (i := 1) rfl; have t2 := hQ6.cell (i := 2) rfl; have t3 := hQ6.cell (i := 3) rfl; have t4 := hQ6.cell (i := 4) rfl; have ft0 := hQ6.froz 0; have ft1 := hQ6.froz 1; have ft2 := hQ6.froz 2; have ft3 := hQ6.froz 3; have ft4 := hQ6.froz 4; 
    go_wp2
    have r1 := ((((hQ6.put 0 (.slice none 0 0)).put 1 (.int .i64 0)).put 2 (.int .i64 0)).put 3 (.slice none 0 0)).put 4 (.int .i64 9)
    have r3 := ((((hw6.setCell (p := ⟨w.heap.size + 1, 0, none⟩) (by simp) (.slice none 0 0)).setCell (p := ⟨w.heap.size + 1, 1, none⟩) (by simp) (.int .i64 0)).setCell (p := ⟨w.heap.size + 1, 2, none⟩) (by simp) (.int .i64 0)).setCell (p := ⟨w.heap.size + 1, 3, none⟩) (by simp) (.slice none 0 0)).setCell (p := ⟨w.heap.size + 1, 4, none⟩) (by simp) (.int .i64 9)
    generalize ((((w6.setCell ⟨w.heap.size + 1, 0, none⟩ (.slice none 0 0)).setCell ⟨w.heap.size + 1, 1, none⟩ (.int .i64 0)).setCell ⟨w.heap.size + 1, 2, none⟩ (.int .i64 0)).setCell ⟨w.heap.size + 1, 3, none⟩ (.slice none 0 0)).setCell ⟨w.heap.size + 1, 4, none⟩ (.int .i64 9) = w9 at r1 r3 ⊢
    have y0 := r1.cell (i := 0) rfl
    have y1 := r1.cell (i := 1) rfl
    have y2 := r1.cell (i := 2) rfl
    have y3 := r1.cell (i := 3) rfl
    have y4 := r1.cell (i := 4) rfl
    exact bodyPost_ret (v := .agg #[.slice none 0 0, .int .i64 0, .int .i64 0, .slice none 0 0, .int .i64 9]) (by simp [results, Tryz.results40, go_sem, y0, y1, y2, y3, y4]) rfl ⟨none, 0, rfl, ownF_nil _ _, r3⟩
set_option maxHeartbeats 4000000 in
theorem implAdd_long (A : Option Addr) (L : List Fil) (c : Nat) (f m : Int) (t : ByteArray) (w : World) (hL : Fls w w.heap.size A L) (hfw : (Lit.int .i64 f).wf = true) (hmw : (Lit.int .i64 m).wf = true) (ht : t.size ≤ maxLen) (hlong : 20000 < t.size) (hPw : Pow w) (hHd : Handle w) (hSg : Seg w) :
    Calls Tryz.prog 42 #[segV (.slice A L.length c) f m, .string t] w fun e w' => ∃ (C : Option Addr) (x : Nat), e = .returned (slOut (.slice C ([] : List Fil).length x) 0 0 (.slice none 0 0) 2) ∧ OwnF w' w.heap.size (.slice C ([] : List Fil).length x) [] ∧ Below w.heap.size w w' := by
  have hb0 : Below w.heap.size w ((w.alloc (.cells #[.slice A L.length c, .int .i64 f, .int .i64 m] 61)).alloc (.cells #[.slice none 0 0, .int .i64 0, .int .i64 0, .slice none 0 0, .int .i64 0] 63)) := ((Below.refl _ _).alloc (Nat.le_refl _) _).alloc (by simp) _
  have k0 := (Blk.fresh w 61 [.slice A L.length c, .int .i64 f, .int .i64 m]).alloc (.cells #[.slice none 0 0, .int .i64 0, .int .i64 0, .slice none 0 0, .int .i64 0] 63)
  have k1 := Blk.fresh (w.alloc (.cells #[.slice A L.length c, .int .i64 f, .int .i64 m] 61)) 63 [.slice none 0 0, .int .i64 0, .int .i64 0, .slice none 0 0, .int .i64 0]
  simp only [List.toArray, World.size_alloc] at k0 k1
  have htn := ht
  unfold maxLen at htn
  have TLH := Lib.hid (tooLong_any t ((w.alloc (.cells #[.slice A L.length c, .int .i64 f, .int .i64 m] 61)).alloc (.cells #[.slice none 0 0, .int .i64 0, .int .i64 0, .slice none 0 0, .int .i64 0] 63)) ht)
  have hl' : (20000 : Int) < (t.size : Int) := by omega
  clear hfw hmw
  go_enter Tryz.func42, Tryz.ntmps42
  have htl : decide (20000 < t.size) = true := by simp; omega
  go_wp2_with (fail)
  refine TLH.out.mono ?_
  rintro e w' ⟨rfl, rfl⟩
  rw [htl]
  clear TLH htl
  generalize (w.alloc (.cells #[.slice A L.length c, .int .i64 f, .int .i64 m] 61)).alloc (.cells #[.slice none 0 0, .int .i64 0, .int .i64 0, .slice none 0 0, .int .i64 0] 63) = w1 at hb0 k0 k1 ⊢
  have t0 := k1.cell (i := 0) rfl; have t1 := k1.cell (i := 1) rfl; have t2 := k1.cell (i := 2) rfl; have t3 := k1.cell (i := 3) rfl; have t4 := k1.cell (i := 4) rfl; have ft0 := k1.froz 0; have ft1 := k1.froz 1; have ft2 := k1.froz 2; have ft3 := k1.froz 3; have ft4 := k1.froz 4; 
  go_wp2
  have r1 := ((((k1.put 0 (.slice none 0 0)).put 1 (.int .i64 0)).put 2 (.int .i64 0)).put 3 (.slice none 0 0)).put 4 (.int .i64 2)
  have r3 := ((((hb0.setCell (p := ⟨w.heap.size + 1, 0, none⟩) (by simp) (.slice none 0 0)).setCell (p := ⟨w.heap.size + 1, 1, none⟩) (by simp) (.int .i64 0)).setCell (p := ⟨w.heap.size + 1, 2, none⟩) (by simp) (.int .i64 0)).setCell (p := ⟨w.heap.size + 1, 3, none⟩) (by simp) (.slice none 0 0)).setCell (p := ⟨w.heap.size + 1, 4, none⟩) (by simp) (.int .i64 2)
  generalize ((((w1.setCell ⟨w.heap.size + 1, 0, none⟩ (.slice none 0 0)).setCell ⟨w.heap.size + 1, 1, none⟩ (.int .i64 0)).setCell ⟨w.heap.size + 1, 2, none⟩ (.int .i64 0)).setCell ⟨w.heap.size + 1, 3, none⟩ (.slice none 0 0)).setCell ⟨w.heap.size + 1, 4, none⟩ (.int .i64 2) = w9 at r1 r3 ⊢
  have y0 := r1.cell (i := 0) rfl
  have y1 := r1.cell (i := 1) rfl
  have y2 := r1.cell (i := 2) rfl
  have y3 := r1.cell (i := 3) rfl
  have y4 := r1.cell (i := 4) rfl
  exact bodyPost_ret (v := .agg #[.slice none 0 0, .int .i64 0, .int .i64 0, .slice none 0 0, .int .i64 2]) (by simp [results, Tryz.results42, go_sem, y0, y1, y2, y3, y4]) rfl ⟨none, 0, rfl, ownF_nil _ _, r3⟩
set_option maxHeartbeats 4000000 in
theorem implAdd_bad (A : Option Addr) (L : List Fil) (c : Nat) (f m : Int) (t : ByteArray) (w : World) (hL : Fls w w.heap.size A L) (hfw : (Lit.int .i64 f).wf = true) (hmw : (Lit.int .i64 m).wf = true) (ht : t.size ≤ maxLen) (hlong : ¬ 20000 < t.size) (hbad : logB L f m = false ∨ 300 < t.size) (hPw : Pow w) (hHd : Handle w) (hSg : Seg w) :
    Calls Tryz.prog 42 #[segV (.slice A L.length c) f m, .string t] w fun e w' => ∃ (C : Option Addr) (x : Nat), e = .returned (slOut (.slice C ([] : List Fil).length x) 0 0 (.slice none 0 0) 1) ∧ OwnF w' w.heap.size (.slice C ([] : List Fil).length x) [] ∧ Below w.heap.size w w' := by
  have hb0 : Below w.heap.size w ((w.alloc (.cells #[.slice A L.length c, .int .i64 f, .int .i64 m] 61)).alloc (.cells #[.slice none 0 0, .int .i64 0, .int .i64 0, .slice none 0 0, .int .i64 0] 63)) := ((Below.refl _ _).alloc (Nat.le_refl _) _).alloc (by simp) _
  have k0 := (Blk.fresh w 61 [.slice A L.length c, .int .i64 f, .int .i64 m]).alloc (.cells #[.slice none 0 0, .int .i64 0, .int .i64 0, .slice none 0 0, .int .i64 0] 63)
  have k1 := Blk.fresh (w.alloc (.cells #[.slice A L.length c, .int .i64 f, .int .i64 m] 61)) 63 [.slice none 0 0, .int .i64 0, .int .i64 0, .slice none 0 0, .int .i64 0]
  simp only [List.toArray, World.size_alloc] at k0 k1
  have htn := ht
  unfold maxLen at htn
  have TLH := Lib.hid (tooLong_any t ((w.alloc (.cells #[.slice A L.length c, .int .i64 f, .int .i64 m] 61)).alloc (.cells #[.slice none 0 0, .int .i64 0, .int .i64 0, .slice none 0 0, .int .i64 0] 63)) ht)
  have HRH := Lib.hid (implSeglogRight_any A L c f m _ ((hL.below hb0 (Nat.le_refl _)).mono hb0.size) hfw hmw (hPw.below hb0) (Handle.below hHd hb0) (hSg.below hb0))
  clear hfw hmw
  go_enter Tryz.func42, Tryz.ntmps42
  have htl : decide (20000 < t.size) = false := by simp; omega
  go_wp2_with (fail)
  refine TLH.out.mono ?_
  rintro e w' ⟨rfl, rfl⟩
  rw [htl]
  clear TLH htl
  go_wp2_with (fail)
  refine HRH.out.mono ?_
  clear HRH
  generalize (w.alloc (.cells #[.slice A L.length c, .int .i64 f, .int .i64 m] 61)).alloc (.cells #[.slice none 0 0, .int .i64 0, .int .i64 0, .slice none 0 0, .int .i64 0] 63) = w1 at hb0 k0 k1 ⊢
  rintro e w2 ⟨rfl, hb2⟩
  have hP := k0.below hb2 k0.lt
  have hQ := k1.below hb2 k1.lt
  have hw2 := hb0.trans (hb2.mono hb0.size)
  clear k0 k1 hb0 hb2
  rcases Bool.eq_false_or_eq_true (logB L f m) with hB | hB
  · have h3 : 300 < t.size := by rcases hbad with h | h; (rw [h] at hB; cases hB); exact h
    rw [hB]
    clear hB hbad
    have t0 := hQ.cell (i := 0) rfl; have t1 := hQ.cell (i := 1) rfl; have t2 := hQ.cell (i := 2) rfl; have t3 := hQ.cell (i := 3) rfl; have t4 := hQ.cell (i := 4) rfl; have ft0 := hQ.froz 0; have ft1 := hQ.froz 1; have ft2 := hQ.froz 2; have ft3 := hQ.froz 3; have ft4 := hQ.froz 4; 
    go_wp2
    have r1 := ((((hQ.put 0 (.slice none 0 0)).put 1 (.int .i64 0)).put 2 (.int .i64 0)).put 3 (.slice none 0 0)).put 4 (.int .i64 1)
    have r3 := ((((hw2.setCell (p := ⟨w.heap.size + 1, 0, none⟩) (by simp) (.slice none 0 0)).setCell (p := ⟨w.heap.size + 1, 1, none⟩) (by simp) (.int .i64 0)).setCell (p := ⟨w.heap.size + 1, 2, none⟩) (by simp) (.int .i64 0)).setCell (p := ⟨w.heap.size + 1, 3, none⟩) (by simp) (.slice none 0 0)).setCell (p := ⟨w.heap.size + 1, 4, none⟩) (by simp) (.int .i64 1)
    generalize ((((w2.setCell ⟨w.heap.size + 1, 0, none⟩ (.slice none 0 0)).setCell ⟨w.heap.size + 1, 1, none⟩ (.int .i64 0)).setCell ⟨w.heap.size + 1, 2, none⟩ (.int .i64 0)).setCell ⟨w.heap.size + 1, 3, none⟩ (.slice none 0 0)).setCell ⟨w.heap.size + 1, 4, none⟩ (.int .i64 1) = w9 at r1 r3 ⊢
    have y0 := r1.cell (i := 0) rfl
    have y1 := r1.cell (i := 1) rfl
    have y2 := r1.cell (i := 2) rfl
    have y3 := r1.cell (i := 3) rfl
    have y4 := r1.cell (i := 4) rfl
    exact bodyPost_ret (v := .agg #[.slice none 0 0, .int .i64 0, .int .i64 0, .slice none 0 0, .int .i64 1]) (by simp [results, Tryz.results42, go_sem, y0, y1, y2, y3, y4]) rfl ⟨none, 0, rfl, ownF_nil _ _, r3⟩
  · rw [hB]
    clear hB hbad
    have t0 := hQ.cell (i := 0) rfl; have t1 := hQ.cell (i := 1) rfl; have t2 := hQ.cell (i := 2) rfl; have t3 := hQ.cell (i := 3) rfl; have t4 := hQ.cell (i := 4) rfl; have ft0 := hQ.froz 0; have ft1 := hQ.froz 1; have ft2 := hQ.froz 2; have ft3 := hQ.froz 3; have ft4 := hQ.froz 4; 
    go_wp2
    have r1 := ((((hQ.put 0 (.slice none 0 0)).put 1 (.int .i64 0)).put 2 (.int .i64 0)).put 3 (.slice none 0 0)).put 4 (.int .i64 1)
    have r3 := ((((hw2.setCell (p := ⟨w.heap.size + 1, 0, none⟩) (by simp) (.slice none 0 0)).setCell (p := ⟨w.heap.size + 1, 1, none⟩) (by simp) (.int .i64 0)).setCell (p := ⟨w.heap.size + 1, 2, none⟩) (by simp) (.int .i64 0)).setCell (p := ⟨w.heap.size + 1, 3, none⟩) (by simp) (.slice none 0 0)).setCell (p := ⟨w.heap.size + 1, 4, none⟩) (by simp) (.int .i64 1)
    generalize ((((w2.setCell ⟨w.heap.size + 1, 0, none⟩ (.slice none 0 0)).setCell ⟨w.heap.size + 1, 1, none⟩ (.int .i64 0)).setCell ⟨w.heap.size + 1, 2, none⟩ (.int .i64 0)).setCell ⟨w.heap.size + 1, 3, none⟩ (.slice none 0 0)).setCell ⟨w.heap.size + 1, 4, none⟩ (.int .i64 1) = w9 at r1 r3 ⊢
    have y0 := r1.cell (i := 0) rfl
    have y1 := r1.cell (i := 1) rfl
    have y2 := r1.cell (i := 2) rfl
    have y3 := r1.cell (i := 3) rfl
    have y4 := r1.cell (i := 4) rfl
    exact bodyPost_ret (v := .agg #[.slice none 0 0, .int .i64 0, .int .i64 0, .slice none 0 0, .int .i64 1]) (by simp [results, Tryz.results42, go_sem, y0, y1, y2, y3, y4]) rfl ⟨none, 0, rfl, ownF_nil _ _, r3⟩
set_option maxHeartbeats 4000000 in
theorem implAdd_full (A : Option Addr) (L : List Fil) (c : Nat) (f m : Int) (t : ByteArray) (w : World) (hL : Fls w w.heap.size A L) (hfw : (Lit.int .i64 f).wf = true) (hmw : (Lit.int .i64 m).wf = true) (ht : t.size ≤ maxLen) (hlog : logB L f m = true) (h3 : t.size ≤ 300) (hfull : m = 60 ∨ f + m = 900000) (hPw : Pow w) (hHd : Handle w) (hSg : Seg w) :
    Calls Tryz.prog 42 #[segV (.slice A L.length c) f m, .string t] w fun e w' => ∃ (C : Option Addr) (x : Nat), e = .returned (slOut (.slice C ([] : List Fil).length x) 0 0 (.slice none 0 0) 9) ∧ OwnF w' w.heap.size (.slice C ([] : List Fil).length x) [] ∧ Below w.heap.size w w' := by
  have hb0 : Below w.heap.size w ((w.alloc (.cells #[.slice A L.length c, .int .i64 f, .int .i64 m] 61)).alloc (.cells #[.slice none 0 0, .int .i64 0, .int .i64 0, .slice none 0 0, .int .i64 0] 63)) := ((Below.refl _ _).alloc (Nat.le_refl _) _).alloc (by simp) _
  have k0 := (Blk.fresh w 61 [.slice A L.length c, .int .i64 f, .int .i64 m]).alloc (.cells #[.slice none 0 0, .int .i64 0, .int .i64 0, .slice none 0 0, .int .i64 0] 63)
  have k1 := Blk.fresh (w.alloc (.cells #[.slice A L.length c, .int .i64 f, .int .i64 m] 61)) 63 [.slice none 0 0, .int .i64 0, .int .i64 0, .slice none 0 0, .int .i64 0]
  simp only [List.toArray, World.size_alloc] at k0 k1
  have htn := ht
  unfold maxLen at htn
  have TLH := Lib.hid (tooLong_any t ((w.alloc (.cells #[.slice A L.length c, .int .i64 f, .int .i64 m] 61)).alloc (.cells #[.slice none 0 0, .int .i64 0, .int .i64 0, .slice none 0 0, .int .i64 0] 63)) ht)
  have HRH := Lib.hid (implSeglogRight_any A L c f m _ ((hL.below hb0 (Nat.le_refl _)).mono hb0.size) hfw hmw (hPw.below hb0) (Handle.below hHd hb0) (hSg.below hb0))
  obtain ⟨g1, g2, g3, g4, g5, g6, g7⟩ := logB_nums hlog
  rw [hlog] at HRH
  clear hfw hmw hlog g6
  go_enter Tryz.func42, Tryz.ntmps42
  have htl : decide (20000 < t.size) = false := by simp; omega
  go_wp2_with (fail)
  refine TLH.out.mono ?_
  rintro e w' ⟨rfl, rfl⟩
  rw [htl]
  clear TLH htl
  go_wp2_with (fail)
  refine HRH.out.mono ?_
  clear HRH
  generalize (w.alloc (.cells #[.slice A L.length c, .int .i64 f, .int .i64 m] 61)).alloc (.cells #[.slice none 0 0, .int .i64 0, .int .i64 0, .slice none 0 0, .int .i64 0] 63) = w1 at hb0 k0 k1 ⊢
  rintro e w2 ⟨rfl, hb2⟩
  have hP := k0.below hb2 k0.lt
  have hQ := k1.below hb2 k1.lt
  have hw2 := hb0.trans (hb2.mono hb0.size)
  clear k0 k1 hb0 hb2
  have c1 := hP.cell (i := 1) rfl
  have c2 := hP.cell (i := 2) rfl
  by_cases h6 : m = 60
  · have d6 : (m == 60) = true := by simp [h6]
    have h60 : 60 ≤ m := by omega
    clear h6 hfull
    have t0 := hQ.cell (i := 0) rfl; have t1 := hQ.cell (i := 1) rfl; have t2 := hQ.cell (i := 2) rfl; have t3 := hQ.cell (i := 3) rfl; have t4 := hQ.cell (i := 4) rfl; have ft0 := hQ.froz 0; have ft1 := hQ.froz 1; have ft2 := hQ.froz 2; have ft3 := hQ.froz 3; have ft4 := hQ.froz 4; 
    go_wp2
    have r1 := ((((hQ.put 0 (.slice none 0 0)).put 1 (.int .i64 0)).put 2 (.int .i64 0)).put 3 (.slice none 0 0)).put 4 (.int .i64 9)
    have r3 := ((((hw2.setCell (p := ⟨w.heap.size + 1, 0, none⟩) (by simp) (.slice none 0 0)).setCell (p := ⟨w.heap.size + 1, 1, none⟩) (by simp) (.int .i64 0)).setCell (p := ⟨w.heap.size + 1, 2, none⟩) (by simp) (.int .i64 0)).setCell (p := ⟨w.heap.size + 1, 3, none⟩) (by simp) (.slice none 0 0)).setCell (p := ⟨w.heap.size + 1, 4, none⟩) (by simp) (.int .i64 9)
    generalize ((((w2.setCell ⟨w.heap.size + 1, 0, none⟩ (.slice none 0 0)).setCell ⟨w.heap.size + 1, 1, none⟩ (.int .i64 0)).setCell ⟨w.heap.size + 1, 2, none⟩ (.int .i64 0)).setCell ⟨w.heap.size + 1, 3, none⟩ (.slice none 0 0)).setCell ⟨w.heap.size + 1, 4, none⟩ (.int .i64 9) = w9 at r1 r3 ⊢
    have y0 := r1.cell (i := 0) rfl
    have y1 := r1.cell (i := 1) rfl
    have y2 := r1.cell (i := 2) rfl
    have y3 := r1.cell (i := 3) rfl
    have y4 := r1.cell (i := 4) rfl
    exact bodyPost_ret (v := .agg #[.slice none 0 0, .int .i64 0, .int .i64 0, .slice none 0 0, .int .i64 9]) (by simp [results, Tryz.results42, go_sem, y0, y1, y2, y3, y4]) rfl ⟨none, 0, rfl, ownF_nil _ _, r3⟩
  · have d6 : (m == 60) = false := by simpa using h6
    have d7 : (f + m == 900000) = true := by simp; omega
    have h70 : 900000 ≤ f + m := by omega
    have h60 : ¬ 60 ≤ m := by omega
    clear h6 hfull
    have t0 := hQ.cell (i := 0) rfl; have t1 := hQ.cell (i := 1) rfl; have t2 := hQ.cell (i := 2) rfl; have t3 := hQ.cell (i := 3) rfl; have t4 := hQ.cell (i := 4) rfl; have ft0 := hQ.froz 0; have ft1 := hQ.froz 1; have ft2 := hQ.froz 2; have ft3 := hQ.froz 3; have ft4 := hQ.froz 4; 
    go_wp2
    have r1 := ((((hQ.put 0 (.slice none 0 0)).put 1 (.int .i64 0)).put 2 (.int .i64 0)).put 3 (.slice none 0 0)).put 4 (.int .i64 9)
    have r3 := ((((hw2.setCell (p := ⟨w.heap.size + 1, 0, none⟩) (by simp) (.slice none 0 0)).setCell (p := ⟨w.heap.size + 1, 1, none⟩) (by simp) (.int .i64 0)).setCell (p := ⟨w.heap.size + 1, 2, none⟩) (by simp) (.int .i64 0)).setCell (p := ⟨w.heap.size + 1, 3, none⟩) (by simp) (.slice none 0 0)).setCell (p := ⟨w.heap.size + 1, 4, none⟩) (by simp) (.int .i64 9)
    generalize ((((w2.setCell ⟨w.heap.size + 1, 0, none⟩ (.slice none 0 0)).setCell ⟨w.heap.size + 1, 1, none⟩ (.int .i64 0)).setCell ⟨w.heap.size + 1, 2, none⟩ (.int .i64 0)).setCell ⟨w.heap.size + 1, 3, none⟩ (.slice none 0 0)).setCell ⟨w.heap.size + 1, 4, none⟩ (.int .i64 9) = w9 at r1 r3 ⊢
    have y0 := r1.cell (i := 0) rfl
    have y1 := r1.cell (i := 1) rfl
    have y2 := r1.cell (i := 2) rfl
    have y3 := r1.cell (i := 3) rfl
    have y4 := r1.cell (i := 4) rfl
    exact bodyPost_ret (v := .agg #[.slice none 0 0, .int .i64 0, .int .i64 0, .slice none 0 0, .int .i64 9]) (by simp [results, Tryz.results42, go_sem, y0, y1, y2, y3, y4]) rfl ⟨none, 0, rfl, ownF_nil _ _, r3⟩
theorem last_name {L : List Fil} {f m : Int} (h : logB L f m = true) (hl : 0 < L.length) : (L[L.length - 1]'(by omega)).name = segN (f + m - m % 4) := by
  have h1 := logB_iff.1 h
  obtain ⟨g1, g2, g3, g4, g5, g6⟩ := numOK_iff.1 h1.2.1
  rw [(h1.2.2.2 (L.length - 1) (by omega)).1]
  congr 1
  have := h1.2.2.1
  omega
theorem segN_size (n : Int) : (segN n).size ≤ 7 := by
  unfold segN
  split
  · exact Nat.le_of_eq (segB_size _ (by omega))
  · show 0 ≤ 7; omega
theorem bothSeglogAdd (L : List Fil) (f m : Int) (t : ByteArray) (a0 a1 a2 a3 a4 : Addr) (hf : ∀ f ∈ L, f.fits) (hS : Small L) (hfw : (Lit.int .i64 f).wf = true) (hmw : (Lit.int .i64 m).wf = true) (ht : t.size ≤ maxLen) (ht2 : t.size ≤ 1048576) :
    ∃ (M : List Fil) (fo mo : Int) (N : List ByteArray) (co : Int), (∀ f ∈ M, f.fits) ∧ M.length ≤ 1048576 ∧ N.length ≤ 60 ∧ (∀ (A : Option Addr) (c : Nat) (W : World), Fls W W.heap.size A L → L.length ≤ c → c ≤ maxLen → Calls Tryz.prog 40 #[.agg #[.slice A L.length c, .int .i64 f, .int .i64 m], .string t] W fun e w' => ∃ (B : Option Addr) (d : Nat) (S : Option Addr) (y : Nat), e = .returned (.agg #[.slice B M.length d, .int .i64 fo, .int .i64 mo, .slice S N.length y, .int .i64 co]) ∧ OwnF w' W.heap.size (.slice B M.length d) M ∧ OwnS w' W.heap.size (.slice S N.length y) N ∧ Below W.heap.size W w') ∧
      (∀ (A : Option Addr) (c : Nat) (W : World), Fls W W.heap.size A L → L.length ≤ c → c ≤ maxLen → Pow W → Handle W → Errs W a0 a1 a2 a3 a4 → Seg W → Calls Tryz.prog 42 #[.agg #[.slice A L.length c, .int .i64 f, .int .i64 m], .string t] W fun e w' => ∃ (B : Option Addr) (d : Nat) (S : Option Addr) (y : Nat), e = .returned (.agg #[.slice B M.length d, .int .i64 fo, .int .i64 mo, .slice S N.length y, .int .i64 co]) ∧ OwnF w' W.heap.size (.slice B M.length d) M ∧ OwnS w' W.heap.size (.slice S N.length y) N ∧ Below W.heap.size W w') := by
  have up : ∀ {g : FuncId} {args : Array Value} {W : World} {M : List Fil} {fo mo co : Int}, (Calls Tryz.prog g args W fun e w' => ∃ (C : Option Addr) (x : Nat), e = .returned (slOut (.slice C M.length x) fo mo (.slice none 0 0) co) ∧ OwnF w' W.heap.size (.slice C M.length x) M ∧ Below W.heap.size W w') → Calls Tryz.prog g args W fun e w' => ∃ (B : Option Addr) (d : Nat) (S : Option Addr) (y : Nat), e = .returned (.agg #[.slice B M.length d, .int .i64 fo, .int .i64 mo, .slice S ([] : List ByteArray).length y, .int .i64 co]) ∧ OwnF w' W.heap.size (.slice B M.length d) M ∧ OwnS w' W.heap.size (.slice S ([] : List ByteArray).length y) [] ∧ Below W.heap.size W w' :=
    fun h => h.mono fun e w' ⟨C, x, he, h1, h2⟩ => ⟨C, x, none, 0, he, h1, World.ownsRow_nil _ _ _ _, h2⟩
  by_cases hlong : 20000 < t.size
  · exact ⟨[], 0, 0, [], 2, by simp, by simp, by simp, fun A c W h _ _ => up (specAdd_long A L c f m t W h hfw hmw ht hlong), fun A c W h _ _ hP hH hE hSg => up (implAdd_long A L c f m t W h hfw hmw ht hlong hP hH hSg)⟩
  by_cases hbad : logB L f m = false ∨ 300 < t.size
  · exact ⟨[], 0, 0, [], 1, by simp, by simp, by simp, fun A c W h _ _ => up (specAdd_bad A L c f m t W h hfw hmw ht hlong hbad), fun A c W h _ _ hP hH hE hSg => up (implAdd_bad A L c f m t W h hfw hmw ht hlong hbad hP hH hSg)⟩
  have hlog : logB L f m = true := by
    rcases Bool.eq_false_or_eq_true (logB L f m) with h | h
    · exact h
    · exact absurd (Or.inl h) hbad
  have h3 : t.size ≤ 300 := by
    rcases Nat.lt_or_ge 300 t.size with h | h
    · exact absurd (Or.inr h) hbad
    · exact h
  obtain ⟨g1, g2, g3, g4, g5, g6, g7⟩ := logB_nums hlog
  by_cases hfull : m = 60 ∨ f + m = 900000
  · exact ⟨[], 0, 0, [], 9, by simp, by simp, by simp, fun A c W h _ _ => up (specAdd_full A L c f m t W h hfw hmw ht hlog h3 hfull), fun A c W h _ _ hP hH hE hSg => up (implAdd_full A L c f m t W h hfw hmw ht hlog h3 hfull hP hH hSg)⟩
  have hl : 0 < L.length := by omega
  have hm : m < 60 := by omega
  have hfm : f + m < 900000 := by omega
  have hfr := frameS_size t (by omega)
  have hsz := segN_size (f + m - m % 4)
  have hsz2 := segN_size (f + (m + 1))
  have hsz2' := segN_size (f + m - m % 4 + 4)
  obtain ⟨M1, cd1, hM1, hM1l, ⟨hS1, hpos1⟩, hsp1, him1⟩ := fsAppend_bothN L (segN (f + m - m % 4)) (frameS t) a0 a1 a2 a3 a4 hf hS (by unfold maxLen; omega) (by unfold maxLen; omega) (by omega) (by omega)
  have hsome : ∀ {A : Option Addr} {W : World}, Fls W W.heap.size A L → ∃ a, A = some a := fun h => by
    obtain ⟨a, e, _⟩ := h.2 0 hl
    exact ⟨a, e⟩
  have capM : ∀ {W : World} {b x : Nat} {C : Option Addr} {M : List Fil}, OwnF W b (.slice C M.length x) M → 0 < M.length → ∃ a, C = some a ∧ M.length ≤ x ∧ x ≤ maxLen := fun h hp => by
    rcases h.1.2 with ⟨hv, h0⟩ | ⟨g, cap, cur, hv, _, _, h5, h6, _⟩
    · omega
    · cases hv; exact ⟨_, rfl, h5, h6⟩
  have hMl : ∀ {M : List Fil}, Small M → M.length ≤ 1048576 := fun h => h.1
  by_cases hcd : cd1 = 0
  · have hp1 := hpos1 hcd
    by_cases h4 : (m + 1) % 4 = 0
    · obtain ⟨M3, cd3, hM3, hM3l, ⟨hS3, hpos3⟩, hsp3, him3⟩ := fsAppend_bothN M1 (segN (f + (m + 1))) ⟨#[]⟩ a0 a1 a2 a3 a4 hM1 hS1 (by unfold maxLen; omega) (by show 0 ≤ maxLen; omega) (by omega) (by show 0 ≤ 1048576; omega)
      have hs2 : segN (f + m - m % 4 + 4) = segN (f + (m + 1)) := by congr 1; omega
      have key : ∃ (M2 : List Fil) (fo mo co : Int), (∀ f ∈ M2, f.fits) ∧ M2.length ≤ 1048576 ∧ (cd3 ≠ 0 → M2 = [] ∧ fo = 0 ∧ mo = 0 ∧ co = cd3) ∧ (cd3 = 0 → M2 = M3 ∧ fo = f ∧ mo = m + 1 ∧ co = 0) := by
        by_cases h : cd3 = 0
        · exact ⟨M3, f, m + 1, 0, hM3, hS3.1, fun h' => absurd h h', fun _ => ⟨rfl, rfl, rfl, rfl⟩⟩
        · exact ⟨[], 0, 0, cd3, by simp, by simp, fun _ => ⟨rfl, rfl, rfl, rfl⟩, fun h' => absurd h' h⟩
      obtain ⟨M2, fo, mo, co, hM2, hM2l, hb3, hg3⟩ := key
      refine ⟨M2, fo, mo, [], co, hM2, hM2l, by simp, fun A c W h hc hcm => up ?_, fun A c W h hc hcm hP hH hE hSg => up ?_⟩
      · obtain ⟨a, rfl⟩ := hsome h
        refine specAdd_ok a L c f m t _ W h hlog hfw hmw h3 hm hfm hl (last_name hlog hl) M1 cd1 (Lib.hid fun W' hb' => hsp1 W' a c ((h.below hb' (Nat.le_refl _)).mono hb'.size) hc hcm) M2 fo mo co (fun h' => absurd hcd h') (Lib.hid fun _ W' C x hO hz => ?_)
        obtain ⟨aC, rfl, hx1, hx2⟩ := capM hO hp1
        exact (roll_yes (some aC) M1.length x f (m + 1) _ W' (by omega) h4 (by omega) (by omega) (by omega) rfl M3 cd3 (Lib.hid fun W'' hb'' => hsp3 W'' aC x (((OwnF.fls hO).below hb'' (Nat.le_refl _)).mono hb''.size) hx1 hx2) M2 fo mo co hb3 hg3).mono fun e w' ⟨C', x', he, h1, h2⟩ => ⟨C', x', he, h1.base hz, h2⟩
      · obtain ⟨a, rfl⟩ := hsome h
        exact implAdd_ok a L c f m t _ _ W h hlog hfw hmw h3 hm hfm rfl hs2 M1 cd1 M3 cd3 hP hH hSg (Lib.hid fun W' hb' => him1 W' (some a) c ((h.below hb' (Nat.le_refl _)).mono hb'.size) (hE.below hb')) (Lib.hid fun W' C x hF hb' => him3 W' C x hF (hE.below hb')) M2 fo mo co (fun h' => absurd hcd h') (fun _ h' => absurd h4 h') (fun _ _ => hb3) (fun _ _ => hg3)
    · refine ⟨M1, f, m + 1, [], 0, hM1, hS1.1, by simp, fun A c W h hc hcm => up ?_, fun A c W h hc hcm hP hH hE hSg => up ?_⟩
      · obtain ⟨a, rfl⟩ := hsome h
        exact specAdd_ok a L c f m t _ W h hlog hfw hmw h3 hm hfm hl (last_name hlog hl) M1 cd1 (Lib.hid fun W' hb' => hsp1 W' a c ((h.below hb' (Nat.le_refl _)).mono hb'.size) hc hcm) M1 f (m + 1) 0 (fun h' => absurd hcd h') (Lib.hid fun _ W' C x hO hz => (roll_no C M1.length x f (m + 1) W' (by omega) h4).mono fun e w' ⟨he, h2⟩ => ⟨C, x, he, OwnF.below hO h2 (Nat.le_refl _), h2⟩)
      · obtain ⟨a, rfl⟩ := hsome h
        obtain ⟨M3, cd3, _, _, _, _, him3⟩ := fsAppend_bothN M1 (segN (f + m - m % 4 + 4)) ⟨#[]⟩ a0 a1 a2 a3 a4 hM1 hS1 (by unfold maxLen; omega) (by show 0 ≤ maxLen; omega) (by omega) (by show 0 ≤ 1048576; omega)
        exact implAdd_ok a L c f m t _ _ W h hlog hfw hmw h3 hm hfm rfl rfl M1 cd1 M3 cd3 hP hH hSg (Lib.hid fun W' hb' => him1 W' (some a) c ((h.below hb' (Nat.le_refl _)).mono hb'.size) (hE.below hb')) (Lib.hid fun W' C x hF hb' => him3 W' C x hF (hE.below hb')) M1 f (m + 1) 0 (fun h' => absurd hcd h') (fun _ _ => ⟨rfl, rfl, rfl, rfl⟩) (fun _ h' => absurd h' h4) (fun _ h' => absurd h' h4)
  · refine ⟨[], 0, 0, [], cd1, by simp, by simp, by simp, fun A c W h hc hcm => up ?_, fun A c W h hc hcm hP hH hE hSg => up ?_⟩
    · obtain ⟨a, rfl⟩ := hsome h
      exact specAdd_ok a L c f m t _ W h hlog hfw hmw h3 hm hfm hl (last_name hlog hl) M1 cd1 (Lib.hid fun W' hb' => hsp1 W' a c ((h.below hb' (Nat.le_refl _)).mono hb'.size) hc hcm) [] 0 0 cd1 (fun _ => ⟨rfl, rfl, rfl, rfl⟩) (Lib.hid fun h' => absurd h' hcd)
    · obtain ⟨a, rfl⟩ := hsome h
      obtain ⟨M3, cd3, _, _, _, _, him3⟩ := fsAppend_bothN M1 (segN (f + m - m % 4 + 4)) ⟨#[]⟩ a0 a1 a2 a3 a4 hM1 hS1 (by unfold maxLen; omega) (by show 0 ≤ maxLen; omega) (by omega) (by show 0 ≤ 1048576; omega)
      exact implAdd_ok a L c f m t _ _ W h hlog hfw hmw h3 hm hfm rfl rfl M1 cd1 M3 cd3 hP hH hSg (Lib.hid fun W' hb' => him1 W' (some a) c ((h.below hb' (Nat.le_refl _)).mono hb'.size) (hE.below hb')) (Lib.hid fun W' C x hF hb' => him3 W' C x hF (hE.below hb')) [] 0 0 cd1 (fun _ => ⟨rfl, rfl, rfl, rfl⟩) (fun h' => absurd h' hcd) (fun h' => absurd h' hcd) (fun h' => absurd h' hcd)
end Go.Proofs.YtebkblmejkkhfaaGreatDoor
namespace Go.Proofs.YtebkblmejkkhfaaGreatDoor
open Go.RowKit
set_option linter.unusedVariables false

set_option maxHeartbeats 8000000 in
set_option maxRecDepth 1000000 in
theorem lawSeglogAdd (A : Option Addr) (L : List Fil) (c : Nat) (f m : Int) (t : ByteArray) (w : World) (hL : Fls w w.heap.size A L) (hfw : (Lit.int .i64 f).wf = true) (hmw : (Lit.int .i64 m).wf = true) (ht : t.size ≤ maxLen) (hPow : Pow w) (hHandle : Handle w) {a0 a1 a2 a3 a4 : Addr} (hErrs : Errs w a0 a1 a2 a3 a4) (hSeg : Seg w) :
    Calls Tryz.prog 5 #[.agg #[.slice A L.length c, .int .i64 f, .int .i64 m], .string t] w fun e w' => e = .returned (.bool true) ∧ Below w.heap.size w w' := by
  have HL : Hid (∀ W, Below w.heap.size w W → Fls W W.heap.size A L) := Lib.hid fun W h => (hL.below h (Nat.le_refl _)).mono h.size
  have HPow : Hid (∀ W, Below w.heap.size w W → Pow W) := Lib.hid fun W h => hPow.below h
  have HHandle : Hid (∀ W, Below w.heap.size w W → Handle W) := Lib.hid fun W h => Handle.below hHandle h
  have HErrs : Hid (∀ W, Below w.heap.size w W → Errs W a0 a1 a2 a3 a4) := Lib.hid fun W h => hErrs.below h
  have HSeg : Hid (∀ W, Below w.heap.size w W → Seg W) := Lib.hid fun W h => hSeg.below h
  have hf : ∀ f ∈ L, f.fits := fun f h => by obtain ⟨i, hi, rfl⟩ := List.getElem_of_mem h; exact (hL.2 i hi).choose_spec.2.2.2.2.2
  have hB0 := Blk.fresh w 58 [.slice A L.length c, .int .i64 f, .int .i64 m]
  have hb0 : Below w.heap.size w (w.alloc (.cells #[.slice A L.length c, .int .i64 f, .int .i64 m] 58)) := (Below.refl _ _).alloc (Nat.le_refl _) _
  have hz0 : (w.alloc (.cells #[.slice A L.length c, .int .i64 f, .int .i64 m] 58)).heap.size = w.heap.size + 1 := by simp
  simp only [List.toArray] at hB0
  by_cases hbigt : 1048576 < t.size
  · have hbig' : (1048576 : Int) < (t.size : Int) := by omega
    have hmx := ht
    unfold maxLen at hmx
    go_enter Tryz.func5, Tryz.ntmps5
    go_wp2
    go_ret
    exact ⟨rfl, hb0⟩
  have hbigt' : ¬ (1048576 : Int) < (t.size : Int) := by omega
  go_enter Tryz.func5, Tryz.ntmps5
  have q0 := hB0.cell (i := 0) rfl
  have q1 := hB0.cell (i := 1) rfl
  have q2 := hB0.cell (i := 2) rfl
  go_wp2_with (fail)
  clear q0 q1 q2
  generalize w.alloc (.cells #[.slice A L.length c, .int .i64 f, .int .i64 m] 58) = v0 at hB0 hb0 hz0 ⊢
  refine (szSeglog_any A L c f m _ (HL.out _ hb0)).mono ?_
  rintro e v1 ⟨r, rfl, r0, r1, hS, hb1⟩
  have hz1 := hb1.size
  have hB1 := hB0.below hb1 (by omega)
  have hw1 := hb0.trans (hb1.mono (by omega))
  clear hB0
  by_cases hr : r < 0
  · go_wp2
    go_ret
    exact ⟨rfl, hw1⟩
  · have hS' := hS (by omega)
    have hn := hS'.1
    obtain ⟨M, fo, mo, N, co, hM, hMl, hNl, hsp, him⟩ := bothSeglogAdd L f m t a0 a1 a2 a3 a4 hf hS' hfw hmw ht (by omega)
    have Sp := Lib.hid hsp
    have Im := Lib.hid him
    clear hsp him
    obtain ⟨m1, Hm1⟩ : ∃ m, Hid (1 + 3 * L.length = m) := ⟨_, Lib.hid rfl⟩
    obtain ⟨m3, Hm3⟩ : ∃ m, Hid (1 + 3 * M.length + N.length = m) := ⟨_, Lib.hid rfl⟩
    have hm1 : 1 ≤ m1 ∧ m1 ≤ 3145729 := by have := Hm1.out; omega
    have hm3 : 1 ≤ m3 ∧ m3 ≤ 7000000 := by have := Hm3.out; omega
    have chB0 := hB1.cell (i := 0) rfl
    have chB1 := hB1.cell (i := 1) rfl
    have chB2 := hB1.cell (i := 2) rfl
    go_wp2_with (fail)
    refine (toSeglog_any A L c f m _ (HL.out _ hw1) hS').mono ?_
    rintro e v2 ⟨g2, d2, rfl, hF2, hb2⟩
    have hz2 := hb2.size
    have hB2 := hB1.below hb2 hB1.lt
    have hw2 := hw1.trans (hb2.mono hw1.size)
    clear hB1
    clear chB0 chB1 chB2
    have T2 := hF2.rw
    clear hF2
    go_wp2_with (fail)
    refine (Sp.out _ _ _ (T2.fls hf) (Rw.capL T2).1 (Rw.capL T2).2).mono ?_
    rintro e v3 ⟨A3, d3, B3, b3, rfl, hO3, hT3, hb3⟩
    have hz3 := hb3.size
    have hB3 := hB2.below hb3 hB2.lt
    have T3 := T2.below hb3
    have hw3 := hw2.trans (hb3.mono hw2.size)
    clear hB2 T2
    clear T3
    have RF3 := hO3.rw
    clear hO3
    have RS3 := Rw.of hT3
    clear hT3
    have hS_4 := Blk.fresh v3 63 [.slice A3 M.length d3, .int .i64 fo, .int .i64 mo, .slice B3 N.length b3, .int .i64 co]
    simp only [List.toArray] at hS_4
    have hb4 : Below v3.heap.size v3 (v3.alloc (.cells #[.slice A3 M.length d3, .int .i64 fo, .int .i64 mo, .slice B3 N.length b3, .int .i64 co] 63)) := (Below.refl _ _).alloc (Nat.le_refl _) _
    have hs4 : (v3.alloc (.cells #[.slice A3 M.length d3, .int .i64 fo, .int .i64 mo, .slice B3 N.length b3, .int .i64 co] 63)).heap.size = v3.heap.size + 1 := by simp
    have qhB0 := (hB3.below hb4 hB3.lt).cell (i := 0) rfl
    have qhB1 := (hB3.below hb4 hB3.lt).cell (i := 1) rfl
    have qhB2 := (hB3.below hb4 hB3.lt).cell (i := 2) rfl
    have qq0 := hS_4.cell (i := 0) rfl
    have qq1 := hS_4.cell (i := 1) rfl
    have qq2 := hS_4.cell (i := 2) rfl
    have qq3 := hS_4.cell (i := 3) rfl
    have qq4 := hS_4.cell (i := 4) rfl
    go_wp2_with (fail)
    clear qhB0 qhB1 qhB2 qq0 qq1 qq2 qq3 qq4
    generalize v3.alloc (.cells #[.slice A3 M.length d3, .int .i64 fo, .int .i64 mo, .slice B3 N.length b3, .int .i64 co] 63) = v4 at hS_4 hb4 hs4 ⊢
    have hz4 := hb4.size
    have hB4 := hB3.below hb4 hB3.lt
    have RF4 := RF3.below hb4
    have RS4 := RS3.below hb4
    have hw4 := hw3.trans (hb4.mono hw3.size)
    clear hB3 RF3 RS3
    have chB0 := hB4.cell (i := 0) rfl
    have chB1 := hB4.cell (i := 1) rfl
    have chB2 := hB4.cell (i := 2) rfl
    go_wp2_with (fail)
    refine (toSeglog_any A L c f m _ (HL.out _ hw4) hS').mono ?_
    rintro e v5 ⟨g5, d5, rfl, hF5, hb5⟩
    have hz5 := hb5.size
    have hB5 := hB4.below hb5 hB4.lt
    have hS_5 := hS_4.below hb5 hS_4.lt
    have RF5 := RF4.below hb5
    have RS5 := RS4.below hb5
    have hw5 := hw4.trans (hb5.mono hw4.size)
    clear hB4 hS_4 RF4 RS4
    clear chB0 chB1 chB2
    have X5 := hF5.rw
    clear hF5
    have hP6 := Blk.fresh v5 61 [.slice (some ⟨g5, 0, none⟩) L.length d5, .int .i64 f, .int .i64 m]
    simp only [List.toArray] at hP6
    have hb6 : Below v5.heap.size v5 (v5.alloc (.cells #[.slice (some ⟨g5, 0, none⟩) L.length d5, .int .i64 f, .int .i64 m] 61)) := (Below.refl _ _).alloc (Nat.le_refl _) _
    have hs6 : (v5.alloc (.cells #[.slice (some ⟨g5, 0, none⟩) L.length d5, .int .i64 f, .int .i64 m] 61)).heap.size = v5.heap.size + 1 := by simp
    have qq0 := hP6.cell (i := 0) rfl
    have qq1 := hP6.cell (i := 1) rfl
    have qq2 := hP6.cell (i := 2) rfl
    go_wp2_with (fail)
    clear qq0 qq1 qq2
    generalize v5.alloc (.cells #[.slice (some ⟨g5, 0, none⟩) L.length d5, .int .i64 f, .int .i64 m] 61) = v6 at hP6 hb6 hs6 ⊢
    have hz6 := hb6.size
    have hB6 := hB5.below hb6 hB5.lt
    have hS_6 := hS_5.below hb6 hS_5.lt
    have RF6 := RF5.below hb6
    have RS6 := RS5.below hb6
    have X6 := X5.below hb6
    have hw6 := hw5.trans (hb6.mono hw5.size)
    clear hB5 hS_5 RF5 RS5 X5
    have chP0 := hP6.cell (i := 0) rfl
    have chP1 := hP6.cell (i := 1) rfl
    have chP2 := hP6.cell (i := 2) rfl
    go_wp2_with (fail)
    refine (Im.out _ _ _ (X6.fls hf) (Rw.capL X6).1 (Rw.capL X6).2 (HPow.out _ hw6) (HHandle.out _ hw6) (HErrs.out _ hw6) (HSeg.out _ hw6)).mono ?_
    rintro e v7 ⟨A7, d7, B7, b7, rfl, hO7, hT7, hb7⟩
    have hz7 := hb7.size
    have hB7 := hB6.below hb7 hB6.lt
    have hS_7 := hS_6.below hb7 hS_6.lt
    have hP7 := hP6.below hb7 hP6.lt
    have RF7 := RF6.below hb7
    have RS7 := RS6.below hb7
    have X7 := X6.below hb7
    have hw7 := hw6.trans (hb7.mono hw6.size)
    clear hB6 hS_6 hP6 RF6 RS6 X6
    clear chP0 chP1 chP2
    have GF7 := hO7.rw
    clear hO7
    have GS7 := Rw.of hT7
    clear hT7
    have hQ8 := Blk.fresh v7 63 [.slice A7 M.length d7, .int .i64 fo, .int .i64 mo, .slice B7 N.length b7, .int .i64 co]
    simp only [List.toArray] at hQ8
    have hb8 : Below v7.heap.size v7 (v7.alloc (.cells #[.slice A7 M.length d7, .int .i64 fo, .int .i64 mo, .slice B7 N.length b7, .int .i64 co] 63)) := (Below.refl _ _).alloc (Nat.le_refl _) _
    have hs8 : (v7.alloc (.cells #[.slice A7 M.length d7, .int .i64 fo, .int .i64 mo, .slice B7 N.length b7, .int .i64 co] 63)).heap.size = v7.heap.size + 1 := by simp
    have qhS_0 := (hS_7.below hb8 hS_7.lt).cell (i := 0) rfl
    have qhS_1 := (hS_7.below hb8 hS_7.lt).cell (i := 1) rfl
    have qhS_2 := (hS_7.below hb8 hS_7.lt).cell (i := 2) rfl
    have qhS_3 := (hS_7.below hb8 hS_7.lt).cell (i := 3) rfl
    have qhS_4 := (hS_7.below hb8 hS_7.lt).cell (i := 4) rfl
    have qq0 := hQ8.cell (i := 0) rfl
    have qq1 := hQ8.cell (i := 1) rfl
    have qq2 := hQ8.cell (i := 2) rfl
    have qq3 := hQ8.cell (i := 3) rfl
    have qq4 := hQ8.cell (i := 4) rfl
    go_wp2_with (fail)
    clear qhS_0 qhS_1 qhS_2 qhS_3 qhS_4 qq0 qq1 qq2 qq3 qq4
    generalize v7.alloc (.cells #[.slice A7 M.length d7, .int .i64 fo, .int .i64 mo, .slice B7 N.length b7, .int .i64 co] 63) = v8 at hQ8 hb8 hs8 ⊢
    have hz8 := hb8.size
    have hB8 := hB7.below hb8 hB7.lt
    have hS_8 := hS_7.below hb8 hS_7.lt
    have hP8 := hP7.below hb8 hP7.lt
    have RF8 := RF7.below hb8
    have RS8 := RS7.below hb8
    have X8 := X7.below hb8
    have GF8 := GF7.below hb8
    have GS8 := GS7.below hb8
    have hw8 := hw7.trans (hb8.mono hw7.size)
    clear hB7 hS_7 hP7 RF7 RS7 X7 GF7 GS7
    have chQ0 := hQ8.cell (i := 0) rfl
    have chQ1 := hQ8.cell (i := 1) rfl
    have chQ2 := hQ8.cell (i := 2) rfl
    have chQ3 := hQ8.cell (i := 3) rfl
    have chQ4 := hQ8.cell (i := 4) rfl
    have chS_0 := hS_8.cell (i := 0) rfl
    have chS_1 := hS_8.cell (i := 1) rfl
    have chS_2 := hS_8.cell (i := 2) rfl
    have chS_3 := hS_8.cell (i := 3) rfl
    have chS_4 := hS_8.cell (i := 4) rfl
    go_wp2_with (fail)
    refine (eqSeglogOut_same _ _ M _ _ fo mo _ _ N _ _ co _ (GF8.fls hM) (RF8.fls hM) (GS8.strs) (RS8.strs)).mono ?_
    rintro e v9 ⟨rfl, hb9⟩
    have hz9 := hb9.size
    have hB9 := hB8.below hb9 hB8.lt
    have hS_9 := hS_8.below hb9 hS_8.lt
    have hP9 := hP8.below hb9 hP8.lt
    have hQ9 := hQ8.below hb9 hQ8.lt
    have RF9 := RF8.below hb9
    have RS9 := RS8.below hb9
    have X9 := X8.below hb9
    have GF9 := GF8.below hb9
    have GS9 := GS8.below hb9
    have hw9 := hw8.trans (hb9.mono hw8.size)
    clear hB8 hS_8 hP8 hQ8 RF8 RS8 X8 GF8 GS8
    clear chQ0 chQ1 chQ2 chQ3 chQ4 chS_0 chS_1 chS_2 chS_3 chS_4
    have chB0 := hB9.cell (i := 0) rfl
    have chB1 := hB9.cell (i := 1) rfl
    have chB2 := hB9.cell (i := 2) rfl
    have chP0 := hP9.cell (i := 0) rfl
    have chP1 := hP9.cell (i := 1) rfl
    have chP2 := hP9.cell (i := 2) rfl
    go_wp2_with (fail)
    have z0 : v9.drew.cell? ⟨w.heap.size, 0, none⟩ = some (.slice A L.length c) := chB0
    have z1 : v9.drew.cell? ⟨w.heap.size, 1, none⟩ = some (.int .i64 f) := chB1
    have z2 : v9.drew.cell? ⟨w.heap.size, 2, none⟩ = some (.int .i64 m) := chB2
    have z3 : v9.drew.cell? ⟨v5.heap.size, 0, none⟩ = some (.slice (some ⟨g5, 0, none⟩) L.length d5) := chP0
    have z4 : v9.drew.cell? ⟨v5.heap.size, 1, none⟩ = some (.int .i64 f) := chP1
    have z5 : v9.drew.cell? ⟨v5.heap.size, 2, none⟩ = some (.int .i64 m) := chP2
    have Xd : Rw v9.drew v4.heap.size v5.heap.size 53 3 (.slice (some ⟨g5, 0, none⟩) L.length d5) L.length (flat L) := X9
    go_region_held3 (fun W => W.cell? ⟨w.heap.size, 0, none⟩ = some (.slice A L.length c) ∧ W.cell? ⟨w.heap.size, 1, none⟩ = some (.int .i64 f) ∧ W.cell? ⟨w.heap.size, 2, none⟩ = some (.int .i64 m) ∧ W.cell? ⟨v5.heap.size, 0, none⟩ = some (.slice (some ⟨g5, 0, none⟩) L.length d5) ∧ W.cell? ⟨v5.heap.size, 1, none⟩ = some (.int .i64 f) ∧ W.cell? ⟨v5.heap.size, 2, none⟩ = some (.int .i64 m))
      (first
        | exact ⟨z0, z1, z2, z3, z4, z5⟩
        | exact ⟨kept_cell hb10 z0, kept_cell hb10 z1, kept_cell hb10 z2, kept_cell hb10 z3, kept_cell hb10 z4, kept_cell hb10 z5⟩
        | exact ⟨kept_cell hb11 (kept_cell hb10 z0), kept_cell hb11 (kept_cell hb10 z1), kept_cell hb11 (kept_cell hb10 z2), kept_cell hb11 (kept_cell hb10 z3), kept_cell hb11 (kept_cell hb10 z4), kept_cell hb11 (kept_cell hb10 z5)⟩)
      (first
        | (go_at_call 41; refine (toSeglog_any A L c f m _ (HL.out _ (below_drew hw9)) hS').mono ?_; rintro e v10 ⟨g10, d10, rfl, hF10, hb10⟩)
        | (go_at_call 44; refine (eqSeglog_same _ _ L _ _ f m _ ((Xd.below hb10).fls hf) (OwnF.fls hF10)).mono ?_; rintro e v11 ⟨rfl, hb11⟩))
    have hbz : Below v9.heap.size v9 v11 := (below_drew (Below.refl _ v9)).trans ((hb10.trans (hb11.mono hb10.size)).mono (Nat.le_refl _))
    clear chB0 chB1 chB2 chP0 chP1 chP2
    clear z0 z1 z2 z3 z4 z5 Xd hF10
    have hz11 := hbz.size
    have hB11 := hB9.below hbz hB9.lt
    have hS_11 := hS_9.below hbz hS_9.lt
    have hP11 := hP9.below hbz hP9.lt
    have hQ11 := hQ9.below hbz hQ9.lt
    have RF11 := RF9.below hbz
    have RS11 := RS9.below hbz
    have X11 := X9.below hbz
    have GF11 := GF9.below hbz
    have GS11 := GS9.below hbz
    have hw11 := hw9.trans (hbz.mono hw9.size)
    clear hB9 hS_9 hP9 hQ9 RF9 RS9 X9 GF9 GS9
    have chP0 := hP11.cell (i := 0) rfl
    have chP1 := hP11.cell (i := 1) rfl
    have chP2 := hP11.cell (i := 2) rfl
    have MX := markSeglog_rw _ L _ _ _ 1 f m _ X11 hf (by omega) (by omega)
    have xr := X11.atA
    rw [Hm1.out] at MX
    clear X11
    go_wp2_with (fail)
    refine MX.mono ?_
    rintro e v12 ⟨rfl, hX, hg, hf9⟩
    have hc12 := Chg.of hg xr
    clear hg hX hf9 xr MX
    have hz12 := hc12.size
    have hB12 := hB11.offC hc12 (by omega)
    have hS_12 := hS_11.offC hc12 (by omega)
    have hP12 := hP11.offC hc12 (by omega)
    have hQ12 := hQ11.offC hc12 (by omega)
    have RF12 := RF11.farC hc12 (by omega)
    have RS12 := RS11.farC hc12 (by omega)
    have GF12 := GF11.farC hc12 (by omega)
    have GS12 := GS11.farC hc12 (by omega)
    have hw12 := below_offC hw11 hc12 (by omega) (Nat.le_refl _)
    clear hB11 hS_11 hP11 hQ11 RF11 RS11 GF11 GS11
    clear chP0 chP1 chP2
    have hlast : ¬ ((m1 : Int) < 0) := by omega
    have chQ0 := hQ12.cell (i := 0) rfl
    have chQ1 := hQ12.cell (i := 1) rfl
    have chQ2 := hQ12.cell (i := 2) rfl
    have chQ3 := hQ12.cell (i := 3) rfl
    have chQ4 := hQ12.cell (i := 4) rfl
    have chS_0 := hS_12.cell (i := 0) rfl
    have chS_1 := hS_12.cell (i := 1) rfl
    have chS_2 := hS_12.cell (i := 2) rfl
    have chS_3 := hS_12.cell (i := 3) rfl
    have chS_4 := hS_12.cell (i := 4) rfl
    go_wp2_with (fail)
    refine (eqSeglogOut_same _ _ M _ _ fo mo _ _ N _ _ co _ (GF12.fls hM) (RF12.fls hM) (GS12.strs) (RS12.strs)).mono ?_
    rintro e v13 ⟨rfl, hb13⟩
    have hz13 := hb13.size
    have hB13 := hB12.below hb13 hB12.lt
    have hS_13 := hS_12.below hb13 hS_12.lt
    have hP13 := hP12.below hb13 hP12.lt
    have hQ13 := hQ12.below hb13 hQ12.lt
    have RF13 := RF12.below hb13
    have RS13 := RS12.below hb13
    have GF13 := GF12.below hb13
    have GS13 := GS12.below hb13
    have hw13 := hw12.trans (hb13.mono hw12.size)
    clear hB12 hS_12 hP12 hQ12 RF12 RS12 GF12 GS12
    clear chQ0 chQ1 chQ2 chQ3 chQ4 chS_0 chS_1 chS_2 chS_3 chS_4
    clear hlast
    have chQ0 := hQ13.cell (i := 0) rfl
    have chQ1 := hQ13.cell (i := 1) rfl
    have chQ2 := hQ13.cell (i := 2) rfl
    have chQ3 := hQ13.cell (i := 3) rfl
    have chQ4 := hQ13.cell (i := 4) rfl
    have MG := markSeglogOut_rw _ M _ _ N _ _ _ 1 fo mo co _ GF13 GS13 hM (by omega) (by omega)
    rw [Hm3.out] at MG
    clear GF13
    clear GS13
    go_wp2_with (fail)
    refine MG.mono ?_
    rintro e v14 ⟨rfl, GF14, GS14, hc14, hf9⟩
    clear MG
    have hz14 := hc14.size
    have hB14 := hB13.offC hc14 (by omega)
    have hS_14 := hS_13.offC hc14 (by omega)
    have hP14 := hP13.offC hc14 (by omega)
    have hQ14 := hQ13.offC hc14 (by omega)
    have RF14 := RF13.farC hc14 (by omega)
    have RS14 := RS13.farC hc14 (by omega)
    have hw14 := below_offC hw13 hc14 (by omega) (Nat.le_refl _)
    clear hB13 hS_13 hP13 hQ13 RF13 RS13
    clear chQ0 chQ1 chQ2 chQ3 chQ4
    have hlast : ¬ ((m3 : Int) < 0) := by omega
    have chQ0 := hQ14.cell (i := 0) rfl
    have chQ1 := hQ14.cell (i := 1) rfl
    have chQ2 := hQ14.cell (i := 2) rfl
    have chQ3 := hQ14.cell (i := 3) rfl
    have chQ4 := hQ14.cell (i := 4) rfl
    have HD := heldSeglogOut_any _ M.length d7 _ N.length b7 1 fo mo co _ (GF14.fls hf9) (GS14.strs) (by omega) (by omega)
    rw [Hm3.out] at HD
    go_wp2_with (fail)
    refine (HD).mono ?_
    rintro e v15 ⟨rfl, hb15⟩
    have hz15 := hb15.size
    have hB15 := hB14.below hb15 hB14.lt
    have hS_15 := hS_14.below hb15 hS_14.lt
    have hP15 := hP14.below hb15 hP14.lt
    have hQ15 := hQ14.below hb15 hQ14.lt
    have RF15 := RF14.below hb15
    have RS15 := RS14.below hb15
    have GF15 := GF14.below hb15
    have GS15 := GS14.below hb15
    have hw15 := hw14.trans (hb15.mono hw14.size)
    clear hB14 hS_14 hP14 hQ14 RF14 RS14 GF14 GS14
    clear chQ0 chQ1 chQ2 chQ3 chQ4
    clear HD
    have chB0 := hB15.cell (i := 0) rfl
    have chB1 := hB15.cell (i := 1) rfl
    have chB2 := hB15.cell (i := 2) rfl
    go_wp2_with (fail)
    refine (toSeglog_any A L c f m _ (HL.out _ hw15) hS').mono ?_
    rintro e v16 ⟨g16, d16, rfl, hF16, hb16⟩
    have hz16 := hb16.size
    have hB16 := hB15.below hb16 hB15.lt
    have hS_16 := hS_15.below hb16 hS_15.lt
    have hP16 := hP15.below hb16 hP15.lt
    have hQ16 := hQ15.below hb16 hQ15.lt
    have RF16 := RF15.below hb16
    have RS16 := RS15.below hb16
    have GF16 := GF15.below hb16
    have GS16 := GS15.below hb16
    have hw16 := hw15.trans (hb16.mono hw15.size)
    clear hB15 hS_15 hP15 hQ15 RF15 RS15 GF15 GS15
    clear chB0 chB1 chB2
    have X16 := hF16.rw
    clear hF16
    go_wp2_with (fail)
    refine (Im.out _ _ _ (X16.fls hf) (Rw.capL X16).1 (Rw.capL X16).2 (HPow.out _ hw16) (HHandle.out _ hw16) (HErrs.out _ hw16) (HSeg.out _ hw16)).mono ?_
    rintro e v17 ⟨A17, d17, B17, b17, rfl, hO17, hT17, hb17⟩
    have hz17 := hb17.size
    have hB17 := hB16.below hb17 hB16.lt
    have hS_17 := hS_16.below hb17 hS_16.lt
    have hP17 := hP16.below hb17 hP16.lt
    have hQ17 := hQ16.below hb17 hQ16.lt
    have RF17 := RF16.below hb17
    have RS17 := RS16.below hb17
    have GF17 := GF16.below hb17
    have GS17 := GS16.below hb17
    have X17 := X16.below hb17
    have hw17 := hw16.trans (hb17.mono hw16.size)
    clear hB16 hS_16 hP16 hQ16 RF16 RS16 GF16 GS16 X16
    clear X17
    have YF17 := hO17.rw
    clear hO17
    have YS17 := Rw.of hT17
    clear hT17
    have hV18 := Blk.fresh v17 63 [.slice A17 M.length d17, .int .i64 fo, .int .i64 mo, .slice B17 N.length b17, .int .i64 co]
    simp only [List.toArray] at hV18
    have hb18 : Below v17.heap.size v17 (v17.alloc (.cells #[.slice A17 M.length d17, .int .i64 fo, .int .i64 mo, .slice B17 N.length b17, .int .i64 co] 63)) := (Below.refl _ _).alloc (Nat.le_refl _) _
    have hs18 : (v17.alloc (.cells #[.slice A17 M.length d17, .int .i64 fo, .int .i64 mo, .slice B17 N.length b17, .int .i64 co] 63)).heap.size = v17.heap.size + 1 := by simp
    have qhS_0 := (hS_17.below hb18 hS_17.lt).cell (i := 0) rfl
    have qhS_1 := (hS_17.below hb18 hS_17.lt).cell (i := 1) rfl
    have qhS_2 := (hS_17.below hb18 hS_17.lt).cell (i := 2) rfl
    have qhS_3 := (hS_17.below hb18 hS_17.lt).cell (i := 3) rfl
    have qhS_4 := (hS_17.below hb18 hS_17.lt).cell (i := 4) rfl
    have qq0 := hV18.cell (i := 0) rfl
    have qq1 := hV18.cell (i := 1) rfl
    have qq2 := hV18.cell (i := 2) rfl
    have qq3 := hV18.cell (i := 3) rfl
    have qq4 := hV18.cell (i := 4) rfl
    go_wp2_with (fail)
    clear qhS_0 qhS_1 qhS_2 qhS_3 qhS_4 qq0 qq1 qq2 qq3 qq4
    generalize v17.alloc (.cells #[.slice A17 M.length d17, .int .i64 fo, .int .i64 mo, .slice B17 N.length b17, .int .i64 co] 63) = v18 at hV18 hb18 hs18 ⊢
    have hz18 := hb18.size
    have hB18 := hB17.below hb18 hB17.lt
    have hS_18 := hS_17.below hb18 hS_17.lt
    have hP18 := hP17.below hb18 hP17.lt
    have hQ18 := hQ17.below hb18 hQ17.lt
    have RF18 := RF17.below hb18
    have RS18 := RS17.below hb18
    have GF18 := GF17.below hb18
    have GS18 := GS17.below hb18
    have YF18 := YF17.below hb18
    have YS18 := YS17.below hb18
    have hw18 := hw17.trans (hb18.mono hw17.size)
    clear hB17 hS_17 hP17 hQ17 RF17 RS17 GF17 GS17 YF17 YS17
    have chV0 := hV18.cell (i := 0) rfl
    have chV1 := hV18.cell (i := 1) rfl
    have chV2 := hV18.cell (i := 2) rfl
    have chV3 := hV18.cell (i := 3) rfl
    have chV4 := hV18.cell (i := 4) rfl
    have chS_0 := hS_18.cell (i := 0) rfl
    have chS_1 := hS_18.cell (i := 1) rfl
    have chS_2 := hS_18.cell (i := 2) rfl
    have chS_3 := hS_18.cell (i := 3) rfl
    have chS_4 := hS_18.cell (i := 4) rfl
    go_wp2_with (fail)
    refine (eqSeglogOut_same _ _ M _ _ fo mo _ _ N _ _ co _ (YF18.fls hM) (RF18.fls hM) (YS18.strs) (RS18.strs)).mono ?_
    rintro e v19 ⟨rfl, hb19⟩
    have hz19 := hb19.size
    have hB19 := hB18.below hb19 hB18.lt
    have hS_19 := hS_18.below hb19 hS_18.lt
    have hP19 := hP18.below hb19 hP18.lt
    have hQ19 := hQ18.below hb19 hQ18.lt
    have hV19 := hV18.below hb19 hV18.lt
    have RF19 := RF18.below hb19
    have RS19 := RS18.below hb19
    have GF19 := GF18.below hb19
    have GS19 := GS18.below hb19
    have YF19 := YF18.below hb19
    have YS19 := YS18.below hb19
    have hw19 := hw18.trans (hb19.mono hw18.size)
    clear hB18 hS_18 hP18 hQ18 hV18 RF18 RS18 GF18 GS18 YF18 YS18
    clear chV0 chV1 chV2 chV3 chV4 chS_0 chS_1 chS_2 chS_3 chS_4
    have chQ0 := hQ19.cell (i := 0) rfl
    have chQ1 := hQ19.cell (i := 1) rfl
    have chQ2 := hQ19.cell (i := 2) rfl
    have chQ3 := hQ19.cell (i := 3) rfl
    have chQ4 := hQ19.cell (i := 4) rfl
    have HD := heldSeglogOut_any _ M.length d7 _ N.length b7 1 fo mo co _ (GF19.fls hf9) (GS19.strs) (by omega) (by omega)
    rw [Hm3.out] at HD
    go_wp2_with (fail)
    refine (HD).mono ?_
    rintro e v20 ⟨rfl, hb20⟩
    have hz20 := hb20.size
    have hB20 := hB19.below hb20 hB19.lt
    have hS_20 := hS_19.below hb20 hS_19.lt
    have hP20 := hP19.below hb20 hP19.lt
    have hQ20 := hQ19.below hb20 hQ19.lt
    have hV20 := hV19.below hb20 hV19.lt
    have RF20 := RF19.below hb20
    have RS20 := RS19.below hb20
    have GF20 := GF19.below hb20
    have GS20 := GS19.below hb20
    have YF20 := YF19.below hb20
    have YS20 := YS19.below hb20
    have hw20 := hw19.trans (hb20.mono hw19.size)
    clear hB19 hS_19 hP19 hQ19 hV19 RF19 RS19 GF19 GS19 YF19 YS19
    clear chQ0 chQ1 chQ2 chQ3 chQ4
    clear HD
    go_wp2
    go_ret
    exact ⟨rfl, hw20⟩
end Go.Proofs.YtebkblmejkkhfaaGreatDoor
