/- CommandRead: spec and impl answer alike; the exact law's walk. -/
import Derived.Test.YtpgodphnjeifhaaDoorCmReadS
namespace Go.Proofs.YtpgodphnjeifhaaDoor
open Go.RowKit
set_option linter.unusedVariables false
set_option linter.unusedSimpArgs false
set_option maxRecDepth 1000000

theorem l06Read_any (s : ByteArray) (w : World) (hs : s.size ≤ 20000) :
    Calls Tryd.prog 37 #[.string s] w fun e w' => e = .returned (.tuple #[(readC s).1.v, .bool (goodR s)]) ∧ Below w.heap.size w w' := by
  cases h : (readC s).2 with
  | none => exact l06Read_bad s w hs h
  | some q => exact l06Read_ok s w hs q h
theorem specRead_size (s : ByteArray) (w : World) (hs : s.size ≤ maxLen) (h : 20000 < s.size) :
    Calls Tryd.prog 15 #[.string s] w fun e w' => e = .returned ((readCmd s).1.out (readCmd s).2) ∧ Below w.heap.size w w' := by
  have hr : readCmd s = (Cmd.zero, 2) := by unfold readCmd; rw [if_pos h]
  rw [hr]
  unfold maxLen at hs
  go_enter Tryd.func15, Tryd.ntmps15
  go_wp2
  exact bodyPost_ret (v := coutV 0 0 0 ⟨#[]⟩ ⟨#[]⟩ ⟨#[]⟩ 0 2) (by simp [results, Tryd.results15, go_sem]) rfl ⟨rfl, below_box _ _⟩
set_option maxHeartbeats 4000000 in
theorem specCommandRead_in (s : ByteArray) (w : World) (hs : s.size ≤ 20000) :
    Calls Tryd.prog 15 #[.string s] w fun e w' => e = .returned ((readCmd s).1.out (readCmd s).2) ∧ Below w.heap.size w w' := by
  have hn2 : ¬ 20000 < s.size := by omega
  have hrc : readCmd s = if goodR s = true then ((readC s).1, 0) else (Cmd.zero, 3) := by unfold readCmd; rw [if_neg hn2]
  have RD := Lib.hid (fun W => l06Read_any s W hs)
  generalize readCmd s = res at hrc ⊢
  generalize goodR s = gd at hrc RD
  generalize (readC s).1 = c at hrc RD
  obtain ⟨a, b, k, t, g, x, n⟩ := c
  unfold Cmd.v at RD
  simp only at RD
  have hB := Blk.fresh w 31 [.int .i64 0, .int .i64 0, .int .i64 0, .string ⟨#[]⟩, .string ⟨#[]⟩, .string ⟨#[]⟩, .int .i64 0, .int .i64 0]
  have hw0 := below_box w (.cells #[.int .i64 0, .int .i64 0, .int .i64 0, .string ⟨#[]⟩, .string ⟨#[]⟩, .string ⟨#[]⟩, .int .i64 0, .int .i64 0] 31)
  replace hB : Blk (w.alloc (.cells #[.int .i64 0, .int .i64 0, .int .i64 0, .string ⟨#[]⟩, .string ⟨#[]⟩, .string ⟨#[]⟩, .int .i64 0, .int .i64 0] 31)) w.heap.size 31 [.int .i64 0, .int .i64 0, .int .i64 0, .string ⟨#[]⟩, .string ⟨#[]⟩, .string ⟨#[]⟩, .int .i64 0, .int .i64 0] := hB
  have HC := Lib.hid hrc
  clear hrc
  cases gd
  · obtain rfl : res = (Cmd.zero, 3) := by rw [HC.out]; rfl
    go_enter Tryd.func15, Tryd.ntmps15
    go_wp2_with (fail)
    generalize w.alloc (.cells #[.int .i64 0, .int .i64 0, .int .i64 0, .string ⟨#[]⟩, .string ⟨#[]⟩, .string ⟨#[]⟩, .int .i64 0, .int .i64 0] 31) = v0 at hB hw0 ⊢
    refine (RD.out _).mono ?_
    rintro e w1 ⟨rfl, hb1⟩
    have hB1 := (hB.below hb1 hB.lt).alloc (.cells #[.int .i64 a, .int .i64 b, .int .i64 k, .string t, .string g, .string x, .int .i64 n] 24)
    have hw1 := hw0.trans (hb1.mono hw0.size)
    have hw2 := hw1.alloc hw1.size (.cells #[.int .i64 a, .int .i64 b, .int .i64 k, .string t, .string g, .string x, .int .i64 n] 24)
    have hP := Blk.fresh w1 24 [.int .i64 a, .int .i64 b, .int .i64 k, .string t, .string g, .string x, .int .i64 n]
    simp only [List.toArray] at hP
    clear hb1 hB hw0 hw1
    have z0 := hB1.cell (i := 0) rfl
    have y0 := hB1.froz 0
    have z1 := hB1.cell (i := 1) rfl
    have y1 := hB1.froz 1
    have z2 := hB1.cell (i := 2) rfl
    have y2 := hB1.froz 2
    have z3 := hB1.cell (i := 3) rfl
    have y3 := hB1.froz 3
    have z4 := hB1.cell (i := 4) rfl
    have y4 := hB1.froz 4
    have z5 := hB1.cell (i := 5) rfl
    have y5 := hB1.froz 5
    have z6 := hB1.cell (i := 6) rfl
    have y6 := hB1.froz 6
    have z7 := hB1.cell (i := 7) rfl
    have y7 := hB1.froz 7
    have d0 := hP.cell (i := 0) rfl
    have d1 := hP.cell (i := 1) rfl
    have d2 := hP.cell (i := 2) rfl
    have d3 := hP.cell (i := 3) rfl
    have d4 := hP.cell (i := 4) rfl
    have d5 := hP.cell (i := 5) rfl
    have d6 := hP.cell (i := 6) rfl
    go_wp2
    clear z0 z1 z2 z3 z4 z5 z6 z7 y0 y1 y2 y3 y4 y5 y6 y7 d0 d1 d2 d3 d4 d5 d6 hP
    generalize w1.alloc (.cells #[.int .i64 a, .int .i64 b, .int .i64 k, .string t, .string g, .string x, .int .i64 n] 24) = w2 at hB1 hw2 ⊢
    have hF := ((((((((hB1.put 0 (.int .i64 0)).put 1 (.int .i64 0)).put 2 (.int .i64 0)).put 3 (.string ⟨#[]⟩)).put 4 (.string ⟨#[]⟩)).put 5 (.string ⟨#[]⟩)).put 6 (.int .i64 0)).put 7 (.int .i64 3))
    have hb := ((((((((hw2.setCell (Nat.le_refl _) (.int .i64 0) (p := ⟨w.heap.size, 0, none⟩)).setCell (Nat.le_refl _) (.int .i64 0) (p := ⟨w.heap.size, 1, none⟩)).setCell (Nat.le_refl _) (.int .i64 0) (p := ⟨w.heap.size, 2, none⟩)).setCell (Nat.le_refl _) (.string ⟨#[]⟩) (p := ⟨w.heap.size, 3, none⟩)).setCell (Nat.le_refl _) (.string ⟨#[]⟩) (p := ⟨w.heap.size, 4, none⟩)).setCell (Nat.le_refl _) (.string ⟨#[]⟩) (p := ⟨w.heap.size, 5, none⟩)).setCell (Nat.le_refl _) (.int .i64 0) (p := ⟨w.heap.size, 6, none⟩)).setCell (Nat.le_refl _) (.int .i64 3) (p := ⟨w.heap.size, 7, none⟩))
    simp only [List.set_cons_succ, List.set_cons_zero] at hF
    generalize ((((((((w2.setCell ⟨w.heap.size, 0, none⟩ (.int .i64 0)).setCell ⟨w.heap.size, 1, none⟩ (.int .i64 0)).setCell ⟨w.heap.size, 2, none⟩ (.int .i64 0)).setCell ⟨w.heap.size, 3, none⟩ (.string ⟨#[]⟩)).setCell ⟨w.heap.size, 4, none⟩ (.string ⟨#[]⟩)).setCell ⟨w.heap.size, 5, none⟩ (.string ⟨#[]⟩)).setCell ⟨w.heap.size, 6, none⟩ (.int .i64 0)).setCell ⟨w.heap.size, 7, none⟩ (.int .i64 3)) = WF at hF hb ⊢
    have k0 := hF.cell (i := 0) rfl
    have k1 := hF.cell (i := 1) rfl
    have k2 := hF.cell (i := 2) rfl
    have k3 := hF.cell (i := 3) rfl
    have k4 := hF.cell (i := 4) rfl
    have k5 := hF.cell (i := 5) rfl
    have k6 := hF.cell (i := 6) rfl
    have k7 := hF.cell (i := 7) rfl
    exact bodyPost_ret (v := coutV 0 0 0 ⟨#[]⟩ ⟨#[]⟩ ⟨#[]⟩ 0 3) (by simp [results, Tryd.results15, go_sem, k0, k1, k2, k3, k4, k5, k6, k7]) rfl ⟨rfl, hb⟩
  · obtain rfl : res = (⟨a, b, k, t, g, x, n⟩, 0) := by rw [HC.out]; rfl
    go_enter Tryd.func15, Tryd.ntmps15
    go_wp2_with (fail)
    generalize w.alloc (.cells #[.int .i64 0, .int .i64 0, .int .i64 0, .string ⟨#[]⟩, .string ⟨#[]⟩, .string ⟨#[]⟩, .int .i64 0, .int .i64 0] 31) = v0 at hB hw0 ⊢
    refine (RD.out _).mono ?_
    rintro e w1 ⟨rfl, hb1⟩
    have hB1 := (hB.below hb1 hB.lt).alloc (.cells #[.int .i64 a, .int .i64 b, .int .i64 k, .string t, .string g, .string x, .int .i64 n] 24)
    have hw1 := hw0.trans (hb1.mono hw0.size)
    have hw2 := hw1.alloc hw1.size (.cells #[.int .i64 a, .int .i64 b, .int .i64 k, .string t, .string g, .string x, .int .i64 n] 24)
    have hP := Blk.fresh w1 24 [.int .i64 a, .int .i64 b, .int .i64 k, .string t, .string g, .string x, .int .i64 n]
    simp only [List.toArray] at hP
    clear hb1 hB hw0 hw1
    have z0 := hB1.cell (i := 0) rfl
    have y0 := hB1.froz 0
    have z1 := hB1.cell (i := 1) rfl
    have y1 := hB1.froz 1
    have z2 := hB1.cell (i := 2) rfl
    have y2 := hB1.froz 2
    have z3 := hB1.cell (i := 3) rfl
    have y3 := hB1.froz 3
    have z4 := hB1.cell (i := 4) rfl
    have y4 := hB1.froz 4
    have z5 := hB1.cell (i := 5) rfl
    have y5 := hB1.froz 5
    have z6 := hB1.cell (i := 6) rfl
    have y6 := hB1.froz 6
    have z7 := hB1.cell (i := 7) rfl
    have y7 := hB1.froz 7
    have d0 := hP.cell (i := 0) rfl
    have d1 := hP.cell (i := 1) rfl
    have d2 := hP.cell (i := 2) rfl
    have d3 := hP.cell (i := 3) rfl
    have d4 := hP.cell (i := 4) rfl
    have d5 := hP.cell (i := 5) rfl
    have d6 := hP.cell (i := 6) rfl
    go_wp2
    clear z0 z1 z2 z3 z4 z5 z6 z7 y0 y1 y2 y3 y4 y5 y6 y7 d0 d1 d2 d3 d4 d5 d6 hP
    generalize w1.alloc (.cells #[.int .i64 a, .int .i64 b, .int .i64 k, .string t, .string g, .string x, .int .i64 n] 24) = w2 at hB1 hw2 ⊢
    have hF := ((((((((hB1.put 0 (.int .i64 a)).put 1 (.int .i64 b)).put 2 (.int .i64 k)).put 3 (.string t)).put 4 (.string g)).put 5 (.string x)).put 6 (.int .i64 n)).put 7 (.int .i64 0))
    have hb := ((((((((hw2.setCell (Nat.le_refl _) (.int .i64 a) (p := ⟨w.heap.size, 0, none⟩)).setCell (Nat.le_refl _) (.int .i64 b) (p := ⟨w.heap.size, 1, none⟩)).setCell (Nat.le_refl _) (.int .i64 k) (p := ⟨w.heap.size, 2, none⟩)).setCell (Nat.le_refl _) (.string t) (p := ⟨w.heap.size, 3, none⟩)).setCell (Nat.le_refl _) (.string g) (p := ⟨w.heap.size, 4, none⟩)).setCell (Nat.le_refl _) (.string x) (p := ⟨w.heap.size, 5, none⟩)).setCell (Nat.le_refl _) (.int .i64 n) (p := ⟨w.heap.size, 6, none⟩)).setCell (Nat.le_refl _) (.int .i64 0) (p := ⟨w.heap.size, 7, none⟩))
    simp only [List.set_cons_succ, List.set_cons_zero] at hF
    generalize ((((((((w2.setCell ⟨w.heap.size, 0, none⟩ (.int .i64 a)).setCell ⟨w.heap.size, 1, none⟩ (.int .i64 b)).setCell ⟨w.heap.size, 2, none⟩ (.int .i64 k)).setCell ⟨w.heap.size, 3, none⟩ (.string t)).setCell ⟨w.heap.size, 4, none⟩ (.string g)).setCell ⟨w.heap.size, 5, none⟩ (.string x)).setCell ⟨w.heap.size, 6, none⟩ (.int .i64 n)).setCell ⟨w.heap.size, 7, none⟩ (.int .i64 0)) = WF at hF hb ⊢
    have k0 := hF.cell (i := 0) rfl
    have k1 := hF.cell (i := 1) rfl
    have k2 := hF.cell (i := 2) rfl
    have k3 := hF.cell (i := 3) rfl
    have k4 := hF.cell (i := 4) rfl
    have k5 := hF.cell (i := 5) rfl
    have k6 := hF.cell (i := 6) rfl
    have k7 := hF.cell (i := 7) rfl
    exact bodyPost_ret (v := coutV a b k t g x n 0) (by simp [results, Tryd.results15, go_sem, k0, k1, k2, k3, k4, k5, k6, k7]) rfl ⟨rfl, hb⟩
theorem specCommandRead_any (s : ByteArray) (w : World) (hs : s.size ≤ maxLen) :
    Calls Tryd.prog 15 #[.string s] w fun e w' => e = .returned ((readCmd s).1.out (readCmd s).2) ∧ Below w.heap.size w w' := by
  by_cases h : 20000 < s.size
  · exact specRead_size s w hs h
  · exact specCommandRead_in s w (by omega)
end Go.Proofs.YtpgodphnjeifhaaDoor
