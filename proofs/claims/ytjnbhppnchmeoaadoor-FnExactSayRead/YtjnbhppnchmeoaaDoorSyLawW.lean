/- spec.SayRead. The exact law of SayRead. -/
import Derived.Test.YtjnbhppnchmeoaaDoorStrBW
import Derived.Test.YtjnbhppnchmeoaaDoorChgW
import Derived.Test.YtjnbhppnchmeoaaDoorSyEqW
namespace Go.Proofs.YtjnbhppnchmeoaaDoor
open Go.RowKit
set_option linter.unusedVariables false
set_option linter.unusedSimpArgs false
set_option maxRecDepth 1000000

theorem goodY_none {s : ByteArray} (h : (rSy s).2 = none) : goodY s = false := by unfold goodY; rw [h]; rfl
theorem goodY_some {s : ByteArray} {q : Nat} (h : (rSy s).2 = some q) : goodY s = ((syBytes (rSy s).1).toList == s.toList) := by
  unfold goodY
  rw [h, rSy_same h]
  by_cases e : syBytes (rSy s).1 = s
  · rw [decide_eq_true e, str_beq_t e]
  · rw [decide_eq_false e, str_beq_f e]
/-- What spec.l10Read knows while it reads changes. -/
def SQI (w wr : World) (P : Nat) (s : ByteArray) (a0 a1 a2 a3 : Int) (a4 : ByteArray) (o : Option Nat) (L : List Cng) (A : Option Addr) (j c : Nat) (M : List CM) : Prop :=
  Rdr 42 wr (w.heap.size + 1) s o ∧ Blk wr P 34 [.int .i64 a0, .int .i64 a1, .int .i64 a2, .int .i64 a3, .string a4, .slice A j c] ∧ wr.ownsRow (P + 1) 66 3 (.slice A j c) j (cflat (M.map CM.m)) ∧ CngsO wr (P + 1) M ∧ M.length = j ∧ (o ≠ none → (M.map CM.m).map (·.t) = L) ∧ Blk wr w.heap.size 34 [.int .i64 0, .int .i64 0, .int .i64 0, .int .i64 0, .string ⟨#[]⟩, .slice none 0 0] ∧ Below w.heap.size w wr
/-- What spec.l10Read answers. -/
def L10P (w w' : World) (e : Ending) (z : Sy) (ok : Bool) : Prop := ∃ (y : Sy) (A : Option Addr) (c : Nat) (M : List CM), e = .returned (.tuple #[syV y (.slice A y.changes.length c), .bool ok]) ∧ (ok = true → y = z) ∧ w'.ownsRow w.heap.size 66 3 (.slice A y.changes.length c) y.changes.length (cflat (M.map CM.m)) ∧
  (M.map CM.m).map (·.t) = y.changes ∧ CngsO w' w.heap.size M ∧ Below w.heap.size w w'
set_option maxHeartbeats 16000000 in
theorem l10Read_any (s : ByteArray) (w : World) (hs : s.size ≤ 20000) :
    Calls Tryd.prog 30 #[.string s] w fun e w' => L10P w w' e (rSy s).1 (goodY s) := by
  obtain ⟨ii, hii, iz0, iz1, iz2⟩ := info_parts infoCng
  have hfit := rSy_in hs
  have HG0 := Lib.hid (fun h => goodY_none (s := s) h)
  have HG1 := Lib.hid (fun q h => goodY_some (s := s) (q := q) h)
  have HNE := Lib.hid (fun q h => rSy_ne (s := s) (q := q) h)
  have C0 := Lib.hid (fun W h2 => specNum_any (w.heap.size + 1) s (some 0) W h2 hs)
  obtain ⟨a0, o0, E0⟩ : ∃ x y, rN s (some 0) = (x, y) := ⟨_, _, rfl⟩
  rw [E0] at C0
  have C1 := Lib.hid (fun W h2 => specNum_any (w.heap.size + 1) s o0 W h2 hs)
  obtain ⟨a1, o1, E1⟩ : ∃ x y, rN s o0 = (x, y) := ⟨_, _, rfl⟩
  rw [E1] at C1
  have C2 := Lib.hid (fun W h2 => specNum_any (w.heap.size + 1) s o1 W h2 hs)
  obtain ⟨a2, o2, E2⟩ : ∃ x y, rN s o1 = (x, y) := ⟨_, _, rfl⟩
  rw [E2] at C2
  have C3 := Lib.hid (fun W h2 => specNum_any (w.heap.size + 1) s o2 W h2 hs)
  obtain ⟨a3, o3, E3⟩ : ∃ x y, rN s o2 = (x, y) := ⟨_, _, rfl⟩
  rw [E3] at C3
  have C4 := Lib.hid (fun W h2 => specText_any (w.heap.size + 1) s o3 W h2 hs)
  obtain ⟨a4, o4, E4⟩ : ∃ x y, rT s o3 = (x, y) := ⟨_, _, rfl⟩
  rw [E4] at C4
  have C5 := Lib.hid (fun W h2 => many_any (w.heap.size + 1) s 4 o4 W h2 hs)
  have hK0 := rM_in s (most := 4) (by decide) o4
  obtain ⟨K, o5, E5⟩ : ∃ x y, rM s 4 o4 = (x, y) := ⟨_, _, rfl⟩
  rw [E5] at C5 hK0
  have hRC : rSy s = (⟨a0, a1, a2, a3, a4, (rL (rCng s) K.toNat o5).1⟩, (rL (rCng s) K.toNat o5).2) := by unfold rSy; simp only [E0, E1, E2, E3, E4, E5]
  simp only at C0 C1 C2 C3 C4 C5 hK0
  obtain ⟨n, hn⟩ : ∃ n : Nat, K = n := ⟨K.toNat, by omega⟩
  subst hn
  rw [Int.toNat_natCast] at hRC
  have hn4 : n ≤ 4 := by omega
  clear E0 E1 E2 E3 E4 E5 hK0
  rw [hRC] at hfit ⊢
  simp only [hRC] at HG0 HG1 HNE
  have HBAD := Lib.hid (fun j (hj : j ≤ n) (hb : (rL (rCng s) j o5).2 = none) => HG0.out (rL_bad (canonCng s) hj hb))
  clear hRC
  generalize goodY s = gd at HBAD HG0 HG1 ⊢
  have OX := (Blk.fresh w 34 [.int .i64 0, .int .i64 0, .int .i64 0, .int .i64 0, .string ⟨#[]⟩, .slice none 0 0]).alloc (.cells #[.string s, .int .i64 0, .bool false] 42)
  have OR := Blk.fresh (w.alloc (.cells #[.int .i64 0, .int .i64 0, .int .i64 0, .int .i64 0, .string ⟨#[]⟩, .slice none 0 0] 34)) 42 [.string s, .int .i64 0, .bool false]
  have B0 : Below w.heap.size w ((w.alloc (.cells #[.int .i64 0, .int .i64 0, .int .i64 0, .int .i64 0, .string ⟨#[]⟩, .slice none 0 0] 34)).alloc (.cells #[.string s, .int .i64 0, .bool false] 42)) := ((Below.refl _ w).alloc (Nat.le_refl _) _).alloc (by simp) _
  simp only [List.toArray, World.size_alloc] at OX OR
  replace OR : Blk ((w.alloc (.cells #[.int .i64 0, .int .i64 0, .int .i64 0, .int .i64 0, .string ⟨#[]⟩, .slice none 0 0] 34)).alloc (.cells #[.string s, .int .i64 0, .bool false] 42)) (w.heap.size + 1) 42 [.string s, .int .i64 0, .bool false] := OR
  replace OX : Blk ((w.alloc (.cells #[.int .i64 0, .int .i64 0, .int .i64 0, .int .i64 0, .string ⟨#[]⟩, .slice none 0 0] 34)).alloc (.cells #[.string s, .int .i64 0, .bool false] 42)) w.heap.size 34 [.int .i64 0, .int .i64 0, .int .i64 0, .int .i64 0, .string ⟨#[]⟩, .slice none 0 0] := OX
  go_enter Tryd.func30, Tryd.ntmps30
  go_wp2_with (fail)
  generalize (w.alloc (.cells #[.int .i64 0, .int .i64 0, .int .i64 0, .int .i64 0, .string ⟨#[]⟩, .slice none 0 0] 34)).alloc (.cells #[.string s, .int .i64 0, .bool false] 42) = v0 at OX OR B0 ⊢
  have R0 : Rdr 42 v0 (w.heap.size + 1) s (some 0) := ⟨OR, Nat.zero_le _⟩
  clear OR
  refine (C0.out _ R0).mono ?_
  rintro e v1 ⟨rfl, R1, g1⟩
  have X1 := OX.grown g1 (fun e => by have := Option.some.inj e; omega)
  have D1 := below_grown B0 g1 (by omega)
  clear OX R0 B0 g1
  have P2 := Blk.fresh v1 34 [.int .i64 a0, .int .i64 0, .int .i64 0, .int .i64 0, .string ⟨#[]⟩, .slice none 0 0]
  have b2 := below_bx v1 (.cells #[.int .i64 a0, .int .i64 0, .int .i64 0, .int .i64 0, .string ⟨#[]⟩, .slice none 0 0] 34)
  simp only [List.toArray] at P2
  have X2 := X1.below b2 X1.lt
  have R2 := R1.below b2
  have D2 := D1.trans (b2.mono D1.size)
  have hzr : w.heap.size + 1 < v1.heap.size := R1.lt
  go_wp2_with (fail)
  generalize v1.alloc (.cells #[.int .i64 a0, .int .i64 0, .int .i64 0, .int .i64 0, .string ⟨#[]⟩, .slice none 0 0] 34) = v2 at P2 b2 X2 R2 D2 ⊢
  clear b2 X1 R1 D1
  generalize v1.heap.size = P at P2 hzr ⊢
  refine (C1.out _ R2).mono ?_
  rintro e v21 ⟨rfl, R21, g21⟩
  have P21 := P2.grown g21 (fun e => by have := Option.some.inj e; omega)
  have X21 := X2.grown g21 (fun e => by have := Option.some.inj e; omega)
  have D21 := below_grown D2 g21 (by omega)
  clear P2 X2 R2 D2 g21
  have c1 := P21.cell (i := 1) rfl
  have f1 := P21.froz 1
  have P31 := P21.put 1 (.int .i64 a1)
  have R31 := R21.far (p := ⟨P, 1, none⟩) (by simp; omega) (.int .i64 a1)
  have X31 := X21.far (p := ⟨P, 1, none⟩) (by simp; omega) (.int .i64 a1)
  have D31 := D21.setCell (p := ⟨P, 1, none⟩) (by simp; omega) (.int .i64 a1)
  simp only [List.set_cons_succ, List.set_cons_zero] at P31
  go_wp2_with (fail)
  clear c1 f1 P21 R21 X21 D21
  generalize v21.setCell ⟨P, 1, none⟩ (.int .i64 a1) = v31 at P31 R31 X31 D31 ⊢
  refine (C2.out _ R31).mono ?_
  rintro e v22 ⟨rfl, R22, g22⟩
  have P22 := P31.grown g22 (fun e => by have := Option.some.inj e; omega)
  have X22 := X31.grown g22 (fun e => by have := Option.some.inj e; omega)
  have D22 := below_grown D31 g22 (by omega)
  clear P31 X31 R31 D31 g22
  have c1 := P22.cell (i := 2) rfl
  have f1 := P22.froz 2
  have P32 := P22.put 2 (.int .i64 a2)
  have R32 := R22.far (p := ⟨P, 2, none⟩) (by simp; omega) (.int .i64 a2)
  have X32 := X22.far (p := ⟨P, 2, none⟩) (by simp; omega) (.int .i64 a2)
  have D32 := D22.setCell (p := ⟨P, 2, none⟩) (by simp; omega) (.int .i64 a2)
  simp only [List.set_cons_succ, List.set_cons_zero] at P32
  go_wp2_with (fail)
  clear c1 f1 P22 R22 X22 D22
  generalize v22.setCell ⟨P, 2, none⟩ (.int .i64 a2) = v32 at P32 R32 X32 D32 ⊢
  refine (C3.out _ R32).mono ?_
  rintro e v23 ⟨rfl, R23, g23⟩
  have P23 := P32.grown g23 (fun e => by have := Option.some.inj e; omega)
  have X23 := X32.grown g23 (fun e => by have := Option.some.inj e; omega)
  have D23 := below_grown D32 g23 (by omega)
  clear P32 X32 R32 D32 g23
  have c1 := P23.cell (i := 3) rfl
  have f1 := P23.froz 3
  have P33 := P23.put 3 (.int .i64 a3)
  have R33 := R23.far (p := ⟨P, 3, none⟩) (by simp; omega) (.int .i64 a3)
  have X33 := X23.far (p := ⟨P, 3, none⟩) (by simp; omega) (.int .i64 a3)
  have D33 := D23.setCell (p := ⟨P, 3, none⟩) (by simp; omega) (.int .i64 a3)
  simp only [List.set_cons_succ, List.set_cons_zero] at P33
  go_wp2_with (fail)
  clear c1 f1 P23 R23 X23 D23
  generalize v23.setCell ⟨P, 3, none⟩ (.int .i64 a3) = v33 at P33 R33 X33 D33 ⊢
  refine (C4.out _ R33).mono ?_
  rintro e v24 ⟨rfl, R24, g24⟩
  have P24 := P33.grown g24 (fun e => by have := Option.some.inj e; omega)
  have X24 := X33.grown g24 (fun e => by have := Option.some.inj e; omega)
  have D24 := below_grown D33 g24 (by omega)
  clear P33 X33 R33 D33 g24
  have c1 := P24.cell (i := 4) rfl
  have f1 := P24.froz 4
  have P34 := P24.put 4 (.string a4)
  have R34 := R24.far (p := ⟨P, 4, none⟩) (by simp; omega) (.string a4)
  have X34 := X24.far (p := ⟨P, 4, none⟩) (by simp; omega) (.string a4)
  have D34 := D24.setCell (p := ⟨P, 4, none⟩) (by simp; omega) (.string a4)
  simp only [List.set_cons_succ, List.set_cons_zero] at P34
  go_wp2_with (fail)
  clear c1 f1 P24 R24 X24 D24
  generalize v24.setCell ⟨P, 4, none⟩ (.string a4) = v34 at P34 R34 X34 D34 ⊢
  refine (C5.out _ R34).mono ?_
  rintro e v7 ⟨rfl, R7, g7⟩
  have P7 := P34.grown g7 (fun e => by have := Option.some.inj e; omega)
  have X7 := X34.grown g7 (fun e => by have := Option.some.inj e; omega)
  have D7 := below_grown D34 g7 (by omega)
  clear X34 R34 D34 g7 P34 C0 C1 C2 C3 C4 C5
  go_wp2_with (fail)
  go_loopw [6] (fun v wr => ∃ (j kk : Nat) (A : Option Addr) (c : Nat) (M : List CM), j + kk = n ∧ v = .int .i64 (kk : Int) ∧ SQI w wr P s a0 a1 a2 a3 a4 (rL (rCng s) j o5).2 (rL (rCng s) j o5).1 A j c M) (fun v _ => (intOf v).toNat)
  case atStart => exact ⟨0, n, none, 0, [], by omega, rfl, ⟨R7, P7, World.ownsRow_nil _ _ _ _, CngsO.nil _ _, rfl, fun _ => rfl, X7, D7⟩⟩
  case round =>
    clear R7 P7 X7 D7
    obtain ⟨j, kk, A, c, M, hj, rfl, ⟨R, PK, ow, oM, hMl, hMt, XO, B⟩⟩ := hrel
    have hln := rL_len (rCng s) j o5
    by_cases hk0 : kk = 0
    · subst hk0
      obtain rfl : j = n := by omega
      cases hoj : (rL (rCng s) j o5).2 with
      | none =>
        obtain rfl : gd = false := HBAD.out j (Nat.le_refl _) hoj
        rw [hoj] at R
        clear HBAD HG0 HG1 hoj hfit
        go_upto_region 11 with (fail)
        obtain ⟨qb, hqb, hB⟩ := R
        have z0 := XO.cell (i := 0) rfl
        have y0 := XO.froz 0
        have z1 := XO.cell (i := 1) rfl
        have y1 := XO.froz 1
        have z2 := XO.cell (i := 2) rfl
        have y2 := XO.froz 2
        have z3 := XO.cell (i := 3) rfl
        have y3 := XO.froz 3
        have z4 := XO.cell (i := 4) rfl
        have y4 := XO.froz 4
        have z5 := XO.cell (i := 5) rfl
        have y5 := XO.froz 5
        have s0 : (fun W => W.cell? ⟨P, 0, none⟩ = some (.int .i64 a0) ∧ W.cell? ⟨P, 1, none⟩ = some (.int .i64 a1) ∧ W.cell? ⟨P, 2, none⟩ = some (.int .i64 a2) ∧ W.cell? ⟨P, 3, none⟩ = some (.int .i64 a3) ∧ W.cell? ⟨P, 4, none⟩ = some (.string a4) ∧ W.cell? ⟨P, 5, none⟩ = some (.slice A j c) ∧ W.cell? ⟨w.heap.size + 1, 2, none⟩ = some (.bool true)) wr.drew := ⟨PK.drew.cell (i := 0) rfl, PK.drew.cell (i := 1) rfl, PK.drew.cell (i := 2) rfl, PK.drew.cell (i := 3) rfl, PK.drew.cell (i := 4) rfl, PK.drew.cell (i := 5) rfl, hB.drew.cell (i := 2) rfl⟩
        have Xf := ((((((XO.put 0 (.int .i64 a0)).put 1 (.int .i64 a1)).put 2 (.int .i64 a2)).put 3 (.int .i64 a3)).put 4 (.string a4)).put 5 (.slice A j c))
        simp only [List.set_cons_succ, List.set_cons_zero] at Xf
        have Bf := ((((((B.setCell (p := ⟨w.heap.size, 0, none⟩) (Nat.le_refl _) (.int .i64 a0)).setCell (p := ⟨w.heap.size, 1, none⟩) (Nat.le_refl _) (.int .i64 a1)).setCell (p := ⟨w.heap.size, 2, none⟩) (Nat.le_refl _) (.int .i64 a2)).setCell (p := ⟨w.heap.size, 3, none⟩) (Nat.le_refl _) (.int .i64 a3)).setCell (p := ⟨w.heap.size, 4, none⟩) (Nat.le_refl _) (.string a4)).setCell (p := ⟨w.heap.size, 5, none⟩) (Nat.le_refl _) (.slice A j c))
        have of := (row_far (row_far (row_far (row_far (row_far (row_far ow (p := ⟨w.heap.size, 0, none⟩) (by simp; omega) (.int .i64 a0)) (p := ⟨w.heap.size, 1, none⟩) (by simp; omega) (.int .i64 a1)) (p := ⟨w.heap.size, 2, none⟩) (by simp; omega) (.int .i64 a2)) (p := ⟨w.heap.size, 3, none⟩) (by simp; omega) (.int .i64 a3)) (p := ⟨w.heap.size, 4, none⟩) (by simp; omega) (.string a4)) (p := ⟨w.heap.size, 5, none⟩) (by simp; omega) (.slice A j c))
        have oMf := ((((((oM.set (p := ⟨w.heap.size, 0, none⟩) (by simp; omega) (.int .i64 a0)).set (p := ⟨w.heap.size, 1, none⟩) (by simp; omega) (.int .i64 a1)).set (p := ⟨w.heap.size, 2, none⟩) (by simp; omega) (.int .i64 a2)).set (p := ⟨w.heap.size, 3, none⟩) (by simp; omega) (.int .i64 a3)).set (p := ⟨w.heap.size, 4, none⟩) (by simp; omega) (.string a4)).set (p := ⟨w.heap.size, 5, none⟩) (by simp; omega) (.slice A j c))
        have PKf := ((((((PK.far (p := ⟨w.heap.size, 0, none⟩) (by simp; omega) (.int .i64 a0)).far (p := ⟨w.heap.size, 1, none⟩) (by simp; omega) (.int .i64 a1)).far (p := ⟨w.heap.size, 2, none⟩) (by simp; omega) (.int .i64 a2)).far (p := ⟨w.heap.size, 3, none⟩) (by simp; omega) (.int .i64 a3)).far (p := ⟨w.heap.size, 4, none⟩) (by simp; omega) (.string a4)).far (p := ⟨w.heap.size, 5, none⟩) (by simp; omega) (.slice A j c))
        have RBf := ((((((hB.far (p := ⟨w.heap.size, 0, none⟩) (by simp) (.int .i64 a0)).far (p := ⟨w.heap.size, 1, none⟩) (by simp) (.int .i64 a1)).far (p := ⟨w.heap.size, 2, none⟩) (by simp) (.int .i64 a2)).far (p := ⟨w.heap.size, 3, none⟩) (by simp) (.int .i64 a3)).far (p := ⟨w.heap.size, 4, none⟩) (by simp) (.string a4)).far (p := ⟨w.heap.size, 5, none⟩) (by simp) (.slice A j c))
        have s1 : (fun W => W.cell? ⟨P, 0, none⟩ = some (.int .i64 a0) ∧ W.cell? ⟨P, 1, none⟩ = some (.int .i64 a1) ∧ W.cell? ⟨P, 2, none⟩ = some (.int .i64 a2) ∧ W.cell? ⟨P, 3, none⟩ = some (.int .i64 a3) ∧ W.cell? ⟨P, 4, none⟩ = some (.string a4) ∧ W.cell? ⟨P, 5, none⟩ = some (.slice A j c) ∧ W.cell? ⟨w.heap.size + 1, 2, none⟩ = some (.bool true)) ((((((wr.setCell ⟨w.heap.size, 0, none⟩ (.int .i64 a0)).setCell ⟨w.heap.size, 1, none⟩ (.int .i64 a1)).setCell ⟨w.heap.size, 2, none⟩ (.int .i64 a2)).setCell ⟨w.heap.size, 3, none⟩ (.int .i64 a3)).setCell ⟨w.heap.size, 4, none⟩ (.string a4)).setCell ⟨w.heap.size, 5, none⟩ (.slice A j c)).drew := ⟨PKf.drew.cell (i := 0) rfl, PKf.drew.cell (i := 1) rfl, PKf.drew.cell (i := 2) rfl, PKf.drew.cell (i := 3) rfl, PKf.drew.cell (i := 4) rfl, PKf.drew.cell (i := 5) rfl, RBf.drew.cell (i := 2) rfl⟩
        clear hMt HNE
        refine wp_region_held_drew (S := fun W => W.cell? ⟨P, 0, none⟩ = some (.int .i64 a0) ∧ W.cell? ⟨P, 1, none⟩ = some (.int .i64 a1) ∧ W.cell? ⟨P, 2, none⟩ = some (.int .i64 a2) ∧ W.cell? ⟨P, 3, none⟩ = some (.int .i64 a3) ∧ W.cell? ⟨P, 4, none⟩ = some (.string a4) ∧ W.cell? ⟨P, 5, none⟩ = some (.slice A j c) ∧ W.cell? ⟨w.heap.size + 1, 2, none⟩ = some (.bool true)) (by kernel_rfl) s0 (fun hHeld => ?_)
        refine wpAnyH_take (i := 0) (v := ?_) rfl (by kernel_rfl) (by kernel_rfl) (by kernel_rfl) (fun _ _ _ h => h) (Or.inl ⟨by rfl, ?_⟩) (by assumption) ?_
        rotate_left
        focus (intro w hSw; (try dsimp only at hSw); go_simp; (try with_reducible rfl))
        (try simp only [List.getElem_toArray, List.getElem_cons_succ, List.getElem_cons_zero, Act.put, List.setIfInBounds_toArray, List.set_cons_zero, List.set_cons_succ])
        refine wpAnyH_take (i := 1) (v := ?_) rfl (by kernel_rfl) (by kernel_rfl) (by kernel_rfl) (fun _ _ _ h => h) (Or.inl ⟨by rfl, ?_⟩) (by assumption) ?_
        rotate_left
        focus (intro w hSw; (try dsimp only at hSw); go_simp; (try with_reducible rfl))
        (try simp only [List.getElem_toArray, List.getElem_cons_succ, List.getElem_cons_zero, Act.put, List.setIfInBounds_toArray, List.set_cons_zero, List.set_cons_succ])
        refine wpAnyH_take (i := 2) (v := ?_) rfl (by kernel_rfl) (by kernel_rfl) (by kernel_rfl) (fun _ _ _ h => h) (Or.inl ⟨by rfl, ?_⟩) (by assumption) ?_
        rotate_left
        focus (intro w hSw; (try dsimp only at hSw); go_simp; (try with_reducible rfl))
        (try simp only [List.getElem_toArray, List.getElem_cons_succ, List.getElem_cons_zero, Act.put, List.setIfInBounds_toArray, List.set_cons_zero, List.set_cons_succ])
        refine wpAnyH_take (i := 3) (v := ?_) rfl (by kernel_rfl) (by kernel_rfl) (by kernel_rfl) (fun _ _ _ h => h) (Or.inl ⟨by rfl, ?_⟩) (by assumption) ?_
        rotate_left
        focus (intro w hSw; (try dsimp only at hSw); go_simp; (try with_reducible rfl))
        (try simp only [List.getElem_toArray, List.getElem_cons_succ, List.getElem_cons_zero, Act.put, List.setIfInBounds_toArray, List.set_cons_zero, List.set_cons_succ])
        refine wpAnyH_take (i := 4) (v := ?_) rfl (by kernel_rfl) (by kernel_rfl) (by kernel_rfl) (fun _ _ _ h => h) (Or.inl ⟨by rfl, ?_⟩) (by assumption) ?_
        rotate_left
        focus (intro w hSw; (try dsimp only at hSw); go_simp; (try with_reducible rfl))
        (try simp only [List.getElem_toArray, List.getElem_cons_succ, List.getElem_cons_zero, Act.put, List.setIfInBounds_toArray, List.set_cons_zero, List.set_cons_succ])
        refine wpAnyH_take (i := 5) (v := ?_) rfl (by kernel_rfl) (by kernel_rfl) (by kernel_rfl) (fun _ _ _ h => h) (Or.inl ⟨by rfl, ?_⟩) (by assumption) ?_
        rotate_left
        focus (intro w hSw; (try dsimp only at hSw); go_simp; (try with_reducible rfl))
        (try simp only [List.getElem_toArray, List.getElem_cons_succ, List.getElem_cons_zero, Act.put, List.setIfInBounds_toArray, List.set_cons_zero, List.set_cons_succ])
        refine wpAnyH_take (i := 6) (v := ?_) rfl (by kernel_rfl) (by kernel_rfl) (by kernel_rfl) (fun _ _ _ h => h) (Or.inl ⟨by rfl, ?_⟩) (by assumption) ?_
        rotate_left
        focus (intro w hSw; (try dsimp only at hSw); go_simp; (try with_reducible rfl))
        (try simp only [List.getElem_toArray, List.getElem_cons_succ, List.getElem_cons_zero, Act.put, List.setIfInBounds_toArray, List.set_cons_zero, List.set_cons_succ])
        refine wpAnyH_take (i := 7) (v := undef) rfl (by kernel_rfl) (by kernel_rfl) (by kernel_rfl) (fun _ _ _ h => h) (Or.inr ⟨by kernel_rfl, rfl⟩) (by assumption) ?_
        (try simp only [List.getElem_toArray, List.getElem_cons_succ, List.getElem_cons_zero, Act.put, List.setIfInBounds_toArray, List.set_cons_zero, List.set_cons_succ])
        refine wpAnyH_take (i := 8) (v := undef) rfl (by kernel_rfl) (by kernel_rfl) (by kernel_rfl) (fun _ _ _ h => h) (Or.inr ⟨by kernel_rfl, rfl⟩) (by assumption) ?_
        (try simp only [List.getElem_toArray, List.getElem_cons_succ, List.getElem_cons_zero, Act.put, List.setIfInBounds_toArray, List.set_cons_zero, List.set_cons_succ])
        refine wpAnyH_take (i := 9) (v := ?_) rfl (by kernel_rfl) (by kernel_rfl) (by kernel_rfl) (fun _ _ _ h => h) (Or.inl ⟨by rfl, ?_⟩) (by assumption) ?_
        rotate_left
        focus (intro w hSw; (try dsimp only at hSw); go_simp; (try with_reducible rfl))
        (try simp only [List.getElem_toArray, List.getElem_cons_succ, List.getElem_cons_zero, Act.put, List.setIfInBounds_toArray, List.set_cons_zero, List.set_cons_succ])
        refine wpAnyH_take (i := 10) (v := ?_) rfl (by kernel_rfl) (by kernel_rfl) (by kernel_rfl) (fun _ _ _ h => h) (Or.inl ⟨by rfl, ?_⟩) (by assumption) ?_
        rotate_left
        focus (intro w hSw; (try dsimp only at hSw); go_simp; (try with_reducible rfl))
        (try simp only [List.getElem_toArray, List.getElem_cons_succ, List.getElem_cons_zero, Act.put, List.setIfInBounds_toArray, List.set_cons_zero, List.set_cons_succ])
        refine wpAnyH_take (i := 11) (v := undef) rfl (by kernel_rfl) (by kernel_rfl) (by kernel_rfl) (fun _ _ _ h => h) (Or.inr ⟨by kernel_rfl, rfl⟩) (by assumption) ?_
        (try simp only [List.getElem_toArray, List.getElem_cons_succ, List.getElem_cons_zero, Act.put, List.setIfInBounds_toArray, List.set_cons_zero, List.set_cons_succ])
        refine wpAnyH_take (i := 12) (v := undef) rfl (by kernel_rfl) (by kernel_rfl) (by kernel_rfl) (fun _ _ _ h => h) (Or.inr ⟨by kernel_rfl, rfl⟩) (by assumption) ?_
        (try simp only [List.getElem_toArray, List.getElem_cons_succ, List.getElem_cons_zero, Act.put, List.setIfInBounds_toArray, List.set_cons_zero, List.set_cons_succ])
        refine wpAnyH_take (i := 13) (v := undef) rfl (by kernel_rfl) (by kernel_rfl) (by kernel_rfl) (fun _ _ _ h => h) (Or.inr ⟨by kernel_rfl, rfl⟩) (by assumption) ?_
        (try simp only [List.getElem_toArray, List.getElem_cons_succ, List.getElem_cons_zero, Act.put, List.setIfInBounds_toArray, List.set_cons_zero, List.set_cons_succ])
        refine wpAnyH_take (i := 14) (v := undef) rfl (by kernel_rfl) (by kernel_rfl) (by kernel_rfl) (fun _ _ _ h => h) (Or.inr ⟨by kernel_rfl, rfl⟩) (by assumption) ?_
        (try simp only [List.getElem_toArray, List.getElem_cons_succ, List.getElem_cons_zero, Act.put, List.setIfInBounds_toArray, List.set_cons_zero, List.set_cons_succ])
        refine wpAnyH_take (i := 15) (v := ?_) rfl (by kernel_rfl) (by kernel_rfl) (by kernel_rfl) (fun _ _ _ h => h) (Or.inl ⟨by rfl, ?_⟩) (by assumption) ?_
        rotate_left
        focus (intro w hSw; (try dsimp only at hSw); go_simp; (try with_reducible rfl))
        (try simp only [List.getElem_toArray, List.getElem_cons_succ, List.getElem_cons_zero, Act.put, List.setIfInBounds_toArray, List.set_cons_zero, List.set_cons_succ])
        refine wpAnyH_ready (rs := [16]) (by kernel_rfl) (by simp) ?_
        refine AllReadyH.cons rfl (fun K hK => ?_) AllReadyH.nil
        go_simp
        refine hK.out _ _ ?_ (fun hHeld => ?_)
        · with_reducible exact s1
        clear hK
        (try simp only [List.getElem_toArray, List.getElem_cons_succ, List.getElem_cons_zero, Act.put, List.setIfInBounds_toArray, List.set_cons_zero, List.set_cons_succ])
        refine wpAnyH_take (i := 17) (v := ?_) rfl (by kernel_rfl) (by kernel_rfl) (by kernel_rfl) (fun _ _ _ h => h) (Or.inl ⟨by rfl, ?_⟩) (by assumption) ?_
        rotate_left
        focus (intro w hSw; (try dsimp only at hSw); go_simp; (try with_reducible rfl))
        (try simp only [List.getElem_toArray, List.getElem_cons_succ, List.getElem_cons_zero, Act.put, List.setIfInBounds_toArray, List.set_cons_zero, List.set_cons_succ])
        refine wpAnyH_done (by kernel_rfl) ?_ _
        clear z0 y0 z1 y1 z2 y2 z3 y3 z4 y4 z5 y5 s0 s1 hHeld XO PK hB B ow
        replace Xf := Xf.drew
        replace Bf := below_drew Bf
        replace of := of.drew
        replace oMf := oMf.kept (grown_below (row := none) (below_drew (Below.refl _ ((((((wr.setCell ⟨w.heap.size, 0, none⟩ (.int .i64 a0)).setCell ⟨w.heap.size, 1, none⟩ (.int .i64 a1)).setCell ⟨w.heap.size, 2, none⟩ (.int .i64 a2)).setCell ⟨w.heap.size, 3, none⟩ (.int .i64 a3)).setCell ⟨w.heap.size, 4, none⟩ (.string a4)).setCell ⟨w.heap.size, 5, none⟩ (.slice A j c))))) (fun k e => by cases e)
        generalize ((((((wr.setCell ⟨w.heap.size, 0, none⟩ (.int .i64 a0)).setCell ⟨w.heap.size, 1, none⟩ (.int .i64 a1)).setCell ⟨w.heap.size, 2, none⟩ (.int .i64 a2)).setCell ⟨w.heap.size, 3, none⟩ (.int .i64 a3)).setCell ⟨w.heap.size, 4, none⟩ (.string a4)).setCell ⟨w.heap.size, 5, none⟩ (.slice A j c)).drew = w9 at Xf Bf of oMf ⊢
        go_wp2
        have k0 := Xf.cell (i := 0) rfl
        have k1 := Xf.cell (i := 1) rfl
        have k2 := Xf.cell (i := 2) rfl
        have k3 := Xf.cell (i := 3) rfl
        have k4 := Xf.cell (i := 4) rfl
        have k5 := Xf.cell (i := 5) rfl
        refine bodyPost_ret (v := .tuple #[.agg #[.int .i64 a0, .int .i64 a1, .int .i64 a2, .int .i64 a3, .string a4, .slice A j c], .bool false]) (by simp [results, Tryd.results30, go_sem, k0, k1, k2, k3, k4, k5]) rfl ?_
        refine ⟨⟨a0, a1, a2, a3, a4, (M.map CM.m).map (·.t)⟩, A, c, M, ?_, ?_, ?_, rfl, oMf.low (by omega), Bf⟩
        · simp only [List.length_map, hMl]
        · intro h; cases h
        · simp only [List.length_map, hMl]
          exact own_base of (by omega)
      | some q =>
        have hgd := HG1.out q hoj
        have hne := HNE.out q hoj
        have hMt := hMt (by rw [hoj]; simp)
        rw [hoj] at R
        obtain ⟨hB, hq⟩ := R
        obtain ⟨hf1, hf2⟩ := hfit
        obtain ⟨LL, hLL⟩ : ∃ LL, (rL (rCng s) j o5).1 = LL := ⟨_, rfl⟩
        rw [hLL] at hgd hMt hf1 hf2 hln
        have HLL : Hid (∀ f : Bool, True) := Lib.hid (fun _ => trivial)
        clear HBAD HG0 HG1 HNE hoj HLL
        have CH := CngsO.read ow hMl oM (fun cm hc p hp => by
          have h1 : cm.m.t ∈ LL := by rw [← hMt]; exact List.mem_map.2 ⟨cm.m, List.mem_map.2 ⟨cm, hc, rfl⟩, rfl⟩
          obtain ⟨i, hi, he⟩ := List.getElem_of_mem hc
          have h2 := oM.all i hi
          rw [he] at h2
          exact hf2 _ h1 _ (by rw [← h2]; exact List.mem_map.2 ⟨p, hp, rfl⟩))
        rw [hMt] at CH
        have SB := Lib.hid (fun W (h : Below wr.heap.size wr W) => specSayBytes_any ⟨a0, a1, a2, a3, a4, LL⟩ A c W hf1 (CH.on h))
        simp only [hln] at SB
        generalize syBytes ⟨a0, a1, a2, a3, a4, LL⟩ = yb at SB hgd
        have e3 : (s.toList == []) = false := empty_list (show emptyB s = false from decide_eq_false hne)
        have e3' : (s.toList != []) = true := by rw [bne, e3]; rfl
        have HGD := Lib.hid hgd
        clear hgd
        obtain ⟨q9, hq9⟩ : ∃ b : Bool, (yb.toList == s.toList) = b := ⟨_, rfl⟩
        have HGQ : Hid (gd = q9) := Lib.hid (by rw [HGD.out, hq9])
        obtain rfl := HGQ.out
        go_upto_region 11 with (fail)
        replace hB := hB.drew
        replace PK := PK.drew
        have hbd := below_drew (Below.refl wr.heap.size wr)
        have s0 : (fun W => W.cell? ⟨P, 0, none⟩ = some (.int .i64 a0) ∧ W.cell? ⟨P, 1, none⟩ = some (.int .i64 a1) ∧ W.cell? ⟨P, 2, none⟩ = some (.int .i64 a2) ∧ W.cell? ⟨P, 3, none⟩ = some (.int .i64 a3) ∧ W.cell? ⟨P, 4, none⟩ = some (.string a4) ∧ W.cell? ⟨P, 5, none⟩ = some (.slice A j c) ∧ W.cell? ⟨w.heap.size + 1, 2, none⟩ = some (.bool false)) wr.drew := ⟨PK.cell (i := 0) rfl, PK.cell (i := 1) rfl, PK.cell (i := 2) rfl, PK.cell (i := 3) rfl, PK.cell (i := 4) rfl, PK.cell (i := 5) rfl, hB.cell (i := 2) rfl⟩
        refine wp_region_held_drew (S := fun W => W.cell? ⟨P, 0, none⟩ = some (.int .i64 a0) ∧ W.cell? ⟨P, 1, none⟩ = some (.int .i64 a1) ∧ W.cell? ⟨P, 2, none⟩ = some (.int .i64 a2) ∧ W.cell? ⟨P, 3, none⟩ = some (.int .i64 a3) ∧ W.cell? ⟨P, 4, none⟩ = some (.string a4) ∧ W.cell? ⟨P, 5, none⟩ = some (.slice A j c) ∧ W.cell? ⟨w.heap.size + 1, 2, none⟩ = some (.bool false)) (by kernel_rfl) s0 (fun hHeld => ?_)
        refine wpAnyH_take (i := 0) (v := ?_) rfl (by kernel_rfl) (by kernel_rfl) (by kernel_rfl) (fun _ _ _ h => h) (Or.inl ⟨by rfl, ?_⟩) (by assumption) ?_
        rotate_left
        focus (intro w hSw; (try dsimp only at hSw); go_simp; (try with_reducible rfl))
        (try simp only [List.getElem_toArray, List.getElem_cons_succ, List.getElem_cons_zero, Act.put, List.setIfInBounds_toArray, List.set_cons_zero, List.set_cons_succ])
        refine wpAnyH_take (i := 1) (v := ?_) rfl (by kernel_rfl) (by kernel_rfl) (by kernel_rfl) (fun _ _ _ h => h) (Or.inl ⟨by rfl, ?_⟩) (by assumption) ?_
        rotate_left
        focus (intro w hSw; (try dsimp only at hSw); go_simp; (try with_reducible rfl))
        (try simp only [List.getElem_toArray, List.getElem_cons_succ, List.getElem_cons_zero, Act.put, List.setIfInBounds_toArray, List.set_cons_zero, List.set_cons_succ])
        refine wpAnyH_take (i := 2) (v := ?_) rfl (by kernel_rfl) (by kernel_rfl) (by kernel_rfl) (fun _ _ _ h => h) (Or.inl ⟨by rfl, ?_⟩) (by assumption) ?_
        rotate_left
        focus (intro w hSw; (try dsimp only at hSw); go_simp; (try with_reducible rfl))
        (try simp only [List.getElem_toArray, List.getElem_cons_succ, List.getElem_cons_zero, Act.put, List.setIfInBounds_toArray, List.set_cons_zero, List.set_cons_succ])
        refine wpAnyH_take (i := 3) (v := ?_) rfl (by kernel_rfl) (by kernel_rfl) (by kernel_rfl) (fun _ _ _ h => h) (Or.inl ⟨by rfl, ?_⟩) (by assumption) ?_
        rotate_left
        focus (intro w hSw; (try dsimp only at hSw); go_simp; (try with_reducible rfl))
        (try simp only [List.getElem_toArray, List.getElem_cons_succ, List.getElem_cons_zero, Act.put, List.setIfInBounds_toArray, List.set_cons_zero, List.set_cons_succ])
        refine wpAnyH_take (i := 4) (v := ?_) rfl (by kernel_rfl) (by kernel_rfl) (by kernel_rfl) (fun _ _ _ h => h) (Or.inl ⟨by rfl, ?_⟩) (by assumption) ?_
        rotate_left
        focus (intro w hSw; (try dsimp only at hSw); go_simp; (try with_reducible rfl))
        (try simp only [List.getElem_toArray, List.getElem_cons_succ, List.getElem_cons_zero, Act.put, List.setIfInBounds_toArray, List.set_cons_zero, List.set_cons_succ])
        refine wpAnyH_take (i := 5) (v := ?_) rfl (by kernel_rfl) (by kernel_rfl) (by kernel_rfl) (fun _ _ _ h => h) (Or.inl ⟨by rfl, ?_⟩) (by assumption) ?_
        rotate_left
        focus (intro w hSw; (try dsimp only at hSw); go_simp; (try with_reducible rfl))
        (try simp only [List.getElem_toArray, List.getElem_cons_succ, List.getElem_cons_zero, Act.put, List.setIfInBounds_toArray, List.set_cons_zero, List.set_cons_succ])
        refine wpAnyH_take (i := 6) (v := ?_) rfl (by kernel_rfl) (by kernel_rfl) (by kernel_rfl) (fun _ _ _ h => h) (Or.inl ⟨by rfl, ?_⟩) (by assumption) ?_
        rotate_left
        focus (intro w hSw; (try dsimp only at hSw); go_simp; (try with_reducible rfl))
        (try simp only [List.getElem_toArray, List.getElem_cons_succ, List.getElem_cons_zero, Act.put, List.setIfInBounds_toArray, List.set_cons_zero, List.set_cons_succ])
        refine wpAnyH_take (i := 7) (v := ?_) rfl (by kernel_rfl) (by kernel_rfl) (by kernel_rfl) (fun _ _ _ h => h) (Or.inl ⟨by rfl, ?_⟩) (by assumption) ?_
        rotate_left
        focus (intro w hSw; (try dsimp only at hSw); go_simp; (try with_reducible rfl))
        (try simp only [List.getElem_toArray, List.getElem_cons_succ, List.getElem_cons_zero, Act.put, List.setIfInBounds_toArray, List.set_cons_zero, List.set_cons_succ])
        refine wpAnyH_take (i := 8) (v := ?_) rfl (by kernel_rfl) (by kernel_rfl) (by kernel_rfl) (fun _ _ _ h => h) (Or.inl ⟨by rfl, ?_⟩) (by assumption) ?_
        rotate_left
        focus (intro w hSw; (try dsimp only at hSw); go_simp; (try with_reducible rfl))
        (try simp only [List.getElem_toArray, List.getElem_cons_succ, List.getElem_cons_zero, Act.put, List.setIfInBounds_toArray, List.set_cons_zero, List.set_cons_succ])
        refine wpAnyH_take (i := 9) (v := ?_) rfl (by kernel_rfl) (by kernel_rfl) (by kernel_rfl) (fun _ _ _ h => h) (Or.inl ⟨by rfl, ?_⟩) (by assumption) ?_
        rotate_left
        focus (intro w hSw; (try dsimp only at hSw); go_simp; (try with_reducible rfl))
        (try simp only [List.getElem_toArray, List.getElem_cons_succ, List.getElem_cons_zero, Act.put, List.setIfInBounds_toArray, List.set_cons_zero, List.set_cons_succ])
        refine wpAnyH_take (i := 10) (v := ?_) rfl (by kernel_rfl) (by kernel_rfl) (by kernel_rfl) (fun _ _ _ h => h) (Or.inl ⟨by rfl, ?_⟩) (by assumption) ?_
        rotate_left
        focus (intro w hSw; (try dsimp only at hSw); go_simp; (try with_reducible rfl))
        (try simp only [List.getElem_toArray, List.getElem_cons_succ, List.getElem_cons_zero, Act.put, List.setIfInBounds_toArray, List.set_cons_zero, List.set_cons_succ])
        refine wpAnyH_take (i := 11) (v := ?_) rfl (by kernel_rfl) (by kernel_rfl) (by kernel_rfl) (fun _ _ _ h => h) (Or.inl ⟨by rfl, ?_⟩) (by assumption) ?_
        rotate_left
        focus (intro w hSw; (try dsimp only at hSw); go_simp; (try with_reducible rfl))
        (try simp only [List.getElem_toArray, List.getElem_cons_succ, List.getElem_cons_zero, Act.put, List.setIfInBounds_toArray, List.set_cons_zero, List.set_cons_succ])
        refine wpAnyH_take (i := 13) (v := ?_) rfl (by kernel_rfl) (by kernel_rfl) (by kernel_rfl) (fun _ _ _ h => h) (Or.inl ⟨by rfl, ?_⟩) (by assumption) ?_
        rotate_left
        focus (intro w hSw; (try dsimp only at hSw); go_simp; (try with_reducible rfl))
        (try simp only [List.getElem_toArray, List.getElem_cons_succ, List.getElem_cons_zero, Act.put, List.setIfInBounds_toArray, List.set_cons_zero, List.set_cons_succ])
        refine wpAnyH_ready (rs := [12]) (by kernel_rfl) (by simp) ?_
        refine AllReadyH.cons rfl (fun K hK => ?_) AllReadyH.nil
        (go_simp; go_at_call 53; (with_reducible refine (SB.out _ hbd).mono ?_); rintro e wy ⟨rfl, hby⟩; replace PK := PK.below hby PK.lt; replace hB := hB.below hby hB.lt; have hbb := hbd.trans (hby.mono hbd.size); replace XO := XO.below hbb XO.lt; replace B := B.trans (hbb.mono B.size); replace ow := row_below ow hbb (Nat.le_refl _); replace oM := oM.kept (grown_below (row := none) hbb) (fun k e => by cases e); have s1 : (fun W => W.cell? ⟨P, 0, none⟩ = some (.int .i64 a0) ∧ W.cell? ⟨P, 1, none⟩ = some (.int .i64 a1) ∧ W.cell? ⟨P, 2, none⟩ = some (.int .i64 a2) ∧ W.cell? ⟨P, 3, none⟩ = some (.int .i64 a3) ∧ W.cell? ⟨P, 4, none⟩ = some (.string a4) ∧ W.cell? ⟨P, 5, none⟩ = some (.slice A j c) ∧ W.cell? ⟨w.heap.size + 1, 2, none⟩ = some (.bool false)) wy := ⟨PK.cell (i := 0) rfl, PK.cell (i := 1) rfl, PK.cell (i := 2) rfl, PK.cell (i := 3) rfl, PK.cell (i := 4) rfl, PK.cell (i := 5) rfl, hB.cell (i := 2) rfl⟩)
        refine hK.out _ _ ?_ (fun hHeld => ?_)
        · with_reducible exact s1
        clear hK
        (try simp only [List.getElem_toArray, List.getElem_cons_succ, List.getElem_cons_zero, Act.put, List.setIfInBounds_toArray, List.set_cons_zero, List.set_cons_succ])
        refine wpAnyH_take (i := 14) (v := ?_) rfl (by kernel_rfl) (by kernel_rfl) (by kernel_rfl) (fun _ _ _ h => h) (Or.inl ⟨by rfl, ?_⟩) (by assumption) ?_
        rotate_left
        focus (intro w hSw; (try dsimp only at hSw); go_simp; (try with_reducible rfl))
        (try simp only [List.getElem_toArray, List.getElem_cons_succ, List.getElem_cons_zero, Act.put, List.setIfInBounds_toArray, List.set_cons_zero, List.set_cons_succ])
        refine wpAnyH_take (i := 15) (v := ?_) rfl (by kernel_rfl) (by kernel_rfl) (by kernel_rfl) (fun _ _ _ h => h) (Or.inl ⟨by rfl, ?_⟩) (by assumption) ?_
        rotate_left
        focus (intro w hSw; (try dsimp only at hSw); go_simp; (try with_reducible rfl))
        (try simp only [List.getElem_toArray, List.getElem_cons_succ, List.getElem_cons_zero, Act.put, List.setIfInBounds_toArray, List.set_cons_zero, List.set_cons_succ])
        have z0 := XO.cell (i := 0) rfl
        have y0 := XO.froz 0
        have z1 := XO.cell (i := 1) rfl
        have y1 := XO.froz 1
        have z2 := XO.cell (i := 2) rfl
        have y2 := XO.froz 2
        have z3 := XO.cell (i := 3) rfl
        have y3 := XO.froz 3
        have z4 := XO.cell (i := 4) rfl
        have y4 := XO.froz 4
        have z5 := XO.cell (i := 5) rfl
        have y5 := XO.froz 5
        have Xf := ((((((XO.put 0 (.int .i64 a0)).put 1 (.int .i64 a1)).put 2 (.int .i64 a2)).put 3 (.int .i64 a3)).put 4 (.string a4)).put 5 (.slice A j c))
        simp only [List.set_cons_succ, List.set_cons_zero] at Xf
        have Bf := ((((((B.setCell (p := ⟨w.heap.size, 0, none⟩) (Nat.le_refl _) (.int .i64 a0)).setCell (p := ⟨w.heap.size, 1, none⟩) (Nat.le_refl _) (.int .i64 a1)).setCell (p := ⟨w.heap.size, 2, none⟩) (Nat.le_refl _) (.int .i64 a2)).setCell (p := ⟨w.heap.size, 3, none⟩) (Nat.le_refl _) (.int .i64 a3)).setCell (p := ⟨w.heap.size, 4, none⟩) (Nat.le_refl _) (.string a4)).setCell (p := ⟨w.heap.size, 5, none⟩) (Nat.le_refl _) (.slice A j c))
        have of := (row_far (row_far (row_far (row_far (row_far (row_far ow (p := ⟨w.heap.size, 0, none⟩) (by simp; omega) (.int .i64 a0)) (p := ⟨w.heap.size, 1, none⟩) (by simp; omega) (.int .i64 a1)) (p := ⟨w.heap.size, 2, none⟩) (by simp; omega) (.int .i64 a2)) (p := ⟨w.heap.size, 3, none⟩) (by simp; omega) (.int .i64 a3)) (p := ⟨w.heap.size, 4, none⟩) (by simp; omega) (.string a4)) (p := ⟨w.heap.size, 5, none⟩) (by simp; omega) (.slice A j c))
        have oMf := ((((((oM.set (p := ⟨w.heap.size, 0, none⟩) (by simp; omega) (.int .i64 a0)).set (p := ⟨w.heap.size, 1, none⟩) (by simp; omega) (.int .i64 a1)).set (p := ⟨w.heap.size, 2, none⟩) (by simp; omega) (.int .i64 a2)).set (p := ⟨w.heap.size, 3, none⟩) (by simp; omega) (.int .i64 a3)).set (p := ⟨w.heap.size, 4, none⟩) (by simp; omega) (.string a4)).set (p := ⟨w.heap.size, 5, none⟩) (by simp; omega) (.slice A j c))
        have PKf := ((((((PK.far (p := ⟨w.heap.size, 0, none⟩) (by simp; omega) (.int .i64 a0)).far (p := ⟨w.heap.size, 1, none⟩) (by simp; omega) (.int .i64 a1)).far (p := ⟨w.heap.size, 2, none⟩) (by simp; omega) (.int .i64 a2)).far (p := ⟨w.heap.size, 3, none⟩) (by simp; omega) (.int .i64 a3)).far (p := ⟨w.heap.size, 4, none⟩) (by simp; omega) (.string a4)).far (p := ⟨w.heap.size, 5, none⟩) (by simp; omega) (.slice A j c))
        have RBf := ((((((hB.far (p := ⟨w.heap.size, 0, none⟩) (by simp) (.int .i64 a0)).far (p := ⟨w.heap.size, 1, none⟩) (by simp) (.int .i64 a1)).far (p := ⟨w.heap.size, 2, none⟩) (by simp) (.int .i64 a2)).far (p := ⟨w.heap.size, 3, none⟩) (by simp) (.int .i64 a3)).far (p := ⟨w.heap.size, 4, none⟩) (by simp) (.string a4)).far (p := ⟨w.heap.size, 5, none⟩) (by simp) (.slice A j c))
        have s2 : (fun W => W.cell? ⟨P, 0, none⟩ = some (.int .i64 a0) ∧ W.cell? ⟨P, 1, none⟩ = some (.int .i64 a1) ∧ W.cell? ⟨P, 2, none⟩ = some (.int .i64 a2) ∧ W.cell? ⟨P, 3, none⟩ = some (.int .i64 a3) ∧ W.cell? ⟨P, 4, none⟩ = some (.string a4) ∧ W.cell? ⟨P, 5, none⟩ = some (.slice A j c) ∧ W.cell? ⟨w.heap.size + 1, 2, none⟩ = some (.bool false)) ((((((wy.setCell ⟨w.heap.size, 0, none⟩ (.int .i64 a0)).setCell ⟨w.heap.size, 1, none⟩ (.int .i64 a1)).setCell ⟨w.heap.size, 2, none⟩ (.int .i64 a2)).setCell ⟨w.heap.size, 3, none⟩ (.int .i64 a3)).setCell ⟨w.heap.size, 4, none⟩ (.string a4)).setCell ⟨w.heap.size, 5, none⟩ (.slice A j c)) := ⟨PKf.cell (i := 0) rfl, PKf.cell (i := 1) rfl, PKf.cell (i := 2) rfl, PKf.cell (i := 3) rfl, PKf.cell (i := 4) rfl, PKf.cell (i := 5) rfl, RBf.cell (i := 2) rfl⟩
        refine wpAnyH_ready (rs := [16]) (by kernel_rfl) (by simp) ?_
        refine AllReadyH.cons rfl (fun K hK => ?_) AllReadyH.nil
        go_simp
        refine hK.out _ _ ?_ (fun hHeld => ?_)
        · with_reducible exact s2
        clear hK
        (try simp only [List.getElem_toArray, List.getElem_cons_succ, List.getElem_cons_zero, Act.put, List.setIfInBounds_toArray, List.set_cons_zero, List.set_cons_succ])
        refine wpAnyH_take (i := 17) (v := ?_) rfl (by kernel_rfl) (by kernel_rfl) (by kernel_rfl) (fun _ _ _ h => h) (Or.inl ⟨by rfl, ?_⟩) (by assumption) ?_
        rotate_left
        focus (intro w hSw; (try dsimp only at hSw); go_simp; (try with_reducible rfl))
        (try simp only [List.getElem_toArray, List.getElem_cons_succ, List.getElem_cons_zero, Act.put, List.setIfInBounds_toArray, List.set_cons_zero, List.set_cons_succ])
        refine wpAnyH_done (by kernel_rfl) ?_ _
        clear z0 y0 z1 y1 z2 y2 z3 y3 z4 y4 z5 y5 s0 s1 s2 hHeld XO PK hB B ow SB
        generalize ((((((wy.setCell ⟨w.heap.size, 0, none⟩ (.int .i64 a0)).setCell ⟨w.heap.size, 1, none⟩ (.int .i64 a1)).setCell ⟨w.heap.size, 2, none⟩ (.int .i64 a2)).setCell ⟨w.heap.size, 3, none⟩ (.int .i64 a3)).setCell ⟨w.heap.size, 4, none⟩ (.string a4)).setCell ⟨w.heap.size, 5, none⟩ (.slice A j c)) = w9 at Xf Bf of oMf ⊢
        go_wp2
        have k0 := Xf.cell (i := 0) rfl
        have k1 := Xf.cell (i := 1) rfl
        have k2 := Xf.cell (i := 2) rfl
        have k3 := Xf.cell (i := 3) rfl
        have k4 := Xf.cell (i := 4) rfl
        have k5 := Xf.cell (i := 5) rfl
        refine bodyPost_ret (v := .tuple #[.agg #[.int .i64 a0, .int .i64 a1, .int .i64 a2, .int .i64 a3, .string a4, .slice A j c], .bool gd]) (by simp [results, Tryd.results30, go_sem, k0, k1, k2, k3, k4, k5]) rfl ?_
        refine ⟨⟨a0, a1, a2, a3, a4, (M.map CM.m).map (·.t)⟩, A, c, M, ?_, ?_, ?_, rfl, oMf.low (by omega), Bf⟩
        · simp only [List.length_map, hMl]
        · intro _; rw [hMt]
        · simp only [List.length_map, hMl]
          exact own_base of (by omega)
    have hlt : (0 : Int) < (kk : Int) := by omega
    cases hoj : (rL (rCng s) j o5).2 with
    | none =>
      obtain rfl : gd = false := HBAD.out j (by omega) hoj
      rw [hoj] at R
      have R' := R
      obtain ⟨qb0, hqb0, hB0⟩ := R'
      have rc2 := hB0.cell (i := 2) rfl
      clear HBAD HG0 HG1 hoj hfit hB0
      go_upto_region 11 with (fail)
      clear rc2
      obtain ⟨qb, hqb, hB⟩ := R
      have z0 := XO.cell (i := 0) rfl
      have y0 := XO.froz 0
      have z1 := XO.cell (i := 1) rfl
      have y1 := XO.froz 1
      have z2 := XO.cell (i := 2) rfl
      have y2 := XO.froz 2
      have z3 := XO.cell (i := 3) rfl
      have y3 := XO.froz 3
      have z4 := XO.cell (i := 4) rfl
      have y4 := XO.froz 4
      have z5 := XO.cell (i := 5) rfl
      have y5 := XO.froz 5
      have s0 : (fun W => W.cell? ⟨P, 0, none⟩ = some (.int .i64 a0) ∧ W.cell? ⟨P, 1, none⟩ = some (.int .i64 a1) ∧ W.cell? ⟨P, 2, none⟩ = some (.int .i64 a2) ∧ W.cell? ⟨P, 3, none⟩ = some (.int .i64 a3) ∧ W.cell? ⟨P, 4, none⟩ = some (.string a4) ∧ W.cell? ⟨P, 5, none⟩ = some (.slice A j c) ∧ W.cell? ⟨w.heap.size + 1, 2, none⟩ = some (.bool true)) wr.drew := ⟨PK.drew.cell (i := 0) rfl, PK.drew.cell (i := 1) rfl, PK.drew.cell (i := 2) rfl, PK.drew.cell (i := 3) rfl, PK.drew.cell (i := 4) rfl, PK.drew.cell (i := 5) rfl, hB.drew.cell (i := 2) rfl⟩
      have Xf := ((((((XO.put 0 (.int .i64 a0)).put 1 (.int .i64 a1)).put 2 (.int .i64 a2)).put 3 (.int .i64 a3)).put 4 (.string a4)).put 5 (.slice A j c))
      simp only [List.set_cons_succ, List.set_cons_zero] at Xf
      have Bf := ((((((B.setCell (p := ⟨w.heap.size, 0, none⟩) (Nat.le_refl _) (.int .i64 a0)).setCell (p := ⟨w.heap.size, 1, none⟩) (Nat.le_refl _) (.int .i64 a1)).setCell (p := ⟨w.heap.size, 2, none⟩) (Nat.le_refl _) (.int .i64 a2)).setCell (p := ⟨w.heap.size, 3, none⟩) (Nat.le_refl _) (.int .i64 a3)).setCell (p := ⟨w.heap.size, 4, none⟩) (Nat.le_refl _) (.string a4)).setCell (p := ⟨w.heap.size, 5, none⟩) (Nat.le_refl _) (.slice A j c))
      have of := (row_far (row_far (row_far (row_far (row_far (row_far ow (p := ⟨w.heap.size, 0, none⟩) (by simp; omega) (.int .i64 a0)) (p := ⟨w.heap.size, 1, none⟩) (by simp; omega) (.int .i64 a1)) (p := ⟨w.heap.size, 2, none⟩) (by simp; omega) (.int .i64 a2)) (p := ⟨w.heap.size, 3, none⟩) (by simp; omega) (.int .i64 a3)) (p := ⟨w.heap.size, 4, none⟩) (by simp; omega) (.string a4)) (p := ⟨w.heap.size, 5, none⟩) (by simp; omega) (.slice A j c))
      have oMf := ((((((oM.set (p := ⟨w.heap.size, 0, none⟩) (by simp; omega) (.int .i64 a0)).set (p := ⟨w.heap.size, 1, none⟩) (by simp; omega) (.int .i64 a1)).set (p := ⟨w.heap.size, 2, none⟩) (by simp; omega) (.int .i64 a2)).set (p := ⟨w.heap.size, 3, none⟩) (by simp; omega) (.int .i64 a3)).set (p := ⟨w.heap.size, 4, none⟩) (by simp; omega) (.string a4)).set (p := ⟨w.heap.size, 5, none⟩) (by simp; omega) (.slice A j c))
      have PKf := ((((((PK.far (p := ⟨w.heap.size, 0, none⟩) (by simp; omega) (.int .i64 a0)).far (p := ⟨w.heap.size, 1, none⟩) (by simp; omega) (.int .i64 a1)).far (p := ⟨w.heap.size, 2, none⟩) (by simp; omega) (.int .i64 a2)).far (p := ⟨w.heap.size, 3, none⟩) (by simp; omega) (.int .i64 a3)).far (p := ⟨w.heap.size, 4, none⟩) (by simp; omega) (.string a4)).far (p := ⟨w.heap.size, 5, none⟩) (by simp; omega) (.slice A j c))
      have RBf := ((((((hB.far (p := ⟨w.heap.size, 0, none⟩) (by simp) (.int .i64 a0)).far (p := ⟨w.heap.size, 1, none⟩) (by simp) (.int .i64 a1)).far (p := ⟨w.heap.size, 2, none⟩) (by simp) (.int .i64 a2)).far (p := ⟨w.heap.size, 3, none⟩) (by simp) (.int .i64 a3)).far (p := ⟨w.heap.size, 4, none⟩) (by simp) (.string a4)).far (p := ⟨w.heap.size, 5, none⟩) (by simp) (.slice A j c))
      have s1 : (fun W => W.cell? ⟨P, 0, none⟩ = some (.int .i64 a0) ∧ W.cell? ⟨P, 1, none⟩ = some (.int .i64 a1) ∧ W.cell? ⟨P, 2, none⟩ = some (.int .i64 a2) ∧ W.cell? ⟨P, 3, none⟩ = some (.int .i64 a3) ∧ W.cell? ⟨P, 4, none⟩ = some (.string a4) ∧ W.cell? ⟨P, 5, none⟩ = some (.slice A j c) ∧ W.cell? ⟨w.heap.size + 1, 2, none⟩ = some (.bool true)) ((((((wr.setCell ⟨w.heap.size, 0, none⟩ (.int .i64 a0)).setCell ⟨w.heap.size, 1, none⟩ (.int .i64 a1)).setCell ⟨w.heap.size, 2, none⟩ (.int .i64 a2)).setCell ⟨w.heap.size, 3, none⟩ (.int .i64 a3)).setCell ⟨w.heap.size, 4, none⟩ (.string a4)).setCell ⟨w.heap.size, 5, none⟩ (.slice A j c)).drew := ⟨PKf.drew.cell (i := 0) rfl, PKf.drew.cell (i := 1) rfl, PKf.drew.cell (i := 2) rfl, PKf.drew.cell (i := 3) rfl, PKf.drew.cell (i := 4) rfl, PKf.drew.cell (i := 5) rfl, RBf.drew.cell (i := 2) rfl⟩
      clear hMt HNE
      refine wp_region_held_drew (S := fun W => W.cell? ⟨P, 0, none⟩ = some (.int .i64 a0) ∧ W.cell? ⟨P, 1, none⟩ = some (.int .i64 a1) ∧ W.cell? ⟨P, 2, none⟩ = some (.int .i64 a2) ∧ W.cell? ⟨P, 3, none⟩ = some (.int .i64 a3) ∧ W.cell? ⟨P, 4, none⟩ = some (.string a4) ∧ W.cell? ⟨P, 5, none⟩ = some (.slice A j c) ∧ W.cell? ⟨w.heap.size + 1, 2, none⟩ = some (.bool true)) (by kernel_rfl) s0 (fun hHeld => ?_)
      refine wpAnyH_take (i := 0) (v := ?_) rfl (by kernel_rfl) (by kernel_rfl) (by kernel_rfl) (fun _ _ _ h => h) (Or.inl ⟨by rfl, ?_⟩) (by assumption) ?_
      rotate_left
      focus (intro w hSw; (try dsimp only at hSw); go_simp; (try with_reducible rfl))
      (try simp only [List.getElem_toArray, List.getElem_cons_succ, List.getElem_cons_zero, Act.put, List.setIfInBounds_toArray, List.set_cons_zero, List.set_cons_succ])
      refine wpAnyH_take (i := 1) (v := ?_) rfl (by kernel_rfl) (by kernel_rfl) (by kernel_rfl) (fun _ _ _ h => h) (Or.inl ⟨by rfl, ?_⟩) (by assumption) ?_
      rotate_left
      focus (intro w hSw; (try dsimp only at hSw); go_simp; (try with_reducible rfl))
      (try simp only [List.getElem_toArray, List.getElem_cons_succ, List.getElem_cons_zero, Act.put, List.setIfInBounds_toArray, List.set_cons_zero, List.set_cons_succ])
      refine wpAnyH_take (i := 2) (v := ?_) rfl (by kernel_rfl) (by kernel_rfl) (by kernel_rfl) (fun _ _ _ h => h) (Or.inl ⟨by rfl, ?_⟩) (by assumption) ?_
      rotate_left
      focus (intro w hSw; (try dsimp only at hSw); go_simp; (try with_reducible rfl))
      (try simp only [List.getElem_toArray, List.getElem_cons_succ, List.getElem_cons_zero, Act.put, List.setIfInBounds_toArray, List.set_cons_zero, List.set_cons_succ])
      refine wpAnyH_take (i := 3) (v := ?_) rfl (by kernel_rfl) (by kernel_rfl) (by kernel_rfl) (fun _ _ _ h => h) (Or.inl ⟨by rfl, ?_⟩) (by assumption) ?_
      rotate_left
      focus (intro w hSw; (try dsimp only at hSw); go_simp; (try with_reducible rfl))
      (try simp only [List.getElem_toArray, List.getElem_cons_succ, List.getElem_cons_zero, Act.put, List.setIfInBounds_toArray, List.set_cons_zero, List.set_cons_succ])
      refine wpAnyH_take (i := 4) (v := ?_) rfl (by kernel_rfl) (by kernel_rfl) (by kernel_rfl) (fun _ _ _ h => h) (Or.inl ⟨by rfl, ?_⟩) (by assumption) ?_
      rotate_left
      focus (intro w hSw; (try dsimp only at hSw); go_simp; (try with_reducible rfl))
      (try simp only [List.getElem_toArray, List.getElem_cons_succ, List.getElem_cons_zero, Act.put, List.setIfInBounds_toArray, List.set_cons_zero, List.set_cons_succ])
      refine wpAnyH_take (i := 5) (v := ?_) rfl (by kernel_rfl) (by kernel_rfl) (by kernel_rfl) (fun _ _ _ h => h) (Or.inl ⟨by rfl, ?_⟩) (by assumption) ?_
      rotate_left
      focus (intro w hSw; (try dsimp only at hSw); go_simp; (try with_reducible rfl))
      (try simp only [List.getElem_toArray, List.getElem_cons_succ, List.getElem_cons_zero, Act.put, List.setIfInBounds_toArray, List.set_cons_zero, List.set_cons_succ])
      refine wpAnyH_take (i := 6) (v := ?_) rfl (by kernel_rfl) (by kernel_rfl) (by kernel_rfl) (fun _ _ _ h => h) (Or.inl ⟨by rfl, ?_⟩) (by assumption) ?_
      rotate_left
      focus (intro w hSw; (try dsimp only at hSw); go_simp; (try with_reducible rfl))
      (try simp only [List.getElem_toArray, List.getElem_cons_succ, List.getElem_cons_zero, Act.put, List.setIfInBounds_toArray, List.set_cons_zero, List.set_cons_succ])
      refine wpAnyH_take (i := 7) (v := undef) rfl (by kernel_rfl) (by kernel_rfl) (by kernel_rfl) (fun _ _ _ h => h) (Or.inr ⟨by kernel_rfl, rfl⟩) (by assumption) ?_
      (try simp only [List.getElem_toArray, List.getElem_cons_succ, List.getElem_cons_zero, Act.put, List.setIfInBounds_toArray, List.set_cons_zero, List.set_cons_succ])
      refine wpAnyH_take (i := 8) (v := undef) rfl (by kernel_rfl) (by kernel_rfl) (by kernel_rfl) (fun _ _ _ h => h) (Or.inr ⟨by kernel_rfl, rfl⟩) (by assumption) ?_
      (try simp only [List.getElem_toArray, List.getElem_cons_succ, List.getElem_cons_zero, Act.put, List.setIfInBounds_toArray, List.set_cons_zero, List.set_cons_succ])
      refine wpAnyH_take (i := 9) (v := ?_) rfl (by kernel_rfl) (by kernel_rfl) (by kernel_rfl) (fun _ _ _ h => h) (Or.inl ⟨by rfl, ?_⟩) (by assumption) ?_
      rotate_left
      focus (intro w hSw; (try dsimp only at hSw); go_simp; (try with_reducible rfl))
      (try simp only [List.getElem_toArray, List.getElem_cons_succ, List.getElem_cons_zero, Act.put, List.setIfInBounds_toArray, List.set_cons_zero, List.set_cons_succ])
      refine wpAnyH_take (i := 10) (v := ?_) rfl (by kernel_rfl) (by kernel_rfl) (by kernel_rfl) (fun _ _ _ h => h) (Or.inl ⟨by rfl, ?_⟩) (by assumption) ?_
      rotate_left
      focus (intro w hSw; (try dsimp only at hSw); go_simp; (try with_reducible rfl))
      (try simp only [List.getElem_toArray, List.getElem_cons_succ, List.getElem_cons_zero, Act.put, List.setIfInBounds_toArray, List.set_cons_zero, List.set_cons_succ])
      refine wpAnyH_take (i := 11) (v := undef) rfl (by kernel_rfl) (by kernel_rfl) (by kernel_rfl) (fun _ _ _ h => h) (Or.inr ⟨by kernel_rfl, rfl⟩) (by assumption) ?_
      (try simp only [List.getElem_toArray, List.getElem_cons_succ, List.getElem_cons_zero, Act.put, List.setIfInBounds_toArray, List.set_cons_zero, List.set_cons_succ])
      refine wpAnyH_take (i := 12) (v := undef) rfl (by kernel_rfl) (by kernel_rfl) (by kernel_rfl) (fun _ _ _ h => h) (Or.inr ⟨by kernel_rfl, rfl⟩) (by assumption) ?_
      (try simp only [List.getElem_toArray, List.getElem_cons_succ, List.getElem_cons_zero, Act.put, List.setIfInBounds_toArray, List.set_cons_zero, List.set_cons_succ])
      refine wpAnyH_take (i := 13) (v := undef) rfl (by kernel_rfl) (by kernel_rfl) (by kernel_rfl) (fun _ _ _ h => h) (Or.inr ⟨by kernel_rfl, rfl⟩) (by assumption) ?_
      (try simp only [List.getElem_toArray, List.getElem_cons_succ, List.getElem_cons_zero, Act.put, List.setIfInBounds_toArray, List.set_cons_zero, List.set_cons_succ])
      refine wpAnyH_take (i := 14) (v := undef) rfl (by kernel_rfl) (by kernel_rfl) (by kernel_rfl) (fun _ _ _ h => h) (Or.inr ⟨by kernel_rfl, rfl⟩) (by assumption) ?_
      (try simp only [List.getElem_toArray, List.getElem_cons_succ, List.getElem_cons_zero, Act.put, List.setIfInBounds_toArray, List.set_cons_zero, List.set_cons_succ])
      refine wpAnyH_take (i := 15) (v := ?_) rfl (by kernel_rfl) (by kernel_rfl) (by kernel_rfl) (fun _ _ _ h => h) (Or.inl ⟨by rfl, ?_⟩) (by assumption) ?_
      rotate_left
      focus (intro w hSw; (try dsimp only at hSw); go_simp; (try with_reducible rfl))
      (try simp only [List.getElem_toArray, List.getElem_cons_succ, List.getElem_cons_zero, Act.put, List.setIfInBounds_toArray, List.set_cons_zero, List.set_cons_succ])
      refine wpAnyH_ready (rs := [16]) (by kernel_rfl) (by simp) ?_
      refine AllReadyH.cons rfl (fun K hK => ?_) AllReadyH.nil
      go_simp
      refine hK.out _ _ ?_ (fun hHeld => ?_)
      · with_reducible exact s1
      clear hK
      (try simp only [List.getElem_toArray, List.getElem_cons_succ, List.getElem_cons_zero, Act.put, List.setIfInBounds_toArray, List.set_cons_zero, List.set_cons_succ])
      refine wpAnyH_take (i := 17) (v := ?_) rfl (by kernel_rfl) (by kernel_rfl) (by kernel_rfl) (fun _ _ _ h => h) (Or.inl ⟨by rfl, ?_⟩) (by assumption) ?_
      rotate_left
      focus (intro w hSw; (try dsimp only at hSw); go_simp; (try with_reducible rfl))
      (try simp only [List.getElem_toArray, List.getElem_cons_succ, List.getElem_cons_zero, Act.put, List.setIfInBounds_toArray, List.set_cons_zero, List.set_cons_succ])
      refine wpAnyH_done (by kernel_rfl) ?_ _
      clear z0 y0 z1 y1 z2 y2 z3 y3 z4 y4 z5 y5 s0 s1 hHeld XO PK hB B ow
      replace Xf := Xf.drew
      replace Bf := below_drew Bf
      replace of := of.drew
      replace oMf := oMf.kept (grown_below (row := none) (below_drew (Below.refl _ ((((((wr.setCell ⟨w.heap.size, 0, none⟩ (.int .i64 a0)).setCell ⟨w.heap.size, 1, none⟩ (.int .i64 a1)).setCell ⟨w.heap.size, 2, none⟩ (.int .i64 a2)).setCell ⟨w.heap.size, 3, none⟩ (.int .i64 a3)).setCell ⟨w.heap.size, 4, none⟩ (.string a4)).setCell ⟨w.heap.size, 5, none⟩ (.slice A j c))))) (fun k e => by cases e)
      generalize ((((((wr.setCell ⟨w.heap.size, 0, none⟩ (.int .i64 a0)).setCell ⟨w.heap.size, 1, none⟩ (.int .i64 a1)).setCell ⟨w.heap.size, 2, none⟩ (.int .i64 a2)).setCell ⟨w.heap.size, 3, none⟩ (.int .i64 a3)).setCell ⟨w.heap.size, 4, none⟩ (.string a4)).setCell ⟨w.heap.size, 5, none⟩ (.slice A j c)).drew = w9 at Xf Bf of oMf ⊢
      go_wp2
      have k0 := Xf.cell (i := 0) rfl
      have k1 := Xf.cell (i := 1) rfl
      have k2 := Xf.cell (i := 2) rfl
      have k3 := Xf.cell (i := 3) rfl
      have k4 := Xf.cell (i := 4) rfl
      have k5 := Xf.cell (i := 5) rfl
      refine bodyPost_ret (v := .tuple #[.agg #[.int .i64 a0, .int .i64 a1, .int .i64 a2, .int .i64 a3, .string a4, .slice A j c], .bool false]) (by simp [results, Tryd.results30, go_sem, k0, k1, k2, k3, k4, k5]) rfl ?_
      refine ⟨⟨a0, a1, a2, a3, a4, (M.map CM.m).map (·.t)⟩, A, c, M, ?_, ?_, ?_, rfl, oMf.low (by omega), Bf⟩
      · simp only [List.length_map, hMl]
      · intro h; cases h
      · simp only [List.length_map, hMl]
        exact own_base of (by omega)
    | some p =>
      rw [hoj] at R
      have hB := R.1
      have rc2 := hB.cell (i := 2) rfl
      have HS := Lib.hid (rL_snoc (rCng s) j o5)
      obtain ⟨⟨L, oj⟩, hLj⟩ : ∃ x, rL (rCng s) j o5 = x := ⟨_, rfl⟩
      rw [hLj] at HS hMt hln hoj
      simp only at HS hMt hln hoj
      subst hoj
      clear hLj HBAD HG0 HG1 HNE
      have hMt := hMt (by simp)
      have CN := Lib.hid (fun W h2 => specChange_any (w.heap.size + 1) s (some p) W h2 hs)
      obtain ⟨⟨x, ox⟩, hx⟩ : ∃ y, rCng s (some p) = y := ⟨_, rfl⟩
      rw [hx] at HS CN
      simp only at HS CN
      clear hx
      have Rd := rdr_drew R
      have Bd := below_drew B
      have y0 := PK.drew.cell (i := 5) rfl
      have yf := PK.drew.froz 5
      have hpl := PK.lt
      have owd := ow.drew
      have PKd := PK.drew
      go_wp2_with (fail)
      clear rc2
      go_region_law
        (first
          | (go_simp; go_at_call 52; (with_reducible refine (CN.out _ Rd).mono ?_); rintro e u4 ⟨mm, Mx, rfl, oP, hmt, R4, g4⟩; have PK4 := PKd.grown g4 (fun e => by have := Option.some.inj e; omega); have y4 := PK4.cell (i := 5) rfl; have y4a := (PK4.alloc (.cells #[.int .i64 mm.t.frm, .int .i64 mm.t.view, .slice mm.A mm.t.proofs.length mm.c] 66)).cell (i := 5) rfl; have ow4 := World.ownsRow.kept owd g4 (.inr (fun e => by have := (owd.lt _ e).1; omega)); have zz := g4.size)
          | (refine step_append_lies _ (by rfl) _ _ _ (by rfl) (P + 1) 66 ii _ 3 40 Tryd.underlying32 hii iz0 iz1 iz2 rfl (by omega) (.slice A j c) j _ (by rfl) (World.ownsRow.alloc ow4 _)
                  ⟨u4.heap.size, 0, none⟩ 1 1 [.int .i64 mm.t.frm, .int .i64 mm.t.view, .slice mm.A mm.t.proofs.length mm.c] (by rfl) (by rfl) (World.news_of_block (cs := #[.int .i64 mm.t.frm, .int .i64 mm.t.view, .slice mm.A mm.t.proofs.length mm.c]) (t := 66) (fr := (0, 0)) (heap_alloc_new u4 _)) (by simp [Value.oneCell'])
                  (by omega) (by unfold maxLen; omega) (by omega) (by have := PK4.lt; simp only [World.size_alloc]; omega) (u4.heap.size + 1) (by simp) ?_; intro gg cap' u5 hown5 hgrow5 hat5 hlt5; have O5 := (PK4.alloc (.cells #[.int .i64 mm.t.frm, .int .i64 mm.t.view, .slice mm.A mm.t.proofs.length mm.c] 66)).grown hgrow5 (fun e => by have := (ow4.lt _ e.symm).1; omega); have y5 := O5.cell (i := 5) rfl; have f5 := O5.froz 5))
      all_goals
        have R6 := (((rdr_alloc R4 (.cells #[.int .i64 mm.t.frm, .int .i64 mm.t.view, .slice mm.A mm.t.proofs.length mm.c] 66)).grown hgrow5 (fun e => by have := (ow4.lt _ e.symm).1; omega)).far (p := ⟨P, 5, none⟩) (by simp; omega) (.slice (some ⟨gg, 0, none⟩) (j + 1) cap'))
        have PK6 := O5.put 5 (.slice (some ⟨gg, 0, none⟩) (j + 1) cap')
        simp only [List.set_cons_succ, List.set_cons_zero] at PK6
        have ow6 := row_far hown5 (p := ⟨P, 5, none⟩) (by simp) (.slice (some ⟨gg, 0, none⟩) (j + 1) cap')
        have X6 := ((((XO.drew.grown g4 (fun e => by have := Option.some.inj e; omega)).alloc (.cells #[.int .i64 mm.t.frm, .int .i64 mm.t.view, .slice mm.A mm.t.proofs.length mm.c] 66)).grown hgrow5 (fun e => by have := (ow4.lt _ e.symm).1; omega)).far (p := ⟨P, 5, none⟩) (by simp; omega) (.slice (some ⟨gg, 0, none⟩) (j + 1) cap'))
        have Ba := below_grown Bd g4 (by omega)
        have B6 := (below_row (Ba.alloc Ba.size (.cells #[.int .i64 mm.t.frm, .int .i64 mm.t.view, .slice mm.A mm.t.proofs.length mm.c] 66)) (Nat.le_refl _) hgrow5 (fun k e => by have := (ow4.lt k e).1; omega)).setCell (p := ⟨P, 5, none⟩) (by simp; omega) (.slice (some ⟨gg, 0, none⟩) (j + 1) cap')
        rw [show cflat (M.map CM.m) ++ [.int .i64 mm.t.frm, .int .i64 mm.t.view, .slice mm.A mm.t.proofs.length mm.c] = cflat ((M ++ [(⟨mm, Mx⟩ : CM)]).map CM.m) by rw [List.map_append, cflat_append]; rfl] at ow6
        have oM4 := ((oM.kept (grown_drew (World.grownBy.refl wr (some (w.heap.size + 1)))) (fun k e => by cases e; omega)).kept g4 (fun k e => by cases e; omega)).alloc (.cells #[.int .i64 mm.t.frm, .int .i64 mm.t.view, .slice mm.A mm.t.proofs.length mm.c] 66)
        have owa := World.ownsRow.alloc ow4 (.cells #[.int .i64 mm.t.frm, .int .i64 mm.t.view, .slice mm.A mm.t.proofs.length mm.c] 66)
        have oM6 := (oM4.row' owa (by decide) (by decide) hgrow5).set (p := ⟨P, 5, none⟩) (by simp) (.slice (some ⟨gg, 0, none⟩) (j + 1) cap')
        have oPr := row_far (World.ownsRow.kept (World.ownsRow.alloc oP.row (.cells #[.int .i64 mm.t.frm, .int .i64 mm.t.view, .slice mm.A mm.t.proofs.length mm.c] 66)) hgrow5 (own_apart (World.ownsRow.alloc oP.row (.cells #[.int .i64 mm.t.frm, .int .i64 mm.t.view, .slice mm.A mm.t.proofs.length mm.c] 66)) owa (by decide))) (p := ⟨P, 5, none⟩) (by simp; omega) (.slice (some ⟨gg, 0, none⟩) (j + 1) cap')
        have oPo := ((oP.own.alloc (.cells #[.int .i64 mm.t.frm, .int .i64 mm.t.view, .slice mm.A mm.t.proofs.length mm.c] 66)).row owa (by decide) hgrow5).set (p := ⟨P, 5, none⟩) (by simp; omega) (.slice (some ⟨gg, 0, none⟩) (j + 1) cap')
        have oN6 := oM6.snoc (mid := wr.drew.heap.size) (c := ⟨mm, Mx⟩) (CngO.mk oPr oP.all oPo) (fun i hi a e => (oM.lt i hi a e).2) (fun i hi a e => (oM.own.lt i hi a e).2) (by simp; omega)
        clear y0 yf y4 y4a y5 f5
        go_wp2_with (fail)
        exact ⟨⟨j + 1, kk - 1, _, _, M ++ [⟨mm, Mx⟩], by omega, by congr 1; omega, by rw [HS.out]; exact ⟨R6, PK6, ow6, oN6, by simp [hMl], fun hne => by rw [List.map_append, List.map_append, hMt]; simp [hmt hne], X6, B6⟩⟩, by simp [intOf]; omega⟩
theorem sout_zero (cd : Int) : True := trivial
theorem specSayRead_size (s : ByteArray) (w : World) (hs : s.size ≤ maxLen) (h : 20000 < s.size) :
    Calls Tryd.prog 10 #[.string s] w fun e w' => SyOutO w w' e (syRead s).1 (syRead s).2 := by
  have hr : syRead s = (zeroY, 2) := by unfold syRead; rw [if_pos h]
  rw [hr]
  unfold maxLen at hs
  go_enter Tryd.func10, Tryd.ntmps10
  go_wp2
  exact bodyPost_ret (v := soutV zeroY (.slice none 0 0) 2) (by simp [results, Tryd.results10, go_sem, zeroY]) rfl (SyOutO.zero (below_bx _ _))
set_option maxHeartbeats 8000000 in
theorem specSayRead_in (s : ByteArray) (w : World) (hs : s.size ≤ 20000) :
    Calls Tryd.prog 10 #[.string s] w fun e w' => SyOutO w w' e (syRead s).1 (syRead s).2 := by
  have hn2 : ¬ 20000 < s.size := by omega
  have hrc : syRead s = if goodY s = true then ((rSy s).1, 0) else (zeroY, 3) := by unfold syRead; rw [if_neg hn2]
  have HC := Lib.hid hrc
  have LR := Lib.hid (fun W => l10Read_any s W hs)
  generalize syRead s = res at HC ⊢
  generalize goodY s = gd at HC LR
  generalize (rSy s).1 = z at HC LR
  clear hrc
  have XO := Blk.fresh w 36 [.int .i64 0, .int .i64 0, .int .i64 0, .int .i64 0, .string ⟨#[]⟩, .slice none 0 0, .int .i64 0]
  have B := below_bx w (.cells #[.int .i64 0, .int .i64 0, .int .i64 0, .int .i64 0, .string ⟨#[]⟩, .slice none 0 0, .int .i64 0] 36)
  simp only [List.toArray] at XO
  go_enter Tryd.func10, Tryd.ntmps10
  go_wp2_with (fail)
  generalize w.alloc (.cells #[.int .i64 0, .int .i64 0, .int .i64 0, .int .i64 0, .string ⟨#[]⟩, .slice none 0 0, .int .i64 0] 36) = v0 at XO B ⊢
  refine (LR.out _).mono ?_
  rintro e v1 ⟨y, A, c, M, rfl, hyz, ow, hMt, oM, hb1⟩
  have hle : w.heap.size + 1 ≤ v0.heap.size := XO.lt
  have ow := own_base ow hle
  have oM := oM.low hle
  have XO := XO.below hb1 XO.lt
  have B := B.trans (hb1.mono B.size)
  obtain ⟨yk, yf, yv, yq, yo, yc⟩ := y
  simp only at ow hMt
  have PK := Blk.fresh v1 34 [.int .i64 yk, .int .i64 yf, .int .i64 yv, .int .i64 yq, .string yo, .slice A yc.length c]
  have b2 := below_bx v1 (.cells #[.int .i64 yk, .int .i64 yf, .int .i64 yv, .int .i64 yq, .string yo, .slice A yc.length c] 34)
  simp only [List.toArray] at PK
  have XO := XO.below b2 XO.lt
  have B := B.trans (b2.mono B.size)
  have ow := row_below ow b2 (Nat.le_refl _)
  have oM := oM.kept (grown_below (row := none) b2) (fun k e => by cases e)
  clear b2 hb1
  have z0 := XO.cell (i := 0) rfl
  have y0 := XO.froz 0
  have z1 := XO.cell (i := 1) rfl
  have y1 := XO.froz 1
  have z2 := XO.cell (i := 2) rfl
  have y2 := XO.froz 2
  have z3 := XO.cell (i := 3) rfl
  have y3 := XO.froz 3
  have z4 := XO.cell (i := 4) rfl
  have y4 := XO.froz 4
  have z5 := XO.cell (i := 5) rfl
  have y5 := XO.froz 5
  have z6 := XO.cell (i := 6) rfl
  have y6 := XO.froz 6
  have p0 := PK.cell (i := 0) rfl
  have p1 := PK.cell (i := 1) rfl
  have p2 := PK.cell (i := 2) rfl
  have p3 := PK.cell (i := 3) rfl
  have p4 := PK.cell (i := 4) rfl
  have p5 := PK.cell (i := 5) rfl
  cases gd
  · obtain rfl : res = (zeroY, 3) := by rw [HC.out]; rfl
    go_wp2
    have Xf := (((((((XO.put 0 (.int .i64 0)).put 1 (.int .i64 0)).put 2 (.int .i64 0)).put 3 (.int .i64 0)).put 4 (.string ⟨#[]⟩)).put 5 (.slice none 0 0)).put 6 (.int .i64 3))
    simp only [List.set_cons_succ, List.set_cons_zero] at Xf
    have Bf := (((((((B.setCell (p := ⟨w.heap.size, 0, none⟩) (Nat.le_refl _) (.int .i64 0)).setCell (p := ⟨w.heap.size, 1, none⟩) (Nat.le_refl _) (.int .i64 0)).setCell (p := ⟨w.heap.size, 2, none⟩) (Nat.le_refl _) (.int .i64 0)).setCell (p := ⟨w.heap.size, 3, none⟩) (Nat.le_refl _) (.int .i64 0)).setCell (p := ⟨w.heap.size, 4, none⟩) (Nat.le_refl _) (.string ⟨#[]⟩)).setCell (p := ⟨w.heap.size, 5, none⟩) (Nat.le_refl _) (.slice none 0 0)).setCell (p := ⟨w.heap.size, 6, none⟩) (Nat.le_refl _) (.int .i64 3))
    generalize ((((((((v1.alloc (.cells #[.int .i64 yk, .int .i64 yf, .int .i64 yv, .int .i64 yq, .string yo, .slice A yc.length c] 34)).setCell ⟨w.heap.size, 0, none⟩ (.int .i64 0)).setCell ⟨w.heap.size, 1, none⟩ (.int .i64 0)).setCell ⟨w.heap.size, 2, none⟩ (.int .i64 0)).setCell ⟨w.heap.size, 3, none⟩ (.int .i64 0)).setCell ⟨w.heap.size, 4, none⟩ (.string ⟨#[]⟩)).setCell ⟨w.heap.size, 5, none⟩ (.slice none 0 0)).setCell ⟨w.heap.size, 6, none⟩ (.int .i64 3)) = w9 at Xf Bf ⊢
    have k0 := Xf.cell (i := 0) rfl
    have k1 := Xf.cell (i := 1) rfl
    have k2 := Xf.cell (i := 2) rfl
    have k3 := Xf.cell (i := 3) rfl
    have k4 := Xf.cell (i := 4) rfl
    have k5 := Xf.cell (i := 5) rfl
    have k6 := Xf.cell (i := 6) rfl
    exact bodyPost_ret (v := .agg #[.int .i64 0, .int .i64 0, .int .i64 0, .int .i64 0, .string ⟨#[]⟩, .slice none 0 0, .int .i64 3]) (by simp [results, Tryd.results10, go_sem, k0, k1, k2, k3, k4, k5, k6]) rfl (SyOutO.zero Bf)
  · obtain rfl := hyz rfl
    obtain rfl : res = (⟨yk, yf, yv, yq, yo, yc⟩, 0) := by rw [HC.out]; rfl
    go_wp2
    have Xf := (((((((XO.put 0 (.int .i64 yk)).put 1 (.int .i64 yf)).put 2 (.int .i64 yv)).put 3 (.int .i64 yq)).put 4 (.string yo)).put 5 (.slice A yc.length c)).put 6 (.int .i64 0))
    simp only [List.set_cons_succ, List.set_cons_zero] at Xf
    have Bf := (((((((B.setCell (p := ⟨w.heap.size, 0, none⟩) (Nat.le_refl _) (.int .i64 yk)).setCell (p := ⟨w.heap.size, 1, none⟩) (Nat.le_refl _) (.int .i64 yf)).setCell (p := ⟨w.heap.size, 2, none⟩) (Nat.le_refl _) (.int .i64 yv)).setCell (p := ⟨w.heap.size, 3, none⟩) (Nat.le_refl _) (.int .i64 yq)).setCell (p := ⟨w.heap.size, 4, none⟩) (Nat.le_refl _) (.string yo)).setCell (p := ⟨w.heap.size, 5, none⟩) (Nat.le_refl _) (.slice A yc.length c)).setCell (p := ⟨w.heap.size, 6, none⟩) (Nat.le_refl _) (.int .i64 0))
    have of := (row_far (row_far (row_far (row_far (row_far (row_far (row_far ow (p := ⟨w.heap.size, 0, none⟩) (by simp) (.int .i64 yk)) (p := ⟨w.heap.size, 1, none⟩) (by simp) (.int .i64 yf)) (p := ⟨w.heap.size, 2, none⟩) (by simp) (.int .i64 yv)) (p := ⟨w.heap.size, 3, none⟩) (by simp) (.int .i64 yq)) (p := ⟨w.heap.size, 4, none⟩) (by simp) (.string yo)) (p := ⟨w.heap.size, 5, none⟩) (by simp) (.slice A yc.length c)) (p := ⟨w.heap.size, 6, none⟩) (by simp) (.int .i64 0))
    have oMf := (((((((oM.set (p := ⟨w.heap.size, 0, none⟩) (by simp) (.int .i64 yk)).set (p := ⟨w.heap.size, 1, none⟩) (by simp) (.int .i64 yf)).set (p := ⟨w.heap.size, 2, none⟩) (by simp) (.int .i64 yv)).set (p := ⟨w.heap.size, 3, none⟩) (by simp) (.int .i64 yq)).set (p := ⟨w.heap.size, 4, none⟩) (by simp) (.string yo)).set (p := ⟨w.heap.size, 5, none⟩) (by simp) (.slice A yc.length c)).set (p := ⟨w.heap.size, 6, none⟩) (by simp) (.int .i64 0))
    generalize ((((((((v1.alloc (.cells #[.int .i64 yk, .int .i64 yf, .int .i64 yv, .int .i64 yq, .string yo, .slice A yc.length c] 34)).setCell ⟨w.heap.size, 0, none⟩ (.int .i64 yk)).setCell ⟨w.heap.size, 1, none⟩ (.int .i64 yf)).setCell ⟨w.heap.size, 2, none⟩ (.int .i64 yv)).setCell ⟨w.heap.size, 3, none⟩ (.int .i64 yq)).setCell ⟨w.heap.size, 4, none⟩ (.string yo)).setCell ⟨w.heap.size, 5, none⟩ (.slice A yc.length c)).setCell ⟨w.heap.size, 6, none⟩ (.int .i64 0)) = w9 at Xf Bf of oMf ⊢
    have k0 := Xf.cell (i := 0) rfl
    have k1 := Xf.cell (i := 1) rfl
    have k2 := Xf.cell (i := 2) rfl
    have k3 := Xf.cell (i := 3) rfl
    have k4 := Xf.cell (i := 4) rfl
    have k5 := Xf.cell (i := 5) rfl
    have k6 := Xf.cell (i := 6) rfl
    exact bodyPost_ret (v := .agg #[.int .i64 yk, .int .i64 yf, .int .i64 yv, .int .i64 yq, .string yo, .slice A yc.length c, .int .i64 0]) (by simp [results, Tryd.results10, go_sem, k0, k1, k2, k3, k4, k5, k6]) rfl ⟨A, c, M, rfl, own_base of (by omega), hMt, oMf.low (by omega), Bf⟩
theorem specSayRead_any (s : ByteArray) (w : World) (hs : s.size ≤ maxLen) :
    Calls Tryd.prog 10 #[.string s] w fun e w' => SyOutO w w' e (syRead s).1 (syRead s).2 := by
  by_cases h : 20000 < s.size
  · exact specSayRead_size s w hs h
  · exact specSayRead_in s w (by omega)
end Go.Proofs.YtjnbhppnchmeoaaDoor

namespace Go.Proofs.YtjnbhppnchmeoaaDoor
open Go.RowKit
set_option linter.unusedVariables false
set_option linter.unusedSimpArgs false
set_option maxRecDepth 1000000

set_option maxHeartbeats 8000000 in
theorem lawSayRead (s : ByteArray) (w0 : s.size ≤ maxLen) (w : World) (hg : Handle w) :
    Calls Tryd.prog 4 #[.string s] w fun e w' => e = .returned (.bool true) ∧ Below w.heap.size w w' := by
  by_cases hbig : 1048576 < s.size
  · unfold maxLen at w0
    go_enter Tryd.func4, Tryd.ntmps4
    go_wp2
    go_ret
    exact ⟨rfl, Below.refl _ _⟩
  have hb0 : decide (1048576 < (s.size : Int)) = false := by simp; omega
  have RS := Lib.hid (fun W => specSayRead_any s W w0)
  have RI := Lib.hid (fun W h => implSayRead_any s W h w0)
  have FW := syRead_few s
  obtain ⟨⟨⟨yk, yf, yv, yq, yo, yc⟩, cd⟩, hr⟩ : ∃ r, syRead s = r := ⟨_, rfl⟩
  rw [hr] at RS RI FW
  unfold SyOutO at RS RI
  simp only at RS RI FW
  clear hr
  have EQ := Lib.hid (fun A B c d W l m hA hB => eqSayOut_same ⟨yk, yf, yv, yq, yo, yc⟩ cd A B c d W (l := l) (m := m) hA hB)
  simp only at EQ
  go_enter Tryd.func4, Tryd.ntmps4
  go_wp2_with (fail)
  refine (RS.out _).mono ?_
  rintro e w1 ⟨A1, c1, L1, rfl, r1, t1, o1, hw1⟩
  have n1 : L1.length = yc.length := by rw [← t1]; simp
  have C1 := CngsO.read r1 n1 o1 (o1.few t1 FW.1 FW.2).2
  rw [t1] at C1
  clear r1 o1 t1 n1
  have hX := Blk.fresh w1 36 [.int .i64 yk, .int .i64 yf, .int .i64 yv, .int .i64 yq, .string yo, .slice A1 yc.length c1, .int .i64 cd]
  have hbw2 : Below w1.heap.size w1 (w1.alloc (.cells #[.int .i64 yk, .int .i64 yf, .int .i64 yv, .int .i64 yq, .string yo, .slice A1 yc.length c1, .int .i64 cd] 36)) := (Below.refl _ _).alloc (Nat.le_refl _) _
  simp only [List.toArray] at hX
  go_wp2_with (fail)
  generalize w1.alloc (.cells #[.int .i64 yk, .int .i64 yf, .int .i64 yv, .int .i64 yq, .string yo, .slice A1 yc.length c1, .int .i64 cd] 36) = w2 at hX hbw2 ⊢
  generalize hp : w1.heap.size = p at hX C1 hbw2 ⊢
  have hw2 := hw1.trans (hbw2.mono (by rw [← hp]; exact hw1.size))
  replace C1 := C1.below hbw2 (Nat.le_refl _)
  have hpw : w.heap.size ≤ p := by rw [← hp]; exact hw1.size
  have hp2 : p ≤ w2.heap.size := by rw [← hp]; have := hbw2.size; omega
  clear hbw2 hw1 hp
  refine (RI.out _ (Handle.below hg hw2)).mono ?_
  rintro e w3 ⟨A3, c3, L3, rfl, r3, t3, o3, hb3⟩
  have n3 : L3.length = yc.length := by rw [← t3]; simp
  obtain ⟨wt3, nu3⟩ := o3.few t3 FW.1 FW.2
  have C3 := CngsO.read r3 n3 o3 nu3
  rw [t3] at C3
  have BI := Lib.hid (fun b (h : blkC A3 L3 b) => blkC_in r3 o3 h)
  have hw3 := hw2.trans (hb3.mono hw2.size)
  replace C1 := C1.below hb3 hp2
  have hX3 := hX.below hb3 hX.lt
  have hpl2 := hX.lt
  have hz3 := hb3.size
  clear hb3 hw2 hX
  have hY := Blk.fresh w3 36 [.int .i64 yk, .int .i64 yf, .int .i64 yv, .int .i64 yq, .string yo, .slice A3 yc.length c3, .int .i64 cd]
  have hbw4 : Below w3.heap.size w3 (w3.alloc (.cells #[.int .i64 yk, .int .i64 yf, .int .i64 yv, .int .i64 yq, .string yo, .slice A3 yc.length c3, .int .i64 cd] 36)) := (Below.refl _ _).alloc (Nat.le_refl _) _
  simp only [List.toArray] at hY
  have hX4 := hX3.alloc (.cells #[.int .i64 yk, .int .i64 yf, .int .i64 yv, .int .i64 yq, .string yo, .slice A3 yc.length c3, .int .i64 cd] 36)
  have d0 := hX4.cell (i := 0) rfl
  have d1 := hX4.cell (i := 1) rfl
  have d2 := hX4.cell (i := 2) rfl
  have d3 := hX4.cell (i := 3) rfl
  have d4 := hX4.cell (i := 4) rfl
  have d5 := hX4.cell (i := 5) rfl
  have d6 := hX4.cell (i := 6) rfl
  go_wp2_with (fail)
  generalize w3.alloc (.cells #[.int .i64 yk, .int .i64 yf, .int .i64 yv, .int .i64 yq, .string yo, .slice A3 yc.length c3, .int .i64 cd] 36) = w4 at hX4 hY hbw4 d0 d1 d2 d3 d4 d5 d6 ⊢
  clear d0 d1 d2 d3 d4 d5 d6
  have hz4 := hbw4.size
  replace C1 := C1.below hbw4 (by omega)
  replace C3 := C3.below hbw4 (Nat.le_refl _)
  replace r3 := row_below r3 hbw4 (Nat.le_refl _)
  replace o3 := o3.kept (grown_below (row := none) hbw4) (fun k e => by cases e)
  have hw4 := hw3.trans (hbw4.mono hw3.size)
  clear hbw4 hw3 hX3
  have d0 := hX4.cell (i := 0) rfl
  have d1 := hX4.cell (i := 1) rfl
  have d2 := hX4.cell (i := 2) rfl
  have d3 := hX4.cell (i := 3) rfl
  have d4 := hX4.cell (i := 4) rfl
  have d5 := hX4.cell (i := 5) rfl
  have d6 := hX4.cell (i := 6) rfl
  have g0 := hY.cell (i := 0) rfl
  have g1 := hY.cell (i := 1) rfl
  have g2 := hY.cell (i := 2) rfl
  have g3 := hY.cell (i := 3) rfl
  have g4 := hY.cell (i := 4) rfl
  have g5 := hY.cell (i := 5) rfl
  have g6 := hY.cell (i := 6) rfl
  go_wp2_with (fail)
  refine (EQ.out A3 A1 c3 c1 _ _ _ (C3.mono (Nat.le_refl _) hz4) (C1.mono (Nat.le_refl _) (by omega))).mono ?_
  rintro e w5 ⟨rfl, hb5⟩
  clear d0 d1 d2 d3 d4 d5 d6 g0 g1 g2 g3 g4 g5 g6
  have hz5 := hb5.size
  replace C1 := C1.below hb5 (by omega)
  replace r3 := row_below r3 hb5 (Nat.le_refl _)
  replace o3 := o3.kept (grown_below (row := none) hb5) (fun k e => by cases e)
  have hX5 := hX4.below hb5 hX4.lt
  have hY5 := hY.below hb5 hY.lt
  have hw5 := hw4.trans (hb5.mono hw4.size)
  clear hb5 hw4 hX4 hY C3
  rw [← n3] at r3
  have MM := Lib.hid (markSayOut_own yk yf yv yq cd yo A3 c3 _ _ 1 L3 _ r3 o3 (by omega) (by omega))
  rw [n3] at MM
  obtain ⟨m1, Hm1⟩ : ∃ m, Hid (1 + wL L3 = m) := ⟨_, Lib.hid rfl⟩
  have hm1 : 1 ≤ m1 ∧ m1 ≤ 200 := by have := Hm1.out; omega
  rw [Hm1.out] at MM
  clear r3 o3
  have g0 := hY5.cell (i := 0) rfl
  have g1 := hY5.cell (i := 1) rfl
  have g2 := hY5.cell (i := 2) rfl
  have g3 := hY5.cell (i := 3) rfl
  have g4 := hY5.cell (i := 4) rfl
  have g5 := hY5.cell (i := 5) rfl
  have g6 := hY5.cell (i := 6) rfl
  go_wp2_with (fail)
  refine MM.out.mono ?_
  rintro e w6 ⟨rfl, r6, o6, f6⟩
  clear g0 g1 g2 g3 g4 g5 g6
  clear MM
  have ch := f6.chg BI.out
  clear f6 BI
  have hz6 := ch.size
  have hw6 := below_offC hw5 ch (by omega) (Nat.le_refl _)
  replace C1 := C1.offC ch (by omega) (by omega)
  have hpl := hX5.lt
  have hX6 := hX5.offC ch (.inl (by omega))
  have hY6 := hY5.offC ch (.inr (Nat.le_refl _))
  clear ch hX5 hY5 hw5
  have hk1 : 1 + wL L3 ≤ 3999990 := by omega
  have G6 := CngsO.read r6 (by rw [mkL_len]; exact n3) o6 (mkL_nums L3 1 hk1)
  rw [List.map_map] at G6
  clear r6 o6
  have HD := Lib.hid (fun W lo (h : Chs W lo W.heap.size A3 ((mkL 1 L3).map (·.m.t))) => heldSayOut_any yk yf yv yq cd yo A3 c3 1 L3 W h (by omega) hk1)
  rw [n3, Hm1.out] at HD
  have hnn : ¬ ((m1 : Int) < 0) := by omega
  have g0 := hY6.cell (i := 0) rfl
  have g1 := hY6.cell (i := 1) rfl
  have g2 := hY6.cell (i := 2) rfl
  have g3 := hY6.cell (i := 3) rfl
  have g4 := hY6.cell (i := 4) rfl
  have g5 := hY6.cell (i := 5) rfl
  have g6 := hY6.cell (i := 6) rfl
  go_wp2_with (fail)
  refine (HD.out _ _ G6).mono ?_
  rintro e w7 ⟨rfl, hb7⟩
  clear g0 g1 g2 g3 g4 g5 g6
  have hz7 := hb7.size
  replace C1 := C1.below hb7 (by omega)
  have G7 := G6.on hb7
  have hX7 := hX6.below hb7 hX6.lt
  have hY7 := hY6.below hb7 hY6.lt
  have hw7 := hw6.trans (hb7.mono hw6.size)
  clear hb7 hX6 hY6 hw6 G6
  go_wp2_with (fail)
  refine (RI.out _ (Handle.below hg hw7)).mono ?_
  rintro e w8 ⟨A8, c8, L8, rfl, r8, t8, o8, hb8⟩
  have n8 : L8.length = yc.length := by rw [← t8]; simp
  have C8 := CngsO.read r8 n8 o8 (o8.few t8 FW.1 FW.2).2
  rw [t8] at C8
  have hz8 := hb8.size
  replace C1 := C1.below hb8 (by omega)
  have G8 := G7.on hb8
  have hX8 := hX7.below hb8 hX7.lt
  have hY8 := hY7.below hb8 hY7.lt
  have hw8 := hw7.trans (hb8.mono hw7.size)
  clear hb8 hX7 hY7 hw7 G7 r8 o8 t8 n8
  have hZ := Blk.fresh w8 36 [.int .i64 yk, .int .i64 yf, .int .i64 yv, .int .i64 yq, .string yo, .slice A8 yc.length c8, .int .i64 cd]
  have hbw9 : Below w8.heap.size w8 (w8.alloc (.cells #[.int .i64 yk, .int .i64 yf, .int .i64 yv, .int .i64 yq, .string yo, .slice A8 yc.length c8, .int .i64 cd] 36)) := (Below.refl _ _).alloc (Nat.le_refl _) _
  simp only [List.toArray] at hZ
  have hX9 := hX8.alloc (.cells #[.int .i64 yk, .int .i64 yf, .int .i64 yv, .int .i64 yq, .string yo, .slice A8 yc.length c8, .int .i64 cd] 36)
  have hY9 := hY8.alloc (.cells #[.int .i64 yk, .int .i64 yf, .int .i64 yv, .int .i64 yq, .string yo, .slice A8 yc.length c8, .int .i64 cd] 36)
  have d0 := hX9.cell (i := 0) rfl
  have d1 := hX9.cell (i := 1) rfl
  have d2 := hX9.cell (i := 2) rfl
  have d3 := hX9.cell (i := 3) rfl
  have d4 := hX9.cell (i := 4) rfl
  have d5 := hX9.cell (i := 5) rfl
  have d6 := hX9.cell (i := 6) rfl
  go_wp2_with (fail)
  generalize w8.alloc (.cells #[.int .i64 yk, .int .i64 yf, .int .i64 yv, .int .i64 yq, .string yo, .slice A8 yc.length c8, .int .i64 cd] 36) = w9 at hX9 hY9 hZ hbw9 d0 d1 d2 d3 d4 d5 d6 ⊢
  clear d0 d1 d2 d3 d4 d5 d6
  have hz9 := hbw9.size
  replace C1 := C1.below hbw9 (by omega)
  have G9 := G8.on hbw9
  have C9 := C8.on hbw9
  have hw9 := hw8.trans (hbw9.mono hw8.size)
  clear hbw9 hw8 hX8 hY8 G8 C8
  have d0 := hX9.cell (i := 0) rfl
  have d1 := hX9.cell (i := 1) rfl
  have d2 := hX9.cell (i := 2) rfl
  have d3 := hX9.cell (i := 3) rfl
  have d4 := hX9.cell (i := 4) rfl
  have d5 := hX9.cell (i := 5) rfl
  have d6 := hX9.cell (i := 6) rfl
  have g0 := hZ.cell (i := 0) rfl
  have g1 := hZ.cell (i := 1) rfl
  have g2 := hZ.cell (i := 2) rfl
  have g3 := hZ.cell (i := 3) rfl
  have g4 := hZ.cell (i := 4) rfl
  have g5 := hZ.cell (i := 5) rfl
  have g6 := hZ.cell (i := 6) rfl
  go_wp2_with (fail)
  refine (EQ.out A8 A1 c8 c1 _ _ _ C9 (C1.mono (Nat.le_refl _) (by omega))).mono ?_
  rintro e w10 ⟨rfl, hb10⟩
  clear d0 d1 d2 d3 d4 d5 d6 g0 g1 g2 g3 g4 g5 g6
  have G10 := G9.on hb10
  have hY10 := hY9.below hb10 hY9.lt
  have hw10 := hw9.trans (hb10.mono hw9.size)
  clear hb10 hX9 hY9 hZ hw9 G9 C9 C1
  have g0 := hY10.cell (i := 0) rfl
  have g1 := hY10.cell (i := 1) rfl
  have g2 := hY10.cell (i := 2) rfl
  have g3 := hY10.cell (i := 3) rfl
  have g4 := hY10.cell (i := 4) rfl
  have g5 := hY10.cell (i := 5) rfl
  have g6 := hY10.cell (i := 6) rfl
  go_wp2_with (fail)
  refine (HD.out _ _ G10).mono ?_
  rintro e w11 ⟨rfl, hb11⟩
  clear g0 g1 g2 g3 g4 g5 g6
  have hw11 := hw10.trans (hb11.mono hw10.size)
  clear hb11 G10 hY10 HD
  go_wp2
  go_ret
  exact ⟨rfl, hw11⟩
end Go.Proofs.YtjnbhppnchmeoaaDoor
