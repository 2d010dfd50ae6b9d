/- spec's readers of proofs and changes. The encoders of stage 10: impl. The encoders of stage 10: spec. Strings compared, as a walk spells it. -/
import Derived.Test.YtjnbhppnchmeoaaDoorSyRCW
import Derived.Test.YtjnbhppnchmeoaaDoorSyEncW
import Derived.Test.YtjnbhppnchmeoaaDoorChgW
import Derived.Test.YtjnbhppnchmeoaaDoorRdW
namespace Go.Proofs.YtjnbhppnchmeoaaDoor
open Go.RowKit
set_option linter.unusedVariables false
set_option linter.unusedSimpArgs false
set_option maxRecDepth 1000000

theorem rL_bad {α : Type} {s : ByteArray} {f : Option Nat → α × Option Nat} {e : α → ByteArray} (hf : Canon s f e) {o : Option Nat} {j n : Nat} (hj : j ≤ n) (hb : (rL f j o).2 = none) : (rL f n o).2 = none := by
  induction n with
  | zero => obtain rfl : j = 0 := by omega
            exact hb
  | succ n ih =>
    by_cases e : j = n + 1
    · subst e; exact hb
    · rw [rL_snoc, ih (by omega)]; exact canon_none hf
/-- What spec's proof knows while it reads numbers. -/
def SPI (w wr : World) (r P : Nat) (s : ByteArray) (a b : Int) (t : ByteArray) (o : Option Nat) (L : List Int) (A : Option Addr) (j c : Nat) : Prop :=
  Rdr 42 wr r s o ∧ Blk wr P 90 [.int .i64 a, .int .i64 b, .string t, .slice A j c] ∧ wr.ownsRow (P + 1) 2 1 (.slice A j c) j (L.map (Value.int .i64)) ∧ Blk wr w.heap.size 90 [.int .i64 0, .int .i64 0, .string ⟨#[]⟩, .slice none 0 0] ∧ w.grownBy wr (some r)
/-- What spec's change knows while it reads proofs. -/
def SCI (w wr : World) (r P : Nat) (s : ByteArray) (a b : Int) (o : Option Nat) (L : List Prf) (A : Option Addr) (j c : Nat) (M : List PrfA) : Prop :=
  Rdr 42 wr r s o ∧ Blk wr P 66 [.int .i64 a, .int .i64 b, .slice A j c] ∧ wr.ownsRow (P + 1) 90 4 (.slice A j c) j (pflat M) ∧ PrfsO wr (P + 1) M ∧ M.length = j ∧ (o ≠ none → M.map (·.t) = L) ∧ Blk wr w.heap.size 66 [.int .i64 0, .int .i64 0, .slice none 0 0] ∧ w.grownBy wr (some r)
set_option maxHeartbeats 16000000 in
theorem specProof_any (r : Nat) (s : ByteArray) (o : Option Nat) (w : World) (hR : Rdr 42 w r s o) (hs : s.size ≤ 20000) :
    Calls Tryd.prog 77 #[.pointer (some ⟨r, 0, none⟩)] w fun e w' => ∃ m : PrfA, e = .returned (prfV m.t (.slice m.A m.t.who.length m.c)) ∧ PrfO w' w.heap.size m ∧ ((rPrf s o).2 ≠ none → m.t = (rPrf s o).1) ∧ Rdr 42 w' r s (rPrf s o).2 ∧ w.grownBy w' (some r) := by
  obtain ⟨ii, hii, iz0, iz1, iz2⟩ := info_parts infoI64n
  have hrl := hR.lt
  have C0 := Lib.hid (fun W h2 => specNum_any r s o W h2 hs)
  obtain ⟨a, o1, E0⟩ : ∃ x y, rN s o = (x, y) := ⟨_, _, rfl⟩
  rw [E0] at C0
  have C1 := Lib.hid (fun W h2 => specNum_any r s o1 W h2 hs)
  obtain ⟨b, o2, E1⟩ : ∃ x y, rN s o1 = (x, y) := ⟨_, _, rfl⟩
  rw [E1] at C1
  have C2 := Lib.hid (fun W h2 => specText_any r s o2 W h2 hs)
  obtain ⟨t, o3, E2⟩ : ∃ x y, rT s o2 = (x, y) := ⟨_, _, rfl⟩
  rw [E2] at C2
  have C3 := Lib.hid (fun W h2 => many_any r s 4 o3 W h2 hs)
  have hK0 := rM_in s (most := 4) (by decide) o3
  obtain ⟨K, o4, E3⟩ : ∃ x y, rM s 4 o3 = (x, y) := ⟨_, _, rfl⟩
  rw [E3] at C3 hK0
  have hRC : rPrf s o = (⟨a, b, t, (rL (rN s) K.toNat o4).1⟩, (rL (rN s) K.toNat o4).2) := by unfold rPrf; simp only [E0, E1, E2, E3]
  rw [hRC]
  simp only at C0 C1 C2 C3 hK0 ⊢
  obtain ⟨n, hn⟩ : ∃ n : Nat, K = n := ⟨K.toNat, by omega⟩
  subst hn
  rw [Int.toNat_natCast]
  have hn4 : n ≤ 4 := by omega
  clear E0 E1 E2 E3 hRC hK0
  have HBAD := Lib.hid (fun j (hj : j ≤ n) (hb : (rL (rN s) j o4).2 = none) => rL_bad (canonN s) hj hb)
  obtain ⟨FV, HF⟩ : ∃ x, Hid (rL (rN s) n o4 = x) := ⟨_, Lib.hid rfl⟩
  rw [HF.out]
  have X0 := Blk.fresh w 90 [.int .i64 0, .int .i64 0, .string ⟨#[]⟩, .slice none 0 0]
  have b0 := below_bx w (.cells #[.int .i64 0, .int .i64 0, .string ⟨#[]⟩, .slice none 0 0] 90)
  simp only [List.toArray] at X0
  have R0 := hR.below b0
  have G0 : w.grownBy (w.alloc (.cells #[.int .i64 0, .int .i64 0, .string ⟨#[]⟩, .slice none 0 0] 90)) (some r) := grown_below b0
  go_enter Tryd.func77, Tryd.ntmps77
  go_wp2_with (fail)
  generalize w.alloc (.cells #[.int .i64 0, .int .i64 0, .string ⟨#[]⟩, .slice none 0 0] 90) = v0 at X0 R0 G0 b0 ⊢
  have hz0 := X0.lt
  clear b0
  refine (C0.out _ R0).mono ?_
  rintro e v1 ⟨rfl, R1, g1⟩
  have X1 := X0.grown g1 (fun e => by have := Option.some.inj e; omega)
  have G1 := G0.trans g1
  clear X0 R0 G0 g1
  have P2 := Blk.fresh v1 90 [.int .i64 a, .int .i64 0, .string ⟨#[]⟩, .slice none 0 0]
  have b2 := below_bx v1 (.cells #[.int .i64 a, .int .i64 0, .string ⟨#[]⟩, .slice none 0 0] 90)
  simp only [List.toArray] at P2
  have X2 := X1.below b2 X1.lt
  have R2 := R1.below b2
  have G2 := grown_allocr G1 (.cells #[.int .i64 a, .int .i64 0, .string ⟨#[]⟩, .slice none 0 0] 90)
  have hz3 := X1.lt
  have hzr := G1.size
  go_wp2_with (fail)
  generalize v1.alloc (.cells #[.int .i64 a, .int .i64 0, .string ⟨#[]⟩, .slice none 0 0] 90) = v2 at P2 b2 X2 R2 G2 ⊢
  clear b2 X1 R1 G1
  generalize v1.heap.size = P at P2 hz3 hzr ⊢
  have hpr : P ≠ r := by omega
  have hxr : w.heap.size ≠ r := by omega
  refine (C1.out _ R2).mono ?_
  rintro e v3 ⟨rfl, R3, g3⟩
  have P3 := P2.grown g3 (fun e => hpr (Option.some.inj e))
  have X3 := X2.grown g3 (fun e => hxr (Option.some.inj e))
  have G3 := G2.trans g3
  clear X2 R2 G2 g3 P2
  have c1 := P3.cell (i := 1) rfl
  have f1 := P3.froz 1
  have P4 := P3.put 1 (.int .i64 b)
  have R4 := R3.far (p := ⟨P, 1, none⟩) (by simp; omega) (.int .i64 b)
  have X4 := X3.far (p := ⟨P, 1, none⟩) (by simp; omega) (.int .i64 b)
  have G4 := grown_setr G3 (p := ⟨P, 1, none⟩) (by simp; omega) (.int .i64 b)
  simp only [List.set_cons_succ, List.set_cons_zero] at P4
  go_wp2_with (fail)
  clear c1 f1 P3 R3 X3 G3
  generalize v3.setCell ⟨P, 1, none⟩ (.int .i64 b) = v4 at P4 R4 X4 G4 ⊢
  refine (C2.out _ R4).mono ?_
  rintro e v5 ⟨rfl, R5, g5⟩
  have P5 := P4.grown g5 (fun e => hpr (Option.some.inj e))
  have X5 := X4.grown g5 (fun e => hxr (Option.some.inj e))
  have G5 := G4.trans g5
  clear X4 R4 G4 g5 P4
  have c1 := P5.cell (i := 2) rfl
  have f1 := P5.froz 2
  have P6 := P5.put 2 (.string t)
  have R6 := R5.far (p := ⟨P, 2, none⟩) (by simp; omega) (.string t)
  have X6 := X5.far (p := ⟨P, 2, none⟩) (by simp; omega) (.string t)
  have G6 := grown_setr G5 (p := ⟨P, 2, none⟩) (by simp; omega) (.string t)
  simp only [List.set_cons_succ, List.set_cons_zero] at P6
  go_wp2_with (fail)
  clear c1 f1 P5 R5 X5 G5
  generalize v5.setCell ⟨P, 2, none⟩ (.string t) = v6 at P6 R6 X6 G6 ⊢
  refine (C3.out _ R6).mono ?_
  rintro e v7 ⟨rfl, R7, g7⟩
  have P7 := P6.grown g7 (fun e => hpr (Option.some.inj e))
  have X7 := X6.grown g7 (fun e => hxr (Option.some.inj e))
  have G7 := G6.trans g7
  clear X6 R6 G6 g7 P6 C0 C1 C2 C3
  go_wp2_with (fail)
  go_loopw [4] (fun v wr => ∃ (j kk : Nat) (A : Option Addr) (c : Nat), j + kk = n ∧ v = .int .i64 (kk : Int) ∧ SPI w wr r P s a b t (rL (rN s) j o4).2 (rL (rN s) j o4).1 A j c) (fun v _ => (intOf v).toNat)
  case atStart => exact ⟨0, n, none, 0, by omega, rfl, ⟨R7, P7, World.ownsRow_nil _ _ _ _, X7, G7⟩⟩
  case round =>
    clear R7 P7 X7 G7
    obtain ⟨j, kk, A, c, hj, rfl, ⟨R, PK, ow, XO, G⟩⟩ := hrel
    have hln := rL_len (rN s) j o4
    by_cases hk0 : kk = 0
    · subst hk0
      obtain rfl : j = n := by omega
      obtain ⟨⟨L, oj⟩, hLj⟩ : ∃ x, rL (rN s) j o4 = x := ⟨_, rfl⟩
      have HFE : Hid (FV = (L, oj)) := Lib.hid (by rw [← HF.out, hLj])
      rw [hLj] at R ow hln
      simp only at R ow hln
      clear hLj HF HBAD
      have p0 := PK.cell (i := 0) rfl
      have p1 := PK.cell (i := 1) rfl
      have p2 := PK.cell (i := 2) rfl
      have p3 := PK.cell (i := 3) rfl
      have x0 := XO.cell (i := 0) rfl
      have f0 := XO.froz 0
      have x1 := XO.cell (i := 1) rfl
      have f1 := XO.froz 1
      have x2 := XO.cell (i := 2) rfl
      have f2 := XO.froz 2
      have x3 := XO.cell (i := 3) rfl
      have f3 := XO.froz 3
      go_wp2_with (fail)
      have Xf := ((((XO.put 0 (.int .i64 a)).put 1 (.int .i64 b)).put 2 (.string t)).put 3 (.slice A j c))
      simp only [List.set_cons_succ, List.set_cons_zero] at Xf
      have Rf := ((((R.far (p := ⟨w.heap.size, 0, none⟩) (by simp; omega) (.int .i64 a)).far (p := ⟨w.heap.size, 1, none⟩) (by simp; omega) (.int .i64 b)).far (p := ⟨w.heap.size, 2, none⟩) (by simp; omega) (.string t)).far (p := ⟨w.heap.size, 3, none⟩) (by simp; omega) (.slice A j c))
      have Gf := (grown_setr (grown_setr (grown_setr (grown_setr G (p := ⟨w.heap.size, 0, none⟩) (by simp) (.int .i64 a)) (p := ⟨w.heap.size, 1, none⟩) (by simp) (.int .i64 b)) (p := ⟨w.heap.size, 2, none⟩) (by simp) (.string t)) (p := ⟨w.heap.size, 3, none⟩) (by simp) (.slice A j c))
      have of := (row_far (row_far (row_far (row_far ow (p := ⟨w.heap.size, 0, none⟩) (by simp; omega) (.int .i64 a)) (p := ⟨w.heap.size, 1, none⟩) (by simp; omega) (.int .i64 b)) (p := ⟨w.heap.size, 2, none⟩) (by simp; omega) (.string t)) (p := ⟨w.heap.size, 3, none⟩) (by simp; omega) (.slice A j c))
      clear p0 p1 p2 p3 x0 f0 x1 f1 x2 f2 x3 f3 XO G PK
      generalize ((((wr.setCell ⟨w.heap.size, 0, none⟩ (.int .i64 a)).setCell ⟨w.heap.size, 1, none⟩ (.int .i64 b)).setCell ⟨w.heap.size, 2, none⟩ (.string t)).setCell ⟨w.heap.size, 3, none⟩ (.slice A j c)) = w9 at Xf Rf Gf of ⊢
      have x0 := Xf.cell (i := 0) rfl
      have x1 := Xf.cell (i := 1) rfl
      have x2 := Xf.cell (i := 2) rfl
      have x3 := Xf.cell (i := 3) rfl
      refine bodyPost_ret (v := .agg #[.int .i64 a, .int .i64 b, .string t, .slice A j c]) (by simp [results, Tryd.results77, go_sem, x0, x1, x2, x3]) rfl ⟨⟨⟨a, b, t, L⟩, A, c⟩, ?_, ?_, ?_, ?_, Gf⟩
      · simp only [hln]
      · unfold PrfO
        simp only [hln]
        exact own_base of (by omega)
      · intro _; rw [HFE.out]
      · rw [HFE.out]; exact Rf
    have hlt : (0 : Int) < (kk : Int) := by omega
    cases hoj : (rL (rN s) j o4).2 with
    | none =>
      have HB0 : Hid (FV.2 = none) := Lib.hid (by rw [← HF.out]; exact HBAD.out j (by omega) hoj)
      rw [hoj] at R
      obtain ⟨qb, hqb, hB⟩ := R
      have R : Rdr 42 wr r s none := ⟨qb, hqb, hB⟩
      have rc2 := hB.cell (i := 2) rfl
      obtain ⟨L, hL⟩ : ∃ L, (rL (rN s) j o4).1 = L := ⟨_, rfl⟩
      rw [hL] at ow hln
      clear hL HF HBAD hB
      have p0 := PK.cell (i := 0) rfl
      have p1 := PK.cell (i := 1) rfl
      have p2 := PK.cell (i := 2) rfl
      have p3 := PK.cell (i := 3) rfl
      have x0 := XO.cell (i := 0) rfl
      have f0 := XO.froz 0
      have x1 := XO.cell (i := 1) rfl
      have f1 := XO.froz 1
      have x2 := XO.cell (i := 2) rfl
      have f2 := XO.froz 2
      have x3 := XO.cell (i := 3) rfl
      have f3 := XO.froz 3
      go_wp2_with (fail)
      have Xf := ((((XO.put 0 (.int .i64 a)).put 1 (.int .i64 b)).put 2 (.string t)).put 3 (.slice A j c))
      simp only [List.set_cons_succ, List.set_cons_zero] at Xf
      have Rf := ((((R.far (p := ⟨w.heap.size, 0, none⟩) (by simp; omega) (.int .i64 a)).far (p := ⟨w.heap.size, 1, none⟩) (by simp; omega) (.int .i64 b)).far (p := ⟨w.heap.size, 2, none⟩) (by simp; omega) (.string t)).far (p := ⟨w.heap.size, 3, none⟩) (by simp; omega) (.slice A j c))
      have Gf := (grown_setr (grown_setr (grown_setr (grown_setr G (p := ⟨w.heap.size, 0, none⟩) (by simp) (.int .i64 a)) (p := ⟨w.heap.size, 1, none⟩) (by simp) (.int .i64 b)) (p := ⟨w.heap.size, 2, none⟩) (by simp) (.string t)) (p := ⟨w.heap.size, 3, none⟩) (by simp) (.slice A j c))
      have of := (row_far (row_far (row_far (row_far ow (p := ⟨w.heap.size, 0, none⟩) (by simp; omega) (.int .i64 a)) (p := ⟨w.heap.size, 1, none⟩) (by simp; omega) (.int .i64 b)) (p := ⟨w.heap.size, 2, none⟩) (by simp; omega) (.string t)) (p := ⟨w.heap.size, 3, none⟩) (by simp; omega) (.slice A j c))
      clear p0 p1 p2 p3 x0 f0 x1 f1 x2 f2 x3 f3 XO G PK
      generalize ((((wr.setCell ⟨w.heap.size, 0, none⟩ (.int .i64 a)).setCell ⟨w.heap.size, 1, none⟩ (.int .i64 b)).setCell ⟨w.heap.size, 2, none⟩ (.string t)).setCell ⟨w.heap.size, 3, none⟩ (.slice A j c)) = w9 at Xf Rf Gf of ⊢
      have x0 := Xf.cell (i := 0) rfl
      have x1 := Xf.cell (i := 1) rfl
      have x2 := Xf.cell (i := 2) rfl
      have x3 := Xf.cell (i := 3) rfl
      refine bodyPost_ret (v := .agg #[.int .i64 a, .int .i64 b, .string t, .slice A j c]) (by simp [results, Tryd.results77, go_sem, x0, x1, x2, x3]) rfl ⟨⟨⟨a, b, t, L⟩, A, c⟩, ?_, ?_, ?_, ?_, Gf⟩
      · simp only [hln]
      · unfold PrfO
        simp only [hln]
        exact own_base of (by omega)
      · intro hx; exact absurd HB0.out hx
      · rw [HB0.out]; exact Rf
    | some p =>
      rw [hoj] at R
      have hB := R.1
      have rc2 := hB.cell (i := 2) rfl
      have HS := Lib.hid (rL_snoc (rN s) j o4)
      obtain ⟨⟨L, oj⟩, hLj⟩ : ∃ x, rL (rN s) j o4 = x := ⟨_, rfl⟩
      rw [hLj] at HS ow hln hoj
      simp only at HS ow hln hoj
      subst hoj
      clear hLj
      have CN := Lib.hid (fun W h2 => specNum_any r s (some p) W h2 hs)
      obtain ⟨⟨x, ox⟩, hx⟩ : ∃ y, rN s (some p) = y := ⟨_, rfl⟩
      rw [hx] at HS CN
      simp only at HS CN
      clear hx
      have Rd := rdr_drew R
      have y0 := PK.drew.cell (i := 3) rfl
      have yf := PK.drew.froz 3
      have hpl := PK.lt
      have owd := ow.drew
      have PKd := PK.drew
      have hzg := G.size
      go_wp2_with (fail)
      clear rc2
      go_region_law
        (first
          | (go_simp; go_at_call 17; (with_reducible refine (CN.out _ Rd).mono ?_); rintro e w4 ⟨rfl, R4, g4⟩; have PK4 := PKd.grown g4 (fun e => hpr (Option.some.inj e)); have y4 := PK4.cell (i := 3) rfl; have y4a := (PK4.alloc (.cells #[.int .i64 x] 2)).cell (i := 3) rfl; have ow4 := World.ownsRow.kept owd g4 (.inr (fun e => by have := (owd.lt _ e).1; omega)); have zz := g4.size)
          | (refine step_append_lies _ (by rfl) _ _ _ (by rfl) (P + 1) 2 ii _ 1 8 Tryd.underlying88 hii iz0 iz1 iz2 rfl (by omega) (.slice A j c) j _ (by rfl) (World.ownsRow.alloc ow4 _)
                  ⟨w4.heap.size, 0, none⟩ 1 1 [.int .i64 x] (by rfl) (by rfl) (World.news_of_block (cs := #[.int .i64 x]) (t := 2) (fr := (0, 0)) (heap_alloc_new w4 _)) (by simp [Value.oneCell'])
                  (by omega) (by unfold maxLen; omega) (by omega) (by have := PK4.lt; simp only [World.size_alloc]; omega) (w4.heap.size + 1) (by simp) ?_; intro gg cap' w5 hown5 hgrow5 hat5 hlt5; have O5 := (PK4.alloc (.cells #[.int .i64 x] 2)).grown hgrow5 (fun e => by have := (ow4.lt _ e.symm).1; omega); have y5 := O5.cell (i := 3) rfl; have f5 := O5.froz 3))
      all_goals
        have R6 := (((rdr_alloc R4 (.cells #[.int .i64 x] 2)).grown hgrow5 (fun e => by have := (ow4.lt _ e.symm).1; omega)).far (p := ⟨P, 3, none⟩) (by simp; omega) (.slice (some ⟨gg, 0, none⟩) (j + 1) cap'))
        have PK6 := O5.put 3 (.slice (some ⟨gg, 0, none⟩) (j + 1) cap')
        simp only [List.set_cons_succ, List.set_cons_zero] at PK6
        have ow6 := row_far hown5 (p := ⟨P, 3, none⟩) (by simp) (.slice (some ⟨gg, 0, none⟩) (j + 1) cap')
        have X6 := ((((XO.drew.grown g4 (fun e => hxr (Option.some.inj e))).alloc (.cells #[.int .i64 x] 2)).grown hgrow5 (fun e => by have := (ow4.lt _ e.symm).1; omega)).far (p := ⟨P, 3, none⟩) (by simp; omega) (.slice (some ⟨gg, 0, none⟩) (j + 1) cap'))
        have G6 := grown_setr (grown_rowr (grown_allocr ((grown_drew G).trans g4) (.cells #[.int .i64 x] 2)) hgrow5 (fun k e => by have := (ow4.lt k e).1; omega)) (p := ⟨P, 3, none⟩) (by simp; omega) (.slice (some ⟨gg, 0, none⟩) (j + 1) cap')
        rw [show List.map (Value.int .i64) L ++ [.int .i64 x] = List.map (Value.int .i64) (L ++ [x]) by simp] at ow6
        clear y0 yf y4 y4a y5 f5
        go_wp2_with (fail)
        exact ⟨⟨j + 1, kk - 1, _, _, by omega, by congr 1; omega, by rw [HS.out]; exact ⟨R6, PK6, ow6, X6, G6⟩⟩, by simp [intOf]; omega⟩
set_option maxHeartbeats 16000000 in
theorem specChange_any (r : Nat) (s : ByteArray) (o : Option Nat) (w : World) (hR : Rdr 42 w r s o) (hs : s.size ≤ 20000) :
    Calls Tryd.prog 52 #[.pointer (some ⟨r, 0, none⟩)] w fun e w' => ∃ (m : CngA) (M : List PrfA), e = .returned (cngV m.t (.slice m.A m.t.proofs.length m.c)) ∧ CngO w' w.heap.size m M ∧ ((rCng s o).2 ≠ none → m.t = (rCng s o).1) ∧ Rdr 42 w' r s (rCng s o).2 ∧ w.grownBy w' (some r) := by
  obtain ⟨ii, hii, iz0, iz1, iz2⟩ := info_parts infoPrf
  have hrl := hR.lt
  have C0 := Lib.hid (fun W h2 => specNum_any r s o W h2 hs)
  obtain ⟨a, o1, E0⟩ : ∃ x y, rN s o = (x, y) := ⟨_, _, rfl⟩
  rw [E0] at C0
  have C1 := Lib.hid (fun W h2 => specNum_any r s o1 W h2 hs)
  obtain ⟨b, o2, E1⟩ : ∃ x y, rN s o1 = (x, y) := ⟨_, _, rfl⟩
  rw [E1] at C1
  have C3 := Lib.hid (fun W h2 => many_any r s 6 o2 W h2 hs)
  have hK0 := rM_in s (most := 6) (by decide) o2
  obtain ⟨K, o4, E3⟩ : ∃ x y, rM s 6 o2 = (x, y) := ⟨_, _, rfl⟩
  rw [E3] at C3 hK0
  have hRC : rCng s o = (⟨a, b, (rL (rPrf s) K.toNat o4).1⟩, (rL (rPrf s) K.toNat o4).2) := by unfold rCng; simp only [E0, E1, E3]
  rw [hRC]
  simp only at C0 C1 C3 hK0 ⊢
  obtain ⟨n, hn⟩ : ∃ n : Nat, K = n := ⟨K.toNat, by omega⟩
  subst hn
  rw [Int.toNat_natCast]
  have hn4 : n ≤ 6 := by omega
  clear E0 E1 E3 hRC hK0
  have HBAD := Lib.hid (fun j (hj : j ≤ n) (hb : (rL (rPrf s) j o4).2 = none) => rL_bad (canonPrf s) hj hb)
  obtain ⟨FV, HF⟩ : ∃ x, Hid (rL (rPrf s) n o4 = x) := ⟨_, Lib.hid rfl⟩
  rw [HF.out]
  have X0 := Blk.fresh w 66 [.int .i64 0, .int .i64 0, .slice none 0 0]
  have b0 := below_bx w (.cells #[.int .i64 0, .int .i64 0, .slice none 0 0] 66)
  simp only [List.toArray] at X0
  have R0 := hR.below b0
  have G0 : w.grownBy (w.alloc (.cells #[.int .i64 0, .int .i64 0, .slice none 0 0] 66)) (some r) := grown_below b0
  go_enter Tryd.func52, Tryd.ntmps52
  go_wp2_with (fail)
  generalize w.alloc (.cells #[.int .i64 0, .int .i64 0, .slice none 0 0] 66) = v0 at X0 R0 G0 b0 ⊢
  have hz0 := X0.lt
  clear b0
  refine (C0.out _ R0).mono ?_
  rintro e v1 ⟨rfl, R1, g1⟩
  have X1 := X0.grown g1 (fun e => by have := Option.some.inj e; omega)
  have G1 := G0.trans g1
  clear X0 R0 G0 g1
  have P2 := Blk.fresh v1 66 [.int .i64 a, .int .i64 0, .slice none 0 0]
  have b2 := below_bx v1 (.cells #[.int .i64 a, .int .i64 0, .slice none 0 0] 66)
  simp only [List.toArray] at P2
  have X2 := X1.below b2 X1.lt
  have R2 := R1.below b2
  have G2 := grown_allocr G1 (.cells #[.int .i64 a, .int .i64 0, .slice none 0 0] 66)
  have hz3 := X1.lt
  have hzr := G1.size
  go_wp2_with (fail)
  generalize v1.alloc (.cells #[.int .i64 a, .int .i64 0, .slice none 0 0] 66) = v2 at P2 b2 X2 R2 G2 ⊢
  clear b2 X1 R1 G1
  generalize v1.heap.size = P at P2 hz3 hzr ⊢
  have hpr : P ≠ r := by omega
  have hxr : w.heap.size ≠ r := by omega
  refine (C1.out _ R2).mono ?_
  rintro e v3 ⟨rfl, R3, g3⟩
  have P3 := P2.grown g3 (fun e => hpr (Option.some.inj e))
  have X3 := X2.grown g3 (fun e => hxr (Option.some.inj e))
  have G3 := G2.trans g3
  clear X2 R2 G2 g3 P2
  have c1 := P3.cell (i := 1) rfl
  have f1 := P3.froz 1
  have P4 := P3.put 1 (.int .i64 b)
  have R4 := R3.far (p := ⟨P, 1, none⟩) (by simp; omega) (.int .i64 b)
  have X4 := X3.far (p := ⟨P, 1, none⟩) (by simp; omega) (.int .i64 b)
  have G4 := grown_setr G3 (p := ⟨P, 1, none⟩) (by simp; omega) (.int .i64 b)
  simp only [List.set_cons_succ, List.set_cons_zero] at P4
  go_wp2_with (fail)
  clear c1 f1 P3 R3 X3 G3
  generalize v3.setCell ⟨P, 1, none⟩ (.int .i64 b) = v4 at P4 R4 X4 G4 ⊢
  refine (C3.out _ R4).mono ?_
  rintro e v7 ⟨rfl, R7, g7⟩
  have P7 := P4.grown g7 (fun e => hpr (Option.some.inj e))
  have X7 := X4.grown g7 (fun e => hxr (Option.some.inj e))
  have G7 := G4.trans g7
  clear X4 R4 G4 g7 P4 C0 C1 C3
  go_wp2_with (fail)
  go_loopw [4] (fun v wr => ∃ (j kk : Nat) (A : Option Addr) (c : Nat) (M : List PrfA), j + kk = n ∧ v = .int .i64 (kk : Int) ∧ SCI w wr r P s a b (rL (rPrf s) j o4).2 (rL (rPrf s) j o4).1 A j c M) (fun v _ => (intOf v).toNat)
  case atStart => exact ⟨0, n, none, 0, [], by omega, rfl, ⟨R7, P7, World.ownsRow_nil _ _ _ _, PrfsO.nil _ _, rfl, fun _ => rfl, X7, G7⟩⟩
  case round =>
    clear R7 P7 X7 G7
    obtain ⟨j, kk, A, c, M, hj, rfl, ⟨R, PK, ow, oM, hMl, hMt, XO, G⟩⟩ := hrel
    have hln := rL_len (rPrf s) j o4
    by_cases hk0 : kk = 0
    · subst hk0
      obtain rfl : j = n := by omega
      obtain ⟨⟨L, oj⟩, hLj⟩ : ∃ x, rL (rPrf s) j o4 = x := ⟨_, rfl⟩
      have HFE : Hid (FV = (L, oj)) := Lib.hid (by rw [← HF.out, hLj])
      rw [hLj] at R hMt hln
      simp only at R hMt hln
      clear hLj HF HBAD
      have p0 := PK.cell (i := 0) rfl
      have p1 := PK.cell (i := 1) rfl
      have p2 := PK.cell (i := 2) rfl
      have x0 := XO.cell (i := 0) rfl
      have f0 := XO.froz 0
      have x1 := XO.cell (i := 1) rfl
      have f1 := XO.froz 1
      have x2 := XO.cell (i := 2) rfl
      have f2 := XO.froz 2
      go_wp2_with (fail)
      have Xf := (((XO.put 0 (.int .i64 a)).put 1 (.int .i64 b)).put 2 (.slice A j c))
      simp only [List.set_cons_succ, List.set_cons_zero] at Xf
      have Rf := (((R.far (p := ⟨w.heap.size, 0, none⟩) (by simp; omega) (.int .i64 a)).far (p := ⟨w.heap.size, 1, none⟩) (by simp; omega) (.int .i64 b)).far (p := ⟨w.heap.size, 2, none⟩) (by simp; omega) (.slice A j c))
      have Gf := (grown_setr (grown_setr (grown_setr G (p := ⟨w.heap.size, 0, none⟩) (by simp) (.int .i64 a)) (p := ⟨w.heap.size, 1, none⟩) (by simp) (.int .i64 b)) (p := ⟨w.heap.size, 2, none⟩) (by simp) (.slice A j c))
      have of := (row_far (row_far (row_far ow (p := ⟨w.heap.size, 0, none⟩) (by simp; omega) (.int .i64 a)) (p := ⟨w.heap.size, 1, none⟩) (by simp; omega) (.int .i64 b)) (p := ⟨w.heap.size, 2, none⟩) (by simp; omega) (.slice A j c))
      have oMf := (((oM.set (p := ⟨w.heap.size, 0, none⟩) (by simp; omega) (.int .i64 a)).set (p := ⟨w.heap.size, 1, none⟩) (by simp; omega) (.int .i64 b)).set (p := ⟨w.heap.size, 2, none⟩) (by simp; omega) (.slice A j c))
      clear p0 p1 p2 x0 f0 x1 f1 x2 f2 XO G PK
      generalize (((wr.setCell ⟨w.heap.size, 0, none⟩ (.int .i64 a)).setCell ⟨w.heap.size, 1, none⟩ (.int .i64 b)).setCell ⟨w.heap.size, 2, none⟩ (.slice A j c)) = w9 at Xf Rf Gf of oMf ⊢
      have x0 := Xf.cell (i := 0) rfl
      have x1 := Xf.cell (i := 1) rfl
      have x2 := Xf.cell (i := 2) rfl
      refine bodyPost_ret (v := .agg #[.int .i64 a, .int .i64 b, .slice A j c]) (by simp [results, Tryd.results52, go_sem, x0, x1, x2]) rfl ⟨⟨⟨a, b, M.map (·.t)⟩, A, c⟩, M, ?_, ?_, ?_, ?_, Gf⟩
      · simp only [List.length_map, hMl]
      · refine ⟨?_, rfl, oMf.low (by omega)⟩
        simp only [List.length_map, hMl]
        exact own_base of (by omega)
      · intro hx; rw [HFE.out] at hx ⊢; rw [hMt hx]
      · rw [HFE.out]; exact Rf
    have hlt : (0 : Int) < (kk : Int) := by omega
    cases hoj : (rL (rPrf s) j o4).2 with
    | none =>
      have HB0 : Hid (FV.2 = none) := Lib.hid (by rw [← HF.out]; exact HBAD.out j (by omega) hoj)
      rw [hoj] at R
      obtain ⟨qb, hqb, hB⟩ := R
      have R : Rdr 42 wr r s none := ⟨qb, hqb, hB⟩
      have rc2 := hB.cell (i := 2) rfl
      obtain ⟨L, hL⟩ : ∃ L, (rL (rPrf s) j o4).1 = L := ⟨_, rfl⟩
      rw [hL] at hMt hln
      clear hL HF HBAD hB
      have p0 := PK.cell (i := 0) rfl
      have p1 := PK.cell (i := 1) rfl
      have p2 := PK.cell (i := 2) rfl
      have x0 := XO.cell (i := 0) rfl
      have f0 := XO.froz 0
      have x1 := XO.cell (i := 1) rfl
      have f1 := XO.froz 1
      have x2 := XO.cell (i := 2) rfl
      have f2 := XO.froz 2
      go_wp2_with (fail)
      have Xf := (((XO.put 0 (.int .i64 a)).put 1 (.int .i64 b)).put 2 (.slice A j c))
      simp only [List.set_cons_succ, List.set_cons_zero] at Xf
      have Rf := (((R.far (p := ⟨w.heap.size, 0, none⟩) (by simp; omega) (.int .i64 a)).far (p := ⟨w.heap.size, 1, none⟩) (by simp; omega) (.int .i64 b)).far (p := ⟨w.heap.size, 2, none⟩) (by simp; omega) (.slice A j c))
      have Gf := (grown_setr (grown_setr (grown_setr G (p := ⟨w.heap.size, 0, none⟩) (by simp) (.int .i64 a)) (p := ⟨w.heap.size, 1, none⟩) (by simp) (.int .i64 b)) (p := ⟨w.heap.size, 2, none⟩) (by simp) (.slice A j c))
      have of := (row_far (row_far (row_far ow (p := ⟨w.heap.size, 0, none⟩) (by simp; omega) (.int .i64 a)) (p := ⟨w.heap.size, 1, none⟩) (by simp; omega) (.int .i64 b)) (p := ⟨w.heap.size, 2, none⟩) (by simp; omega) (.slice A j c))
      have oMf := (((oM.set (p := ⟨w.heap.size, 0, none⟩) (by simp; omega) (.int .i64 a)).set (p := ⟨w.heap.size, 1, none⟩) (by simp; omega) (.int .i64 b)).set (p := ⟨w.heap.size, 2, none⟩) (by simp; omega) (.slice A j c))
      clear p0 p1 p2 x0 f0 x1 f1 x2 f2 XO G PK
      generalize (((wr.setCell ⟨w.heap.size, 0, none⟩ (.int .i64 a)).setCell ⟨w.heap.size, 1, none⟩ (.int .i64 b)).setCell ⟨w.heap.size, 2, none⟩ (.slice A j c)) = w9 at Xf Rf Gf of oMf ⊢
      have x0 := Xf.cell (i := 0) rfl
      have x1 := Xf.cell (i := 1) rfl
      have x2 := Xf.cell (i := 2) rfl
      refine bodyPost_ret (v := .agg #[.int .i64 a, .int .i64 b, .slice A j c]) (by simp [results, Tryd.results52, go_sem, x0, x1, x2]) rfl ⟨⟨⟨a, b, M.map (·.t)⟩, A, c⟩, M, ?_, ?_, ?_, ?_, Gf⟩
      · simp only [List.length_map, hMl]
      · refine ⟨?_, rfl, oMf.low (by omega)⟩
        simp only [List.length_map, hMl]
        exact own_base of (by omega)
      · intro hx; exact absurd HB0.out hx
      · rw [HB0.out]; exact Rf
    | some p =>
      rw [hoj] at R
      have hB := R.1
      have rc2 := hB.cell (i := 2) rfl
      have HS := Lib.hid (rL_snoc (rPrf s) j o4)
      obtain ⟨⟨L, oj⟩, hLj⟩ : ∃ x, rL (rPrf s) j o4 = x := ⟨_, rfl⟩
      rw [hLj] at HS hMt hln hoj
      simp only at HS hMt hln hoj
      subst hoj
      clear hLj
      have hMt := hMt (by simp)
      have CN := Lib.hid (fun W h2 => specProof_any r s (some p) W h2 hs)
      obtain ⟨⟨x, ox⟩, hx⟩ : ∃ y, rPrf s (some p) = y := ⟨_, rfl⟩
      rw [hx] at HS CN
      simp only at HS CN
      clear hx
      have Rd := rdr_drew R
      have y0 := PK.drew.cell (i := 2) rfl
      have yf := PK.drew.froz 2
      have hpl := PK.lt
      have owd := ow.drew
      have PKd := PK.drew
      have hzg := G.size
      go_wp2_with (fail)
      clear rc2
      go_region_law
        (first
          | (go_simp; go_at_call 77; (with_reducible refine (CN.out _ Rd).mono ?_); rintro e w4 ⟨mm, rfl, oP, hmt, R4, g4⟩; have PK4 := PKd.grown g4 (fun e => hpr (Option.some.inj e)); have y4 := PK4.cell (i := 2) rfl; have y4a := (PK4.alloc (.cells #[.int .i64 mm.t.view, .int .i64 mm.t.seq, .string mm.t.op, .slice mm.A mm.t.who.length mm.c] 90)).cell (i := 2) rfl; have ow4 := World.ownsRow.kept owd g4 (.inr (fun e => by have := (owd.lt _ e).1; omega)); have zz := g4.size)
          | (refine step_append_lies _ (by rfl) _ _ _ (by rfl) (P + 1) 90 ii _ 4 56 Tryd.underlying64 hii iz0 iz1 iz2 rfl (by omega) (.slice A j c) j _ (by rfl) (World.ownsRow.alloc ow4 _)
                  ⟨w4.heap.size, 0, none⟩ 1 1 [.int .i64 mm.t.view, .int .i64 mm.t.seq, .string mm.t.op, .slice mm.A mm.t.who.length mm.c] (by rfl) (by rfl) (World.news_of_block (cs := #[.int .i64 mm.t.view, .int .i64 mm.t.seq, .string mm.t.op, .slice mm.A mm.t.who.length mm.c]) (t := 90) (fr := (0, 0)) (heap_alloc_new w4 _)) (by simp [Value.oneCell'])
                  (by omega) (by unfold maxLen; omega) (by omega) (by have := PK4.lt; simp only [World.size_alloc]; omega) (w4.heap.size + 1) (by simp) ?_; intro gg cap' w5 hown5 hgrow5 hat5 hlt5; have O5 := (PK4.alloc (.cells #[.int .i64 mm.t.view, .int .i64 mm.t.seq, .string mm.t.op, .slice mm.A mm.t.who.length mm.c] 90)).grown hgrow5 (fun e => by have := (ow4.lt _ e.symm).1; omega); have y5 := O5.cell (i := 2) rfl; have f5 := O5.froz 2))
      all_goals
        have R6 := (((rdr_alloc R4 (.cells #[.int .i64 mm.t.view, .int .i64 mm.t.seq, .string mm.t.op, .slice mm.A mm.t.who.length mm.c] 90)).grown hgrow5 (fun e => by have := (ow4.lt _ e.symm).1; omega)).far (p := ⟨P, 2, none⟩) (by simp; omega) (.slice (some ⟨gg, 0, none⟩) (j + 1) cap'))
        have PK6 := O5.put 2 (.slice (some ⟨gg, 0, none⟩) (j + 1) cap')
        simp only [List.set_cons_succ, List.set_cons_zero] at PK6
        have ow6 := row_far hown5 (p := ⟨P, 2, none⟩) (by simp) (.slice (some ⟨gg, 0, none⟩) (j + 1) cap')
        have X6 := ((((XO.drew.grown g4 (fun e => hxr (Option.some.inj e))).alloc (.cells #[.int .i64 mm.t.view, .int .i64 mm.t.seq, .string mm.t.op, .slice mm.A mm.t.who.length mm.c] 90)).grown hgrow5 (fun e => by have := (ow4.lt _ e.symm).1; omega)).far (p := ⟨P, 2, none⟩) (by simp; omega) (.slice (some ⟨gg, 0, none⟩) (j + 1) cap'))
        have G6 := grown_setr (grown_rowr (grown_allocr ((grown_drew G).trans g4) (.cells #[.int .i64 mm.t.view, .int .i64 mm.t.seq, .string mm.t.op, .slice mm.A mm.t.who.length mm.c] 90)) hgrow5 (fun k e => by have := (ow4.lt k e).1; omega)) (p := ⟨P, 2, none⟩) (by simp; omega) (.slice (some ⟨gg, 0, none⟩) (j + 1) cap')
        rw [show pflat M ++ [.int .i64 mm.t.view, .int .i64 mm.t.seq, .string mm.t.op, .slice mm.A mm.t.who.length mm.c] = pflat (M ++ [mm]) by rw [pflat_append]; rfl] at ow6
        have oM4 := ((oM.drew.kept g4 (fun k e => by cases e; omega)).alloc (.cells #[.int .i64 mm.t.view, .int .i64 mm.t.seq, .string mm.t.op, .slice mm.A mm.t.who.length mm.c] 90))
        have owa := World.ownsRow.alloc ow4 (.cells #[.int .i64 mm.t.view, .int .i64 mm.t.seq, .string mm.t.op, .slice mm.A mm.t.who.length mm.c] 90)
        have oM6 := (oM4.row owa (by decide) hgrow5).set (p := ⟨P, 2, none⟩) (by simp) (.slice (some ⟨gg, 0, none⟩) (j + 1) cap')
        have oP6 := row_far (World.ownsRow.kept (World.ownsRow.alloc oP (.cells #[.int .i64 mm.t.view, .int .i64 mm.t.seq, .string mm.t.op, .slice mm.A mm.t.who.length mm.c] 90)) hgrow5 (own_apart (World.ownsRow.alloc oP (.cells #[.int .i64 mm.t.view, .int .i64 mm.t.seq, .string mm.t.op, .slice mm.A mm.t.who.length mm.c] 90)) owa (by decide))) (p := ⟨P, 2, none⟩) (by simp; omega) (.slice (some ⟨gg, 0, none⟩) (j + 1) cap')
        have oN6 := oM6.append (PrfsO.one oP6) (fun i hi a e => (oM.lt i hi a e).2) (by simp; omega)
        clear y0 yf y4 y4a y5 f5
        go_wp2_with (fail)
        exact ⟨⟨j + 1, kk - 1, _, _, M ++ [mm], by omega, by congr 1; omega, by rw [HS.out]; exact ⟨R6, PK6, ow6, oN6, by simp [hMl], fun hne => by rw [List.map_append, hMt, List.map_singleton, hmt hne], X6, G6⟩⟩, by simp [intOf]; omega⟩
end Go.Proofs.YtjnbhppnchmeoaaDoor

namespace Go.Proofs.YtjnbhppnchmeoaaDoor
open Go.RowKit
set_option linter.unusedVariables false
set_option maxRecDepth 1000000
end Go.Proofs.YtjnbhppnchmeoaaDoor

namespace Go.Proofs.YtjnbhppnchmeoaaDoor
open Go.RowKit
set_option linter.unusedVariables false
set_option maxRecDepth 1000000

theorem sputNum_e (n : Int) (h0 : -9223372036854775808 ≤ n) (h1 : n ≤ 9223372036854775807) : ∀ W, Calls Tryd.prog 63 #[.int .i64 n] W fun e w' => e = .returned (.string (numS n)) ∧ Below W.heap.size W w' := fun W => specPutNum_any n W h0 h1
set_option maxHeartbeats 8000000 in
theorem l10Proof_any (t : Prf) (A : Option Addr) (c : Nat) (w : World) {lo : Nat} (h : PrfSz t) (hA : Ints w lo w.heap.size A t.who) :
    Calls Tryd.prog 122 #[prfV t (.slice A t.who.length c)] w fun e w' => e = .returned (.string (prfE t)) ∧ Below w.heap.size w w' := by
  have HE0 : Hid (prfE t = numS t.view ++ numS t.seq ++ ptext t.op ++ numS t.who.length ++ cat numS t.who) := rfl
  obtain ⟨view, seq, op, L⟩ := t
  obtain ⟨z0, z1, z2, z3, z4⟩ := h
  simp only at z0 z1 z2 z3 z4 hA HE0 ⊢
  generalize prfE ⟨view, seq, op, L⟩ = E at HE0 ⊢
  have hK := Blk.fresh w 90 [.int .i64 view, .int .i64 seq, .string op, .slice A L.length c]
  have hb0 := below_bx w (.cells #[.int .i64 view, .int .i64 seq, .string op, .slice A L.length c] 90)
  simp only [List.toArray] at hK
  have P0 := Lib.hid (sputNum_e view (by omega) (by omega))
  have l0 := numS10 (n := view) (by omega) (by omega)
  have P1 := Lib.hid (sputNum_e seq (by omega) (by omega))
  have l1 := numS10 (n := seq) (by omega) (by omega)
  have P2 := Lib.hid (fun W => specPutText_any op W (by omega))
  have l2 := ptext_le (t := op) (by omega)
  have P3 := Lib.hid (sputNum_e L.length (by omega) (by omega))
  have l3 := numS10 (n := (L.length : Int)) (by omega) (by omega)
  have ZL := Lib.hid z4
  clear z4
  generalize numS view = s0 at P0 l0 HE0
  generalize numS seq = s1 at P1 l1 HE0
  generalize ptext op = s2 at P2 l2 HE0
  generalize numS (L.length : Int) = s3 at P3 l3 HE0
  have l2' : s2.size ≤ 130 := by omega
  clear l2
  go_enter Tryd.func122, Tryd.ntmps122
  go_wp2_with (fail)
  generalize w.alloc (.cells #[.int .i64 view, .int .i64 seq, .string op, .slice A L.length c] 90) = v0 at hK hb0 ⊢
  obtain ⟨I, f, hI, g0, gk, gc, ge⟩ := class_grown v0
  have x0 := fun s => kept_cell (gk s) (hK.cell (i := 0) rfl)
  have x1 := fun s => kept_cell (gk s) (hK.cell (i := 1) rfl)
  have x2 := fun s => kept_cell (gk s) (hK.cell (i := 2) rfl)
  have x3 := fun s => kept_cell (gk s) (hK.cell (i := 3) rfl)
  refine wp_region_kept f (by kernel_rfl) (by kernel_rfl) g0 ?_
  repeat (first
    | go_big_quiet_skip
    | (go_big_quiet_want; go_big_quiet_op; first
        | go_big_quiet_on
        | (apply Exists.intro; refine ⟨fun s => ?_, ?_⟩; (go_at_call 63; (with_reducible refine (P0.out _).mono ?_); rintro e w4 ⟨rfl, hb4⟩; exact ⟨rfl, gc _ _ hb4⟩); go_big_quiet_on)
        | (apply Exists.intro; refine ⟨fun s => ?_, ?_⟩; (go_at_call 63; (with_reducible refine (P1.out _).mono ?_); rintro e w4 ⟨rfl, hb4⟩; exact ⟨rfl, gc _ _ hb4⟩); go_big_quiet_on)
        | (apply Exists.intro; refine ⟨fun s => ?_, ?_⟩; (go_at_call 64; (with_reducible refine (P2.out _).mono ?_); rintro e w4 ⟨rfl, hb4⟩; exact ⟨rfl, gc _ _ hb4⟩); go_big_quiet_on)
        | (apply Exists.intro; refine ⟨fun s => ?_, ?_⟩; (go_at_call 63; (with_reducible refine (P3.out _).mono ?_); rintro e w4 ⟨rfl, hb4⟩; exact ⟨rfl, gc _ _ hb4⟩); go_big_quiet_on)))
  refine wpQuiet_nil ?_
  intro w1 h1
  have hb1 := ge _ h1
  have hK1 := hK.below hb1 hK.lt
  have hw1 := hb0.trans (hb1.mono hb0.size)
  clear x0 x1 x2 x3 gk gc ge g0 hI h1 hb1 hK hb0 P0 P1 P2 P3
  obtain ⟨e1, HE1⟩ : ∃ e1, Hid (s0 ++ s1 ++ s2 ++ s3 = e1) := ⟨_, Lib.hid rfl⟩
  have hl1 : e1.size ≤ 180 := by rw [← HE1.out]; simp only [ByteArray.size_append]; omega
  rw [HE1.out] at HE0
  have c3 := hK1.cell (i := 3) rfl
  go_wp2
  rw [HE1.out]
  clear HE1 c3 l0 l1 l2' l3
  go_loopw [3, 4] (fun v i wr => ∃ (k : Nat) (acc : ByteArray), k ≤ L.length ∧ i = .int .i64 k ∧ v = .string acc ∧ acc = e1 ++ cat numS (L.take k) ∧ acc.size ≤ 180 + k * 10 ∧ Blk wr w.heap.size 90 [.int .i64 view, .int .i64 seq, .string op, .slice A L.length c] ∧ Below w.heap.size w wr) (fun _ i _ => L.length - (intOf i).toNat)
  case atStart => exact ⟨0, e1, by omega, rfl, rfl, (cat_zero _ _ _).symm, by omega, hK1, hw1⟩
  case round =>
    obtain ⟨k, acc, hk, rfl, rfl, hacc, hl, hK3, hw3⟩ := hrel
    have HA := Lib.hid hacc
    clear hacc hK1 hw1
    have k5 := hK3.cell (i := 3) rfl
    by_cases hlt : k < L.length
    rotate_left
    · obtain rfl : k = L.length := by omega
      have HA2 : Hid (E = acc) := Lib.hid (by rw [HE0.out, HA.out, cat_all])
      obtain rfl := HA2.out
      clear HA HE0 HA2
      go_wp2
      go_ret
      exact ⟨rfl, hw3⟩
    have hlt' : (k : Int) < (L.length : Int) := by omega
    have HC := Lib.hid (cat_next numS L hlt e1)
    have hz := ZL.out k hlt
    obtain ⟨a, rfl, _, hab, a0, _⟩ := (hA.on hw3).2 k hlt
    have PE := Lib.hid (sputNum_e L[k] (by omega) (by omega))
    have le := numS10 (n := L[k]) (by omega) (by omega)
    generalize numS L[k] = se at PE le HC
    go_wp2_with (go_at_call 63; (with_reducible refine (PE.out _).mono ?_); rintro e w5 ⟨rfl, hb5⟩)
    exact ⟨⟨k + 1, acc ++ se, by omega, by go_num, rfl, by rw [HC.out, HA.out], by rw [ByteArray.size_append]; omega, hK3.below hb5 hK3.lt, hw3.trans (hb5.mono hw3.size)⟩, by simp [intOf]; omega⟩
set_option maxHeartbeats 8000000 in
theorem l10Change_any (t : Cng) (A : Option Addr) (c : Nat) (w : World) {lo : Nat} (h : CngSz t) (hA : Prs w lo w.heap.size A t.proofs) :
    Calls Tryd.prog 107 #[cngV t (.slice A t.proofs.length c)] w fun e w' => e = .returned (.string (cngE t)) ∧ Below w.heap.size w w' := by
  have HE0 : Hid (cngE t = numS t.frm ++ numS t.view ++ numS t.proofs.length ++ cat prfE t.proofs) := rfl
  obtain ⟨frm, view, L⟩ := t
  obtain ⟨z0, z1, z2, z3⟩ := h
  simp only at z0 z1 z2 z3 hA HE0 ⊢
  generalize cngE ⟨frm, view, L⟩ = E at HE0 ⊢
  have hK := Blk.fresh w 66 [.int .i64 frm, .int .i64 view, .slice A L.length c]
  have hb0 := below_bx w (.cells #[.int .i64 frm, .int .i64 view, .slice A L.length c] 66)
  simp only [List.toArray] at hK
  have P0 := Lib.hid (sputNum_e frm (by omega) (by omega))
  have l0 := numS10 (n := frm) (by omega) (by omega)
  have P1 := Lib.hid (sputNum_e view (by omega) (by omega))
  have l1 := numS10 (n := view) (by omega) (by omega)
  have P2 := Lib.hid (sputNum_e L.length (by omega) (by omega))
  have l2 := numS10 (n := (L.length : Int)) (by omega) (by omega)
  have ZL := Lib.hid z3
  clear z3
  generalize numS frm = s0 at P0 l0 HE0
  generalize numS view = s1 at P1 l1 HE0
  generalize numS (L.length : Int) = s2 at P2 l2 HE0
  go_enter Tryd.func107, Tryd.ntmps107
  go_wp2_with (fail)
  generalize w.alloc (.cells #[.int .i64 frm, .int .i64 view, .slice A L.length c] 66) = v0 at hK hb0 ⊢
  obtain ⟨I, f, hI, g0, gk, gc, ge⟩ := class_grown v0
  have x0 := fun s => kept_cell (gk s) (hK.cell (i := 0) rfl)
  have x1 := fun s => kept_cell (gk s) (hK.cell (i := 1) rfl)
  have x2 := fun s => kept_cell (gk s) (hK.cell (i := 2) rfl)
  refine wp_region_kept f (by kernel_rfl) (by kernel_rfl) g0 ?_
  repeat (first
    | go_big_quiet_skip
    | (go_big_quiet_want; go_big_quiet_op; first
        | go_big_quiet_on
        | (apply Exists.intro; refine ⟨fun s => ?_, ?_⟩; (go_at_call 63; (with_reducible refine (P0.out _).mono ?_); rintro e w4 ⟨rfl, hb4⟩; exact ⟨rfl, gc _ _ hb4⟩); go_big_quiet_on)
        | (apply Exists.intro; refine ⟨fun s => ?_, ?_⟩; (go_at_call 63; (with_reducible refine (P1.out _).mono ?_); rintro e w4 ⟨rfl, hb4⟩; exact ⟨rfl, gc _ _ hb4⟩); go_big_quiet_on)
        | (apply Exists.intro; refine ⟨fun s => ?_, ?_⟩; (go_at_call 63; (with_reducible refine (P2.out _).mono ?_); rintro e w4 ⟨rfl, hb4⟩; exact ⟨rfl, gc _ _ hb4⟩); go_big_quiet_on)))
  refine wpQuiet_nil ?_
  intro w1 h1
  have hb1 := ge _ h1
  have hK1 := hK.below hb1 hK.lt
  have hw1 := hb0.trans (hb1.mono hb0.size)
  clear x0 x1 x2 gk gc ge g0 hI h1 hb1 hK hb0 P0 P1 P2
  obtain ⟨e1, HE1⟩ : ∃ e1, Hid (s0 ++ s1 ++ s2 = e1) := ⟨_, Lib.hid rfl⟩
  have hl1 : e1.size ≤ 30 := by rw [← HE1.out]; simp only [ByteArray.size_append]; omega
  rw [HE1.out] at HE0
  have c2 := hK1.cell (i := 2) rfl
  go_wp2
  rw [HE1.out]
  clear HE1 c2 l0 l1 l2
  go_loopw [3, 4] (fun v i wr => ∃ (k : Nat) (acc : ByteArray), k ≤ L.length ∧ i = .int .i64 k ∧ v = .string acc ∧ acc = e1 ++ cat prfE (L.take k) ∧ acc.size ≤ 30 + k * 210 ∧ Blk wr w.heap.size 66 [.int .i64 frm, .int .i64 view, .slice A L.length c] ∧ Below w.heap.size w wr) (fun _ i _ => L.length - (intOf i).toNat)
  case atStart => exact ⟨0, e1, by omega, rfl, rfl, (cat_zero _ _ _).symm, by omega, hK1, hw1⟩
  case round =>
    obtain ⟨k, acc, hk, rfl, rfl, hacc, hl, hK3, hw3⟩ := hrel
    have HA := Lib.hid hacc
    clear hacc hK1 hw1
    have k5 := hK3.cell (i := 2) rfl
    by_cases hlt : k < L.length
    rotate_left
    · obtain rfl : k = L.length := by omega
      have HA2 : Hid (E = acc) := Lib.hid (by rw [HE0.out, HA.out, cat_all])
      obtain rfl := HA2.out
      clear HA HE0 HA2
      go_wp2
      go_ret
      exact ⟨rfl, hw3⟩
    have hlt' : (k : Int) < (L.length : Int) := by omega
    have HC := Lib.hid (cat_next prfE L hlt e1)
    have hz := ZL.out k hlt
    obtain ⟨a, rfl, hab, C, c1, a0, a1, a2, a3, hC⟩ := (hA.on hw3).at k hlt
    have le := prfE_le hz
    have hK4 := hK3
    have hw4 := hw3
    have PE := Lib.hid (l10Proof_any L[k] C c1 wr hz hC)
    generalize prfE L[k] = se at PE le HC
    go_wp2_with (go_at_call 122; (with_reducible refine (PE.out).mono ?_); rintro e w5 ⟨rfl, hb5⟩)
    exact ⟨⟨k + 1, acc ++ se, by omega, by go_num, rfl, by rw [HC.out, HA.out], by rw [ByteArray.size_append]; omega, hK4.below hb5 hK4.lt, hw4.trans (hb5.mono hw4.size)⟩, by simp [intOf]; omega⟩
set_option maxHeartbeats 8000000 in
theorem l10Bytes_any (t : Sy) (A : Option Addr) (c : Nat) (w : World) {lo : Nat} (h : SySz t) (hA : Chs w lo w.heap.size A t.changes) :
    Calls Tryd.prog 79 #[syV t (.slice A t.changes.length c)] w fun e w' => e = .returned (.string (syE t)) ∧ Below w.heap.size w w' := by
  have HE0 : Hid (syE t = numS t.kind ++ numS t.frm ++ numS t.view ++ numS t.seq ++ ptext t.op ++ numS t.changes.length ++ cat cngE t.changes) := rfl
  obtain ⟨kind, frm, view, seq, op, L⟩ := t
  obtain ⟨z0, z1, z2, z3, z4, z5, z6⟩ := h
  simp only at z0 z1 z2 z3 z4 z5 z6 hA HE0 ⊢
  generalize syE ⟨kind, frm, view, seq, op, L⟩ = E at HE0 ⊢
  have hK := Blk.fresh w 34 [.int .i64 kind, .int .i64 frm, .int .i64 view, .int .i64 seq, .string op, .slice A L.length c]
  have hb0 := below_bx w (.cells #[.int .i64 kind, .int .i64 frm, .int .i64 view, .int .i64 seq, .string op, .slice A L.length c] 34)
  simp only [List.toArray] at hK
  have P0 := Lib.hid (sputNum_e kind (by omega) (by omega))
  have l0 := numS10 (n := kind) (by omega) (by omega)
  have P1 := Lib.hid (sputNum_e frm (by omega) (by omega))
  have l1 := numS10 (n := frm) (by omega) (by omega)
  have P2 := Lib.hid (sputNum_e view (by omega) (by omega))
  have l2 := numS10 (n := view) (by omega) (by omega)
  have P3 := Lib.hid (sputNum_e seq (by omega) (by omega))
  have l3 := numS10 (n := seq) (by omega) (by omega)
  have P4 := Lib.hid (fun W => specPutText_any op W (by omega))
  have l4 := ptext_le (t := op) (by omega)
  have P5 := Lib.hid (sputNum_e L.length (by omega) (by omega))
  have l5 := numS10 (n := (L.length : Int)) (by omega) (by omega)
  have ZL := Lib.hid z6
  clear z6
  generalize numS kind = s0 at P0 l0 HE0
  generalize numS frm = s1 at P1 l1 HE0
  generalize numS view = s2 at P2 l2 HE0
  generalize numS seq = s3 at P3 l3 HE0
  generalize ptext op = s4 at P4 l4 HE0
  generalize numS (L.length : Int) = s5 at P5 l5 HE0
  have l4' : s4.size ≤ 130 := by omega
  clear l4
  go_enter Tryd.func79, Tryd.ntmps79
  go_wp2_with (fail)
  generalize w.alloc (.cells #[.int .i64 kind, .int .i64 frm, .int .i64 view, .int .i64 seq, .string op, .slice A L.length c] 34) = v0 at hK hb0 ⊢
  obtain ⟨I, f, hI, g0, gk, gc, ge⟩ := class_grown v0
  have x0 := fun s => kept_cell (gk s) (hK.cell (i := 0) rfl)
  have x1 := fun s => kept_cell (gk s) (hK.cell (i := 1) rfl)
  have x2 := fun s => kept_cell (gk s) (hK.cell (i := 2) rfl)
  have x3 := fun s => kept_cell (gk s) (hK.cell (i := 3) rfl)
  have x4 := fun s => kept_cell (gk s) (hK.cell (i := 4) rfl)
  have x5 := fun s => kept_cell (gk s) (hK.cell (i := 5) rfl)
  refine wp_region_kept f (by kernel_rfl) (by kernel_rfl) g0 ?_
  repeat (first
    | go_big_quiet_skip
    | (go_big_quiet_want; go_big_quiet_op; first
        | go_big_quiet_on
        | (apply Exists.intro; refine ⟨fun s => ?_, ?_⟩; (go_at_call 63; (with_reducible refine (P0.out _).mono ?_); rintro e w4 ⟨rfl, hb4⟩; exact ⟨rfl, gc _ _ hb4⟩); go_big_quiet_on)
        | (apply Exists.intro; refine ⟨fun s => ?_, ?_⟩; (go_at_call 63; (with_reducible refine (P1.out _).mono ?_); rintro e w4 ⟨rfl, hb4⟩; exact ⟨rfl, gc _ _ hb4⟩); go_big_quiet_on)
        | (apply Exists.intro; refine ⟨fun s => ?_, ?_⟩; (go_at_call 63; (with_reducible refine (P2.out _).mono ?_); rintro e w4 ⟨rfl, hb4⟩; exact ⟨rfl, gc _ _ hb4⟩); go_big_quiet_on)
        | (apply Exists.intro; refine ⟨fun s => ?_, ?_⟩; (go_at_call 63; (with_reducible refine (P3.out _).mono ?_); rintro e w4 ⟨rfl, hb4⟩; exact ⟨rfl, gc _ _ hb4⟩); go_big_quiet_on)
        | (apply Exists.intro; refine ⟨fun s => ?_, ?_⟩; (go_at_call 64; (with_reducible refine (P4.out _).mono ?_); rintro e w4 ⟨rfl, hb4⟩; exact ⟨rfl, gc _ _ hb4⟩); go_big_quiet_on)
        | (apply Exists.intro; refine ⟨fun s => ?_, ?_⟩; (go_at_call 63; (with_reducible refine (P5.out _).mono ?_); rintro e w4 ⟨rfl, hb4⟩; exact ⟨rfl, gc _ _ hb4⟩); go_big_quiet_on)))
  refine wpQuiet_nil ?_
  intro w1 h1
  have hb1 := ge _ h1
  have hK1 := hK.below hb1 hK.lt
  have hw1 := hb0.trans (hb1.mono hb0.size)
  clear x0 x1 x2 x3 x4 x5 gk gc ge g0 hI h1 hb1 hK hb0 P0 P1 P2 P3 P4 P5
  obtain ⟨e1, HE1⟩ : ∃ e1, Hid (s0 ++ s1 ++ s2 ++ s3 ++ s4 ++ s5 = e1) := ⟨_, Lib.hid rfl⟩
  have hl1 : e1.size ≤ 180 := by rw [← HE1.out]; simp only [ByteArray.size_append]; omega
  rw [HE1.out] at HE0
  have c5 := hK1.cell (i := 5) rfl
  go_wp2
  rw [HE1.out]
  clear HE1 c5 l0 l1 l2 l3 l4' l5
  go_loopw [3, 4] (fun v i wr => ∃ (k : Nat) (acc : ByteArray), k ≤ L.length ∧ i = .int .i64 k ∧ v = .string acc ∧ acc = e1 ++ cat cngE (L.take k) ∧ acc.size ≤ 180 + k * 1300 ∧ Blk wr w.heap.size 34 [.int .i64 kind, .int .i64 frm, .int .i64 view, .int .i64 seq, .string op, .slice A L.length c] ∧ Below w.heap.size w wr) (fun _ i _ => L.length - (intOf i).toNat)
  case atStart => exact ⟨0, e1, by omega, rfl, rfl, (cat_zero _ _ _).symm, by omega, hK1, hw1⟩
  case round =>
    obtain ⟨k, acc, hk, rfl, rfl, hacc, hl, hK3, hw3⟩ := hrel
    have HA := Lib.hid hacc
    clear hacc hK1 hw1
    have k5 := hK3.cell (i := 5) rfl
    by_cases hlt : k < L.length
    rotate_left
    · obtain rfl : k = L.length := by omega
      have HA2 : Hid (E = acc) := Lib.hid (by rw [HE0.out, HA.out, cat_all])
      obtain rfl := HA2.out
      clear HA HE0 HA2
      go_wp2
      go_ret
      exact ⟨rfl, hw3⟩
    have hlt' : (k : Int) < (L.length : Int) := by omega
    have HC := Lib.hid (cat_next cngE L hlt e1)
    have hz := ZL.out k hlt
    obtain ⟨a, rfl, hab, C, c1, a0, a1, a2, hC⟩ := (hA.on hw3).at k hlt
    have le := cngE_le hz
    have hK4 := hK3
    have hw4 := hw3
    have PE := Lib.hid (l10Change_any L[k] C c1 wr hz hC)
    generalize cngE L[k] = se at PE le HC
    go_wp2_with (go_at_call 107; (with_reducible refine (PE.out).mono ?_); rintro e w5 ⟨rfl, hb5⟩)
    exact ⟨⟨k + 1, acc ++ se, by omega, by go_num, rfl, by rw [HC.out, HA.out], by rw [ByteArray.size_append]; omega, hK4.below hb5 hK4.lt, hw4.trans (hb5.mono hw4.size)⟩, by simp [intOf]; omega⟩
set_option maxHeartbeats 4000000 in
theorem specSayBytes_any (t : Sy) (A : Option Addr) (c : Nat) (w : World) {lo : Nat} (hf : t.fits) (hA : Chs w lo w.heap.size A t.changes) :
    Calls Tryd.prog 53 #[syV t (.slice A t.changes.length c)] w fun e w' => e = .returned (.string (syBytes t)) ∧ Below w.heap.size w w' := by
  have BR := Lib.hid (fun W (h : Below w.heap.size w W) => specSayRight_any t A c W hf (hA.on h))
  have F0 : Hid (sayB t = false → syBytes t = ⟨#[]⟩) := Lib.hid syBytes_no
  have F1 : Hid (sayB t = true → syBytes t = syE t) := Lib.hid syBytes_ok
  have BY := Lib.hid (fun (h : sayB t = true) W (hb : Below w.heap.size w W) => l10Bytes_any t A c W (sySz h) (hA.on hb))
  generalize syBytes t = r at F0 F1 ⊢
  generalize syE t = E at F1 BY
  obtain ⟨kind, frm, view, seq, op, L⟩ := t
  simp only at hA BR BY
  have hK := Blk.fresh w 34 [.int .i64 kind, .int .i64 frm, .int .i64 view, .int .i64 seq, .string op, .slice A L.length c]
  have hb0 := below_bx w (.cells #[.int .i64 kind, .int .i64 frm, .int .i64 view, .int .i64 seq, .string op, .slice A L.length c] 34)
  simp only [List.toArray] at hK
  rcases Bool.eq_false_or_eq_true (sayB ⟨kind, frm, view, seq, op, L⟩) with hT | hT
  rotate_left
  · have H0 := Lib.hid (F0.out hT)
    rw [hT] at BR
    obtain rfl := H0.out
    clear hT F0 F1 H0 BY
    go_enter Tryd.func53, Tryd.ntmps53
    have k0 := hK.cell (i := 0) rfl
    have k1 := hK.cell (i := 1) rfl
    have k2 := hK.cell (i := 2) rfl
    have k3 := hK.cell (i := 3) rfl
    have k4 := hK.cell (i := 4) rfl
    have k5 := hK.cell (i := 5) rfl
    go_wp2_with (fail)
    clear k0 k1 k2 k3 k4 k5
    generalize w.alloc (.cells #[.int .i64 kind, .int .i64 frm, .int .i64 view, .int .i64 seq, .string op, .slice A L.length c] 34) = v0 at hK hb0 ⊢
    refine (BR.out _ hb0).mono ?_
    rintro e w1 ⟨rfl, hb1⟩
    go_wp2
    go_ret
    exact ⟨rfl, hb0.trans (hb1.mono hb0.size)⟩
  obtain rfl := F1.out hT
  have BY2 := Lib.hid (BY.out hT)
  rw [hT] at BR
  clear hT F0 F1 BY
  go_enter Tryd.func53, Tryd.ntmps53
  have k0 := hK.cell (i := 0) rfl
  have k1 := hK.cell (i := 1) rfl
  have k2 := hK.cell (i := 2) rfl
  have k3 := hK.cell (i := 3) rfl
  have k4 := hK.cell (i := 4) rfl
  have k5 := hK.cell (i := 5) rfl
  go_wp2_with (fail)
  clear k0 k1 k2 k3 k4 k5
  generalize w.alloc (.cells #[.int .i64 kind, .int .i64 frm, .int .i64 view, .int .i64 seq, .string op, .slice A L.length c] 34) = v0 at hK hb0 ⊢
  refine (BR.out _ hb0).mono ?_
  rintro e w1 ⟨rfl, hb1⟩
  have hK1 := hK.below hb1 hK.lt
  have hw1 := hb0.trans (hb1.mono hb0.size)
  have k0 := hK1.cell (i := 0) rfl
  have k1 := hK1.cell (i := 1) rfl
  have k2 := hK1.cell (i := 2) rfl
  have k3 := hK1.cell (i := 3) rfl
  have k4 := hK1.cell (i := 4) rfl
  have k5 := hK1.cell (i := 5) rfl
  go_wp2_with (fail)
  clear k0 k1 k2 k3 k4 k5
  refine (BY2.out _ hw1).mono ?_
  rintro e w2 ⟨rfl, hb2⟩
  go_wp2
  go_ret
  exact ⟨rfl, hw1.trans (hb2.mono hw1.size)⟩
end Go.Proofs.YtjnbhppnchmeoaaDoor

namespace Go.Proofs.YtjnbhppnchmeoaaDoor
open Go.RowKit
set_option linter.unusedVariables false

theorem str_beq_t {a b : ByteArray} (h : a = b) : (a.toList == b.toList) = true := by rw [h]; simp
theorem str_beq_f {a b : ByteArray} (h : ¬ a = b) : (a.toList == b.toList) = false := by
  rw [beq_eq_false_iff_ne]; intro e; rw [Lib.toList_data, Lib.toList_data] at e; exact h (ByteArray.ext (Array.toList_inj.1 e))
theorem str_bne_f {a b : ByteArray} (h : a = b) : (a.toList != b.toList) = false := by rw [bne, str_beq_t h]; rfl
theorem str_bne_t {a b : ByteArray} (h : ¬ a = b) : (a.toList != b.toList) = true := by rw [bne, str_beq_f h]; rfl
end Go.Proofs.YtjnbhppnchmeoaaDoor
