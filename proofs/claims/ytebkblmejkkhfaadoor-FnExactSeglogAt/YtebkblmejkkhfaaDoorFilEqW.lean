/- SeglogAt: spec and impl answer alike. The comparison that the exact laws make of two file systems: true where both hold the same files. -/
import Derived.Test.YtebkblmejkkhfaaDoorLogRW
import Derived.Test.YtebkblmejkkhfaaDoorLogTW
import Derived.Test.YtebkblmejkkhfaaDoorFilOwnW
import Derived.Test.YtebkblmejkkhfaaDoorKeptW
namespace Go.Proofs.YtebkblmejkkhfaaDoor
open Go.RowKit
set_option linter.unusedVariables false
set_option linter.unusedSimpArgs false
set_option maxRecDepth 1000000

theorem logB_len {L : List Fil} {f m : Int} (h : logB L f m = true) : ((allT L).length : Int) = m ∧ 0 ≤ f ∧ f ≤ 900000 ∧ 0 ≤ m ∧ m ≤ 60 ∧ f + m ≤ 900000 := by
  have h1 := logB_iff.1 h
  obtain ⟨g1, g2, g3, g4, g5, g6⟩ := numOK_iff.1 h1.2.1
  exact ⟨((logB_spec h1.1 h1.2.1).1 h).2.2, g1, g2, g4, g5, g6⟩
open Classical in
/-- The text and the code that SeglogAt answers. -/
noncomputable def atT (L : List Fil) (f m n : Int) : ByteArray := if logB L f m = true ∧ f ≤ n ∧ n < f + m then (allT L).getD (n - f).toNat ⟨#[]⟩ else ⟨#[]⟩
open Classical in
noncomputable def atC (L : List Fil) (f m n : Int) : Int := if logB L f m = false then 1 else if f ≤ n ∧ n < f + m then 0 else 6

set_option maxHeartbeats 4000000 in
theorem specSeglogAt_any (A : Option Addr) (L : List Fil) (c : Nat) (f m n : Int) (w : World) (hL : Fls w w.heap.size A L) (hf : (Lit.int .i64 f).wf = true) (hm : (Lit.int .i64 m).wf = true) (hn : (Lit.int .i64 n).wf = true) :
    Calls Tryd.prog 18 #[segV (.slice A L.length c) f m, .int .i64 n] w fun e w' => e = .returned (textOut (atT L f m n) 0 (atC L f m n)) ∧ Below w.heap.size w w' := by
  have n64 := wf_i64 hn
  have hb0 : Below w.heap.size w ((w.alloc (.cells #[.slice A L.length c, .int .i64 f, .int .i64 m] 35)).alloc (.cells #[.string ⟨#[]⟩, .int .i64 0, .int .i64 0] 43)) := ((Below.refl _ _).alloc (Nat.le_refl _) _).alloc (by simp) _
  have k0 := (Blk.fresh w 35 [.slice A L.length c, .int .i64 f, .int .i64 m]).alloc (.cells #[.string ⟨#[]⟩, .int .i64 0, .int .i64 0] 43)
  have k1 := Blk.fresh (w.alloc (.cells #[.slice A L.length c, .int .i64 f, .int .i64 m] 35)) 43 [.string ⟨#[]⟩, .int .i64 0, .int .i64 0]
  simp only [List.toArray, World.size_alloc] at k0 k1
  have HR := Lib.hid (specLogR_any A L c f m _ ((hL.below hb0 (Nat.le_refl _)).mono hb0.size) hf hm)
  clear hf hm hn
  go_enter Tryd.func18, Tryd.ntmps18
  go_wp2_with (fail)
  refine HR.out.mono ?_
  generalize (w.alloc (.cells #[.slice A L.length c, .int .i64 f, .int .i64 m] 35)).alloc (.cells #[.string ⟨#[]⟩, .int .i64 0, .int .i64 0] 43) = w1 at hb0 k0 k1 ⊢
  rintro e w2 ⟨v, rfl, hown, hb2⟩
  clear HR
  have hw2 := hb0.trans (hb2.mono hb0.size)
  have q0 := k0.below hb2 k0.lt
  have q1 := k1.below hb2 k1.lt
  have c1 := q0.cell (i := 1) rfl
  have c2 := q0.cell (i := 2) rfl
  have t0 := q1.cell (i := 0) rfl
  have t1 := q1.cell (i := 1) rfl
  have t2 := q1.cell (i := 2) rfl
  have f0 := q1.froz 0
  have f1 := q1.froz 1
  have f2 := q1.froz 2
  rcases Bool.eq_false_or_eq_true (logB L f m) with hB | hB
  · have hO := hown hB
    obtain ⟨hlen, g1, g2, g3, g4, g5⟩ := logB_len hB
    obtain ⟨Av, cv, rfl⟩ := ownS_some hO
    have hst := (OwnS.strs hO).2
    rw [hB]
    by_cases h1 : n < f
    · have R1 := Lib.hid (show atT L f m n = ⟨#[]⟩ by unfold atT; rw [if_neg (by omega)])
      have R2 := Lib.hid (show atC L f m n = 6 by unfold atC; rw [if_neg (by simp [hB]), if_neg (by omega)])
      clear hB hown hlen
      go_wp2
      have r1 := ((q1.put 0 (.string ⟨#[]⟩)).put 1 (.int .i64 0)).put 2 (.int .i64 6)
      have r3 := ((hw2.setCell (p := ⟨w.heap.size + 1, 0, none⟩) (by simp) (.string ⟨#[]⟩)).setCell (p := ⟨w.heap.size + 1, 1, none⟩) (by simp) (.int .i64 0)).setCell (p := ⟨w.heap.size + 1, 2, none⟩) (by simp) (.int .i64 6)
      generalize ((w2.setCell ⟨w.heap.size + 1, 0, none⟩ (.string ⟨#[]⟩)).setCell ⟨w.heap.size + 1, 1, none⟩ (.int .i64 0)).setCell ⟨w.heap.size + 1, 2, none⟩ (.int .i64 6) = w9 at r1 r3 ⊢
      have x0 := r1.cell (i := 0) rfl
      have x1 := r1.cell (i := 1) rfl
      have x2 := r1.cell (i := 2) rfl
      exact bodyPost_ret (v := textOut ⟨#[]⟩ 0 6) (by simp [results, Tryd.results18, go_sem, x0, x1, x2]) rfl ⟨by rw [R1.out, R2.out], r3⟩
    · by_cases h2 : n < f + m
      · obtain ⟨j, hj⟩ : ∃ j : Nat, (j : Int) = n - f := ⟨(n - f).toNat, by omega⟩
        have hjl : j < (allT L).length := by omega
        obtain ⟨aa, rfl, hab, hcell⟩ := hst.2 j hjl
        have R1 := Lib.hid (show atT L f m n = (allT L)[j] by unfold atT; rw [if_pos ⟨hB, by omega, h2⟩, ← hj]; simp [List.getD, List.getElem?_eq_getElem hjl])
        have R2 := Lib.hid (show atC L f m n = 0 by unfold atC; rw [if_neg (by simp [hB]), if_pos ⟨by omega, h2⟩])
        obtain rfl : n = f + (j : Int) := by omega
        have hsub : f + (j : Int) - f = (j : Int) := by omega
        have hjl' : (j : Int) < ((allT L).length : Int) := by omega
        clear hB hown hlen hst hj
        go_wp2
        have r1 := ((q1.put 0 (.string (allT L)[j])).put 1 (.int .i64 0)).put 2 (.int .i64 0)
        have r3 := ((hw2.setCell (p := ⟨w.heap.size + 1, 0, none⟩) (by simp) (.string (allT L)[j])).setCell (p := ⟨w.heap.size + 1, 1, none⟩) (by simp) (.int .i64 0)).setCell (p := ⟨w.heap.size + 1, 2, none⟩) (by simp) (.int .i64 0)
        generalize ((w2.setCell ⟨w.heap.size + 1, 0, none⟩ (.string (allT L)[j])).setCell ⟨w.heap.size + 1, 1, none⟩ (.int .i64 0)).setCell ⟨w.heap.size + 1, 2, none⟩ (.int .i64 0) = w9 at r1 r3 ⊢
        have x0 := r1.cell (i := 0) rfl
        have x1 := r1.cell (i := 1) rfl
        have x2 := r1.cell (i := 2) rfl
        exact bodyPost_ret (v := textOut (allT L)[j] 0 0) (by simp [results, Tryd.results18, go_sem, x0, x1, x2]) rfl ⟨by rw [R1.out, R2.out], r3⟩
      · have R1 := Lib.hid (show atT L f m n = ⟨#[]⟩ by unfold atT; rw [if_neg (by omega)])
        have R2 := Lib.hid (show atC L f m n = 6 by unfold atC; rw [if_neg (by simp [hB]), if_neg (by omega)])
        clear hB hown hlen
        go_wp2
        have r1 := ((q1.put 0 (.string ⟨#[]⟩)).put 1 (.int .i64 0)).put 2 (.int .i64 6)
        have r3 := ((hw2.setCell (p := ⟨w.heap.size + 1, 0, none⟩) (by simp) (.string ⟨#[]⟩)).setCell (p := ⟨w.heap.size + 1, 1, none⟩) (by simp) (.int .i64 0)).setCell (p := ⟨w.heap.size + 1, 2, none⟩) (by simp) (.int .i64 6)
        generalize ((w2.setCell ⟨w.heap.size + 1, 0, none⟩ (.string ⟨#[]⟩)).setCell ⟨w.heap.size + 1, 1, none⟩ (.int .i64 0)).setCell ⟨w.heap.size + 1, 2, none⟩ (.int .i64 6) = w9 at r1 r3 ⊢
        have x0 := r1.cell (i := 0) rfl
        have x1 := r1.cell (i := 1) rfl
        have x2 := r1.cell (i := 2) rfl
        exact bodyPost_ret (v := textOut ⟨#[]⟩ 0 6) (by simp [results, Tryd.results18, go_sem, x0, x1, x2]) rfl ⟨by rw [R1.out, R2.out], r3⟩
  · have R1 := Lib.hid (show atT L f m n = ⟨#[]⟩ by unfold atT; rw [if_neg (by simp [hB])])
    have R2 := Lib.hid (show atC L f m n = 1 by unfold atC; rw [if_pos hB])
    rw [hB]
    clear hB hown
    go_wp2
    have r1 := ((q1.put 0 (.string ⟨#[]⟩)).put 1 (.int .i64 0)).put 2 (.int .i64 1)
    have r3 := ((hw2.setCell (p := ⟨w.heap.size + 1, 0, none⟩) (by simp) (.string ⟨#[]⟩)).setCell (p := ⟨w.heap.size + 1, 1, none⟩) (by simp) (.int .i64 0)).setCell (p := ⟨w.heap.size + 1, 2, none⟩) (by simp) (.int .i64 1)
    generalize ((w2.setCell ⟨w.heap.size + 1, 0, none⟩ (.string ⟨#[]⟩)).setCell ⟨w.heap.size + 1, 1, none⟩ (.int .i64 0)).setCell ⟨w.heap.size + 1, 2, none⟩ (.int .i64 1) = w9 at r1 r3 ⊢
    have x0 := r1.cell (i := 0) rfl
    have x1 := r1.cell (i := 1) rfl
    have x2 := r1.cell (i := 2) rfl
    exact bodyPost_ret (v := textOut ⟨#[]⟩ 0 1) (by simp [results, Tryd.results18, go_sem, x0, x1, x2]) rfl ⟨by rw [R1.out, R2.out], r3⟩
set_option maxHeartbeats 4000000 in
theorem implSeglogAt_any (A : Option Addr) (L : List Fil) (c : Nat) (f m n : Int) (w : World) (hL : Fls w w.heap.size A L) (hf : (Lit.int .i64 f).wf = true) (hm : (Lit.int .i64 m).wf = true) (hn : (Lit.int .i64 n).wf = true) (hP : Pow w) (hH : Handle w) (hS : Seg w) :
    Calls Tryd.prog 19 #[segV (.slice A L.length c) f m, .int .i64 n] w fun e w' => e = .returned (textOut (atT L f m n) 0 (atC L f m n)) ∧ Below w.heap.size w w' := by
  have n64 := wf_i64 hn
  have hb0 : Below w.heap.size w ((w.alloc (.cells #[.slice A L.length c, .int .i64 f, .int .i64 m] 35)).alloc (.cells #[.string ⟨#[]⟩, .int .i64 0, .int .i64 0] 43)) := ((Below.refl _ _).alloc (Nat.le_refl _) _).alloc (by simp) _
  have k0 := (Blk.fresh w 35 [.slice A L.length c, .int .i64 f, .int .i64 m]).alloc (.cells #[.string ⟨#[]⟩, .int .i64 0, .int .i64 0] 43)
  have k1 := Blk.fresh (w.alloc (.cells #[.slice A L.length c, .int .i64 f, .int .i64 m] 35)) 43 [.string ⟨#[]⟩, .int .i64 0, .int .i64 0]
  simp only [List.toArray, World.size_alloc] at k0 k1
  have HR := Lib.hid (logTexts_any A L c f m _ ((hL.below hb0 (Nat.le_refl _)).mono hb0.size) hf hm (hP.below hb0) (Handle.below hH hb0) (hS.below hb0))
  clear hf hm hn
  go_enter Tryd.func19, Tryd.ntmps19
  go_wp2_with (fail)
  refine HR.out.mono ?_
  generalize (w.alloc (.cells #[.slice A L.length c, .int .i64 f, .int .i64 m] 35)).alloc (.cells #[.string ⟨#[]⟩, .int .i64 0, .int .i64 0] 43) = w1 at hb0 k0 k1 ⊢
  rintro e w2 ⟨v, rfl, hown, _, hb2⟩
  clear HR
  have hw2 := hb0.trans (hb2.mono hb0.size)
  have q0 := k0.below hb2 k0.lt
  have q1 := k1.below hb2 k1.lt
  have c1 := q0.cell (i := 1) rfl
  have c2 := q0.cell (i := 2) rfl
  have t0 := q1.cell (i := 0) rfl
  have t1 := q1.cell (i := 1) rfl
  have t2 := q1.cell (i := 2) rfl
  have f0 := q1.froz 0
  have f1 := q1.froz 1
  have f2 := q1.froz 2
  rcases Bool.eq_false_or_eq_true (logB L f m) with hB | hB
  · have hO := hown hB
    obtain ⟨hlen, g1, g2, g3, g4, g5⟩ := logB_len hB
    obtain ⟨Av, cv, rfl⟩ := ownS_some hO
    have hst := (OwnS.strs hO).2
    rw [hB]
    by_cases h1 : n < f
    · have R1 := Lib.hid (show atT L f m n = ⟨#[]⟩ by unfold atT; rw [if_neg (by omega)])
      have R2 := Lib.hid (show atC L f m n = 6 by unfold atC; rw [if_neg (by simp [hB]), if_neg (by omega)])
      clear hB hown hlen
      go_wp2
      have r1 := ((q1.put 0 (.string ⟨#[]⟩)).put 1 (.int .i64 0)).put 2 (.int .i64 6)
      have r3 := ((hw2.setCell (p := ⟨w.heap.size + 1, 0, none⟩) (by simp) (.string ⟨#[]⟩)).setCell (p := ⟨w.heap.size + 1, 1, none⟩) (by simp) (.int .i64 0)).setCell (p := ⟨w.heap.size + 1, 2, none⟩) (by simp) (.int .i64 6)
      generalize ((w2.setCell ⟨w.heap.size + 1, 0, none⟩ (.string ⟨#[]⟩)).setCell ⟨w.heap.size + 1, 1, none⟩ (.int .i64 0)).setCell ⟨w.heap.size + 1, 2, none⟩ (.int .i64 6) = w9 at r1 r3 ⊢
      have x0 := r1.cell (i := 0) rfl
      have x1 := r1.cell (i := 1) rfl
      have x2 := r1.cell (i := 2) rfl
      exact bodyPost_ret (v := textOut ⟨#[]⟩ 0 6) (by simp [results, Tryd.results19, go_sem, x0, x1, x2]) rfl ⟨by rw [R1.out, R2.out], r3⟩
    · by_cases h2 : n < f + m
      · obtain ⟨j, hj⟩ : ∃ j : Nat, (j : Int) = n - f := ⟨(n - f).toNat, by omega⟩
        have hjl : j < (allT L).length := by omega
        obtain ⟨aa, rfl, hab, hcell⟩ := hst.2 j hjl
        have R1 := Lib.hid (show atT L f m n = (allT L)[j] by unfold atT; rw [if_pos ⟨hB, by omega, h2⟩, ← hj]; simp [List.getD, List.getElem?_eq_getElem hjl])
        have R2 := Lib.hid (show atC L f m n = 0 by unfold atC; rw [if_neg (by simp [hB]), if_pos ⟨by omega, h2⟩])
        obtain rfl : n = f + (j : Int) := by omega
        have hsub : f + (j : Int) - f = (j : Int) := by omega
        have hjl' : (j : Int) < ((allT L).length : Int) := by omega
        clear hB hown hlen hst hj
        go_wp2
        have r1 := ((q1.put 0 (.string (allT L)[j])).put 1 (.int .i64 0)).put 2 (.int .i64 0)
        have r3 := ((hw2.setCell (p := ⟨w.heap.size + 1, 0, none⟩) (by simp) (.string (allT L)[j])).setCell (p := ⟨w.heap.size + 1, 1, none⟩) (by simp) (.int .i64 0)).setCell (p := ⟨w.heap.size + 1, 2, none⟩) (by simp) (.int .i64 0)
        generalize ((w2.setCell ⟨w.heap.size + 1, 0, none⟩ (.string (allT L)[j])).setCell ⟨w.heap.size + 1, 1, none⟩ (.int .i64 0)).setCell ⟨w.heap.size + 1, 2, none⟩ (.int .i64 0) = w9 at r1 r3 ⊢
        have x0 := r1.cell (i := 0) rfl
        have x1 := r1.cell (i := 1) rfl
        have x2 := r1.cell (i := 2) rfl
        exact bodyPost_ret (v := textOut (allT L)[j] 0 0) (by simp [results, Tryd.results19, go_sem, x0, x1, x2]) rfl ⟨by rw [R1.out, R2.out], r3⟩
      · have R1 := Lib.hid (show atT L f m n = ⟨#[]⟩ by unfold atT; rw [if_neg (by omega)])
        have R2 := Lib.hid (show atC L f m n = 6 by unfold atC; rw [if_neg (by simp [hB]), if_neg (by omega)])
        clear hB hown hlen
        go_wp2
        have r1 := ((q1.put 0 (.string ⟨#[]⟩)).put 1 (.int .i64 0)).put 2 (.int .i64 6)
        have r3 := ((hw2.setCell (p := ⟨w.heap.size + 1, 0, none⟩) (by simp) (.string ⟨#[]⟩)).setCell (p := ⟨w.heap.size + 1, 1, none⟩) (by simp) (.int .i64 0)).setCell (p := ⟨w.heap.size + 1, 2, none⟩) (by simp) (.int .i64 6)
        generalize ((w2.setCell ⟨w.heap.size + 1, 0, none⟩ (.string ⟨#[]⟩)).setCell ⟨w.heap.size + 1, 1, none⟩ (.int .i64 0)).setCell ⟨w.heap.size + 1, 2, none⟩ (.int .i64 6) = w9 at r1 r3 ⊢
        have x0 := r1.cell (i := 0) rfl
        have x1 := r1.cell (i := 1) rfl
        have x2 := r1.cell (i := 2) rfl
        exact bodyPost_ret (v := textOut ⟨#[]⟩ 0 6) (by simp [results, Tryd.results19, go_sem, x0, x1, x2]) rfl ⟨by rw [R1.out, R2.out], r3⟩
  · have R1 := Lib.hid (show atT L f m n = ⟨#[]⟩ by unfold atT; rw [if_neg (by simp [hB])])
    have R2 := Lib.hid (show atC L f m n = 1 by unfold atC; rw [if_pos hB])
    rw [hB]
    clear hB hown
    go_wp2
    have r1 := ((q1.put 0 (.string ⟨#[]⟩)).put 1 (.int .i64 0)).put 2 (.int .i64 1)
    have r3 := ((hw2.setCell (p := ⟨w.heap.size + 1, 0, none⟩) (by simp) (.string ⟨#[]⟩)).setCell (p := ⟨w.heap.size + 1, 1, none⟩) (by simp) (.int .i64 0)).setCell (p := ⟨w.heap.size + 1, 2, none⟩) (by simp) (.int .i64 1)
    generalize ((w2.setCell ⟨w.heap.size + 1, 0, none⟩ (.string ⟨#[]⟩)).setCell ⟨w.heap.size + 1, 1, none⟩ (.int .i64 0)).setCell ⟨w.heap.size + 1, 2, none⟩ (.int .i64 1) = w9 at r1 r3 ⊢
    have x0 := r1.cell (i := 0) rfl
    have x1 := r1.cell (i := 1) rfl
    have x2 := r1.cell (i := 2) rfl
    exact bodyPost_ret (v := textOut ⟨#[]⟩ 0 1) (by simp [results, Tryd.results19, go_sem, x0, x1, x2]) rfl ⟨by rw [R1.out, R2.out], r3⟩
theorem bothSeglogAt (L : List Fil) (f m n : Int) (hf : ∀ f ∈ L, f.fits) (hS : Small L) (hfw : (Lit.int .i64 f).wf = true) (hmw : (Lit.int .i64 m).wf = true) (hn : (Lit.int .i64 n).wf = true) :
    ∃ (so : ByteArray) (ao co : Int), (∀ (A : Option Addr) (c : Nat) (W : World), Fls W W.heap.size A L → L.length ≤ c → c ≤ maxLen → Calls Tryd.prog 18 #[.agg #[.slice A L.length c, .int .i64 f, .int .i64 m], .int .i64 n] W fun e w' => e = .returned (.agg #[.string so, .int .i64 ao, .int .i64 co]) ∧ Below W.heap.size W w') ∧
      (∀ (A : Option Addr) (c : Nat) (W : World), Fls W W.heap.size A L → L.length ≤ c → c ≤ maxLen → Pow W → Handle W → Seg W → Calls Tryd.prog 19 #[.agg #[.slice A L.length c, .int .i64 f, .int .i64 m], .int .i64 n] W fun e w' => e = .returned (.agg #[.string so, .int .i64 ao, .int .i64 co]) ∧ Below W.heap.size W w') :=
  ⟨atT L f m n, 0, atC L f m n, fun A c W h _ _ => specSeglogAt_any A L c f m n W h hfw hmw hn, fun A c W h _ _ hP hH hS => implSeglogAt_any A L c f m n W h hfw hmw hn hP hH hS⟩
end Go.Proofs.YtebkblmejkkhfaaDoor

namespace Go.Proofs.YtebkblmejkkhfaaDoor
open Go.RowKit
set_option linter.unusedVariables false

theorem eqFile_same (f : Fil) (w : World) : Calls Tryd.prog 54 #[f.val, f.val] w fun e w' => e = .returned (.bool true) ∧ Below w.heap.size w w' := by
  obtain ⟨s0, s1, k⟩ := f
  unfold Fil.val
  simp only
  go_enter Tryd.func54, Tryd.ntmps54
  go_wp2
  go_ret
  exact ⟨rfl, ((Below.refl _ _).alloc (Nat.le_refl _) _).alloc (by simp) _⟩

set_option maxHeartbeats 1000000 in
theorem eqFileS_same (A B : Option Addr) (L : List Fil) (c d : Nat) (w : World) (hA : Fls w w.heap.size A L) (hB : Fls w w.heap.size B L) :
    Calls Tryd.prog 41 #[.slice A L.length c, .slice B L.length d] w fun e w' => e = .returned (.bool true) ∧ Below w.heap.size w w' := by
  have hn := hA.1
  unfold maxLen at hn
  go_enter Tryd.func41, Tryd.ntmps41
  go_wp2
  go_loopw [5] (fun i wr => ∃ k : Nat, k ≤ L.length ∧ i = .int .i64 k ∧ Below w.heap.size w wr) (fun i _ => L.length - (intOf i).toNat)
  case atStart => exact ⟨0, by omega, rfl, Below.refl _ _⟩
  case round =>
    obtain ⟨k, hk, rfl, hb⟩ := hrel
    by_cases hlt : k < L.length
    · obtain ⟨a, rfl, hab, a0, a1, a2, hff⟩ := (hA.below hb (Nat.le_refl _)).at k hlt
      obtain ⟨b, rfl, hbb, b0, b1, b2, _⟩ := (hB.below hb (Nat.le_refl _)).at k hlt
      obtain ⟨I, f, hI, g0, gk, gc, ge⟩ := class_grown wr
      have x0 := fun s => kept_cell (gk s) a0
      have x1 := fun s => kept_cell (gk s) a1
      have x2 := fun s => kept_cell (gk s) a2
      have y0 := fun s => kept_cell (gk s) b0
      have y1 := fun s => kept_cell (gk s) b1
      have y2 := fun s => kept_cell (gk s) b2
      have EQ := eqFile_same L[k]
      unfold Fil.val at EQ
      have hlt' : (k : Int) < (L.length : Int) := by omega
      clear a0 a1 a2 b0 b1 b2
      go_wp2
      refine wp_region_kept f (by kernel_rfl) (by kernel_rfl) g0 ?_
      repeat (first
        | go_big_quiet_skip
        | (go_big_quiet_want; go_big_quiet_op; first | go_big_quiet_on | (apply Exists.intro; refine ⟨fun s => ?_, ?_⟩; (go_at_call 54; refine (EQ _).mono ?_; rintro e w4 ⟨rfl, hb4⟩; exact ⟨rfl, gc _ _ hb4⟩); go_big_quiet_on)))
      refine wpQuiet_nil ?_
      intro w5 h5
      have hb5 := ge _ h5
      go_wp2
      exact ⟨⟨k + 1, by omega, by go_num, hb.trans (hb5.mono hb.size)⟩, by simp [intOf]; omega⟩
    · obtain rfl : k = L.length := by omega
      go_wp2
      go_ret
      exact ⟨rfl, hb⟩

theorem eqFs_same (A B : Option Addr) (L : List Fil) (c d : Nat) (w : World) (hA : Fls w w.heap.size A L) (hB : Fls w w.heap.size B L) :
    Calls Tryd.prog 28 #[.agg #[.slice A L.length c], .agg #[.slice B L.length d]] w fun e w' => e = .returned (.bool true) ∧ Below w.heap.size w w' := by
  have hb0 : Below w.heap.size w ((w.alloc (.cells #[.slice A L.length c] 33)).alloc (.cells #[.slice B L.length d] 33)) := ((Below.refl _ _).alloc (Nat.le_refl _) _).alloc (by simp) _
  have hA1 := (hA.below hb0 (Nat.le_refl _)).mono hb0.size
  have hB1 := (hB.below hb0 (Nat.le_refl _)).mono hb0.size
  go_enter Tryd.func28, Tryd.ntmps28
  go_wp2_with (go_at_call 41; refine (eqFileS_same A B L c d _ hA1 hB1).mono ?_; rintro e w1 ⟨rfl, hb1⟩)
  go_ret
  exact ⟨rfl, hb0.trans (hb1.mono hb0.size)⟩
end Go.Proofs.YtebkblmejkkhfaaDoor
