/- spec.SeglogSync, and: spec and impl answer alike. What the exact laws do with a log. The marks that the exact laws lay into a log. -/
import Derived.Test.YtebkblmejkkhfaaGreatDoorFMapW
import Derived.Test.YtebkblmejkkhfaaGreatDoorFsSynW
import Derived.Test.YtebkblmejkkhfaaGreatDoorRowkW
import Derived.Test.YtebkblmejkkhfaaGreatDoorSgArgW
namespace Go.Proofs.YtebkblmejkkhfaaGreatDoor
open Go.RowKit
set_option linter.unusedVariables false
set_option linter.unusedSimpArgs false
set_option maxRecDepth 1000000

set_option maxHeartbeats 4000000 in
theorem l05Sync_any (A : Option Addr) (L : List Fil) (c : Nat) (w : World) (hL : Fls w w.heap.size A L) (hS : Small L) :
    Calls Tryz.prog 112 #[.agg #[.slice A L.length c]] w fun e w' => ∃ (C : Option Addr) (x : Nat), e = .returned (.agg #[.slice C L.length x]) ∧ OwnF w' w.heap.size (.slice C L.length x) (L.map syncF) ∧ Below w.heap.size w w' := by
  have hn := hS.1
  have hf : ∀ f ∈ L, f.fits := fun f h => by obtain ⟨i, hi, rfl⟩ := List.getElem_of_mem h; exact (hL.2 i hi).choose_spec.2.2.2.2.2
  have hb0 : Below w.heap.size w ((w.alloc (.cells #[.slice A L.length c] 25)).alloc (.cells #[.slice none 0 0] 25)) := ((Below.refl _ _).alloc (Nat.le_refl _) _).alloc (by simp) _
  have k1 := Blk.fresh (w.alloc (.cells #[.slice A L.length c] 25)) 25 [.slice none 0 0]
  simp only [List.toArray, World.size_alloc] at k1
  have HC := Lib.hid (l03Copy_any A L c _ ((hL.below hb0 (Nat.le_refl _)).mono hb0.size) hS)
  go_enter Tryz.func112, Tryz.ntmps112
  go_wp2_with (fail)
  refine HC.out.mono ?_
  clear HC
  generalize hW1 : (w.alloc (.cells #[.slice A L.length c] 25)).alloc (.cells #[.slice none 0 0] 25) = w1 at hb0 k1 ⊢
  clear hW1
  rintro e w2 ⟨C, x, rfl, hO, hb2⟩
  have hw2 := hb0.trans (hb2.mono hb0.size)
  have q1 := k1.below hb2 k1.lt
  have hz2 := hb2.size
  have hk1 := k1.lt
  have h1 := q1.alloc (.cells #[.slice C L.length x] 25)
  have h2 := Blk.fresh w2 25 [.slice C L.length x]
  have hO3 := OwnF.below (w' := w2.alloc (.cells #[.slice C L.length x] 25)) hO ((Below.refl _ _).alloc (Nat.le_refl _) _) (Nat.le_refl _)
  have hw3 := hw2.alloc hw2.size (.cells #[.slice C L.length x] 25)
  simp only [List.toArray] at h2
  have hCb : ∀ k, C.map (·.block) = some k → k < w2.heap.size := fun k hk => by have := (hO.1.lt k (by rw [own_blk]; exact hk)).2; exact this
  go_wp2
  generalize w2.alloc (.cells #[.slice C L.length x] 25) = w3 at h1 h2 hO3 hw3 ⊢
  generalize hOO : w2.heap.size = O at *
  clear hb0 k1 hO hb2 hw2 q1
  go_loopw [4] (fun i wr => ∃ (k : Nat), k ≤ L.length ∧ i = .int .i64 k ∧ Blk wr O 25 [.slice C L.length x] ∧ Blk wr (w.heap.size + 1) 25 [.slice none 0 0] ∧ wr.ownsRow (w1.heap.size + 2) 53 3 (.slice C L.length x) L.length (flat ((L.map syncF).take k ++ L.drop k)) ∧ Below w.heap.size w wr) (fun i _ => L.length - (intOf i).toNat)
  case atStart => exact ⟨0, by omega, rfl, h2, h1, by simpa using hO3.1, hw3⟩
  case round =>
    obtain ⟨k, hk, rfl, hB, hT, hR, hb⟩ := hrel
    have b0 := hB.cell (i := 0) rfl
    by_cases hlt : k < L.length
    · obtain ⟨g, cp, hCv, hgj, hgl⟩ := hR.form (by omega)
      cases hCv
      have hgO : g < O := hCb g rfl
      have hlt' : (k : Int) < (L.length : Int) := by omega
      have hml : ((L.map syncF).take k ++ L.drop k).length = L.length := by simp; omega
      have hMk : ((L.map syncF).take k ++ L.drop k)[k]'(by omega) = L[k] := by
        rw [List.getElem_append_right (by simp; omega)]
        simp
        congr 1
        omega
      obtain ⟨r0, r1, r2, s0, s1, s2⟩ := row_file hR (k := k) (by omega)
      rw [hMk] at r0 r1 r2
      have hp := row_put hR k (syncF L[k])
      have hset : ((L.map syncF).take k ++ L.drop k).set k (syncF L[k]) = (L.map syncF).take (k + 1) ++ L.drop (k + 1) := by
        have := part_set (M := L.map syncF) (L := L) (j := k) (by simp) hlt
        simpa using this
      have hst := (hR.stored (k * 3 + 2) (.int .i64 (L[k].data.size : Int))).1
      have HST : Hid ((flat ((L.map syncF).take k ++ L.drop k)).set (k * 3 + 2) (.int .i64 (L[k].data.size : Int)) = flat ((L.map syncF).take (k + 1) ++ L.drop (k + 1))) := Lib.hid (by
        rw [← hset]
        have h := flat_sync (L := (L.map syncF).take k ++ L.drop k) (i := k) (by omega)
        rw [hMk] at h
        exact h (L[k].data.size : Int))
      rw [HST.out] at hst
      have r1d : wr.drew.cell? ⟨g, k * 3 + 1, none⟩ = some (.string L[k].data) := r1
      have r2d : wr.drew.cell? ⟨g, k * 3 + 2, none⟩ = some (.int .i64 L[k].sync) := r2
      have s2d : wr.drew.frozen? ⟨g, k * 3 + 2, none⟩ = false := s2
      have b0d : wr.drew.cell? ⟨O, 0, none⟩ = some (.slice (some ⟨g, 0, none⟩) L.length x) := b0
      clear hp hset hMk hml r0 s0 s1
      go_wp2
      go_region
      go_wp2
      refine ⟨⟨k + 1, by omega, by go_num, hB.far (p := ⟨g, k * 3 + 2, none⟩) (by simp; omega) _, hT.far (p := ⟨g, k * 3 + 2, none⟩) (by simp; omega) _, hst, below_drew (hb.setCell (p := ⟨g, k * 3 + 2, none⟩) (by simp; omega) _)⟩, by simp [intOf]; omega⟩
    · obtain rfl : k = L.length := by omega
      have t0 := hT.cell (i := 0) rfl
      have f0 := hT.froz 0
      have hF : OwnF wr (w1.heap.size + 2) (.slice C L.length x) (L.map syncF) := by
        refine ⟨?_, fun g h => by obtain ⟨f, hm, rfl⟩ := List.mem_map.1 h; exact syncF_fits (hf f hm)⟩
        have h := hR
        rw [List.take_of_length_le (by simp), List.drop_eq_nil_of_le (Nat.le_refl _), List.append_nil] at h
        rw [List.length_map]
        exact h
      go_wp2
      have r1 := hT.put 0 (.slice C L.length x)
      have y0 := r1.cell (i := 0) rfl
      exact bodyPost_ret (v := .agg #[.slice C L.length x]) (by simp [results, Tryz.results112, go_sem, y0]) rfl ⟨C, x, rfl, (hF.far (p := ⟨w.heap.size + 1, 0, none⟩) (by simp; omega) _).base (by omega), hb.setCell (p := ⟨w.heap.size + 1, 0, none⟩) (by simp) _⟩
set_option maxHeartbeats 4000000 in
theorem specSyncL_any (A : Option Addr) (L : List Fil) (c : Nat) (f m : Int) (w : World) (hL : Fls w w.heap.size A L) (hS : Small L) (hfw : (Lit.int .i64 f).wf = true) (hmw : (Lit.int .i64 m).wf = true) :
    Calls Tryz.prog 48 #[segV (.slice A L.length c) f m] w fun e w' => ∃ (C : Option Addr) (x : Nat), e = .returned (segV (.slice C L.length x) f m) ∧ OwnF w' w.heap.size (.slice C L.length x) (syncO L f m) ∧ Below w.heap.size w w' := by
  have hb0 : Below w.heap.size w ((w.alloc (.cells #[.slice A L.length c, .int .i64 f, .int .i64 m] 61)).alloc (.cells #[.slice none 0 0, .int .i64 0, .int .i64 0] 61)) := ((Below.refl _ _).alloc (Nat.le_refl _) _).alloc (by simp) _
  have k0 := (Blk.fresh w 61 [.slice A L.length c, .int .i64 f, .int .i64 m]).alloc (.cells #[.slice none 0 0, .int .i64 0, .int .i64 0] 61)
  have k1 := Blk.fresh (w.alloc (.cells #[.slice A L.length c, .int .i64 f, .int .i64 m] 61)) 61 [.slice none 0 0, .int .i64 0, .int .i64 0]
  simp only [List.toArray, World.size_alloc] at k0 k1
  have HR := Lib.hid (specSeglogRight_any A L c f m _ ((hL.below hb0 (Nat.le_refl _)).mono hb0.size) hfw hmw)
  have HL := Lib.hid (fun W (h : Below w.heap.size w W) => (hL.below h (Nat.le_refl _)).mono h.size)
  clear hfw hmw
  go_enter Tryz.func48, Tryz.ntmps48
  go_wp2_with (fail)
  refine HR.out.mono ?_
  clear HR
  generalize (w.alloc (.cells #[.slice A L.length c, .int .i64 f, .int .i64 m] 61)).alloc (.cells #[.slice none 0 0, .int .i64 0, .int .i64 0] 61) = w1 at hb0 k0 k1 ⊢
  rintro e w2 ⟨rfl, hb2⟩
  have q0 := k0.below hb2 k0.lt
  have q1 := k1.below hb2 k1.lt
  have hw2 := hb0.trans (hb2.mono hb0.size)
  have c0 := q0.cell (i := 0) rfl
  have key : ∃ b, Hid (logB L f m = b) ∧ Hid (syncO L f m = if b = true then L.map syncF else L) := ⟨logB L f m, Lib.hid rfl, Lib.hid (by unfold syncO; rfl)⟩
  obtain ⟨b, HB, HM⟩ := key
  rw [HB.out]
  cases b
  case false =>
    have HM' := Lib.hid (HM.out.trans (if_neg (by simp)))
    go_wp2_with (fail)
    refine (l03Copy_any A L c w2 (HL.out _ hw2) hS).mono ?_
    rintro e w3 ⟨C, x, rfl, hO, hb3⟩
    have hO' : OwnF w3 w2.heap.size (.slice C L.length x) (syncO L f m) := by rw [HM'.out]; exact hO.base (by omega)
    have p0 := q0.below hb3 q0.lt
    have p1 := q1.below hb3 q1.lt
    have hw3 := hw2.trans (hb3.mono hw2.size)
    have hq0 := q0.lt
    have hq1 := q1.lt
    have a0 := p0.cell (i := 0) rfl
    have a1 := p0.cell (i := 1) rfl
    have a2 := p0.cell (i := 2) rfl
    have g0 := p0.froz 0
    have d0 := p1.cell (i := 0) rfl
    have d1 := p1.cell (i := 1) rfl
    have d2 := p1.cell (i := 2) rfl
    have e0 := p1.froz 0
    have e1 := p1.froz 1
    have e2 := p1.froz 2
    go_wp2
    have r1 := (((p1.far (p := ⟨w.heap.size, 0, none⟩) (by simp) (.slice C L.length x)).put 0 (.slice C L.length x)).put 1 (.int .i64 f)).put 2 (.int .i64 m)
    have r2 := (((hO'.far (p := ⟨w.heap.size, 0, none⟩) (by simp; omega) (.slice C L.length x)).far (p := ⟨w.heap.size + 1, 0, none⟩) (by simp; omega) (.slice C L.length x)).far (p := ⟨w.heap.size + 1, 1, none⟩) (by simp; omega) (.int .i64 f)).far (p := ⟨w.heap.size + 1, 2, none⟩) (by simp; omega) (.int .i64 m)
    have r3 := (((hw3.setCell (p := ⟨w.heap.size, 0, none⟩) (by simp) (.slice C L.length x)).setCell (p := ⟨w.heap.size + 1, 0, none⟩) (by simp) (.slice C L.length x)).setCell (p := ⟨w.heap.size + 1, 1, none⟩) (by simp) (.int .i64 f)).setCell (p := ⟨w.heap.size + 1, 2, none⟩) (by simp) (.int .i64 m)
    generalize (((w3.setCell ⟨w.heap.size, 0, none⟩ (.slice C L.length x)).setCell ⟨w.heap.size + 1, 0, none⟩ (.slice C L.length x)).setCell ⟨w.heap.size + 1, 1, none⟩ (.int .i64 f)).setCell ⟨w.heap.size + 1, 2, none⟩ (.int .i64 m) = w9 at r1 r2 r3 ⊢
    have y0 := r1.cell (i := 0) rfl
    have y1 := r1.cell (i := 1) rfl
    have y2 := r1.cell (i := 2) rfl
    exact bodyPost_ret (v := segV (.slice C L.length x) f m) (by simp [results, Tryz.results48, go_sem, y0, y1, y2]) rfl ⟨C, x, rfl, r2.base (by omega), r3⟩
  case true =>
    have HM' := Lib.hid (HM.out.trans (if_pos rfl))
    go_wp2_with (fail)
    refine (l05Sync_any A L c w2 (HL.out _ hw2) hS).mono ?_
    rintro e w3 ⟨C, x, rfl, hO, hb3⟩
    have hO' : OwnF w3 w2.heap.size (.slice C L.length x) (syncO L f m) := by rw [HM'.out]; exact hO
    have p0 := q0.below hb3 q0.lt
    have p1 := q1.below hb3 q1.lt
    have hw3 := hw2.trans (hb3.mono hw2.size)
    have hq0 := q0.lt
    have hq1 := q1.lt
    have a0 := p0.cell (i := 0) rfl
    have a1 := p0.cell (i := 1) rfl
    have a2 := p0.cell (i := 2) rfl
    have g0 := p0.froz 0
    have d0 := p1.cell (i := 0) rfl
    have d1 := p1.cell (i := 1) rfl
    have d2 := p1.cell (i := 2) rfl
    have e0 := p1.froz 0
    have e1 := p1.froz 1
    have e2 := p1.froz 2
    go_wp2
    have r1 := (((p1.far (p := ⟨w.heap.size, 0, none⟩) (by simp) (.slice C L.length x)).put 0 (.slice C L.length x)).put 1 (.int .i64 f)).put 2 (.int .i64 m)
    have r2 := (((hO'.far (p := ⟨w.heap.size, 0, none⟩) (by simp; omega) (.slice C L.length x)).far (p := ⟨w.heap.size + 1, 0, none⟩) (by simp; omega) (.slice C L.length x)).far (p := ⟨w.heap.size + 1, 1, none⟩) (by simp; omega) (.int .i64 f)).far (p := ⟨w.heap.size + 1, 2, none⟩) (by simp; omega) (.int .i64 m)
    have r3 := (((hw3.setCell (p := ⟨w.heap.size, 0, none⟩) (by simp) (.slice C L.length x)).setCell (p := ⟨w.heap.size + 1, 0, none⟩) (by simp) (.slice C L.length x)).setCell (p := ⟨w.heap.size + 1, 1, none⟩) (by simp) (.int .i64 f)).setCell (p := ⟨w.heap.size + 1, 2, none⟩) (by simp) (.int .i64 m)
    generalize (((w3.setCell ⟨w.heap.size, 0, none⟩ (.slice C L.length x)).setCell ⟨w.heap.size + 1, 0, none⟩ (.slice C L.length x)).setCell ⟨w.heap.size + 1, 1, none⟩ (.int .i64 f)).setCell ⟨w.heap.size + 1, 2, none⟩ (.int .i64 m) = w9 at r1 r2 r3 ⊢
    have y0 := r1.cell (i := 0) rfl
    have y1 := r1.cell (i := 1) rfl
    have y2 := r1.cell (i := 2) rfl
    exact bodyPost_ret (v := segV (.slice C L.length x) f m) (by simp [results, Tryz.results48, go_sem, y0, y1, y2]) rfl ⟨C, x, rfl, r2.base (by omega), r3⟩
theorem bothSeglogSync (L : List Fil) (f m : Int) (hf : ∀ f ∈ L, f.fits) (hS : Small L) (hfw : (Lit.int .i64 f).wf = true) (hmw : (Lit.int .i64 m).wf = true) :
    ∃ (M : List Fil) (fo mo : Int), (∀ f ∈ M, f.fits) ∧ M.length ≤ 1048576 ∧ (∀ (A : Option Addr) (c : Nat) (W : World), Fls W W.heap.size A L → L.length ≤ c → c ≤ maxLen → Calls Tryz.prog 48 #[.agg #[.slice A L.length c, .int .i64 f, .int .i64 m]] W fun e w' => ∃ (B : Option Addr) (d : Nat), e = .returned (.agg #[.slice B M.length d, .int .i64 fo, .int .i64 mo]) ∧ OwnF w' W.heap.size (.slice B M.length d) M ∧ Below W.heap.size W w') ∧
      (∀ (A : Option Addr) (c : Nat) (W : World), Fls W W.heap.size A L → L.length ≤ c → c ≤ maxLen → Pow W → Handle W → Seg W → Calls Tryz.prog 49 #[.agg #[.slice A L.length c, .int .i64 f, .int .i64 m]] W fun e w' => ∃ (B : Option Addr) (d : Nat), e = .returned (.agg #[.slice B M.length d, .int .i64 fo, .int .i64 mo]) ∧ OwnF w' W.heap.size (.slice B M.length d) M ∧ Below W.heap.size W w') := by
  refine ⟨syncO L f m, f, m, fun g h => ?_, by rw [syncO_len]; exact hS.1, fun A c W h _ _ => ?_, fun A c W h _ _ hP hH hSg => ?_⟩
  · unfold syncO at h
    split at h
    · obtain ⟨x, hm, rfl⟩ := List.mem_map.1 h; exact syncF_fits (hf x hm)
    · exact hf g h
  · rw [syncO_len]; exact specSyncL_any A L c f m W h hS hfw hmw
  · rw [syncO_len]; exact implSync_any A L c f m W h hS hfw hmw hP hH hSg
end Go.Proofs.YtebkblmejkkhfaaGreatDoor

namespace Go.Proofs.YtebkblmejkkhfaaGreatDoor
open Go.RowKit
set_option linter.unusedVariables false
set_option maxRecDepth 1000000

set_option maxHeartbeats 2000000 in
theorem eqSeglog_same (A B : Option Addr) (L : List Fil) (c d : Nat) (f m : Int) (w : World) (hA : Fls w w.heap.size A L) (hB : Fls w w.heap.size B L) :
    Calls Tryz.prog 44 #[segV (.slice A L.length c) f m, segV (.slice B L.length d) f m] w fun e w' => e = .returned (.bool true) ∧ Below w.heap.size w w' := by
  have h0 := (Blk.fresh w 61 [.slice A L.length c, .int .i64 f, .int .i64 m]).alloc (.cells #[.slice B L.length d, .int .i64 f, .int .i64 m] 61)
  have h1 := Blk.fresh (w.alloc (.cells #[.slice A L.length c, .int .i64 f, .int .i64 m] 61)) 61 [.slice B L.length d, .int .i64 f, .int .i64 m]
  have hb0 : Below w.heap.size w ((w.alloc (.cells #[.slice A L.length c, .int .i64 f, .int .i64 m] 61)).alloc (.cells #[.slice B L.length d, .int .i64 f, .int .i64 m] 61)) := ((Below.refl _ w).alloc (Nat.le_refl _) _).alloc (by simp) _
  simp only [List.toArray, World.size_alloc] at h0 h1
  have HE := Lib.hid (eqFs_same A B L c d _ ((hA.below hb0 (Nat.le_refl _)).mono hb0.size) ((hB.below hb0 (Nat.le_refl _)).mono hb0.size))
  go_enter Tryz.func44, Tryz.ntmps44
  go_wp2_with (go_at_call 62; refine HE.out.mono ?_; rintro e w1 ⟨rfl, hb1⟩; have g0 := h0.below hb1 h0.lt; have g1 := h1.below hb1 h1.lt; have k1 := g0.cell (i := 1) rfl; have k2 := g0.cell (i := 2) rfl; have k3 := g1.cell (i := 1) rfl; have k4 := g1.cell (i := 2) rfl)
  go_ret
  exact ⟨rfl, hb0.trans (hb1.mono hb0.size)⟩
set_option maxHeartbeats 2000000 in
theorem szSeglog_any (A : Option Addr) (L : List Fil) (c : Nat) (f m : Int) (w : World) (hL : Fls w w.heap.size A L) :
    Calls Tryz.prog 39 #[segV (.slice A L.length c) f m, .int .i64 1048576] w fun e w' => ∃ r : Int, e = .returned (.int .i64 r) ∧ -1 ≤ r ∧ r ≤ 1048576 ∧ (0 ≤ r → Small L) ∧ Below w.heap.size w w' := by
  have hb0 : Below w.heap.size w (w.alloc (.cells #[.slice A L.length c, .int .i64 f, .int .i64 m] 58)) := (Below.refl _ _).alloc (Nat.le_refl _) _
  have hL1 := (hL.below hb0 (Nat.le_refl _)).mono hb0.size
  go_enter Tryz.func39, Tryz.ntmps39
  go_wp2_with (go_at_call 58; refine (szFs_any A L c _ hL1).mono ?_; rintro e w1 ⟨r, rfl, r0, r1, hS, hb1⟩)
  · go_ret
    exact ⟨-1, rfl, by omega, by omega, fun h => by omega, hb0.trans (hb1.mono hb0.size)⟩
  · go_ret
    exact ⟨r, rfl, by omega, r1, hS, hb0.trans (hb1.mono hb0.size)⟩
set_option maxHeartbeats 2000000 in
theorem toSeglog_any (A : Option Addr) (L : List Fil) (c : Nat) (f m : Int) (w : World) (hL : Fls w w.heap.size A L) (hS : Small L) :
    Calls Tryz.prog 41 #[segV (.slice A L.length c) f m] w fun e w' => ∃ g c', e = .returned (segV (.slice (some ⟨g, 0, none⟩) L.length c') f m) ∧ OwnF w' w.heap.size (.slice (some ⟨g, 0, none⟩) L.length c') L ∧ Below w.heap.size w w' := by
  have hb0 : Below w.heap.size w (((w.alloc (.cells #[.slice A L.length c, .int .i64 f, .int .i64 m] 58)).alloc (.cells #[.slice none 0 0, .int .i64 0, .int .i64 0] 61)).alloc (.cells #[.slice none 0 0, .int .i64 0, .int .i64 0] 61)) := (((Below.refl _ _).alloc (Nat.le_refl _) _).alloc (by simp) _).alloc (by simp; omega) _
  have k0 := ((Blk.fresh w 58 [.slice A L.length c, .int .i64 f, .int .i64 m]).alloc (.cells #[.slice none 0 0, .int .i64 0, .int .i64 0] 61)).alloc (.cells #[.slice none 0 0, .int .i64 0, .int .i64 0] 61)
  have k1 := ((Blk.fresh (w.alloc (.cells #[.slice A L.length c, .int .i64 f, .int .i64 m] 58)) 61 [.slice none 0 0, .int .i64 0, .int .i64 0]).alloc (.cells #[.slice none 0 0, .int .i64 0, .int .i64 0] 61))
  have k2 := Blk.fresh ((w.alloc (.cells #[.slice A L.length c, .int .i64 f, .int .i64 m] 58)).alloc (.cells #[.slice none 0 0, .int .i64 0, .int .i64 0] 61)) 61 [.slice none 0 0, .int .i64 0, .int .i64 0]
  simp only [World.size_alloc] at k0 k1 k2
  have hL1 := (hL.below hb0 (Nat.le_refl _)).mono hb0.size
  go_enter Tryz.func41, Tryz.ntmps41
  go_wp2_with (fail)
  refine (toFs_any A L c _ hL1 hS).mono ?_
  rintro e w1 ⟨g, c', rfl, hv, hb1⟩
  have q0 := k0.below hb1 k0.lt
  have q1 := k1.below hb1 k1.lt
  have q2 := k2.below hb1 k2.lt
  have hw1 := hb0.trans (hb1.mono hb0.size)
  clear hb0 k0 k1 k2 hb1
  have a1 := q0.cell (i := 1) rfl
  have a2 := q0.cell (i := 2) rfl
  have c0 := q2.cell (i := 0) rfl
  have c1 := q2.cell (i := 1) rfl
  have c2 := q2.cell (i := 2) rfl
  have d0 := q1.cell (i := 0) rfl
  have d1 := q1.cell (i := 1) rfl
  have d2 := q1.cell (i := 2) rfl
  have f0 := q2.froz 0
  have f1 := q2.froz 1
  have f2 := q2.froz 2
  have e0 := q1.froz 0
  have e1 := q1.froz 1
  have e2 := q1.froz 2
  go_wp2
  have r1 := (((((q1.far (p := ⟨w.heap.size + 1 + 1, 0, none⟩) (by simp) (.slice (some ⟨g, 0, none⟩) L.length c')).far (p := ⟨w.heap.size + 1 + 1, 1, none⟩) (by simp) (.int .i64 f)).far (p := ⟨w.heap.size + 1 + 1, 2, none⟩) (by simp) (.int .i64 m)).put 0 (.slice (some ⟨g, 0, none⟩) L.length c')).put 1 (.int .i64 f)).put 2 (.int .i64 m)
  have r2 := (((((hv.far (p := ⟨w.heap.size + 1 + 1, 0, none⟩) (by simp) (.slice (some ⟨g, 0, none⟩) L.length c')).far (p := ⟨w.heap.size + 1 + 1, 1, none⟩) (by simp) (.int .i64 f)).far (p := ⟨w.heap.size + 1 + 1, 2, none⟩) (by simp) (.int .i64 m)).far (p := ⟨w.heap.size + 1, 0, none⟩) (by simp) (.slice (some ⟨g, 0, none⟩) L.length c')).far (p := ⟨w.heap.size + 1, 1, none⟩) (by simp) (.int .i64 f)).far (p := ⟨w.heap.size + 1, 2, none⟩) (by simp) (.int .i64 m)
  have r3 := (((((hw1.setCell (p := ⟨w.heap.size + 1 + 1, 0, none⟩) (by simp; omega) (.slice (some ⟨g, 0, none⟩) L.length c')).setCell (p := ⟨w.heap.size + 1 + 1, 1, none⟩) (by simp; omega) (.int .i64 f)).setCell (p := ⟨w.heap.size + 1 + 1, 2, none⟩) (by simp; omega) (.int .i64 m)).setCell (p := ⟨w.heap.size + 1, 0, none⟩) (by simp) (.slice (some ⟨g, 0, none⟩) L.length c')).setCell (p := ⟨w.heap.size + 1, 1, none⟩) (by simp) (.int .i64 f)).setCell (p := ⟨w.heap.size + 1, 2, none⟩) (by simp) (.int .i64 m)
  generalize (((((w1.setCell ⟨w.heap.size + 1 + 1, 0, none⟩ (.slice (some ⟨g, 0, none⟩) L.length c')).setCell ⟨w.heap.size + 1 + 1, 1, none⟩ (.int .i64 f)).setCell ⟨w.heap.size + 1 + 1, 2, none⟩ (.int .i64 m)).setCell ⟨w.heap.size + 1, 0, none⟩ (.slice (some ⟨g, 0, none⟩) L.length c')).setCell ⟨w.heap.size + 1, 1, none⟩ (.int .i64 f)).setCell ⟨w.heap.size + 1, 2, none⟩ (.int .i64 m) = w9 at r1 r2 r3 ⊢
  have x0 := r1.cell (i := 0) rfl
  have x1 := r1.cell (i := 1) rfl
  have x2 := r1.cell (i := 2) rfl
  exact bodyPost_ret (v := segV (.slice (some ⟨g, 0, none⟩) L.length c') f m) (by simp [results, Tryz.results41, go_sem, x0, x1, x2]) rfl ⟨g, c', rfl, r2.base (by simp; omega), r3⟩
end Go.Proofs.YtebkblmejkkhfaaGreatDoor

namespace Go.Proofs.YtebkblmejkkhfaaGreatDoor
open Go.RowKit
set_option linter.unusedVariables false
set_option maxRecDepth 1000000
set_option maxHeartbeats 2000000 in
theorem markSeglog_rw (A : Option Addr) (L : List Fil) (c lo hi k : Nat) (f m : Int) (w : World) (h : Rw w lo hi 53 3 (.slice A L.length c) L.length (flat L)) (hf : ∀ f ∈ L, f.fits) (h0 : 1 ≤ k) (h1 : k + 3 * L.length ≤ 4000000) :
    Calls Tryz.prog 45 #[segV (.slice A L.length c) f m, .int .i64 k] w fun e w' => e = .returned (.int .i64 ((k + 3 * L.length : Nat) : Int)) ∧
      Rw w' lo hi 53 3 (.slice A L.length c) (markL L.length k).length (flat (markL L.length k)) ∧ w.grownBy w' (A.map (·.block)) ∧ (∀ f ∈ markL L.length k, f.fits) := by
  have hb0 : Below w.heap.size w (w.alloc (.cells #[.slice A L.length c, .int .i64 f, .int .i64 m] 61)) := (Below.refl _ w).alloc (Nat.le_refl _) _
  have HM := Lib.hid (markFs_rw A L c lo hi k _ (h.below hb0) hf h0 h1)
  go_enter Tryz.func45, Tryz.ntmps45
  go_wp2_with (go_at_call 63; refine HM.out.mono ?_; rintro e w1 ⟨rfl, hR, hg, hff⟩)
  go_ret
  exact ⟨rfl, hR, ⟨hg.os, hg.tape, hg.output, by have := hg.size; simp at this; omega, fun j hj hne => (hg.block j (by simp; omega) hne).trans (hb0.block j hj)⟩, hff⟩
set_option maxHeartbeats 2000000 in
theorem heldSeglog_any (A : Option Addr) (n c k : Nat) (f m : Int) (w : World) (hF : Fls w w.heap.size A (markL n k)) (h0 : 1 ≤ k) (h1 : k + 3 * n ≤ 4000000) :
    Calls Tryz.prog 50 #[segV (.slice A n c) f m, .int .i64 k] w fun e w' => e = .returned (.int .i64 ((k + 3 * n : Nat) : Int)) ∧ Below w.heap.size w w' := by
  have hb0 : Below w.heap.size w (w.alloc (.cells #[.slice A n c, .int .i64 f, .int .i64 m] 61)) := (Below.refl _ w).alloc (Nat.le_refl _) _
  have HM := Lib.hid (heldFs_any A n c k _ ((hF.below hb0 (Nat.le_refl _)).mono hb0.size) h0 h1)
  go_enter Tryz.func50, Tryz.ntmps50
  go_wp2_with (go_at_call 114; refine HM.out.mono ?_; rintro e w1 ⟨rfl, hb1⟩)
  go_ret
  exact ⟨rfl, hb0.trans (hb1.mono hb0.size)⟩
end Go.Proofs.YtebkblmejkkhfaaGreatDoor
