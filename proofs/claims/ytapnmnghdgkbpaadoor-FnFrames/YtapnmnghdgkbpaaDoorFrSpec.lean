/- The contracts of spec.l04Read and spec.FramesRead. -/
import Derived.Test.YtapnmnghdgkbpaaDoorFrRead
import Derived.Test.YtapnmnghdgkbpaaDoorFrmS
namespace Go.Proofs.YtapnmnghdgkbpaaDoor
open Go.RowKit
set_option linter.unusedVariables false

/-- A field of the box laid ahead of an append. -/
theorem key {w1 w2 : World} {base k : Nat} {u : Value} {xs : List Value} {t : ByteArray} {q : Nat} (hr : w1.ownsRow base 9 1 u k xs) (hg : ((w1.alloc (.cells #[.string t, .int .i64 (q : Int), .int .i64 0] 35)).alloc (.cells #[.string t] 9)).grownBy w2 u.ownBlock) :
    w2.cell? ⟨w1.heap.size, 1, none⟩ = some (.int .i64 (q : Int)) := by
  have h0 := (Blk.fresh w1 35 [.string t, .int .i64 (q : Int), .int .i64 0]).alloc (.cells #[.string t] 9)
  exact (h0.grown hg (fun e => by have := (hr.lt _ e.symm).2; omega)).cell (i := 1) rfl

set_option maxRecDepth 1000000 in
set_option maxHeartbeats 4000000 in
theorem specRead_any (s : ByteArray) (w : World) (hs : s.size ≤ 20000) :
    Calls Tryd.prog 55 #[.string s] w fun e w' => ∃ v, e = .returned (.tuple #[v, .int .i64 (endOf (frs s 0) : Int)]) ∧ OwnS w' w.heap.size v ((frs s 0).map Prod.fst) ∧ Below w.heap.size w w' := by
  obtain ⟨i0, hi, hz0, hz1, hz2⟩ := info_parts infoStr
  have hfl := frs_len (s := s) s.size 0 (by omega)
  go_enter Tryd.func55, Tryd.ntmps55
  go_wp2
  go_loopw [4, 5] (fun o a wr => ∃ (pre : List (ByteArray × Nat)) (p : Nat), a = .int .i64 p ∧ p ≤ s.size ∧ endOf pre = p ∧ pre ++ frs s p = frs s 0 ∧ wr.ownsRow w.heap.size 9 1 o pre.length (pre.map fun x => Value.string x.1) ∧ Below w.heap.size w wr) (fun _ a _ => s.size - (intOf a).toNat)
  case atStart => exact ⟨[], 0, rfl, by omega, rfl, rfl, World.ownsRow_lit w #[] 0 (Nat.le_refl _) (by simp) (by simp), (Below.refl _ _).alloc (Nat.le_refl _) _⟩
  case round =>
    obtain ⟨pre, p, rfl, hp, he, hx, hrow, hb⟩ := hrel
    have HF := Lib.hid (fun w => specAt_fr s p w hs (by omega))
    obtain ⟨A1, c1, rfl⟩ : ∃ A c, _ = Value.slice A pre.length c := ownR_some hrow
    cases hfr : fr s p with
    | error c =>
      have hc0 : (c != 0) = true := by simpa using fr_err hfr
      rw [hfr] at HF
      rw [frs_err hfr, List.append_nil] at hx
      simp only [txV] at HF
      have HX := Lib.hid hx
      clear hx
      go_wp2_with (go_at_call 58; refine (HF.out _).mono ?_; rintro e w1 ⟨rfl, hb1⟩)
      refine bodyPost_ret (v := .tuple #[.slice A1 pre.length c1, .int .i64 (p : Int)]) (by simp [results, Tryd.results55, go_sem]) rfl ?_
      have hb2 := (hb1.alloc hb1.size (.cells #[.string ⟨#[]⟩, .int .i64 0, .int .i64 c] 35))
      refine ⟨.slice A1 pre.length c1, ?_, ?_, hb.trans (hb2.mono hb.size)⟩
      · rw [← HX.out, he]
      · rw [← HX.out]
        have := row_below hrow hb2 (Nat.le_refl _)
        unfold OwnS
        rw [List.length_map, List.map_map]
        exact this
    | ok x =>
      obtain ⟨t, q⟩ := x
      have hok := fr_ok hfr
      rw [hfr] at HF
      rw [frs_ok hfr] at hx
      simp only [txV] at HF
      have hpl : pre.length + 1 ≤ 20000 := by have := congrArg List.length hx; simp at this; omega
      have hsz := hb.size
      go_wp2_with (first
        | (go_at_call 58; refine (HF.out _).mono ?_; rintro e w1 ⟨rfl, hb1⟩; have hzz := hb1.size; have hr1 := row_below hrow hb1 (Nat.le_refl _))
        | (at_builtin; refine wpList_append_own _ rfl _ _ 23 rfl w.heap.size 9 i0 (.string ⟨#[]⟩) 1 16 Tryd.underlying23 hi hz0 hz1 hz2 rfl (by decide) _ _ _ rfl ((hr1.alloc _).alloc _) ⟨w1.heap.size + 1, 0, none⟩ 1 1 [.string t] rfl rfl (by have h := one_cell (w1.alloc (.cells #[.string t, .int .i64 (q : Int), .int .i64 0] 35)) (.string t) 9; simpa using h) (one_str _) (by unfold maxLen; omega) (by omega) (by simp; omega) ?_; intro v' w2 hown' hgrow' hne; clear hne; have kf : w2.cell? ⟨w1.heap.size, 1, none⟩ = some (.int .i64 (q : Int)) := key hr1 hgrow'))
      have h5 : w2.ownsRow w.heap.size 9 1 v' (pre ++ [(t, q)]).length ((pre ++ [(t, q)]).map fun x => Value.string x.1) := by simpa using hown'
      have hb6 : Below w.heap.size w w2 := ((((hb.trans (hb1.mono hsz)).alloc (by omega) _).alloc (by simp; omega) _).grown hgrow' (by simp; omega) (fun k e => (hr1.lt k e).1))
      exact ⟨⟨pre ++ [(t, q)], q, rfl, hok.2.1, endOf_snoc _ _, by rw [← hx]; simp, h5, hb6⟩, by simp [intOf]; omega⟩

set_option maxHeartbeats 1000000 in
theorem specFramesRead_any (s : ByteArray) (w : World) (hs : s.size ≤ 20000) :
    Calls Tryd.prog 20 #[.string s] w fun e w' => ∃ v, e = .returned (framesV v (endOf (frs s 0) : Int) 0) ∧ OwnS w' w.heap.size v ((frs s 0).map Prod.fst) ∧ Below w.heap.size w w' := by
  have HR := Lib.hid (fun w => specRead_any s w hs)
  have hR0 := Blk.fresh w 27 [.slice none 0 0, .int .i64 0, .int .i64 0]
  have hb0 : Below w.heap.size w (w.alloc (.cells #[.slice none 0 0, .int .i64 0, .int .i64 0] 27)) := (Below.refl _ w).alloc (Nat.le_refl _) _
  simp only [List.toArray] at hR0
  go_enter Tryd.func20, Tryd.ntmps20
  go_wp2_with (go_at_call 55; refine (HR.out _).mono ?_; rintro e w1 ⟨v, rfl, hO, hb1⟩; obtain ⟨A1, c1, rfl⟩ := ownS_some hO; rw [List.length_map] at hO ⊢; have hR1 := hR0.below hb1 (by simp); have k0 := hR1.cell (i := 0) rfl; have k1 := hR1.cell (i := 1) rfl; have k2 := hR1.cell (i := 2) rfl; have f0 := hR1.froz 0; have f1 := hR1.froz 1; have f2 := hR1.froz 2)
  have hz := hb1.size
  have hO2 : w1.ownsRow (w.heap.size + 1) 9 1 (.slice A1 (frs s 0).length c1) (frs s 0).length (((frs s 0).map Prod.fst).map Value.string) := by simpa [OwnS] using hO
  simp only [World.size_alloc] at hz
  have hR3 := ((hR1.put 0 (.slice A1 (frs s 0).length c1)).put 1 (.int .i64 (endOf (frs s 0) : Int))).put 2 (.int .i64 0)
  have hr3 := row_far (row_far (row_far hO2 (p := ⟨w.heap.size, 0, none⟩) (by simp) (.slice A1 (frs s 0).length c1)) (p := ⟨w.heap.size, 1, none⟩) (by simp) (.int .i64 (endOf (frs s 0) : Int))) (p := ⟨w.heap.size, 2, none⟩) (by simp) (.int .i64 0)
  have hB3 := (((hb0.trans (hb1.mono hb0.size)).setCell (p := ⟨w.heap.size, 0, none⟩) (by simp) (.slice A1 (frs s 0).length c1)).setCell (p := ⟨w.heap.size, 1, none⟩) (by simp) (.int .i64 (endOf (frs s 0) : Int))).setCell (p := ⟨w.heap.size, 2, none⟩) (by simp) (.int .i64 0)
  have k0 := hR3.cell (i := 0) rfl
  have k1 := hR3.cell (i := 1) rfl
  have k2 := hR3.cell (i := 2) rfl
  refine bodyPost_ret (v := framesV (.slice A1 (frs s 0).length c1) (endOf (frs s 0) : Int) 0) (by simp [results, Tryd.results20, k0, k1, k2, go_sem]) rfl ⟨_, rfl, ownS_base (base := w.heap.size + 1) (by unfold OwnS; rw [List.length_map]; exact hr3) (by omega), hB3⟩

end Go.Proofs.YtapnmnghdgkbpaaDoor
