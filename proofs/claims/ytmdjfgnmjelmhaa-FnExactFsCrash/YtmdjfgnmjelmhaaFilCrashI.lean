/- The contract of impl.FsCrash. -/
import Derived.Test.YtmdjfgnmjelmhaaFilCrash
import Derived.Deep.RegionLaw
import Derived.StillTailTactics
import Derived.Deep.AppendLies
namespace Go.Proofs.Ytmdjfgnmjelmhaa
open Go.RowKit
set_option linter.unusedVariables false

theorem below_ap {B base : Nat} {w wr w1 : World} {e : TypeId} {size n : Nat} {v : Value} {xs : List Value} (hb : Below B w wr) (hB : B ≤ wr.heap.size) (hown : wr.ownsRow base e size v n xs) (hBb : B ≤ base) (hg : wr.grownBy w1 v.ownBlock) : Below B w w1 :=
  hb.grown hg hB (fun k e => Nat.le_trans hBb (hown.lt k e).1)

theorem row_off {w : World} {base n size : Nat} {e : TypeId} {v : Value} {xs : List Value} (h : w.ownsRow base e size v n xs) {p : Addr} (hp : v.ownBlock ≠ some p.block) (u : Value) : (w.setCell p u).ownsRow base e size v n xs :=
  h.kept (row := some p.block) ⟨rfl, rfl, rfl, by simp [World.setCell], fun k _ hne => Below.heap_setCell w p u k (fun e => hne (by rw [e]))⟩ (.inr hp)
theorem cell_put_far {w : World} {a p : Addr} {v : Value} (h : w.cell? a = some v) (hne : a.block ≠ p.block) (u : Value) : (w.setCell p u).cell? a = some v := by
  rw [← h]; exact World.cell?_of_block (Below.heap_setCell w p u _ hne)

set_option maxHeartbeats 4000000 in
set_option maxRecDepth 1000000 in
theorem implCrash_any (A : Option Addr) (L : List Fil) (c : Nat) (B : Option Addr) (K : List Int) (d : Nat) (w : World) (hL : Fls w w.heap.size A L) (hS : Small L) (hK : Nms w w.heap.size B K) (hKn : K.length ≤ 1048576) :
    Calls Try.prog 19 #[.agg #[.slice A L.length c], .slice B K.length d] w fun e w' => ∃ C x, e = .returned (.agg #[.slice C (crashL L K).length x]) ∧ OwnF w' w.heap.size (.slice C (crashL L K).length x) (crashL L K) ∧ Below w.heap.size w w' := by
  obtain ⟨i0, hi, hz0, hz1, hz2⟩ := info_parts infoFile
  have hn := hS.1
  have hf : ∀ f ∈ L, f.fits := fun f h => by obtain ⟨i, hi, rfl⟩ := List.getElem_of_mem h; exact (hL.2 i hi).choose_spec.2.2.2.2.2
  have HL : Hid (∀ W, Below w.heap.size w W → Fls W W.heap.size A L) := Lib.hid fun W h => (hL.below h (Nat.le_refl _)).mono h.size
  have hA0 := (Blk.fresh w 29 [.slice A L.length c]).alloc (.cells #[.slice none 0 0] 29)
  have hT0 := Blk.fresh (w.alloc (.cells #[.slice A L.length c] 29)) 29 [.slice none 0 0]
  simp only [World.size_alloc] at hT0
  have hb0 : Below w.heap.size w ((w.alloc (.cells #[.slice A L.length c] 29)).alloc (.cells #[.slice none 0 0] 29)) := ((Below.refl _ _).alloc (Nat.le_refl _) _).alloc (by simp) _
  by_cases hbig : 400 < K.length
  · have HC : Hid (crashL L K = []) := by unfold Hid crashL; rw [if_pos hbig]
    rw [HC.out]
    have hbig' : (400 : Int) < (K.length : Int) := by omega
    go_enter Try.func19, Try.ntmps19
    go_wp2
    refine bodyPost_ret (v := .agg #[.slice none 0 0]) (by simp [results, Try.results19, go_sem]) rfl ⟨none, 0, rfl, ⟨World.ownsRow_nil _ _ _ _, by simp⟩, hb0⟩
  · have HC : Hid (crashL L K = crashG L K) := by unfold Hid crashL; rw [if_neg hbig]
    rw [HC.out]
    obtain ⟨G, HG⟩ : ∃ G, Hid (crashG L K = G) := ⟨_, Lib.hid rfl⟩
    rw [HG.out]
    have R := implRight_any A L c _ (HL.out _ hb0)
    obtain ⟨okk, HOK⟩ : ∃ okk, Hid (fsOK L = okk) := ⟨_, Lib.hid rfl⟩
    rw [HOK.out] at R
    go_enter Try.func19, Try.ntmps19
    go_wp2_with (fail)
    refine R.mono ?_
    rintro e w1 ⟨rfl, hb1⟩
    have hw1 := hb0.trans (hb1.mono hb0.size)
    have hA1 := hA0.below hb1 hA0.lt
    have hT1 := hT0.below hb1 hT0.lt
    have hA2 := hA1.alloc (.cells #[.slice none 0 0] 29)
    have hT2 := hT1.alloc (.cells #[.slice none 0 0] 29)
    have hO2 := Blk.fresh w1 29 [.slice none 0 0]
    have hw2 := hw1.alloc hw1.size (.cells #[.slice none 0 0] 29)
    have b2 := hA2.cell (i := 0) rfl
    have hlt1 := hT1.lt
    obtain ⟨gf, gS⟩ := crashG_ok (K := K) hf hS
    have hGl := crashG_len L K
    have hGg : ∀ i (h : i < L.length) (h' : i < G.length), G[i] = if okk = true then crashF L[i] (keepAt K i) else L[i] := fun i h h' => by
      have e := HG.out; subst e; rw [← HOK.out]; exact crashG_get h
    rw [HG.out] at gf gS hGl
    go_wp2
    generalize w1.alloc (.cells #[.slice none 0 0] 29) = w2 at hA2 hT2 hO2 hw2 b2 ⊢
    generalize w1.heap.size = bo at hO2 hlt1 ⊢
    go_loopw [7, 8, 18] (fun _ _ i wr => ∃ (k : Nat) (v : Value), k ≤ L.length ∧ i = .int .i64 k ∧ OwnF wr (bo + 1) v (G.take k) ∧ Blk wr bo 29 [v] ∧ Blk wr w.heap.size 29 [.slice A L.length c] ∧ Blk wr (w.heap.size + 1) 29 [.slice none 0 0] ∧ Below w.heap.size w wr) (fun _ _ i _ => L.length - (intOf i).toNat)
    case atStart => exact ⟨0, _, by omega, rfl, ⟨World.ownsRow_nil _ _ _ _, by simp⟩, hO2, hA2, hT2, hw2⟩
    case round =>
      obtain ⟨k, v, hk, rfl, hF, hO, hA, hT, hb⟩ := hrel
      have hlto := hO.lt
      by_cases hlt : k < L.length
      · have hlt' : (k : Int) < (L.length : Int) := by omega
        obtain ⟨a, rfl, hab, c0, c1, c2, hff⟩ := (HL.out _ hb).at k hlt
        have hNk := hK.below hb (Nat.le_refl _)
        have hOv := hO.cell (i := 0) rfl
        rcases Bool.eq_false_or_eq_true okk with hok | hok
        · subst hok
          have hGk := hGg k hlt (by rw [hGl]; exact hlt)
          rw [if_pos rfl] at hGk
          clear hGg
          have hok' : okF L[k] = true := ((fsOK_iff.1 HOK.out).2 k hlt).1
          have hkept : Below wr.heap.size wr (wr.alloc (.cells #[.string L[k].name, .string L[k].data, .int .i64 L[k].sync] 46)) := (Below.refl _ _).alloc (Nat.le_refl _) _
          have hX3 := Blk.fresh wr 46 [.string L[k].name, .string L[k].data, .int .i64 L[k].sync]
          have hO3 := hO.below hkept hO.lt
          have hw3 := hb.trans (hkept.mono hb.size)
          have hF3 := hF.below hkept (Nat.le_refl _)
          have hA3 := hA.below hkept hA.lt
          have hT3 := hT.below hkept hT.lt
          have hN3 := (hK.below hw3 (Nat.le_refl _)).mono hw3.size
          have Ka := keptAt_any B K d k _ hN3 (by omega)
          have hkl := keepAt_lo K k
          have hkh : keepAt K k ≤ 9223372036854775807 := by
            unfold keepAt; split
            · rename_i h; have := (hK.2 k h).choose_spec.2.2.2.2; omega
            · omega
          go_wp2
          generalize wr.alloc (.cells #[.string L[k].name, .string L[k].data, .int .i64 L[k].sync] 46) = w3 at hX3 hO3 hw3 hF3 hA3 hT3 hkept hN3 Ka ⊢
          have x0 := hX3.drew.cell (i := 0) rfl
          have x1 := hX3.drew.cell (i := 1) rfl
          have x2 := hX3.drew.cell (i := 2) rfl
          refine wp_region_still_tail 4 (by kernel_rfl) (by kernel_rfl) ?_
          simp only [List.take_succ_cons, List.take_zero, List.drop_succ_cons, List.drop_zero]
          change wpStill _ _ w3.drew (fun a' => wpList _ _ _ _ a' w3.drew) _ _
          repeat (first | still_step | still_call (keptAt_any B K d k _ hN3 (by omega)))
          refine wpStill_nil ?_
          go_wp2_with (fail)
          refine (crashed_any L[k] (keepAt K k) _ hff hok' hkl hkh).mono ?_
          rintro e w4 ⟨rfl, hb4⟩
          rw [← hGk]
          obtain ⟨n0, n1, n2, HE⟩ : ∃ n0 n1 n2, Hid (G[k]'(by omega) = ⟨n0, n1, n2⟩) := ⟨_, _, _, Lib.hid rfl⟩
          rw [HE.out]
          unfold Fil.val
          simp only
          have hX4 := hX3.drew.below hb4 hX3.drew.lt
          have hO4 := hO3.drew.below hb4 hO3.drew.lt
          have hA4 := hA3.drew.below hb4 hA3.drew.lt
          have hT4 := hT3.drew.below hb4 hT3.drew.lt
          have hF4 := hF3.drew.below hb4 (Nat.le_refl _)
          have hw4 := (below_drew hw3).trans (hb4.mono hw3.size)
          have t0 := hX4.cell (i := 0) rfl
          have t1 := hX4.cell (i := 1) rfl
          have t2 := hX4.cell (i := 2) rfl
          have f0 := hX4.froz 0
          have f1 := hX4.froz 1
          have f2 := hX4.froz 2
          have hX5 := ((hX4.put 0 (.string n0)).put 1 (.string n1)).put 2 (.int .i64 n2)
          clear x0 x1 x2
          go_wp2
          have nvx0 : v.ownBlock ≠ some wr.heap.size := fun e => by have := (hF.1.lt _ e).2; omega
          have hO5 := ((hO4.far (p := ⟨wr.heap.size, 0, none⟩) (by simp; omega) (.string n0)).far (p := ⟨wr.heap.size, 1, none⟩) (by simp; omega) (.string n1)).far (p := ⟨wr.heap.size, 2, none⟩) (by simp; omega) (.int .i64 n2)
          have hA5 := ((hA4.far (p := ⟨wr.heap.size, 0, none⟩) (by simp; omega) (.string n0)).far (p := ⟨wr.heap.size, 1, none⟩) (by simp; omega) (.string n1)).far (p := ⟨wr.heap.size, 2, none⟩) (by simp; omega) (.int .i64 n2)
          have hT5 := ((hT4.far (p := ⟨wr.heap.size, 0, none⟩) (by simp; omega) (.string n0)).far (p := ⟨wr.heap.size, 1, none⟩) (by simp; omega) (.string n1)).far (p := ⟨wr.heap.size, 2, none⟩) (by simp; omega) (.int .i64 n2)
          have hF5 : OwnF (((w4.setCell ⟨wr.heap.size, 0, none⟩ (.string n0)).setCell ⟨wr.heap.size, 1, none⟩ (.string n1)).setCell ⟨wr.heap.size, 2, none⟩ (.int .i64 n2)) (bo + 1) v (G.take k) :=
            ⟨row_off (row_off (row_off hF4.1 (p := ⟨wr.heap.size, 0, none⟩) nvx0 _) (p := ⟨wr.heap.size, 1, none⟩) nvx0 _) (p := ⟨wr.heap.size, 2, none⟩) nvx0 _, hF4.2⟩
          have hw5 : Below w.heap.size w (((w4.setCell ⟨wr.heap.size, 0, none⟩ (.string n0)).setCell ⟨wr.heap.size, 1, none⟩ (.string n1)).setCell ⟨wr.heap.size, 2, none⟩ (.int .i64 n2)) := ((hw4.setCell (by simp; omega) _).setCell (by simp; omega) _).setCell (by simp; omega) _
          clear hX3 hO3 hw3 hF3 hA3 hT3 hX4 hO4 hA4 hT4 hF4 hw4 hkept Ka hN3 t0 t1 t2 f0 f1 f2 hb4 c0 c1 c2 hOv
          generalize ((w4.setCell ⟨wr.heap.size, 0, none⟩ (.string n0)).setCell ⟨wr.heap.size, 1, none⟩ (.string n1)).setCell ⟨wr.heap.size, 2, none⟩ (.int .i64 n2) = w3 at hX5 hO5 hA5 hT5 hF5 hw5 ⊢
          have hX3 := hX5
          have hO3 := hO5
          have hA3 := hA5
          have hT3 := hT5
          have hF3 := hF5
          have hw3 := hw5
          clear hX5 hO5 hA5 hT5 hF5 hw5 nvx0
          simp only [List.set_cons_zero, List.set_cons_succ] at hX3
          have hbx : bo < wr.heap.size := hlto
          have nvx : v.ownBlock ≠ some wr.heap.size := fun e => by have := (hF.1.lt _ e).2; omega
          have nvo : v.ownBlock ≠ some bo := fun e => by have := (hF.1.lt _ e).1; omega
          have nvA : v.ownBlock ≠ some w.heap.size := fun e => by have := (hF.1.lt _ e).1; omega
          have nvT : v.ownBlock ≠ some (w.heap.size + 1) := fun e => by have := (hF.1.lt _ e).1; omega
          generalize wr.heap.size = bx at hX3 hbx nvx ⊢
          have Fr := fun W => freshFile_any ⟨n0, n1, n2⟩ W (by have := (gS.2 k (by omega)).1; rw [HE.out] at this; exact this) (by have := (gS.2 k (by omega)).2; rw [HE.out] at this; exact this)
          unfold Fil.val at Fr
          simp only at Fr
          have x0 := hX3.drew.cell (i := 0) rfl
          have x1 := hX3.drew.cell (i := 1) rfl
          have x2 := hX3.drew.cell (i := 2) rfl
          have y0 := hO3.drew.cell (i := 0) rfl
          have hF3d := hF3.drew
          have hO3d := hO3.drew
          have hw3d := below_drew hw3
          have hsz3 := hw3.size
          have hltX := hX3.drew.lt
          go_region_law
            (first
              | (go_simp; go_at_call 36; refine (Fr _).mono ?_; rintro e w4 ⟨rfl, hb4⟩; have y4 := kept_cell hb4 y0; have y4a := kept_cell (show Below w4.heap.size w4 (w4.alloc (.cells #[.string n0, .string n1, .int .i64 n2] 46)) from (Below.refl _ _).alloc (Nat.le_refl _) _) y4)
              | (refine step_append_lies _ (by rfl) _ _ _ (by rfl) (bo + 1) 46 i0 _ 3 40 Try.underlying27 hi hz0 hz1 hz2 rfl (by omega) v (G.take k).length _ (by rfl) (World.ownsRow.alloc (row_below hF3d.1 hb4 (Nat.le_refl _)) _)
                  ⟨w4.heap.size, 0, none⟩ 1 1 [.string n0, .string n1, .int .i64 n2] (by rfl) (by rfl) (World.news_of_block (cs := #[.string n0, .string n1, .int .i64 n2]) (t := 46) (fr := (0, 0)) (heap_alloc_new w4 _)) (by simp [Value.oneCell'])
                  (by omega) (by unfold maxLen; simp; omega) (by simp; omega) (by have := hb4.size; simp; omega) (w4.heap.size + 1) (by simp) ?_; intro gg cap' w5 hown5 hgrow5 hat5 hlt5; have q4 : Below w4.heap.size w4 (w4.alloc (.cells #[.string n0, .string n1, .int .i64 n2] 46)) := (Below.refl _ _).alloc (Nat.le_refl _) _; have z0 := hgrow5.cell (kept_cell q4 (kept_cell hb4 x0)) (Ne.symm nvx); have z1 := hgrow5.cell (kept_cell q4 (kept_cell hb4 x1)) (Ne.symm nvx); have z2 := hgrow5.cell (kept_cell q4 (kept_cell hb4 x2)) (Ne.symm nvx); have hO5 := ((hO3d.below hb4 hO3d.lt).below q4 (hO3d.below hb4 hO3d.lt).lt).grown hgrow5 (Ne.symm nvo); have y5 := hO5.cell (i := 0) rfl; have f5 := hO5.froz 0))
          all_goals
            have q4 : Below w4.heap.size w4 (w4.alloc (.cells #[.string n0, .string n1, .int .i64 n2] 46)) := (Below.refl _ _).alloc (Nat.le_refl _) _
            have q5 := hb4.trans (q4.mono hb4.size)
            have hA5 := ((hA3.drew.below q5 hA3.drew.lt).grown hgrow5 (Ne.symm nvA)).far (p := ⟨bo, 0, none⟩) (by simp; omega) (.slice (some ⟨gg, 0, none⟩) (k + 1) cap')
            have hT5 := ((hT3.drew.below q5 hT3.drew.lt).grown hgrow5 (Ne.symm nvT)).far (p := ⟨bo, 0, none⟩) (by simp; omega) (.slice (some ⟨gg, 0, none⟩) (k + 1) cap')
            have hw5 := ((hw3d.trans (q5.mono hw3d.size)).grown hgrow5 (by have := hw3d.size; have := hb4.size; simp at *; omega) (fun j e => by have := (hF.1.lt _ e).1; omega)).setCell (p := ⟨bo, 0, none⟩) (by simp; omega) (.slice (some ⟨gg, 0, none⟩) (k + 1) cap')
            have hO6 := hO5.put 0 (.slice (some ⟨gg, 0, none⟩) (k + 1) cap')
            have hF6 : OwnF (w5.setCell ⟨bo, 0, none⟩ (.slice (some ⟨gg, 0, none⟩) (k + 1) cap')) (bo + 1) (.slice (some ⟨gg, 0, none⟩) (k + 1) cap') (G.take (k + 1)) := by
              refine ⟨row_far (p := ⟨bo, 0, none⟩) ?_ (by simp) _, fun f h => gf f (List.mem_of_mem_take h)⟩
              have e1 : (G.take (k + 1)).length = k + 1 := by simp; omega
              have e2 : flat (G.take (k + 1)) = flat (G.take k) ++ [.string n0, .string n1, .int .i64 n2] := by
                rw [List.take_succ_eq_append_getElem (by omega), flat_append, HE.out]; rfl
              rw [e1, e2]
              have e3 : (G.take k).length = k := by simp; omega
              simpa [e3] using hown5
            go_wp2
            exact ⟨⟨k + 1, _, by omega, by go_num, hF6, hO6, hA5, hT5, hw5⟩, by simp [intOf]; omega⟩
        · subst hok
          have hGk := hGg k hlt (by rw [hGl]; exact hlt)
          rw [if_neg (by simp)] at hGk
          clear hGg
          have hkept : Below wr.heap.size wr (wr.alloc (.cells #[.string L[k].name, .string L[k].data, .int .i64 L[k].sync] 46)) := (Below.refl _ _).alloc (Nat.le_refl _) _
          have hX3 := Blk.fresh wr 46 [.string L[k].name, .string L[k].data, .int .i64 L[k].sync]
          have hO3 := hO.below hkept hO.lt
          have hw3 := hb.trans (hkept.mono hb.size)
          have hF3 := hF.below hkept (Nat.le_refl _)
          have hA3 := hA.below hkept hA.lt
          have hT3 := hT.below hkept hT.lt
          go_wp2
          generalize wr.alloc (.cells #[.string L[k].name, .string L[k].data, .int .i64 L[k].sync] 46) = w3 at hX3 hO3 hw3 hF3 hA3 hT3 hkept ⊢
          have hbx : bo < wr.heap.size := hlto
          have nvx : v.ownBlock ≠ some wr.heap.size := fun e => by have := (hF.1.lt _ e).2; omega
          have nvo : v.ownBlock ≠ some bo := fun e => by have := (hF.1.lt _ e).1; omega
          have nvA : v.ownBlock ≠ some w.heap.size := fun e => by have := (hF.1.lt _ e).1; omega
          have nvT : v.ownBlock ≠ some (w.heap.size + 1) := fun e => by have := (hF.1.lt _ e).1; omega
          generalize wr.heap.size = bx at hX3 hbx nvx ⊢
          obtain ⟨n0, n1, n2, HE⟩ : ∃ n0 n1 n2, Hid (G[k]'(by omega) = ⟨n0, n1, n2⟩) := ⟨_, _, _, Lib.hid rfl⟩
          rw [← hGk, HE.out] at hX3
          have Fr := fun W => freshFile_any ⟨n0, n1, n2⟩ W (by have := (gS.2 k (by omega)).1; rw [HE.out] at this; exact this) (by have := (gS.2 k (by omega)).2; rw [HE.out] at this; exact this)
          unfold Fil.val at Fr
          simp only at hX3 Fr
          have x0 := hX3.drew.cell (i := 0) rfl
          have x1 := hX3.drew.cell (i := 1) rfl
          have x2 := hX3.drew.cell (i := 2) rfl
          have y0 := hO3.drew.cell (i := 0) rfl
          have hF3d := hF3.drew
          have hO3d := hO3.drew
          have hw3d := below_drew hw3
          have hsz3 := hw3.size
          have hltX := hX3.drew.lt
          clear c0 c1 c2 hOv
          go_region_law
            (first
              | (go_simp; go_at_call 36; refine (Fr _).mono ?_; rintro e w4 ⟨rfl, hb4⟩; have y4 := kept_cell hb4 y0; have y4a := kept_cell (show Below w4.heap.size w4 (w4.alloc (.cells #[.string n0, .string n1, .int .i64 n2] 46)) from (Below.refl _ _).alloc (Nat.le_refl _) _) y4)
              | (refine step_append_lies _ (by rfl) _ _ _ (by rfl) (bo + 1) 46 i0 _ 3 40 Try.underlying27 hi hz0 hz1 hz2 rfl (by omega) v (G.take k).length _ (by rfl) (World.ownsRow.alloc (row_below hF3d.1 hb4 (Nat.le_refl _)) _)
                  ⟨w4.heap.size, 0, none⟩ 1 1 [.string n0, .string n1, .int .i64 n2] (by rfl) (by rfl) (World.news_of_block (cs := #[.string n0, .string n1, .int .i64 n2]) (t := 46) (fr := (0, 0)) (heap_alloc_new w4 _)) (by simp [Value.oneCell'])
                  (by omega) (by unfold maxLen; simp; omega) (by simp; omega) (by have := hb4.size; simp; omega) (w4.heap.size + 1) (by simp) ?_; intro gg cap' w5 hown5 hgrow5 hat5 hlt5; have q4 : Below w4.heap.size w4 (w4.alloc (.cells #[.string n0, .string n1, .int .i64 n2] 46)) := (Below.refl _ _).alloc (Nat.le_refl _) _; have z0 := hgrow5.cell (kept_cell q4 (kept_cell hb4 x0)) (Ne.symm nvx); have z1 := hgrow5.cell (kept_cell q4 (kept_cell hb4 x1)) (Ne.symm nvx); have z2 := hgrow5.cell (kept_cell q4 (kept_cell hb4 x2)) (Ne.symm nvx); have hO5 := ((hO3d.below hb4 hO3d.lt).below q4 (hO3d.below hb4 hO3d.lt).lt).grown hgrow5 (Ne.symm nvo); have y5 := hO5.cell (i := 0) rfl; have f5 := hO5.froz 0))
          all_goals
            have q4 : Below w4.heap.size w4 (w4.alloc (.cells #[.string n0, .string n1, .int .i64 n2] 46)) := (Below.refl _ _).alloc (Nat.le_refl _) _
            have q5 := hb4.trans (q4.mono hb4.size)
            have hA5 := ((hA3.drew.below q5 hA3.drew.lt).grown hgrow5 (Ne.symm nvA)).far (p := ⟨bo, 0, none⟩) (by simp; omega) (.slice (some ⟨gg, 0, none⟩) (k + 1) cap')
            have hT5 := ((hT3.drew.below q5 hT3.drew.lt).grown hgrow5 (Ne.symm nvT)).far (p := ⟨bo, 0, none⟩) (by simp; omega) (.slice (some ⟨gg, 0, none⟩) (k + 1) cap')
            have hw5 := ((hw3d.trans (q5.mono hw3d.size)).grown hgrow5 (by have := hw3d.size; have := hb4.size; simp at *; omega) (fun j e => by have := (hF.1.lt _ e).1; omega)).setCell (p := ⟨bo, 0, none⟩) (by simp; omega) (.slice (some ⟨gg, 0, none⟩) (k + 1) cap')
            have hO6 := hO5.put 0 (.slice (some ⟨gg, 0, none⟩) (k + 1) cap')
            have hF6 : OwnF (w5.setCell ⟨bo, 0, none⟩ (.slice (some ⟨gg, 0, none⟩) (k + 1) cap')) (bo + 1) (.slice (some ⟨gg, 0, none⟩) (k + 1) cap') (G.take (k + 1)) := by
              refine ⟨row_far (p := ⟨bo, 0, none⟩) ?_ (by simp) _, fun f h => gf f (List.mem_of_mem_take h)⟩
              have e1 : (G.take (k + 1)).length = k + 1 := by simp; omega
              have e2 : flat (G.take (k + 1)) = flat (G.take k) ++ [.string n0, .string n1, .int .i64 n2] := by
                rw [List.take_succ_eq_append_getElem (by omega), flat_append, HE.out]; rfl
              rw [e1, e2]
              have e3 : (G.take k).length = k := by simp; omega
              simpa [e3] using hown5
            go_wp2
            exact ⟨⟨k + 1, _, by omega, by go_num, hF6, hO6, hA5, hT5, hw5⟩, by simp [intOf]; omega⟩
      · obtain rfl : k = L.length := by omega
        rw [List.take_of_length_le (by omega)] at hF
        obtain ⟨C, x, rfl, _⟩ := hF.slice
        have t0 := hT.cell (i := 0) rfl
        have f0 := hT.froz 0
        have o0 := hO.cell (i := 0) rfl
        clear hGl hGg
        go_wp2
        have hp := hT.put 0 (.slice C G.length x)
        have k0 := hp.cell (i := 0) rfl
        refine bodyPost_ret (v := .agg #[.slice C G.length x]) (by simp [results, Try.results19, go_sem, t0]) rfl ⟨C, x, rfl, ?_, hb.setCell (by simp) _⟩
        exact (hF.far (p := ⟨w.heap.size + 1, 0, none⟩) (by simp; omega) _).base (by omega)
end Go.Proofs.Ytmdjfgnmjelmhaa
