/- impl.SeglogSync. The specification's copy of a file system, and its smaller of two numbers. Files in a map by name: what the map reads as, told by a rising list of files. -/
import Derived.Test.YtebkblmejkkhfaaGreatDoorFreshW
import Derived.Deep.RegionLaw
import Derived.Deep.AppendLies
import Derived.WalkSmall
import Derived.Test.YtebkblmejkkhfaaGreatDoorFilRightW
import Derived.Maps.OwnSet
import Derived.Maps.RangeWalk
import Derived.Sort.KeysCollected
namespace Go.Proofs.YtebkblmejkkhfaaGreatDoor
open Go.RowKit
set_option linter.unusedVariables false
set_option linter.unusedSimpArgs false
set_option maxRecDepth 1000000

def syncF (x : Fil) : Fil := ⟨x.name, x.data, (x.data.size : Int)⟩
theorem syncF_fits {x : Fil} (h : x.fits) : (syncF x).fits := by
  obtain ⟨h0, h1, _, _⟩ := h
  have h2 := h1
  unfold maxLen at h2
  exact ⟨h0, h1, by simp [syncF], by simp [syncF]; omega⟩
open Classical in
/-- The files that SeglogSync answers. -/
noncomputable def syncO (L : List Fil) (f m : Int) : List Fil := if logB L f m = true then L.map syncF else L
theorem syncO_len (L : List Fil) (f m : Int) : (syncO L f m).length = L.length := by unfold syncO; split <;> simp
theorem OwnF.off {w : World} {base : Nat} {v : Value} {L : List Fil} (h : OwnF w base v L) {p : Addr} (hp : v.ownBlock ≠ some p.block) (u : Value) : OwnF (w.setCell p u) base v L := ⟨row_off h.1 hp u, h.2⟩

set_option maxHeartbeats 8000000 in
theorem implSync_any (A : Option Addr) (L : List Fil) (c : Nat) (f m : Int) (w : World) (hL : Fls w w.heap.size A L) (hS : Small L) (hfw : (Lit.int .i64 f).wf = true) (hmw : (Lit.int .i64 m).wf = true) (hP : Pow w) (hH : Handle w) (hSg : Seg w) :
    Calls Tryz.prog 49 #[segV (.slice A L.length c) f m] w fun e w' => ∃ (C : Option Addr) (x : Nat), e = .returned (segV (.slice C L.length x) f m) ∧ OwnF w' w.heap.size (.slice C L.length x) (syncO L f m) ∧ Below w.heap.size w w' := by
  have hn := hS.1
  have hf : ∀ f ∈ L, f.fits := fun f h => by obtain ⟨i, hi, rfl⟩ := List.getElem_of_mem h; exact (hL.2 i hi).choose_spec.2.2.2.2.2
  have hb0 : Below w.heap.size w ((w.alloc (.cells #[.slice A L.length c, .int .i64 f, .int .i64 m] 61)).alloc (.cells #[.slice none 0 0, .int .i64 0, .int .i64 0] 61)) := ((Below.refl _ _).alloc (Nat.le_refl _) _).alloc (by simp) _
  have k0 := (Blk.fresh w 61 [.slice A L.length c, .int .i64 f, .int .i64 m]).alloc (.cells #[.slice none 0 0, .int .i64 0, .int .i64 0] 61)
  have k1 := Blk.fresh (w.alloc (.cells #[.slice A L.length c, .int .i64 f, .int .i64 m] 61)) 61 [.slice none 0 0, .int .i64 0, .int .i64 0]
  simp only [List.toArray, World.size_alloc] at k0 k1
  have HR := Lib.hid (implSeglogRight_any A L c f m _ ((hL.below hb0 (Nat.le_refl _)).mono hb0.size) hfw hmw (hP.below hb0) (Handle.below hH hb0) (hSg.below hb0))
  clear hfw hmw
  go_enter Tryz.func49, Tryz.ntmps49
  go_wp2_with (fail)
  refine HR.out.mono ?_
  generalize (w.alloc (.cells #[.slice A L.length c, .int .i64 f, .int .i64 m] 61)).alloc (.cells #[.slice none 0 0, .int .i64 0, .int .i64 0] 61) = w1 at hb0 k0 k1 ⊢
  rintro e w2 ⟨rfl, hb2⟩
  have q0 := k0.below hb2 k0.lt
  have q1 := k1.below hb2 k1.lt
  have hw2 := hb0.trans (hb2.mono hb0.size)
  have c1 := q0.cell (i := 1) rfl
  have c2 := q0.cell (i := 2) rfl
  have h0 := q0.alloc (.cells #[.slice none 0 0, .int .i64 f, .int .i64 m] 61)
  have h1 := q1.alloc (.cells #[.slice none 0 0, .int .i64 f, .int .i64 m] 61)
  have h3 := Blk.fresh w2 61 [.slice none 0 0, .int .i64 f, .int .i64 m]
  have hw3 := hw2.alloc hw2.size (.cells #[.slice none 0 0, .int .i64 f, .int .i64 m] 61)
  have hO2 := q1.lt
  simp only [List.toArray] at h3
  have d0 := h0.cell (i := 0) rfl
  have hz3 : (w2.alloc (.cells #[.slice none 0 0, .int .i64 f, .int .i64 m] 61)).heap.size = w2.heap.size + 1 := by simp
  clear HR k0 k1 hb2 hb0
  rcases Bool.eq_false_or_eq_true (logB L f m) with hBB | hBB
  · have R := Lib.hid (show syncO L f m = L.map syncF by unfold syncO; rw [if_pos hBB])
    have hfl : ∀ f ∈ L.map syncF, f.fits := fun g h => by obtain ⟨f, hm, rfl⟩ := List.mem_map.1 h; exact syncF_fits (hf f hm)
    rw [hBB]
    clear hBB
    go_wp2
    generalize w2.alloc (.cells #[.slice none 0 0, .int .i64 f, .int .i64 m] 61) = w3 at h0 h1 h3 hw3 d0 hz3 ⊢
    generalize hOO : w2.heap.size = O at *
    clear c1 c2 d0 q0 q1 hw2
    go_loopw [6, 18] (fun _ i wr => ∃ (k : Nat) (v : Value), k ≤ L.length ∧ i = .int .i64 k ∧ O + 1 ≤ wr.heap.size ∧ OwnF wr (O + 1) v ((L.map syncF).take k) ∧ Blk wr O 61 [v, .int .i64 f, .int .i64 m] ∧ Blk wr w.heap.size 61 [.slice A L.length c, .int .i64 f, .int .i64 m] ∧ Blk wr (w.heap.size + 1) 61 [.slice none 0 0, .int .i64 0, .int .i64 0] ∧ Below w.heap.size w wr) (fun _ i _ => L.length - (intOf i).toNat)
    case atStart => exact ⟨0, _, by omega, rfl, by omega, ⟨World.ownsRow_nil _ _ _ _, by simp⟩, h3, h0, h1, hw3⟩
    case round =>
      obtain ⟨k, v, hk, rfl, hB, hF, hO, hP, hQ, hb⟩ := hrel
      by_cases hlt : k < L.length
      · obtain ⟨a, rfl, hab, c0, c1, c2, hff⟩ := (hL.below hb (Nat.le_refl _)).at k hlt
        have hlt' : (k : Int) < (L.length : Int) := by omega
        have hfk := hf L[k] (List.getElem_mem hlt)
        have hgk : (L.map syncF)[k]'(by first | exact hlt | (simp; exact hlt)) = ⟨L[k].name, L[k].data, (L[k].data.size : Int)⟩ := by simp [syncF]
        obtain ⟨n0, n1, n2', HE0⟩ : ∃ n0 n1 nz, Hid (L[k] = ⟨n0, n1, nz⟩) := ⟨_, _, _, Lib.hid rfl⟩
        have nvB : v.ownBlock ≠ some wr.heap.size := fun e => by have := (hF.1.lt _ e).2; omega
        rw [HE0.out] at c0 c1 c2
        simp only at c0 c1 c2
        have HE : Hid ((L.map syncF)[k]'(by first | exact hlt | (simp; exact hlt)) = ⟨n0, n1, (n1.size : Int)⟩) := Lib.hid (by rw [hgk, HE0.out])
        have Fr := fun W => freshFile_any (⟨n0, n1, (n1.size : Int)⟩ : Fil) W (by have := (hS.2 k hlt).1; rw [HE0.out] at this; exact this) (by have := (hS.2 k hlt).2; rw [HE0.out] at this; exact this)
        unfold Fil.val at Fr
        simp only at Fr
        clear hgk
        have FB0 := Blk.fresh wr 53 [.string n0, .string n1, .int .i64 n2']
        have hPa := hP.alloc (.cells #[.string n0, .string n1, .int .i64 n2'] 53)
        have hQa := hQ.alloc (.cells #[.string n0, .string n1, .int .i64 n2'] 53)
        have hOa := hO.alloc (.cells #[.string n0, .string n1, .int .i64 n2'] 53)
        have hba := hb.alloc hb.size (.cells #[.string n0, .string n1, .int .i64 n2'] 53)
        have hFa := hF.below (w' := wr.alloc (.cells #[.string n0, .string n1, .int .i64 n2'] 53)) ((Below.refl _ _).alloc (Nat.le_refl _) _) (Nat.le_refl _)
        have hza : wr.heap.size + 1 ≤ (wr.alloc (.cells #[.string n0, .string n1, .int .i64 n2'] 53)).heap.size := by simp
        simp only [List.toArray] at FB0
        have z0 := FB0.cell (i := 0) rfl
        have z1 := FB0.cell (i := 1) rfl
        have z2 := FB0.cell (i := 2) rfl
        have hPlt := hP.lt
        have hOlt := hO.lt
        go_wp2_with (fail)
        generalize wr.alloc (.cells #[.string n0, .string n1, .int .i64 n2'] 53) = wa at FB0 hPa hQa hOa hba hFa hza z0 z1 z2 ⊢
        generalize hBr : wr.heap.size = B at *
        clear hF hO hP hQ hb c0 c1 c2
        have Sy := Lib.hid (fun W => syncedFile_any ⟨n0, n1, n2'⟩ W (by have := hfk; rw [HE0.out] at this; exact this))
        unfold Fil.val at Sy
        simp only at Sy
        go_wp2_with (go_at_call 113; refine (Sy.out _).mono ?_; rintro e w9 ⟨rfl, hb9⟩; have FB9 := FB0.below hb9 FB0.lt; have u0 := FB9.cell (i := 0) rfl; have u1 := FB9.cell (i := 1) rfl; have u2 := FB9.cell (i := 2) rfl; have v0 := FB9.froz 0; have v1 := FB9.froz 1; have v2 := FB9.froz 2)
        have hFB : Blk _ B 53 [.string n0, .string n1, .int .i64 (n1.size : Int)] := ((FB9.put 0 (.string n0)).put 1 (.string n1)).put 2 (.int .i64 (n1.size : Int))
        have hz9 := hb9.size
        have hP3 := (((hPa.below hb9 hPa.lt).far (p := ⟨B, 0, none⟩) (by simp; omega) (.string n0)).far (p := ⟨B, 1, none⟩) (by simp; omega) (.string n1)).far (p := ⟨B, 2, none⟩) (by simp; omega) (.int .i64 (n1.size : Int))
        have hQ3 := (((hQa.below hb9 hQa.lt).far (p := ⟨B, 0, none⟩) (by simp; omega) (.string n0)).far (p := ⟨B, 1, none⟩) (by simp; omega) (.string n1)).far (p := ⟨B, 2, none⟩) (by simp; omega) (.int .i64 (n1.size : Int))
        have hO3 := (((hOa.below hb9 hOa.lt).far (p := ⟨B, 0, none⟩) (by simp; omega) (.string n0)).far (p := ⟨B, 1, none⟩) (by simp; omega) (.string n1)).far (p := ⟨B, 2, none⟩) (by simp; omega) (.int .i64 (n1.size : Int))
        have hF3 := (((hFa.below hb9 (Nat.le_refl _)).off (p := ⟨B, 0, none⟩) nvB (.string n0)).off (p := ⟨B, 1, none⟩) nvB (.string n1)).off (p := ⟨B, 2, none⟩) nvB (.int .i64 (n1.size : Int))
        have hb3 := (((hba.trans (hb9.mono hba.size)).setCell (p := ⟨B, 0, none⟩) (by simp; omega) (.string n0)).setCell (p := ⟨B, 1, none⟩) (by simp; omega) (.string n1)).setCell (p := ⟨B, 2, none⟩) (by simp; omega) (.int .i64 (n1.size : Int))
        have hz3 : B + 1 ≤ (((w9.setCell ⟨B, 0, none⟩ (.string n0)).setCell ⟨B, 1, none⟩ (.string n1)).setCell ⟨B, 2, none⟩ (.int .i64 (n1.size : Int))).heap.size := by simp; omega
        generalize ((w9.setCell ⟨B, 0, none⟩ (.string n0)).setCell ⟨B, 1, none⟩ (.string n1)).setCell ⟨B, 2, none⟩ (.int .i64 (n1.size : Int)) = w3 at hFB hP3 hQ3 hO3 hF3 hb3 hz3 ⊢
        clear FB9 u0 u1 u2 v0 v1 v2
        obtain ⟨i0, hi, hz0, hz1, hz2⟩ := info_parts infoFile
        have nvo : v.ownBlock ≠ some (O) := fun e => by have := (hF3.1.lt _ e).1; omega
        have nvhP3 : v.ownBlock ≠ some (w.heap.size) := fun e => by have := (hF3.1.lt _ e).1; omega
        have nvhQ3 : v.ownBlock ≠ some (w.heap.size + 1) := fun e => by have := (hF3.1.lt _ e).1; omega
        have y0 := hO3.drew.cell (i := 0) rfl
        have x0 := hFB.drew.cell (i := 0) rfl
        have x1 := hFB.drew.cell (i := 1) rfl
        have x2 := hFB.drew.cell (i := 2) rfl
        have hFd := hF3.drew
        have hOd := hO3.drew
        have HLT : Hid (((L.map syncF).take k).length = k) := Lib.hid (by simp; omega)
        go_region_law
          (first
            | (go_simp; go_at_call 97; refine (Fr _).mono ?_; rintro e w4 ⟨rfl, hb4⟩; have y4 := kept_cell hb4 y0; have y4a := kept_cell (show Below w4.heap.size w4 (w4.alloc (.cells #[.string n0, .string n1, .int .i64 (n1.size : Int)] 53)) from (Below.refl _ _).alloc (Nat.le_refl _) _) y4)
            | (refine step_append_lies _ (by rfl) _ _ _ (by rfl) (O + 1) 53 i0 _ 3 40 Tryz.underlying23 hi hz0 hz1 hz2 rfl (by omega) v ((L.map syncF).take k).length _ (by rfl) (World.ownsRow.alloc (row_below hFd.1 hb4 (Nat.le_refl _)) _)
                          ⟨w4.heap.size, 0, none⟩ 1 1 [.string n0, .string n1, .int .i64 (n1.size : Int)] (by rfl) (by rfl) (World.news_of_block (cs := #[.string n0, .string n1, .int .i64 (n1.size : Int)]) (t := 53) (fr := (0, 0)) (heap_alloc_new w4 _)) (by simp [Value.oneCell'])
                          (by omega) (by have h := HLT.out; unfold maxLen; omega) (by have h := HLT.out; omega) (by have h := hb4.size; simp only [World.size_drew, World.size_alloc] at h ⊢; omega) (w4.heap.size + 1) (by simp) ?_; intro gg cap' w5 hown5 hgrow5 hat5 hlt5; have q4 : Below w4.heap.size w4 (w4.alloc (.cells #[.string n0, .string n1, .int .i64 (n1.size : Int)] 53)) := (Below.refl _ _).alloc (Nat.le_refl _) _; have hO5 := ((hOd.below hb4 hOd.lt).below q4 (hOd.below hb4 hOd.lt).lt).grown hgrow5 (Ne.symm nvo); have y5 := hO5.cell (i := 0) rfl; have f5 := hO5.froz 0))
        all_goals
          have q4 : Below w4.heap.size w4 (w4.alloc (.cells #[.string n0, .string n1, .int .i64 (n1.size : Int)] 53)) := (Below.refl _ _).alloc (Nat.le_refl _) _
          have q5 := hb4.trans (q4.mono hb4.size)
          rw [HLT.out] at hown5
          have hP36 := ((hP3.drew.below q5 hP3.drew.lt).grown hgrow5 (Ne.symm nvhP3)).far (p := ⟨O, 0, none⟩) (by simp; try omega) (.slice (some ⟨gg, 0, none⟩) (k + 1) cap')
          have hQ36 := ((hQ3.drew.below q5 hQ3.drew.lt).grown hgrow5 (Ne.symm nvhQ3)).far (p := ⟨O, 0, none⟩) (by simp; try omega) (.slice (some ⟨gg, 0, none⟩) (k + 1) cap')
          have hw6 := (((below_drew hb3).trans (q5.mono (by exact hb3.size))).grown hgrow5 (by have h2 := hb4.size; have h3 := hb3.size; simp at h2 ⊢; omega) (fun j e => by have := (hF3.1.lt _ e).1; omega)).setCell (p := ⟨O, 0, none⟩) (by simp; try omega) (.slice (some ⟨gg, 0, none⟩) (k + 1) cap')
          have hO6 := hO5.put 0 (.slice (some ⟨gg, 0, none⟩) (k + 1) cap')
          have hsz6 := hgrow5.size
          have hs4 := hb4.size
          simp only [World.size_alloc, World.size_drew] at hsz6 hs4
          have hF6 : OwnF (w5.setCell ⟨O, 0, none⟩ (.slice (some ⟨gg, 0, none⟩) (k + 1) cap')) (O + 1) (.slice (some ⟨gg, 0, none⟩) (k + 1) cap') ((L.map syncF).take (k + 1)) := by
            refine ⟨row_far (p := ⟨O, 0, none⟩) ?_ (by simp; try omega) _, fun f h => hfl f (List.mem_of_mem_take h)⟩
            have e1 : ((L.map syncF).take (k + 1)).length = k + 1 := by simp; omega
            have e2 : flat ((L.map syncF).take (k + 1)) = flat ((L.map syncF).take k) ++ [.string n0, .string n1, .int .i64 (n1.size : Int)] := by
              rw [List.take_succ_eq_append_getElem (by first | omega | (simp; omega)), flat_append, HE.out]; rfl
            rw [e1, e2]
            exact hown5
          go_wp2
          exact ⟨⟨k + 1, _, by omega, by go_num, by simp; omega, hF6, hO6, hP36, hQ36, hw6⟩, by simp [intOf]; omega⟩
      · obtain rfl : k = L.length := by omega
        rw [List.take_of_length_le (by simp)] at hF
        obtain ⟨C, x, rfl, _⟩ := hF.slice
        have o0 := hO.cell (i := 0) rfl
        have o1 := hO.cell (i := 1) rfl
        have o2 := hO.cell (i := 2) rfl
        have q0 := hQ.cell (i := 0) rfl
        have q1 := hQ.cell (i := 1) rfl
        have q2 := hQ.cell (i := 2) rfl
        have f0 := hQ.froz 0
        have f1 := hQ.froz 1
        have f2 := hQ.froz 2
        go_wp2
        have r1 := ((hQ.put 0 (.slice C (L.map syncF).length x)).put 1 (.int .i64 f)).put 2 (.int .i64 m)
        have r2 := ((hF.far (p := ⟨w.heap.size + 1, 0, none⟩) (by simp; omega) (.slice C (L.map syncF).length x)).far (p := ⟨w.heap.size + 1, 1, none⟩) (by simp; omega) (.int .i64 f)).far (p := ⟨w.heap.size + 1, 2, none⟩) (by simp; omega) (.int .i64 m)
        have r3 := ((hb.setCell (p := ⟨w.heap.size + 1, 0, none⟩) (by simp) (.slice C (L.map syncF).length x)).setCell (p := ⟨w.heap.size + 1, 1, none⟩) (by simp) (.int .i64 f)).setCell (p := ⟨w.heap.size + 1, 2, none⟩) (by simp) (.int .i64 m)
        try simp only [List.length_map] at r1 r2 r3 ⊢
        generalize ((wr.setCell ⟨w.heap.size + 1, 0, none⟩ (.slice C L.length x)).setCell ⟨w.heap.size + 1, 1, none⟩ (.int .i64 f)).setCell ⟨w.heap.size + 1, 2, none⟩ (.int .i64 m) = w9 at r1 r2 r3 ⊢
        have y0 := r1.cell (i := 0) rfl
        have y1 := r1.cell (i := 1) rfl
        have y2 := r1.cell (i := 2) rfl
        exact bodyPost_ret (v := segV (.slice C L.length x) f m) (by simp [results, Tryz.results49, go_sem, y0, y1, y2]) rfl ⟨C, x, rfl, by rw [R.out]; exact r2.base (by omega), r3⟩
  · have R := Lib.hid (show syncO L f m = L by unfold syncO; rw [if_neg (by simp [hBB])])
    have hfl := hf
    rw [hBB]
    clear hBB
    go_wp2
    generalize w2.alloc (.cells #[.slice none 0 0, .int .i64 f, .int .i64 m] 61) = w3 at h0 h1 h3 hw3 d0 hz3 ⊢
    generalize hOO : w2.heap.size = O at *
    clear c1 c2 d0 q0 q1 hw2
    go_loopw [6, 18] (fun _ i wr => ∃ (k : Nat) (v : Value), k ≤ L.length ∧ i = .int .i64 k ∧ O + 1 ≤ wr.heap.size ∧ OwnF wr (O + 1) v (L.take k) ∧ Blk wr O 61 [v, .int .i64 f, .int .i64 m] ∧ Blk wr w.heap.size 61 [.slice A L.length c, .int .i64 f, .int .i64 m] ∧ Blk wr (w.heap.size + 1) 61 [.slice none 0 0, .int .i64 0, .int .i64 0] ∧ Below w.heap.size w wr) (fun _ i _ => L.length - (intOf i).toNat)
    case atStart => exact ⟨0, _, by omega, rfl, by omega, ⟨World.ownsRow_nil _ _ _ _, by simp⟩, h3, h0, h1, hw3⟩
    case round =>
      obtain ⟨k, v, hk, rfl, hB, hF, hO, hP, hQ, hb⟩ := hrel
      by_cases hlt : k < L.length
      · obtain ⟨a, rfl, hab, c0, c1, c2, hff⟩ := (hL.below hb (Nat.le_refl _)).at k hlt
        have hlt' : (k : Int) < (L.length : Int) := by omega
        have hfk := hf L[k] (List.getElem_mem hlt)
        have hgk : L[k] = ⟨L[k].name, L[k].data, L[k].sync⟩ := rfl
        obtain ⟨n0, n1, n2', HE0⟩ : ∃ n0 n1 nz, Hid (L[k] = ⟨n0, n1, nz⟩) := ⟨_, _, _, Lib.hid rfl⟩
        have nvB : v.ownBlock ≠ some wr.heap.size := fun e => by have := (hF.1.lt _ e).2; omega
        rw [HE0.out] at c0 c1 c2
        simp only at c0 c1 c2
        have HE : Hid (L[k]'(by first | exact hlt | (simp; exact hlt)) = ⟨n0, n1, n2'⟩) := Lib.hid (by rw [hgk, HE0.out])
        have Fr := fun W => freshFile_any (⟨n0, n1, n2'⟩ : Fil) W (by have := (hS.2 k hlt).1; rw [HE0.out] at this; exact this) (by have := (hS.2 k hlt).2; rw [HE0.out] at this; exact this)
        unfold Fil.val at Fr
        simp only at Fr
        clear hgk
        have FB0 := Blk.fresh wr 53 [.string n0, .string n1, .int .i64 n2']
        have hPa := hP.alloc (.cells #[.string n0, .string n1, .int .i64 n2'] 53)
        have hQa := hQ.alloc (.cells #[.string n0, .string n1, .int .i64 n2'] 53)
        have hOa := hO.alloc (.cells #[.string n0, .string n1, .int .i64 n2'] 53)
        have hba := hb.alloc hb.size (.cells #[.string n0, .string n1, .int .i64 n2'] 53)
        have hFa := hF.below (w' := wr.alloc (.cells #[.string n0, .string n1, .int .i64 n2'] 53)) ((Below.refl _ _).alloc (Nat.le_refl _) _) (Nat.le_refl _)
        have hza : wr.heap.size + 1 ≤ (wr.alloc (.cells #[.string n0, .string n1, .int .i64 n2'] 53)).heap.size := by simp
        simp only [List.toArray] at FB0
        have z0 := FB0.cell (i := 0) rfl
        have z1 := FB0.cell (i := 1) rfl
        have z2 := FB0.cell (i := 2) rfl
        have hPlt := hP.lt
        have hOlt := hO.lt
        go_wp2_with (fail)
        generalize wr.alloc (.cells #[.string n0, .string n1, .int .i64 n2'] 53) = wa at FB0 hPa hQa hOa hba hFa hza z0 z1 z2 ⊢
        generalize hBr : wr.heap.size = B at *
        clear hF hO hP hQ hb c0 c1 c2
        have hFB := FB0
        have hP3 := hPa
        have hQ3 := hQa
        have hO3 := hOa
        have hF3 := hFa
        have hb3 := hba
        have hz3 := hza
        go_wp2
        generalize wa = w3 at hFB hP3 hQ3 hO3 hF3 hb3 hz3 ⊢
        obtain ⟨i0, hi, hz0, hz1, hz2⟩ := info_parts infoFile
        have nvo : v.ownBlock ≠ some (O) := fun e => by have := (hF3.1.lt _ e).1; omega
        have nvhP3 : v.ownBlock ≠ some (w.heap.size) := fun e => by have := (hF3.1.lt _ e).1; omega
        have nvhQ3 : v.ownBlock ≠ some (w.heap.size + 1) := fun e => by have := (hF3.1.lt _ e).1; omega
        have y0 := hO3.drew.cell (i := 0) rfl
        have x0 := hFB.drew.cell (i := 0) rfl
        have x1 := hFB.drew.cell (i := 1) rfl
        have x2 := hFB.drew.cell (i := 2) rfl
        have hFd := hF3.drew
        have hOd := hO3.drew
        have HLT : Hid ((L.take k).length = k) := Lib.hid (by simp; omega)
        go_region_law
          (first
            | (go_simp; go_at_call 97; refine (Fr _).mono ?_; rintro e w4 ⟨rfl, hb4⟩; have y4 := kept_cell hb4 y0; have y4a := kept_cell (show Below w4.heap.size w4 (w4.alloc (.cells #[.string n0, .string n1, .int .i64 n2'] 53)) from (Below.refl _ _).alloc (Nat.le_refl _) _) y4)
            | (refine step_append_lies _ (by rfl) _ _ _ (by rfl) (O + 1) 53 i0 _ 3 40 Tryz.underlying23 hi hz0 hz1 hz2 rfl (by omega) v (L.take k).length _ (by rfl) (World.ownsRow.alloc (row_below hFd.1 hb4 (Nat.le_refl _)) _)
                          ⟨w4.heap.size, 0, none⟩ 1 1 [.string n0, .string n1, .int .i64 n2'] (by rfl) (by rfl) (World.news_of_block (cs := #[.string n0, .string n1, .int .i64 n2']) (t := 53) (fr := (0, 0)) (heap_alloc_new w4 _)) (by simp [Value.oneCell'])
                          (by omega) (by have h := HLT.out; unfold maxLen; omega) (by have h := HLT.out; omega) (by have h := hb4.size; simp only [World.size_drew, World.size_alloc] at h ⊢; omega) (w4.heap.size + 1) (by simp) ?_; intro gg cap' w5 hown5 hgrow5 hat5 hlt5; have q4 : Below w4.heap.size w4 (w4.alloc (.cells #[.string n0, .string n1, .int .i64 n2'] 53)) := (Below.refl _ _).alloc (Nat.le_refl _) _; have hO5 := ((hOd.below hb4 hOd.lt).below q4 (hOd.below hb4 hOd.lt).lt).grown hgrow5 (Ne.symm nvo); have y5 := hO5.cell (i := 0) rfl; have f5 := hO5.froz 0))
        all_goals
          have q4 : Below w4.heap.size w4 (w4.alloc (.cells #[.string n0, .string n1, .int .i64 n2'] 53)) := (Below.refl _ _).alloc (Nat.le_refl _) _
          have q5 := hb4.trans (q4.mono hb4.size)
          rw [HLT.out] at hown5
          have hP36 := ((hP3.drew.below q5 hP3.drew.lt).grown hgrow5 (Ne.symm nvhP3)).far (p := ⟨O, 0, none⟩) (by simp; try omega) (.slice (some ⟨gg, 0, none⟩) (k + 1) cap')
          have hQ36 := ((hQ3.drew.below q5 hQ3.drew.lt).grown hgrow5 (Ne.symm nvhQ3)).far (p := ⟨O, 0, none⟩) (by simp; try omega) (.slice (some ⟨gg, 0, none⟩) (k + 1) cap')
          have hw6 := (((below_drew hb3).trans (q5.mono (by exact hb3.size))).grown hgrow5 (by have h2 := hb4.size; have h3 := hb3.size; simp at h2 ⊢; omega) (fun j e => by have := (hF3.1.lt _ e).1; omega)).setCell (p := ⟨O, 0, none⟩) (by simp; try omega) (.slice (some ⟨gg, 0, none⟩) (k + 1) cap')
          have hO6 := hO5.put 0 (.slice (some ⟨gg, 0, none⟩) (k + 1) cap')
          have hsz6 := hgrow5.size
          have hs4 := hb4.size
          simp only [World.size_alloc, World.size_drew] at hsz6 hs4
          have hF6 : OwnF (w5.setCell ⟨O, 0, none⟩ (.slice (some ⟨gg, 0, none⟩) (k + 1) cap')) (O + 1) (.slice (some ⟨gg, 0, none⟩) (k + 1) cap') (L.take (k + 1)) := by
            refine ⟨row_far (p := ⟨O, 0, none⟩) ?_ (by simp; try omega) _, fun f h => hfl f (List.mem_of_mem_take h)⟩
            have e1 : (L.take (k + 1)).length = k + 1 := by simp; omega
            have e2 : flat (L.take (k + 1)) = flat (L.take k) ++ [.string n0, .string n1, .int .i64 n2'] := by
              rw [List.take_succ_eq_append_getElem (by first | omega | (simp; omega)), flat_append, HE.out]; rfl
            rw [e1, e2]
            exact hown5
          go_wp2
          exact ⟨⟨k + 1, _, by omega, by go_num, by simp; omega, hF6, hO6, hP36, hQ36, hw6⟩, by simp [intOf]; omega⟩
      · obtain rfl : k = L.length := by omega
        rw [List.take_of_length_le (by simp)] at hF
        obtain ⟨C, x, rfl, _⟩ := hF.slice
        have o0 := hO.cell (i := 0) rfl
        have o1 := hO.cell (i := 1) rfl
        have o2 := hO.cell (i := 2) rfl
        have q0 := hQ.cell (i := 0) rfl
        have q1 := hQ.cell (i := 1) rfl
        have q2 := hQ.cell (i := 2) rfl
        have f0 := hQ.froz 0
        have f1 := hQ.froz 1
        have f2 := hQ.froz 2
        go_wp2
        have r1 := ((hQ.put 0 (.slice C L.length x)).put 1 (.int .i64 f)).put 2 (.int .i64 m)
        have r2 := ((hF.far (p := ⟨w.heap.size + 1, 0, none⟩) (by simp; omega) (.slice C L.length x)).far (p := ⟨w.heap.size + 1, 1, none⟩) (by simp; omega) (.int .i64 f)).far (p := ⟨w.heap.size + 1, 2, none⟩) (by simp; omega) (.int .i64 m)
        have r3 := ((hb.setCell (p := ⟨w.heap.size + 1, 0, none⟩) (by simp) (.slice C L.length x)).setCell (p := ⟨w.heap.size + 1, 1, none⟩) (by simp) (.int .i64 f)).setCell (p := ⟨w.heap.size + 1, 2, none⟩) (by simp) (.int .i64 m)
        try simp only [List.length_map] at r1 r2 r3 ⊢
        generalize ((wr.setCell ⟨w.heap.size + 1, 0, none⟩ (.slice C L.length x)).setCell ⟨w.heap.size + 1, 1, none⟩ (.int .i64 f)).setCell ⟨w.heap.size + 1, 2, none⟩ (.int .i64 m) = w9 at r1 r2 r3 ⊢
        have y0 := r1.cell (i := 0) rfl
        have y1 := r1.cell (i := 1) rfl
        have y2 := r1.cell (i := 2) rfl
        exact bodyPost_ret (v := segV (.slice C L.length x) f m) (by simp [results, Tryz.results49, go_sem, y0, y1, y2]) rfl ⟨C, x, rfl, by rw [R.out]; exact r2.base (by omega), r3⟩
end Go.Proofs.YtebkblmejkkhfaaGreatDoor

namespace Go.Proofs.YtebkblmejkkhfaaGreatDoor
open Go.RowKit
set_option linter.unusedVariables false
set_option maxRecDepth 1000000

theorem fls_news {w : World} {B : Nat} {a : Addr} {L : List Fil} (h : Fls w B (some a) L) : ∀ j u, (flat L)[j]? = some u → w.cell? (a.add j) = some u := by
  intro j u hj
  have hjl : j < L.length * 3 := by rw [← flat_len]; exact (List.getElem?_eq_some_iff.1 hj).1
  have hi : j / 3 < L.length := by omega
  have hg := flat_get L (j / 3) hi (j % 3) (by omega)
  rw [show j / 3 * 3 + j % 3 = j by omega, hj] at hg
  obtain ⟨a', e, _, c0, c1, c2, _⟩ := h.2 (j / 3) hi
  cases e
  have : j % 3 = 0 ∨ j % 3 = 1 ∨ j % 3 = 2 := by omega
  rcases this with e | e | e
  · rw [e] at hg
    rw [show j = j / 3 * 3 by omega, c0]
    exact hg.symm
  · rw [e] at hg
    rw [show j = j / 3 * 3 + 1 by omega, c1]
    exact hg.symm
  · rw [e] at hg
    rw [show j = j / 3 * 3 + 2 by omega, c2]
    exact hg.symm

theorem l01Min_any (a b : Int) (w : World) : Calls Tryz.prog 104 #[.int .i64 a, .int .i64 b] w fun e w' => e = .returned (.int .i64 (min a b)) ∧ w' = w := by
  by_cases h : a < b
  · go_enter Tryz.func104, Tryz.ntmps104
    go_wp2
    go_ret
    exact ⟨retI (by omega), rfl⟩
  · go_enter Tryz.func104, Tryz.ntmps104
    go_wp2
    go_ret
    exact ⟨retI (by omega), rfl⟩

set_option maxHeartbeats 1000000 in
theorem l03Copy_any (A : Option Addr) (L : List Fil) (c : Nat) (w : World) (hL : Fls w w.heap.size A L) (hS : Small L) :
    Calls Tryz.prog 103 #[.agg #[.slice A L.length c]] w fun e w' => ∃ C x, e = .returned (.agg #[.slice C L.length x]) ∧ OwnF w' (w.heap.size + 2) (.slice C L.length x) L ∧ Below w.heap.size w w' := by
  obtain ⟨i0, hi, hz0, hz1, hz2⟩ := info_parts infoFile
  have hn := hS.1
  have hf : ∀ f ∈ L, f.fits := fun f h => by obtain ⟨i, hi, rfl⟩ := List.getElem_of_mem h; exact (hL.2 i hi).choose_spec.2.2.2.2.2
  have hb0 : Below w.heap.size w (((w.alloc (.cells #[.slice A L.length c] 25)).alloc (.cells #[.slice none 0 0] 25)).alloc (.cells #[] 53)) := (((Below.refl _ _).alloc (Nat.le_refl _) _).alloc (by simp) _).alloc (by simp; omega) _
  have hT0 := (Blk.fresh (w.alloc (.cells #[.slice A L.length c] 25)) 25 [.slice none 0 0]).alloc (.cells #[] 53)
  simp only [World.size_alloc] at hT0
  have hL0 := hL.below hb0 (Nat.le_refl _)
  have hown0 : (((w.alloc (.cells #[.slice A L.length c] 25)).alloc (.cells #[.slice none 0 0] 25)).alloc (.cells #[] 53)).ownsRow (w.heap.size + 2) 53 3 (.slice (some ⟨w.heap.size + 1 + 1, 0, none⟩) 0 0) 0 [] :=
    ⟨rfl, .inr ⟨w.heap.size + 1 + 1, 0, #[], rfl, by omega, by have := heap_alloc_new ((w.alloc (.cells #[.slice A L.length c] 25)).alloc (.cells #[.slice none 0 0] 25)) (.cells #[] 53); simpa using this, Nat.le_refl _, by simp [maxLen], rfl, rfl⟩⟩
  cases A with
  | none =>
    have hz : L = [] := by
      cases L with
      | nil => rfl
      | cons f L => obtain ⟨a, e, _⟩ := hL.2 0 (by simp); cases e
    subst hz
    have ha := fun ty => run_append_owned_none (P := Tryz.prog) _ _ 23 ty 53 i0 3 Tryz.underlying23 hi _ _ _ hown0
    have t0 := hT0.cell (i := 0) rfl
    have f0 := hT0.froz 0
    go_enter Tryz.func103, Tryz.ntmps103
    go_wp2
    refine bodyPost_ret (v := .agg #[.slice (some ⟨w.heap.size + 1 + 1, 0, none⟩) 0 0]) (by simp [results, Tryz.results103, go_sem]) rfl ⟨_, _, rfl, ⟨⟨rfl, .inr ⟨w.heap.size + 1 + 1, 0, #[], rfl, by omega, ?_, Nat.le_refl _, by simp [maxLen], rfl, rfl⟩⟩, by simp⟩, ?_⟩
    · have := heap_alloc_new ((w.alloc (.cells #[.slice none 0 c] 25)).alloc (.cells #[.slice (some ⟨w.heap.size + 1 + 1, 0, none⟩) 0 0] 25)) (.cells #[] 53)
      simpa using this
    · exact (((Below.refl _ _).alloc (Nat.le_refl _) _).alloc (by simp) _).alloc (by simp; omega) _
  | some a =>
    go_enter Tryz.func103, Tryz.ntmps103
    go_wp2_with (at_builtin; refine wpList_append_own _ rfl _ _ 23 rfl (w.heap.size + 2) 53 i0 (.agg #[.string ⟨#[]⟩, .string ⟨#[]⟩, .int .i64 0]) 3 40 Tryz.underlying23 hi hz0 hz1 hz2 rfl (by decide) _ _ _ rfl hown0 a L.length c (flat L) rfl (flat_len L) (fls_news hL0) (flat_one L) (by unfold maxLen; omega) (by omega) (by simp) ?_)
    intro v' w1 hown1 hgrow1 _
    have hF1 : OwnF w1 (w.heap.size + 2) v' L := ⟨hown1, hf⟩
    have hT1 := hT0.grown hgrow1 (by simp [Value.ownBlock])
    have hw1 := hb0.grown hgrow1 (by have := hb0.size; exact this) (fun j e => by simp [Value.ownBlock] at e; omega)
    obtain ⟨C, x, rfl, _⟩ := hF1.slice
    have t0 := hT1.cell (i := 0) rfl
    have f0 := hT1.froz 0
    go_wp2
    refine bodyPost_ret (v := .agg #[.slice C L.length x]) (by simp [results, Tryz.results103, go_sem, t0]) rfl ⟨C, x, rfl, ?_, hw1.setCell (by simp) _⟩
    exact hF1.far (p := ⟨w.heap.size + 1, 0, none⟩) (by simp) _
end Go.Proofs.YtebkblmejkkhfaaGreatDoor

namespace Go.Proofs.YtebkblmejkkhfaaGreatDoor
open Go.RowKit
set_option linter.unusedVariables false
set_option maxRecDepth 1000000

/-- A file as a map's element reads. -/
def fileD (f : Fil) : DataW Unit := .agg [.lit (.string f.name.data.toList), .lit (.string f.data.data.toList), .lit (.int .i64 f.sync)]
def ent (f : Fil) : Lit × DataW Unit := (.string f.name.data.toList, fileD f)
/-- How an element reads. -/
def filElem : Value → Option (DataW Unit × List MemPlace)
  | .agg ⟨[.string a, .string b, .int .i64 s]⟩ => some (.agg [.lit (.string a.data.toList), .lit (.string b.data.toList), .lit (.int .i64 s)], [])
  | _ => none
theorem filElem_mk (f : Fil) : filElem f.val = some (fileD f, []) := rfl
theorem bytes_inj {a b : ByteArray} (h : a.data.toList = b.data.toList) : a = b := by
  apply ByteArray.ext
  exact Array.toList_inj.1 h
theorem filElem_inv {v : Value} {f : Fil} {ps : List MemPlace} (h : filElem v = some (fileD f, ps)) : v = f.val := by
  unfold filElem at h
  split at h
  · simp only [Option.some.injEq, Prod.mk.injEq, fileD, DataW.agg.injEq, List.cons.injEq, DataW.lit.injEq, Lit.string.injEq, Lit.int.injEq, true_and, and_true] at h
    obtain ⟨⟨h1, h2, h3⟩, _⟩ := h
    have e1 := bytes_inj h1
    have e2 := bytes_inj h2
    subst e1 e2 h3
    rfl
  · cases h
/-- A map that holds these files, each under its name. -/
def MapF (w : World) (b n : Nat) (L : List Fil) : Prop := w.ownsMap Tryz.prog 9 filElem b n (.map (L.map ent))

theorem before_eq : ∀ x y : List UInt8, bytesBefore x y = Op.bytesLess x y
  | [], [] => rfl
  | [], _ :: _ => rfl
  | _ :: _, [] => rfl
  | a :: x, b :: y => by unfold bytesBefore Op.bytesLess; rw [before_eq x y]
theorem less_iff : ∀ x y : List UInt8, Op.bytesLess x y = true ↔ x < y
  | [], [] => by simp [Op.bytesLess]
  | [], _ :: _ => by simp [Op.bytesLess]
  | _ :: _, [] => by simp [Op.bytesLess]
  | a :: x, b :: y => by
    rw [Op.bytesLess, List.cons_lt_cons_iff]
    have := less_iff x y
    simp only [Bool.or_eq_true, decide_eq_true_eq, Bool.and_eq_true, beq_iff_eq, this]
theorem lessB_iff (a b : ByteArray) : lessB a b = true ↔ a.data.toList < b.data.toList := by
  unfold lessB; rw [less_iff, Lib.toList_data, Lib.toList_data]
theorem lessB_eq (a b : ByteArray) : lessB a b = bytesBefore a.data.toList b.data.toList := by
  rw [Bool.eq_iff_iff, lessB_iff, before_eq, less_iff]
/-- Rising by name. -/
def Rising (L : List Fil) : Prop := L.Pairwise fun a b => lessB a.name b.name = true
theorem lessB_trans {a b c : ByteArray} (h1 : lessB a b = true) (h2 : lessB b c = true) : lessB a c = true := by
  rw [lessB_iff] at *; exact List.lt_trans h1 h2
theorem lessB_irrefl (a : ByteArray) : lessB a a = false := by
  cases h : lessB a a
  · rfl
  · rw [lessB_iff] at h; exact absurd h (List.lt_irrefl _)
theorem lessB_ne {a b : ByteArray} (h : lessB a b = true) : a ≠ b := by rintro rfl; rw [lessB_irrefl] at h; cases h
theorem lessB_asymm {a b : ByteArray} (h : lessB a b = true) : lessB b a = false := by
  cases h2 : lessB b a
  · rfl
  · have := lessB_trans h h2; rw [lessB_irrefl] at this; cases this
theorem lessB_total {a b : ByteArray} (h : a ≠ b) : lessB a b = true ∨ lessB b a = true := by
  rw [lessB_iff, lessB_iff]
  by_cases h1 : a.data.toList < b.data.toList
  · exact .inl h1
  · refine .inr (Classical.byContradiction fun h2 => h (bytes_inj ?_))
    exact List.le_antisymm (List.not_lt.1 h2) (List.not_lt.1 h1)
theorem rising_of_ok {L : List Fil} (h : fsOK L = true) : Rising L := by
  have h2 := (fsOK_iff.1 h).2
  have adj : ∀ i (hi : i + 1 < L.length), lessB L[i].name L[i + 1].name = true := fun i hi => (h2 (i + 1) hi).2 (by omega)
  clear h h2
  induction L with
  | nil => exact List.Pairwise.nil
  | cons f L ih =>
    have ihL := ih (fun i hi => by have := adj (i + 1) (by simpa using hi); simpa using this)
    refine List.Pairwise.cons (fun g hg => ?_) ihL
    cases L with
    | nil => cases hg
    | cons f2 L2 =>
      have h0 : lessB f.name f2.name = true := by have := adj 0 (by simp); simpa using this
      rcases List.mem_cons.1 hg with rfl | hg
      · exact h0
      · exact lessB_trans h0 ((List.pairwise_cons.1 ihL).1 g hg)
/-- A file put into its place. -/
def insF (f : Fil) : List Fil → List Fil
  | [] => [f]
  | g :: r => if lessB f.name g.name then f :: g :: r else g :: insF f r
def putL (L : List Fil) (f : Fil) : List Fil := insF f (L.filter fun g => !decide (g.name = f.name))
def delL (L : List Fil) (s : ByteArray) : List Fil := L.filter fun g => !decide (g.name = s)
theorem same_name (g : Fil) (s : ByteArray) : (ent g).1.sameKey (.string s.data.toList) = decide (g.name = s) := by
  show (g.name.data.toList == s.data.toList) = _
  rw [Bool.eq_iff_iff]
  simp only [beq_iff_eq, decide_eq_true_eq]
  exact ⟨bytes_inj, fun h => by rw [h]⟩
theorem ins_ent (f : Fil) (L : List Fil) : DataW.insert (ent f) (L.map ent) = (insF f L).map ent := by
  induction L with
  | nil => rfl
  | cons g L ih =>
    simp only [List.map_cons, DataW.insert, insF]
    have : (ent f).1.before (ent g).1 = lessB f.name g.name := (lessB_eq _ _).symm
    rw [this]
    split
    · rfl
    · rw [ih]; rfl
theorem filt_ent (L : List Fil) (s : ByteArray) : (L.map ent).filter (fun p => !p.1.sameKey (.string s.data.toList)) = (delL L s).map ent := by
  unfold delL
  rw [List.filter_map]
  congr 1
  apply List.filter_congr
  intro g _
  simp only [Function.comp_apply, same_name]
theorem put_D (L : List Fil) (f : Fil) : (DataW.map (L.map ent)).put (.string f.name.data.toList) (fileD f) = .map ((putL L f).map ent) := by
  unfold DataW.put
  simp only
  rw [filt_ent, show ((Lit.string f.name.data.toList, fileD f)) = ent f from rfl, ins_ent]
  rfl
theorem del_D (L : List Fil) (s : ByteArray) : (DataW.map (L.map ent)).del (.string s.data.toList) = .map ((delL L s).map ent) := by
  unfold DataW.del
  simp only
  rw [filt_ent]
/-- The file of a name. -/
def findF (L : List Fil) (s : ByteArray) : Option Fil := L.find? fun g => decide (g.name = s)
theorem at_D (L : List Fil) (s : ByteArray) (z : DataW Unit) : (DataW.map (L.map ent)).atKey (.string s.data.toList) z = match findF L s with | some g => fileD g | none => z := by
  unfold DataW.atKey findF
  simp only
  rw [List.find?_map]
  have : ((fun p : Lit × DataW Unit => p.1.sameKey (.string s.data.toList)) ∘ ent) = fun g => decide (g.name = s) := by funext g; exact same_name g s
  rw [this]
  cases L.find? fun g => decide (g.name = s) <;> rfl
theorem has_D (L : List Fil) (s : ByteArray) : Maps.has (DataW.map (L.map ent)) (.string s.data.toList) = (findF L s).isSome := by
  unfold Maps.has findF
  simp only
  rw [Bool.eq_iff_iff, List.any_map, List.find?_isSome, List.any_eq_true]
  simp only [Function.comp_apply, same_name]
theorem size_D (L : List Fil) : Maps.size (DataW.map (L.map ent)) = L.length := by simp [Maps.size]
end Go.Proofs.YtebkblmejkkhfaaGreatDoor
