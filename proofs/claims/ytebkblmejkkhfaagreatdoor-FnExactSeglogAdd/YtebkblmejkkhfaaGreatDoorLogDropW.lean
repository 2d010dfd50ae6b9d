/- impl.SeglogSync. SeglogAll: spec and impl answer alike. impl.SeglogDrop. -/
import Derived.Test.YtebkblmejkkhfaaGreatDoorLogAppW
import Derived.Test.YtebkblmejkkhfaaGreatDoorFilRightIW
import Derived.Deep.RegionLaw
import Derived.Deep.AppendLies
import Derived.WalkSmall
import Derived.Test.YtebkblmejkkhfaaGreatDoorQTailW
import Derived.Test.YtebkblmejkkhfaaGreatDoorSgOutW
import Derived.Test.YtebkblmejkkhfaaGreatDoorFilCopyW
namespace Go.Proofs.YtebkblmejkkhfaaGreatDoor
open Go.RowKit
set_option linter.unusedVariables false
set_option linter.unusedSimpArgs false
set_option maxRecDepth 1000000

def syncF (x : Fil) : Fil := ⟨x.name, x.data, (x.data.size : Int)⟩
theorem syncF_fits {x : Fil} (h : x.fits) : (syncF x).fits := by
  obtain ⟨h0, h1, _, _⟩ := h
  have h2 := h1
  unfold maxLen at h2
  exact ⟨h0, h1, by simp [syncF], by simp [syncF]; omega⟩
open Classical in
/-- The files that SeglogSync answers. -/
noncomputable def syncO (L : List Fil) (f m : Int) : List Fil := if logB L f m = true then L.map syncF else L
theorem syncO_len (L : List Fil) (f m : Int) : (syncO L f m).length = L.length := by unfold syncO; split <;> simp
theorem OwnF.off {w : World} {base : Nat} {v : Value} {L : List Fil} (h : OwnF w base v L) {p : Addr} (hp : v.ownBlock ≠ some p.block) (u : Value) : OwnF (w.setCell p u) base v L := ⟨row_off h.1 hp u, h.2⟩

set_option maxHeartbeats 8000000 in
theorem implSync_any (A : Option Addr) (L : List Fil) (c : Nat) (f m : Int) (w : World) (hL : Fls w w.heap.size A L) (hS : Small L) (hfw : (Lit.int .i64 f).wf = true) (hmw : (Lit.int .i64 m).wf = true) (hP : Pow w) (hH : Handle w) (hSg : Seg w) :
    Calls Tryz.prog 49 #[segV (.slice A L.length c) f m] w fun e w' => ∃ (C : Option Addr) (x : Nat), e = .returned (segV (.slice C L.length x) f m) ∧ OwnF w' w.heap.size (.slice C L.length x) (syncO L f m) ∧ Below w.heap.size w w' := by
  have hn := hS.1
  have hf : ∀ f ∈ L, f.fits := fun f h => by obtain ⟨i, hi, rfl⟩ := List.getElem_of_mem h; exact (hL.2 i hi).choose_spec.2.2.2.2.2
  have hb0 : Below w.heap.size w ((w.alloc (.cells #[.slice A L.length c, .int .i64 f, .int .i64 m] 61)).alloc (.cells #[.slice none 0 0, .int .i64 0, .int .i64 0] 61)) := ((Below.refl _ _).alloc (Nat.le_refl _) _).alloc (by simp) _
  have k0 := (Blk.fresh w 61 [.slice A L.length c, .int .i64 f, .int .i64 m]).alloc (.cells #[.slice none 0 0, .int .i64 0, .int .i64 0] 61)
  have k1 := Blk.fresh (w.alloc (.cells #[.slice A L.length c, .int .i64 f, .int .i64 m] 61)) 61 [.slice none 0 0, .int .i64 0, .int .i64 0]
  simp only [List.toArray, World.size_alloc] at k0 k1
  have HR := Lib.hid (implSeglogRight_any A L c f m _ ((hL.below hb0 (Nat.le_refl _)).mono hb0.size) hfw hmw (hP.below hb0) (Handle.below hH hb0) (hSg.below hb0))
  clear hfw hmw
  go_enter Tryz.func49, Tryz.ntmps49
  go_wp2_with (fail)
  refine HR.out.mono ?_
  generalize (w.alloc (.cells #[.slice A L.length c, .int .i64 f, .int .i64 m] 61)).alloc (.cells #[.slice none 0 0, .int .i64 0, .int .i64 0] 61) = w1 at hb0 k0 k1 ⊢
  rintro e w2 ⟨rfl, hb2⟩
  have q0 := k0.below hb2 k0.lt
  have q1 := k1.below hb2 k1.lt
  have hw2 := hb0.trans (hb2.mono hb0.size)
  have c1 := q0.cell (i := 1) rfl
  have c2 := q0.cell (i := 2) rfl
  have h0 := q0.alloc (.cells #[.slice none 0 0, .int .i64 f, .int .i64 m] 61)
  have h1 := q1.alloc (.cells #[.slice none 0 0, .int .i64 f, .int .i64 m] 61)
  have h3 := Blk.fresh w2 61 [.slice none 0 0, .int .i64 f, .int .i64 m]
  have hw3 := hw2.alloc hw2.size (.cells #[.slice none 0 0, .int .i64 f, .int .i64 m] 61)
  have hO2 := q1.lt
  simp only [List.toArray] at h3
  have d0 := h0.cell (i := 0) rfl
  have hz3 : (w2.alloc (.cells #[.slice none 0 0, .int .i64 f, .int .i64 m] 61)).heap.size = w2.heap.size + 1 := by simp
  clear HR k0 k1 hb2 hb0
  rcases Bool.eq_false_or_eq_true (logB L f m) with hBB | hBB
  · have R := Lib.hid (show syncO L f m = L.map syncF by unfold syncO; rw [if_pos hBB])
    have hfl : ∀ f ∈ L.map syncF, f.fits := fun g h => by obtain ⟨f, hm, rfl⟩ := List.mem_map.1 h; exact syncF_fits (hf f hm)
    rw [hBB]
    clear hBB
    go_wp2
    generalize w2.alloc (.cells #[.slice none 0 0, .int .i64 f, .int .i64 m] 61) = w3 at h0 h1 h3 hw3 d0 hz3 ⊢
    generalize hOO : w2.heap.size = O at *
    clear c1 c2 d0 q0 q1 hw2
    go_loopw [6, 18] (fun _ i wr => ∃ (k : Nat) (v : Value), k ≤ L.length ∧ i = .int .i64 k ∧ O + 1 ≤ wr.heap.size ∧ OwnF wr (O + 1) v ((L.map syncF).take k) ∧ Blk wr O 61 [v, .int .i64 f, .int .i64 m] ∧ Blk wr w.heap.size 61 [.slice A L.length c, .int .i64 f, .int .i64 m] ∧ Blk wr (w.heap.size + 1) 61 [.slice none 0 0, .int .i64 0, .int .i64 0] ∧ Below w.heap.size w wr) (fun _ i _ => L.length - (intOf i).toNat)
    case atStart => exact ⟨0, _, by omega, rfl, by omega, ⟨World.ownsRow_nil _ _ _ _, by simp⟩, h3, h0, h1, hw3⟩
    case round =>
      obtain ⟨k, v, hk, rfl, hB, hF, hO, hP, hQ, hb⟩ := hrel
      by_cases hlt : k < L.length
      · obtain ⟨a, rfl, hab, c0, c1, c2, hff⟩ := (hL.below hb (Nat.le_refl _)).at k hlt
        have hlt' : (k : Int) < (L.length : Int) := by omega
        have hfk := hf L[k] (List.getElem_mem hlt)
        have hgk : (L.map syncF)[k]'(by first | exact hlt | (simp; exact hlt)) = ⟨L[k].name, L[k].data, (L[k].data.size : Int)⟩ := by simp [syncF]
        obtain ⟨n0, n1, n2', HE0⟩ : ∃ n0 n1 nz, Hid (L[k] = ⟨n0, n1, nz⟩) := ⟨_, _, _, Lib.hid rfl⟩
        have nvB : v.ownBlock ≠ some wr.heap.size := fun e => by have := (hF.1.lt _ e).2; omega
        rw [HE0.out] at c0 c1 c2
        simp only at c0 c1 c2
        have HE : Hid ((L.map syncF)[k]'(by first | exact hlt | (simp; exact hlt)) = ⟨n0, n1, (n1.size : Int)⟩) := Lib.hid (by rw [hgk, HE0.out])
        have Fr := fun W => freshFile_any (⟨n0, n1, (n1.size : Int)⟩ : Fil) W (by have := (hS.2 k hlt).1; rw [HE0.out] at this; exact this) (by have := (hS.2 k hlt).2; rw [HE0.out] at this; exact this)
        unfold Fil.val at Fr
        simp only at Fr
        clear hgk
        have FB0 := Blk.fresh wr 53 [.string n0, .string n1, .int .i64 n2']
        have hPa := hP.alloc (.cells #[.string n0, .string n1, .int .i64 n2'] 53)
        have hQa := hQ.alloc (.cells #[.string n0, .string n1, .int .i64 n2'] 53)
        have hOa := hO.alloc (.cells #[.string n0, .string n1, .int .i64 n2'] 53)
        have hba := hb.alloc hb.size (.cells #[.string n0, .string n1, .int .i64 n2'] 53)
        have hFa := hF.below (w' := wr.alloc (.cells #[.string n0, .string n1, .int .i64 n2'] 53)) ((Below.refl _ _).alloc (Nat.le_refl _) _) (Nat.le_refl _)
        have hza : wr.heap.size + 1 ≤ (wr.alloc (.cells #[.string n0, .string n1, .int .i64 n2'] 53)).heap.size := by simp
        simp only [List.toArray] at FB0
        have z0 := FB0.cell (i := 0) rfl
        have z1 := FB0.cell (i := 1) rfl
        have z2 := FB0.cell (i := 2) rfl
        have hPlt := hP.lt
        have hOlt := hO.lt
        go_wp2_with (fail)
        generalize wr.alloc (.cells #[.string n0, .string n1, .int .i64 n2'] 53) = wa at FB0 hPa hQa hOa hba hFa hza z0 z1 z2 ⊢
        generalize hBr : wr.heap.size = B at *
        clear hF hO hP hQ hb c0 c1 c2
        have Sy := Lib.hid (fun W => syncedFile_any ⟨n0, n1, n2'⟩ W (by have := hfk; rw [HE0.out] at this; exact this))
        unfold Fil.val at Sy
        simp only at Sy
        go_wp2_with (go_at_call 113; refine (Sy.out _).mono ?_; rintro e w9 ⟨rfl, hb9⟩; have FB9 := FB0.below hb9 FB0.lt; have u0 := FB9.cell (i := 0) rfl; have u1 := FB9.cell (i := 1) rfl; have u2 := FB9.cell (i := 2) rfl; have v0 := FB9.froz 0; have v1 := FB9.froz 1; have v2 := FB9.froz 2)
        have hFB : Blk _ B 53 [.string n0, .string n1, .int .i64 (n1.size : Int)] := ((FB9.put 0 (.string n0)).put 1 (.string n1)).put 2 (.int .i64 (n1.size : Int))
        have hz9 := hb9.size
        have hP3 := (((hPa.below hb9 hPa.lt).far (p := ⟨B, 0, none⟩) (by simp; omega) (.string n0)).far (p := ⟨B, 1, none⟩) (by simp; omega) (.string n1)).far (p := ⟨B, 2, none⟩) (by simp; omega) (.int .i64 (n1.size : Int))
        have hQ3 := (((hQa.below hb9 hQa.lt).far (p := ⟨B, 0, none⟩) (by simp; omega) (.string n0)).far (p := ⟨B, 1, none⟩) (by simp; omega) (.string n1)).far (p := ⟨B, 2, none⟩) (by simp; omega) (.int .i64 (n1.size : Int))
        have hO3 := (((hOa.below hb9 hOa.lt).far (p := ⟨B, 0, none⟩) (by simp; omega) (.string n0)).far (p := ⟨B, 1, none⟩) (by simp; omega) (.string n1)).far (p := ⟨B, 2, none⟩) (by simp; omega) (.int .i64 (n1.size : Int))
        have hF3 := (((hFa.below hb9 (Nat.le_refl _)).off (p := ⟨B, 0, none⟩) nvB (.string n0)).off (p := ⟨B, 1, none⟩) nvB (.string n1)).off (p := ⟨B, 2, none⟩) nvB (.int .i64 (n1.size : Int))
        have hb3 := (((hba.trans (hb9.mono hba.size)).setCell (p := ⟨B, 0, none⟩) (by simp; omega) (.string n0)).setCell (p := ⟨B, 1, none⟩) (by simp; omega) (.string n1)).setCell (p := ⟨B, 2, none⟩) (by simp; omega) (.int .i64 (n1.size : Int))
        have hz3 : B + 1 ≤ (((w9.setCell ⟨B, 0, none⟩ (.string n0)).setCell ⟨B, 1, none⟩ (.string n1)).setCell ⟨B, 2, none⟩ (.int .i64 (n1.size : Int))).heap.size := by simp; omega
        generalize ((w9.setCell ⟨B, 0, none⟩ (.string n0)).setCell ⟨B, 1, none⟩ (.string n1)).setCell ⟨B, 2, none⟩ (.int .i64 (n1.size : Int)) = w3 at hFB hP3 hQ3 hO3 hF3 hb3 hz3 ⊢
        clear FB9 u0 u1 u2 v0 v1 v2
        obtain ⟨i0, hi, hz0, hz1, hz2⟩ := info_parts infoFile
        have nvo : v.ownBlock ≠ some (O) := fun e => by have := (hF3.1.lt _ e).1; omega
        have nvhP3 : v.ownBlock ≠ some (w.heap.size) := fun e => by have := (hF3.1.lt _ e).1; omega
        have nvhQ3 : v.ownBlock ≠ some (w.heap.size + 1) := fun e => by have := (hF3.1.lt _ e).1; omega
        have y0 := hO3.drew.cell (i := 0) rfl
        have x0 := hFB.drew.cell (i := 0) rfl
        have x1 := hFB.drew.cell (i := 1) rfl
        have x2 := hFB.drew.cell (i := 2) rfl
        have hFd := hF3.drew
        have hOd := hO3.drew
        have HLT : Hid (((L.map syncF).take k).length = k) := Lib.hid (by simp; omega)
        go_region_law
          (first
            | (go_simp; go_at_call 97; refine (Fr _).mono ?_; rintro e w4 ⟨rfl, hb4⟩; have y4 := kept_cell hb4 y0; have y4a := kept_cell (show Below w4.heap.size w4 (w4.alloc (.cells #[.string n0, .string n1, .int .i64 (n1.size : Int)] 53)) from (Below.refl _ _).alloc (Nat.le_refl _) _) y4)
            | (refine step_append_lies _ (by rfl) _ _ _ (by rfl) (O + 1) 53 i0 _ 3 40 Tryz.underlying23 hi hz0 hz1 hz2 rfl (by omega) v ((L.map syncF).take k).length _ (by rfl) (World.ownsRow.alloc (row_below hFd.1 hb4 (Nat.le_refl _)) _)
                          ⟨w4.heap.size, 0, none⟩ 1 1 [.string n0, .string n1, .int .i64 (n1.size : Int)] (by rfl) (by rfl) (World.news_of_block (cs := #[.string n0, .string n1, .int .i64 (n1.size : Int)]) (t := 53) (fr := (0, 0)) (heap_alloc_new w4 _)) (by simp [Value.oneCell'])
                          (by omega) (by have h := HLT.out; unfold maxLen; omega) (by have h := HLT.out; omega) (by have h := hb4.size; simp only [World.size_drew, World.size_alloc] at h ⊢; omega) (w4.heap.size + 1) (by simp) ?_; intro gg cap' w5 hown5 hgrow5 hat5 hlt5; have q4 : Below w4.heap.size w4 (w4.alloc (.cells #[.string n0, .string n1, .int .i64 (n1.size : Int)] 53)) := (Below.refl _ _).alloc (Nat.le_refl _) _; have hO5 := ((hOd.below hb4 hOd.lt).below q4 (hOd.below hb4 hOd.lt).lt).grown hgrow5 (Ne.symm nvo); have y5 := hO5.cell (i := 0) rfl; have f5 := hO5.froz 0))
        all_goals
          have q4 : Below w4.heap.size w4 (w4.alloc (.cells #[.string n0, .string n1, .int .i64 (n1.size : Int)] 53)) := (Below.refl _ _).alloc (Nat.le_refl _) _
          have q5 := hb4.trans (q4.mono hb4.size)
          rw [HLT.out] at hown5
          have hP36 := ((hP3.drew.below q5 hP3.drew.lt).grown hgrow5 (Ne.symm nvhP3)).far (p := ⟨O, 0, none⟩) (by simp; try omega) (.slice (some ⟨gg, 0, none⟩) (k + 1) cap')
          have hQ36 := ((hQ3.drew.below q5 hQ3.drew.lt).grown hgrow5 (Ne.symm nvhQ3)).far (p := ⟨O, 0, none⟩) (by simp; try omega) (.slice (some ⟨gg, 0, none⟩) (k + 1) cap')
          have hw6 := (((below_drew hb3).trans (q5.mono (by exact hb3.size))).grown hgrow5 (by have h2 := hb4.size; have h3 := hb3.size; simp at h2 ⊢; omega) (fun j e => by have := (hF3.1.lt _ e).1; omega)).setCell (p := ⟨O, 0, none⟩) (by simp; try omega) (.slice (some ⟨gg, 0, none⟩) (k + 1) cap')
          have hO6 := hO5.put 0 (.slice (some ⟨gg, 0, none⟩) (k + 1) cap')
          have hsz6 := hgrow5.size
          have hs4 := hb4.size
          simp only [World.size_alloc, World.size_drew] at hsz6 hs4
          have hF6 : OwnF (w5.setCell ⟨O, 0, none⟩ (.slice (some ⟨gg, 0, none⟩) (k + 1) cap')) (O + 1) (.slice (some ⟨gg, 0, none⟩) (k + 1) cap') ((L.map syncF).take (k + 1)) := by
            refine ⟨row_far (p := ⟨O, 0, none⟩) ?_ (by simp; try omega) _, fun f h => hfl f (List.mem_of_mem_take h)⟩
            have e1 : ((L.map syncF).take (k + 1)).length = k + 1 := by simp; omega
            have e2 : flat ((L.map syncF).take (k + 1)) = flat ((L.map syncF).take k) ++ [.string n0, .string n1, .int .i64 (n1.size : Int)] := by
              rw [List.take_succ_eq_append_getElem (by first | omega | (simp; omega)), flat_append, HE.out]; rfl
            rw [e1, e2]
            exact hown5
          go_wp2
          exact ⟨⟨k + 1, _, by omega, by go_num, by simp; omega, hF6, hO6, hP36, hQ36, hw6⟩, by simp [intOf]; omega⟩
      · obtain rfl : k = L.length := by omega
        rw [List.take_of_length_le (by simp)] at hF
        obtain ⟨C, x, rfl, _⟩ := hF.slice
        have o0 := hO.cell (i := 0) rfl
        have o1 := hO.cell (i := 1) rfl
        have o2 := hO.cell (i := 2) rfl
        have q0 := hQ.cell (i := 0) rfl
        have q1 := hQ.cell (i := 1) rfl
        have q2 := hQ.cell (i := 2) rfl
        have f0 := hQ.froz 0
        have f1 := hQ.froz 1
        have f2 := hQ.froz 2
        go_wp2
        have r1 := ((hQ.put 0 (.slice C (L.map syncF).length x)).put 1 (.int .i64 f)).put 2 (.int .i64 m)
        have r2 := ((hF.far (p := ⟨w.heap.size + 1, 0, none⟩) (by simp; omega) (.slice C (L.map syncF).length x)).far (p := ⟨w.heap.size + 1, 1, none⟩) (by simp; omega) (.int .i64 f)).far (p := ⟨w.heap.size + 1, 2, none⟩) (by simp; omega) (.int .i64 m)
        have r3 := ((hb.setCell (p := ⟨w.heap.size + 1, 0, none⟩) (by simp) (.slice C (L.map syncF).length x)).setCell (p := ⟨w.heap.size + 1, 1, none⟩) (by simp) (.int .i64 f)).setCell (p := ⟨w.heap.size + 1, 2, none⟩) (by simp) (.int .i64 m)
        try simp only [List.length_map] at r1 r2 r3 ⊢
        generalize ((wr.setCell ⟨w.heap.size + 1, 0, none⟩ (.slice C L.length x)).setCell ⟨w.heap.size + 1, 1, none⟩ (.int .i64 f)).setCell ⟨w.heap.size + 1, 2, none⟩ (.int .i64 m) = w9 at r1 r2 r3 ⊢
        have y0 := r1.cell (i := 0) rfl
        have y1 := r1.cell (i := 1) rfl
        have y2 := r1.cell (i := 2) rfl
        exact bodyPost_ret (v := segV (.slice C L.length x) f m) (by simp [results, Tryz.results49, go_sem, y0, y1, y2]) rfl ⟨C, x, rfl, by rw [R.out]; exact r2.base (by omega), r3⟩
  · have R := Lib.hid (show syncO L f m = L by unfold syncO; rw [if_neg (by simp [hBB])])
    have hfl := hf
    rw [hBB]
    clear hBB
    go_wp2
    generalize w2.alloc (.cells #[.slice none 0 0, .int .i64 f, .int .i64 m] 61) = w3 at h0 h1 h3 hw3 d0 hz3 ⊢
    generalize hOO : w2.heap.size = O at *
    clear c1 c2 d0 q0 q1 hw2
    go_loopw [6, 18] (fun _ i wr => ∃ (k : Nat) (v : Value), k ≤ L.length ∧ i = .int .i64 k ∧ O + 1 ≤ wr.heap.size ∧ OwnF wr (O + 1) v (L.take k) ∧ Blk wr O 61 [v, .int .i64 f, .int .i64 m] ∧ Blk wr w.heap.size 61 [.slice A L.length c, .int .i64 f, .int .i64 m] ∧ Blk wr (w.heap.size + 1) 61 [.slice none 0 0, .int .i64 0, .int .i64 0] ∧ Below w.heap.size w wr) (fun _ i _ => L.length - (intOf i).toNat)
    case atStart => exact ⟨0, _, by omega, rfl, by omega, ⟨World.ownsRow_nil _ _ _ _, by simp⟩, h3, h0, h1, hw3⟩
    case round =>
      obtain ⟨k, v, hk, rfl, hB, hF, hO, hP, hQ, hb⟩ := hrel
      by_cases hlt : k < L.length
      · obtain ⟨a, rfl, hab, c0, c1, c2, hff⟩ := (hL.below hb (Nat.le_refl _)).at k hlt
        have hlt' : (k : Int) < (L.length : Int) := by omega
        have hfk := hf L[k] (List.getElem_mem hlt)
        have hgk : L[k] = ⟨L[k].name, L[k].data, L[k].sync⟩ := rfl
        obtain ⟨n0, n1, n2', HE0⟩ : ∃ n0 n1 nz, Hid (L[k] = ⟨n0, n1, nz⟩) := ⟨_, _, _, Lib.hid rfl⟩
        have nvB : v.ownBlock ≠ some wr.heap.size := fun e => by have := (hF.1.lt _ e).2; omega
        rw [HE0.out] at c0 c1 c2
        simp only at c0 c1 c2
        have HE : Hid (L[k]'(by first | exact hlt | (simp; exact hlt)) = ⟨n0, n1, n2'⟩) := Lib.hid (by rw [hgk, HE0.out])
        have Fr := fun W => freshFile_any (⟨n0, n1, n2'⟩ : Fil) W (by have := (hS.2 k hlt).1; rw [HE0.out] at this; exact this) (by have := (hS.2 k hlt).2; rw [HE0.out] at this; exact this)
        unfold Fil.val at Fr
        simp only at Fr
        clear hgk
        have FB0 := Blk.fresh wr 53 [.string n0, .string n1, .int .i64 n2']
        have hPa := hP.alloc (.cells #[.string n0, .string n1, .int .i64 n2'] 53)
        have hQa := hQ.alloc (.cells #[.string n0, .string n1, .int .i64 n2'] 53)
        have hOa := hO.alloc (.cells #[.string n0, .string n1, .int .i64 n2'] 53)
        have hba := hb.alloc hb.size (.cells #[.string n0, .string n1, .int .i64 n2'] 53)
        have hFa := hF.below (w' := wr.alloc (.cells #[.string n0, .string n1, .int .i64 n2'] 53)) ((Below.refl _ _).alloc (Nat.le_refl _) _) (Nat.le_refl _)
        have hza : wr.heap.size + 1 ≤ (wr.alloc (.cells #[.string n0, .string n1, .int .i64 n2'] 53)).heap.size := by simp
        simp only [List.toArray] at FB0
        have z0 := FB0.cell (i := 0) rfl
        have z1 := FB0.cell (i := 1) rfl
        have z2 := FB0.cell (i := 2) rfl
        have hPlt := hP.lt
        have hOlt := hO.lt
        go_wp2_with (fail)
        generalize wr.alloc (.cells #[.string n0, .string n1, .int .i64 n2'] 53) = wa at FB0 hPa hQa hOa hba hFa hza z0 z1 z2 ⊢
        generalize hBr : wr.heap.size = B at *
        clear hF hO hP hQ hb c0 c1 c2
        have hFB := FB0
        have hP3 := hPa
        have hQ3 := hQa
        have hO3 := hOa
        have hF3 := hFa
        have hb3 := hba
        have hz3 := hza
        go_wp2
        generalize wa = w3 at hFB hP3 hQ3 hO3 hF3 hb3 hz3 ⊢
        obtain ⟨i0, hi, hz0, hz1, hz2⟩ := info_parts infoFile
        have nvo : v.ownBlock ≠ some (O) := fun e => by have := (hF3.1.lt _ e).1; omega
        have nvhP3 : v.ownBlock ≠ some (w.heap.size) := fun e => by have := (hF3.1.lt _ e).1; omega
        have nvhQ3 : v.ownBlock ≠ some (w.heap.size + 1) := fun e => by have := (hF3.1.lt _ e).1; omega
        have y0 := hO3.drew.cell (i := 0) rfl
        have x0 := hFB.drew.cell (i := 0) rfl
        have x1 := hFB.drew.cell (i := 1) rfl
        have x2 := hFB.drew.cell (i := 2) rfl
        have hFd := hF3.drew
        have hOd := hO3.drew
        have HLT : Hid ((L.take k).length = k) := Lib.hid (by simp; omega)
        go_region_law
          (first
            | (go_simp; go_at_call 97; refine (Fr _).mono ?_; rintro e w4 ⟨rfl, hb4⟩; have y4 := kept_cell hb4 y0; have y4a := kept_cell (show Below w4.heap.size w4 (w4.alloc (.cells #[.string n0, .string n1, .int .i64 n2'] 53)) from (Below.refl _ _).alloc (Nat.le_refl _) _) y4)
            | (refine step_append_lies _ (by rfl) _ _ _ (by rfl) (O + 1) 53 i0 _ 3 40 Tryz.underlying23 hi hz0 hz1 hz2 rfl (by omega) v (L.take k).length _ (by rfl) (World.ownsRow.alloc (row_below hFd.1 hb4 (Nat.le_refl _)) _)
                          ⟨w4.heap.size, 0, none⟩ 1 1 [.string n0, .string n1, .int .i64 n2'] (by rfl) (by rfl) (World.news_of_block (cs := #[.string n0, .string n1, .int .i64 n2']) (t := 53) (fr := (0, 0)) (heap_alloc_new w4 _)) (by simp [Value.oneCell'])
                          (by omega) (by have h := HLT.out; unfold maxLen; omega) (by have h := HLT.out; omega) (by have h := hb4.size; simp only [World.size_drew, World.size_alloc] at h ⊢; omega) (w4.heap.size + 1) (by simp) ?_; intro gg cap' w5 hown5 hgrow5 hat5 hlt5; have q4 : Below w4.heap.size w4 (w4.alloc (.cells #[.string n0, .string n1, .int .i64 n2'] 53)) := (Below.refl _ _).alloc (Nat.le_refl _) _; have hO5 := ((hOd.below hb4 hOd.lt).below q4 (hOd.below hb4 hOd.lt).lt).grown hgrow5 (Ne.symm nvo); have y5 := hO5.cell (i := 0) rfl; have f5 := hO5.froz 0))
        all_goals
          have q4 : Below w4.heap.size w4 (w4.alloc (.cells #[.string n0, .string n1, .int .i64 n2'] 53)) := (Below.refl _ _).alloc (Nat.le_refl _) _
          have q5 := hb4.trans (q4.mono hb4.size)
          rw [HLT.out] at hown5
          have hP36 := ((hP3.drew.below q5 hP3.drew.lt).grown hgrow5 (Ne.symm nvhP3)).far (p := ⟨O, 0, none⟩) (by simp; try omega) (.slice (some ⟨gg, 0, none⟩) (k + 1) cap')
          have hQ36 := ((hQ3.drew.below q5 hQ3.drew.lt).grown hgrow5 (Ne.symm nvhQ3)).far (p := ⟨O, 0, none⟩) (by simp; try omega) (.slice (some ⟨gg, 0, none⟩) (k + 1) cap')
          have hw6 := (((below_drew hb3).trans (q5.mono (by exact hb3.size))).grown hgrow5 (by have h2 := hb4.size; have h3 := hb3.size; simp at h2 ⊢; omega) (fun j e => by have := (hF3.1.lt _ e).1; omega)).setCell (p := ⟨O, 0, none⟩) (by simp; try omega) (.slice (some ⟨gg, 0, none⟩) (k + 1) cap')
          have hO6 := hO5.put 0 (.slice (some ⟨gg, 0, none⟩) (k + 1) cap')
          have hsz6 := hgrow5.size
          have hs4 := hb4.size
          simp only [World.size_alloc, World.size_drew] at hsz6 hs4
          have hF6 : OwnF (w5.setCell ⟨O, 0, none⟩ (.slice (some ⟨gg, 0, none⟩) (k + 1) cap')) (O + 1) (.slice (some ⟨gg, 0, none⟩) (k + 1) cap') (L.take (k + 1)) := by
            refine ⟨row_far (p := ⟨O, 0, none⟩) ?_ (by simp; try omega) _, fun f h => hfl f (List.mem_of_mem_take h)⟩
            have e1 : (L.take (k + 1)).length = k + 1 := by simp; omega
            have e2 : flat (L.take (k + 1)) = flat (L.take k) ++ [.string n0, .string n1, .int .i64 n2'] := by
              rw [List.take_succ_eq_append_getElem (by first | omega | (simp; omega)), flat_append, HE.out]; rfl
            rw [e1, e2]
            exact hown5
          go_wp2
          exact ⟨⟨k + 1, _, by omega, by go_num, by simp; omega, hF6, hO6, hP36, hQ36, hw6⟩, by simp [intOf]; omega⟩
      · obtain rfl : k = L.length := by omega
        rw [List.take_of_length_le (by simp)] at hF
        obtain ⟨C, x, rfl, _⟩ := hF.slice
        have o0 := hO.cell (i := 0) rfl
        have o1 := hO.cell (i := 1) rfl
        have o2 := hO.cell (i := 2) rfl
        have q0 := hQ.cell (i := 0) rfl
        have q1 := hQ.cell (i := 1) rfl
        have q2 := hQ.cell (i := 2) rfl
        have f0 := hQ.froz 0
        have f1 := hQ.froz 1
        have f2 := hQ.froz 2
        go_wp2
        have r1 := ((hQ.put 0 (.slice C L.length x)).put 1 (.int .i64 f)).put 2 (.int .i64 m)
        have r2 := ((hF.far (p := ⟨w.heap.size + 1, 0, none⟩) (by simp; omega) (.slice C L.length x)).far (p := ⟨w.heap.size + 1, 1, none⟩) (by simp; omega) (.int .i64 f)).far (p := ⟨w.heap.size + 1, 2, none⟩) (by simp; omega) (.int .i64 m)
        have r3 := ((hb.setCell (p := ⟨w.heap.size + 1, 0, none⟩) (by simp) (.slice C L.length x)).setCell (p := ⟨w.heap.size + 1, 1, none⟩) (by simp) (.int .i64 f)).setCell (p := ⟨w.heap.size + 1, 2, none⟩) (by simp) (.int .i64 m)
        try simp only [List.length_map] at r1 r2 r3 ⊢
        generalize ((wr.setCell ⟨w.heap.size + 1, 0, none⟩ (.slice C L.length x)).setCell ⟨w.heap.size + 1, 1, none⟩ (.int .i64 f)).setCell ⟨w.heap.size + 1, 2, none⟩ (.int .i64 m) = w9 at r1 r2 r3 ⊢
        have y0 := r1.cell (i := 0) rfl
        have y1 := r1.cell (i := 1) rfl
        have y2 := r1.cell (i := 2) rfl
        exact bodyPost_ret (v := segV (.slice C L.length x) f m) (by simp [results, Tryz.results49, go_sem, y0, y1, y2]) rfl ⟨C, x, rfl, by rw [R.out]; exact r2.base (by omega), r3⟩
end Go.Proofs.YtebkblmejkkhfaaGreatDoor

namespace Go.Proofs.YtebkblmejkkhfaaGreatDoor
open Go.RowKit
set_option linter.unusedVariables false
set_option linter.unusedSimpArgs false
set_option maxRecDepth 1000000

theorem logB_count {L : List Fil} {f m : Int} (h : logB L f m = true) : (allT L).length ≤ 60 := by
  have h1 := logB_iff.1 h
  obtain ⟨g1, g2, g3, g4, g5, g6⟩ := numOK_iff.1 h1.2.1
  have := ((logB_spec h1.1 h1.2.1).1 h).2.2
  omega
open Classical in
/-- The texts that SeglogAll answers. -/
noncomputable def allO (L : List Fil) (f m : Int) : List ByteArray := if logB L f m = true then allT L else []
theorem allO_len (L : List Fil) (f m : Int) : (allO L f m).length ≤ 60 := by
  unfold allO
  split
  · exact logB_count (by assumption)
  · simp

set_option maxHeartbeats 4000000 in
theorem specAll_any (A : Option Addr) (L : List Fil) (c : Nat) (f m : Int) (w : World) (hL : Fls w w.heap.size A L) (hf : (Lit.int .i64 f).wf = true) (hm : (Lit.int .i64 m).wf = true) :
    Calls Tryz.prog 51 #[segV (.slice A L.length c) f m] w fun e w' => ∃ (B : Option Addr) (d : Nat), e = .returned (.slice B (allO L f m).length d) ∧ OwnS w' w.heap.size (.slice B (allO L f m).length d) (allO L f m) ∧ Below w.heap.size w w' := by
  have hb0 : Below w.heap.size w (w.alloc (.cells #[.slice A L.length c, .int .i64 f, .int .i64 m] 61)) := (Below.refl _ _).alloc (Nat.le_refl _) _
  have HR := Lib.hid (specLogR_any A L c f m _ ((hL.below hb0 (Nat.le_refl _)).mono hb0.size) hf hm)
  clear hf hm
  go_enter Tryz.func51, Tryz.ntmps51
  go_wp2_with (fail)
  refine HR.out.mono ?_
  generalize w.alloc (.cells #[.slice A L.length c, .int .i64 f, .int .i64 m] 61) = w1 at hb0 ⊢
  rintro e w2 ⟨v, rfl, hown, hb2⟩
  clear HR
  have hw2 := hb0.trans (hb2.mono hb0.size)
  have hO2 : OwnS (w2.alloc (.cells #[] 9)) w2.heap.size (.slice (some ⟨w2.heap.size, 0, none⟩) 0 0) [] := by
    have := World.ownsRow_lit (e := 9) (size := 1) w2 (base := w2.heap.size) #[] 0 (Nat.le_refl _) (by simp) (by simp)
    simpa [OwnS] using this
  have hw3 := hw2.alloc hw2.size (.cells #[] 9)
  have hz2 := hw2.size
  rcases Bool.eq_false_or_eq_true (logB L f m) with hB | hB
  · have R := Lib.hid (show allO L f m = allT L by unfold allO; rw [if_pos hB])
    have hO := hown hB
    obtain ⟨Av, cv, rfl⟩ := ownS_some hO
    have hO3 : OwnS (w2.alloc (.cells #[] 9)) _ _ _ := World.ownsRow.alloc hO (.cells #[] 9)
    have hcnt := logB_count hB
    rw [hB]
    clear hB hown
    go_wp2_with (at_builtin; refine wpList_append_S rfl _ _ rfl w2.heap.size _ [] rfl hO2 _ _ (allT L) rfl hO3 (by simp; omega) (by simp) ?_; intro v4 w4 hO4 hg4; rw [List.nil_append] at hO4; obtain ⟨A4, c4, rfl⟩ := ownS_some hO4)
    go_ret
    have hw4 := hw3.grown hg4 hw3.size (fun j e => by have := (hO2.lt j e).1; omega)
    rw [R.out]
    exact ⟨A4, c4, rfl, ownS_base hO4 hz2, hw4⟩
  · have R := Lib.hid (show allO L f m = [] by unfold allO; rw [if_neg (by simp [hB])])
    rw [hB]
    clear hB hown
    go_wp2
    go_ret
    rw [R.out]
    exact ⟨_, _, rfl, ownS_base hO2 hz2, hw3⟩
set_option maxHeartbeats 4000000 in
theorem implAll_any (A : Option Addr) (L : List Fil) (c : Nat) (f m : Int) (w : World) (hL : Fls w w.heap.size A L) (hf : (Lit.int .i64 f).wf = true) (hm : (Lit.int .i64 m).wf = true) (hP : Pow w) (hH : Handle w) (hS : Seg w) :
    Calls Tryz.prog 52 #[segV (.slice A L.length c) f m] w fun e w' => ∃ (B : Option Addr) (d : Nat), e = .returned (.slice B (allO L f m).length d) ∧ OwnS w' w.heap.size (.slice B (allO L f m).length d) (allO L f m) ∧ Below w.heap.size w w' := by
  have hb0 : Below w.heap.size w (w.alloc (.cells #[.slice A L.length c, .int .i64 f, .int .i64 m] 61)) := (Below.refl _ _).alloc (Nat.le_refl _) _
  have HR := Lib.hid (logTexts_any A L c f m _ ((hL.below hb0 (Nat.le_refl _)).mono hb0.size) hf hm (hP.below hb0) (Handle.below hH hb0) (hS.below hb0))
  clear hf hm
  go_enter Tryz.func52, Tryz.ntmps52
  go_wp2_with (fail)
  refine HR.out.mono ?_
  generalize w.alloc (.cells #[.slice A L.length c, .int .i64 f, .int .i64 m] 61) = w1 at hb0 ⊢
  rintro e w2 ⟨v, rfl, hown, hnil, hb2⟩
  clear HR
  have hw2 := hb0.trans (hb2.mono hb0.size)
  rcases Bool.eq_false_or_eq_true (logB L f m) with hB | hB
  · have R := Lib.hid (show allO L f m = allT L by unfold allO; rw [if_pos hB])
    have hO := hown hB
    obtain ⟨Av, cv, rfl⟩ := ownS_some hO
    rw [hB]
    clear hB hown hnil
    go_wp2
    go_ret
    rw [R.out]
    exact ⟨Av, cv, rfl, ownS_base hO hb0.size, hw2⟩
  · have R := Lib.hid (show allO L f m = [] by unfold allO; rw [if_neg (by simp [hB])])
    obtain rfl := hnil hB
    rw [hB]
    clear hB hown hnil
    go_wp2
    go_ret
    rw [R.out]
    exact ⟨none, 0, rfl, World.ownsRow_nil _ _ _ _, hw2⟩
theorem bothSeglogAll (L : List Fil) (f m : Int) (hf : ∀ f ∈ L, f.fits) (hS : Small L) (hfw : (Lit.int .i64 f).wf = true) (hmw : (Lit.int .i64 m).wf = true) :
    ∃ (N : List ByteArray), N.length ≤ 60 ∧ (∀ (A : Option Addr) (c : Nat) (W : World), Fls W W.heap.size A L → L.length ≤ c → c ≤ maxLen → Calls Tryz.prog 51 #[.agg #[.slice A L.length c, .int .i64 f, .int .i64 m]] W fun e w' => ∃ (B : Option Addr) (d : Nat), e = .returned (.slice B N.length d) ∧ OwnS w' W.heap.size (.slice B N.length d) N ∧ Below W.heap.size W w') ∧
      (∀ (A : Option Addr) (c : Nat) (W : World), Fls W W.heap.size A L → L.length ≤ c → c ≤ maxLen → Pow W → Handle W → Seg W → Calls Tryz.prog 52 #[.agg #[.slice A L.length c, .int .i64 f, .int .i64 m]] W fun e w' => ∃ (B : Option Addr) (d : Nat), e = .returned (.slice B N.length d) ∧ OwnS w' W.heap.size (.slice B N.length d) N ∧ Below W.heap.size W w') :=
  ⟨allO L f m, allO_len L f m, fun A c W h _ _ => specAll_any A L c f m W h hfw hmw, fun A c W h _ _ hP hH hS => implAll_any A L c f m W h hfw hmw hP hH hS⟩
end Go.Proofs.YtebkblmejkkhfaaGreatDoor

namespace Go.Proofs.YtebkblmejkkhfaaGreatDoor
open Go.RowKit
set_option linter.unusedVariables false
set_option linter.unusedSimpArgs false
set_option maxRecDepth 1000000

/-- How many segments are dropped. -/
def dropN (f m b : Int) : Nat := if b ≤ f then 0 else (min (b - f) m / 4).toNat
theorem logB_nums {L : List Fil} {f m : Int} (h : logB L f m = true) : 0 ≤ f ∧ f ≤ 900000 ∧ 0 ≤ m ∧ m ≤ 60 ∧ f + m ≤ 900000 ∧ (L.length : Int) = m / 4 + 1 ∧ L.length ≤ 12 := by
  have h1 := logB_iff.1 h
  obtain ⟨g1, g2, g3, g4, g5, g6⟩ := numOK_iff.1 h1.2.1
  exact ⟨g1, g2, g4, g5, g6, h1.2.2.1, (fsOK_iff.1 h1.1).1⟩
theorem dropN_lt {f m b : Int} (h0 : 0 ≤ m) : ((dropN f m b : Nat) : Int) ≤ m / 4 := by
  unfold dropN
  split
  · simp; omega
  · omega
theorem droppable_any (v : Value) (f m b : Int) (w : World) (h1 : 0 ≤ f) (h2 : f ≤ 900000) (h3 : 0 ≤ m) (h4 : m ≤ 60) (hb : (Lit.int .i64 b).wf = true) :
    Calls Tryz.prog 118 #[segV v f m, .int .i64 b] w fun e w' => e = .returned (.int .i64 (dropN f m b : Int)) ∧ Below w.heap.size w w' := by
  have b64 := wf_i64 hb
  have hb0 : Below w.heap.size w (w.alloc (.cells #[v, .int .i64 f, .int .i64 m] 61)) := (Below.refl _ _).alloc (Nat.le_refl _) _
  by_cases h : b ≤ f
  · go_enter Tryz.func118, Tryz.ntmps118
    go_wp2
    go_ret
    exact ⟨retI (by unfold dropN; rw [if_pos h]; rfl), hb0⟩
  · have hmin : 0 ≤ min (b - f) m := by omega
    go_enter Tryz.func118, Tryz.ntmps118
    go_wp2
    go_ret
    exact ⟨retI (by unfold dropN; rw [if_neg (by omega)]; omega), hb0⟩
open Classical in
/-- The files, the first number, the count and the code that SeglogDrop answers. -/
noncomputable def dropO (L : List Fil) (f m b : Int) : List Fil := if logB L f m = true then L.drop (dropN f m b) else []
open Classical in
noncomputable def dropI (L : List Fil) (f m b x : Int) : Int := if logB L f m = true then x else 0
open Classical in
noncomputable def dropC (L : List Fil) (f m : Int) : Int := if logB L f m = true then 0 else 1

set_option maxHeartbeats 8000000 in
theorem implDrop_any (A : Option Addr) (L : List Fil) (c : Nat) (f m b : Int) (w : World) (hL : Fls w w.heap.size A L) (hS : Small L) (hc : L.length ≤ c) (hcm : c ≤ maxLen) (hfw : (Lit.int .i64 f).wf = true) (hmw : (Lit.int .i64 m).wf = true) (hbw : (Lit.int .i64 b).wf = true) (hP : Pow w) (hH : Handle w) (hSg : Seg w) :
    Calls Tryz.prog 57 #[segV (.slice A L.length c) f m, .int .i64 b] w fun e w' => ∃ (C : Option Addr) (x : Nat), e = .returned (slOut (.slice C (dropO L f m b).length x) (dropI L f m b (f + (dropN f m b : Int) * 4)) (dropI L f m b (m - (dropN f m b : Int) * 4)) (.slice none 0 0) (dropC L f m)) ∧ OwnF w' w.heap.size (.slice C (dropO L f m b).length x) (dropO L f m b) ∧ Below w.heap.size w w' := by
  have hn := hS.1
  unfold maxLen at hcm
  have hf : ∀ f ∈ L, f.fits := fun f h => by obtain ⟨i, hi, rfl⟩ := List.getElem_of_mem h; exact (hL.2 i hi).choose_spec.2.2.2.2.2
  have hb0 : Below w.heap.size w ((w.alloc (.cells #[.slice A L.length c, .int .i64 f, .int .i64 m] 61)).alloc (.cells #[.slice none 0 0, .int .i64 0, .int .i64 0, .slice none 0 0, .int .i64 0] 63)) := ((Below.refl _ _).alloc (Nat.le_refl _) _).alloc (by simp) _
  have k0 := (Blk.fresh w 61 [.slice A L.length c, .int .i64 f, .int .i64 m]).alloc (.cells #[.slice none 0 0, .int .i64 0, .int .i64 0, .slice none 0 0, .int .i64 0] 63)
  have k1 := Blk.fresh (w.alloc (.cells #[.slice A L.length c, .int .i64 f, .int .i64 m] 61)) 63 [.slice none 0 0, .int .i64 0, .int .i64 0, .slice none 0 0, .int .i64 0]
  simp only [List.toArray, World.size_alloc] at k0 k1
  have HR := Lib.hid (implSeglogRight_any A L c f m _ ((hL.below hb0 (Nat.le_refl _)).mono hb0.size) hfw hmw (hP.below hb0) (Handle.below hH hb0) (hSg.below hb0))
  clear hfw hmw
  go_enter Tryz.func57, Tryz.ntmps57
  go_wp2_with (fail)
  refine HR.out.mono ?_
  clear HR
  generalize (w.alloc (.cells #[.slice A L.length c, .int .i64 f, .int .i64 m] 61)).alloc (.cells #[.slice none 0 0, .int .i64 0, .int .i64 0, .slice none 0 0, .int .i64 0] 63) = w1 at hb0 k0 k1 ⊢
  rintro e w2 ⟨rfl, hb2⟩
  have q0 := k0.below hb2 k0.lt
  have q1 := k1.below hb2 k1.lt
  have hw2 := hb0.trans (hb2.mono hb0.size)
  have c0 := q0.cell (i := 0) rfl
  have c1 := q0.cell (i := 1) rfl
  have c2 := q0.cell (i := 2) rfl
  clear k0 k1 hb0 hb2
  rcases Bool.eq_false_or_eq_true (logB L f m) with hBB | hBB
  · obtain ⟨g1, g2, g3, g4, g5, g6, g7⟩ := logB_nums hBB
    have hql := dropN_lt (f := f) (b := b) g3
    obtain ⟨q, HQ⟩ : ∃ q, Hid (dropN f m b = q) := ⟨_, Lib.hid rfl⟩
    have R1 := Lib.hid (show dropO L f m b = L.drop (dropN f m b) by unfold dropO; rw [if_pos hBB])
    have R2 : Hid (∀ x, dropI L f m b x = x) := Lib.hid (fun x => by unfold dropI; rw [if_pos hBB])
    have R3 := Lib.hid (show dropC L f m = 0 by unfold dropC; rw [if_pos hBB])
    rw [HQ.out] at hql R1
    have HD := Lib.hid (fun W => droppable_any (.slice A L.length c) f m b W g1 g2 g3 g4 hbw)
    rw [HQ.out] at HD
    have hqL : q < L.length := by omega
    have HG6 := Lib.hid g6
    rw [hBB]
    clear hBB g6
    go_wp2_with (fail)
    refine (HD.out _).mono ?_
    rintro e w3 ⟨rfl, hb3⟩
    have p0 := q0.below hb3 q0.lt
    have p1 := q1.below hb3 q1.lt
    have hw3 := hw2.trans (hb3.mono hw2.size)
    clear c0 c1 c2 q0 q1 hw2 hb3
    have c0 := p0.cell (i := 0) rfl
    have c1 := p0.cell (i := 1) rfl
    have c2 := p0.cell (i := 2) rfl
    have h0 := p0.alloc (.cells #[.slice none 0 0, .int .i64 (f + (q : Int) * 4), .int .i64 (m - (q : Int) * 4)] 61)
    have h1 := p1.alloc (.cells #[.slice none 0 0, .int .i64 (f + (q : Int) * 4), .int .i64 (m - (q : Int) * 4)] 61)
    have h3 := Blk.fresh w3 61 [.slice none 0 0, .int .i64 (f + (q : Int) * 4), .int .i64 (m - (q : Int) * 4)]
    have hw4 := hw3.alloc hw3.size (.cells #[.slice none 0 0, .int .i64 (f + (q : Int) * 4), .int .i64 (m - (q : Int) * 4)] 61)
    have hO2 := p1.lt
    simp only [List.toArray] at h3
    have d0 := h0.cell (i := 0) rfl
    have hz4 : (w3.alloc (.cells #[.slice none 0 0, .int .i64 (f + (q : Int) * 4), .int .i64 (m - (q : Int) * 4)] 61)).heap.size = w3.heap.size + 1 := by simp
    obtain ⟨a, hAa, _⟩ := hL.2 0 (by omega)
    subst hAa
    have hqc : ¬ c = q := by omega
    have hqc2 : q ≤ c := by omega
    go_wp2
    generalize w3.alloc (.cells #[.slice none 0 0, .int .i64 (f + (q : Int) * 4), .int .i64 (m - (q : Int) * 4)] 61) = w4 at h0 h1 h3 hw4 d0 hz4 ⊢
    generalize hOO : w3.heap.size = O at *
    clear c0 c1 c2 d0 p0 p1 hw3 hqc hqc2
    have hDl : (L.drop q).length = L.length - q := by simp
    have hfl : ∀ f ∈ L.drop q, f.fits := fun f h => hf f (List.mem_of_mem_drop h)
    have HDL := Lib.hid hDl
    obtain ⟨n, Hn⟩ : ∃ n, Hid (L.length - q = n) := ⟨_, Lib.hid rfl⟩
    have hnq : n ≤ 12 ∧ n + q ≤ L.length ∧ L.length ≤ n + q := by have := Hn.out; omega
    rw [Hn.out]
    clear hDl
    go_loopw [8, 33] (fun _ i wr => ∃ (k : Nat) (v : Value), k ≤ n ∧ i = .int .i64 k ∧ O + 1 ≤ wr.heap.size ∧ OwnF wr (O + 1) v ((L.drop q).take k) ∧ Blk wr O 61 [v, .int .i64 (f + (q : Int) * 4), .int .i64 (m - (q : Int) * 4)] ∧ Blk wr w.heap.size 61 [.slice (some a) L.length c, .int .i64 f, .int .i64 m] ∧ Blk wr (w.heap.size + 1) 63 [.slice none 0 0, .int .i64 0, .int .i64 0, .slice none 0 0, .int .i64 0] ∧ Below w.heap.size w wr) (fun _ i _ => n - (intOf i).toNat)
    case atStart => exact ⟨0, _, by omega, rfl, by omega, ⟨World.ownsRow_nil _ _ _ _, by simp⟩, h3, h0, h1, hw4⟩
    case round =>
      obtain ⟨k, v, hk, rfl, hB, hF, hO, hP3a, hQ3a, hb⟩ := hrel
      by_cases hlt : k < n
      · obtain ⟨a', ha', hab, c0, c1, c2, hff⟩ := (hL.below hb (Nat.le_refl _)).at (q + k) (by omega)
        cases ha'
        have hlt' : (k : Int) < (n : Int) := by omega
        have hgk : (L.drop q)[k]'(by rw [HDL.out]; omega) = L[q + k]'(by omega) := by simp
        obtain ⟨n0, n1, n2, HE0⟩ : ∃ n0 n1 n2, Hid (L[q + k]'(by omega) = ⟨n0, n1, n2⟩) := ⟨_, _, _, Lib.hid rfl⟩
        rw [HE0.out] at c0 c1 c2
        simp only at c0 c1 c2
        have HE : Hid ((L.drop q)[k]'(by rw [HDL.out]; omega) = ⟨n0, n1, n2⟩) := Lib.hid (by rw [hgk, HE0.out])
        have Fr := fun W => freshFile_any (⟨n0, n1, n2⟩ : Fil) W (by have := (hS.2 (q + k) (by omega)).1; rw [HE0.out] at this; exact this) (by have := (hS.2 (q + k) (by omega)).2; rw [HE0.out] at this; exact this)
        unfold Fil.val at Fr
        simp only at Fr
        have ead : (a.add (q * 3)).add (k * 3) = a.add ((q + k) * 3) := by rw [ofNat_add]; congr 1; omega
        clear hgk
        have hFB := Blk.fresh wr 53 [.string n0, .string n1, .int .i64 n2]
        have hP3 := hP3a.alloc (.cells #[.string n0, .string n1, .int .i64 n2] 53)
        have hQ3 := hQ3a.alloc (.cells #[.string n0, .string n1, .int .i64 n2] 53)
        have hO3 := hO.alloc (.cells #[.string n0, .string n1, .int .i64 n2] 53)
        have hb3 := hb.alloc hb.size (.cells #[.string n0, .string n1, .int .i64 n2] 53)
        have hF3 := hF.below (w' := wr.alloc (.cells #[.string n0, .string n1, .int .i64 n2] 53)) ((Below.refl _ _).alloc (Nat.le_refl _) _) (Nat.le_refl _)
        have hz3 : wr.heap.size + 1 ≤ (wr.alloc (.cells #[.string n0, .string n1, .int .i64 n2] 53)).heap.size := by simp
        simp only [List.toArray] at hFB
        go_wp2
        generalize wr.alloc (.cells #[.string n0, .string n1, .int .i64 n2] 53) = w3' at hFB hP3 hQ3 hO3 hb3 hF3 hz3 ⊢
        generalize hBr : wr.heap.size = B at *
        have hPlt := hP3a.lt
        have hOlt := hO.lt
        rw [hBr] at hPlt hOlt
        clear c0 c1 c2 ead hF hO hP3a hQ3a hb
        obtain ⟨i0, hi, hz0, hz1, hz2⟩ := info_parts infoFile
        have nvo : v.ownBlock ≠ some (O) := fun e => by have := (hF3.1.lt _ e).1; omega
        have nvhP3 : v.ownBlock ≠ some (w.heap.size) := fun e => by have := (hF3.1.lt _ e).1; omega
        have nvhQ3 : v.ownBlock ≠ some (w.heap.size + 1) := fun e => by have := (hF3.1.lt _ e).1; omega
        have y0 := hO3.drew.cell (i := 0) rfl
        have x0 := hFB.drew.cell (i := 0) rfl
        have x1 := hFB.drew.cell (i := 1) rfl
        have x2 := hFB.drew.cell (i := 2) rfl
        have hFd := hF3.drew
        have hOd := hO3.drew
        have HLT : Hid (((L.drop q).take k).length = k) := Lib.hid (by rw [List.length_take, HDL.out]; omega)
        have hFk := hFd.1
        rw [HLT.out] at hFk
        go_region_law
          (first
            | (go_simp; go_at_call 97; refine (Fr _).mono ?_; rintro e w4 ⟨rfl, hb4⟩; have y4 := kept_cell hb4 y0; have y4a := kept_cell (show Below w4.heap.size w4 (w4.alloc (.cells #[.string n0, .string n1, .int .i64 n2] 53)) from (Below.refl _ _).alloc (Nat.le_refl _) _) y4)
            | (refine step_append_lies _ (by rfl) _ _ _ (by rfl) (O + 1) 53 i0 _ 3 40 Tryz.underlying23 hi hz0 hz1 hz2 rfl (by omega) v k _ (by rfl) (World.ownsRow.alloc (row_below hFk hb4 (Nat.le_refl _)) _)
                          ⟨w4.heap.size, 0, none⟩ 1 1 [.string n0, .string n1, .int .i64 n2] (by rfl) (by rfl) (World.news_of_block (cs := #[.string n0, .string n1, .int .i64 n2]) (t := 53) (fr := (0, 0)) (heap_alloc_new w4 _)) (by simp [Value.oneCell'])
                          (by omega) (by have h := HLT.out; unfold maxLen; omega) (by have h := HLT.out; omega) (by have h := hb4.size; simp only [World.size_drew, World.size_alloc] at h ⊢; omega) (w4.heap.size + 1) (by simp) ?_; intro gg cap' w5 hown5 hgrow5 hat5 hlt5; have q4 : Below w4.heap.size w4 (w4.alloc (.cells #[.string n0, .string n1, .int .i64 n2] 53)) := (Below.refl _ _).alloc (Nat.le_refl _) _; have hO5 := ((hOd.below hb4 hOd.lt).below q4 (hOd.below hb4 hOd.lt).lt).grown hgrow5 (Ne.symm nvo); have y5 := hO5.cell (i := 0) rfl; have f5 := hO5.froz 0))
        all_goals
          have q4 : Below w4.heap.size w4 (w4.alloc (.cells #[.string n0, .string n1, .int .i64 n2] 53)) := (Below.refl _ _).alloc (Nat.le_refl _) _
          have q5 := hb4.trans (q4.mono hb4.size)
          have hP36 := ((hP3.drew.below q5 hP3.drew.lt).grown hgrow5 (Ne.symm nvhP3)).far (p := ⟨O, 0, none⟩) (by simp; try omega) (.slice (some ⟨gg, 0, none⟩) (k + 1) cap')
          have hQ36 := ((hQ3.drew.below q5 hQ3.drew.lt).grown hgrow5 (Ne.symm nvhQ3)).far (p := ⟨O, 0, none⟩) (by simp; try omega) (.slice (some ⟨gg, 0, none⟩) (k + 1) cap')
          have hw6 := (((below_drew hb3).trans (q5.mono (by exact hb3.size))).grown hgrow5 (by have h2 := hb4.size; have h3 := hb3.size; simp at h2 ⊢; omega) (fun j e => by have := (hF3.1.lt _ e).1; omega)).setCell (p := ⟨O, 0, none⟩) (by simp; try omega) (.slice (some ⟨gg, 0, none⟩) (k + 1) cap')
          have hO6 := hO5.put 0 (.slice (some ⟨gg, 0, none⟩) (k + 1) cap')
          have hsz6 := hgrow5.size
          have hs4 := hb4.size
          simp only [World.size_alloc, World.size_drew] at hsz6 hs4
          have hF6 : OwnF (w5.setCell ⟨O, 0, none⟩ (.slice (some ⟨gg, 0, none⟩) (k + 1) cap')) (O + 1) (.slice (some ⟨gg, 0, none⟩) (k + 1) cap') ((L.drop q).take (k + 1)) := by
            refine ⟨row_far (p := ⟨O, 0, none⟩) ?_ (by simp; try omega) _, fun f h => hfl f (List.mem_of_mem_take h)⟩
            have e1 : ((L.drop q).take (k + 1)).length = k + 1 := by rw [List.length_take, HDL.out]; omega
            have e2 : flat ((L.drop q).take (k + 1)) = flat ((L.drop q).take k) ++ [.string n0, .string n1, .int .i64 n2] := by
              rw [List.take_succ_eq_append_getElem (by rw [HDL.out]; omega), flat_append, HE.out]; rfl
            rw [e1, e2]
            exact hown5
          go_wp2
          exact ⟨⟨k + 1, _, by omega, by go_num, by simp; omega, hF6, hO6, hP36, hQ36, hw6⟩, by simp [intOf]; omega⟩
      · obtain rfl : k = n := by omega
        rw [List.take_of_length_le (by rw [HDL.out]; omega)] at hF
        obtain ⟨C, x, rfl, _⟩ := hF.slice
        have o0 := hO.cell (i := 0) rfl; have o1 := hO.cell (i := 1) rfl; have o2 := hO.cell (i := 2) rfl; have fo0 := hO.froz 0; have fo1 := hO.froz 1; have fo2 := hO.froz 2; 
        have t0 := hQ3a.cell (i := 0) rfl; have t1 := hQ3a.cell (i := 1) rfl; have t2 := hQ3a.cell (i := 2) rfl; have t3 := hQ3a.cell (i := 3) rfl; have t4 := hQ3a.cell (i := 4) rfl; have ft0 := hQ3a.froz 0; have ft1 := hQ3a.froz 1; have ft2 := hQ3a.froz 2; have ft3 := hQ3a.froz 3; have ft4 := hQ3a.froz 4; 
        have hRL : (L.drop q).length = k := by rw [HDL.out]; omega
        rw [hRL] at hF hO o0
        go_wp2
        have r1 := ((((hQ3a.put 0 (.slice C k x)).put 1 (.int .i64 (f + (q : Int) * 4))).put 2 (.int .i64 (m - (q : Int) * 4))).put 3 (.slice none 0 0)).put 4 (.int .i64 0)
        have r2 := ((((hF.far (p := ⟨w.heap.size + 1, 0, none⟩) (by simp; omega) (.slice C k x)).far (p := ⟨w.heap.size + 1, 1, none⟩) (by simp; omega) (.int .i64 (f + (q : Int) * 4))).far (p := ⟨w.heap.size + 1, 2, none⟩) (by simp; omega) (.int .i64 (m - (q : Int) * 4))).far (p := ⟨w.heap.size + 1, 3, none⟩) (by simp; omega) (.slice none 0 0)).far (p := ⟨w.heap.size + 1, 4, none⟩) (by simp; omega) (.int .i64 0)
        have r3 := ((((hb.setCell (p := ⟨w.heap.size + 1, 0, none⟩) (by simp) (.slice C k x)).setCell (p := ⟨w.heap.size + 1, 1, none⟩) (by simp) (.int .i64 (f + (q : Int) * 4))).setCell (p := ⟨w.heap.size + 1, 2, none⟩) (by simp) (.int .i64 (m - (q : Int) * 4))).setCell (p := ⟨w.heap.size + 1, 3, none⟩) (by simp) (.slice none 0 0)).setCell (p := ⟨w.heap.size + 1, 4, none⟩) (by simp) (.int .i64 0)
        generalize ((((wr.setCell ⟨w.heap.size + 1, 0, none⟩ (.slice C k x)).setCell ⟨w.heap.size + 1, 1, none⟩ (.int .i64 (f + (q : Int) * 4))).setCell ⟨w.heap.size + 1, 2, none⟩ (.int .i64 (m - (q : Int) * 4))).setCell ⟨w.heap.size + 1, 3, none⟩ (.slice none 0 0)).setCell ⟨w.heap.size + 1, 4, none⟩ (.int .i64 0) = w9 at r1 r2 r3 ⊢
        have y0 := r1.cell (i := 0) rfl
        have y1 := r1.cell (i := 1) rfl
        have y2 := r1.cell (i := 2) rfl
        have y3 := r1.cell (i := 3) rfl
        have y4 := r1.cell (i := 4) rfl
        exact bodyPost_ret (v := .agg #[.slice C k x, .int .i64 (f + (q : Int) * 4), .int .i64 (m - (q : Int) * 4), .slice none 0 0, .int .i64 0]) (by simp [results, Tryz.results57, go_sem, y0, y1, y2, y3, y4]) rfl ⟨C, x, by rw [R1.out, R2.out, R2.out, R3.out, HQ.out, hRL], by rw [R1.out, hRL]; exact r2.base (by omega), r3⟩
  · have R1 := Lib.hid (show dropO L f m b = [] by unfold dropO; rw [if_neg (by simp [hBB])])
    have R2 : Hid (∀ x, dropI L f m b x = 0) := Lib.hid (fun x => by unfold dropI; rw [if_neg (by simp [hBB])])
    have R3 := Lib.hid (show dropC L f m = 1 by unfold dropC; rw [if_neg (by simp [hBB])])
    rw [hBB]
    clear hBB
    have t0 := q1.cell (i := 0) rfl; have t1 := q1.cell (i := 1) rfl; have t2 := q1.cell (i := 2) rfl; have t3 := q1.cell (i := 3) rfl; have t4 := q1.cell (i := 4) rfl; have ft0 := q1.froz 0; have ft1 := q1.froz 1; have ft2 := q1.froz 2; have ft3 := q1.froz 3; have ft4 := q1.froz 4; 
    go_wp2
    have r1 := ((((q1.put 0 (.slice none 0 0)).put 1 (.int .i64 0)).put 2 (.int .i64 0)).put 3 (.slice none 0 0)).put 4 (.int .i64 1)
    have r3 := ((((hw2.setCell (p := ⟨w.heap.size + 1, 0, none⟩) (by simp) (.slice none 0 0)).setCell (p := ⟨w.heap.size + 1, 1, none⟩) (by simp) (.int .i64 0)).setCell (p := ⟨w.heap.size + 1, 2, none⟩) (by simp) (.int .i64 0)).setCell (p := ⟨w.heap.size + 1, 3, none⟩) (by simp) (.slice none 0 0)).setCell (p := ⟨w.heap.size + 1, 4, none⟩) (by simp) (.int .i64 1)
    generalize ((((w2.setCell ⟨w.heap.size + 1, 0, none⟩ (.slice none 0 0)).setCell ⟨w.heap.size + 1, 1, none⟩ (.int .i64 0)).setCell ⟨w.heap.size + 1, 2, none⟩ (.int .i64 0)).setCell ⟨w.heap.size + 1, 3, none⟩ (.slice none 0 0)).setCell ⟨w.heap.size + 1, 4, none⟩ (.int .i64 1) = w9 at r1 r3 ⊢
    have y0 := r1.cell (i := 0) rfl
    have y1 := r1.cell (i := 1) rfl
    have y2 := r1.cell (i := 2) rfl
    have y3 := r1.cell (i := 3) rfl
    have y4 := r1.cell (i := 4) rfl
    exact bodyPost_ret (v := .agg #[.slice none 0 0, .int .i64 0, .int .i64 0, .slice none 0 0, .int .i64 1]) (by simp [results, Tryz.results57, go_sem, y0, y1, y2, y3, y4]) rfl ⟨none, 0, by rw [R1.out, R2.out, R2.out, R3.out]; rfl, by rw [R1.out]; exact ownF_nil _ _, r3⟩
end Go.Proofs.YtebkblmejkkhfaaGreatDoor
