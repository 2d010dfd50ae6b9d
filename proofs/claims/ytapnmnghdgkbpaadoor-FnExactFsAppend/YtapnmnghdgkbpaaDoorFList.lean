/- The contract of the map's list: its files, rising by name. -/
import Derived.Test.YtapnmnghdgkbpaaDoorFFind
import Derived.Test.YtapnmnghdgkbpaaDoorFresh
import Derived.Test.YtapnmnghdgkbpaaDoorKept
import Derived.Test.YtapnmnghdgkbpaaDoorIter
import Derived.Deep.RegionLaw
import Derived.Deep.AppendLies
namespace Go.Proofs.YtapnmnghdgkbpaaDoor
open Go.RowKit Go.Maps Go.Sort
set_option linter.unusedVariables false
set_option maxRecDepth 1000000

theorem keys_D (L : List Fil) : strKeys (DataW.map (L.map ent)) = L.map fun f => f.name.data.toList := by
  unfold strKeys
  simp only [List.map_map]
  rfl
theorem sorted_names {L : List Fil} (hR : Rising L) : (L.map fun f => f.name.data.toList).mergeSort leB = L.map fun f => f.name.data.toList := by
  apply List.mergeSort_of_pairwise
  rw [List.pairwise_map]
  refine hR.imp fun {a b} h => ?_
  rw [lessB_iff] at h
  simp only [leB, decide_eq_true_eq]
  exact List.le_of_lt h
theorem row_names {L : List Fil} {ss : List (List UInt8)} (hR : Rising L) (hp : ss.Perm (strKeys (DataW.map (L.map ent)))) : (ss.mergeSort leB).map encStr = L.map fun f => Value.string f.name := by
  rw [mergeSort_of_perm hp, keys_D, sorted_names hR, List.map_map]
  rfl
/-- What a lookup finds. -/
theorem look_run {w : World} {b n : Nat} {L : List Fil} {f : Fil} (hM : MapF w b n L) (hf : findF L f.name = some f) (hs : f.name.size ≤ maxLen) :
    (Instr.lookup 88 (.map (some b)) (.string f.name) false).run Tryd.prog w = .ok f.val w := by
  obtain ⟨v, ps, hrun, hv⟩ := World.ownsMap.lookup hM keyed Tryd.underlying88 (zeroFile w) (filElem_mk zeroFil) (key_mk hs)
  rw [at_D, hf] at hv
  rw [hrun, filElem_inv hv]
theorem find_self {L : List Fil} (hR : Rising L) {i : Nat} (h : i < L.length) : findF L L[i].name = some L[i] := by
  unfold findF
  rw [List.find?_eq_some_iff_append]
  refine ⟨by simp, L.take i, L.drop (i + 1), ?_, ?_⟩
  · rw [← List.drop_eq_getElem_cons h, List.take_append_drop]
  · intro a ha
    obtain ⟨j, hj, rfl⟩ := List.getElem_of_mem ha
    have hji : j < i := by simp at hj; omega
    rw [List.getElem_take]
    have := List.pairwise_iff_getElem.1 hR j i (by omega) h hji
    simp [lessB_ne this]


set_option maxHeartbeats 4000000 in
set_option maxRecDepth 1000000 in
theorem list_any (b n : Nat) (L : List Fil) (w : World) (hM : MapF w b n L) (hn : n ≤ 1000) (hR : Rising L) (hf : ∀ f ∈ L, f.fits) (hS : Small L) :
    Calls Tryd.prog 110 #[.map (some b)] w fun e w' => ∃ C x, e = .returned (.agg #[.slice C L.length x]) ∧ OwnF w' w.heap.size (.slice C L.length x) L ∧ Below w.heap.size w w' := by
  obtain ⟨i0, hi, hz0, hz1, hz2⟩ := info_parts infoFile
  have hLn : L.length ≤ 1000 := by have := World.ownsMap.size_le hM; rw [size_D] at this; omega
  have hb0 : Below w.heap.size w ((w.alloc (.cells #[.slice none 0 0] 50)).alloc (.cells #[.slice none 0 0] 50)) := ((Below.refl _ _).alloc (Nat.le_refl _) _).alloc (by simp) _
  have hT0 := (Blk.fresh w 50 [.slice none 0 0]).alloc (.cells #[.slice none 0 0] 50)
  have hO0 := Blk.fresh (w.alloc (.cells #[.slice none 0 0] 50)) 50 [.slice none 0 0]
  simp only [World.size_alloc] at hO0
  have hM0 := World.ownsMap.alloc (World.ownsMap.alloc hM (.cells #[.slice none 0 0] 50)) (.cells #[.slice none 0 0] 50)
  have KE := callsIn_wide.1 (Tryd.maps_Keys_128 (some b) ((w.alloc (.cells #[.slice none 0 0] 50)).alloc (.cells #[.slice none 0 0] 50)))
  have SO := callsIn_wide.1 (Tryd.slices_Sorted_keys_127_128 b n _ filElem _ hM0 (by rw [size_D]; unfold maxLen; omega) (by rw [size_D]; omega))
  simp only [World.size_alloc] at SO
  go_enter Tryd.func110, Tryd.ntmps110
  go_wp2_with (fail)
  refine KE.mono ?_
  rintro e w1 ⟨rfl, rfl⟩
  go_wp2_with (fail)
  refine SO.mono ?_
  rintro e w2 ⟨v, ss, rfl, hp, hrow, _, hb2⟩
  have hlen : ss.length = L.length := by rw [hp.length_eq, keys_D]; simp
  rw [show (fun x y : List UInt8 => decide (x ≤ y)) = leB from rfl, row_names hR hp, hlen] at hrow
  have q1 : Below (w.heap.size + 1 + 1) ((w.alloc (.cells #[.slice none 0 0] 50)).alloc (.cells #[.slice none 0 0] 50)) w2 := ((Below.refl _ _).alloc (by simp) _).trans (hb2.mono (by simp))
  have hw2 : Below w.heap.size w w2 := hb0.trans (q1.mono (by omega))
  have hT2 := hT0.below q1 (by omega)
  have hO2 := hO0.below q1 (by omega)
  have hM2 : MapF w2 b n L := World.ownsMap.kept hM0 (grown_none q1 (by simp)) (by simp)
  have hbl := World.ownsMap.lt hM
  obtain ⟨N, HN⟩ : ∃ N, Hid (L.map (fun f => Value.string f.name) = N) := ⟨_, Lib.hid rfl⟩
  rw [HN.out] at hrow
  obtain ⟨Cn, xn, rfl, hNr⟩ : ∃ Cn xn, v = .slice Cn L.length xn ∧ ∀ i (h : i < L.length), ∃ g, Cn = some ⟨g, 0, none⟩ ∧ w2.cell? ⟨g, i, none⟩ = some (.string L[i].name) ∧ g < w2.heap.size := by
    rcases hrow.2 with ⟨rfl, hz⟩ | ⟨g, cap, cur, rfl, hgb, _⟩
    · exact ⟨none, 0, by rw [hz], fun i h => by omega⟩
    · refine ⟨_, _, rfl, fun i h => ⟨g, rfl, ?_, (hrow.lt g rfl).2⟩⟩
      have := hrow.cellAt i (by omega)
      rw [this, ← HN.out]
      simp [h]
  clear SO KE hrow
  have hlt2 := hO2.lt
  go_wp2
  generalize hB2 : w2.heap.size = B2 at hlt2 hNr ⊢
  go_loopw [5, 10] (fun _ i wr => ∃ (k : Nat) (v : Value), k ≤ L.length ∧ i = .int .i64 k ∧ B2 ≤ wr.heap.size ∧ OwnF wr B2 v (L.take k) ∧ Blk wr (w.heap.size + 1) 50 [v] ∧ Blk wr w.heap.size 50 [.slice none 0 0] ∧ MapF wr b n L ∧ (∀ i (h : i < L.length), ∃ g, Cn = some ⟨g, 0, none⟩ ∧ wr.cell? ⟨g, i, none⟩ = some (.string L[i].name) ∧ g < B2 ∧ g ≠ w.heap.size + 1) ∧ Below w.heap.size w wr) (fun _ i _ => L.length - (intOf i).toNat)
  case atStart =>
    refine ⟨0, _, by omega, rfl, by omega, ⟨World.ownsRow_nil _ _ _ _, by simp⟩, hO2, hT2, hM2, fun i h => ?_, hw2⟩
    obtain ⟨g, e, hc, hg⟩ := hNr i h
    refine ⟨g, e, hc, hg, fun e2 => ?_⟩
    subst e2
    rw [cell_of_row w2 _ i _ _ _ hO2.heap] at hc
    rcases i with _ | i
    · simp at hc
    · simp at hc
  case round =>
    obtain ⟨k, v, hk, rfl, hB, hF, hO, hT, hMr, hN, hb⟩ := hrel
    by_cases hlt : k < L.length
    · have hlt' : (k : Int) < (L.length : Int) := by omega
      obtain ⟨g, rfl, gc, gB, gne⟩ := hN k hlt
      have hfk := hf L[k] (List.getElem_mem hlt)
      have LK := look_run (World.ownsMap.drew hMr) (find_self hR hlt) hfk.1
      have Fr := fun W => freshFile_any L[k] W (hS.2 k hlt).1 (hS.2 k hlt).2
      obtain ⟨n0, n1, n2, HE⟩ : ∃ n0 n1 n2, Hid (L[k] = ⟨n0, n1, n2⟩) := ⟨_, _, _, Lib.hid rfl⟩
      rw [HE.out] at LK Fr gc
      unfold Fil.val at LK Fr
      simp only at LK Fr gc
      have nvo : v.ownBlock ≠ some (w.heap.size + 1) := fun e => by have := (hF.1.lt _ e).1; omega
      have nvT : v.ownBlock ≠ some w.heap.size := fun e => by have := (hF.1.lt _ e).1; omega
      have nvb : v.ownBlock ≠ some b := fun e => by have := (hF.1.lt _ e).1; omega
      have y0 := hO.drew.cell (i := 0) rfl
      have t0 := hT.drew.cell (i := 0) rfl
      have hFd := hF.drew
      have hOd := hO.drew
      go_wp2
      go_region_law
        (first
          | (go_simp; go_at_call 129; refine (Fr _).mono ?_; rintro e w4 ⟨rfl, hb4⟩; have y4 := kept_cell hb4 y0; have y4a := kept_cell (show Below w4.heap.size w4 (w4.alloc (.cells #[.string n0, .string n1, .int .i64 n2] 84)) from (Below.refl _ _).alloc (Nat.le_refl _) _) y4)
          | (refine step_append_lies _ (by rfl) _ _ _ (by rfl) B2 84 i0 _ 3 40 Tryd.underlying48 hi hz0 hz1 hz2 rfl (by omega) v (L.take k).length _ (by rfl) (World.ownsRow.alloc (row_below hFd.1 hb4 (Nat.le_refl _)) _)
              ⟨w4.heap.size, 0, none⟩ 1 1 [.string n0, .string n1, .int .i64 n2] (by rfl) (by rfl) (World.news_of_block (cs := #[.string n0, .string n1, .int .i64 n2]) (t := 84) (fr := (0, 0)) (heap_alloc_new w4 _)) (by simp [Value.oneCell'])
              (by omega) (by unfold maxLen; simp; omega) (by simp; omega) (by have := hb4.size; simp at *; omega) (w4.heap.size + 1) (by simp) ?_; intro gg cap' w5 hown5 hgrow5 hat5 hlt5; have q4 : Below w4.heap.size w4 (w4.alloc (.cells #[.string n0, .string n1, .int .i64 n2] 84)) := (Below.refl _ _).alloc (Nat.le_refl _) _; have z0 := hgrow5.cell (kept_cell q4 (kept_cell hb4 t0)) (Ne.symm nvT); have hO5 := ((hOd.below hb4 hOd.lt).below q4 (hOd.below hb4 hOd.lt).lt).grown hgrow5 (Ne.symm nvo); have y5 := hO5.cell (i := 0) rfl; have f5 := hO5.froz 0))
      all_goals
        have q4 : Below w4.heap.size w4 (w4.alloc (.cells #[.string n0, .string n1, .int .i64 n2] 84)) := (Below.refl _ _).alloc (Nat.le_refl _) _
        have q5 := hb4.trans (q4.mono hb4.size)
        have hsz : B2 ≤ w5.heap.size := by have h1 := hgrow5.size; have h2 := hb4.size; simp at h1 h2; omega
        have hT5 := ((hT.drew.below q5 hT.drew.lt).grown hgrow5 (Ne.symm nvT)).far (p := ⟨w.heap.size + 1, 0, none⟩) (by simp) (.slice (some ⟨gg, 0, none⟩) (k + 1) cap')
        have hw5 := (((below_drew hb).trans (q5.mono (by exact hb.size))).grown hgrow5 (by have h2 := hb4.size; have h3 := hb.size; simp at h2 ⊢; omega) (fun j e => by have := (hF.1.lt _ e).1; omega)).setCell (p := ⟨w.heap.size + 1, 0, none⟩) (by simp) (.slice (some ⟨gg, 0, none⟩) (k + 1) cap')
        have hO6 := hO5.put 0 (.slice (some ⟨gg, 0, none⟩) (k + 1) cap')
        have hM5 : MapF (w5.setCell ⟨w.heap.size + 1, 0, none⟩ (.slice (some ⟨gg, 0, none⟩) (k + 1) cap')) b n L := World.ownsMap.setCell (World.ownsMap.kept (World.ownsMap.kept (World.ownsMap.drew hMr) (grown_none q5 (Nat.le_refl _)) (by simp)) hgrow5 (Ne.symm nvb)) (by simp; omega) _
        have hN5 : ∀ i (h : i < L.length), ∃ g', (some ⟨g, 0, none⟩ : Option Addr) = some ⟨g', 0, none⟩ ∧ (w5.setCell ⟨w.heap.size + 1, 0, none⟩ (.slice (some ⟨gg, 0, none⟩) (k + 1) cap')).cell? ⟨g', i, none⟩ = some (.string L[i].name) ∧ g' < B2 ∧ g' ≠ w.heap.size + 1 := by
          intro i h
          obtain ⟨g', e, hc, hg', hne⟩ := hN i h
          refine ⟨g', e, cell_put_far (hgrow5.cell (kept_cell q5 (show wr.drew.cell? ⟨g', i, none⟩ = _ from hc)) (fun e2 => ?_)) (by simpa using hne) _, hg', hne⟩
          have := (hF.1.lt _ e2.symm).1
          simp at this
          omega
        have hF6 : OwnF (w5.setCell ⟨w.heap.size + 1, 0, none⟩ (.slice (some ⟨gg, 0, none⟩) (k + 1) cap')) B2 (.slice (some ⟨gg, 0, none⟩) (k + 1) cap') (L.take (k + 1)) := by
          refine ⟨row_far (p := ⟨w.heap.size + 1, 0, none⟩) ?_ (by simp; omega) _, fun f h => hf f (List.mem_of_mem_take h)⟩
          have e1 : (L.take (k + 1)).length = k + 1 := by simp; omega
          have e2 : flat (L.take (k + 1)) = flat (L.take k) ++ [.string n0, .string n1, .int .i64 n2] := by
            rw [List.take_succ_eq_append_getElem (by omega), flat_append, HE.out]; rfl
          rw [e1, e2]
          have e3 : (L.take k).length = k := by simp; omega
          simpa [e3] using hown5
        go_wp2
        exact ⟨⟨k + 1, _, by omega, by go_num, by simpa [World.setCell] using hsz, hF6, hO6, hT5, hM5, hN5, hw5⟩, by simp [intOf]; omega⟩
    · obtain rfl : k = L.length := by omega
      rw [List.take_of_length_le (Nat.le_refl _)] at hF
      obtain ⟨C, x, rfl, _⟩ := hF.slice
      have t0 := hT.cell (i := 0) rfl
      have f0 := hT.froz 0
      have o0 := hO.cell (i := 0) rfl
      clear hN
      go_wp2
      refine bodyPost_ret (v := .agg #[.slice C L.length x]) (by simp [results, Tryd.results110, go_sem, t0]) rfl ⟨C, x, rfl, ?_, hb.setCell (by simp) _⟩
      exact (hF.far (p := ⟨w.heap.size, 0, none⟩) (by simp; omega) _).base (by omega)
end Go.Proofs.YtapnmnghdgkbpaaDoor
