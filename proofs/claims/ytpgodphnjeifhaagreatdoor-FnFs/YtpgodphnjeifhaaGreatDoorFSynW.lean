/- The contract of the map's list: its files, rising by name. Contracts of changeFiles over a change's contract. Contracts of the map's sync. -/
import Derived.Test.YtpgodphnjeifhaaGreatDoorFFindW
import Derived.Test.YtpgodphnjeifhaaGreatDoorFreshW
import Derived.Test.YtpgodphnjeifhaaGreatDoorIter
import Derived.Deep.RegionLaw
import Derived.Deep.AppendLies
import Derived.Test.YtpgodphnjeifhaaGreatDoorFOpenW
namespace Go.Proofs.YtpgodphnjeifhaaGreatDoor
open Go.RowKit Go.Maps Go.Sort
set_option linter.unusedVariables false
set_option maxRecDepth 1000000

theorem keys_D (L : List Fil) : strKeys (DataW.map (L.map ent)) = L.map fun f => f.name.data.toList := by
  unfold strKeys
  simp only [List.map_map]
  rfl
theorem sorted_names {L : List Fil} (hR : Rising L) : (L.map fun f => f.name.data.toList).mergeSort leB = L.map fun f => f.name.data.toList := by
  apply List.mergeSort_of_pairwise
  rw [List.pairwise_map]
  refine hR.imp fun {a b} h => ?_
  rw [lessB_iff] at h
  simp only [leB, decide_eq_true_eq]
  exact List.le_of_lt h
theorem row_names {L : List Fil} {ss : List (List UInt8)} (hR : Rising L) (hp : ss.Perm (strKeys (DataW.map (L.map ent)))) : (ss.mergeSort leB).map encStr = L.map fun f => Value.string f.name := by
  rw [mergeSort_of_perm hp, keys_D, sorted_names hR, List.map_map]
  rfl
/-- What a lookup finds. -/
theorem look_run {w : World} {b n : Nat} {L : List Fil} {f : Fil} (hM : MapF w b n L) (hf : findF L f.name = some f) (hs : f.name.size ≤ maxLen) :
    (Instr.lookup 62 (.map (some b)) (.string f.name) false).run Tryz.prog w = .ok f.val w := by
  obtain ⟨v, ps, hrun, hv⟩ := World.ownsMap.lookup hM keyed Tryz.underlying62 (zeroFile w) (filElem_mk zeroFil) (key_mk hs)
  rw [at_D, hf] at hv
  rw [hrun, filElem_inv hv]
theorem find_self {L : List Fil} (hR : Rising L) {i : Nat} (h : i < L.length) : findF L L[i].name = some L[i] := by
  unfold findF
  rw [List.find?_eq_some_iff_append]
  refine ⟨by simp, L.take i, L.drop (i + 1), ?_, ?_⟩
  · rw [← List.drop_eq_getElem_cons h, List.take_append_drop]
  · intro a ha
    obtain ⟨j, hj, rfl⟩ := List.getElem_of_mem ha
    have hji : j < i := by simp at hj; omega
    rw [List.getElem_take]
    have := List.pairwise_iff_getElem.1 hR j i (by omega) h hji
    simp [lessB_ne this]


set_option maxHeartbeats 4000000 in
set_option maxRecDepth 1000000 in
theorem list_any (b n : Nat) (L : List Fil) (w : World) (hM : MapF w b n L) (hn : n ≤ 1000) (hR : Rising L) (hf : ∀ f ∈ L, f.fits) (hS : Small L) :
    Calls Tryz.prog 70 #[.map (some b)] w fun e w' => ∃ C x, e = .returned (.agg #[.slice C L.length x]) ∧ OwnF w' w.heap.size (.slice C L.length x) L ∧ Below w.heap.size w w' := by
  obtain ⟨i0, hi, hz0, hz1, hz2⟩ := info_parts infoFile
  have hLn : L.length ≤ 1000 := by have := World.ownsMap.size_le hM; rw [size_D] at this; omega
  have hb0 : Below w.heap.size w ((w.alloc (.cells #[.slice none 0 0] 25)).alloc (.cells #[.slice none 0 0] 25)) := ((Below.refl _ _).alloc (Nat.le_refl _) _).alloc (by simp) _
  have hT0 := (Blk.fresh w 25 [.slice none 0 0]).alloc (.cells #[.slice none 0 0] 25)
  have hO0 := Blk.fresh (w.alloc (.cells #[.slice none 0 0] 25)) 25 [.slice none 0 0]
  simp only [World.size_alloc] at hO0
  have hM0 := World.ownsMap.alloc (World.ownsMap.alloc hM (.cells #[.slice none 0 0] 25)) (.cells #[.slice none 0 0] 25)
  have KE := callsIn_wide.1 (Tryz.maps_Keys_81 (some b) ((w.alloc (.cells #[.slice none 0 0] 25)).alloc (.cells #[.slice none 0 0] 25)))
  have SO := callsIn_wide.1 (Tryz.slices_Sorted_keys_80_81 b n _ filElem _ hM0 (by rw [size_D]; unfold maxLen; omega) (by rw [size_D]; omega))
  simp only [World.size_alloc] at SO
  go_enter Tryz.func70, Tryz.ntmps70
  go_wp2_with (fail)
  refine KE.mono ?_
  rintro e w1 ⟨rfl, rfl⟩
  go_wp2_with (fail)
  refine SO.mono ?_
  rintro e w2 ⟨v, ss, rfl, hp, hrow, _, hb2⟩
  have hlen : ss.length = L.length := by rw [hp.length_eq, keys_D]; simp
  rw [show (fun x y : List UInt8 => decide (x ≤ y)) = leB from rfl, row_names hR hp, hlen] at hrow
  have q1 : Below (w.heap.size + 1 + 1) ((w.alloc (.cells #[.slice none 0 0] 25)).alloc (.cells #[.slice none 0 0] 25)) w2 := ((Below.refl _ _).alloc (by simp) _).trans (hb2.mono (by simp))
  have hw2 : Below w.heap.size w w2 := hb0.trans (q1.mono (by omega))
  have hT2 := hT0.below q1 (by omega)
  have hO2 := hO0.below q1 (by omega)
  have hM2 : MapF w2 b n L := World.ownsMap.kept hM0 (grown_none q1 (by simp)) (by simp)
  have hbl := World.ownsMap.lt hM
  obtain ⟨N, HN⟩ : ∃ N, Hid (L.map (fun f => Value.string f.name) = N) := ⟨_, Lib.hid rfl⟩
  rw [HN.out] at hrow
  obtain ⟨Cn, xn, rfl, hNr⟩ : ∃ Cn xn, v = .slice Cn L.length xn ∧ ∀ i (h : i < L.length), ∃ g, Cn = some ⟨g, 0, none⟩ ∧ w2.cell? ⟨g, i, none⟩ = some (.string L[i].name) ∧ g < w2.heap.size := by
    rcases hrow.2 with ⟨rfl, hz⟩ | ⟨g, cap, cur, rfl, hgb, _⟩
    · exact ⟨none, 0, by rw [hz], fun i h => by omega⟩
    · refine ⟨_, _, rfl, fun i h => ⟨g, rfl, ?_, (hrow.lt g rfl).2⟩⟩
      have := hrow.cellAt i (by omega)
      rw [this, ← HN.out]
      simp [h]
  clear SO KE hrow
  have hlt2 := hO2.lt
  go_wp2
  generalize hB2 : w2.heap.size = B2 at hlt2 hNr ⊢
  go_loopw [5, 10] (fun _ i wr => ∃ (k : Nat) (v : Value), k ≤ L.length ∧ i = .int .i64 k ∧ B2 ≤ wr.heap.size ∧ OwnF wr B2 v (L.take k) ∧ Blk wr (w.heap.size + 1) 25 [v] ∧ Blk wr w.heap.size 25 [.slice none 0 0] ∧ MapF wr b n L ∧ (∀ i (h : i < L.length), ∃ g, Cn = some ⟨g, 0, none⟩ ∧ wr.cell? ⟨g, i, none⟩ = some (.string L[i].name) ∧ g < B2 ∧ g ≠ w.heap.size + 1) ∧ Below w.heap.size w wr) (fun _ i _ => L.length - (intOf i).toNat)
  case atStart =>
    refine ⟨0, _, by omega, rfl, by omega, ⟨World.ownsRow_nil _ _ _ _, by simp⟩, hO2, hT2, hM2, fun i h => ?_, hw2⟩
    obtain ⟨g, e, hc, hg⟩ := hNr i h
    refine ⟨g, e, hc, hg, fun e2 => ?_⟩
    subst e2
    rw [cell_of_row w2 _ i _ _ _ hO2.heap] at hc
    rcases i with _ | i
    · simp at hc
    · simp at hc
  case round =>
    obtain ⟨k, v, hk, rfl, hB, hF, hO, hT, hMr, hN, hb⟩ := hrel
    by_cases hlt : k < L.length
    · have hlt' : (k : Int) < (L.length : Int) := by omega
      obtain ⟨g, rfl, gc, gB, gne⟩ := hN k hlt
      have hfk := hf L[k] (List.getElem_mem hlt)
      have LK := look_run (World.ownsMap.drew hMr) (find_self hR hlt) hfk.1
      have Fr := fun W => freshFile_any L[k] W (hS.2 k hlt).1 (hS.2 k hlt).2
      obtain ⟨n0, n1, n2, HE⟩ : ∃ n0 n1 n2, Hid (L[k] = ⟨n0, n1, n2⟩) := ⟨_, _, _, Lib.hid rfl⟩
      rw [HE.out] at LK Fr gc
      unfold Fil.val at LK Fr
      simp only at LK Fr gc
      have nvo : v.ownBlock ≠ some (w.heap.size + 1) := fun e => by have := (hF.1.lt _ e).1; omega
      have nvT : v.ownBlock ≠ some w.heap.size := fun e => by have := (hF.1.lt _ e).1; omega
      have nvb : v.ownBlock ≠ some b := fun e => by have := (hF.1.lt _ e).1; omega
      have y0 := hO.drew.cell (i := 0) rfl
      have t0 := hT.drew.cell (i := 0) rfl
      have hFd := hF.drew
      have hOd := hO.drew
      go_wp2
      go_region_law
        (first
          | (go_simp; go_at_call 61; refine (Fr _).mono ?_; rintro e w4 ⟨rfl, hb4⟩; have y4 := kept_cell hb4 y0; have y4a := kept_cell (show Below w4.heap.size w4 (w4.alloc (.cells #[.string n0, .string n1, .int .i64 n2] 53)) from (Below.refl _ _).alloc (Nat.le_refl _) _) y4)
          | (refine step_append_lies _ (by rfl) _ _ _ (by rfl) B2 53 i0 _ 3 40 Tryz.underlying23 hi hz0 hz1 hz2 rfl (by omega) v (L.take k).length _ (by rfl) (World.ownsRow.alloc (row_below hFd.1 hb4 (Nat.le_refl _)) _)
              ⟨w4.heap.size, 0, none⟩ 1 1 [.string n0, .string n1, .int .i64 n2] (by rfl) (by rfl) (World.news_of_block (cs := #[.string n0, .string n1, .int .i64 n2]) (t := 53) (fr := (0, 0)) (heap_alloc_new w4 _)) (by simp [Value.oneCell'])
              (by omega) (by unfold maxLen; simp; omega) (by simp; omega) (by have := hb4.size; simp at *; omega) (w4.heap.size + 1) (by simp) ?_; intro gg cap' w5 hown5 hgrow5 hat5 hlt5; have q4 : Below w4.heap.size w4 (w4.alloc (.cells #[.string n0, .string n1, .int .i64 n2] 53)) := (Below.refl _ _).alloc (Nat.le_refl _) _; have z0 := hgrow5.cell (kept_cell q4 (kept_cell hb4 t0)) (Ne.symm nvT); have hO5 := ((hOd.below hb4 hOd.lt).below q4 (hOd.below hb4 hOd.lt).lt).grown hgrow5 (Ne.symm nvo); have y5 := hO5.cell (i := 0) rfl; have f5 := hO5.froz 0))
      all_goals
        have q4 : Below w4.heap.size w4 (w4.alloc (.cells #[.string n0, .string n1, .int .i64 n2] 53)) := (Below.refl _ _).alloc (Nat.le_refl _) _
        have q5 := hb4.trans (q4.mono hb4.size)
        have hsz : B2 ≤ w5.heap.size := by have h1 := hgrow5.size; have h2 := hb4.size; simp at h1 h2; omega
        have hT5 := ((hT.drew.below q5 hT.drew.lt).grown hgrow5 (Ne.symm nvT)).far (p := ⟨w.heap.size + 1, 0, none⟩) (by simp) (.slice (some ⟨gg, 0, none⟩) (k + 1) cap')
        have hw5 := (((below_drew hb).trans (q5.mono (by exact hb.size))).grown hgrow5 (by have h2 := hb4.size; have h3 := hb.size; simp at h2 ⊢; omega) (fun j e => by have := (hF.1.lt _ e).1; omega)).setCell (p := ⟨w.heap.size + 1, 0, none⟩) (by simp) (.slice (some ⟨gg, 0, none⟩) (k + 1) cap')
        have hO6 := hO5.put 0 (.slice (some ⟨gg, 0, none⟩) (k + 1) cap')
        have hM5 : MapF (w5.setCell ⟨w.heap.size + 1, 0, none⟩ (.slice (some ⟨gg, 0, none⟩) (k + 1) cap')) b n L := World.ownsMap.setCell (World.ownsMap.kept (World.ownsMap.kept (World.ownsMap.drew hMr) (grown_none q5 (Nat.le_refl _)) (by simp)) hgrow5 (Ne.symm nvb)) (by simp; omega) _
        have hN5 : ∀ i (h : i < L.length), ∃ g', (some ⟨g, 0, none⟩ : Option Addr) = some ⟨g', 0, none⟩ ∧ (w5.setCell ⟨w.heap.size + 1, 0, none⟩ (.slice (some ⟨gg, 0, none⟩) (k + 1) cap')).cell? ⟨g', i, none⟩ = some (.string L[i].name) ∧ g' < B2 ∧ g' ≠ w.heap.size + 1 := by
          intro i h
          obtain ⟨g', e, hc, hg', hne⟩ := hN i h
          refine ⟨g', e, cell_put_far (hgrow5.cell (kept_cell q5 (show wr.drew.cell? ⟨g', i, none⟩ = _ from hc)) (fun e2 => ?_)) (by simpa using hne) _, hg', hne⟩
          have := (hF.1.lt _ e2.symm).1
          simp at this
          omega
        have hF6 : OwnF (w5.setCell ⟨w.heap.size + 1, 0, none⟩ (.slice (some ⟨gg, 0, none⟩) (k + 1) cap')) B2 (.slice (some ⟨gg, 0, none⟩) (k + 1) cap') (L.take (k + 1)) := by
          refine ⟨row_far (p := ⟨w.heap.size + 1, 0, none⟩) ?_ (by simp; omega) _, fun f h => hf f (List.mem_of_mem_take h)⟩
          have e1 : (L.take (k + 1)).length = k + 1 := by simp; omega
          have e2 : flat (L.take (k + 1)) = flat (L.take k) ++ [.string n0, .string n1, .int .i64 n2] := by
            rw [List.take_succ_eq_append_getElem (by omega), flat_append, HE.out]; rfl
          rw [e1, e2]
          have e3 : (L.take k).length = k := by simp; omega
          simpa [e3] using hown5
        go_wp2
        exact ⟨⟨k + 1, _, by omega, by go_num, by simpa [World.setCell] using hsz, hF6, hO6, hT5, hM5, hN5, hw5⟩, by simp [intOf]; omega⟩
    · obtain rfl : k = L.length := by omega
      rw [List.take_of_length_le (Nat.le_refl _)] at hF
      obtain ⟨C, x, rfl, _⟩ := hF.slice
      have t0 := hT.cell (i := 0) rfl
      have f0 := hT.froz 0
      have o0 := hO.cell (i := 0) rfl
      clear hN
      go_wp2
      refine bodyPost_ret (v := .agg #[.slice C L.length x]) (by simp [results, Tryz.results70, go_sem, t0]) rfl ⟨C, x, rfl, ?_, hb.setCell (by simp) _⟩
      exact (hF.far (p := ⟨w.heap.size, 0, none⟩) (by simp; omega) _).base (by omega)
end Go.Proofs.YtpgodphnjeifhaaGreatDoor

namespace Go.Proofs.YtpgodphnjeifhaaGreatDoor
open Go.RowKit
set_option linter.unusedVariables false
set_option maxRecDepth 1000000

abbrev fsOut (v : Value) (cd : Int) : Value := .agg #[v, .int .i64 cd]
theorem addr_add0 (b i : Nat) : (⟨b, 0, none⟩ : Addr).add i = ⟨b, i, none⟩ := by unfold Addr.add; split <;> simp_all
/-- A function that can be entered by its number. -/
def Enters (F : Nat) : Prop := ∀ args w, (callFunc F args).run Tryz.prog w = .ok (.enter F args) w

set_option maxHeartbeats 4000000 in
theorem change_long (A : Option Addr) (L : List Fil) (c : Nat) (B : Option Addr) (N : List ByteArray) (d : Nat) (fv : Value) (a0 a1 a2 a3 a4 : Addr) (w : World) (hE : Errs w a0 a1 a2 a3 a4) (hN : StrA w B N) (hl : N.length ≤ 100) (hs : ∀ s ∈ N, s.size ≤ maxLen) (hlong : anyLong N = true) :
    Calls Tryz.prog 39 #[.agg #[.slice A L.length c], fv, .slice B N.length d] w fun e w' => e = .returned (fsOut (.slice none 0 0) 2) ∧ Below w.heap.size w w' := by
  have hT0 := Blk.fresh (w.alloc (.cells #[.slice A L.length c] 25)) 29 [.slice none 0 0, .int .i64 0]
  simp only [World.size_alloc] at hT0
  have hb0 : Below w.heap.size w ((w.alloc (.cells #[.slice A L.length c] 25)).alloc (.cells #[.slice none 0 0, .int .i64 0] 29)) := ((Below.refl _ _).alloc (Nat.le_refl _) _).alloc (by simp) _
  have O := open_long A L c B N d a0 a1 a2 a3 a4 _ (hE.below hb0) (hN.below hb0) hl hs hlong
  go_enter Tryz.func39, Tryz.ntmps39
  go_wp2_with (fail)
  refine O.mono ?_
  rintro e w1 ⟨rfl, hb1⟩
  have hw1 := hb0.trans (hb1.mono hb0.size)
  have hT1 := hT0.below hb1 hT0.lt
  have F := fileCode_any a0 a1 a2 a3 a4 w1 ((hE.below hb0).below hb1) 0 a0 rfl
  have t0 := hT1.cell (i := 0) rfl
  have t1 := hT1.cell (i := 1) rfl
  have f0 := hT1.froz 0
  have f1 := hT1.froz 1
  go_wp2_with (fail)
  refine F.mono ?_
  rintro e w2 ⟨rfl, rfl⟩
  go_wp2
  have hp := (hT1.put 0 (.slice none 0 0)).put 1 (.int .i64 2)
  have k0 := hp.cell (i := 0) rfl
  have k1 := hp.cell (i := 1) rfl
  refine bodyPost_ret (v := fsOut (.slice none 0 0) 2) (by simp only [results, Tryz.results39]; simp [go_sem, k0, k1]) rfl ⟨rfl, ?_⟩
  exact (hw1.setCell (by simp) _).setCell (by simp) _

set_option maxHeartbeats 4000000 in
theorem change_bad (A : Option Addr) (L : List Fil) (c : Nat) (B : Option Addr) (N : List ByteArray) (d : Nat) (fv : Value) (a0 a1 a2 a3 a4 : Addr) (w : World) (hE : Errs w a0 a1 a2 a3 a4) (hL : Fls w w.heap.size A L) (hN : StrA w B N) (hl : N.length ≤ 100) (hs : ∀ s ∈ N, s.size ≤ maxLen) (hlong : anyLong N = false) (hbad : openOK L N = false) :
    Calls Tryz.prog 39 #[.agg #[.slice A L.length c], fv, .slice B N.length d] w fun e w' => e = .returned (fsOut (.slice none 0 0) 1) ∧ Below w.heap.size w w' := by
  have hT0 := Blk.fresh (w.alloc (.cells #[.slice A L.length c] 25)) 29 [.slice none 0 0, .int .i64 0]
  simp only [World.size_alloc] at hT0
  have hb0 : Below w.heap.size w ((w.alloc (.cells #[.slice A L.length c] 25)).alloc (.cells #[.slice none 0 0, .int .i64 0] 29)) := ((Below.refl _ _).alloc (Nat.le_refl _) _).alloc (by simp) _
  have O := open_bad A L c B N d a0 a1 a2 a3 a4 _ (hE.below hb0) ((hL.below hb0 (Nat.le_refl _)).mono hb0.size) (hN.below hb0) hl hs hlong hbad
  go_enter Tryz.func39, Tryz.ntmps39
  go_wp2_with (fail)
  refine O.mono ?_
  rintro e w1 ⟨rfl, hb1⟩
  have hw1 := hb0.trans (hb1.mono hb0.size)
  have hT1 := hT0.below hb1 hT0.lt
  have F := fileCode_any a0 a1 a2 a3 a4 w1 ((hE.below hb0).below hb1) 1 a1 rfl
  have t0 := hT1.cell (i := 0) rfl
  have t1 := hT1.cell (i := 1) rfl
  have f0 := hT1.froz 0
  have f1 := hT1.froz 1
  go_wp2_with (fail)
  refine F.mono ?_
  rintro e w2 ⟨rfl, rfl⟩
  go_wp2
  have hp := (hT1.put 0 (.slice none 0 0)).put 1 (.int .i64 1)
  have k0 := hp.cell (i := 0) rfl
  have k1 := hp.cell (i := 1) rfl
  refine bodyPost_ret (v := fsOut (.slice none 0 0) 1) (by simp only [results, Tryz.results39]; simp [go_sem, k0, k1]) rfl ⟨rfl, ?_⟩
  exact (hw1.setCell (by simp) _).setCell (by simp) _

set_option maxHeartbeats 4000000 in
theorem change_err (A : Option Addr) (L : List Fil) (c : Nat) (B : Option Addr) (N : List ByteArray) (d : Nat) (F : Nat) (caps : Array Value) (i : Nat) (ai : Addr) (a0 a1 a2 a3 a4 : Addr) (w : World) (hE : Errs w a0 a1 a2 a3 a4) (hL : Fls w w.heap.size A L) (hN : StrA w B N) (hl : N.length ≤ 100) (hs : ∀ s ∈ N, s.size ≤ maxLen) (hlong : anyLong N = false) (hgood : openOK L N = true)
    (hen : Enters F) (hi : [a0, a1, a2, a3, a4][i]? = some ai)
    (HC : Hid (∀ W b n, Below w.heap.size w W → w.heap.size ≤ b → MapF W b n L → n ≤ 100 → Calls Tryz.prog F (#[.map (some b)] ++ caps) W fun e w' => e = .returned (errV ai) ∧ Below W.heap.size W w')) :
    Calls Tryz.prog 39 #[.agg #[.slice A L.length c], .func (.func F) #[] caps, .slice B N.length d] w fun e w' => e = .returned (fsOut (.slice none 0 0) ([2, 1, 6, 8, 9].getD i 0)) ∧ Below w.heap.size w w' := by
  have hT0 := Blk.fresh (w.alloc (.cells #[.slice A L.length c] 25)) 29 [.slice none 0 0, .int .i64 0]
  simp only [World.size_alloc] at hT0
  have hb0 : Below w.heap.size w ((w.alloc (.cells #[.slice A L.length c] 25)).alloc (.cells #[.slice none 0 0, .int .i64 0] 29)) := ((Below.refl _ _).alloc (Nat.le_refl _) _).alloc (by simp) _
  have h12 : L.length ≤ 100 := by
    have hok : fsOK L = true := by unfold openOK at hgood; simp only [Bool.and_eq_true] at hgood; exact hgood.1
    have := (fsOK_iff.1 hok).1; omega
  have O := open_ok A L c B N d _ ((hL.below hb0 (Nat.le_refl _)).mono hb0.size) (hN.below hb0) hl hs hlong hgood
  obtain ⟨cd, hcd⟩ : ∃ cd, Hid ([2, 1, 6, 8, 9].getD i (0 : Int) = cd) := ⟨_, Lib.hid rfl⟩
  rw [hcd.out]
  go_enter Tryz.func39, Tryz.ntmps39
  go_wp2_with (fail)
  refine O.mono ?_
  rintro e w1 ⟨b, rfl, hM, hbb, hb1⟩
  have hw1 := hb0.trans (hb1.mono hb0.size)
  have hT1 := hT0.below hb1 hT0.lt
  have hen' : ∀ args w, (callFunc F args).run Tryz.prog w = .ok (.enter F args) w := hen
  go_wp2_with (fail)
  refine (HC.out w1 b L.length hw1 (Nat.le_trans hb0.size hbb) hM h12).mono ?_
  rintro e w2 ⟨rfl, hb2⟩
  have hw2 := hw1.trans (hb2.mono hw1.size)
  have hT2 := hT1.below hb2 hT1.lt
  have FC := fileCode_any a0 a1 a2 a3 a4 w2 (hE.below hw2) i ai hi
  rw [hcd.out] at FC
  have t0 := hT2.cell (i := 0) rfl
  have t1 := hT2.cell (i := 1) rfl
  have f0 := hT2.froz 0
  have f1 := hT2.froz 1
  go_wp2_with (fail)
  refine FC.mono ?_
  rintro e w3 ⟨rfl, rfl⟩
  go_wp2
  have hp := (hT2.put 0 (.slice none 0 0)).put 1 (.int .i64 cd)
  have k0 := hp.cell (i := 0) rfl
  have k1 := hp.cell (i := 1) rfl
  refine bodyPost_ret (v := fsOut (.slice none 0 0) cd) (by simp only [results, Tryz.results39]; simp [go_sem, k0, k1]) rfl ⟨rfl, ?_⟩
  exact (hw2.setCell (by simp) _).setCell (by simp) _

set_option maxHeartbeats 4000000 in
theorem change_ok (A : Option Addr) (L : List Fil) (c : Nat) (B : Option Addr) (N : List ByteArray) (d : Nat) (F : Nat) (caps : Array Value) (M : List Fil) (w : World) (hL : Fls w w.heap.size A L) (hN : StrA w B N) (hl : N.length ≤ 100) (hs : ∀ s ∈ N, s.size ≤ maxLen) (hlong : anyLong N = false) (hgood : openOK L N = true)
    (hen : Enters F) (hR : Rising M) (hMf : ∀ f ∈ M, f.fits) (hMS : Small M)
    (HC : Hid (∀ W b n, Below w.heap.size w W → w.heap.size ≤ b → MapF W b n L → n ≤ 100 → Calls Tryz.prog F (#[.map (some b)] ++ caps) W fun e w' => e = .returned .nilIface ∧ (∃ m, m ≤ 1000 ∧ MapF w' b m M) ∧ W.grownBy w' (some b))) :
    Calls Tryz.prog 39 #[.agg #[.slice A L.length c], .func (.func F) #[] caps, .slice B N.length d] w fun e w' => ∃ C x, e = .returned (fsOut (.slice C M.length x) 0) ∧ OwnF w' w.heap.size (.slice C M.length x) M ∧ Below w.heap.size w w' := by
  have hT0 := Blk.fresh (w.alloc (.cells #[.slice A L.length c] 25)) 29 [.slice none 0 0, .int .i64 0]
  simp only [World.size_alloc] at hT0
  have hb0 : Below w.heap.size w ((w.alloc (.cells #[.slice A L.length c] 25)).alloc (.cells #[.slice none 0 0, .int .i64 0] 29)) := ((Below.refl _ _).alloc (Nat.le_refl _) _).alloc (by simp) _
  have hz0 : ((w.alloc (.cells #[.slice A L.length c] 25)).alloc (.cells #[.slice none 0 0, .int .i64 0] 29)).heap.size = w.heap.size + 2 := by simp
  have h12 : L.length ≤ 100 := by
    have hok : fsOK L = true := by unfold openOK at hgood; simp only [Bool.and_eq_true] at hgood; exact hgood.1
    have := (fsOK_iff.1 hok).1; omega
  have O := open_ok A L c B N d _ ((hL.below hb0 (Nat.le_refl _)).mono hb0.size) (hN.below hb0) hl hs hlong hgood
  go_enter Tryz.func39, Tryz.ntmps39
  go_wp2_with (fail)
  refine O.mono ?_
  rintro e w1 ⟨b, rfl, hM, hbb, hb1⟩
  have hw1 := hb0.trans (hb1.mono hb0.size)
  have hT1 := hT0.below hb1 hT0.lt
  rw [hz0] at hbb
  have hen' : ∀ args w, (callFunc F args).run Tryz.prog w = .ok (.enter F args) w := hen
  go_wp2_with (fail)
  refine (HC.out w1 b L.length hw1 (by omega) hM h12).mono ?_
  rintro e w2 ⟨rfl, ⟨m, hm, hM2⟩, hg2⟩
  have hw2 : Below w.heap.size w w2 := hw1.grown hg2 hw1.size (fun k e => by cases e; omega)
  have hT2 := hT1.grown hg2 (by simp; omega)
  go_wp2_with (fail)
  refine (list_any b m M w2 hM2 hm hR hMf hMS).mono ?_
  rintro e w3 ⟨C, x, rfl, hO, hb3⟩
  have hw3 := hw2.trans (hb3.mono hw2.size)
  have hT3 := hT2.below hb3 hT2.lt
  have hTl := hT2.lt
  have t0 := hT3.cell (i := 0) rfl
  have t1 := hT3.cell (i := 1) rfl
  have f0 := hT3.froz 0
  have f1 := hT3.froz 1
  go_wp2
  have hp := (hT3.put 0 (.slice C M.length x)).put 1 (.int .i64 0)
  have k0 := hp.cell (i := 0) rfl
  have k1 := hp.cell (i := 1) rfl
  have hO4 := (OwnF.far (OwnF.far hO (p := ⟨w.heap.size + 1, 0, none⟩) (by simpa using hTl) (.slice C M.length x)) (p := ⟨w.heap.size + 1, 1, none⟩) (by simpa using hTl) (.int .i64 0))
  refine bodyPost_ret (v := fsOut (.slice C M.length x) 0) (by simp only [results, Tryz.results39]; simp [go_sem, k0, k1]) rfl ⟨C, x, rfl, OwnF.base hO4 (by have := hw2.size; omega), ?_⟩
  exact (hw3.setCell (by simp) _).setCell (by simp) _
end Go.Proofs.YtpgodphnjeifhaaGreatDoor

namespace Go.Proofs.YtpgodphnjeifhaaGreatDoor
open Go.RowKit
set_option linter.unusedVariables false
set_option maxRecDepth 1000000

theorem MapF.below {w w' : World} {b n : Nat} {L : List Fil} (h : MapF w b n L) (hb : Below w.heap.size w w') : MapF w' b n L := World.ownsMap.kept h (grown_none hb (Nat.le_refl _)) (by simp)

set_option maxHeartbeats 2000000 in
theorem sync_some (b n : Nat) (L : List Fil) (s : ByteArray) (f : Fil) (w : World) (hM : MapF w b n L) (hn : n ≤ 1000) (hs : s.size ≤ maxLen) (hf : findF L s = some f) (hff : f.fits) (hfn : f.name = s) :
    Calls Tryz.prog 63 #[.map (some b), .string s] w fun e w' => e = .returned .nilIface ∧ MapF w' b (n + 1) (putL L ⟨f.name, f.data, (f.data.size : Int)⟩) ∧ w.grownBy w' (some b) := by
  have Fi := find_some b n L s f w hM hs hf
  obtain ⟨s0, s1, k⟩ := f
  simp only at hfn
  subst hfn
  unfold Fil.val at Fi
  simp only at Fi
  have hbl := World.ownsMap.lt hM
  go_enter Tryz.func63, Tryz.ntmps63
  go_wp2_with (fail)
  refine Fi.mono ?_
  rintro e w1 ⟨rfl, hb1⟩
  have hb2 := hb1.alloc hb1.size (.cells #[.string s0, .string s1, .int .i64 k] 53)
  have Sy := syncedFile_any ⟨s0, s1, k⟩ (w1.alloc (.cells #[.string s0, .string s1, .int .i64 k] 53)) hff
  unfold Fil.val at Sy
  simp only at Sy
  go_wp2_with (fail)
  refine Sy.mono ?_
  rintro e w3 ⟨rfl, hb3⟩
  have hb03 : Below w.heap.size w w3 := hb2.trans (hb3.mono hb2.size)
  have hM3 := hM.below hb03
  go_wp2_with (at_mapUpdate; refine wpList_mapUpdate_own _ rfl _ _ _ 62 rfl 9 53 keyed Tryz.underlying62 filElem b n _ rfl hM3 (by unfold maxLen; omega) _ _ _ rfl rfl (key_mk hs) (fileD ⟨s0, s1, (s1.size : Int)⟩) [] (filElem_mk ⟨s0, s1, (s1.size : Int)⟩) ?_)
  intro w5 hM5 hg5
  have hp := put_D L ⟨s0, s1, (s1.size : Int)⟩
  simp only at hp
  rw [hp] at hM5
  go_wp2
  go_ret
  exact ⟨rfl, hM5, ⟨hg5.os.trans hb03.os, hg5.tape.trans hb03.tape, hg5.output.trans hb03.output, Nat.le_trans hb03.size hg5.size, fun j hj hne => (hg5.block j (by have := hb03.size; omega) hne).trans (hb03.block j hj)⟩⟩

set_option maxHeartbeats 2000000 in
theorem sync_none (b n : Nat) (L : List Fil) (s : ByteArray) (a0 a1 a2 a3 a4 : Addr) (w : World) (hM : MapF w b n L) (hs : s.size ≤ maxLen) (hE : Errs w a0 a1 a2 a3 a4) (hf : findF L s = none) :
    Calls Tryz.prog 63 #[.map (some b), .string s] w fun e w' => e = .returned (errV a2) ∧ Below w.heap.size w w' := by
  have Fi := find_none b n L s a0 a1 a2 a3 a4 w hM hs hE hf
  unfold Fil.val zeroFil at Fi
  simp only at Fi
  go_enter Tryz.func63, Tryz.ntmps63
  go_wp2_with (fail)
  refine Fi.mono ?_
  rintro e w1 ⟨rfl, hb1⟩
  go_wp2
  go_ret
  exact ⟨rfl, hb1.alloc hb1.size _⟩
end Go.Proofs.YtpgodphnjeifhaaGreatDoor
