/- impl.SeglogDrop. Files that lie between two blocks, read only. The specification's copy of a file system, and its smaller of two numbers. -/
import Derived.Test.YtebkblmejkkhfaaGreatDoorMarkFW
import Derived.Test.YtebkblmejkkhfaaGreatDoorFSpecW
import Derived.Test.YtebkblmejkkhfaaGreatDoorFsIllW
import Derived.Test.YtebkblmejkkhfaaGreatDoorChgW
import Derived.Test.YtebkblmejkkhfaaGreatDoorFilRightW
namespace Go.Proofs.YtebkblmejkkhfaaGreatDoor
open Go.RowKit
set_option linter.unusedVariables false
set_option linter.unusedSimpArgs false
set_option maxRecDepth 1000000

/-- How many segments are dropped. -/
def dropN (f m b : Int) : Nat := if b ≤ f then 0 else (min (b - f) m / 4).toNat
theorem logB_nums {L : List Fil} {f m : Int} (h : logB L f m = true) : 0 ≤ f ∧ f ≤ 900000 ∧ 0 ≤ m ∧ m ≤ 60 ∧ f + m ≤ 900000 ∧ (L.length : Int) = m / 4 + 1 ∧ L.length ≤ 12 := by
  have h1 := logB_iff.1 h
  obtain ⟨g1, g2, g3, g4, g5, g6⟩ := numOK_iff.1 h1.2.1
  exact ⟨g1, g2, g4, g5, g6, h1.2.2.1, (fsOK_iff.1 h1.1).1⟩
theorem dropN_lt {f m b : Int} (h0 : 0 ≤ m) : ((dropN f m b : Nat) : Int) ≤ m / 4 := by
  unfold dropN
  split
  · simp; omega
  · omega
theorem droppable_any (v : Value) (f m b : Int) (w : World) (h1 : 0 ≤ f) (h2 : f ≤ 900000) (h3 : 0 ≤ m) (h4 : m ≤ 60) (hb : (Lit.int .i64 b).wf = true) :
    Calls Tryz.prog 118 #[segV v f m, .int .i64 b] w fun e w' => e = .returned (.int .i64 (dropN f m b : Int)) ∧ Below w.heap.size w w' := by
  have b64 := wf_i64 hb
  have hb0 : Below w.heap.size w (w.alloc (.cells #[v, .int .i64 f, .int .i64 m] 61)) := (Below.refl _ _).alloc (Nat.le_refl _) _
  by_cases h : b ≤ f
  · go_enter Tryz.func118, Tryz.ntmps118
    go_wp2
    go_ret
    exact ⟨retI (by unfold dropN; rw [if_pos h]; rfl), hb0⟩
  · have hmin : 0 ≤ min (b - f) m := by omega
    go_enter Tryz.func118, Tryz.ntmps118
    go_wp2
    go_ret
    exact ⟨retI (by unfold dropN; rw [if_neg (by omega)]; omega), hb0⟩
open Classical in
/-- The files, the first number, the count and the code that SeglogDrop answers. -/
noncomputable def dropO (L : List Fil) (f m b : Int) : List Fil := if logB L f m = true then L.drop (dropN f m b) else []
open Classical in
noncomputable def dropI (L : List Fil) (f m b x : Int) : Int := if logB L f m = true then x else 0
open Classical in
noncomputable def dropC (L : List Fil) (f m : Int) : Int := if logB L f m = true then 0 else 1

set_option maxHeartbeats 8000000 in
theorem implDrop_any (A : Option Addr) (L : List Fil) (c : Nat) (f m b : Int) (w : World) (hL : Fls w w.heap.size A L) (hS : Small L) (hc : L.length ≤ c) (hcm : c ≤ maxLen) (hfw : (Lit.int .i64 f).wf = true) (hmw : (Lit.int .i64 m).wf = true) (hbw : (Lit.int .i64 b).wf = true) (hP : Pow w) (hH : Handle w) (hSg : Seg w) :
    Calls Tryz.prog 57 #[segV (.slice A L.length c) f m, .int .i64 b] w fun e w' => ∃ (C : Option Addr) (x : Nat), e = .returned (slOut (.slice C (dropO L f m b).length x) (dropI L f m b (f + (dropN f m b : Int) * 4)) (dropI L f m b (m - (dropN f m b : Int) * 4)) (.slice none 0 0) (dropC L f m)) ∧ OwnF w' w.heap.size (.slice C (dropO L f m b).length x) (dropO L f m b) ∧ Below w.heap.size w w' := by
  have hn := hS.1
  unfold maxLen at hcm
  have hf : ∀ f ∈ L, f.fits := fun f h => by obtain ⟨i, hi, rfl⟩ := List.getElem_of_mem h; exact (hL.2 i hi).choose_spec.2.2.2.2.2
  have hb0 : Below w.heap.size w ((w.alloc (.cells #[.slice A L.length c, .int .i64 f, .int .i64 m] 61)).alloc (.cells #[.slice none 0 0, .int .i64 0, .int .i64 0, .slice none 0 0, .int .i64 0] 63)) := ((Below.refl _ _).alloc (Nat.le_refl _) _).alloc (by simp) _
  have k0 := (Blk.fresh w 61 [.slice A L.length c, .int .i64 f, .int .i64 m]).alloc (.cells #[.slice none 0 0, .int .i64 0, .int .i64 0, .slice none 0 0, .int .i64 0] 63)
  have k1 := Blk.fresh (w.alloc (.cells #[.slice A L.length c, .int .i64 f, .int .i64 m] 61)) 63 [.slice none 0 0, .int .i64 0, .int .i64 0, .slice none 0 0, .int .i64 0]
  simp only [List.toArray, World.size_alloc] at k0 k1
  have HR := Lib.hid (implSeglogRight_any A L c f m _ ((hL.below hb0 (Nat.le_refl _)).mono hb0.size) hfw hmw (hP.below hb0) (Handle.below hH hb0) (hSg.below hb0))
  clear hfw hmw
  go_enter Tryz.func57, Tryz.ntmps57
  go_wp2_with (fail)
  refine HR.out.mono ?_
  clear HR
  generalize (w.alloc (.cells #[.slice A L.length c, .int .i64 f, .int .i64 m] 61)).alloc (.cells #[.slice none 0 0, .int .i64 0, .int .i64 0, .slice none 0 0, .int .i64 0] 63) = w1 at hb0 k0 k1 ⊢
  rintro e w2 ⟨rfl, hb2⟩
  have q0 := k0.below hb2 k0.lt
  have q1 := k1.below hb2 k1.lt
  have hw2 := hb0.trans (hb2.mono hb0.size)
  have c0 := q0.cell (i := 0) rfl
  have c1 := q0.cell (i := 1) rfl
  have c2 := q0.cell (i := 2) rfl
  clear k0 k1 hb0 hb2
  rcases Bool.eq_false_or_eq_true (logB L f m) with hBB | hBB
  · obtain ⟨g1, g2, g3, g4, g5, g6, g7⟩ := logB_nums hBB
    have hql := dropN_lt (f := f) (b := b) g3
    obtain ⟨q, HQ⟩ : ∃ q, Hid (dropN f m b = q) := ⟨_, Lib.hid rfl⟩
    have R1 := Lib.hid (show dropO L f m b = L.drop (dropN f m b) by unfold dropO; rw [if_pos hBB])
    have R2 : Hid (∀ x, dropI L f m b x = x) := Lib.hid (fun x => by unfold dropI; rw [if_pos hBB])
    have R3 := Lib.hid (show dropC L f m = 0 by unfold dropC; rw [if_pos hBB])
    rw [HQ.out] at hql R1
    have HD := Lib.hid (fun W => droppable_any (.slice A L.length c) f m b W g1 g2 g3 g4 hbw)
    rw [HQ.out] at HD
    have hqL : q < L.length := by omega
    have HG6 := Lib.hid g6
    rw [hBB]
    clear hBB g6
    go_wp2_with (fail)
    refine (HD.out _).mono ?_
    rintro e w3 ⟨rfl, hb3⟩
    have p0 := q0.below hb3 q0.lt
    have p1 := q1.below hb3 q1.lt
    have hw3 := hw2.trans (hb3.mono hw2.size)
    clear c0 c1 c2 q0 q1 hw2 hb3
    have c0 := p0.cell (i := 0) rfl
    have c1 := p0.cell (i := 1) rfl
    have c2 := p0.cell (i := 2) rfl
    have h0 := p0.alloc (.cells #[.slice none 0 0, .int .i64 (f + (q : Int) * 4), .int .i64 (m - (q : Int) * 4)] 61)
    have h1 := p1.alloc (.cells #[.slice none 0 0, .int .i64 (f + (q : Int) * 4), .int .i64 (m - (q : Int) * 4)] 61)
    have h3 := Blk.fresh w3 61 [.slice none 0 0, .int .i64 (f + (q : Int) * 4), .int .i64 (m - (q : Int) * 4)]
    have hw4 := hw3.alloc hw3.size (.cells #[.slice none 0 0, .int .i64 (f + (q : Int) * 4), .int .i64 (m - (q : Int) * 4)] 61)
    have hO2 := p1.lt
    simp only [List.toArray] at h3
    have d0 := h0.cell (i := 0) rfl
    have hz4 : (w3.alloc (.cells #[.slice none 0 0, .int .i64 (f + (q : Int) * 4), .int .i64 (m - (q : Int) * 4)] 61)).heap.size = w3.heap.size + 1 := by simp
    obtain ⟨a, hAa, _⟩ := hL.2 0 (by omega)
    subst hAa
    have hqc : ¬ c = q := by omega
    have hqc2 : q ≤ c := by omega
    go_wp2
    generalize w3.alloc (.cells #[.slice none 0 0, .int .i64 (f + (q : Int) * 4), .int .i64 (m - (q : Int) * 4)] 61) = w4 at h0 h1 h3 hw4 d0 hz4 ⊢
    generalize hOO : w3.heap.size = O at *
    clear c0 c1 c2 d0 p0 p1 hw3 hqc hqc2
    have hDl : (L.drop q).length = L.length - q := by simp
    have hfl : ∀ f ∈ L.drop q, f.fits := fun f h => hf f (List.mem_of_mem_drop h)
    have HDL := Lib.hid hDl
    obtain ⟨n, Hn⟩ : ∃ n, Hid (L.length - q = n) := ⟨_, Lib.hid rfl⟩
    have hnq : n ≤ 12 ∧ n + q ≤ L.length ∧ L.length ≤ n + q := by have := Hn.out; omega
    rw [Hn.out]
    clear hDl
    go_loopw [8, 33] (fun _ i wr => ∃ (k : Nat) (v : Value), k ≤ n ∧ i = .int .i64 k ∧ O + 1 ≤ wr.heap.size ∧ OwnF wr (O + 1) v ((L.drop q).take k) ∧ Blk wr O 61 [v, .int .i64 (f + (q : Int) * 4), .int .i64 (m - (q : Int) * 4)] ∧ Blk wr w.heap.size 61 [.slice (some a) L.length c, .int .i64 f, .int .i64 m] ∧ Blk wr (w.heap.size + 1) 63 [.slice none 0 0, .int .i64 0, .int .i64 0, .slice none 0 0, .int .i64 0] ∧ Below w.heap.size w wr) (fun _ i _ => n - (intOf i).toNat)
    case atStart => exact ⟨0, _, by omega, rfl, by omega, ⟨World.ownsRow_nil _ _ _ _, by simp⟩, h3, h0, h1, hw4⟩
    case round =>
      obtain ⟨k, v, hk, rfl, hB, hF, hO, hP3a, hQ3a, hb⟩ := hrel
      by_cases hlt : k < n
      · obtain ⟨a', ha', hab, c0, c1, c2, hff⟩ := (hL.below hb (Nat.le_refl _)).at (q + k) (by omega)
        cases ha'
        have hlt' : (k : Int) < (n : Int) := by omega
        have hgk : (L.drop q)[k]'(by rw [HDL.out]; omega) = L[q + k]'(by omega) := by simp
        obtain ⟨n0, n1, n2, HE0⟩ : ∃ n0 n1 n2, Hid (L[q + k]'(by omega) = ⟨n0, n1, n2⟩) := ⟨_, _, _, Lib.hid rfl⟩
        rw [HE0.out] at c0 c1 c2
        simp only at c0 c1 c2
        have HE : Hid ((L.drop q)[k]'(by rw [HDL.out]; omega) = ⟨n0, n1, n2⟩) := Lib.hid (by rw [hgk, HE0.out])
        have Fr := fun W => freshFile_any (⟨n0, n1, n2⟩ : Fil) W (by have := (hS.2 (q + k) (by omega)).1; rw [HE0.out] at this; exact this) (by have := (hS.2 (q + k) (by omega)).2; rw [HE0.out] at this; exact this)
        unfold Fil.val at Fr
        simp only at Fr
        have ead : (a.add (q * 3)).add (k * 3) = a.add ((q + k) * 3) := by rw [ofNat_add]; congr 1; omega
        clear hgk
        have hFB := Blk.fresh wr 53 [.string n0, .string n1, .int .i64 n2]
        have hP3 := hP3a.alloc (.cells #[.string n0, .string n1, .int .i64 n2] 53)
        have hQ3 := hQ3a.alloc (.cells #[.string n0, .string n1, .int .i64 n2] 53)
        have hO3 := hO.alloc (.cells #[.string n0, .string n1, .int .i64 n2] 53)
        have hb3 := hb.alloc hb.size (.cells #[.string n0, .string n1, .int .i64 n2] 53)
        have hF3 := hF.below (w' := wr.alloc (.cells #[.string n0, .string n1, .int .i64 n2] 53)) ((Below.refl _ _).alloc (Nat.le_refl _) _) (Nat.le_refl _)
        have hz3 : wr.heap.size + 1 ≤ (wr.alloc (.cells #[.string n0, .string n1, .int .i64 n2] 53)).heap.size := by simp
        simp only [List.toArray] at hFB
        go_wp2
        generalize wr.alloc (.cells #[.string n0, .string n1, .int .i64 n2] 53) = w3' at hFB hP3 hQ3 hO3 hb3 hF3 hz3 ⊢
        generalize hBr : wr.heap.size = B at *
        have hPlt := hP3a.lt
        have hOlt := hO.lt
        rw [hBr] at hPlt hOlt
        clear c0 c1 c2 ead hF hO hP3a hQ3a hb
        obtain ⟨i0, hi, hz0, hz1, hz2⟩ := info_parts infoFile
        have nvo : v.ownBlock ≠ some (O) := fun e => by have := (hF3.1.lt _ e).1; omega
        have nvhP3 : v.ownBlock ≠ some (w.heap.size) := fun e => by have := (hF3.1.lt _ e).1; omega
        have nvhQ3 : v.ownBlock ≠ some (w.heap.size + 1) := fun e => by have := (hF3.1.lt _ e).1; omega
        have y0 := hO3.drew.cell (i := 0) rfl
        have x0 := hFB.drew.cell (i := 0) rfl
        have x1 := hFB.drew.cell (i := 1) rfl
        have x2 := hFB.drew.cell (i := 2) rfl
        have hFd := hF3.drew
        have hOd := hO3.drew
        have HLT : Hid (((L.drop q).take k).length = k) := Lib.hid (by rw [List.length_take, HDL.out]; omega)
        have hFk := hFd.1
        rw [HLT.out] at hFk
        go_region_law
          (first
            | (go_simp; go_at_call 97; refine (Fr _).mono ?_; rintro e w4 ⟨rfl, hb4⟩; have y4 := kept_cell hb4 y0; have y4a := kept_cell (show Below w4.heap.size w4 (w4.alloc (.cells #[.string n0, .string n1, .int .i64 n2] 53)) from (Below.refl _ _).alloc (Nat.le_refl _) _) y4)
            | (refine step_append_lies _ (by rfl) _ _ _ (by rfl) (O + 1) 53 i0 _ 3 40 Tryz.underlying23 hi hz0 hz1 hz2 rfl (by omega) v k _ (by rfl) (World.ownsRow.alloc (row_below hFk hb4 (Nat.le_refl _)) _)
                          ⟨w4.heap.size, 0, none⟩ 1 1 [.string n0, .string n1, .int .i64 n2] (by rfl) (by rfl) (World.news_of_block (cs := #[.string n0, .string n1, .int .i64 n2]) (t := 53) (fr := (0, 0)) (heap_alloc_new w4 _)) (by simp [Value.oneCell'])
                          (by omega) (by have h := HLT.out; unfold maxLen; omega) (by have h := HLT.out; omega) (by have h := hb4.size; simp only [World.size_drew, World.size_alloc] at h ⊢; omega) (w4.heap.size + 1) (by simp) ?_; intro gg cap' w5 hown5 hgrow5 hat5 hlt5; have q4 : Below w4.heap.size w4 (w4.alloc (.cells #[.string n0, .string n1, .int .i64 n2] 53)) := (Below.refl _ _).alloc (Nat.le_refl _) _; have hO5 := ((hOd.below hb4 hOd.lt).below q4 (hOd.below hb4 hOd.lt).lt).grown hgrow5 (Ne.symm nvo); have y5 := hO5.cell (i := 0) rfl; have f5 := hO5.froz 0))
        all_goals
          have q4 : Below w4.heap.size w4 (w4.alloc (.cells #[.string n0, .string n1, .int .i64 n2] 53)) := (Below.refl _ _).alloc (Nat.le_refl _) _
          have q5 := hb4.trans (q4.mono hb4.size)
          have hP36 := ((hP3.drew.below q5 hP3.drew.lt).grown hgrow5 (Ne.symm nvhP3)).far (p := ⟨O, 0, none⟩) (by simp; try omega) (.slice (some ⟨gg, 0, none⟩) (k + 1) cap')
          have hQ36 := ((hQ3.drew.below q5 hQ3.drew.lt).grown hgrow5 (Ne.symm nvhQ3)).far (p := ⟨O, 0, none⟩) (by simp; try omega) (.slice (some ⟨gg, 0, none⟩) (k + 1) cap')
          have hw6 := (((below_drew hb3).trans (q5.mono (by exact hb3.size))).grown hgrow5 (by have h2 := hb4.size; have h3 := hb3.size; simp at h2 ⊢; omega) (fun j e => by have := (hF3.1.lt _ e).1; omega)).setCell (p := ⟨O, 0, none⟩) (by simp; try omega) (.slice (some ⟨gg, 0, none⟩) (k + 1) cap')
          have hO6 := hO5.put 0 (.slice (some ⟨gg, 0, none⟩) (k + 1) cap')
          have hsz6 := hgrow5.size
          have hs4 := hb4.size
          simp only [World.size_alloc, World.size_drew] at hsz6 hs4
          have hF6 : OwnF (w5.setCell ⟨O, 0, none⟩ (.slice (some ⟨gg, 0, none⟩) (k + 1) cap')) (O + 1) (.slice (some ⟨gg, 0, none⟩) (k + 1) cap') ((L.drop q).take (k + 1)) := by
            refine ⟨row_far (p := ⟨O, 0, none⟩) ?_ (by simp; try omega) _, fun f h => hfl f (List.mem_of_mem_take h)⟩
            have e1 : ((L.drop q).take (k + 1)).length = k + 1 := by rw [List.length_take, HDL.out]; omega
            have e2 : flat ((L.drop q).take (k + 1)) = flat ((L.drop q).take k) ++ [.string n0, .string n1, .int .i64 n2] := by
              rw [List.take_succ_eq_append_getElem (by rw [HDL.out]; omega), flat_append, HE.out]; rfl
            rw [e1, e2]
            exact hown5
          go_wp2
          exact ⟨⟨k + 1, _, by omega, by go_num, by simp; omega, hF6, hO6, hP36, hQ36, hw6⟩, by simp [intOf]; omega⟩
      · obtain rfl : k = n := by omega
        rw [List.take_of_length_le (by rw [HDL.out]; omega)] at hF
        obtain ⟨C, x, rfl, _⟩ := hF.slice
        have o0 := hO.cell (i := 0) rfl; have o1 := hO.cell (i := 1) rfl; have o2 := hO.cell (i := 2) rfl; have fo0 := hO.froz 0; have fo1 := hO.froz 1; have fo2 := hO.froz 2; 
        have t0 := hQ3a.cell (i := 0) rfl; have t1 := hQ3a.cell (i := 1) rfl; have t2 := hQ3a.cell (i := 2) rfl; have t3 := hQ3a.cell (i := 3) rfl; have t4 := hQ3a.cell (i := 4) rfl; have ft0 := hQ3a.froz 0; have ft1 := hQ3a.froz 1; have ft2 := hQ3a.froz 2; have ft3 := hQ3a.froz 3; have ft4 := hQ3a.froz 4; 
        have hRL : (L.drop q).length = k := by rw [HDL.out]; omega
        rw [hRL] at hF hO o0
        go_wp2
        have r1 := ((((hQ3a.put 0 (.slice C k x)).put 1 (.int .i64 (f + (q : Int) * 4))).put 2 (.int .i64 (m - (q : Int) * 4))).put 3 (.slice none 0 0)).put 4 (.int .i64 0)
        have r2 := ((((hF.far (p := ⟨w.heap.size + 1, 0, none⟩) (by simp; omega) (.slice C k x)).far (p := ⟨w.heap.size + 1, 1, none⟩) (by simp; omega) (.int .i64 (f + (q : Int) * 4))).far (p := ⟨w.heap.size + 1, 2, none⟩) (by simp; omega) (.int .i64 (m - (q : Int) * 4))).far (p := ⟨w.heap.size + 1, 3, none⟩) (by simp; omega) (.slice none 0 0)).far (p := ⟨w.heap.size + 1, 4, none⟩) (by simp; omega) (.int .i64 0)
        have r3 := ((((hb.setCell (p := ⟨w.heap.size + 1, 0, none⟩) (by simp) (.slice C k x)).setCell (p := ⟨w.heap.size + 1, 1, none⟩) (by simp) (.int .i64 (f + (q : Int) * 4))).setCell (p := ⟨w.heap.size + 1, 2, none⟩) (by simp) (.int .i64 (m - (q : Int) * 4))).setCell (p := ⟨w.heap.size + 1, 3, none⟩) (by simp) (.slice none 0 0)).setCell (p := ⟨w.heap.size + 1, 4, none⟩) (by simp) (.int .i64 0)
        generalize ((((wr.setCell ⟨w.heap.size + 1, 0, none⟩ (.slice C k x)).setCell ⟨w.heap.size + 1, 1, none⟩ (.int .i64 (f + (q : Int) * 4))).setCell ⟨w.heap.size + 1, 2, none⟩ (.int .i64 (m - (q : Int) * 4))).setCell ⟨w.heap.size + 1, 3, none⟩ (.slice none 0 0)).setCell ⟨w.heap.size + 1, 4, none⟩ (.int .i64 0) = w9 at r1 r2 r3 ⊢
        have y0 := r1.cell (i := 0) rfl
        have y1 := r1.cell (i := 1) rfl
        have y2 := r1.cell (i := 2) rfl
        have y3 := r1.cell (i := 3) rfl
        have y4 := r1.cell (i := 4) rfl
        exact bodyPost_ret (v := .agg #[.slice C k x, .int .i64 (f + (q : Int) * 4), .int .i64 (m - (q : Int) * 4), .slice none 0 0, .int .i64 0]) (by simp [results, Tryz.results57, go_sem, y0, y1, y2, y3, y4]) rfl ⟨C, x, by rw [R1.out, R2.out, R2.out, R3.out, HQ.out, hRL], by rw [R1.out, hRL]; exact r2.base (by omega), r3⟩
  · have R1 := Lib.hid (show dropO L f m b = [] by unfold dropO; rw [if_neg (by simp [hBB])])
    have R2 : Hid (∀ x, dropI L f m b x = 0) := Lib.hid (fun x => by unfold dropI; rw [if_neg (by simp [hBB])])
    have R3 := Lib.hid (show dropC L f m = 1 by unfold dropC; rw [if_neg (by simp [hBB])])
    rw [hBB]
    clear hBB
    have t0 := q1.cell (i := 0) rfl; have t1 := q1.cell (i := 1) rfl; have t2 := q1.cell (i := 2) rfl; have t3 := q1.cell (i := 3) rfl; have t4 := q1.cell (i := 4) rfl; have ft0 := q1.froz 0; have ft1 := q1.froz 1; have ft2 := q1.froz 2; have ft3 := q1.froz 3; have ft4 := q1.froz 4; 
    go_wp2
    have r1 := ((((q1.put 0 (.slice none 0 0)).put 1 (.int .i64 0)).put 2 (.int .i64 0)).put 3 (.slice none 0 0)).put 4 (.int .i64 1)
    have r3 := ((((hw2.setCell (p := ⟨w.heap.size + 1, 0, none⟩) (by simp) (.slice none 0 0)).setCell (p := ⟨w.heap.size + 1, 1, none⟩) (by simp) (.int .i64 0)).setCell (p := ⟨w.heap.size + 1, 2, none⟩) (by simp) (.int .i64 0)).setCell (p := ⟨w.heap.size + 1, 3, none⟩) (by simp) (.slice none 0 0)).setCell (p := ⟨w.heap.size + 1, 4, none⟩) (by simp) (.int .i64 1)
    generalize ((((w2.setCell ⟨w.heap.size + 1, 0, none⟩ (.slice none 0 0)).setCell ⟨w.heap.size + 1, 1, none⟩ (.int .i64 0)).setCell ⟨w.heap.size + 1, 2, none⟩ (.int .i64 0)).setCell ⟨w.heap.size + 1, 3, none⟩ (.slice none 0 0)).setCell ⟨w.heap.size + 1, 4, none⟩ (.int .i64 1) = w9 at r1 r3 ⊢
    have y0 := r1.cell (i := 0) rfl
    have y1 := r1.cell (i := 1) rfl
    have y2 := r1.cell (i := 2) rfl
    have y3 := r1.cell (i := 3) rfl
    have y4 := r1.cell (i := 4) rfl
    exact bodyPost_ret (v := .agg #[.slice none 0 0, .int .i64 0, .int .i64 0, .slice none 0 0, .int .i64 1]) (by simp [results, Tryz.results57, go_sem, y0, y1, y2, y3, y4]) rfl ⟨none, 0, by rw [R1.out, R2.out, R2.out, R3.out]; rfl, by rw [R1.out]; exact ownF_nil _ _, r3⟩
end Go.Proofs.YtebkblmejkkhfaaGreatDoor

namespace Go.Proofs.YtebkblmejkkhfaaGreatDoor
open Go.RowKit
set_option linter.unusedVariables false

/-- The files of a slice, their block between lo and hi. -/
def Fw (w : World) (lo hi : Nat) (A : Option Addr) (L : List Fil) : Prop := hi ≤ w.heap.size ∧ Fls w hi A L ∧ ∀ a, A = some a → 0 < L.length → lo ≤ a.block
section
variable {w w' : World} {lo hi : Nat} {A : Option Addr} {L : List Fil}
theorem Fw.below (h : Fw w lo hi A L) (hb : Below w.heap.size w w') : Fw w' lo hi A L := ⟨Nat.le_trans h.1 hb.size, h.2.1.below hb h.1, h.2.2⟩
theorem Fw.farC {lo' hi' : Nat} (h : Fw w lo hi A L) (hc : Chg w w' lo' hi') (ho : hi ≤ lo' ∨ hi' ≤ lo) : Fw w' lo hi A L := by
  refine ⟨Nat.le_trans h.1 hc.size, ⟨h.2.1.1, fun i hi' => ?_⟩, h.2.2⟩
  obtain ⟨a, e, hab, c0, c1, c2, hf⟩ := h.2.1.2 i hi'
  have hlo := h.2.2 a e (by omega)
  have hs := h.1
  have same : ∀ q : Addr, q.block = a.block → w'.cell? q = w.cell? q := fun q hq => World.cell?_of_block (by rw [hq]; exact hc.block a.block (by omega) (by omega))
  refine ⟨a, e, hab, ?_, ?_, ?_, hf⟩
  · rw [same _ (add_blk _ _)]; exact c0
  · rw [same _ (add_blk _ _)]; exact c1
  · rw [same _ (add_blk _ _)]; exact c2
theorem Fw.fls (h : Fw w lo hi A L) (_ : ∀ f ∈ L, f.fits) : Fls w w.heap.size A L := h.2.1.mono h.1
theorem Fw.ofOwn {n c : Nat} (h : OwnF w lo (.slice A n c) L) : Fw w lo w.heap.size A L := by
  refine ⟨Nat.le_refl _, OwnF.fls h, fun a e hl => ?_⟩
  subst e
  rcases h.1.2 with ⟨hv, _⟩ | ⟨g, cap, cur, hv, hb, _⟩
  · cases hv
  · cases hv; exact hb
end
theorem Fls.drop {w : World} {B : Nat} {a : Addr} {L : List Fil} (h : Fls w B (some a) L) (q : Nat) (hq : q ≤ L.length) : Fls w B (some (a.add (q * 3))) (L.drop q) := by
  refine ⟨by have := h.1; simp; omega, fun i hi => ?_⟩
  have hi' : q + i < L.length := by simp at hi; omega
  obtain ⟨a', e, hab, c0, c1, c2, hf⟩ := h.2 (q + i) hi'
  cases e
  have e3 : (a.add (q * 3)).add (i * 3) = a.add ((q + i) * 3) := by rw [ofNat_add]; congr 1; omega
  refine ⟨a.add (q * 3), rfl, by rw [add_blk]; exact hab, ?_, ?_, ?_, by simpa using hf⟩
  · rw [e3]; simpa using c0
  · have e4 : (a.add (q * 3)).add (i * 3 + 1) = a.add ((q + i) * 3 + 1) := by rw [ofNat_add]; congr 1; omega
    rw [e4]; simpa using c1
  · have e4 : (a.add (q * 3)).add (i * 3 + 2) = a.add ((q + i) * 3 + 2) := by rw [ofNat_add]; congr 1; omega
    rw [e4]; simpa using c2
end Go.Proofs.YtebkblmejkkhfaaGreatDoor

namespace Go.Proofs.YtebkblmejkkhfaaGreatDoor
open Go.RowKit
set_option linter.unusedVariables false
set_option maxRecDepth 1000000

theorem fls_news {w : World} {B : Nat} {a : Addr} {L : List Fil} (h : Fls w B (some a) L) : ∀ j u, (flat L)[j]? = some u → w.cell? (a.add j) = some u := by
  intro j u hj
  have hjl : j < L.length * 3 := by rw [← flat_len]; exact (List.getElem?_eq_some_iff.1 hj).1
  have hi : j / 3 < L.length := by omega
  have hg := flat_get L (j / 3) hi (j % 3) (by omega)
  rw [show j / 3 * 3 + j % 3 = j by omega, hj] at hg
  obtain ⟨a', e, _, c0, c1, c2, _⟩ := h.2 (j / 3) hi
  cases e
  have : j % 3 = 0 ∨ j % 3 = 1 ∨ j % 3 = 2 := by omega
  rcases this with e | e | e
  · rw [e] at hg
    rw [show j = j / 3 * 3 by omega, c0]
    exact hg.symm
  · rw [e] at hg
    rw [show j = j / 3 * 3 + 1 by omega, c1]
    exact hg.symm
  · rw [e] at hg
    rw [show j = j / 3 * 3 + 2 by omega, c2]
    exact hg.symm

theorem l01Min_any (a b : Int) (w : World) : Calls Tryz.prog 104 #[.int .i64 a, .int .i64 b] w fun e w' => e = .returned (.int .i64 (min a b)) ∧ w' = w := by
  by_cases h : a < b
  · go_enter Tryz.func104, Tryz.ntmps104
    go_wp2
    go_ret
    exact ⟨retI (by omega), rfl⟩
  · go_enter Tryz.func104, Tryz.ntmps104
    go_wp2
    go_ret
    exact ⟨retI (by omega), rfl⟩

set_option maxHeartbeats 1000000 in
theorem l03Copy_any (A : Option Addr) (L : List Fil) (c : Nat) (w : World) (hL : Fls w w.heap.size A L) (hS : Small L) :
    Calls Tryz.prog 103 #[.agg #[.slice A L.length c]] w fun e w' => ∃ C x, e = .returned (.agg #[.slice C L.length x]) ∧ OwnF w' (w.heap.size + 2) (.slice C L.length x) L ∧ Below w.heap.size w w' := by
  obtain ⟨i0, hi, hz0, hz1, hz2⟩ := info_parts infoFile
  have hn := hS.1
  have hf : ∀ f ∈ L, f.fits := fun f h => by obtain ⟨i, hi, rfl⟩ := List.getElem_of_mem h; exact (hL.2 i hi).choose_spec.2.2.2.2.2
  have hb0 : Below w.heap.size w (((w.alloc (.cells #[.slice A L.length c] 25)).alloc (.cells #[.slice none 0 0] 25)).alloc (.cells #[] 53)) := (((Below.refl _ _).alloc (Nat.le_refl _) _).alloc (by simp) _).alloc (by simp; omega) _
  have hT0 := (Blk.fresh (w.alloc (.cells #[.slice A L.length c] 25)) 25 [.slice none 0 0]).alloc (.cells #[] 53)
  simp only [World.size_alloc] at hT0
  have hL0 := hL.below hb0 (Nat.le_refl _)
  have hown0 : (((w.alloc (.cells #[.slice A L.length c] 25)).alloc (.cells #[.slice none 0 0] 25)).alloc (.cells #[] 53)).ownsRow (w.heap.size + 2) 53 3 (.slice (some ⟨w.heap.size + 1 + 1, 0, none⟩) 0 0) 0 [] :=
    ⟨rfl, .inr ⟨w.heap.size + 1 + 1, 0, #[], rfl, by omega, by have := heap_alloc_new ((w.alloc (.cells #[.slice A L.length c] 25)).alloc (.cells #[.slice none 0 0] 25)) (.cells #[] 53); simpa using this, Nat.le_refl _, by simp [maxLen], rfl, rfl⟩⟩
  cases A with
  | none =>
    have hz : L = [] := by
      cases L with
      | nil => rfl
      | cons f L => obtain ⟨a, e, _⟩ := hL.2 0 (by simp); cases e
    subst hz
    have ha := fun ty => run_append_owned_none (P := Tryz.prog) _ _ 23 ty 53 i0 3 Tryz.underlying23 hi _ _ _ hown0
    have t0 := hT0.cell (i := 0) rfl
    have f0 := hT0.froz 0
    go_enter Tryz.func103, Tryz.ntmps103
    go_wp2
    refine bodyPost_ret (v := .agg #[.slice (some ⟨w.heap.size + 1 + 1, 0, none⟩) 0 0]) (by simp [results, Tryz.results103, go_sem]) rfl ⟨_, _, rfl, ⟨⟨rfl, .inr ⟨w.heap.size + 1 + 1, 0, #[], rfl, by omega, ?_, Nat.le_refl _, by simp [maxLen], rfl, rfl⟩⟩, by simp⟩, ?_⟩
    · have := heap_alloc_new ((w.alloc (.cells #[.slice none 0 c] 25)).alloc (.cells #[.slice (some ⟨w.heap.size + 1 + 1, 0, none⟩) 0 0] 25)) (.cells #[] 53)
      simpa using this
    · exact (((Below.refl _ _).alloc (Nat.le_refl _) _).alloc (by simp) _).alloc (by simp; omega) _
  | some a =>
    go_enter Tryz.func103, Tryz.ntmps103
    go_wp2_with (at_builtin; refine wpList_append_own _ rfl _ _ 23 rfl (w.heap.size + 2) 53 i0 (.agg #[.string ⟨#[]⟩, .string ⟨#[]⟩, .int .i64 0]) 3 40 Tryz.underlying23 hi hz0 hz1 hz2 rfl (by decide) _ _ _ rfl hown0 a L.length c (flat L) rfl (flat_len L) (fls_news hL0) (flat_one L) (by unfold maxLen; omega) (by omega) (by simp) ?_)
    intro v' w1 hown1 hgrow1 _
    have hF1 : OwnF w1 (w.heap.size + 2) v' L := ⟨hown1, hf⟩
    have hT1 := hT0.grown hgrow1 (by simp [Value.ownBlock])
    have hw1 := hb0.grown hgrow1 (by have := hb0.size; exact this) (fun j e => by simp [Value.ownBlock] at e; omega)
    obtain ⟨C, x, rfl, _⟩ := hF1.slice
    have t0 := hT1.cell (i := 0) rfl
    have f0 := hT1.froz 0
    go_wp2
    refine bodyPost_ret (v := .agg #[.slice C L.length x]) (by simp [results, Tryz.results103, go_sem, t0]) rfl ⟨C, x, rfl, ?_, hw1.setCell (by simp) _⟩
    exact hF1.far (p := ⟨w.heap.size + 1, 0, none⟩) (by simp) _
end Go.Proofs.YtebkblmejkkhfaaGreatDoor
