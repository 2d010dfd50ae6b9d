/- The contract of spec.FsCrash. -/
import Derived.Test.YtmdjfgnmjelmhaaFilCrash
import Derived.Test.YtmdjfgnmjelmhaaFilCopy
import Derived.Test.YtmdjfgnmjelmhaaMark
import Derived.BigRegion
import Derived.Deep.AppendLies
namespace Go.Proofs.Ytmdjfgnmjelmhaa
open Go.RowKit
set_option linter.unusedVariables false

theorem flat_set2 {M : List Fil} {k : Nat} (h : k < M.length) (d : ByteArray) (s : Int) : ((flat M).set (k * 3 + 1) (.string d)).set (k * 3 + 2) (.int .i64 s) = flat (M.set k ⟨M[k].name, d, s⟩) := by
  rw [← flat_set]
  have e : (flat M).set (k * 3) (.string M[k].name) = flat M := by
    apply List.ext_getElem?
    intro j
    rw [List.getElem?_set]
    split
    · rename_i hj
      subst hj
      have := flat_get M k h 0 (by omega)
      rw [Nat.add_zero] at this
      rw [this]
      have hl : k * 3 < (flat M).length := by rw [flat_len]; omega
      simp [hl, Fil.cells]
    · rfl
  simp only [e]
theorem part_at {G L : List Fil} {k : Nat} (hG : G.length = L.length) (h : k < L.length) (hM : k < (G.take k ++ L.drop k).length) : (G.take k ++ L.drop k)[k] = L[k] := by
  rw [List.getElem_append_right (by simp; omega)]
  simp [List.length_take, show k - min k G.length = 0 by omega]

set_option maxHeartbeats 4000000 in
set_option maxRecDepth 1000000 in
theorem specCrash_any (A : Option Addr) (L : List Fil) (c : Nat) (B : Option Addr) (K : List Int) (d : Nat) (w : World) (hL : Fls w w.heap.size A L) (hS : Small L) (hK : Nms w w.heap.size B K) (hKn : K.length ≤ 1048576) :
    Calls Try.prog 17 #[.agg #[.slice A L.length c], .slice B K.length d] w fun e w' => ∃ C x, e = .returned (.agg #[.slice C (crashL L K).length x]) ∧ OwnF w' w.heap.size (.slice C (crashL L K).length x) (crashL L K) ∧ Below w.heap.size w w' := by
  have hn := hS.1
  have hf : ∀ f ∈ L, f.fits := fun f h => by obtain ⟨i, hi, rfl⟩ := List.getElem_of_mem h; exact (hL.2 i hi).choose_spec.2.2.2.2.2
  have HL : Hid (∀ W, Below w.heap.size w W → Fls W W.heap.size A L) := Lib.hid fun W h => (hL.below h (Nat.le_refl _)).mono h.size
  have hA0 := (Blk.fresh w 29 [.slice A L.length c]).alloc (.cells #[.slice none 0 0] 29)
  have hT0 := Blk.fresh (w.alloc (.cells #[.slice A L.length c] 29)) 29 [.slice none 0 0]
  simp only [World.size_alloc] at hT0
  have hb0 : Below w.heap.size w ((w.alloc (.cells #[.slice A L.length c] 29)).alloc (.cells #[.slice none 0 0] 29)) := ((Below.refl _ _).alloc (Nat.le_refl _) _).alloc (by simp) _
  by_cases hbig : 400 < K.length
  · have HC : Hid (crashL L K = []) := by unfold Hid crashL; rw [if_pos hbig]
    rw [HC.out]
    have hbig' : (400 : Int) < (K.length : Int) := by omega
    go_enter Try.func17, Try.ntmps17
    go_wp2
    refine bodyPost_ret (v := .agg #[.slice none 0 0]) (by simp [results, Try.results17, go_sem]) rfl ⟨none, 0, rfl, ⟨World.ownsRow_nil _ _ _ _, by simp⟩, hb0⟩
  · have HC : Hid (crashL L K = crashG L K) := by unfold Hid crashL; rw [if_neg hbig]
    rw [HC.out]
    obtain ⟨G, HG⟩ : ∃ G, Hid (crashG L K = G) := ⟨_, Lib.hid rfl⟩
    obtain ⟨gf, gS⟩ := crashG_ok (K := K) hf hS
    have HGl : Hid (G.length = L.length) := by unfold Hid; rw [← HG.out]; exact crashG_len L K
    obtain ⟨okk, HOK⟩ : ∃ okk, Hid (fsOK L = okk) := ⟨_, Lib.hid rfl⟩
    have HGg : Hid (∀ i (h : i < L.length) (h' : i < G.length), G[i] = if okk = true then crashF L[i] (keepAt K i) else L[i]) := Lib.hid fun i h h' => by
      have e := HG.out; subst e; rw [← HOK.out]; exact crashG_get h
    rw [HG.out] at gf gS ⊢
    have RN : ∀ W, Below w.heap.size w W → Calls Try.prog 7 #[.agg #[.slice A L.length c]] W fun e w' => e = .returned (.bool okk) ∧ Below W.heap.size W w' := fun W h => by have := specRight_any A L c W (HL.out W h); rw [HOK.out] at this; exact this
    have CP := l03Copy_any A L c _ (HL.out _ hb0) hS
    go_enter Try.func17, Try.ntmps17
    go_wp2_with (fail)
    refine CP.mono ?_
    rintro e w1 ⟨C, x, rfl, hF1, hb1⟩
    have hw1 := hb0.trans (hb1.mono hb0.size)
    have hA1 := hA0.below hb1 hA0.lt
    have hT1 := hT0.below hb1 hT0.lt
    have q2 : Below w1.heap.size w1 (w1.alloc (.cells #[.slice C L.length x] 29)) := (Below.refl _ _).alloc (Nat.le_refl _) _
    have hA2 := hA1.below q2 hA1.lt
    have hT2 := hT1.below q2 hT1.lt
    have hO2 := Blk.fresh w1 29 [.slice C L.length x]
    have hF2 := hF1.below q2 (Nat.le_refl _)
    have hw2 := hw1.trans (q2.mono hw1.size)
    have hlt1 := hT1.lt
    have hbs : ∀ k, (Value.slice C L.length x).ownBlock = some k → w.heap.size + 4 ≤ k ∧ k < w1.heap.size := fun k e => by have := hF1.1.lt k e; simp at this; omega
    clear CP
    go_wp2
    generalize w1.alloc (.cells #[.slice C L.length x] 29) = w2 at hA2 hT2 hO2 hF2 hw2 q2 ⊢
    generalize w1.heap.size = bo at hO2 hlt1 hbs ⊢
    go_loopw [6, 7, 8] (fun i _ _ wr => ∃ (k : Nat), k ≤ L.length ∧ i = .int .i64 k ∧ (okk = false → k = 0) ∧ OwnF wr (w.heap.size + 2) (.slice C L.length x) (G.take k ++ L.drop k) ∧ Blk wr bo 29 [.slice C L.length x] ∧ Blk wr w.heap.size 29 [.slice A L.length c] ∧ Blk wr (w.heap.size + 1) 29 [.slice none 0 0] ∧ Below w.heap.size w wr) (fun i _ _ _ => L.length - (intOf i).toNat)
    case atStart => exact ⟨0, by omega, rfl, fun _ => rfl, by simpa using hF2.base (by simp), hO2, hA2, hT2, hw2⟩
    case round =>
      obtain ⟨k, hk, rfl, hk0, hF, hO, hA, hT, hb⟩ := hrel
      have b0 := hA.cell (i := 0) rfl
      have fin : ∀ (W : World), OwnF W (w.heap.size + 2) (.slice C L.length x) G → Blk W (w.heap.size + 1) 29 [.slice none 0 0] → OwnF (W.setCell ⟨w.heap.size + 1, 0, none⟩ (.slice C L.length x)) w.heap.size (.slice C L.length x) G := fun W h _ => (h.far (p := ⟨w.heap.size + 1, 0, none⟩) (by simp) _).base (by omega)
      by_cases hlt : k < L.length
      · have hlt' : (k : Int) < (L.length : Int) := by omega
        go_wp2_with (fail)
        refine (RN _ hb).mono ?_
        rintro e w3 ⟨rfl, hb3⟩
        dsimp only
        have hw3 := hb.trans (hb3.mono hb.size)
        have hA3 := hA.below hb3 hA.lt
        have hT3 := hT.below hb3 hT.lt
        have hO3 := hO.below hb3 hO.lt
        have hF3 := hF.below hb3 (Nat.le_refl _)
        have b3 := hA3.cell (i := 0) rfl
        clear b0
        rcases Bool.eq_false_or_eq_true okk with hok | hok
        · subst hok
          obtain ⟨a, rfl, hab, c0, c1, c2, hff⟩ := (HL.out _ hw3).at k hlt
          have q4 : Below w3.heap.size w3 (w3.alloc (.cells #[.string L[k].name, .string L[k].data, .int .i64 L[k].sync] 46)) := (Below.refl _ _).alloc (Nat.le_refl _) _
          have hw4 := hw3.trans (q4.mono hw3.size)
          have hN4 := hK.below hw4 (Nat.le_refl _)
          by_cases hkl : k < K.length
          · obtain ⟨ak, rfl, hakb, kc, kl0, kl1⟩ := hN4.2 k hkl
            have hkl' : (k : Int) < (K.length : Int) := by omega
            by_cases hkn : 0 < K[k]
            · go_wp2
              obtain ⟨g, cp, hCv, hgj, hgl⟩ := hF3.1.form (by simp; omega)
              simp only [Value.slice.injEq] at hCv
              obtain ⟨rfl, hjunk, rfl⟩ := hCv
              clear hjunk hgj
              have hMl : (G.take k ++ L.drop k).length = L.length := by have := HGl.out; simp; omega
              have hok' : okF L[k] = true := ((fsOK_iff.1 HOK.out).2 k hlt).1
              obtain ⟨p1, p2, p3, p4⟩ := okF_parts hok'
              obtain ⟨q1, q2, q3⟩ := cutN_in hok' (keepAt_lo K k)
              have hGk : G[k]'(by rw [HGl.out]; exact hlt) = crashF L[k] (keepAt K k) := by have := HGg.out k hlt (by rw [HGl.out]; exact hlt); simpa using this
              have hgb := hbs g rfl
              have hX4 := Blk.fresh w3 46 [.string L[k].name, .string L[k].data, .int .i64 L[k].sync]
              have hA4 := hA3.below q4 hA3.lt
              have hT4 := hT3.below q4 hT3.lt
              have hO4 := hO3.below q4 hO3.lt
              have hF4 := hF3.below q4 (Nat.le_refl _)
              have hltO := hO3.lt
              obtain ⟨n, HNc⟩ : ∃ n, Hid (cutN L[k] (keepAt K k) = n) := ⟨_, Lib.hid rfl⟩
              rw [HNc.out] at q1 q2 q3
              have hend : ∀ W : World, W.ownsRow (w.heap.size + 2) 46 3 (.slice (some ⟨g, 0, none⟩) L.length x) L.length (((flat (G.take k ++ L.drop k)).set (k * 3 + 1) (.string (L[k].data.extract 0 n.toNat))).set (k * 3 + 2) (.int .i64 n)) → OwnF W (w.heap.size + 2) (.slice (some ⟨g, 0, none⟩) L.length x) (G.take (k + 1) ++ L.drop (k + 1)) := by
                intro W h
                rw [flat_set2 (by rw [hMl]; exact hlt), part_at HGl.out hlt] at h
                have e1 : (⟨L[k].name, L[k].data.extract 0 n.toNat, n⟩ : Fil) = G[k]'(by rw [HGl.out]; exact hlt) := by rw [hGk, ← HNc.out]; rfl
                rw [e1, part_set HGl.out hlt] at h
                have e2 : (G.take (k + 1) ++ L.drop (k + 1)).length = L.length := by have := HGl.out; simp; omega
                refine ⟨by rw [e2]; exact h, fun f hf' => ?_⟩
                rcases List.mem_append.1 hf' with h' | h'
                · exact gf f (List.mem_of_mem_take h')
                · exact hf f (List.mem_of_mem_drop h')
              have e0 : n = L[k].sync + min K[k] (L[k].data.size - L[k].sync) := by
                rw [← HNc.out]; unfold cutN keepAt
                rw [dif_pos hkl]
                omega
              have HE0 := Lib.hid e0
              clear e0
              have hR := hF4.1
              rw [hMl] at hR
              have hX4d := hX4.drew
              have hO4d := hO4.drew
              have hRd : (w3.alloc (.cells #[.string L[k].name, .string L[k].data, .int .i64 L[k].sync] 46)).drew.ownsRow (w.heap.size + 2) 46 3 (.slice (some ⟨g, 0, none⟩) L.length x) L.length (flat (G.take k ++ L.drop k)) := hR
              have hA5 := hA4.drew
              have hT5 := hT4.drew
              have hw5 := below_drew hw4
              obtain ⟨FL, HFL⟩ : ∃ FL, Hid (flat (G.take k ++ L.drop k) = FL) := ⟨_, Lib.hid rfl⟩
              have hlen : FL.length = L.length * 3 := by rw [← HFL.out, flat_len, hMl]
              rw [HFL.out] at hRd hend
              have HE := Lib.hid hend
              generalize hW : (w3.alloc (.cells #[.string L[k].name, .string L[k].data, .int .i64 L[k].sync] 46)) = w4 at hX4d hO4d hRd hA5 hT5 hw5 kc ⊢
              generalize w3.heap.size = sx at hX4d ⊢
              clear hW hend hR hF4 hO4 hT4 hA4 hX4 hN4 hw4 q4 hF3 hO3 hT3 hA3 hw3 hb3 hF hO hA hT hb fin c0 c1 c2 b3 hGk RN HFL hk0 hbs hMl hgl hF1 hF2 hA1 hA2 hb1 hb0 hA0 hT0 hT1 hT2 hO2 hw1 hw2 q1 gf gS hf hS HC hK hL
              have hy := hO4d.cell (i := 0) rfl
              have hxd := hX4d.cell (i := 1) rfl
              obtain ⟨u1, r1⟩ := row_cell hRd (j := k * 3 + 1) (by omega)
              have s1 := hRd.frozenAt (k * 3 + 1)
              clear HNc
              have LM := fun W => l01Min_any K[k] ((L[k].data.size : Int) - L[k].sync) W
              have hx1 : w4.cell? ⟨sx, 1, none⟩ = some (.string L[k].data) := hxd
              have hdif : IntKind.i64.wrap ((L[k].data.size : Int) - L[k].sync) = (L[k].data.size : Int) - L[k].sync := IntWalk.i64_in _ (by omega)
              have hsum : IntKind.i64.wrap (L[k].sync + min K[k] ((L[k].data.size : Int) - L[k].sync)) = n := by rw [← HE0.out]; exact IntWalk.i64_in _ (by omega)
              clear r1 s1 hy hxd
              go_quiet (first | (go_at_call 33; exact Calls.quiet_of_same (LM _)))
              have hO7 : Blk (w4.drewN nq).drew bo 29 [.slice (some ⟨g, 0, none⟩) L.length x] := hO4d
              have hR7 : (w4.drewN nq).drew.ownsRow (w.heap.size + 2) 46 3 (.slice (some ⟨g, 0, none⟩) L.length x) L.length FL := hRd
              have hA7 : Blk (w4.drewN nq).drew w.heap.size 29 [.slice (some a) L.length c] := hA5
              have hT7 : Blk (w4.drewN nq).drew (w.heap.size + 1) 29 [.slice none 0 0] := hT5
              have hw7 : Below w.heap.size w (w4.drewN nq).drew := ⟨hw5.os, hw5.tape, hw5.output, hw5.size, hw5.block⟩
              have hX7 : Blk (w4.drewN nq).drew sx 46 [.string L[k].name, .string L[k].data, .int .i64 L[k].sync] := hX4d
              clear hO4d hRd hA5 hT5 hw5 hX4d kc hx1 LM hdif hsum
              generalize w4.drewN nq = w4 at hO7 hR7 hA7 hT7 hw7 hX7 ⊢
              have hO4d := hO7
              have hRd := hR7
              have hA5 := hA7
              have hT5 := hT7
              have hw5 := hw7
              have hX4d := hX7
              clear hO7 hR7 hA7 hT7 hw7 hX7
              have hy := hO4d.cell (i := 0) rfl
              have hxd := hX4d.cell (i := 1) rfl
              obtain ⟨u1, r1⟩ := row_cell hRd (j := k * 3 + 1) (by omega)
              have s1 := hRd.frozenAt (k * 3 + 1)
              go_wp2
              go_region
              have hR6 : (w4.setCell ⟨g, k * 3 + 1, none⟩ (.string (L[k].data.extract 0 n.toNat))).drew.ownsRow (w.heap.size + 2) 46 3 (.slice (some ⟨g, 0, none⟩) L.length x) L.length (FL.set (k * 3 + 1) (.string (L[k].data.extract 0 n.toNat))) := (hRd.stored (k * 3 + 1) (.string (L[k].data.extract 0 n.toNat))).1
              have hO6 : Blk (w4.setCell ⟨g, k * 3 + 1, none⟩ (.string (L[k].data.extract 0 n.toNat))).drew bo 29 [.slice (some ⟨g, 0, none⟩) L.length x] := hO4d.far (p := ⟨g, k * 3 + 1, none⟩) (by simp; omega) (.string (L[k].data.extract 0 n.toNat))
              have hA6 : Blk (w4.setCell ⟨g, k * 3 + 1, none⟩ (.string (L[k].data.extract 0 n.toNat))).drew w.heap.size 29 [.slice (some a) L.length c] := hA5.far (p := ⟨g, k * 3 + 1, none⟩) (by simp; omega) (.string (L[k].data.extract 0 n.toNat))
              have hT6 : Blk (w4.setCell ⟨g, k * 3 + 1, none⟩ (.string (L[k].data.extract 0 n.toNat))).drew (w.heap.size + 1) 29 [.slice none 0 0] := hT5.far (p := ⟨g, k * 3 + 1, none⟩) (by simp; omega) (.string (L[k].data.extract 0 n.toNat))
              have hw6 : Below w.heap.size w (w4.setCell ⟨g, k * 3 + 1, none⟩ (.string (L[k].data.extract 0 n.toNat))).drew := hw5.setCell (p := ⟨g, k * 3 + 1, none⟩) (by simp; omega) (.string (L[k].data.extract 0 n.toNat))
              generalize (w4.setCell ⟨g, k * 3 + 1, none⟩ (.string (L[k].data.extract 0 n.toNat))).drew = w6 at hR6 hO6 hA6 hT6 hw6 ⊢
              clear hRd hO4d hA5 hT5 hw5 hX4d hy hxd r1 s1
              have hy := hO6.cell (i := 0) rfl
              obtain ⟨u2, r2⟩ := row_cell hR6 (j := k * 3 + 2) (by omega)
              have s2 := hR6.frozenAt (k * 3 + 2)
              go_wp2
              exact ⟨⟨k + 1, by omega, by go_num, by simp, HE.out _ (hR6.stored (k * 3 + 2) _).1, hO6.far (p := ⟨g, k * 3 + 2, none⟩) (by simp; omega) _, hA6.far (p := ⟨g, k * 3 + 2, none⟩) (by simp; omega) _, hT6.far (p := ⟨g, k * 3 + 2, none⟩) (by simp; omega) _, hw6.setCell (by simp; omega) _⟩, by simp [intOf]; omega⟩
            · go_wp2
              obtain ⟨g, cp, hCv, hgj, hgl⟩ := hF3.1.form (by simp; omega)
              simp only [Value.slice.injEq] at hCv
              obtain ⟨rfl, hjunk, rfl⟩ := hCv
              clear hjunk hgj
              have hMl : (G.take k ++ L.drop k).length = L.length := by have := HGl.out; simp; omega
              have hok' : okF L[k] = true := ((fsOK_iff.1 HOK.out).2 k hlt).1
              obtain ⟨p1, p2, p3, p4⟩ := okF_parts hok'
              obtain ⟨q1, q2, q3⟩ := cutN_in hok' (keepAt_lo K k)
              have hGk : G[k]'(by rw [HGl.out]; exact hlt) = crashF L[k] (keepAt K k) := by have := HGg.out k hlt (by rw [HGl.out]; exact hlt); simpa using this
              have hgb := hbs g rfl
              have hX4 := Blk.fresh w3 46 [.string L[k].name, .string L[k].data, .int .i64 L[k].sync]
              have hA4 := hA3.below q4 hA3.lt
              have hT4 := hT3.below q4 hT3.lt
              have hO4 := hO3.below q4 hO3.lt
              have hF4 := hF3.below q4 (Nat.le_refl _)
              have hltO := hO3.lt
              obtain ⟨n, HNc⟩ : ∃ n, Hid (cutN L[k] (keepAt K k) = n) := ⟨_, Lib.hid rfl⟩
              rw [HNc.out] at q1 q2 q3
              have hend : ∀ W : World, W.ownsRow (w.heap.size + 2) 46 3 (.slice (some ⟨g, 0, none⟩) L.length x) L.length (((flat (G.take k ++ L.drop k)).set (k * 3 + 1) (.string (L[k].data.extract 0 n.toNat))).set (k * 3 + 2) (.int .i64 n)) → OwnF W (w.heap.size + 2) (.slice (some ⟨g, 0, none⟩) L.length x) (G.take (k + 1) ++ L.drop (k + 1)) := by
                intro W h
                rw [flat_set2 (by rw [hMl]; exact hlt), part_at HGl.out hlt] at h
                have e1 : (⟨L[k].name, L[k].data.extract 0 n.toNat, n⟩ : Fil) = G[k]'(by rw [HGl.out]; exact hlt) := by rw [hGk, ← HNc.out]; rfl
                rw [e1, part_set HGl.out hlt] at h
                have e2 : (G.take (k + 1) ++ L.drop (k + 1)).length = L.length := by have := HGl.out; simp; omega
                refine ⟨by rw [e2]; exact h, fun f hf' => ?_⟩
                rcases List.mem_append.1 hf' with h' | h'
                · exact gf f (List.mem_of_mem_take h')
                · exact hf f (List.mem_of_mem_drop h')
              have e0 : n = L[k].sync := by
                rw [← HNc.out]; unfold cutN keepAt
                rw [dif_pos hkl]
                omega
              subst e0
              have hR := hF4.1
              rw [hMl] at hR
              have hX4d := hX4.drew
              have hO4d := hO4.drew
              have hRd : (w3.alloc (.cells #[.string L[k].name, .string L[k].data, .int .i64 L[k].sync] 46)).drew.ownsRow (w.heap.size + 2) 46 3 (.slice (some ⟨g, 0, none⟩) L.length x) L.length (flat (G.take k ++ L.drop k)) := hR
              have hA5 := hA4.drew
              have hT5 := hT4.drew
              have hw5 := below_drew hw4
              obtain ⟨FL, HFL⟩ : ∃ FL, Hid (flat (G.take k ++ L.drop k) = FL) := ⟨_, Lib.hid rfl⟩
              have hlen : FL.length = L.length * 3 := by rw [← HFL.out, flat_len, hMl]
              rw [HFL.out] at hRd hend
              have HE := Lib.hid hend
              generalize hW : (w3.alloc (.cells #[.string L[k].name, .string L[k].data, .int .i64 L[k].sync] 46)) = w4 at hX4d hO4d hRd hA5 hT5 hw5 ⊢
              generalize w3.heap.size = sx at hX4d ⊢
              clear hW hend hR hF4 hO4 hT4 hA4 hX4 hN4 hw4 q4 hF3 hO3 hT3 hA3 hw3 hb3 hF hO hA hT hb fin c0 c1 c2 b3 hGk RN HFL hk0 hbs hMl hgl hF1 hF2 hA1 hA2 hb1 hb0 hA0 hT0 hT1 hT2 hO2 hw1 hw2 q1 gf gS hf hS HC hK hL
              have hy := hO4d.cell (i := 0) rfl
              have hxd := hX4d.cell (i := 1) rfl
              obtain ⟨u1, r1⟩ := row_cell hRd (j := k * 3 + 1) (by omega)
              have s1 := hRd.frozenAt (k * 3 + 1)
              go_region
              have hR6 : (w4.setCell ⟨g, k * 3 + 1, none⟩ (.string (L[k].data.extract 0 L[k].sync.toNat))).drew.ownsRow (w.heap.size + 2) 46 3 (.slice (some ⟨g, 0, none⟩) L.length x) L.length (FL.set (k * 3 + 1) (.string (L[k].data.extract 0 L[k].sync.toNat))) := (hRd.stored (k * 3 + 1) (.string (L[k].data.extract 0 L[k].sync.toNat))).1
              have hO6 : Blk (w4.setCell ⟨g, k * 3 + 1, none⟩ (.string (L[k].data.extract 0 L[k].sync.toNat))).drew bo 29 [.slice (some ⟨g, 0, none⟩) L.length x] := hO4d.far (p := ⟨g, k * 3 + 1, none⟩) (by simp; omega) (.string (L[k].data.extract 0 L[k].sync.toNat))
              have hA6 : Blk (w4.setCell ⟨g, k * 3 + 1, none⟩ (.string (L[k].data.extract 0 L[k].sync.toNat))).drew w.heap.size 29 [.slice (some a) L.length c] := hA5.far (p := ⟨g, k * 3 + 1, none⟩) (by simp; omega) (.string (L[k].data.extract 0 L[k].sync.toNat))
              have hT6 : Blk (w4.setCell ⟨g, k * 3 + 1, none⟩ (.string (L[k].data.extract 0 L[k].sync.toNat))).drew (w.heap.size + 1) 29 [.slice none 0 0] := hT5.far (p := ⟨g, k * 3 + 1, none⟩) (by simp; omega) (.string (L[k].data.extract 0 L[k].sync.toNat))
              have hw6 : Below w.heap.size w (w4.setCell ⟨g, k * 3 + 1, none⟩ (.string (L[k].data.extract 0 L[k].sync.toNat))).drew := hw5.setCell (p := ⟨g, k * 3 + 1, none⟩) (by simp; omega) (.string (L[k].data.extract 0 L[k].sync.toNat))
              generalize (w4.setCell ⟨g, k * 3 + 1, none⟩ (.string (L[k].data.extract 0 L[k].sync.toNat))).drew = w6 at hR6 hO6 hA6 hT6 hw6 ⊢
              clear hRd hO4d hA5 hT5 hw5 hX4d hy hxd r1 s1
              have hy := hO6.cell (i := 0) rfl
              obtain ⟨u2, r2⟩ := row_cell hR6 (j := k * 3 + 2) (by omega)
              have s2 := hR6.frozenAt (k * 3 + 2)
              go_wp2
              exact ⟨⟨k + 1, by omega, by go_num, by simp, HE.out _ (hR6.stored (k * 3 + 2) _).1, hO6.far (p := ⟨g, k * 3 + 2, none⟩) (by simp; omega) _, hA6.far (p := ⟨g, k * 3 + 2, none⟩) (by simp; omega) _, hT6.far (p := ⟨g, k * 3 + 2, none⟩) (by simp; omega) _, hw6.setCell (by simp; omega) _⟩, by simp [intOf]; omega⟩
          · have hkl' : ¬ (k : Int) < (K.length : Int) := by omega
            go_wp2
            obtain ⟨g, cp, hCv, hgj, hgl⟩ := hF3.1.form (by simp; omega)
            simp only [Value.slice.injEq] at hCv
            obtain ⟨rfl, hjunk, rfl⟩ := hCv
            clear hjunk hgj
            have hMl : (G.take k ++ L.drop k).length = L.length := by have := HGl.out; simp; omega
            have hok' : okF L[k] = true := ((fsOK_iff.1 HOK.out).2 k hlt).1
            obtain ⟨p1, p2, p3, p4⟩ := okF_parts hok'
            obtain ⟨q1, q2, q3⟩ := cutN_in hok' (keepAt_lo K k)
            have hGk : G[k]'(by rw [HGl.out]; exact hlt) = crashF L[k] (keepAt K k) := by have := HGg.out k hlt (by rw [HGl.out]; exact hlt); simpa using this
            have hgb := hbs g rfl
            have hX4 := Blk.fresh w3 46 [.string L[k].name, .string L[k].data, .int .i64 L[k].sync]
            have hA4 := hA3.below q4 hA3.lt
            have hT4 := hT3.below q4 hT3.lt
            have hO4 := hO3.below q4 hO3.lt
            have hF4 := hF3.below q4 (Nat.le_refl _)
            have hltO := hO3.lt
            obtain ⟨n, HNc⟩ : ∃ n, Hid (cutN L[k] (keepAt K k) = n) := ⟨_, Lib.hid rfl⟩
            rw [HNc.out] at q1 q2 q3
            have hend : ∀ W : World, W.ownsRow (w.heap.size + 2) 46 3 (.slice (some ⟨g, 0, none⟩) L.length x) L.length (((flat (G.take k ++ L.drop k)).set (k * 3 + 1) (.string (L[k].data.extract 0 n.toNat))).set (k * 3 + 2) (.int .i64 n)) → OwnF W (w.heap.size + 2) (.slice (some ⟨g, 0, none⟩) L.length x) (G.take (k + 1) ++ L.drop (k + 1)) := by
              intro W h
              rw [flat_set2 (by rw [hMl]; exact hlt), part_at HGl.out hlt] at h
              have e1 : (⟨L[k].name, L[k].data.extract 0 n.toNat, n⟩ : Fil) = G[k]'(by rw [HGl.out]; exact hlt) := by rw [hGk, ← HNc.out]; rfl
              rw [e1, part_set HGl.out hlt] at h
              have e2 : (G.take (k + 1) ++ L.drop (k + 1)).length = L.length := by have := HGl.out; simp; omega
              refine ⟨by rw [e2]; exact h, fun f hf' => ?_⟩
              rcases List.mem_append.1 hf' with h' | h'
              · exact gf f (List.mem_of_mem_take h')
              · exact hf f (List.mem_of_mem_drop h')
            have e0 : n = L[k].sync := by
              rw [← HNc.out]; unfold cutN keepAt
              rw [dif_neg hkl]
              omega
            subst e0
            have hR := hF4.1
            rw [hMl] at hR
            have hX4d := hX4.drew
            have hO4d := hO4.drew
            have hRd : (w3.alloc (.cells #[.string L[k].name, .string L[k].data, .int .i64 L[k].sync] 46)).drew.ownsRow (w.heap.size + 2) 46 3 (.slice (some ⟨g, 0, none⟩) L.length x) L.length (flat (G.take k ++ L.drop k)) := hR
            have hA5 := hA4.drew
            have hT5 := hT4.drew
            have hw5 := below_drew hw4
            obtain ⟨FL, HFL⟩ : ∃ FL, Hid (flat (G.take k ++ L.drop k) = FL) := ⟨_, Lib.hid rfl⟩
            have hlen : FL.length = L.length * 3 := by rw [← HFL.out, flat_len, hMl]
            rw [HFL.out] at hRd hend
            have HE := Lib.hid hend
            generalize hW : (w3.alloc (.cells #[.string L[k].name, .string L[k].data, .int .i64 L[k].sync] 46)) = w4 at hX4d hO4d hRd hA5 hT5 hw5 ⊢
            generalize w3.heap.size = sx at hX4d ⊢
            clear hW hend hR hF4 hO4 hT4 hA4 hX4 hN4 hw4 q4 hF3 hO3 hT3 hA3 hw3 hb3 hF hO hA hT hb fin c0 c1 c2 b3 hGk RN HFL hk0 hbs hMl hgl hF1 hF2 hA1 hA2 hb1 hb0 hA0 hT0 hT1 hT2 hO2 hw1 hw2 q1 gf gS hf hS HC hK hL
            have hy := hO4d.cell (i := 0) rfl
            have hxd := hX4d.cell (i := 1) rfl
            obtain ⟨u1, r1⟩ := row_cell hRd (j := k * 3 + 1) (by omega)
            have s1 := hRd.frozenAt (k * 3 + 1)
            go_region
            have hR6 : (w4.setCell ⟨g, k * 3 + 1, none⟩ (.string (L[k].data.extract 0 L[k].sync.toNat))).drew.ownsRow (w.heap.size + 2) 46 3 (.slice (some ⟨g, 0, none⟩) L.length x) L.length (FL.set (k * 3 + 1) (.string (L[k].data.extract 0 L[k].sync.toNat))) := (hRd.stored (k * 3 + 1) (.string (L[k].data.extract 0 L[k].sync.toNat))).1
            have hO6 : Blk (w4.setCell ⟨g, k * 3 + 1, none⟩ (.string (L[k].data.extract 0 L[k].sync.toNat))).drew bo 29 [.slice (some ⟨g, 0, none⟩) L.length x] := hO4d.far (p := ⟨g, k * 3 + 1, none⟩) (by simp; omega) (.string (L[k].data.extract 0 L[k].sync.toNat))
            have hA6 : Blk (w4.setCell ⟨g, k * 3 + 1, none⟩ (.string (L[k].data.extract 0 L[k].sync.toNat))).drew w.heap.size 29 [.slice (some a) L.length c] := hA5.far (p := ⟨g, k * 3 + 1, none⟩) (by simp; omega) (.string (L[k].data.extract 0 L[k].sync.toNat))
            have hT6 : Blk (w4.setCell ⟨g, k * 3 + 1, none⟩ (.string (L[k].data.extract 0 L[k].sync.toNat))).drew (w.heap.size + 1) 29 [.slice none 0 0] := hT5.far (p := ⟨g, k * 3 + 1, none⟩) (by simp; omega) (.string (L[k].data.extract 0 L[k].sync.toNat))
            have hw6 : Below w.heap.size w (w4.setCell ⟨g, k * 3 + 1, none⟩ (.string (L[k].data.extract 0 L[k].sync.toNat))).drew := hw5.setCell (p := ⟨g, k * 3 + 1, none⟩) (by simp; omega) (.string (L[k].data.extract 0 L[k].sync.toNat))
            generalize (w4.setCell ⟨g, k * 3 + 1, none⟩ (.string (L[k].data.extract 0 L[k].sync.toNat))).drew = w6 at hR6 hO6 hA6 hT6 hw6 ⊢
            clear hRd hO4d hA5 hT5 hw5 hX4d hy hxd r1 s1
            have hy := hO6.cell (i := 0) rfl
            obtain ⟨u2, r2⟩ := row_cell hR6 (j := k * 3 + 2) (by omega)
            have s2 := hR6.frozenAt (k * 3 + 2)
            go_wp2
            exact ⟨⟨k + 1, by omega, by go_num, by simp, HE.out _ (hR6.stored (k * 3 + 2) _).1, hO6.far (p := ⟨g, k * 3 + 2, none⟩) (by simp; omega) _, hA6.far (p := ⟨g, k * 3 + 2, none⟩) (by simp; omega) _, hT6.far (p := ⟨g, k * 3 + 2, none⟩) (by simp; omega) _, hw6.setCell (by simp; omega) _⟩, by simp [intOf]; omega⟩
        · subst hok
          obtain rfl := hk0 rfl
          have hGL : G = L := by
            apply List.ext_getElem (by rw [HGl.out])
            intro i h1 h2
            rw [HGg.out i h2 h1, if_neg (by simp)]
          have o3 := hO3.cell (i := 0) rfl
          have t3 := hT3.cell (i := 0) rfl
          have f3 := hT3.froz 0
          have hF4 : OwnF w3 (w.heap.size + 2) (.slice C L.length x) G := by simpa [hGL] using hF3
          subst hGL
          go_wp2
          refine bodyPost_ret (v := .agg #[.slice C G.length x]) (by simp [results, Try.results17, go_sem, t3]) rfl ⟨C, x, rfl, fin _ hF4 hT3, hw3.setCell (by simp) _⟩
      · obtain rfl : k = L.length := by omega
        have hF4 : OwnF wr (w.heap.size + 2) (.slice C L.length x) G := by
          have := hF
          rw [List.take_of_length_le (by rw [HGl.out]; exact Nat.le_refl _), List.drop_of_length_le (Nat.le_refl _), List.append_nil] at this
          exact this
        have o3 := hO.cell (i := 0) rfl
        have t3 := hT.cell (i := 0) rfl
        have f3 := hT.froz 0
        go_wp2
        refine bodyPost_ret (v := .agg #[.slice C L.length x]) (by simp [results, Try.results17, go_sem, t3]) rfl ⟨C, x, by rw [HGl.out], by rw [HGl.out]; exact fin _ hF4 hT, hb.setCell (by simp) _⟩
end Go.Proofs.Ytmdjfgnmjelmhaa
