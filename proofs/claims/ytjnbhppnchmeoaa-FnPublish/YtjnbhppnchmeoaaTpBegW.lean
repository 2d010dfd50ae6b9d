/- spec.TopicRetain. spec.TopicRetain: its answer is its own. spec.l07Group: a topic that has a group. spec.l07Begin: a topic that has a group, or why not. -/
import Derived.Test.YtjnbhppnchmeoaaTpRTW
import Derived.Test.YtjnbhppnchmeoaaTpPubSW
import Derived.BigQuiet
import Derived.Deep.DeepCutAuto
import Derived.Test.YtjnbhppnchmeoaaTpPubXW
import Derived.Test.YtjnbhppnchmeoaaTpSetMW
namespace Go.Proofs.Ytjnbhppnchmeoaa
open Go.RowKit
set_option linter.unusedVariables false
set_option maxRecDepth 1000000
theorem l01Max_any (a b : Int) (w : World) : Calls Try.prog 129 #[.int .i64 a, .int .i64 b] w fun e w' => e = .returned (.int .i64 (max a b)) ∧ w' = w := by
  by_cases h : b < a
  · go_enter Try.func129, Try.ntmps129
    go_wp2
    go_ret
    exact ⟨retI (by show a = max a b; omega), rfl⟩
  · go_enter Try.func129, Try.ntmps129
    go_wp2
    go_ret
    exact ⟨retI (by show b = max a b; omega), rfl⟩
theorem ret_end {w w9 : World} {lo : Nat} {nm : ByteArray} {b : Int} {m : Nat} {H : List ByteArray} {G : List Grp} {A3 B2 : Option Addr} {c3 d2 : Nat} {R : Ans} (h : R = ⟨⟨nm, b, H.drop m, G.map (upG b)⟩, [], m, 0⟩) (hC : Cap A3 (H.length - m) c3) (hS : Strs w9 w9.heap.size A3 (H.drop m)) (hG : w9.ownsRow lo 94 2 (.slice B2 G.length d2) G.length (gflat (G.map (upG b)))) (hb : Below w.heap.size w w9) :
    SpO w w9 (.returned (outV nm b (.slice A3 (H.length - m) c3) (.slice B2 G.length d2) (.slice none 0 0) m 0)) R := by
  subst h
  have e1 : (H.drop m).length = H.length - m := by simp
  have e2 : (G.map (upG b)).length = G.length := by simp
  have hG' : OwnG w9 lo (.slice B2 G.length d2) (G.map (upG b)) := by unfold OwnG; rw [e2]; exact hG
  refine ⟨A3, c3, B2, d2, none, 0, by rw [e1, e2]; rfl, hS, hG'.grs, strs_nil _ _ _, by rw [e1]; exact hC, ?_, hb⟩
  have := Cap.own hG'
  exact this
set_option maxHeartbeats 8000000 in
theorem specTopicRetain_any (t : Tpc) (keep : Int) (A : Option Addr) (c : Nat) (B : Option Addr) (d : Nat) (w : World) (hf : t.fits) (hk : (Lit.int .i64 keep).wf = true) (hA : Strs w w.heap.size A t.held) (hB : Grs w w.heap.size B t.groups) (hc : Cap A t.held.length c) (hd : Cap B t.groups.length d) :
    Calls Try.prog 108 #[topV t.name t.base (.slice A t.held.length c) (.slice B t.groups.length d), .int .i64 keep] w fun e w' => SpO w w' e (retT t keep) := by
  have TR := Lib.hid (fun W (h : Below w.heap.size w W) => specTopicRight_any t A c B d W hf (hA.on h) (hB.on h))
  have HR0 : Hid (retT t keep = _) := Lib.hid (retT.eq_def t keep)
  have HO := Lib.hid (topB_iff (t := t))
  obtain ⟨m, HM⟩ : ∃ m, Hid (goneN t keep = m) := ⟨_, Lib.hid rfl⟩
  have hml := gone_le t keep
  have HMX := Lib.hid (fun h => gone_max (n := t.held.length) (keep := keep) h)
  have HMD : Hid (goneN t keep = t.held.length - keep.toNat) := Lib.hid rfl
  rw [HM.out] at HR0 hml HMD
  rw [← HMD.out] at HMX
  generalize retT t keep = R at HR0 ⊢
  obtain ⟨nm, bs, H, G⟩ := t
  simp only at TR HR0 hA hB hc hd hml HMX ⊢
  have K := (Blk.fresh w 26 [.string nm, .int .i64 bs, .slice A H.length c, .slice B G.length d]).alloc (.cells #[.string ⟨#[]⟩, .int .i64 0, .slice none 0 0, .slice none 0 0, .slice none 0 0, .int .i64 0, .int .i64 0] 30)
  have O := Blk.fresh (w.alloc (.cells #[.string nm, .int .i64 bs, .slice A H.length c, .slice B G.length d] 26)) 30 [.string ⟨#[]⟩, .int .i64 0, .slice none 0 0, .slice none 0 0, .slice none 0 0, .int .i64 0, .int .i64 0]
  have hb : Below w.heap.size w ((w.alloc (.cells #[.string nm, .int .i64 bs, .slice A H.length c, .slice B G.length d] 26)).alloc (.cells #[.string ⟨#[]⟩, .int .i64 0, .slice none 0 0, .slice none 0 0, .slice none 0 0, .int .i64 0, .int .i64 0] 30)) := ((Below.refl _ _).alloc (Nat.le_refl _) _).alloc (by simp) _
  simp only [World.size_alloc] at K O
  replace K : Blk ((w.alloc (.cells #[.string nm, .int .i64 bs, .slice A H.length c, .slice B G.length d] 26)).alloc (.cells #[.string ⟨#[]⟩, .int .i64 0, .slice none 0 0, .slice none 0 0, .slice none 0 0, .int .i64 0, .int .i64 0] 30)) w.heap.size 26 [.string nm, .int .i64 bs, .slice A H.length c, .slice B G.length d] := K
  replace O : Blk ((w.alloc (.cells #[.string nm, .int .i64 bs, .slice A H.length c, .slice B G.length d] 26)).alloc (.cells #[.string ⟨#[]⟩, .int .i64 0, .slice none 0 0, .slice none 0 0, .slice none 0 0, .int .i64 0, .int .i64 0] 30)) (w.heap.size + 1) 30 [.string ⟨#[]⟩, .int .i64 0, .slice none 0 0, .slice none 0 0, .slice none 0 0, .int .i64 0, .int .i64 0] := O
  rcases Bool.eq_false_or_eq_true (topB ⟨nm, bs, H, G⟩) with hT | hT
  rotate_left
  · have HR : Hid (R = ill 1) := Lib.hid (by rw [HR0.out, if_pos (by rw [hT]; rfl)])
    rw [hT] at TR
    go_enter Try.func108, Try.ntmps108
    go_wp2_with (fail)
    generalize (w.alloc (.cells #[.string nm, .int .i64 bs, .slice A H.length c, .slice B G.length d] 26)).alloc (.cells #[.string ⟨#[]⟩, .int .i64 0, .slice none 0 0, .slice none 0 0, .slice none 0 0, .int .i64 0, .int .i64 0] 30) = v0 at K O hb ⊢
    refine (TR.out _ hb).mono ?_
    rintro e w0 ⟨rfl, hb0⟩
    replace K := K.below hb0 K.lt
    replace O := O.below hb0 O.lt
    replace hb := hb.trans (hb0.mono hb.size)
    go_wp2_with (fail)
    refine (l07Ill_any 1 _).mono ?_
    rintro e w1 ⟨rfl, hb1⟩
    replace K := K.below hb1 K.lt
    replace O := O.below hb1 O.lt
    replace hb := hb.trans (hb1.mono hb.size)
    have qc0 := O.cell (i := 0) rfl
    have qf0 := O.froz 0
    have qc1 := O.cell (i := 1) rfl
    have qf1 := O.froz 1
    have qc2 := O.cell (i := 2) rfl
    have qf2 := O.froz 2
    have qc3 := O.cell (i := 3) rfl
    have qf3 := O.froz 3
    have qc4 := O.cell (i := 4) rfl
    have qf4 := O.froz 4
    have qc5 := O.cell (i := 5) rfl
    have qf5 := O.froz 5
    have qc6 := O.cell (i := 6) rfl
    have qf6 := O.froz 6
    go_wp2
    clear qc0 qf0 qc1 qf1 qc2 qf2 qc3 qf3 qc4 qf4 qc5 qf5 qc6 qf6
    have O9 := (((((((O.put 0 (.string ⟨#[]⟩)).put 1 (.int .i64 0)).put 2 (.slice none 0 0)).put 3 (.slice none 0 0)).put 4 (.slice none 0 0)).put 5 (.int .i64 0)).put 6 (.int .i64 1))
    have hb9 := (((((((hb.setCell (p := ⟨w.heap.size + 1, 0, none⟩) (by simp <;> omega) (.string ⟨#[]⟩)).setCell (p := ⟨w.heap.size + 1, 1, none⟩) (by simp <;> omega) (.int .i64 0)).setCell (p := ⟨w.heap.size + 1, 2, none⟩) (by simp <;> omega) (.slice none 0 0)).setCell (p := ⟨w.heap.size + 1, 3, none⟩) (by simp <;> omega) (.slice none 0 0)).setCell (p := ⟨w.heap.size + 1, 4, none⟩) (by simp <;> omega) (.slice none 0 0)).setCell (p := ⟨w.heap.size + 1, 5, none⟩) (by simp <;> omega) (.int .i64 0)).setCell (p := ⟨w.heap.size + 1, 6, none⟩) (by simp <;> omega) (.int .i64 1))
    simp only [List.set_cons_succ, List.set_cons_zero] at O9
    generalize ((((((w1.setCell ⟨w.heap.size + 1, 0, none⟩ (.string ⟨#[]⟩)).setCell ⟨w.heap.size + 1, 1, none⟩ (.int .i64 0)).setCell ⟨w.heap.size + 1, 2, none⟩ (.slice none 0 0)).setCell ⟨w.heap.size + 1, 3, none⟩ (.slice none 0 0)).setCell ⟨w.heap.size + 1, 4, none⟩ (.slice none 0 0)).setCell ⟨w.heap.size + 1, 5, none⟩ (.int .i64 0)).setCell ⟨w.heap.size + 1, 6, none⟩ (.int .i64 1) = w9 at O9 hb9  ⊢
    have oc0 := O9.cell (i := 0) rfl
    have oc1 := O9.cell (i := 1) rfl
    have oc2 := O9.cell (i := 2) rfl
    have oc3 := O9.cell (i := 3) rfl
    have oc4 := O9.cell (i := 4) rfl
    have oc5 := O9.cell (i := 5) rfl
    have oc6 := O9.cell (i := 6) rfl
    exact bodyPost_ret (v := .agg #[.string ⟨#[]⟩, .int .i64 0, .slice none 0 0, .slice none 0 0, .slice none 0 0, .int .i64 0, .int .i64 1]) (by simp [results, Try.results108, go_sem, oc0, oc1, oc2, oc3, oc4, oc5, oc6]) rfl (by rw [HR.out]; exact SpO.ill hb9)
  rw [hT] at TR
  have hO := HO.out.1 hT
  have hbs := inB_true hO.2.1
  have hl : H.length ≤ 20 := hO.2.2.1
  have hg4 : G.length ≤ 4 := hO.2.2.2.2.1
  clear HO hO
  rcases Bool.eq_false_or_eq_true (inB keep 0 20) with hM | hM
  rotate_left
  · have HR : Hid (R = ill 1) := Lib.hid (by rw [HR0.out, if_pos (by rw [hM, Bool.and_false])])
    have IS := is3 hM
    go_enter Try.func108, Try.ntmps108
    go_wp2_with (fail)
    generalize (w.alloc (.cells #[.string nm, .int .i64 bs, .slice A H.length c, .slice B G.length d] 26)).alloc (.cells #[.string ⟨#[]⟩, .int .i64 0, .slice none 0 0, .slice none 0 0, .slice none 0 0, .int .i64 0, .int .i64 0] 30) = v0 at K O hb ⊢
    refine (TR.out _ hb).mono ?_
    rintro e w0 ⟨rfl, hb0⟩
    replace K := K.below hb0 K.lt
    replace O := O.below hb0 O.lt
    replace hb := hb.trans (hb0.mono hb.size)
    go_wp2_with (fail)
    refine (IS _).mono ?_
    rintro e w0' ⟨rfl, rfl⟩
    go_wp2_with (fail)
    refine (l07Ill_any 1 _).mono ?_
    rintro e w1 ⟨rfl, hb1⟩
    replace K := K.below hb1 K.lt
    replace O := O.below hb1 O.lt
    replace hb := hb.trans (hb1.mono hb.size)
    have qc0 := O.cell (i := 0) rfl
    have qf0 := O.froz 0
    have qc1 := O.cell (i := 1) rfl
    have qf1 := O.froz 1
    have qc2 := O.cell (i := 2) rfl
    have qf2 := O.froz 2
    have qc3 := O.cell (i := 3) rfl
    have qf3 := O.froz 3
    have qc4 := O.cell (i := 4) rfl
    have qf4 := O.froz 4
    have qc5 := O.cell (i := 5) rfl
    have qf5 := O.froz 5
    have qc6 := O.cell (i := 6) rfl
    have qf6 := O.froz 6
    go_wp2
    clear qc0 qf0 qc1 qf1 qc2 qf2 qc3 qf3 qc4 qf4 qc5 qf5 qc6 qf6
    have O9 := (((((((O.put 0 (.string ⟨#[]⟩)).put 1 (.int .i64 0)).put 2 (.slice none 0 0)).put 3 (.slice none 0 0)).put 4 (.slice none 0 0)).put 5 (.int .i64 0)).put 6 (.int .i64 1))
    have hb9 := (((((((hb.setCell (p := ⟨w.heap.size + 1, 0, none⟩) (by simp <;> omega) (.string ⟨#[]⟩)).setCell (p := ⟨w.heap.size + 1, 1, none⟩) (by simp <;> omega) (.int .i64 0)).setCell (p := ⟨w.heap.size + 1, 2, none⟩) (by simp <;> omega) (.slice none 0 0)).setCell (p := ⟨w.heap.size + 1, 3, none⟩) (by simp <;> omega) (.slice none 0 0)).setCell (p := ⟨w.heap.size + 1, 4, none⟩) (by simp <;> omega) (.slice none 0 0)).setCell (p := ⟨w.heap.size + 1, 5, none⟩) (by simp <;> omega) (.int .i64 0)).setCell (p := ⟨w.heap.size + 1, 6, none⟩) (by simp <;> omega) (.int .i64 1))
    simp only [List.set_cons_succ, List.set_cons_zero] at O9
    generalize ((((((w1.setCell ⟨w.heap.size + 1, 0, none⟩ (.string ⟨#[]⟩)).setCell ⟨w.heap.size + 1, 1, none⟩ (.int .i64 0)).setCell ⟨w.heap.size + 1, 2, none⟩ (.slice none 0 0)).setCell ⟨w.heap.size + 1, 3, none⟩ (.slice none 0 0)).setCell ⟨w.heap.size + 1, 4, none⟩ (.slice none 0 0)).setCell ⟨w.heap.size + 1, 5, none⟩ (.int .i64 0)).setCell ⟨w.heap.size + 1, 6, none⟩ (.int .i64 1) = w9 at O9 hb9  ⊢
    have oc0 := O9.cell (i := 0) rfl
    have oc1 := O9.cell (i := 1) rfl
    have oc2 := O9.cell (i := 2) rfl
    have oc3 := O9.cell (i := 3) rfl
    have oc4 := O9.cell (i := 4) rfl
    have oc5 := O9.cell (i := 5) rfl
    have oc6 := O9.cell (i := 6) rfl
    exact bodyPost_ret (v := .agg #[.string ⟨#[]⟩, .int .i64 0, .slice none 0 0, .slice none 0 0, .slice none 0 0, .int .i64 0, .int .i64 1]) (by simp [results, Try.results108, go_sem, oc0, oc1, oc2, oc3, oc4, oc5, oc6]) rfl (by rw [HR.out]; exact SpO.ill hb9)
  have IS := is3 hM
  have hkb := inB_true hM
  have hmx := HMX.out hkb.1
  have HR : Hid (R = ⟨⟨nm, bs + m, H.drop m, G.map (upG (bs + m))⟩, [], m, 0⟩) := Lib.hid (by rw [HR0.out, if_neg (by rw [hT, hM]; decide)])
  have LM := Lib.hid (fun W => (l01Max_any 0 ((H.length : Int) - keep) W))
  rw [hmx] at LM
  clear HR0 hT hM HMX hmx HM HMD
  go_enter Try.func108, Try.ntmps108
  go_wp2_with (fail)
  generalize (w.alloc (.cells #[.string nm, .int .i64 bs, .slice A H.length c, .slice B G.length d] 26)).alloc (.cells #[.string ⟨#[]⟩, .int .i64 0, .slice none 0 0, .slice none 0 0, .slice none 0 0, .int .i64 0, .int .i64 0] 30) = v0 at K O hb ⊢
  refine (TR.out _ hb).mono ?_
  rintro e w0 ⟨rfl, hb0⟩
  replace K := K.below hb0 K.lt
  replace O := O.below hb0 O.lt
  replace hb := hb.trans (hb0.mono hb.size)
  clear TR hb0
  go_wp2_with (fail)
  refine (IS _).mono ?_
  rintro e w0' ⟨rfl, rfl⟩
  clear IS
  have kc0 := K.cell (i := 0) rfl
  have kc1 := K.cell (i := 1) rfl
  have kc2 := K.cell (i := 2) rfl
  have kc3 := K.cell (i := 3) rfl
  go_wp2_with (fail)
  refine (LM.out _).mono ?_
  rintro e w1 ⟨rfl, rfl⟩
  clear LM
  go_wp2_with (fail)
  refine (l07Copy_any nm bs A H c B G d w1 (hA.on hb) (hB.on hb) hc hd hl hg4).mono ?_
  rintro e w2 ⟨A2, c2, B2, d2, rfl, oS, oG, hb2⟩
  clear kc0 kc1 kc2 kc3
  have ho1 := O.lt
  replace K := K.below hb2 K.lt
  replace O := O.below hb2 O.lt
  replace hb := hb.trans (hb2.mono hb.size)
  have hz1 := hb2.size
  clear hb2
  have cS := Cap.own oS
  have P := Blk.fresh w2 26 [.string nm, .int .i64 bs, .slice A2 H.length c2, .slice B2 G.length d2]
  have hb3 := below_box w2 (.cells #[.string nm, .int .i64 bs, .slice A2 H.length c2, .slice B2 G.length d2] 26)
  replace P : Blk (w2.alloc (.cells #[.string nm, .int .i64 bs, .slice A2 H.length c2, .slice B2 G.length d2] 26)) w2.heap.size 26 [.string nm, .int .i64 bs, .slice A2 H.length c2, .slice B2 G.length d2] := P
  have hz3 : w2.heap.size < (w2.alloc (.cells #[.string nm, .int .i64 bs, .slice A2 H.length c2, .slice B2 G.length d2] 26)).heap.size := by simp
  go_upto_region 5 with (fail)
  generalize w2.alloc (.cells #[.string nm, .int .i64 bs, .slice A2 H.length c2, .slice B2 G.length d2] 26) = w3 at P hb3 hz3 ⊢
  replace K := K.below hb3 K.lt
  replace O := O.below hb3 O.lt
  replace hb := hb.trans (hb3.mono hb.size)
  replace oS := row_below oS hb3 (Nat.le_refl _)
  replace oG := row_below oG hb3 (Nat.le_refl _)
  clear hb3
  have pc2 := P.cell (i := 2) rfl
  have pf2 := P.froz 2
  have hm1 : (m : Int) ≤ (H.length : Int) := by omega
  have HC3 := Lib.hid (cap_drop (k := m) cS hml)
  have HS3 := Lib.hid (fun W (h : W.ownsRow w1.heap.size 9 1 (.slice A2 H.length c2) H.length (H.map Value.string)) => strs_drop (OwnS.strs (base := w1.heap.size) (w := W) h).2 hml cS.le)
  have nS := own_not oS P (by decide)
  have nG := own_not oG P (by decide)
  go_upto_region 6 with (fail)
  clear pc2 pf2
  generalize (if c2 = m then A2 else Option.map (fun x => x.add m) A2) = A3 at HC3 HS3 ⊢
  generalize c2 - m = c3 at HC3 ⊢
  replace P := P.put 2 (.slice A3 (H.length - m) c3)
  replace O := O.far (p := ⟨w2.heap.size, 2, none⟩) (by simp; omega) (.slice A3 (H.length - m) c3)
  replace K := K.far (p := ⟨w2.heap.size, 2, none⟩) (by simp; omega) (.slice A3 (H.length - m) c3)
  replace oS := row_off oS (p := ⟨w2.heap.size, 2, none⟩) nS (.slice A3 (H.length - m) c3)
  replace oG := row_off oG (p := ⟨w2.heap.size, 2, none⟩) nG (.slice A3 (H.length - m) c3)
  replace hb := hb.setCell (p := ⟨w2.heap.size, 2, none⟩) (by simp; omega) (.slice A3 (H.length - m) c3)
  simp only [List.set_cons_succ, List.set_cons_zero] at P
  generalize w3.setCell ⟨w2.heap.size, 2, none⟩ (.slice A3 (H.length - m) c3) = w4 at P O K oS oG hb ⊢
  have k1 := K.cell (i := 1) rfl
  have p1 := P.cell (i := 1) rfl
  have f1 := P.froz 1
  go_upto_region 7 with (fail)
  clear k1 p1 f1
  replace P := P.put 1 (.int .i64 (bs + m))
  replace O := O.far (p := ⟨w2.heap.size, 1, none⟩) (by simp; omega) (.int .i64 (bs + m))
  replace oS := row_off oS (p := ⟨w2.heap.size, 1, none⟩) nS (.int .i64 (bs + m))
  replace oG := row_off oG (p := ⟨w2.heap.size, 1, none⟩) nG (.int .i64 (bs + m))
  replace hb := hb.setCell (p := ⟨w2.heap.size, 1, none⟩) (by simp; omega) (.int .i64 (bs + m))
  simp only [List.set_cons_succ, List.set_cons_zero] at P
  generalize w4.setCell ⟨w2.heap.size, 1, none⟩ (.int .i64 (bs + m)) = w5 at P O oS oG hb ⊢
  clear K
  have HF := Lib.hid (fun i (h : i < G.length) => (hf.2.2.2 G[i] (List.getElem_mem h)).2)
  obtain ⟨b, HBm⟩ : ∃ b : Int, Hid (bs + (m : Int) = b) := ⟨_, Lib.hid rfl⟩
  have hbb : 0 ≤ b ∧ b ≤ 2000000000 := by have := HBm.out; omega
  rw [HBm.out] at P HR ⊢
  go_wp2_with (fail)
  go_loopw [7] (fun i wr => ∃ k : Nat, k ≤ G.length ∧ i = .int .i64 k ∧ Blk wr w2.heap.size 26 [.string nm, .int .i64 b, .slice A3 (H.length - m) c3, .slice B2 G.length d2] ∧ wr.ownsRow w1.heap.size 9 1 (.slice A2 H.length c2) H.length (H.map Value.string) ∧ wr.ownsRow w1.heap.size 94 2 (.slice B2 G.length d2) G.length (gflat (partG b G k)) ∧ Blk wr (w.heap.size + 1) 30 [.string ⟨#[]⟩, .int .i64 0, .slice none 0 0, .slice none 0 0, .slice none 0 0, .int .i64 0, .int .i64 0] ∧ Below w.heap.size w wr) (fun i _ => G.length - (intOf i).toNat)
  case atStart => exact ⟨0, by omega, rfl, P, oS, by rw [partG_zero]; exact oG, O, hb⟩
  case round =>
    clear P oS oG O hb nS nG
    obtain ⟨k, hk, rfl, P, oS, oG, O, hb⟩ := hrel
    have p0 := P.cell (i := 0) rfl
    have p1 := P.cell (i := 1) rfl
    have p2 := P.cell (i := 2) rfl
    have p3 := P.cell (i := 3) rfl
    by_cases hlt : k < G.length
    rotate_left
    · obtain rfl : k = G.length := by omega
      rw [partG_all] at oG
      have qc0 := O.cell (i := 0) rfl
      have qf0 := O.froz 0
      have qc1 := O.cell (i := 1) rfl
      have qf1 := O.froz 1
      have qc2 := O.cell (i := 2) rfl
      have qf2 := O.froz 2
      have qc3 := O.cell (i := 3) rfl
      have qf3 := O.froz 3
      have qc4 := O.cell (i := 4) rfl
      have qf4 := O.froz 4
      have qc5 := O.cell (i := 5) rfl
      have qf5 := O.froz 5
      have qc6 := O.cell (i := 6) rfl
      have qf6 := O.froz 6
      go_wp2
      clear qc0 qf0 qc1 qf1 qc2 qf2 qc3 qf3 qc4 qf4 qc5 qf5 qc6 qf6
      clear p0 p1 p2 p3
      have nS := own_not oS O (by decide)
      have nG := own_not oG O (by decide)
      have S69 := (row_off (row_off (row_off (row_off (row_off (row_off (row_off oS (p := ⟨w.heap.size + 1, 0, none⟩) nS (.string nm)) (p := ⟨w.heap.size + 1, 1, none⟩) nS (.int .i64 b)) (p := ⟨w.heap.size + 1, 2, none⟩) nS (.slice A3 (H.length - m) c3)) (p := ⟨w.heap.size + 1, 3, none⟩) nS (.slice B2 G.length d2)) (p := ⟨w.heap.size + 1, 4, none⟩) nS (.slice none 0 0)) (p := ⟨w.heap.size + 1, 5, none⟩) nS (.int .i64 m)) (p := ⟨w.heap.size + 1, 6, none⟩) nS (.int .i64 0))
      have G69 := (row_off (row_off (row_off (row_off (row_off (row_off (row_off oG (p := ⟨w.heap.size + 1, 0, none⟩) nG (.string nm)) (p := ⟨w.heap.size + 1, 1, none⟩) nG (.int .i64 b)) (p := ⟨w.heap.size + 1, 2, none⟩) nG (.slice A3 (H.length - m) c3)) (p := ⟨w.heap.size + 1, 3, none⟩) nG (.slice B2 G.length d2)) (p := ⟨w.heap.size + 1, 4, none⟩) nG (.slice none 0 0)) (p := ⟨w.heap.size + 1, 5, none⟩) nG (.int .i64 m)) (p := ⟨w.heap.size + 1, 6, none⟩) nG (.int .i64 0))
      have O9 := (((((((O.put 0 (.string nm)).put 1 (.int .i64 b)).put 2 (.slice A3 (H.length - m) c3)).put 3 (.slice B2 G.length d2)).put 4 (.slice none 0 0)).put 5 (.int .i64 m)).put 6 (.int .i64 0))
      have hb9 := (((((((hb.setCell (p := ⟨w.heap.size + 1, 0, none⟩) (by simp <;> omega) (.string nm)).setCell (p := ⟨w.heap.size + 1, 1, none⟩) (by simp <;> omega) (.int .i64 b)).setCell (p := ⟨w.heap.size + 1, 2, none⟩) (by simp <;> omega) (.slice A3 (H.length - m) c3)).setCell (p := ⟨w.heap.size + 1, 3, none⟩) (by simp <;> omega) (.slice B2 G.length d2)).setCell (p := ⟨w.heap.size + 1, 4, none⟩) (by simp <;> omega) (.slice none 0 0)).setCell (p := ⟨w.heap.size + 1, 5, none⟩) (by simp <;> omega) (.int .i64 m)).setCell (p := ⟨w.heap.size + 1, 6, none⟩) (by simp <;> omega) (.int .i64 0))
      simp only [List.set_cons_succ, List.set_cons_zero] at O9
      generalize ((((((wr.setCell ⟨w.heap.size + 1, 0, none⟩ (.string nm)).setCell ⟨w.heap.size + 1, 1, none⟩ (.int .i64 b)).setCell ⟨w.heap.size + 1, 2, none⟩ (.slice A3 (H.length - m) c3)).setCell ⟨w.heap.size + 1, 3, none⟩ (.slice B2 G.length d2)).setCell ⟨w.heap.size + 1, 4, none⟩ (.slice none 0 0)).setCell ⟨w.heap.size + 1, 5, none⟩ (.int .i64 m)).setCell ⟨w.heap.size + 1, 6, none⟩ (.int .i64 0) = w9 at O9 hb9 S69 G69  ⊢
      have oc0 := O9.cell (i := 0) rfl
      have oc1 := O9.cell (i := 1) rfl
      have oc2 := O9.cell (i := 2) rfl
      have oc3 := O9.cell (i := 3) rfl
      have oc4 := O9.cell (i := 4) rfl
      have oc5 := O9.cell (i := 5) rfl
      have oc6 := O9.cell (i := 6) rfl
      exact bodyPost_ret (v := .agg #[.string nm, .int .i64 b, .slice A3 (H.length - m) c3, .slice B2 G.length d2, .slice none 0 0, .int .i64 m, .int .i64 0]) (by simp [results, Try.results108, go_sem, oc0, oc1, oc2, oc3, oc4, oc5, oc6]) rfl (ret_end HR.out (by have := HC3.out; simpa using this) (HS3.out _ S69) G69 hb9)
    have hlt' : (k : Int) < (G.length : Int) := by omega
    obtain ⟨g, rfl⟩ : ∃ g, B2 = some ⟨g, 0, none⟩ := by
      rcases oG.2 with ⟨he, h0⟩ | ⟨g, cap, cur, he, _⟩
      · omega
      · cases he; exact ⟨g, rfl⟩
    have hpl := partG_len b G k hk
    have hkp : k < (partG b G k).length := by rw [hpl]; exact hlt
    have he : (partG b G k)[k] = G[k] := by
      have := partG_at b G hlt
      rw [List.getElem?_eq_getElem hkp] at this
      exact Option.some.inj this
    have HE := Lib.hid he
    clear he hpl
    obtain ⟨_, d1, _, _⟩ := row_grp oG (k := k) hkp
    rw [HE.out] at d1
    have hac := HF.out k hlt
    have LM2 := Lib.hid (fun W => bl (l01Max_any b G[k].acked W))
    go_wp2_with (fail)
    obtain ⟨I, fw, hI, g5', h6, g6', g7'⟩ := class_grown wr
    have x1 := fun q => kept_cell (h6 q) p1
    have x3 := fun q => kept_cell (h6 q) p3
    have y1 := fun q => kept_cell (h6 q) d1
    have G7 := Lib.hid g7'
    have G6 := Lib.hid g6'
    clear h6 g7' g6' p0 p1 p2 p3 d1
    refine wp_region_class_tail (C := fun w' => ∃ q, w' = fw q) 12 (by kernel_rfl) (by kernel_rfl) g5' ?_
    simp only [List.take_succ_cons, List.take_zero, List.drop_succ_cons, List.drop_zero]
    repeat (first
      | go_big_quiet_skip
      | (go_big_quiet_want; go_big_quiet_op; first | go_big_quiet_on | (apply Exists.intro; refine ⟨fun q => ?_, ?_⟩; (go_at_call 129; (with_reducible refine (LM2.out _).mono ?_); rintro e w9 ⟨rfl, hb9'⟩; exact ⟨rfl, G6.out _ _ hb9'⟩); go_big_quiet_on)))
    refine wpQuiet_nil ?_
    intro w6 h6
    have hb6 := G7.out _ h6
    clear x1 x3 y1 g5' h6
    replace P := P.below hb6 P.lt
    replace O := O.below hb6 O.lt
    replace oS := row_below oS hb6 (Nat.le_refl _)
    replace oG := row_below oG hb6 (Nat.le_refl _)
    replace hb := hb.trans (hb6.mono hb.size)
    obtain ⟨_, d1, _, f1⟩ := row_grp oG (k := k) hkp
    rw [HE.out] at d1
    go_wp2
    have hgl := (oG.lt g rfl).1
    have nP := own_not oG P (by decide)
    have nO := own_not oG O (by decide)
    have nS : (Value.slice A2 H.length c2).ownBlock ≠ some g := by
      rcases own_apart oS oG (by decide) with h | h
      · rw [h]; simp
      · exact h
    have o9 := (oG.stored (k * 2 + 1) (.int .i64 (max b G[k].acked))).1
    rw [partG_step b G hlt] at o9
    exact ⟨⟨k + 1, by omega, by go_num, P.far (fun e => nP (by rw [e]; rfl)) _, row_off oS nS _, o9, O.far (fun e => nO (by rw [e]; rfl)) _, hb.setCell (by simp; omega) _⟩, by simp [intOf]; omega⟩
end Go.Proofs.Ytjnbhppnchmeoaa

namespace Go.Proofs.Ytjnbhppnchmeoaa
open Go.RowKit
set_option linter.unusedVariables false
set_option maxRecDepth 1000000

theorem ret_endX {w w9 : World} {lo : Nat} {nm : ByteArray} {b : Int} {m : Nat} {H : List ByteArray} {G : List Grp} {A3 B2 : Option Addr} {c3 d2 : Nat} {R : Ans} (h : R = ⟨⟨nm, b, H.drop m, G.map (upG b)⟩, [], m, 0⟩) (hC : Cap A3 (H.length - m) c3) (hS : Rx w9 w.heap.size 9 1 A3 (H.length - m) c3 ((H.map Value.string).drop m)) (hG : w9.ownsRow lo 94 2 (.slice B2 G.length d2) G.length (gflat (G.map (upG b)))) (hb : Below w.heap.size w w9) (hzz : w.heap.size ≤ lo) :
    SpX w w9 (.returned (outV nm b (.slice A3 (H.length - m) c3) (.slice B2 G.length d2) (.slice none 0 0) m 0)) R := by
  subst h
  have e1 : (H.drop m).length = H.length - m := by simp
  have e2 : (G.map (upG b)).length = G.length := by simp
  refine ⟨A3, c3, B2, d2, none, 0, by rw [e1, e2]; rfl, ?_, Gx.low (show Gx w9 lo B2 d2 (G.map (upG b)) by unfold Gx; rw [e2]; exact hG) hzz, hb⟩
  rw [e1, List.map_drop]; exact hS
set_option maxHeartbeats 8000000 in
theorem specTopicRetain_anyX (t : Tpc) (keep : Int) (A : Option Addr) (c : Nat) (B : Option Addr) (d : Nat) (w : World) (hf : t.fits) (hk : (Lit.int .i64 keep).wf = true) (hA : Strs w w.heap.size A t.held) (hB : Grs w w.heap.size B t.groups) (hc : Cap A t.held.length c) (hd : Cap B t.groups.length d) :
    Calls Try.prog 108 #[topV t.name t.base (.slice A t.held.length c) (.slice B t.groups.length d), .int .i64 keep] w fun e w' => SpX w w' e (retT t keep) := by
  have TR := Lib.hid (fun W (h : Below w.heap.size w W) => specTopicRight_any t A c B d W hf (hA.on h) (hB.on h))
  have HR0 : Hid (retT t keep = _) := Lib.hid (retT.eq_def t keep)
  have HO := Lib.hid (topB_iff (t := t))
  obtain ⟨m, HM⟩ : ∃ m, Hid (goneN t keep = m) := ⟨_, Lib.hid rfl⟩
  have hml := gone_le t keep
  have HMX := Lib.hid (fun h => gone_max (n := t.held.length) (keep := keep) h)
  have HMD : Hid (goneN t keep = t.held.length - keep.toNat) := Lib.hid rfl
  rw [HM.out] at HR0 hml HMD
  rw [← HMD.out] at HMX
  generalize retT t keep = R at HR0 ⊢
  obtain ⟨nm, bs, H, G⟩ := t
  simp only at TR HR0 hA hB hc hd hml HMX ⊢
  have K := (Blk.fresh w 26 [.string nm, .int .i64 bs, .slice A H.length c, .slice B G.length d]).alloc (.cells #[.string ⟨#[]⟩, .int .i64 0, .slice none 0 0, .slice none 0 0, .slice none 0 0, .int .i64 0, .int .i64 0] 30)
  have O := Blk.fresh (w.alloc (.cells #[.string nm, .int .i64 bs, .slice A H.length c, .slice B G.length d] 26)) 30 [.string ⟨#[]⟩, .int .i64 0, .slice none 0 0, .slice none 0 0, .slice none 0 0, .int .i64 0, .int .i64 0]
  have hb : Below w.heap.size w ((w.alloc (.cells #[.string nm, .int .i64 bs, .slice A H.length c, .slice B G.length d] 26)).alloc (.cells #[.string ⟨#[]⟩, .int .i64 0, .slice none 0 0, .slice none 0 0, .slice none 0 0, .int .i64 0, .int .i64 0] 30)) := ((Below.refl _ _).alloc (Nat.le_refl _) _).alloc (by simp) _
  simp only [World.size_alloc] at K O
  replace K : Blk ((w.alloc (.cells #[.string nm, .int .i64 bs, .slice A H.length c, .slice B G.length d] 26)).alloc (.cells #[.string ⟨#[]⟩, .int .i64 0, .slice none 0 0, .slice none 0 0, .slice none 0 0, .int .i64 0, .int .i64 0] 30)) w.heap.size 26 [.string nm, .int .i64 bs, .slice A H.length c, .slice B G.length d] := K
  replace O : Blk ((w.alloc (.cells #[.string nm, .int .i64 bs, .slice A H.length c, .slice B G.length d] 26)).alloc (.cells #[.string ⟨#[]⟩, .int .i64 0, .slice none 0 0, .slice none 0 0, .slice none 0 0, .int .i64 0, .int .i64 0] 30)) (w.heap.size + 1) 30 [.string ⟨#[]⟩, .int .i64 0, .slice none 0 0, .slice none 0 0, .slice none 0 0, .int .i64 0, .int .i64 0] := O
  rcases Bool.eq_false_or_eq_true (topB ⟨nm, bs, H, G⟩) with hT | hT
  rotate_left
  · have HR : Hid (R = ill 1) := Lib.hid (by rw [HR0.out, if_pos (by rw [hT]; rfl)])
    rw [hT] at TR
    go_enter Try.func108, Try.ntmps108
    go_wp2_with (fail)
    generalize (w.alloc (.cells #[.string nm, .int .i64 bs, .slice A H.length c, .slice B G.length d] 26)).alloc (.cells #[.string ⟨#[]⟩, .int .i64 0, .slice none 0 0, .slice none 0 0, .slice none 0 0, .int .i64 0, .int .i64 0] 30) = v0 at K O hb ⊢
    refine (TR.out _ hb).mono ?_
    rintro e w0 ⟨rfl, hb0⟩
    replace K := K.below hb0 K.lt
    replace O := O.below hb0 O.lt
    replace hb := hb.trans (hb0.mono hb.size)
    go_wp2_with (fail)
    refine (l07Ill_any 1 _).mono ?_
    rintro e w1 ⟨rfl, hb1⟩
    replace K := K.below hb1 K.lt
    replace O := O.below hb1 O.lt
    replace hb := hb.trans (hb1.mono hb.size)
    have qc0 := O.cell (i := 0) rfl
    have qf0 := O.froz 0
    have qc1 := O.cell (i := 1) rfl
    have qf1 := O.froz 1
    have qc2 := O.cell (i := 2) rfl
    have qf2 := O.froz 2
    have qc3 := O.cell (i := 3) rfl
    have qf3 := O.froz 3
    have qc4 := O.cell (i := 4) rfl
    have qf4 := O.froz 4
    have qc5 := O.cell (i := 5) rfl
    have qf5 := O.froz 5
    have qc6 := O.cell (i := 6) rfl
    have qf6 := O.froz 6
    go_wp2
    clear qc0 qf0 qc1 qf1 qc2 qf2 qc3 qf3 qc4 qf4 qc5 qf5 qc6 qf6
    have O9 := (((((((O.put 0 (.string ⟨#[]⟩)).put 1 (.int .i64 0)).put 2 (.slice none 0 0)).put 3 (.slice none 0 0)).put 4 (.slice none 0 0)).put 5 (.int .i64 0)).put 6 (.int .i64 1))
    have hb9 := (((((((hb.setCell (p := ⟨w.heap.size + 1, 0, none⟩) (by simp <;> omega) (.string ⟨#[]⟩)).setCell (p := ⟨w.heap.size + 1, 1, none⟩) (by simp <;> omega) (.int .i64 0)).setCell (p := ⟨w.heap.size + 1, 2, none⟩) (by simp <;> omega) (.slice none 0 0)).setCell (p := ⟨w.heap.size + 1, 3, none⟩) (by simp <;> omega) (.slice none 0 0)).setCell (p := ⟨w.heap.size + 1, 4, none⟩) (by simp <;> omega) (.slice none 0 0)).setCell (p := ⟨w.heap.size + 1, 5, none⟩) (by simp <;> omega) (.int .i64 0)).setCell (p := ⟨w.heap.size + 1, 6, none⟩) (by simp <;> omega) (.int .i64 1))
    simp only [List.set_cons_succ, List.set_cons_zero] at O9
    generalize ((((((w1.setCell ⟨w.heap.size + 1, 0, none⟩ (.string ⟨#[]⟩)).setCell ⟨w.heap.size + 1, 1, none⟩ (.int .i64 0)).setCell ⟨w.heap.size + 1, 2, none⟩ (.slice none 0 0)).setCell ⟨w.heap.size + 1, 3, none⟩ (.slice none 0 0)).setCell ⟨w.heap.size + 1, 4, none⟩ (.slice none 0 0)).setCell ⟨w.heap.size + 1, 5, none⟩ (.int .i64 0)).setCell ⟨w.heap.size + 1, 6, none⟩ (.int .i64 1) = w9 at O9 hb9  ⊢
    have oc0 := O9.cell (i := 0) rfl
    have oc1 := O9.cell (i := 1) rfl
    have oc2 := O9.cell (i := 2) rfl
    have oc3 := O9.cell (i := 3) rfl
    have oc4 := O9.cell (i := 4) rfl
    have oc5 := O9.cell (i := 5) rfl
    have oc6 := O9.cell (i := 6) rfl
    exact bodyPost_ret (v := .agg #[.string ⟨#[]⟩, .int .i64 0, .slice none 0 0, .slice none 0 0, .slice none 0 0, .int .i64 0, .int .i64 1]) (by simp [results, Try.results108, go_sem, oc0, oc1, oc2, oc3, oc4, oc5, oc6]) rfl (by rw [HR.out]; exact SpX.ill hb9)
  rw [hT] at TR
  have hO := HO.out.1 hT
  have hbs := inB_true hO.2.1
  have hl : H.length ≤ 20 := hO.2.2.1
  have hg4 : G.length ≤ 4 := hO.2.2.2.2.1
  clear HO hO
  rcases Bool.eq_false_or_eq_true (inB keep 0 20) with hM | hM
  rotate_left
  · have HR : Hid (R = ill 1) := Lib.hid (by rw [HR0.out, if_pos (by rw [hM, Bool.and_false])])
    have IS := is3 hM
    go_enter Try.func108, Try.ntmps108
    go_wp2_with (fail)
    generalize (w.alloc (.cells #[.string nm, .int .i64 bs, .slice A H.length c, .slice B G.length d] 26)).alloc (.cells #[.string ⟨#[]⟩, .int .i64 0, .slice none 0 0, .slice none 0 0, .slice none 0 0, .int .i64 0, .int .i64 0] 30) = v0 at K O hb ⊢
    refine (TR.out _ hb).mono ?_
    rintro e w0 ⟨rfl, hb0⟩
    replace K := K.below hb0 K.lt
    replace O := O.below hb0 O.lt
    replace hb := hb.trans (hb0.mono hb.size)
    go_wp2_with (fail)
    refine (IS _).mono ?_
    rintro e w0' ⟨rfl, rfl⟩
    go_wp2_with (fail)
    refine (l07Ill_any 1 _).mono ?_
    rintro e w1 ⟨rfl, hb1⟩
    replace K := K.below hb1 K.lt
    replace O := O.below hb1 O.lt
    replace hb := hb.trans (hb1.mono hb.size)
    have qc0 := O.cell (i := 0) rfl
    have qf0 := O.froz 0
    have qc1 := O.cell (i := 1) rfl
    have qf1 := O.froz 1
    have qc2 := O.cell (i := 2) rfl
    have qf2 := O.froz 2
    have qc3 := O.cell (i := 3) rfl
    have qf3 := O.froz 3
    have qc4 := O.cell (i := 4) rfl
    have qf4 := O.froz 4
    have qc5 := O.cell (i := 5) rfl
    have qf5 := O.froz 5
    have qc6 := O.cell (i := 6) rfl
    have qf6 := O.froz 6
    go_wp2
    clear qc0 qf0 qc1 qf1 qc2 qf2 qc3 qf3 qc4 qf4 qc5 qf5 qc6 qf6
    have O9 := (((((((O.put 0 (.string ⟨#[]⟩)).put 1 (.int .i64 0)).put 2 (.slice none 0 0)).put 3 (.slice none 0 0)).put 4 (.slice none 0 0)).put 5 (.int .i64 0)).put 6 (.int .i64 1))
    have hb9 := (((((((hb.setCell (p := ⟨w.heap.size + 1, 0, none⟩) (by simp <;> omega) (.string ⟨#[]⟩)).setCell (p := ⟨w.heap.size + 1, 1, none⟩) (by simp <;> omega) (.int .i64 0)).setCell (p := ⟨w.heap.size + 1, 2, none⟩) (by simp <;> omega) (.slice none 0 0)).setCell (p := ⟨w.heap.size + 1, 3, none⟩) (by simp <;> omega) (.slice none 0 0)).setCell (p := ⟨w.heap.size + 1, 4, none⟩) (by simp <;> omega) (.slice none 0 0)).setCell (p := ⟨w.heap.size + 1, 5, none⟩) (by simp <;> omega) (.int .i64 0)).setCell (p := ⟨w.heap.size + 1, 6, none⟩) (by simp <;> omega) (.int .i64 1))
    simp only [List.set_cons_succ, List.set_cons_zero] at O9
    generalize ((((((w1.setCell ⟨w.heap.size + 1, 0, none⟩ (.string ⟨#[]⟩)).setCell ⟨w.heap.size + 1, 1, none⟩ (.int .i64 0)).setCell ⟨w.heap.size + 1, 2, none⟩ (.slice none 0 0)).setCell ⟨w.heap.size + 1, 3, none⟩ (.slice none 0 0)).setCell ⟨w.heap.size + 1, 4, none⟩ (.slice none 0 0)).setCell ⟨w.heap.size + 1, 5, none⟩ (.int .i64 0)).setCell ⟨w.heap.size + 1, 6, none⟩ (.int .i64 1) = w9 at O9 hb9  ⊢
    have oc0 := O9.cell (i := 0) rfl
    have oc1 := O9.cell (i := 1) rfl
    have oc2 := O9.cell (i := 2) rfl
    have oc3 := O9.cell (i := 3) rfl
    have oc4 := O9.cell (i := 4) rfl
    have oc5 := O9.cell (i := 5) rfl
    have oc6 := O9.cell (i := 6) rfl
    exact bodyPost_ret (v := .agg #[.string ⟨#[]⟩, .int .i64 0, .slice none 0 0, .slice none 0 0, .slice none 0 0, .int .i64 0, .int .i64 1]) (by simp [results, Try.results108, go_sem, oc0, oc1, oc2, oc3, oc4, oc5, oc6]) rfl (by rw [HR.out]; exact SpX.ill hb9)
  have IS := is3 hM
  have hkb := inB_true hM
  have hmx := HMX.out hkb.1
  have HR : Hid (R = ⟨⟨nm, bs + m, H.drop m, G.map (upG (bs + m))⟩, [], m, 0⟩) := Lib.hid (by rw [HR0.out, if_neg (by rw [hT, hM]; decide)])
  have LM := Lib.hid (fun W => (l01Max_any 0 ((H.length : Int) - keep) W))
  rw [hmx] at LM
  clear HR0 hT hM HMX hmx HM HMD
  go_enter Try.func108, Try.ntmps108
  go_wp2_with (fail)
  generalize (w.alloc (.cells #[.string nm, .int .i64 bs, .slice A H.length c, .slice B G.length d] 26)).alloc (.cells #[.string ⟨#[]⟩, .int .i64 0, .slice none 0 0, .slice none 0 0, .slice none 0 0, .int .i64 0, .int .i64 0] 30) = v0 at K O hb ⊢
  refine (TR.out _ hb).mono ?_
  rintro e w0 ⟨rfl, hb0⟩
  replace K := K.below hb0 K.lt
  replace O := O.below hb0 O.lt
  replace hb := hb.trans (hb0.mono hb.size)
  clear TR hb0
  go_wp2_with (fail)
  refine (IS _).mono ?_
  rintro e w0' ⟨rfl, rfl⟩
  clear IS
  have kc0 := K.cell (i := 0) rfl
  have kc1 := K.cell (i := 1) rfl
  have kc2 := K.cell (i := 2) rfl
  have kc3 := K.cell (i := 3) rfl
  go_wp2_with (fail)
  refine (LM.out _).mono ?_
  rintro e w1 ⟨rfl, rfl⟩
  clear LM
  go_wp2_with (fail)
  have hzz : w.heap.size ≤ w1.heap.size := hb.size
  refine (l07Copy_any nm bs A H c B G d w1 (hA.on hb) (hB.on hb) hc hd hl hg4).mono ?_
  rintro e w2 ⟨A2, c2, B2, d2, rfl, oS, oG, hb2⟩
  clear kc0 kc1 kc2 kc3
  have ho1 := O.lt
  replace K := K.below hb2 K.lt
  replace O := O.below hb2 O.lt
  replace hb := hb.trans (hb2.mono hb.size)
  have hz1 := hb2.size
  clear hb2
  have cS := Cap.own oS
  have P := Blk.fresh w2 26 [.string nm, .int .i64 bs, .slice A2 H.length c2, .slice B2 G.length d2]
  have hb3 := below_box w2 (.cells #[.string nm, .int .i64 bs, .slice A2 H.length c2, .slice B2 G.length d2] 26)
  replace P : Blk (w2.alloc (.cells #[.string nm, .int .i64 bs, .slice A2 H.length c2, .slice B2 G.length d2] 26)) w2.heap.size 26 [.string nm, .int .i64 bs, .slice A2 H.length c2, .slice B2 G.length d2] := P
  have hz3 : w2.heap.size < (w2.alloc (.cells #[.string nm, .int .i64 bs, .slice A2 H.length c2, .slice B2 G.length d2] 26)).heap.size := by simp
  go_upto_region 5 with (fail)
  generalize w2.alloc (.cells #[.string nm, .int .i64 bs, .slice A2 H.length c2, .slice B2 G.length d2] 26) = w3 at P hb3 hz3 ⊢
  replace K := K.below hb3 K.lt
  replace O := O.below hb3 O.lt
  replace hb := hb.trans (hb3.mono hb.size)
  replace oS := row_below oS hb3 (Nat.le_refl _)
  replace oG := row_below oG hb3 (Nat.le_refl _)
  clear hb3
  have pc2 := P.cell (i := 2) rfl
  have pf2 := P.froz 2
  have hm1 : (m : Int) ≤ (H.length : Int) := by omega
  have HC3 := Lib.hid (cap_drop (k := m) cS hml)
  have HS3 := Lib.hid (fun W (h : W.ownsRow w1.heap.size 9 1 (.slice A2 H.length c2) H.length (H.map Value.string)) => strs_drop (OwnS.strs (base := w1.heap.size) (w := W) h).2 hml cS.le)
  have HX3 := Lib.hid (fun (W : World) (h : W.ownsRow w1.heap.size 9 1 (.slice A2 H.length c2) H.length (H.map Value.string)) => rx_drop h hzz hml)
  have nS := own_not oS P (by decide)
  have nG := own_not oG P (by decide)
  go_upto_region 6 with (fail)
  clear pc2 pf2
  generalize (if c2 = m then A2 else Option.map (fun x => x.add m) A2) = A3 at HC3 HS3 HX3 ⊢
  generalize c2 - m = c3 at HC3 HX3 ⊢
  replace P := P.put 2 (.slice A3 (H.length - m) c3)
  replace O := O.far (p := ⟨w2.heap.size, 2, none⟩) (by simp; omega) (.slice A3 (H.length - m) c3)
  replace K := K.far (p := ⟨w2.heap.size, 2, none⟩) (by simp; omega) (.slice A3 (H.length - m) c3)
  replace oS := row_off oS (p := ⟨w2.heap.size, 2, none⟩) nS (.slice A3 (H.length - m) c3)
  replace oG := row_off oG (p := ⟨w2.heap.size, 2, none⟩) nG (.slice A3 (H.length - m) c3)
  replace hb := hb.setCell (p := ⟨w2.heap.size, 2, none⟩) (by simp; omega) (.slice A3 (H.length - m) c3)
  simp only [List.set_cons_succ, List.set_cons_zero] at P
  generalize w3.setCell ⟨w2.heap.size, 2, none⟩ (.slice A3 (H.length - m) c3) = w4 at P O K oS oG hb ⊢
  have k1 := K.cell (i := 1) rfl
  have p1 := P.cell (i := 1) rfl
  have f1 := P.froz 1
  go_upto_region 7 with (fail)
  clear k1 p1 f1
  replace P := P.put 1 (.int .i64 (bs + m))
  replace O := O.far (p := ⟨w2.heap.size, 1, none⟩) (by simp; omega) (.int .i64 (bs + m))
  replace oS := row_off oS (p := ⟨w2.heap.size, 1, none⟩) nS (.int .i64 (bs + m))
  replace oG := row_off oG (p := ⟨w2.heap.size, 1, none⟩) nG (.int .i64 (bs + m))
  replace hb := hb.setCell (p := ⟨w2.heap.size, 1, none⟩) (by simp; omega) (.int .i64 (bs + m))
  simp only [List.set_cons_succ, List.set_cons_zero] at P
  generalize w4.setCell ⟨w2.heap.size, 1, none⟩ (.int .i64 (bs + m)) = w5 at P O oS oG hb ⊢
  clear K
  have HF := Lib.hid (fun i (h : i < G.length) => (hf.2.2.2 G[i] (List.getElem_mem h)).2)
  obtain ⟨b, HBm⟩ : ∃ b : Int, Hid (bs + (m : Int) = b) := ⟨_, Lib.hid rfl⟩
  have hbb : 0 ≤ b ∧ b ≤ 2000000000 := by have := HBm.out; omega
  rw [HBm.out] at P HR ⊢
  go_wp2_with (fail)
  go_loopw [7] (fun i wr => ∃ k : Nat, k ≤ G.length ∧ i = .int .i64 k ∧ Blk wr w2.heap.size 26 [.string nm, .int .i64 b, .slice A3 (H.length - m) c3, .slice B2 G.length d2] ∧ wr.ownsRow w1.heap.size 9 1 (.slice A2 H.length c2) H.length (H.map Value.string) ∧ wr.ownsRow w1.heap.size 94 2 (.slice B2 G.length d2) G.length (gflat (partG b G k)) ∧ Blk wr (w.heap.size + 1) 30 [.string ⟨#[]⟩, .int .i64 0, .slice none 0 0, .slice none 0 0, .slice none 0 0, .int .i64 0, .int .i64 0] ∧ Below w.heap.size w wr) (fun i _ => G.length - (intOf i).toNat)
  case atStart => exact ⟨0, by omega, rfl, P, oS, by rw [partG_zero]; exact oG, O, hb⟩
  case round =>
    clear P oS oG O hb nS nG
    obtain ⟨k, hk, rfl, P, oS, oG, O, hb⟩ := hrel
    have p0 := P.cell (i := 0) rfl
    have p1 := P.cell (i := 1) rfl
    have p2 := P.cell (i := 2) rfl
    have p3 := P.cell (i := 3) rfl
    by_cases hlt : k < G.length
    rotate_left
    · obtain rfl : k = G.length := by omega
      rw [partG_all] at oG
      have qc0 := O.cell (i := 0) rfl
      have qf0 := O.froz 0
      have qc1 := O.cell (i := 1) rfl
      have qf1 := O.froz 1
      have qc2 := O.cell (i := 2) rfl
      have qf2 := O.froz 2
      have qc3 := O.cell (i := 3) rfl
      have qf3 := O.froz 3
      have qc4 := O.cell (i := 4) rfl
      have qf4 := O.froz 4
      have qc5 := O.cell (i := 5) rfl
      have qf5 := O.froz 5
      have qc6 := O.cell (i := 6) rfl
      have qf6 := O.froz 6
      go_wp2
      clear qc0 qf0 qc1 qf1 qc2 qf2 qc3 qf3 qc4 qf4 qc5 qf5 qc6 qf6
      clear p0 p1 p2 p3
      have nS := own_not oS O (by decide)
      have nG := own_not oG O (by decide)
      have S69 := (row_off (row_off (row_off (row_off (row_off (row_off (row_off oS (p := ⟨w.heap.size + 1, 0, none⟩) nS (.string nm)) (p := ⟨w.heap.size + 1, 1, none⟩) nS (.int .i64 b)) (p := ⟨w.heap.size + 1, 2, none⟩) nS (.slice A3 (H.length - m) c3)) (p := ⟨w.heap.size + 1, 3, none⟩) nS (.slice B2 G.length d2)) (p := ⟨w.heap.size + 1, 4, none⟩) nS (.slice none 0 0)) (p := ⟨w.heap.size + 1, 5, none⟩) nS (.int .i64 m)) (p := ⟨w.heap.size + 1, 6, none⟩) nS (.int .i64 0))
      have G69 := (row_off (row_off (row_off (row_off (row_off (row_off (row_off oG (p := ⟨w.heap.size + 1, 0, none⟩) nG (.string nm)) (p := ⟨w.heap.size + 1, 1, none⟩) nG (.int .i64 b)) (p := ⟨w.heap.size + 1, 2, none⟩) nG (.slice A3 (H.length - m) c3)) (p := ⟨w.heap.size + 1, 3, none⟩) nG (.slice B2 G.length d2)) (p := ⟨w.heap.size + 1, 4, none⟩) nG (.slice none 0 0)) (p := ⟨w.heap.size + 1, 5, none⟩) nG (.int .i64 m)) (p := ⟨w.heap.size + 1, 6, none⟩) nG (.int .i64 0))
      have O9 := (((((((O.put 0 (.string nm)).put 1 (.int .i64 b)).put 2 (.slice A3 (H.length - m) c3)).put 3 (.slice B2 G.length d2)).put 4 (.slice none 0 0)).put 5 (.int .i64 m)).put 6 (.int .i64 0))
      have hb9 := (((((((hb.setCell (p := ⟨w.heap.size + 1, 0, none⟩) (by simp <;> omega) (.string nm)).setCell (p := ⟨w.heap.size + 1, 1, none⟩) (by simp <;> omega) (.int .i64 b)).setCell (p := ⟨w.heap.size + 1, 2, none⟩) (by simp <;> omega) (.slice A3 (H.length - m) c3)).setCell (p := ⟨w.heap.size + 1, 3, none⟩) (by simp <;> omega) (.slice B2 G.length d2)).setCell (p := ⟨w.heap.size + 1, 4, none⟩) (by simp <;> omega) (.slice none 0 0)).setCell (p := ⟨w.heap.size + 1, 5, none⟩) (by simp <;> omega) (.int .i64 m)).setCell (p := ⟨w.heap.size + 1, 6, none⟩) (by simp <;> omega) (.int .i64 0))
      simp only [List.set_cons_succ, List.set_cons_zero] at O9
      generalize ((((((wr.setCell ⟨w.heap.size + 1, 0, none⟩ (.string nm)).setCell ⟨w.heap.size + 1, 1, none⟩ (.int .i64 b)).setCell ⟨w.heap.size + 1, 2, none⟩ (.slice A3 (H.length - m) c3)).setCell ⟨w.heap.size + 1, 3, none⟩ (.slice B2 G.length d2)).setCell ⟨w.heap.size + 1, 4, none⟩ (.slice none 0 0)).setCell ⟨w.heap.size + 1, 5, none⟩ (.int .i64 m)).setCell ⟨w.heap.size + 1, 6, none⟩ (.int .i64 0) = w9 at O9 hb9 S69 G69  ⊢
      have oc0 := O9.cell (i := 0) rfl
      have oc1 := O9.cell (i := 1) rfl
      have oc2 := O9.cell (i := 2) rfl
      have oc3 := O9.cell (i := 3) rfl
      have oc4 := O9.cell (i := 4) rfl
      have oc5 := O9.cell (i := 5) rfl
      have oc6 := O9.cell (i := 6) rfl
      exact bodyPost_ret (v := .agg #[.string nm, .int .i64 b, .slice A3 (H.length - m) c3, .slice B2 G.length d2, .slice none 0 0, .int .i64 m, .int .i64 0]) (by simp [results, Try.results108, go_sem, oc0, oc1, oc2, oc3, oc4, oc5, oc6]) rfl (ret_endX HR.out (by have := HC3.out; simpa using this) (HX3.out _ S69) G69 hb9 hzz)
    have hlt' : (k : Int) < (G.length : Int) := by omega
    obtain ⟨g, rfl⟩ : ∃ g, B2 = some ⟨g, 0, none⟩ := by
      rcases oG.2 with ⟨he, h0⟩ | ⟨g, cap, cur, he, _⟩
      · omega
      · cases he; exact ⟨g, rfl⟩
    have hpl := partG_len b G k hk
    have hkp : k < (partG b G k).length := by rw [hpl]; exact hlt
    have he : (partG b G k)[k] = G[k] := by
      have := partG_at b G hlt
      rw [List.getElem?_eq_getElem hkp] at this
      exact Option.some.inj this
    have HE := Lib.hid he
    clear he hpl
    obtain ⟨_, d1, _, _⟩ := row_grp oG (k := k) hkp
    rw [HE.out] at d1
    have hac := HF.out k hlt
    have LM2 := Lib.hid (fun W => bl (l01Max_any b G[k].acked W))
    go_wp2_with (fail)
    obtain ⟨I, fw, hI, g5', h6, g6', g7'⟩ := class_grown wr
    have x1 := fun q => kept_cell (h6 q) p1
    have x3 := fun q => kept_cell (h6 q) p3
    have y1 := fun q => kept_cell (h6 q) d1
    have G7 := Lib.hid g7'
    have G6 := Lib.hid g6'
    clear h6 g7' g6' p0 p1 p2 p3 d1
    refine wp_region_class_tail (C := fun w' => ∃ q, w' = fw q) 12 (by kernel_rfl) (by kernel_rfl) g5' ?_
    simp only [List.take_succ_cons, List.take_zero, List.drop_succ_cons, List.drop_zero]
    repeat (first
      | go_big_quiet_skip
      | (go_big_quiet_want; go_big_quiet_op; first | go_big_quiet_on | (apply Exists.intro; refine ⟨fun q => ?_, ?_⟩; (go_at_call 129; (with_reducible refine (LM2.out _).mono ?_); rintro e w9 ⟨rfl, hb9'⟩; exact ⟨rfl, G6.out _ _ hb9'⟩); go_big_quiet_on)))
    refine wpQuiet_nil ?_
    intro w6 h6
    have hb6 := G7.out _ h6
    clear x1 x3 y1 g5' h6
    replace P := P.below hb6 P.lt
    replace O := O.below hb6 O.lt
    replace oS := row_below oS hb6 (Nat.le_refl _)
    replace oG := row_below oG hb6 (Nat.le_refl _)
    replace hb := hb.trans (hb6.mono hb.size)
    obtain ⟨_, d1, _, f1⟩ := row_grp oG (k := k) hkp
    rw [HE.out] at d1
    go_wp2
    have hgl := (oG.lt g rfl).1
    have nP := own_not oG P (by decide)
    have nO := own_not oG O (by decide)
    have nS : (Value.slice A2 H.length c2).ownBlock ≠ some g := by
      rcases own_apart oS oG (by decide) with h | h
      · rw [h]; simp
      · exact h
    have o9 := (oG.stored (k * 2 + 1) (.int .i64 (max b G[k].acked))).1
    rw [partG_step b G hlt] at o9
    exact ⟨⟨k + 1, by omega, by go_num, P.far (fun e => nP (by rw [e]; rfl)) _, row_off oS nS _, o9, O.far (fun e => nO (by rw [e]; rfl)) _, hb.setCell (by simp; omega) _⟩, by simp [intOf]; omega⟩
end Go.Proofs.Ytjnbhppnchmeoaa

namespace Go.Proofs.Ytjnbhppnchmeoaa
open Go.RowKit
set_option linter.unusedVariables false
set_option maxRecDepth 1000000
theorem grs_take {w : World} {B : Nat} {A : Option Addr} {L : List Grp} (h : Grs w B A L) (k : Nat) : Grs w B A (L.take k) := by
  refine ⟨Nat.le_trans (by simp; omega) h.1, fun i hi => ?_⟩
  simp at hi
  obtain ⟨a, e, h1, h2, h3⟩ := h.2 i (by omega)
  exact ⟨a, e, h1, by simpa using h2, by simpa using h3⟩
theorem grs_drop {w : World} {B : Nat} {A : Option Addr} {L : List Grp} (h : Grs w B A L) {k c : Nat} (hk : k ≤ L.length) (hc : L.length ≤ c) : Grs w B (if c = k then A else A.map (·.add (k * 2))) (L.drop k) := by
  refine ⟨Nat.le_trans (by simp) h.1, fun i hi => ?_⟩
  simp at hi
  obtain ⟨a, e, h1, h2, h3⟩ := h.2 (k + i) (by omega)
  rw [if_neg (by omega)]
  refine ⟨a.add (k * 2), by rw [e]; rfl, by rw [add_blk]; exact h1, ?_, ?_⟩
  · rw [ofNat_add, show k * 2 + i * 2 = (k + i) * 2 by omega]; simpa using h2
  · rw [ofNat_add, show k * 2 + (i * 2 + 1) = (k + i) * 2 + 1 by omega]; simpa using h3
/-- What l07Group answers: the topic's rows, and where the group is (-1: there is no room for it). -/
def GrO (w : World) (t : Tpc) (s : ByteArray) (e : Ending) (w' : World) : Prop :=
  ∃ A a B b, (if isG t.groups s = false ∧ 4 ≤ t.groups.length then e = .returned (.tuple #[topV t.name t.base (.slice A t.held.length a) (.slice B t.groups.length b), .int .i64 (-1)])
    else e = .returned (.tuple #[topV t.name t.base (.slice A t.held.length a) (.slice B (hasG t s).length b), .int .i64 (posG t.groups s)])) ∧
    OwnS w' w.heap.size (.slice A t.held.length a) t.held ∧ (¬ (isG t.groups s = false ∧ 4 ≤ t.groups.length) → OwnG w' w.heap.size (.slice B (hasG t s).length b) (hasG t s)) ∧ Below w.heap.size w w'
theorem grs_nil_cap {B : Option Addr} {n k d : Nat} (h : Cap B n d) (hk : k ≤ n) : (if d = k then B else B.map (·.add (k * 2))) = none → d - k = 0 := by
  intro e
  by_cases hc : d = k
  · omega
  · rw [if_neg hc] at e
    have : B = none := by cases B with | none => rfl | some a => simp at e
    have := h.nil this
    omega
theorem gr_full {w w1 w9 : World} {nm s : ByteArray} {bs : Int} {H : List ByteArray} {G : List Grp} {A B : Option Addr} {a b : Nat} (hi : isG G s = false) (h4 : 4 ≤ G.length) (hS : w9.ownsRow w1.heap.size 9 1 (.slice A H.length a) H.length (H.map Value.string)) (hG : w9.ownsRow w1.heap.size 94 2 (.slice B G.length b) G.length (gflat G)) (hl : w.heap.size ≤ w1.heap.size) (hb : Below w.heap.size w w9) :
    GrO w ⟨nm, bs, H, G⟩ s (.returned (.tuple #[topV nm bs (.slice A H.length a) (.slice B G.length b), .int .i64 (-1)])) w9 :=
  ⟨A, a, B, b, by rw [if_pos ⟨hi, h4⟩], own_base hS hl, fun h => absurd ⟨hi, h4⟩ h, hb⟩
theorem gr_ins {w w1 w9 : World} {nm s : ByteArray} {bs : Int} {H : List ByteArray} {G L1 L2 : List Grp} {A B : Option Addr} {a b k lo : Nat} (hi : isG G s = false) (h4 : ¬ 4 ≤ G.length) (hk : posG G s = k) (h1 : G.take k = L1) (h2 : G.drop k = L2) (hS : w9.ownsRow w1.heap.size 9 1 (.slice A H.length a) H.length (H.map Value.string)) (hG : w9.ownsRow lo 94 2 (.slice B (L1.length + (L2.length + 1)) b) (L1.length + (L2.length + 1)) (gflat (L1 ++ [⟨s, bs⟩] ++ L2))) (hl : w.heap.size ≤ w1.heap.size) (hlo : w.heap.size ≤ lo) (hb : Below w.heap.size w w9) :
    GrO w ⟨nm, bs, H, G⟩ s (.returned (.tuple #[topV nm bs (.slice A H.length a) (.slice B (L1.length + (L2.length + 1)) b), .int .i64 k])) w9 := by
  have hn : ¬ (isG G s = false ∧ 4 ≤ G.length) := fun h => h4 h.2
  have hh : hasG ⟨nm, bs, H, G⟩ s = L1 ++ [⟨s, bs⟩] ++ L2 := by
    unfold hasG insG
    rw [if_neg (by rw [hi]; simp)]
    simp only [hk, h1, h2]
  have hlen : (L1 ++ [(⟨s, bs⟩ : Grp)] ++ L2).length = L1.length + (L2.length + 1) := by simp
  refine ⟨A, a, B, b, ?_, own_base hS hl, fun _ => ?_, hb⟩
  · rw [if_neg hn, hh, hlen, hk]
  · rw [hh]; unfold OwnG; rw [hlen]; exact own_base hG hlo
theorem gr_found {w w1 w9 : World} {nm s : ByteArray} {bs : Int} {H : List ByteArray} {G : List Grp} {A B : Option Addr} {a b k : Nat} (hi : isG G s = true) (hk : posG G s = k) (hS : w9.ownsRow w1.heap.size 9 1 (.slice A H.length a) H.length (H.map Value.string)) (hG : w9.ownsRow w1.heap.size 94 2 (.slice B G.length b) G.length (gflat G)) (hl : w.heap.size ≤ w1.heap.size) (hb : Below w.heap.size w w9) :
    GrO w ⟨nm, bs, H, G⟩ s (.returned (.tuple #[topV nm bs (.slice A H.length a) (.slice B G.length b), .int .i64 k])) w9 := by
  have hn : ¬ (isG G s = false ∧ 4 ≤ G.length) := by rw [hi]; simp
  have hh : hasG ⟨nm, bs, H, G⟩ s = G := by unfold hasG; rw [if_pos hi]
  refine ⟨A, a, B, b, ?_, own_base hS hl, fun _ => ?_, hb⟩
  · rw [if_neg hn, hh, hk]
  · rw [hh]; exact own_base hG hl
set_option maxHeartbeats 8000000 in
theorem l07Group_any (t : Tpc) (s : ByteArray) (A : Option Addr) (c : Nat) (B : Option Addr) (d : Nat) (w : World) (hs : s.size ≤ maxLen) (hA : Strs w w.heap.size A t.held) (hB : Grs w w.heap.size B t.groups) (hc : Cap A t.held.length c) (hd : Cap B t.groups.length d) (hH : t.held.length ≤ 20) (hG : t.groups.length ≤ 4) :
    Calls Try.prog 117 #[topV t.name t.base (.slice A t.held.length c) (.slice B t.groups.length d), .string s] w (GrO w t s) := by
  have HA := Lib.hid (fun W (h : Below w.heap.size w W) => hA.on h)
  have HB := Lib.hid (fun W (h : Below w.heap.size w W) => hB.on h)
  have hpl := posG_le t.groups s
  have PL := Lib.hid (posG_lt t.groups s)
  have PA := Lib.hid (posG_at t.groups s)
  have IG := Lib.hid (isG_iff (G := t.groups) (s := s))
  obtain ⟨p, HPp⟩ : ∃ p, Hid (posG t.groups s = p) := ⟨_, Lib.hid rfl⟩
  simp only [HPp.out] at hpl PL PA IG
  obtain ⟨nm, bs, H, G⟩ := t
  simp only at hH hG hA hB HA HB hc hd hpl PL PA IG HPp ⊢
  have K := (Blk.fresh w 26 [.string nm, .int .i64 bs, .slice A H.length c, .slice B G.length d]).alloc (.cells #[.string ⟨#[]⟩, .int .i64 0, .slice none 0 0, .slice none 0 0] 26)
  have R := Blk.fresh (w.alloc (.cells #[.string nm, .int .i64 bs, .slice A H.length c, .slice B G.length d] 26)) 26 [.string ⟨#[]⟩, .int .i64 0, .slice none 0 0, .slice none 0 0]
  have hb : Below w.heap.size w ((w.alloc (.cells #[.string nm, .int .i64 bs, .slice A H.length c, .slice B G.length d] 26)).alloc (.cells #[.string ⟨#[]⟩, .int .i64 0, .slice none 0 0, .slice none 0 0] 26)) := ((Below.refl _ _).alloc (Nat.le_refl _) _).alloc (by simp) _
  simp only [World.size_alloc] at K R
  replace K : Blk ((w.alloc (.cells #[.string nm, .int .i64 bs, .slice A H.length c, .slice B G.length d] 26)).alloc (.cells #[.string ⟨#[]⟩, .int .i64 0, .slice none 0 0, .slice none 0 0] 26)) w.heap.size 26 [.string nm, .int .i64 bs, .slice A H.length c, .slice B G.length d] := K
  replace R : Blk ((w.alloc (.cells #[.string nm, .int .i64 bs, .slice A H.length c, .slice B G.length d] 26)).alloc (.cells #[.string ⟨#[]⟩, .int .i64 0, .slice none 0 0, .slice none 0 0] 26)) (w.heap.size + 1) 26 [.string ⟨#[]⟩, .int .i64 0, .slice none 0 0, .slice none 0 0] := R
  go_enter Try.func117, Try.ntmps117
  go_wp2_with (fail)
  generalize (w.alloc (.cells #[.string nm, .int .i64 bs, .slice A H.length c, .slice B G.length d] 26)).alloc (.cells #[.string ⟨#[]⟩, .int .i64 0, .slice none 0 0, .slice none 0 0] 26) = w1 at K R hb ⊢
  go_loopw [6] (fun i wr => ∃ k : Nat, k ≤ p ∧ i = .int .i64 k ∧ wr = w1) (fun i _ => p - (intOf i).toNat)
  case atStart => exact ⟨0, by omega, rfl, rfl⟩
  case round =>
    obtain ⟨k, hk, rfl, rfl⟩ := hrel
    have k3 := K.cell (i := 3) rfl
    have k0 := K.cell (i := 0) rfl
    have k1 := K.cell (i := 1) rfl
    have k2 := K.cell (i := 2) rfl
    by_cases hkp : k < p
    · have hlt : k < G.length := by omega
      have hlt' : (k : Int) < (G.length : Int) := by omega
      obtain ⟨a, rfl, hab, c0, c1⟩ := (HB.out _ hb).at k hlt
      have hd1 : Op.bytesLess G[k].name.toList s.toList = true := PL.out k hlt hkp
      go_wp2
      exact ⟨⟨k + 1, by omega, by go_num, trivial⟩, by simp [intOf]; omega⟩
    obtain rfl : k = p := by omega
    have CP := Lib.hid (l07Copy_any nm bs A H c B G d wr (HA.out _ hb) (HB.out _ hb) hc hd hH hG)
    by_cases hlt : k < G.length
    rotate_left
    · have hnl : ¬ (k : Int) < (G.length : Int) := by omega
      have hni := Lib.hid (show isG G s = false by
        rcases Bool.eq_false_or_eq_true (isG G s) with h | h
        · exact absurd (IG.out.1 h).1 hlt
        · exact h)
      go_wp2_with (fail)
      refine CP.out.mono ?_
      rintro e w2 ⟨A2, c2, B2, d2, rfl, oS, oG, hb2⟩
      have hlw := hb.size
      have hz2 := hb2.size
      have hR2 := R.lt
      replace K := K.below hb2 K.lt
      replace R := R.below hb2 R.lt
      replace hb := hb.trans (hb2.mono hb.size)
      clear hb2 CP k3 k0 k1 k2
      have P := Blk.fresh w2 26 [.string nm, .int .i64 bs, .slice A2 H.length c2, .slice B2 G.length d2]
      have hb3 := below_box w2 (.cells #[.string nm, .int .i64 bs, .slice A2 H.length c2, .slice B2 G.length d2] 26)
      replace P : Blk (w2.alloc (.cells #[.string nm, .int .i64 bs, .slice A2 H.length c2, .slice B2 G.length d2] 26)) w2.heap.size 26 [.string nm, .int .i64 bs, .slice A2 H.length c2, .slice B2 G.length d2] := P
      have hz3 : w2.heap.size < (w2.alloc (.cells #[.string nm, .int .i64 bs, .slice A2 H.length c2, .slice B2 G.length d2] 26)).heap.size := by simp
      go_upto_region 5 with (fail)
      generalize w2.alloc (.cells #[.string nm, .int .i64 bs, .slice A2 H.length c2, .slice B2 G.length d2] 26) = w3 at P hb3 hz3 ⊢
      replace K := K.below hb3 K.lt
      replace R := R.below hb3 R.lt
      replace hb := hb.trans (hb3.mono hb.size)
      replace oS := row_below oS hb3 (Nat.le_refl _)
      replace oG := row_below oG hb3 (Nat.le_refl _)
      clear hb3
      have k3 := K.cell (i := 3) rfl
      have p0 := P.cell (i := 0) rfl
      have p1 := P.cell (i := 1) rfl
      have p2 := P.cell (i := 2) rfl
      have p3 := P.cell (i := 3) rfl
      have hB3 := HB.out _ hb
      by_cases h4 : 4 ≤ G.length
      · have h4' : (4 : Int) ≤ (G.length : Int) := by omega
        have z0 := R.cell (i := 0) rfl
        have z1 := R.cell (i := 1) rfl
        have z2 := R.cell (i := 2) rfl
        have z3 := R.cell (i := 3) rfl
        have y0 := R.froz 0
        have y1 := R.froz 1
        have y2 := R.froz 2
        have y3 := R.froz 3
        go_wp2
        clear p0 p1 p2 p3 z0 z1 z2 z3 y0 y1 y2 y3 k3
        have R9 := ((((R.put 0 (.string nm)).put 1 (.int .i64 bs)).put 2 (.slice A2 H.length c2)).put 3 (.slice B2 G.length d2))
        have hb9 := ((((hb.setCell (p := ⟨w.heap.size + 1, 0, none⟩) (by simp <;> omega) (.string nm)).setCell (p := ⟨w.heap.size + 1, 1, none⟩) (by simp <;> omega) (.int .i64 bs)).setCell (p := ⟨w.heap.size + 1, 2, none⟩) (by simp <;> omega) (.slice A2 H.length c2)).setCell (p := ⟨w.heap.size + 1, 3, none⟩) (by simp <;> omega) (.slice B2 G.length d2))
        have nS := own_not oS R (by decide)
        have nG := own_not oG R (by decide)
        have S9 := (row_off (row_off (row_off (row_off oS (p := ⟨w.heap.size + 1, 0, none⟩) nS (.string nm)) (p := ⟨w.heap.size + 1, 1, none⟩) nS (.int .i64 bs)) (p := ⟨w.heap.size + 1, 2, none⟩) nS (.slice A2 H.length c2)) (p := ⟨w.heap.size + 1, 3, none⟩) nS (.slice B2 G.length d2))
        have G9 := (row_off (row_off (row_off (row_off oG (p := ⟨w.heap.size + 1, 0, none⟩) nG (.string nm)) (p := ⟨w.heap.size + 1, 1, none⟩) nG (.int .i64 bs)) (p := ⟨w.heap.size + 1, 2, none⟩) nG (.slice A2 H.length c2)) (p := ⟨w.heap.size + 1, 3, none⟩) nG (.slice B2 G.length d2))
        simp only [List.set_cons_succ, List.set_cons_zero] at R9
        generalize (((w3.setCell ⟨w.heap.size + 1, 0, none⟩ (.string nm)).setCell ⟨w.heap.size + 1, 1, none⟩ (.int .i64 bs)).setCell ⟨w.heap.size + 1, 2, none⟩ (.slice A2 H.length c2)).setCell ⟨w.heap.size + 1, 3, none⟩ (.slice B2 G.length d2) = w9 at R9 hb9 S9 G9 ⊢
        have r0 := R9.cell (i := 0) rfl
        have r1 := R9.cell (i := 1) rfl
        have r2 := R9.cell (i := 2) rfl
        have r3 := R9.cell (i := 3) rfl
        exact bodyPost_ret (v := .tuple #[.agg #[.string nm, .int .i64 bs, .slice A2 H.length c2, .slice B2 G.length d2], .int .i64 (-1)]) (by simp [results, Try.results117, go_sem, r0, r1, r2, r3]) rfl (gr_full hni.out h4 S9 G9 hlw hb9)
      have h4' : ¬ (4 : Int) ≤ (G.length : Int) := by omega
      obtain ⟨L1, HL1⟩ : ∃ L, Hid (G.take k = L) := ⟨_, Lib.hid rfl⟩
      obtain ⟨L2, HL2⟩ : ∃ L, Hid (G.drop k = L) := ⟨_, Lib.hid rfl⟩
      have hl1 : L1.length = k := by rw [← HL1.out]; simp; omega
      have hl2 : L2.length = G.length - k := by rw [← HL2.out]; simp
      have hl23 : L1.length + L2.length ≤ 4 := by omega
      have hM1 := fun W (h : Below w.heap.size w W) => (show Grs W W.heap.size _ L1 from HL1.out ▸ grs_take (HB.out W h) k)
      have hM2 := fun W (h : Below w.heap.size w W) => (show Grs W W.heap.size _ L2 from HL2.out ▸ grs_drop (HB.out W h) hpl hd.le)
      have HM1 := Lib.hid hM1
      have HM2 := Lib.hid hM2
      have HC2 := Lib.hid (grs_nil_cap hd hpl)
      clear hM1 hM2
      subst hl1
      have HLL := Lib.hid hl2
      clear hl2
      have k3a := (K.alloc (.cells #[] 94)).cell (i := 3) rfl
      have ow := own_empty w3 94 2 (by decide)
      have hbe := hb.alloc hb.size (.cells #[] 94)
      have hdl := hd.le
      have hkd : (L1.length : Int) ≤ (d : Int) := by omega
      have hkg : (L1.length : Int) ≤ (G.length : Int) := by omega
      go_upto_region 10 with (at_builtin; (refine wpList_app_grp rfl (.tmp 50) (.tmp 54) rfl w3.heap.size (.slice (some ⟨w3.heap.size, 0, none⟩) 0 0) [] rfl ow _ _ L1 d rfl hd.nil (HM1.out _ hbe) (by simp; omega) (by simp) ?_); intro A3 c3 w4 o4 hg4)
      rw [List.nil_append] at o4
      have hrl := R.lt
      have P4 := (P.alloc (.cells #[] 94)).grown hg4 (by simp [Value.ownBlock] <;> omega)
      have K4 := (K.alloc (.cells #[] 94)).grown hg4 (by simp [Value.ownBlock] <;> omega)
      have R4 := (R.alloc (.cells #[] 94)).grown hg4 (by simp [Value.ownBlock] <;> omega)
      have hb4 := below_row hbe (Nat.le_refl _) hg4 (fun k e => by have := hb.size; simp [Value.ownBlock] at e; omega)
      have oSa := World.ownsRow.alloc oS (.cells #[] 94)
      have oS4 := World.ownsRow.kept oSa hg4 (own_apart oSa ow (by decide))
      have hw3 := hb.size
      clear p0 p1 p2 p3 k3 k3a ow hbe K R P oSa oS oG hb hB3
      have k1 := K4.cell (i := 1) rfl
      have o4a : OwnG (w4.alloc (.cells #[.string s, .int .i64 bs] 94)) w3.heap.size (.slice A3 L1.length c3) L1 := World.ownsRow.alloc o4 _
      have hX := grs_one w4 ⟨s, bs⟩ 94
      replace hX : Grs (w4.alloc (.cells #[.string s, .int .i64 bs] 94)) (w4.heap.size + 1) (some ⟨w4.heap.size, 0, none⟩) [⟨s, bs⟩] := hX
      have h34 : w3.heap.size ≤ w4.heap.size := by have := hg4.size; simp at this; omega
      go_upto_region 11 with (at_builtin; (refine wpList_app_grp rfl (.tmp 56) (.tmp 61) rfl w3.heap.size (.slice A3 L1.length c3) L1 rfl o4a (w4.heap.size + 1) (some ⟨w4.heap.size, 0, none⟩) [⟨s, bs⟩] 1 rfl (fun e => by cases e) hX (by simp; omega) (by simp; omega) ?_); intro A4 c4 w5 o5 hg5)
      have hlo : ∀ x, (Value.slice A3 L1.length c3).ownBlock = some x → w3.heap.size ≤ x := fun x e => (o4.lt x e).1
      have P5 := (P4.alloc (.cells #[.string s, .int .i64 bs] 94)).grown hg5 (fun e => by have := hlo _ e.symm; omega)
      have K5 := (K4.alloc (.cells #[.string s, .int .i64 bs] 94)).grown hg5 (fun e => by have := hlo _ e.symm; omega)
      have R5 := (R4.alloc (.cells #[.string s, .int .i64 bs] 94)).grown hg5 (fun e => by have := hlo _ e.symm; omega)
      have hb5 := below_row (hb4.alloc hb4.size (.cells #[.string s, .int .i64 bs] 94)) (Nat.le_refl _) hg5 (fun k e => by have := hlo _ e; omega)
      have oSa := World.ownsRow.alloc oS4 (.cells #[.string s, .int .i64 bs] 94)
      have oS5 := World.ownsRow.kept oSa hg5 (own_apart oSa o4a (by decide))
      have h35 : w3.heap.size ≤ w5.heap.size := by have := hg5.size; simp at this; omega
      clear k1 o4a hX P4 K4 R4 hb4 oSa oS4 o4 hlo
      have ql : (L1 ++ [(⟨s, bs⟩ : Grp)]).length = L1.length + 1 := by simp
      have o5b : OwnG w5 w3.heap.size (.slice A4 (L1.length + 1) c4) (L1 ++ [⟨s, bs⟩]) := by rw [ql] at o5; exact o5
      have k3 := K5.cell (i := 3) rfl
      have HX2 := HM2.out _ hb5
      have HC3 := HC2.out
      by_cases hdk : d = L1.length
      · skip
        subst hdk
        replace HX2 : Grs w5 w5.heap.size B L2 := by rw [if_pos rfl] at HX2; exact HX2
        have hL2 : L2 = [] := List.eq_nil_of_length_eq_zero (by rw [HLL.out]; omega)
        subst hL2
        have HC3 : B = none → 0 = 0 := fun _ => rfl
        have hlo : ∀ x, (Value.slice A4 (L1.length + 1) c4).ownBlock = some x → w3.heap.size ≤ x := fun x e => (o5b.lt x e).1
        go_upto_region 12 with (at_builtin; (refine wpList_app_grp rfl (.tmp 63) (.tmp 67) rfl w3.heap.size (.slice A4 (L1.length + 1) c4) (L1 ++ [⟨s, bs⟩]) rfl o5b _ _ ([] : List Grp) 0 rfl HC3 HX2 (by simp; omega) h35 ?_); intro A5 c5 w6 o6 hg6; have P6 := P5.grown hg6 (fun e => by have := hlo _ e.symm; omega); have q3 := P6.cell (i := 3) rfl; have g3 := P6.froz 3)
        have hq : ((L1 ++ [(⟨s, bs⟩ : Grp)]) ++ ([] : List Grp)).length = L1.length + 1 := by simp
        have o6b : w6.ownsRow w3.heap.size 94 2 (.slice A5 (L1.length + 1) c5) (L1.length + 1) (gflat (L1 ++ [⟨s, bs⟩] ++ ([] : List Grp))) := by
          have h := o6
          unfold OwnG at h
          rw [hq] at h
          exact h
        have R6 := R5.grown hg6 (fun e => by have := hlo _ e.symm; omega)
        have oS6 := World.ownsRow.kept oS5 hg6 (own_apart oS5 o5b (by decide))
        have hb6 := below_row hb5 (Nat.le_refl _) hg6 (fun k e => by have := hlo _ e; omega)
        have hw2 : w.heap.size + 1 < w2.heap.size := by have := hz2; have := hR2; omega
        have P := P6.put 3 (.slice A5 (L1.length + 1) c5)
        have R := R6.far (p := ⟨w2.heap.size, 3, none⟩) (by simp; omega) (.slice A5 (L1.length + 1) c5)
        have oS := row_off oS6 (p := ⟨w2.heap.size, 3, none⟩) (own_not oS6 P6 (by decide)) (.slice A5 (L1.length + 1) c5)
        have oG := row_off o6b (p := ⟨w2.heap.size, 3, none⟩) (own_not o6b P6 (by decide)) (.slice A5 (L1.length + 1) c5)
        have hb := hb6.setCell (p := ⟨w2.heap.size, 3, none⟩) (by simp; omega) (.slice A5 (L1.length + 1) c5)
        simp only [List.set_cons_succ, List.set_cons_zero] at P
        generalize w6.setCell ⟨w2.heap.size, 3, none⟩ (.slice A5 (L1.length + 1) c5) = w7 at P R oS oG hb ⊢
        clear P6 R6 oS6 o6b hb6 P5 K5 R5 hb5 oS5 o5 o5b k3 HX2 q3 g3 o6 hg6
        have p0 := P.cell (i := 0) rfl
        have p1 := P.cell (i := 1) rfl
        have p2 := P.cell (i := 2) rfl
        have p3 := P.cell (i := 3) rfl
        have z0 := R.cell (i := 0) rfl
        have z1 := R.cell (i := 1) rfl
        have z2 := R.cell (i := 2) rfl
        have z3 := R.cell (i := 3) rfl
        have y0 := R.froz 0
        have y1 := R.froz 1
        have y2 := R.froz 2
        have y3 := R.froz 3
        go_wp2
        clear p0 p1 p2 p3 z0 z1 z2 z3 y0 y1 y2 y3
        have R9 := ((((R.put 0 (.string nm)).put 1 (.int .i64 bs)).put 2 (.slice A2 H.length c2)).put 3 (.slice A5 (L1.length + 1) c5))
        have hb9 := ((((hb.setCell (p := ⟨w.heap.size + 1, 0, none⟩) (by simp <;> omega) (.string nm)).setCell (p := ⟨w.heap.size + 1, 1, none⟩) (by simp <;> omega) (.int .i64 bs)).setCell (p := ⟨w.heap.size + 1, 2, none⟩) (by simp <;> omega) (.slice A2 H.length c2)).setCell (p := ⟨w.heap.size + 1, 3, none⟩) (by simp <;> omega) (.slice A5 (L1.length + 1) c5))
        have nS := own_not oS R (by decide)
        have nG := own_not oG R (by decide)
        have S9 := (row_off (row_off (row_off (row_off oS (p := ⟨w.heap.size + 1, 0, none⟩) nS (.string nm)) (p := ⟨w.heap.size + 1, 1, none⟩) nS (.int .i64 bs)) (p := ⟨w.heap.size + 1, 2, none⟩) nS (.slice A2 H.length c2)) (p := ⟨w.heap.size + 1, 3, none⟩) nS (.slice A5 (L1.length + 1) c5))
        have G9 := (row_off (row_off (row_off (row_off oG (p := ⟨w.heap.size + 1, 0, none⟩) nG (.string nm)) (p := ⟨w.heap.size + 1, 1, none⟩) nG (.int .i64 bs)) (p := ⟨w.heap.size + 1, 2, none⟩) nG (.slice A2 H.length c2)) (p := ⟨w.heap.size + 1, 3, none⟩) nG (.slice A5 (L1.length + 1) c5))
        simp only [List.set_cons_succ, List.set_cons_zero] at R9
        generalize (((w7.setCell ⟨w.heap.size + 1, 0, none⟩ (.string nm)).setCell ⟨w.heap.size + 1, 1, none⟩ (.int .i64 bs)).setCell ⟨w.heap.size + 1, 2, none⟩ (.slice A2 H.length c2)).setCell ⟨w.heap.size + 1, 3, none⟩ (.slice A5 (L1.length + 1) c5) = w9 at R9 hb9 S9 G9 ⊢
        have r0 := R9.cell (i := 0) rfl
        have r1 := R9.cell (i := 1) rfl
        have r2 := R9.cell (i := 2) rfl
        have r3 := R9.cell (i := 3) rfl
        exact bodyPost_ret (v := .tuple #[.agg #[.string nm, .int .i64 bs, .slice A2 H.length c2, .slice A5 (L1.length + 1) c5], .int .i64 L1.length]) (by simp [results, Try.results117, go_sem, r0, r1, r2, r3]) rfl (gr_ins hni.out h4 HPp.out HL1.out HL2.out S9 G9 hlw hw3 hb9)
      rw [if_neg hdk] at HX2 HC3
      have hlo : ∀ x, (Value.slice A4 (L1.length + 1) c4).ownBlock = some x → w3.heap.size ≤ x := fun x e => (o5b.lt x e).1
      go_upto_region 12 with (at_builtin; (refine wpList_app_grp rfl (.tmp 63) (.tmp 67) rfl w3.heap.size (.slice A4 (L1.length + 1) c4) (L1 ++ [⟨s, bs⟩]) rfl o5b _ _ L2 (d - L1.length) (by rw [HLL.out]; rfl) HC3 HX2 (by simp; omega) h35 ?_); intro A5 c5 w6 o6 hg6; have P6 := P5.grown hg6 (fun e => by have := hlo _ e.symm; omega); have q3 := P6.cell (i := 3) rfl; have g3 := P6.froz 3)
      have hq : ((L1 ++ [(⟨s, bs⟩ : Grp)]) ++ L2).length = L1.length + (L2.length + 1) := by simp
      have o6b : w6.ownsRow w3.heap.size 94 2 (.slice A5 (L1.length + (L2.length + 1)) c5) (L1.length + (L2.length + 1)) (gflat (L1 ++ [⟨s, bs⟩] ++ L2)) := by
        have h := o6
        unfold OwnG at h
        rw [hq] at h
        exact h
      have R6 := R5.grown hg6 (fun e => by have := hlo _ e.symm; omega)
      have oS6 := World.ownsRow.kept oS5 hg6 (own_apart oS5 o5b (by decide))
      have hb6 := below_row hb5 (Nat.le_refl _) hg6 (fun k e => by have := hlo _ e; omega)
      have hw2 : w.heap.size + 1 < w2.heap.size := by have := hz2; have := hR2; omega
      have P := P6.put 3 (.slice A5 (L1.length + (L2.length + 1)) c5)
      have R := R6.far (p := ⟨w2.heap.size, 3, none⟩) (by simp; omega) (.slice A5 (L1.length + (L2.length + 1)) c5)
      have oS := row_off oS6 (p := ⟨w2.heap.size, 3, none⟩) (own_not oS6 P6 (by decide)) (.slice A5 (L1.length + (L2.length + 1)) c5)
      have oG := row_off o6b (p := ⟨w2.heap.size, 3, none⟩) (own_not o6b P6 (by decide)) (.slice A5 (L1.length + (L2.length + 1)) c5)
      have hb := hb6.setCell (p := ⟨w2.heap.size, 3, none⟩) (by simp; omega) (.slice A5 (L1.length + (L2.length + 1)) c5)
      simp only [List.set_cons_succ, List.set_cons_zero] at P
      generalize w6.setCell ⟨w2.heap.size, 3, none⟩ (.slice A5 (L1.length + (L2.length + 1)) c5) = w7 at P R oS oG hb ⊢
      clear P6 R6 oS6 o6b hb6 P5 K5 R5 hb5 oS5 o5 o5b k3 HX2 q3 g3 o6 hg6
      have p0 := P.cell (i := 0) rfl
      have p1 := P.cell (i := 1) rfl
      have p2 := P.cell (i := 2) rfl
      have p3 := P.cell (i := 3) rfl
      have z0 := R.cell (i := 0) rfl
      have z1 := R.cell (i := 1) rfl
      have z2 := R.cell (i := 2) rfl
      have z3 := R.cell (i := 3) rfl
      have y0 := R.froz 0
      have y1 := R.froz 1
      have y2 := R.froz 2
      have y3 := R.froz 3
      go_wp2
      clear p0 p1 p2 p3 z0 z1 z2 z3 y0 y1 y2 y3
      have R9 := ((((R.put 0 (.string nm)).put 1 (.int .i64 bs)).put 2 (.slice A2 H.length c2)).put 3 (.slice A5 (L1.length + (L2.length + 1)) c5))
      have hb9 := ((((hb.setCell (p := ⟨w.heap.size + 1, 0, none⟩) (by simp <;> omega) (.string nm)).setCell (p := ⟨w.heap.size + 1, 1, none⟩) (by simp <;> omega) (.int .i64 bs)).setCell (p := ⟨w.heap.size + 1, 2, none⟩) (by simp <;> omega) (.slice A2 H.length c2)).setCell (p := ⟨w.heap.size + 1, 3, none⟩) (by simp <;> omega) (.slice A5 (L1.length + (L2.length + 1)) c5))
      have nS := own_not oS R (by decide)
      have nG := own_not oG R (by decide)
      have S9 := (row_off (row_off (row_off (row_off oS (p := ⟨w.heap.size + 1, 0, none⟩) nS (.string nm)) (p := ⟨w.heap.size + 1, 1, none⟩) nS (.int .i64 bs)) (p := ⟨w.heap.size + 1, 2, none⟩) nS (.slice A2 H.length c2)) (p := ⟨w.heap.size + 1, 3, none⟩) nS (.slice A5 (L1.length + (L2.length + 1)) c5))
      have G9 := (row_off (row_off (row_off (row_off oG (p := ⟨w.heap.size + 1, 0, none⟩) nG (.string nm)) (p := ⟨w.heap.size + 1, 1, none⟩) nG (.int .i64 bs)) (p := ⟨w.heap.size + 1, 2, none⟩) nG (.slice A2 H.length c2)) (p := ⟨w.heap.size + 1, 3, none⟩) nG (.slice A5 (L1.length + (L2.length + 1)) c5))
      simp only [List.set_cons_succ, List.set_cons_zero] at R9
      generalize (((w7.setCell ⟨w.heap.size + 1, 0, none⟩ (.string nm)).setCell ⟨w.heap.size + 1, 1, none⟩ (.int .i64 bs)).setCell ⟨w.heap.size + 1, 2, none⟩ (.slice A2 H.length c2)).setCell ⟨w.heap.size + 1, 3, none⟩ (.slice A5 (L1.length + (L2.length + 1)) c5) = w9 at R9 hb9 S9 G9 ⊢
      have r0 := R9.cell (i := 0) rfl
      have r1 := R9.cell (i := 1) rfl
      have r2 := R9.cell (i := 2) rfl
      have r3 := R9.cell (i := 3) rfl
      exact bodyPost_ret (v := .tuple #[.agg #[.string nm, .int .i64 bs, .slice A2 H.length c2, .slice A5 (L1.length + (L2.length + 1)) c5], .int .i64 L1.length]) (by simp [results, Try.results117, go_sem, r0, r1, r2, r3]) rfl (gr_ins hni.out h4 HPp.out HL1.out HL2.out S9 G9 hlw hw3 hb9)
    have hlt' : (k : Int) < (G.length : Int) := by omega
    obtain ⟨a, rfl, hab, c0, c1⟩ := (HB.out _ hb).at k hlt
    have hd1 : Op.bytesLess G[k].name.toList s.toList = false := PA.out hlt
    by_cases hn : G[k].name = s
    · have hi := Lib.hid (IG.out.2 ⟨hlt, hn⟩)
      have hd2 : (G[k].name.toList == s.toList) = true := str_beq_t hn
      clear hn
      go_wp2_with (fail)
      refine CP.out.mono ?_
      rintro e w2 ⟨A2, c2, B2, d2, rfl, oS, oG, hb2⟩
      have hlw := hb.size
      have hz2 := hb2.size
      have hR2 := R.lt
      replace K := K.below hb2 K.lt
      replace R := R.below hb2 R.lt
      replace hb := hb.trans (hb2.mono hb.size)
      clear hb2 CP k3 k0 k1 k2
      have P := Blk.fresh w2 26 [.string nm, .int .i64 bs, .slice A2 H.length c2, .slice B2 G.length d2]
      have hb3 := below_box w2 (.cells #[.string nm, .int .i64 bs, .slice A2 H.length c2, .slice B2 G.length d2] 26)
      replace P : Blk (w2.alloc (.cells #[.string nm, .int .i64 bs, .slice A2 H.length c2, .slice B2 G.length d2] 26)) w2.heap.size 26 [.string nm, .int .i64 bs, .slice A2 H.length c2, .slice B2 G.length d2] := P
      have hz3 : w2.heap.size < (w2.alloc (.cells #[.string nm, .int .i64 bs, .slice A2 H.length c2, .slice B2 G.length d2] 26)).heap.size := by simp
      go_upto_region 5 with (fail)
      generalize w2.alloc (.cells #[.string nm, .int .i64 bs, .slice A2 H.length c2, .slice B2 G.length d2] 26) = w3 at P hb3 hz3 ⊢
      replace K := K.below hb3 K.lt
      replace R := R.below hb3 R.lt
      replace hb := hb.trans (hb3.mono hb.size)
      replace oS := row_below oS hb3 (Nat.le_refl _)
      replace oG := row_below oG hb3 (Nat.le_refl _)
      clear hb3
      have k3 := K.cell (i := 3) rfl
      obtain ⟨a', e', _, c0, _⟩ := (HB.out _ hb).at k hlt
      cases e'
      have p0 := P.cell (i := 0) rfl
      have p1 := P.cell (i := 1) rfl
      have p2 := P.cell (i := 2) rfl
      have p3 := P.cell (i := 3) rfl
      have z0 := R.cell (i := 0) rfl
      have z1 := R.cell (i := 1) rfl
      have z2 := R.cell (i := 2) rfl
      have z3 := R.cell (i := 3) rfl
      have y0 := R.froz 0
      have y1 := R.froz 1
      have y2 := R.froz 2
      have y3 := R.froz 3
      go_wp2
      clear p0 p1 p2 p3 z0 z1 z2 z3 y0 y1 y2 y3 k3 c0 hd1 hd2
      have R9 := ((((R.put 0 (.string nm)).put 1 (.int .i64 bs)).put 2 (.slice A2 H.length c2)).put 3 (.slice B2 G.length d2))
      have hb9 := ((((hb.setCell (p := ⟨w.heap.size + 1, 0, none⟩) (by simp <;> omega) (.string nm)).setCell (p := ⟨w.heap.size + 1, 1, none⟩) (by simp <;> omega) (.int .i64 bs)).setCell (p := ⟨w.heap.size + 1, 2, none⟩) (by simp <;> omega) (.slice A2 H.length c2)).setCell (p := ⟨w.heap.size + 1, 3, none⟩) (by simp <;> omega) (.slice B2 G.length d2))
      have nS := own_not oS R (by decide)
      have nG := own_not oG R (by decide)
      have S9 := (row_off (row_off (row_off (row_off oS (p := ⟨w.heap.size + 1, 0, none⟩) nS (.string nm)) (p := ⟨w.heap.size + 1, 1, none⟩) nS (.int .i64 bs)) (p := ⟨w.heap.size + 1, 2, none⟩) nS (.slice A2 H.length c2)) (p := ⟨w.heap.size + 1, 3, none⟩) nS (.slice B2 G.length d2))
      have G9 := (row_off (row_off (row_off (row_off oG (p := ⟨w.heap.size + 1, 0, none⟩) nG (.string nm)) (p := ⟨w.heap.size + 1, 1, none⟩) nG (.int .i64 bs)) (p := ⟨w.heap.size + 1, 2, none⟩) nG (.slice A2 H.length c2)) (p := ⟨w.heap.size + 1, 3, none⟩) nG (.slice B2 G.length d2))
      simp only [List.set_cons_succ, List.set_cons_zero] at R9
      generalize (((w3.setCell ⟨w.heap.size + 1, 0, none⟩ (.string nm)).setCell ⟨w.heap.size + 1, 1, none⟩ (.int .i64 bs)).setCell ⟨w.heap.size + 1, 2, none⟩ (.slice A2 H.length c2)).setCell ⟨w.heap.size + 1, 3, none⟩ (.slice B2 G.length d2) = w9 at R9 hb9 S9 G9 ⊢
      have r0 := R9.cell (i := 0) rfl
      have r1 := R9.cell (i := 1) rfl
      have r2 := R9.cell (i := 2) rfl
      have r3 := R9.cell (i := 3) rfl
      exact bodyPost_ret (v := .tuple #[.agg #[.string nm, .int .i64 bs, .slice A2 H.length c2, .slice B2 G.length d2], .int .i64 k]) (by simp [results, Try.results117, go_sem, r0, r1, r2, r3]) rfl (gr_found hi.out HPp.out S9 G9 hlw hb9)
    have hni := Lib.hid (show isG G s = false by
      rcases Bool.eq_false_or_eq_true (isG G s) with h | h
      · exact absurd (IG.out.1 h).2 hn
      · exact h)
    have hd2 : (G[k].name.toList == s.toList) = false := str_beq_f hn
    clear hn
    go_wp2_with (fail)
    refine CP.out.mono ?_
    rintro e w2 ⟨A2, c2, B2, d2, rfl, oS, oG, hb2⟩
    have hlw := hb.size
    have hz2 := hb2.size
    have hR2 := R.lt
    replace K := K.below hb2 K.lt
    replace R := R.below hb2 R.lt
    replace hb := hb.trans (hb2.mono hb.size)
    clear hb2 CP k3 k0 k1 k2
    have P := Blk.fresh w2 26 [.string nm, .int .i64 bs, .slice A2 H.length c2, .slice B2 G.length d2]
    have hb3 := below_box w2 (.cells #[.string nm, .int .i64 bs, .slice A2 H.length c2, .slice B2 G.length d2] 26)
    replace P : Blk (w2.alloc (.cells #[.string nm, .int .i64 bs, .slice A2 H.length c2, .slice B2 G.length d2] 26)) w2.heap.size 26 [.string nm, .int .i64 bs, .slice A2 H.length c2, .slice B2 G.length d2] := P
    have hz3 : w2.heap.size < (w2.alloc (.cells #[.string nm, .int .i64 bs, .slice A2 H.length c2, .slice B2 G.length d2] 26)).heap.size := by simp
    go_upto_region 5 with (fail)
    generalize w2.alloc (.cells #[.string nm, .int .i64 bs, .slice A2 H.length c2, .slice B2 G.length d2] 26) = w3 at P hb3 hz3 ⊢
    replace K := K.below hb3 K.lt
    replace R := R.below hb3 R.lt
    replace hb := hb.trans (hb3.mono hb.size)
    replace oS := row_below oS hb3 (Nat.le_refl _)
    replace oG := row_below oG hb3 (Nat.le_refl _)
    clear hb3
    have k3 := K.cell (i := 3) rfl
    obtain ⟨a', e', _, c0, _⟩ := (HB.out _ hb).at k hlt
    cases e'
    have p0 := P.cell (i := 0) rfl
    have p1 := P.cell (i := 1) rfl
    have p2 := P.cell (i := 2) rfl
    have p3 := P.cell (i := 3) rfl
    have hB3 := HB.out _ hb
    by_cases h4 : 4 ≤ G.length
    · have h4' : (4 : Int) ≤ (G.length : Int) := by omega
      have z0 := R.cell (i := 0) rfl
      have z1 := R.cell (i := 1) rfl
      have z2 := R.cell (i := 2) rfl
      have z3 := R.cell (i := 3) rfl
      have y0 := R.froz 0
      have y1 := R.froz 1
      have y2 := R.froz 2
      have y3 := R.froz 3
      go_wp2
      clear p0 p1 p2 p3 z0 z1 z2 z3 y0 y1 y2 y3 k3
      have R9 := ((((R.put 0 (.string nm)).put 1 (.int .i64 bs)).put 2 (.slice A2 H.length c2)).put 3 (.slice B2 G.length d2))
      have hb9 := ((((hb.setCell (p := ⟨w.heap.size + 1, 0, none⟩) (by simp <;> omega) (.string nm)).setCell (p := ⟨w.heap.size + 1, 1, none⟩) (by simp <;> omega) (.int .i64 bs)).setCell (p := ⟨w.heap.size + 1, 2, none⟩) (by simp <;> omega) (.slice A2 H.length c2)).setCell (p := ⟨w.heap.size + 1, 3, none⟩) (by simp <;> omega) (.slice B2 G.length d2))
      have nS := own_not oS R (by decide)
      have nG := own_not oG R (by decide)
      have S9 := (row_off (row_off (row_off (row_off oS (p := ⟨w.heap.size + 1, 0, none⟩) nS (.string nm)) (p := ⟨w.heap.size + 1, 1, none⟩) nS (.int .i64 bs)) (p := ⟨w.heap.size + 1, 2, none⟩) nS (.slice A2 H.length c2)) (p := ⟨w.heap.size + 1, 3, none⟩) nS (.slice B2 G.length d2))
      have G9 := (row_off (row_off (row_off (row_off oG (p := ⟨w.heap.size + 1, 0, none⟩) nG (.string nm)) (p := ⟨w.heap.size + 1, 1, none⟩) nG (.int .i64 bs)) (p := ⟨w.heap.size + 1, 2, none⟩) nG (.slice A2 H.length c2)) (p := ⟨w.heap.size + 1, 3, none⟩) nG (.slice B2 G.length d2))
      simp only [List.set_cons_succ, List.set_cons_zero] at R9
      generalize (((w3.setCell ⟨w.heap.size + 1, 0, none⟩ (.string nm)).setCell ⟨w.heap.size + 1, 1, none⟩ (.int .i64 bs)).setCell ⟨w.heap.size + 1, 2, none⟩ (.slice A2 H.length c2)).setCell ⟨w.heap.size + 1, 3, none⟩ (.slice B2 G.length d2) = w9 at R9 hb9 S9 G9 ⊢
      have r0 := R9.cell (i := 0) rfl
      have r1 := R9.cell (i := 1) rfl
      have r2 := R9.cell (i := 2) rfl
      have r3 := R9.cell (i := 3) rfl
      exact bodyPost_ret (v := .tuple #[.agg #[.string nm, .int .i64 bs, .slice A2 H.length c2, .slice B2 G.length d2], .int .i64 (-1)]) (by simp [results, Try.results117, go_sem, r0, r1, r2, r3]) rfl (gr_full hni.out h4 S9 G9 hlw hb9)
    have h4' : ¬ (4 : Int) ≤ (G.length : Int) := by omega
    obtain ⟨L1, HL1⟩ : ∃ L, Hid (G.take k = L) := ⟨_, Lib.hid rfl⟩
    obtain ⟨L2, HL2⟩ : ∃ L, Hid (G.drop k = L) := ⟨_, Lib.hid rfl⟩
    have hl1 : L1.length = k := by rw [← HL1.out]; simp; omega
    have hl2 : L2.length = G.length - k := by rw [← HL2.out]; simp
    have hl23 : L1.length + L2.length ≤ 4 := by omega
    have hM1 := fun W (h : Below w.heap.size w W) => (show Grs W W.heap.size _ L1 from HL1.out ▸ grs_take (HB.out W h) k)
    have hM2 := fun W (h : Below w.heap.size w W) => (show Grs W W.heap.size _ L2 from HL2.out ▸ grs_drop (HB.out W h) hpl hd.le)
    have HM1 := Lib.hid hM1
    have HM2 := Lib.hid hM2
    have HC2 := Lib.hid (grs_nil_cap hd hpl)
    clear hM1 hM2
    subst hl1
    have HLL := Lib.hid hl2
    clear hl2
    have k3a := (K.alloc (.cells #[] 94)).cell (i := 3) rfl
    have ow := own_empty w3 94 2 (by decide)
    have hbe := hb.alloc hb.size (.cells #[] 94)
    have hdl := hd.le
    have hkd : (L1.length : Int) ≤ (d : Int) := by omega
    have hkg : (L1.length : Int) ≤ (G.length : Int) := by omega
    go_upto_region 10 with (at_builtin; (refine wpList_app_grp rfl (.tmp 50) (.tmp 54) rfl w3.heap.size (.slice (some ⟨w3.heap.size, 0, none⟩) 0 0) [] rfl ow _ _ L1 d rfl hd.nil (HM1.out _ hbe) (by simp; omega) (by simp) ?_); intro A3 c3 w4 o4 hg4)
    rw [List.nil_append] at o4
    have hrl := R.lt
    have P4 := (P.alloc (.cells #[] 94)).grown hg4 (by simp [Value.ownBlock] <;> omega)
    have K4 := (K.alloc (.cells #[] 94)).grown hg4 (by simp [Value.ownBlock] <;> omega)
    have R4 := (R.alloc (.cells #[] 94)).grown hg4 (by simp [Value.ownBlock] <;> omega)
    have hb4 := below_row hbe (Nat.le_refl _) hg4 (fun k e => by have := hb.size; simp [Value.ownBlock] at e; omega)
    have oSa := World.ownsRow.alloc oS (.cells #[] 94)
    have oS4 := World.ownsRow.kept oSa hg4 (own_apart oSa ow (by decide))
    have hw3 := hb.size
    clear p0 p1 p2 p3 k3 k3a ow hbe K R P oSa oS oG hb hB3
    have k1 := K4.cell (i := 1) rfl
    have o4a : OwnG (w4.alloc (.cells #[.string s, .int .i64 bs] 94)) w3.heap.size (.slice A3 L1.length c3) L1 := World.ownsRow.alloc o4 _
    have hX := grs_one w4 ⟨s, bs⟩ 94
    replace hX : Grs (w4.alloc (.cells #[.string s, .int .i64 bs] 94)) (w4.heap.size + 1) (some ⟨w4.heap.size, 0, none⟩) [⟨s, bs⟩] := hX
    have h34 : w3.heap.size ≤ w4.heap.size := by have := hg4.size; simp at this; omega
    go_upto_region 11 with (at_builtin; (refine wpList_app_grp rfl (.tmp 56) (.tmp 61) rfl w3.heap.size (.slice A3 L1.length c3) L1 rfl o4a (w4.heap.size + 1) (some ⟨w4.heap.size, 0, none⟩) [⟨s, bs⟩] 1 rfl (fun e => by cases e) hX (by simp; omega) (by simp; omega) ?_); intro A4 c4 w5 o5 hg5)
    have hlo : ∀ x, (Value.slice A3 L1.length c3).ownBlock = some x → w3.heap.size ≤ x := fun x e => (o4.lt x e).1
    have P5 := (P4.alloc (.cells #[.string s, .int .i64 bs] 94)).grown hg5 (fun e => by have := hlo _ e.symm; omega)
    have K5 := (K4.alloc (.cells #[.string s, .int .i64 bs] 94)).grown hg5 (fun e => by have := hlo _ e.symm; omega)
    have R5 := (R4.alloc (.cells #[.string s, .int .i64 bs] 94)).grown hg5 (fun e => by have := hlo _ e.symm; omega)
    have hb5 := below_row (hb4.alloc hb4.size (.cells #[.string s, .int .i64 bs] 94)) (Nat.le_refl _) hg5 (fun k e => by have := hlo _ e; omega)
    have oSa := World.ownsRow.alloc oS4 (.cells #[.string s, .int .i64 bs] 94)
    have oS5 := World.ownsRow.kept oSa hg5 (own_apart oSa o4a (by decide))
    have h35 : w3.heap.size ≤ w5.heap.size := by have := hg5.size; simp at this; omega
    clear k1 o4a hX P4 K4 R4 hb4 oSa oS4 o4 hlo
    have ql : (L1 ++ [(⟨s, bs⟩ : Grp)]).length = L1.length + 1 := by simp
    have o5b : OwnG w5 w3.heap.size (.slice A4 (L1.length + 1) c4) (L1 ++ [⟨s, bs⟩]) := by rw [ql] at o5; exact o5
    have k3 := K5.cell (i := 3) rfl
    have HX2 := HM2.out _ hb5
    have HC3 := HC2.out
    have hne : ¬ d = L1.length := by omega
    rw [if_neg hne] at HX2
    replace HX2 : Grs w5 w5.heap.size (some (a.add (L1.length * 2))) L2 := HX2
    replace HC3 : some (a.add (L1.length * 2)) = none → d - L1.length = 0 := fun e => by cases e
    have hlo : ∀ x, (Value.slice A4 (L1.length + 1) c4).ownBlock = some x → w3.heap.size ≤ x := fun x e => (o5b.lt x e).1
    go_upto_region 12 with (at_builtin; (refine wpList_app_grp rfl (.tmp 63) (.tmp 67) rfl w3.heap.size (.slice A4 (L1.length + 1) c4) (L1 ++ [⟨s, bs⟩]) rfl o5b _ _ L2 (d - L1.length) (by rw [HLL.out]; rfl) HC3 HX2 (by simp; omega) h35 ?_); intro A5 c5 w6 o6 hg6; have P6 := P5.grown hg6 (fun e => by have := hlo _ e.symm; omega); have q3 := P6.cell (i := 3) rfl; have g3 := P6.froz 3)
    have hq : ((L1 ++ [(⟨s, bs⟩ : Grp)]) ++ L2).length = L1.length + (L2.length + 1) := by simp
    have o6b : w6.ownsRow w3.heap.size 94 2 (.slice A5 (L1.length + (L2.length + 1)) c5) (L1.length + (L2.length + 1)) (gflat (L1 ++ [⟨s, bs⟩] ++ L2)) := by
      have h := o6
      unfold OwnG at h
      rw [hq] at h
      exact h
    have R6 := R5.grown hg6 (fun e => by have := hlo _ e.symm; omega)
    have oS6 := World.ownsRow.kept oS5 hg6 (own_apart oS5 o5b (by decide))
    have hb6 := below_row hb5 (Nat.le_refl _) hg6 (fun k e => by have := hlo _ e; omega)
    have hw2 : w.heap.size + 1 < w2.heap.size := by have := hz2; have := hR2; omega
    have P := P6.put 3 (.slice A5 (L1.length + (L2.length + 1)) c5)
    have R := R6.far (p := ⟨w2.heap.size, 3, none⟩) (by simp; omega) (.slice A5 (L1.length + (L2.length + 1)) c5)
    have oS := row_off oS6 (p := ⟨w2.heap.size, 3, none⟩) (own_not oS6 P6 (by decide)) (.slice A5 (L1.length + (L2.length + 1)) c5)
    have oG := row_off o6b (p := ⟨w2.heap.size, 3, none⟩) (own_not o6b P6 (by decide)) (.slice A5 (L1.length + (L2.length + 1)) c5)
    have hb := hb6.setCell (p := ⟨w2.heap.size, 3, none⟩) (by simp; omega) (.slice A5 (L1.length + (L2.length + 1)) c5)
    simp only [List.set_cons_succ, List.set_cons_zero] at P
    generalize w6.setCell ⟨w2.heap.size, 3, none⟩ (.slice A5 (L1.length + (L2.length + 1)) c5) = w7 at P R oS oG hb ⊢
    clear P6 R6 oS6 o6b hb6 P5 K5 R5 hb5 oS5 o5 o5b k3 HX2 q3 g3 o6 hg6
    have p0 := P.cell (i := 0) rfl
    have p1 := P.cell (i := 1) rfl
    have p2 := P.cell (i := 2) rfl
    have p3 := P.cell (i := 3) rfl
    have z0 := R.cell (i := 0) rfl
    have z1 := R.cell (i := 1) rfl
    have z2 := R.cell (i := 2) rfl
    have z3 := R.cell (i := 3) rfl
    have y0 := R.froz 0
    have y1 := R.froz 1
    have y2 := R.froz 2
    have y3 := R.froz 3
    go_wp2
    clear p0 p1 p2 p3 z0 z1 z2 z3 y0 y1 y2 y3
    have R9 := ((((R.put 0 (.string nm)).put 1 (.int .i64 bs)).put 2 (.slice A2 H.length c2)).put 3 (.slice A5 (L1.length + (L2.length + 1)) c5))
    have hb9 := ((((hb.setCell (p := ⟨w.heap.size + 1, 0, none⟩) (by simp <;> omega) (.string nm)).setCell (p := ⟨w.heap.size + 1, 1, none⟩) (by simp <;> omega) (.int .i64 bs)).setCell (p := ⟨w.heap.size + 1, 2, none⟩) (by simp <;> omega) (.slice A2 H.length c2)).setCell (p := ⟨w.heap.size + 1, 3, none⟩) (by simp <;> omega) (.slice A5 (L1.length + (L2.length + 1)) c5))
    have nS := own_not oS R (by decide)
    have nG := own_not oG R (by decide)
    have S9 := (row_off (row_off (row_off (row_off oS (p := ⟨w.heap.size + 1, 0, none⟩) nS (.string nm)) (p := ⟨w.heap.size + 1, 1, none⟩) nS (.int .i64 bs)) (p := ⟨w.heap.size + 1, 2, none⟩) nS (.slice A2 H.length c2)) (p := ⟨w.heap.size + 1, 3, none⟩) nS (.slice A5 (L1.length + (L2.length + 1)) c5))
    have G9 := (row_off (row_off (row_off (row_off oG (p := ⟨w.heap.size + 1, 0, none⟩) nG (.string nm)) (p := ⟨w.heap.size + 1, 1, none⟩) nG (.int .i64 bs)) (p := ⟨w.heap.size + 1, 2, none⟩) nG (.slice A2 H.length c2)) (p := ⟨w.heap.size + 1, 3, none⟩) nG (.slice A5 (L1.length + (L2.length + 1)) c5))
    simp only [List.set_cons_succ, List.set_cons_zero] at R9
    generalize (((w7.setCell ⟨w.heap.size + 1, 0, none⟩ (.string nm)).setCell ⟨w.heap.size + 1, 1, none⟩ (.int .i64 bs)).setCell ⟨w.heap.size + 1, 2, none⟩ (.slice A2 H.length c2)).setCell ⟨w.heap.size + 1, 3, none⟩ (.slice A5 (L1.length + (L2.length + 1)) c5) = w9 at R9 hb9 S9 G9 ⊢
    have r0 := R9.cell (i := 0) rfl
    have r1 := R9.cell (i := 1) rfl
    have r2 := R9.cell (i := 2) rfl
    have r3 := R9.cell (i := 3) rfl
    exact bodyPost_ret (v := .tuple #[.agg #[.string nm, .int .i64 bs, .slice A2 H.length c2, .slice A5 (L1.length + (L2.length + 1)) c5], .int .i64 L1.length]) (by simp [results, Try.results117, go_sem, r0, r1, r2, r3]) rfl (gr_ins hni.out h4 HPp.out HL1.out HL2.out S9 G9 hlw hw3 hb9)
end Go.Proofs.Ytjnbhppnchmeoaa

namespace Go.Proofs.Ytjnbhppnchmeoaa
open Go.RowKit
set_option linter.unusedVariables false
set_option maxRecDepth 1000000
/-- What l07Begin answers. -/
def BgO (w : World) (nm : ByteArray) (bs : Int) (H : List ByteArray) (hg : List Grp) (kk : Nat) (cc : Int) (e : Ending) (w' : World) : Prop :=
  ∃ (A : Option Addr) (a : Nat) (B : Option Addr) (b : Nat) (L : List Grp) (k code : Int), e = .returned (.tuple #[topV nm bs (.slice A H.length a) (.slice B (List.length L) b), .int .i64 k, .int .i64 code]) ∧ code = cc ∧ (code = 0 → L = hg ∧ k = (kk : Int) ∧ OwnS w' w.heap.size (.slice A H.length a) H ∧ OwnG w' w.heap.size (.slice B (List.length L) b) L) ∧ Below w.heap.size w w'
set_option maxHeartbeats 8000000 in
theorem l07Begin_any (t : Tpc) (gn : ByteArray) (ok : Bool) (A : Option Addr) (c : Nat) (B : Option Addr) (d : Nat) (w : World) (hf : t.fits) (hs : gn.size ≤ maxLen) (hA : Strs w w.heap.size A t.held) (hB : Grs w w.heap.size B t.groups) (hc : Cap A t.held.length c) (hd : Cap B t.groups.length d) :
    Calls Try.prog 74 #[topV t.name t.base (.slice A t.held.length c) (.slice B t.groups.length d), .string gn, .bool ok] w (BgO w t.name t.base t.held (hasG t gn) (posG t.groups gn) (begC t gn ok)) := by
  have hs' := hs
  unfold maxLen at hs'
  have TR := Lib.hid (fun W (h : Below w.heap.size w W) => specTopicRight_any t A c B d W hf (hA.on h) (hB.on h))
  have HO := Lib.hid (topB_iff (t := t))
  have C1 := Lib.hid (beg_long (t := t) (g := gn) (ok := ok))
  have C2 := Lib.hid (beg_form (t := t) (g := gn) (ok := ok))
  have C3 := Lib.hid (beg_full (t := t) (g := gn) (ok := ok))
  have C4 := Lib.hid (beg_ok (t := t) (g := gn) (ok := ok))
  have GR := Lib.hid (fun W (h : Below w.heap.size w W) (ho : topOK t) => l07Group_any t gn A c B d W hs (hA.on h) (hB.on h) hc hd ho.2.2.1 ho.2.2.2.2.1)
  obtain ⟨cc, HCC⟩ : ∃ x, Hid (begC t gn ok = x) := ⟨_, Lib.hid rfl⟩
  obtain ⟨hg, HHG⟩ : ∃ x, Hid (hasG t gn = x) := ⟨_, Lib.hid rfl⟩
  obtain ⟨kk, HKK0⟩ : ∃ x, Hid (posG t.groups gn = x) := ⟨_, Lib.hid rfl⟩
  rw [HCC.out] at C1 C2 C3 C4 ⊢
  rw [HHG.out, HKK0.out]
  obtain ⟨nm, bs, H, G⟩ := t
  simp only at TR C1 C2 C3 C4 GR HKK0 hA hB hc hd ⊢
  have K := (Blk.fresh w 26 [.string nm, .int .i64 bs, .slice A H.length c, .slice B G.length d]).alloc (.cells #[.string ⟨#[]⟩, .int .i64 0, .slice none 0 0, .slice none 0 0] 26)
  have Z := Blk.fresh (w.alloc (.cells #[.string nm, .int .i64 bs, .slice A H.length c, .slice B G.length d] 26)) 26 [.string ⟨#[]⟩, .int .i64 0, .slice none 0 0, .slice none 0 0]
  have hb : Below w.heap.size w ((w.alloc (.cells #[.string nm, .int .i64 bs, .slice A H.length c, .slice B G.length d] 26)).alloc (.cells #[.string ⟨#[]⟩, .int .i64 0, .slice none 0 0, .slice none 0 0] 26)) := ((Below.refl _ _).alloc (Nat.le_refl _) _).alloc (by simp) _
  simp only [World.size_alloc] at K Z
  replace K : Blk ((w.alloc (.cells #[.string nm, .int .i64 bs, .slice A H.length c, .slice B G.length d] 26)).alloc (.cells #[.string ⟨#[]⟩, .int .i64 0, .slice none 0 0, .slice none 0 0] 26)) w.heap.size 26 [.string nm, .int .i64 bs, .slice A H.length c, .slice B G.length d] := K
  replace Z : Blk ((w.alloc (.cells #[.string nm, .int .i64 bs, .slice A H.length c, .slice B G.length d] 26)).alloc (.cells #[.string ⟨#[]⟩, .int .i64 0, .slice none 0 0, .slice none 0 0] 26)) (w.heap.size + 1) 26 [.string ⟨#[]⟩, .int .i64 0, .slice none 0 0, .slice none 0 0] := Z
  by_cases h1 : 20000 < gn.size
  · have h1' : (20000 : Int) < (gn.size : Int) := by omega
    have HC := Lib.hid (C1.out h1).symm
    clear h1
    have k0 := K.cell (i := 0) rfl
    have k1 := K.cell (i := 1) rfl
    have k2 := K.cell (i := 2) rfl
    have k3 := K.cell (i := 3) rfl
    have z0 := Z.cell (i := 0) rfl
    have z1 := Z.cell (i := 1) rfl
    have z2 := Z.cell (i := 2) rfl
    have z3 := Z.cell (i := 3) rfl
    have y0 := Z.froz 0
    have y1 := Z.froz 1
    have y2 := Z.froz 2
    have y3 := Z.froz 3
    go_enter Try.func74, Try.ntmps74
    go_wp2
    clear k0 k1 k2 k3 z0 z1 z2 z3 y0 y1 y2 y3
    have Z9 := Blk.fresh (w.alloc (.cells #[.string nm, .int .i64 bs, .slice A H.length c, .slice B G.length d] 26)) 26 [.string nm, .int .i64 bs, .slice A H.length c, .slice B G.length d]
    have hb9 : Below w.heap.size w ((w.alloc (.cells #[.string nm, .int .i64 bs, .slice A H.length c, .slice B G.length d] 26)).alloc (.cells #[.string nm, .int .i64 bs, .slice A H.length c, .slice B G.length d] 26)) := ((Below.refl _ _).alloc (Nat.le_refl _) _).alloc (by simp) _
    clear hb
    generalize (w.alloc (.cells #[.string nm, .int .i64 bs, .slice A H.length c, .slice B G.length d] 26)).alloc (.cells #[.string nm, .int .i64 bs, .slice A H.length c, .slice B G.length d] 26) = v9 at Z9 hb9 ⊢
    simp only [World.size_alloc] at Z9
    have x0 := Z9.cell (i := 0) rfl
    have x1 := Z9.cell (i := 1) rfl
    have x2 := Z9.cell (i := 2) rfl
    have x3 := Z9.cell (i := 3) rfl
    exact bodyPost_ret (v := .tuple #[topV nm bs (.slice A H.length c) (.slice B G.length d), .int .i64 0, .int .i64 2]) (by simp [results, Try.results74, go_sem, x0, x1, x2, x3]) rfl ⟨A, c, B, d, G, 0, 2, rfl, HC.out, (fun h => absurd h (by decide)), hb9⟩
  have h1' : ¬ (20000 : Int) < (gn.size : Int) := by omega
  have hsm : gn.size ≤ 20000 := by omega
  rcases Bool.eq_false_or_eq_true (topB ⟨nm, bs, H, G⟩) with hT | hT
  rotate_left
  · have HC := Lib.hid (C2.out h1 (by rw [hT]; rfl)).symm
    rw [hT] at TR
    clear h1
    have k0 := K.cell (i := 0) rfl
    have k1 := K.cell (i := 1) rfl
    have k2 := K.cell (i := 2) rfl
    have k3 := K.cell (i := 3) rfl
    have z0 := Z.cell (i := 0) rfl
    have z1 := Z.cell (i := 1) rfl
    have z2 := Z.cell (i := 2) rfl
    have z3 := Z.cell (i := 3) rfl
    have y0 := Z.froz 0
    have y1 := Z.froz 1
    have y2 := Z.froz 2
    have y3 := Z.froz 3
    go_enter Try.func74, Try.ntmps74
    go_wp2_with (fail)
    clear k0 k1 k2 k3 z0 z1 z2 z3 y0 y1 y2 y3
    generalize (w.alloc (.cells #[.string nm, .int .i64 bs, .slice A H.length c, .slice B G.length d] 26)).alloc (.cells #[.string ⟨#[]⟩, .int .i64 0, .slice none 0 0, .slice none 0 0] 26) = v0 at K Z hb ⊢
    refine (TR.out _ hb).mono ?_
    rintro e w1 ⟨rfl, hb1⟩
    have hw1 := hb.trans (hb1.mono hb.size)
    have K1 := K.below hb1 K.lt
    have Z1 := Z.below hb1 Z.lt
    have k0 := K1.cell (i := 0) rfl
    have z0 := Z1.cell (i := 0) rfl
    have y0 := Z1.froz 0
    have k1 := K1.cell (i := 1) rfl
    have z1 := Z1.cell (i := 1) rfl
    have y1 := Z1.froz 1
    have k2 := K1.cell (i := 2) rfl
    have z2 := Z1.cell (i := 2) rfl
    have y2 := Z1.froz 2
    have k3 := K1.cell (i := 3) rfl
    have z3 := Z1.cell (i := 3) rfl
    have y3 := Z1.froz 3
    go_wp2
    clear k0 k1 k2 k3 z0 z1 z2 z3 y0 y1 y2 y3
    have q1 := ((((Z1.put 0 (.string nm)).put 1 (.int .i64 bs)).put 2 (.slice A H.length c)).put 3 (.slice B G.length d))
    have q2 := ((((hw1.setCell (p := ⟨w.heap.size + 1, 0, none⟩) (by simp) (.string nm)).setCell (p := ⟨w.heap.size + 1, 1, none⟩) (by simp) (.int .i64 bs)).setCell (p := ⟨w.heap.size + 1, 2, none⟩) (by simp) (.slice A H.length c)).setCell (p := ⟨w.heap.size + 1, 3, none⟩) (by simp) (.slice B G.length d))
    simp only [List.set_cons_succ, List.set_cons_zero] at q1
    generalize ((((w1.setCell ⟨w.heap.size + 1, 0, none⟩ (.string nm)).setCell ⟨w.heap.size + 1, 1, none⟩ (.int .i64 bs)).setCell ⟨w.heap.size + 1, 2, none⟩ (.slice A H.length c)).setCell ⟨w.heap.size + 1, 3, none⟩ (.slice B G.length d)) = w9 at q1 q2 ⊢
    have x0 := q1.cell (i := 0) rfl
    have x1 := q1.cell (i := 1) rfl
    have x2 := q1.cell (i := 2) rfl
    have x3 := q1.cell (i := 3) rfl
    exact bodyPost_ret (v := .tuple #[topV nm bs (.slice A H.length c) (.slice B G.length d), .int .i64 0, .int .i64 1]) (by simp [results, Try.results74, go_sem, x0, x1, x2, x3]) rfl (show BgO w nm bs H hg kk cc _ w9 from ⟨A, c, B, d, G, 0, 1, rfl, HC.out, (fun h => absurd h (by decide)), q2⟩)
  rcases Bool.eq_false_or_eq_true (nameB gn) with hN | hN
  rotate_left
  · have HC := Lib.hid (C2.out h1 (by rw [hN]; simp)).symm
    rw [hT] at TR
    have NR := specName_b hN hs
    clear h1
    have k0 := K.cell (i := 0) rfl
    have k1 := K.cell (i := 1) rfl
    have k2 := K.cell (i := 2) rfl
    have k3 := K.cell (i := 3) rfl
    have z0 := Z.cell (i := 0) rfl
    have z1 := Z.cell (i := 1) rfl
    have z2 := Z.cell (i := 2) rfl
    have z3 := Z.cell (i := 3) rfl
    have y0 := Z.froz 0
    have y1 := Z.froz 1
    have y2 := Z.froz 2
    have y3 := Z.froz 3
    go_enter Try.func74, Try.ntmps74
    go_wp2_with (fail)
    clear k0 k1 k2 k3 z0 z1 z2 z3 y0 y1 y2 y3
    generalize (w.alloc (.cells #[.string nm, .int .i64 bs, .slice A H.length c, .slice B G.length d] 26)).alloc (.cells #[.string ⟨#[]⟩, .int .i64 0, .slice none 0 0, .slice none 0 0] 26) = v0 at K Z hb ⊢
    refine (TR.out _ hb).mono ?_
    rintro e w1 ⟨rfl, hb1⟩
    have hw1 := hb.trans (hb1.mono hb.size)
    have K1 := K.below hb1 K.lt
    have Z1 := Z.below hb1 Z.lt
    have k0 := K1.cell (i := 0) rfl
    have z0 := Z1.cell (i := 0) rfl
    have y0 := Z1.froz 0
    have k1 := K1.cell (i := 1) rfl
    have z1 := Z1.cell (i := 1) rfl
    have y1 := Z1.froz 1
    have k2 := K1.cell (i := 2) rfl
    have z2 := Z1.cell (i := 2) rfl
    have y2 := Z1.froz 2
    have k3 := K1.cell (i := 3) rfl
    have z3 := Z1.cell (i := 3) rfl
    have y3 := Z1.froz 3
    go_wp2_with (go_at_call 68; refine (NR _).mono ?_; rintro e w' ⟨rfl, rfl⟩)
    clear k0 k1 k2 k3 z0 z1 z2 z3 y0 y1 y2 y3
    have q1 := ((((Z1.put 0 (.string nm)).put 1 (.int .i64 bs)).put 2 (.slice A H.length c)).put 3 (.slice B G.length d))
    have q2 := ((((hw1.setCell (p := ⟨w.heap.size + 1, 0, none⟩) (by simp) (.string nm)).setCell (p := ⟨w.heap.size + 1, 1, none⟩) (by simp) (.int .i64 bs)).setCell (p := ⟨w.heap.size + 1, 2, none⟩) (by simp) (.slice A H.length c)).setCell (p := ⟨w.heap.size + 1, 3, none⟩) (by simp) (.slice B G.length d))
    simp only [List.set_cons_succ, List.set_cons_zero] at q1
    generalize ((((w'.setCell ⟨w.heap.size + 1, 0, none⟩ (.string nm)).setCell ⟨w.heap.size + 1, 1, none⟩ (.int .i64 bs)).setCell ⟨w.heap.size + 1, 2, none⟩ (.slice A H.length c)).setCell ⟨w.heap.size + 1, 3, none⟩ (.slice B G.length d)) = w9 at q1 q2 ⊢
    have x0 := q1.cell (i := 0) rfl
    have x1 := q1.cell (i := 1) rfl
    have x2 := q1.cell (i := 2) rfl
    have x3 := q1.cell (i := 3) rfl
    exact bodyPost_ret (v := .tuple #[topV nm bs (.slice A H.length c) (.slice B G.length d), .int .i64 0, .int .i64 1]) (by simp [results, Try.results74, go_sem, x0, x1, x2, x3]) rfl (show BgO w nm bs H hg kk cc _ w9 from ⟨A, c, B, d, G, 0, 1, rfl, HC.out, (fun h => absurd h (by decide)), q2⟩)
  have NR := specName_b hN hs
  cases ok with
  | false =>
    have HC := Lib.hid (C2.out h1 (by simp)).symm
    rw [hT] at TR
    clear h1
    have k0 := K.cell (i := 0) rfl
    have k1 := K.cell (i := 1) rfl
    have k2 := K.cell (i := 2) rfl
    have k3 := K.cell (i := 3) rfl
    have z0 := Z.cell (i := 0) rfl
    have z1 := Z.cell (i := 1) rfl
    have z2 := Z.cell (i := 2) rfl
    have z3 := Z.cell (i := 3) rfl
    have y0 := Z.froz 0
    have y1 := Z.froz 1
    have y2 := Z.froz 2
    have y3 := Z.froz 3
    go_enter Try.func74, Try.ntmps74
    go_wp2_with (fail)
    clear k0 k1 k2 k3 z0 z1 z2 z3 y0 y1 y2 y3
    generalize (w.alloc (.cells #[.string nm, .int .i64 bs, .slice A H.length c, .slice B G.length d] 26)).alloc (.cells #[.string ⟨#[]⟩, .int .i64 0, .slice none 0 0, .slice none 0 0] 26) = v0 at K Z hb ⊢
    refine (TR.out _ hb).mono ?_
    rintro e w1 ⟨rfl, hb1⟩
    have hw1 := hb.trans (hb1.mono hb.size)
    have K1 := K.below hb1 K.lt
    have Z1 := Z.below hb1 Z.lt
    have k0 := K1.cell (i := 0) rfl
    have z0 := Z1.cell (i := 0) rfl
    have y0 := Z1.froz 0
    have k1 := K1.cell (i := 1) rfl
    have z1 := Z1.cell (i := 1) rfl
    have y1 := Z1.froz 1
    have k2 := K1.cell (i := 2) rfl
    have z2 := Z1.cell (i := 2) rfl
    have y2 := Z1.froz 2
    have k3 := K1.cell (i := 3) rfl
    have z3 := Z1.cell (i := 3) rfl
    have y3 := Z1.froz 3
    go_wp2_with (go_at_call 68; refine (NR _).mono ?_; rintro e w' ⟨rfl, rfl⟩)
    clear k0 k1 k2 k3 z0 z1 z2 z3 y0 y1 y2 y3
    have q1 := ((((Z1.put 0 (.string nm)).put 1 (.int .i64 bs)).put 2 (.slice A H.length c)).put 3 (.slice B G.length d))
    have q2 := ((((hw1.setCell (p := ⟨w.heap.size + 1, 0, none⟩) (by simp) (.string nm)).setCell (p := ⟨w.heap.size + 1, 1, none⟩) (by simp) (.int .i64 bs)).setCell (p := ⟨w.heap.size + 1, 2, none⟩) (by simp) (.slice A H.length c)).setCell (p := ⟨w.heap.size + 1, 3, none⟩) (by simp) (.slice B G.length d))
    simp only [List.set_cons_succ, List.set_cons_zero] at q1
    generalize ((((w'.setCell ⟨w.heap.size + 1, 0, none⟩ (.string nm)).setCell ⟨w.heap.size + 1, 1, none⟩ (.int .i64 bs)).setCell ⟨w.heap.size + 1, 2, none⟩ (.slice A H.length c)).setCell ⟨w.heap.size + 1, 3, none⟩ (.slice B G.length d)) = w9 at q1 q2 ⊢
    have x0 := q1.cell (i := 0) rfl
    have x1 := q1.cell (i := 1) rfl
    have x2 := q1.cell (i := 2) rfl
    have x3 := q1.cell (i := 3) rfl
    exact bodyPost_ret (v := .tuple #[topV nm bs (.slice A H.length c) (.slice B G.length d), .int .i64 0, .int .i64 1]) (by simp [results, Try.results74, go_sem, x0, x1, x2, x3]) rfl (show BgO w nm bs H hg kk cc _ w9 from ⟨A, c, B, d, G, 0, 1, rfl, HC.out, (fun h => absurd h (by decide)), q2⟩)
  | true =>
    have hall : ¬ (topB ⟨nm, bs, H, G⟩ && (nameB gn && true)) = false := by rw [hT, hN]; simp
    have ho := HO.out.1 hT
    have GQ := Lib.hid (fun W (h : Below w.heap.size w W) => GR.out W h ho)
    rw [hT] at TR
    clear GR HO ho
    by_cases hfl : isG G gn = false ∧ 4 ≤ G.length
    · have HC := Lib.hid (C3.out h1 hall hfl).symm
      have HFL := Lib.hid hfl
      clear h1 hall hfl
      have k0 := K.cell (i := 0) rfl
      have k1 := K.cell (i := 1) rfl
      have k2 := K.cell (i := 2) rfl
      have k3 := K.cell (i := 3) rfl
      have z0 := Z.cell (i := 0) rfl
      have z1 := Z.cell (i := 1) rfl
      have z2 := Z.cell (i := 2) rfl
      have z3 := Z.cell (i := 3) rfl
      have y0 := Z.froz 0
      have y1 := Z.froz 1
      have y2 := Z.froz 2
      have y3 := Z.froz 3
      go_enter Try.func74, Try.ntmps74
      go_wp2_with (fail)
      clear k0 k1 k2 k3 z0 z1 z2 z3 y0 y1 y2 y3
      generalize (w.alloc (.cells #[.string nm, .int .i64 bs, .slice A H.length c, .slice B G.length d] 26)).alloc (.cells #[.string ⟨#[]⟩, .int .i64 0, .slice none 0 0, .slice none 0 0] 26) = v0 at K Z hb ⊢
      refine (TR.out _ hb).mono ?_
      rintro e w1 ⟨rfl, hb1⟩
      have hw1 := hb.trans (hb1.mono hb.size)
      have K1 := K.below hb1 K.lt
      have Z1 := Z.below hb1 Z.lt
      have k0 := K1.cell (i := 0) rfl
      have z0 := Z1.cell (i := 0) rfl
      have y0 := Z1.froz 0
      have k1 := K1.cell (i := 1) rfl
      have z1 := Z1.cell (i := 1) rfl
      have y1 := Z1.froz 1
      have k2 := K1.cell (i := 2) rfl
      have z2 := Z1.cell (i := 2) rfl
      have y2 := Z1.froz 2
      have k3 := K1.cell (i := 3) rfl
      have z3 := Z1.cell (i := 3) rfl
      have y3 := Z1.froz 3
      go_wp2_with (go_at_call 68; refine (NR _).mono ?_; rintro e w' ⟨rfl, rfl⟩)
      clear z0 z1 z2 z3 y0 y1 y2 y3
      refine (GQ.out _ hw1).mono ?_
      rintro e w2 ⟨A8, a8, B8, b8, he, oS, oG, hb2⟩
      rw [if_pos HFL.out] at he
      subst he
      have hw2 := hw1.trans (hb2.mono hw1.size)
      have K2 := K1.below hb2 K1.lt
      have Z2 := Z1.below hb2 Z1.lt
      clear k0 k1 k2 k3
      have P := Blk.fresh w2 26 [.string nm, .int .i64 bs, .slice A8 H.length a8, .slice B8 G.length b8]
      have hw3 := hw2.alloc hw2.size (.cells #[.string nm, .int .i64 bs, .slice A8 H.length a8, .slice B8 G.length b8] 26)
      have K3 := K2.alloc (.cells #[.string nm, .int .i64 bs, .slice A8 H.length a8, .slice B8 G.length b8] 26)
      have Z3 := Z2.alloc (.cells #[.string nm, .int .i64 bs, .slice A8 H.length a8, .slice B8 G.length b8] 26)
      have k0 := K3.cell (i := 0) rfl
      have z0 := Z3.cell (i := 0) rfl
      have y0 := Z3.froz 0
      have k1 := K3.cell (i := 1) rfl
      have z1 := Z3.cell (i := 1) rfl
      have y1 := Z3.froz 1
      have k2 := K3.cell (i := 2) rfl
      have z2 := Z3.cell (i := 2) rfl
      have y2 := Z3.froz 2
      have k3 := K3.cell (i := 3) rfl
      have z3 := Z3.cell (i := 3) rfl
      have y3 := Z3.froz 3
      go_wp2
      clear k0 k1 k2 k3 z0 z1 z2 z3 y0 y1 y2 y3
      generalize w2.alloc (.cells #[.string nm, .int .i64 bs, .slice A8 H.length a8, .slice B8 G.length b8] 26) = w3 at hw3 K3 Z3 ⊢
      have q1 := ((((Z3.put 0 (.string nm)).put 1 (.int .i64 bs)).put 2 (.slice A H.length c)).put 3 (.slice B G.length d))
      have q2 := ((((hw3.setCell (p := ⟨w.heap.size + 1, 0, none⟩) (by simp) (.string nm)).setCell (p := ⟨w.heap.size + 1, 1, none⟩) (by simp) (.int .i64 bs)).setCell (p := ⟨w.heap.size + 1, 2, none⟩) (by simp) (.slice A H.length c)).setCell (p := ⟨w.heap.size + 1, 3, none⟩) (by simp) (.slice B G.length d))
      simp only [List.set_cons_succ, List.set_cons_zero] at q1
      generalize ((((w3.setCell ⟨w.heap.size + 1, 0, none⟩ (.string nm)).setCell ⟨w.heap.size + 1, 1, none⟩ (.int .i64 bs)).setCell ⟨w.heap.size + 1, 2, none⟩ (.slice A H.length c)).setCell ⟨w.heap.size + 1, 3, none⟩ (.slice B G.length d)) = w9 at q1 q2 ⊢
      have x0 := q1.cell (i := 0) rfl
      have x1 := q1.cell (i := 1) rfl
      have x2 := q1.cell (i := 2) rfl
      have x3 := q1.cell (i := 3) rfl
      exact bodyPost_ret (v := .tuple #[topV nm bs (.slice A H.length c) (.slice B G.length d), .int .i64 0, .int .i64 9]) (by simp [results, Try.results74, go_sem, x0, x1, x2, x3]) rfl (show BgO w nm bs H hg kk cc _ w9 from ⟨A, c, B, d, G, 0, 9, rfl, HC.out, (fun h => absurd h (by decide)), q2⟩)
    · have HC := Lib.hid (C4.out h1 hall hfl).symm
      have HFL := Lib.hid hfl
      clear h1 hall hfl
      have k0 := K.cell (i := 0) rfl
      have k1 := K.cell (i := 1) rfl
      have k2 := K.cell (i := 2) rfl
      have k3 := K.cell (i := 3) rfl
      have z0 := Z.cell (i := 0) rfl
      have z1 := Z.cell (i := 1) rfl
      have z2 := Z.cell (i := 2) rfl
      have z3 := Z.cell (i := 3) rfl
      have y0 := Z.froz 0
      have y1 := Z.froz 1
      have y2 := Z.froz 2
      have y3 := Z.froz 3
      go_enter Try.func74, Try.ntmps74
      go_wp2_with (fail)
      clear k0 k1 k2 k3 z0 z1 z2 z3 y0 y1 y2 y3
      generalize (w.alloc (.cells #[.string nm, .int .i64 bs, .slice A H.length c, .slice B G.length d] 26)).alloc (.cells #[.string ⟨#[]⟩, .int .i64 0, .slice none 0 0, .slice none 0 0] 26) = v0 at K Z hb ⊢
      refine (TR.out _ hb).mono ?_
      rintro e w1 ⟨rfl, hb1⟩
      have hw1 := hb.trans (hb1.mono hb.size)
      have K1 := K.below hb1 K.lt
      have Z1 := Z.below hb1 Z.lt
      have k0 := K1.cell (i := 0) rfl
      have z0 := Z1.cell (i := 0) rfl
      have y0 := Z1.froz 0
      have k1 := K1.cell (i := 1) rfl
      have z1 := Z1.cell (i := 1) rfl
      have y1 := Z1.froz 1
      have k2 := K1.cell (i := 2) rfl
      have z2 := Z1.cell (i := 2) rfl
      have y2 := Z1.froz 2
      have k3 := K1.cell (i := 3) rfl
      have z3 := Z1.cell (i := 3) rfl
      have y3 := Z1.froz 3
      go_wp2_with (go_at_call 68; refine (NR _).mono ?_; rintro e w' ⟨rfl, rfl⟩)
      clear z0 z1 z2 z3 y0 y1 y2 y3
      refine (GQ.out _ hw1).mono ?_
      rintro e w2 ⟨A8, a8, B8, b8, he, oS0, oG0, hb2⟩
      simp only at he
      have oG1 := oG0 HFL.out
      clear oG0
      rw [if_neg HFL.out, HHG.out, HKK0.out] at he
      rw [HHG.out] at oG1
      subst he
      have hkk : ¬ (kk : Int) < 0 := by omega
      have zl := Z1.lt
      have hw2 := hw1.trans (hb2.mono hw1.size)
      have K2 := K1.below hb2 K1.lt
      have Z2 := Z1.below hb2 Z1.lt
      clear k0 k1 k2 k3
      have P := Blk.fresh w2 26 [.string nm, .int .i64 bs, .slice A8 H.length a8, .slice B8 hg.length b8]
      have hw3 := hw2.alloc hw2.size (.cells #[.string nm, .int .i64 bs, .slice A8 H.length a8, .slice B8 hg.length b8] 26)
      have K3 := K2.alloc (.cells #[.string nm, .int .i64 bs, .slice A8 H.length a8, .slice B8 hg.length b8] 26)
      have Z3 := Z2.alloc (.cells #[.string nm, .int .i64 bs, .slice A8 H.length a8, .slice B8 hg.length b8] 26)
      have al := (Below.refl w2.heap.size w2).alloc (Nat.le_refl _) (.cells #[.string nm, .int .i64 bs, .slice A8 H.length a8, .slice B8 hg.length b8] 26)
      have oS := row_below oS0 al (Nat.le_refl _)
      have oG := row_below oG1 al (Nat.le_refl _)
      clear oS0 oG1 al
      have k0 := K3.cell (i := 0) rfl
      have z0 := Z3.cell (i := 0) rfl
      have y0 := Z3.froz 0
      have k1 := K3.cell (i := 1) rfl
      have z1 := Z3.cell (i := 1) rfl
      have y1 := Z3.froz 1
      have k2 := K3.cell (i := 2) rfl
      have z2 := Z3.cell (i := 2) rfl
      have y2 := Z3.froz 2
      have k3 := K3.cell (i := 3) rfl
      have z3 := Z3.cell (i := 3) rfl
      have y3 := Z3.froz 3
      have p0 := P.cell (i := 0) rfl
      have p1 := P.cell (i := 1) rfl
      have p2 := P.cell (i := 2) rfl
      have p3 := P.cell (i := 3) rfl
      go_wp2
      clear k0 k1 k2 k3 z0 z1 z2 z3 y0 y1 y2 y3
      clear p0 p1 p2 p3
      generalize w2.alloc (.cells #[.string nm, .int .i64 bs, .slice A8 H.length a8, .slice B8 hg.length b8] 26) = w3 at hw3 K3 Z3 oS oG ⊢
      have q1 := ((((Z3.put 0 (.string nm)).put 1 (.int .i64 bs)).put 2 (.slice A8 H.length a8)).put 3 (.slice B8 hg.length b8))
      have q2 := ((((hw3.setCell (p := ⟨w.heap.size + 1, 0, none⟩) (by simp) (.string nm)).setCell (p := ⟨w.heap.size + 1, 1, none⟩) (by simp) (.int .i64 bs)).setCell (p := ⟨w.heap.size + 1, 2, none⟩) (by simp) (.slice A8 H.length a8)).setCell (p := ⟨w.heap.size + 1, 3, none⟩) (by simp) (.slice B8 hg.length b8))
      simp only [List.set_cons_succ, List.set_cons_zero] at q1
      have oS9 := row_far (row_far (row_far (row_far (oS) (p := ⟨w.heap.size + 1, 0, none⟩) (by simp; omega) (.string nm)) (p := ⟨w.heap.size + 1, 1, none⟩) (by simp; omega) (.int .i64 bs)) (p := ⟨w.heap.size + 1, 2, none⟩) (by simp; omega) (.slice A8 H.length a8)) (p := ⟨w.heap.size + 1, 3, none⟩) (by simp; omega) (.slice B8 hg.length b8)
      have oG9 := row_far (row_far (row_far (row_far (oG) (p := ⟨w.heap.size + 1, 0, none⟩) (by simp; omega) (.string nm)) (p := ⟨w.heap.size + 1, 1, none⟩) (by simp; omega) (.int .i64 bs)) (p := ⟨w.heap.size + 1, 2, none⟩) (by simp; omega) (.slice A8 H.length a8)) (p := ⟨w.heap.size + 1, 3, none⟩) (by simp; omega) (.slice B8 hg.length b8)
      clear oS oG
      generalize ((((w3.setCell ⟨w.heap.size + 1, 0, none⟩ (.string nm)).setCell ⟨w.heap.size + 1, 1, none⟩ (.int .i64 bs)).setCell ⟨w.heap.size + 1, 2, none⟩ (.slice A8 H.length a8)).setCell ⟨w.heap.size + 1, 3, none⟩ (.slice B8 hg.length b8)) = w9 at q1 q2 oS9 oG9 ⊢
      have x0 := q1.cell (i := 0) rfl
      have x1 := q1.cell (i := 1) rfl
      have x2 := q1.cell (i := 2) rfl
      have x3 := q1.cell (i := 3) rfl
      exact bodyPost_ret (v := .tuple #[topV nm bs (.slice A8 H.length a8) (.slice B8 hg.length b8), .int .i64 (kk : Int), .int .i64 0]) (by simp [results, Try.results74, go_sem, x0, x1, x2, x3]) rfl (show BgO w nm bs H hg kk cc _ w9 from ⟨A8, a8, B8, b8, hg, (kk : Int), 0, rfl, HC.out, fun _ => ⟨rfl, rfl, own_base oS9 (by omega), own_base oG9 (by omega)⟩, q2⟩)
end Go.Proofs.Ytjnbhppnchmeoaa
