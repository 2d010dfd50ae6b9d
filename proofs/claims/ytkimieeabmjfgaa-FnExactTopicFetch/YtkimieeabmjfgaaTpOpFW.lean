/- The method run of topicWork, with any operation (For). TopicRetain: plain mathematics. The methods move, ack and seek of topicWork. The method fetch of topicWork. -/
import Derived.Test.YtkimieeabmjfgaaTpRunDW
import Derived.Test.YtkimieeabmjfgaaTpCopyW
import Derived.Test.YtkimieeabmjfgaaStrArgW
import Derived.Test.YtkimieeabmjfgaaCloneW
import Derived.Deep.RegionLaw
import Derived.BigRegion
namespace Go.Proofs.Ytkimieeabmjfgaa
open Go.RowKit Go.Deep
set_option linter.unusedVariables false
set_option maxRecDepth 1000000
set_option maxHeartbeats 8000000 in
theorem runFor_any (t : Tpc) (s : ByteArray) (n : Int) (r : Bool) (R : Ans) (lo p : Nat) (A : Option Addr) (c : Nat) (B : Option Addr) (d : Nat) (w : World) (hf : t.fits) (hsm : t.small) (hA : Strs w w.heap.size A t.held) (hB : Grs w w.heap.size B t.groups) (hp : lo ≤ p) (b5 b7 b9 : Nat) (HOP : ∀ W A2 a2 B2 b2, Kept w W p → topOK t → r = true → Wk W lo p t s n A2 a2 B2 b2 → Calls Try.prog 88 #[.pointer (some ⟨b5, 0, none⟩), .pointer (some ⟨b7, 0, none⟩), .pointer (some ⟨b9, 0, none⟩)] W (OpPost lo p s n R W)) (P : Blk w p 73 [.string ⟨#[]⟩, .int .i64 0, .slice none 0 0, .slice none 0 0, .string s, .int .i64 n, .slice none 0 0, .int .i64 0]) :
    Calls Try.prog 86 #[.pointer (some ⟨p, 0, none⟩), topV t.name t.base (.slice A t.held.length c) (.slice B t.groups.length d), .bool r, (.func (.func 88) #[] #[.pointer (some ⟨b5, 0, none⟩), .pointer (some ⟨b7, 0, none⟩), .pointer (some ⟨b9, 0, none⟩)])] w fun e w' => RunO lo w w' e (runR t r R) ∧ Kp w w' p := by
  have hlow : lo ≤ w.heap.size := Nat.le_trans hp (Nat.le_of_lt P.lt)
  have hplt := P.lt
  have TR := Lib.hid (fun W (h : Below w.heap.size w W) => implTopicRight_any t A c B d W hf (hA.on h) (hB.on h))
  have HR0 : Hid (runR t r R = _) := Lib.hid (runR.eq_def t r R)
  have HO := Lib.hid (topB_iff (t := t))
  have FT := Lib.hid (fun W (h : Below w.heap.size w W) (ho : topOK t) => freshTopic_any t A c B d W hsm.1 (fun x hx => by obtain ⟨i, hi, rfl⟩ := List.mem_iff_getElem.1 hx; exact hsm.2.1.2 i hi) (fun x hx => by obtain ⟨i, hi, rfl⟩ := List.mem_iff_getElem.1 hx; exact hsm.2.2.2 i hi) ho.2.2.1 ho.2.2.2.2.1 (hA.on h) (hB.on h))
  have PB := Lib.hid HOP
  clear HOP
  obtain ⟨rr, HRR⟩ : ∃ x, Hid (runR t r R = x) := ⟨_, Lib.hid rfl⟩
  rw [HRR.out] at HR0 ⊢
  obtain ⟨nm, bs, H, G⟩ := t
  simp only at TR HR0 FT hA hB ⊢
  have K := (Blk.fresh w 29 [.string nm, .int .i64 bs, .slice A H.length c, .slice B G.length d]).alloc (.cells #[.string ⟨#[]⟩, .int .i64 0, .slice none 0 0, .slice none 0 0, .slice none 0 0, .int .i64 0, .int .i64 0] 31)
  have O := Blk.fresh (w.alloc (.cells #[.string nm, .int .i64 bs, .slice A H.length c, .slice B G.length d] 29)) 31 [.string ⟨#[]⟩, .int .i64 0, .slice none 0 0, .slice none 0 0, .slice none 0 0, .int .i64 0, .int .i64 0]
  have hb : Below w.heap.size w ((w.alloc (.cells #[.string nm, .int .i64 bs, .slice A H.length c, .slice B G.length d] 29)).alloc (.cells #[.string ⟨#[]⟩, .int .i64 0, .slice none 0 0, .slice none 0 0, .slice none 0 0, .int .i64 0, .int .i64 0] 31)) := ((Below.refl _ _).alloc (Nat.le_refl _) _).alloc (by simp) _
  simp only [World.size_alloc] at K O
  replace K : Blk ((w.alloc (.cells #[.string nm, .int .i64 bs, .slice A H.length c, .slice B G.length d] 29)).alloc (.cells #[.string ⟨#[]⟩, .int .i64 0, .slice none 0 0, .slice none 0 0, .slice none 0 0, .int .i64 0, .int .i64 0] 31)) w.heap.size 29 [.string nm, .int .i64 bs, .slice A H.length c, .slice B G.length d] := K
  replace O : Blk ((w.alloc (.cells #[.string nm, .int .i64 bs, .slice A H.length c, .slice B G.length d] 29)).alloc (.cells #[.string ⟨#[]⟩, .int .i64 0, .slice none 0 0, .slice none 0 0, .slice none 0 0, .int .i64 0, .int .i64 0] 31)) (w.heap.size + 1) 31 [.string ⟨#[]⟩, .int .i64 0, .slice none 0 0, .slice none 0 0, .slice none 0 0, .int .i64 0, .int .i64 0] := O
  have hbw := hb
  replace hb := hb.mono hlow
  have kt := ((Kept.refl w p).alloc (.cells #[.string nm, .int .i64 bs, .slice A H.length c, .slice B G.length d] 29)).alloc (.cells #[.string ⟨#[]⟩, .int .i64 0, .slice none 0 0, .slice none 0 0, .slice none 0 0, .int .i64 0, .int .i64 0] 31)
  have kp := ((Kp.refl w p).alloc (.cells #[.string nm, .int .i64 bs, .slice A H.length c, .slice B G.length d] 29)).alloc (.cells #[.string ⟨#[]⟩, .int .i64 0, .slice none 0 0, .slice none 0 0, .slice none 0 0, .int .i64 0, .int .i64 0] 31)
  replace P := (P.alloc (.cells #[.string nm, .int .i64 bs, .slice A H.length c, .slice B G.length d] 29)).alloc (.cells #[.string ⟨#[]⟩, .int .i64 0, .slice none 0 0, .slice none 0 0, .slice none 0 0, .int .i64 0, .int .i64 0] 31)
  cases r with
  | false =>
    have HR : Hid (rr = ill 1) := Lib.hid (by rw [HR0.out, if_pos (by simp)])
    clear HR0
    go_enter Try.func86, Try.ntmps86
    go_upto_region 2 with (fail)
    generalize (w.alloc (.cells #[.string nm, .int .i64 bs, .slice A H.length c, .slice B G.length d] 29)).alloc (.cells #[.string ⟨#[]⟩, .int .i64 0, .slice none 0 0, .slice none 0 0, .slice none 0 0, .int .i64 0, .int .i64 0] 31) = v0 at K O P hb hbw kp kt ⊢
    have qc0 := O.cell (i := 0) rfl
    have qf0 := O.froz 0
    have qc1 := O.cell (i := 1) rfl
    have qf1 := O.froz 1
    have qc2 := O.cell (i := 2) rfl
    have qf2 := O.froz 2
    have qc3 := O.cell (i := 3) rfl
    have qf3 := O.froz 3
    have qc4 := O.cell (i := 4) rfl
    have qf4 := O.froz 4
    have qc5 := O.cell (i := 5) rfl
    have qf5 := O.froz 5
    have qc6 := O.cell (i := 6) rfl
    have qf6 := O.froz 6
    go_wp2
    clear qc0 qf0 qc1 qf1 qc2 qf2 qc3 qf3 qc4 qf4 qc5 qf5 qc6 qf6
    have O9 := (((((((O.put 0 (.string ⟨#[]⟩)).put 1 (.int .i64 0)).put 2 (.slice none 0 0)).put 3 (.slice none 0 0)).put 4 (.slice none 0 0)).put 5 (.int .i64 0)).put 6 (.int .i64 1))
    have hb9 := (((((((hb.setCell (p := ⟨w.heap.size + 1, 0, none⟩) (by simp <;> omega) (.string ⟨#[]⟩)).setCell (p := ⟨w.heap.size + 1, 1, none⟩) (by simp <;> omega) (.int .i64 0)).setCell (p := ⟨w.heap.size + 1, 2, none⟩) (by simp <;> omega) (.slice none 0 0)).setCell (p := ⟨w.heap.size + 1, 3, none⟩) (by simp <;> omega) (.slice none 0 0)).setCell (p := ⟨w.heap.size + 1, 4, none⟩) (by simp <;> omega) (.slice none 0 0)).setCell (p := ⟨w.heap.size + 1, 5, none⟩) (by simp <;> omega) (.int .i64 0)).setCell (p := ⟨w.heap.size + 1, 6, none⟩) (by simp <;> omega) (.int .i64 1))
    have kp9 := (((((((kp.put ⟨w.heap.size + 1, 0, none⟩ (.inr (by simp)) (.string ⟨#[]⟩)).put ⟨w.heap.size + 1, 1, none⟩ (.inr (by simp)) (.int .i64 0)).put ⟨w.heap.size + 1, 2, none⟩ (.inr (by simp)) (.slice none 0 0)).put ⟨w.heap.size + 1, 3, none⟩ (.inr (by simp)) (.slice none 0 0)).put ⟨w.heap.size + 1, 4, none⟩ (.inr (by simp)) (.slice none 0 0)).put ⟨w.heap.size + 1, 5, none⟩ (.inr (by simp)) (.int .i64 0)).put ⟨w.heap.size + 1, 6, none⟩ (.inr (by simp)) (.int .i64 1))
    simp only [List.set_cons_succ, List.set_cons_zero] at O9
    generalize ((((((v0.setCell ⟨w.heap.size + 1, 0, none⟩ (.string ⟨#[]⟩)).setCell ⟨w.heap.size + 1, 1, none⟩ (.int .i64 0)).setCell ⟨w.heap.size + 1, 2, none⟩ (.slice none 0 0)).setCell ⟨w.heap.size + 1, 3, none⟩ (.slice none 0 0)).setCell ⟨w.heap.size + 1, 4, none⟩ (.slice none 0 0)).setCell ⟨w.heap.size + 1, 5, none⟩ (.int .i64 0)).setCell ⟨w.heap.size + 1, 6, none⟩ (.int .i64 1) = w9 at O9 hb9 kp9  ⊢
    have oc0 := O9.cell (i := 0) rfl
    have oc1 := O9.cell (i := 1) rfl
    have oc2 := O9.cell (i := 2) rfl
    have oc3 := O9.cell (i := 3) rfl
    have oc4 := O9.cell (i := 4) rfl
    have oc5 := O9.cell (i := 5) rfl
    have oc6 := O9.cell (i := 6) rfl
    exact bodyPost_ret (v := .agg #[.string ⟨#[]⟩, .int .i64 0, .slice none 0 0, .slice none 0 0, .slice none 0 0, .int .i64 0, .int .i64 1]) (by simp [results, Try.results86, go_sem, oc0, oc1, oc2, oc3, oc4, oc5, oc6]) rfl (⟨by rw [HR.out]; exact RunO.ill hb9, kp9⟩)
  | true =>
  rcases Bool.eq_false_or_eq_true (topB ⟨nm, bs, H, G⟩) with hT | hT
  rotate_left
  · have HR : Hid (rr = ill 1) := Lib.hid (by rw [HR0.out, if_pos (by rw [hT]; rfl)])
    rw [hT] at TR
    clear HR0
    go_enter Try.func86, Try.ntmps86
    go_wp2_with (fail)
    generalize (w.alloc (.cells #[.string nm, .int .i64 bs, .slice A H.length c, .slice B G.length d] 29)).alloc (.cells #[.string ⟨#[]⟩, .int .i64 0, .slice none 0 0, .slice none 0 0, .slice none 0 0, .int .i64 0, .int .i64 0] 31) = v0 at K O P hb hbw kp kt ⊢
    refine (TR.out _ hbw).mono ?_
    rintro e w0 ⟨rfl, hb0⟩
    replace K := K.below hb0 K.lt
    replace O := O.below hb0 O.lt
    replace P := P.below hb0 P.lt
    replace hb := hb.trans (hb0.mono (Nat.le_trans hlow hb.size))
    replace kp := kp.below hb0
    replace kt := kt.below hb0
    have qc0 := O.cell (i := 0) rfl
    have qf0 := O.froz 0
    have qc1 := O.cell (i := 1) rfl
    have qf1 := O.froz 1
    have qc2 := O.cell (i := 2) rfl
    have qf2 := O.froz 2
    have qc3 := O.cell (i := 3) rfl
    have qf3 := O.froz 3
    have qc4 := O.cell (i := 4) rfl
    have qf4 := O.froz 4
    have qc5 := O.cell (i := 5) rfl
    have qf5 := O.froz 5
    have qc6 := O.cell (i := 6) rfl
    have qf6 := O.froz 6
    go_wp2
    clear qc0 qf0 qc1 qf1 qc2 qf2 qc3 qf3 qc4 qf4 qc5 qf5 qc6 qf6
    have O9 := (((((((O.put 0 (.string ⟨#[]⟩)).put 1 (.int .i64 0)).put 2 (.slice none 0 0)).put 3 (.slice none 0 0)).put 4 (.slice none 0 0)).put 5 (.int .i64 0)).put 6 (.int .i64 1))
    have hb9 := (((((((hb.setCell (p := ⟨w.heap.size + 1, 0, none⟩) (by simp <;> omega) (.string ⟨#[]⟩)).setCell (p := ⟨w.heap.size + 1, 1, none⟩) (by simp <;> omega) (.int .i64 0)).setCell (p := ⟨w.heap.size + 1, 2, none⟩) (by simp <;> omega) (.slice none 0 0)).setCell (p := ⟨w.heap.size + 1, 3, none⟩) (by simp <;> omega) (.slice none 0 0)).setCell (p := ⟨w.heap.size + 1, 4, none⟩) (by simp <;> omega) (.slice none 0 0)).setCell (p := ⟨w.heap.size + 1, 5, none⟩) (by simp <;> omega) (.int .i64 0)).setCell (p := ⟨w.heap.size + 1, 6, none⟩) (by simp <;> omega) (.int .i64 1))
    have kp9 := (((((((kp.put ⟨w.heap.size + 1, 0, none⟩ (.inr (by simp)) (.string ⟨#[]⟩)).put ⟨w.heap.size + 1, 1, none⟩ (.inr (by simp)) (.int .i64 0)).put ⟨w.heap.size + 1, 2, none⟩ (.inr (by simp)) (.slice none 0 0)).put ⟨w.heap.size + 1, 3, none⟩ (.inr (by simp)) (.slice none 0 0)).put ⟨w.heap.size + 1, 4, none⟩ (.inr (by simp)) (.slice none 0 0)).put ⟨w.heap.size + 1, 5, none⟩ (.inr (by simp)) (.int .i64 0)).put ⟨w.heap.size + 1, 6, none⟩ (.inr (by simp)) (.int .i64 1))
    simp only [List.set_cons_succ, List.set_cons_zero] at O9
    generalize ((((((w0.setCell ⟨w.heap.size + 1, 0, none⟩ (.string ⟨#[]⟩)).setCell ⟨w.heap.size + 1, 1, none⟩ (.int .i64 0)).setCell ⟨w.heap.size + 1, 2, none⟩ (.slice none 0 0)).setCell ⟨w.heap.size + 1, 3, none⟩ (.slice none 0 0)).setCell ⟨w.heap.size + 1, 4, none⟩ (.slice none 0 0)).setCell ⟨w.heap.size + 1, 5, none⟩ (.int .i64 0)).setCell ⟨w.heap.size + 1, 6, none⟩ (.int .i64 1) = w9 at O9 hb9 kp9  ⊢
    have oc0 := O9.cell (i := 0) rfl
    have oc1 := O9.cell (i := 1) rfl
    have oc2 := O9.cell (i := 2) rfl
    have oc3 := O9.cell (i := 3) rfl
    have oc4 := O9.cell (i := 4) rfl
    have oc5 := O9.cell (i := 5) rfl
    have oc6 := O9.cell (i := 6) rfl
    exact bodyPost_ret (v := .agg #[.string ⟨#[]⟩, .int .i64 0, .slice none 0 0, .slice none 0 0, .slice none 0 0, .int .i64 0, .int .i64 1]) (by simp [results, Try.results86, go_sem, oc0, oc1, oc2, oc3, oc4, oc5, oc6]) rfl (⟨by rw [HR.out]; exact RunO.ill hb9, kp9⟩)
  rw [hT] at TR
  have hO := HO.out.1 hT
  have HR1 : Hid (rr = R) := Lib.hid (by rw [HR0.out, if_neg (by rw [hT]; decide)])
  have FT1 := Lib.hid (fun W h => FT.out W h hO)
  have PB1 := Lib.hid (fun W A2 a2 B2 b2 k h => PB.out W A2 a2 B2 b2 k hO rfl h)
  clear HR0 FT PB HO hO hT
  go_enter Try.func86, Try.ntmps86
  go_wp2_with (fail)
  generalize (w.alloc (.cells #[.string nm, .int .i64 bs, .slice A H.length c, .slice B G.length d] 29)).alloc (.cells #[.string ⟨#[]⟩, .int .i64 0, .slice none 0 0, .slice none 0 0, .slice none 0 0, .int .i64 0, .int .i64 0] 31) = v0 at K O P hb hbw kp kt ⊢
  refine (TR.out _ hbw).mono ?_
  rintro e w1 ⟨rfl, hb1⟩
  replace K := K.below hb1 K.lt
  replace O := O.below hb1 O.lt
  replace P := P.below hb1 P.lt
  replace hb := hb.trans (hb1.mono (Nat.le_trans hlow hb.size))
  replace kp := kp.below hb1
  replace kt := kt.below hb1
  replace hbw := hbw.trans (hb1.mono hbw.size)
  clear TR hb1
  have kc0 := K.cell (i := 0) rfl
  have kc1 := K.cell (i := 1) rfl
  have kc2 := K.cell (i := 2) rfl
  have kc3 := K.cell (i := 3) rfl
  go_wp2_with (fail)
  refine (FT1.out _ hbw).mono ?_
  rintro e w2 ⟨A2, a2, B2, b2, rfl, oS, oG, hb2⟩
  have hl1 : lo ≤ w1.heap.size := Nat.le_trans hlow hbw.size
  clear kc0 kc1 kc2 kc3
  replace K := K.below hb2 K.lt
  replace O := O.below hb2 O.lt
  replace P := P.below hb2 P.lt
  replace hb := hb.trans (hb2.mono (Nat.le_trans hlow hb.size))
  replace kp := kp.below hb2
  replace kt := kt.below hb2
  replace oS : OwnS w2 lo (.slice A2 H.length a2) H := own_base oS hl1
  replace oG : OwnG w2 lo (.slice B2 G.length b2) G := own_base oG hl1
  have hl2 : lo ≤ w2.heap.size := Nat.le_trans hl1 hb2.size
  clear FT1 hb2 hbw
  have uc0 := P.cell (i := 0) rfl
  have uf0 := P.froz 0
  have uc1 := P.cell (i := 1) rfl
  have uf1 := P.froz 1
  have uc2 := P.cell (i := 2) rfl
  have uf2 := P.froz 2
  have uc3 := P.cell (i := 3) rfl
  have uf3 := P.froz 3
  go_wp2_with (fail)
  clear uc0 uf0 uc1 uf1 uc2 uf2 uc3 uf3
  have nS := own_not oS P (by decide)
  have nG := own_not oG P (by decide)
  have P3 := ((((P.put 0 (.string nm)).put 1 (.int .i64 bs)).put 2 (.slice A2 H.length a2)).put 3 (.slice B2 G.length b2))
  have O3 := ((((O.far (p := ⟨p, 0, none⟩) (by simp <;> omega) (.string nm)).far (p := ⟨p, 1, none⟩) (by simp <;> omega) (.int .i64 bs)).far (p := ⟨p, 2, none⟩) (by simp <;> omega) (.slice A2 H.length a2)).far (p := ⟨p, 3, none⟩) (by simp <;> omega) (.slice B2 G.length b2))
  have oS3 := (row_off (row_off (row_off (row_off oS (p := ⟨p, 0, none⟩) nS (.string nm)) (p := ⟨p, 1, none⟩) nS (.int .i64 bs)) (p := ⟨p, 2, none⟩) nS (.slice A2 H.length a2)) (p := ⟨p, 3, none⟩) nS (.slice B2 G.length b2))
  have oG3 := (row_off (row_off (row_off (row_off oG (p := ⟨p, 0, none⟩) nG (.string nm)) (p := ⟨p, 1, none⟩) nG (.int .i64 bs)) (p := ⟨p, 2, none⟩) nG (.slice A2 H.length a2)) (p := ⟨p, 3, none⟩) nG (.slice B2 G.length b2))
  have hb3 := ((((hb.setCell (p := ⟨p, 0, none⟩) (by simp <;> omega) (.string nm)).setCell (p := ⟨p, 1, none⟩) (by simp <;> omega) (.int .i64 bs)).setCell (p := ⟨p, 2, none⟩) (by simp <;> omega) (.slice A2 H.length a2)).setCell (p := ⟨p, 3, none⟩) (by simp <;> omega) (.slice B2 G.length b2))
  have kp3 := ((((kp.put ⟨p, 0, none⟩ (.inl rfl) (.string nm)).put ⟨p, 1, none⟩ (.inl rfl) (.int .i64 bs)).put ⟨p, 2, none⟩ (.inl rfl) (.slice A2 H.length a2)).put ⟨p, 3, none⟩ (.inl rfl) (.slice B2 G.length b2))
  have kt3 := ((((kt.put ⟨p, 0, none⟩ (.inl rfl) (.string nm)).put ⟨p, 1, none⟩ (.inl rfl) (.int .i64 bs)).put ⟨p, 2, none⟩ (.inl rfl) (.slice A2 H.length a2)).put ⟨p, 3, none⟩ (.inl rfl) (.slice B2 G.length b2))
  simp only [List.set_cons_succ, List.set_cons_zero] at P3
  generalize (((w2.setCell ⟨p, 0, none⟩ (.string nm)).setCell ⟨p, 1, none⟩ (.int .i64 bs)).setCell ⟨p, 2, none⟩ (.slice A2 H.length a2)).setCell ⟨p, 3, none⟩ (.slice B2 G.length b2) = w3 at P3 O3 oS3 oG3 hb3 kp3 kt3 ⊢
  clear P O K oS oG hb nS nG
  have hz3 := O3.lt
  obtain ⟨⟨on, ob, oH, oG⟩, N, rn, cd⟩ := R
  have PB2 := PB1.out w3 A2 a2 B2 b2 kt3 ⟨P3, oS3, oG3⟩
  clear PB1
  go_wp2_with (fail)
  refine PB2.mono ?_
  rintro e w4 ⟨hb4, hkp, rfl, hpost⟩
  have O4 := hkp _ _ (Nat.ne_of_gt (Nat.lt_of_lt_of_le hplt (Nat.le_succ _))) O3
  have hb5 := hb3.trans hb4
  replace kp := kp3.then hkp
  clear kp3 kt3 kt PB2 P3 O3 oS3 oG3 hb3 hb4 hkp
  simp only at hpost
  rcases hpost with ⟨hcd, hil⟩ | ⟨hcd, A9, a9, B9, b9, T9, x9, P4, sA, sB, sT, hap, cA, cB⟩
  · have HR : Hid (rr = ill cd) := Lib.hid (by rw [HR1.out, hil])
    clear HR1 hil
    have hd : (cd != 0) = true := by simpa using hcd
    have O := O4
    have hb := hb5
    have qc0 := O.cell (i := 0) rfl
    have qf0 := O.froz 0
    have qc1 := O.cell (i := 1) rfl
    have qf1 := O.froz 1
    have qc2 := O.cell (i := 2) rfl
    have qf2 := O.froz 2
    have qc3 := O.cell (i := 3) rfl
    have qf3 := O.froz 3
    have qc4 := O.cell (i := 4) rfl
    have qf4 := O.froz 4
    have qc5 := O.cell (i := 5) rfl
    have qf5 := O.froz 5
    have qc6 := O.cell (i := 6) rfl
    have qf6 := O.froz 6
    go_wp2
    clear qc0 qf0 qc1 qf1 qc2 qf2 qc3 qf3 qc4 qf4 qc5 qf5 qc6 qf6
    have O9 := (((((((O.put 0 (.string ⟨#[]⟩)).put 1 (.int .i64 0)).put 2 (.slice none 0 0)).put 3 (.slice none 0 0)).put 4 (.slice none 0 0)).put 5 (.int .i64 0)).put 6 (.int .i64 cd))
    have hb9 := (((((((hb.setCell (p := ⟨w.heap.size + 1, 0, none⟩) (by simp <;> omega) (.string ⟨#[]⟩)).setCell (p := ⟨w.heap.size + 1, 1, none⟩) (by simp <;> omega) (.int .i64 0)).setCell (p := ⟨w.heap.size + 1, 2, none⟩) (by simp <;> omega) (.slice none 0 0)).setCell (p := ⟨w.heap.size + 1, 3, none⟩) (by simp <;> omega) (.slice none 0 0)).setCell (p := ⟨w.heap.size + 1, 4, none⟩) (by simp <;> omega) (.slice none 0 0)).setCell (p := ⟨w.heap.size + 1, 5, none⟩) (by simp <;> omega) (.int .i64 0)).setCell (p := ⟨w.heap.size + 1, 6, none⟩) (by simp <;> omega) (.int .i64 cd))
    have kp9 := (((((((kp.put ⟨w.heap.size + 1, 0, none⟩ (.inr (by simp)) (.string ⟨#[]⟩)).put ⟨w.heap.size + 1, 1, none⟩ (.inr (by simp)) (.int .i64 0)).put ⟨w.heap.size + 1, 2, none⟩ (.inr (by simp)) (.slice none 0 0)).put ⟨w.heap.size + 1, 3, none⟩ (.inr (by simp)) (.slice none 0 0)).put ⟨w.heap.size + 1, 4, none⟩ (.inr (by simp)) (.slice none 0 0)).put ⟨w.heap.size + 1, 5, none⟩ (.inr (by simp)) (.int .i64 0)).put ⟨w.heap.size + 1, 6, none⟩ (.inr (by simp)) (.int .i64 cd))
    simp only [List.set_cons_succ, List.set_cons_zero] at O9
    generalize ((((((w4.setCell ⟨w.heap.size + 1, 0, none⟩ (.string ⟨#[]⟩)).setCell ⟨w.heap.size + 1, 1, none⟩ (.int .i64 0)).setCell ⟨w.heap.size + 1, 2, none⟩ (.slice none 0 0)).setCell ⟨w.heap.size + 1, 3, none⟩ (.slice none 0 0)).setCell ⟨w.heap.size + 1, 4, none⟩ (.slice none 0 0)).setCell ⟨w.heap.size + 1, 5, none⟩ (.int .i64 0)).setCell ⟨w.heap.size + 1, 6, none⟩ (.int .i64 cd) = w9 at O9 hb9 kp9  ⊢
    have oc0 := O9.cell (i := 0) rfl
    have oc1 := O9.cell (i := 1) rfl
    have oc2 := O9.cell (i := 2) rfl
    have oc3 := O9.cell (i := 3) rfl
    have oc4 := O9.cell (i := 4) rfl
    have oc5 := O9.cell (i := 5) rfl
    have oc6 := O9.cell (i := 6) rfl
    exact bodyPost_ret (v := .agg #[.string ⟨#[]⟩, .int .i64 0, .slice none 0 0, .slice none 0 0, .slice none 0 0, .int .i64 0, .int .i64 cd]) (by simp [results, Try.results86, go_sem, oc0, oc1, oc2, oc3, oc4, oc5, oc6]) rfl (⟨by rw [HR.out]; exact RunO.ill hb9, kp9⟩)
  subst hcd
  have HR : Hid (rr = ⟨⟨on, ob, oH, oG⟩, N, rn, 0⟩) := HR1
  clear HR1
  replace O4 : Blk w4 (w.heap.size + 1) 31 _ := O4
  go_wp2_with (fail)
  obtain ⟨I, fw, hI, g5', h6, g6', g7'⟩ := class_grown w4
  have bb0 := fun q => kept_cell (h6 q) (P4.cell (i := 0) rfl)
  have bb1 := fun q => kept_cell (h6 q) (P4.cell (i := 1) rfl)
  have bb2 := fun q => kept_cell (h6 q) (P4.cell (i := 2) rfl)
  have bb3 := fun q => kept_cell (h6 q) (P4.cell (i := 3) rfl)
  have bb6 := fun q => kept_cell (h6 q) (P4.cell (i := 6) rfl)
  have bb7 := fun q => kept_cell (h6 q) (P4.cell (i := 7) rfl)
  have G7 := Lib.hid g7'
  clear h6 g7' g6'
  refine wp_region_class_tail (C := fun w' => ∃ q, w' = fw q) 13 (by kernel_rfl) (by kernel_rfl) g5' ?_
  simp only [List.take_succ_cons, List.take_zero, List.drop_succ_cons, List.drop_zero]
  repeat (first
    | go_big_quiet_skip
    | (go_big_quiet_want; go_big_quiet_op; go_big_quiet_on))
  refine wpQuiet_nil ?_
  intro w6 h6
  have hb67 := G7.out _ h6
  have hb := hb5.trans (hb67.mono (Nat.le_trans (Nat.le_trans hlow (Nat.le_of_lt (Nat.lt_of_succ_lt O4.lt))) (Nat.le_refl _)))
  have O := O4.below hb67 O4.lt
  replace kp := kp.below hb67
  replace sA := sA.below hb67
  replace sB := sB.below hb67
  replace sT := sT.below hb67
  have hz46 := hb67.size
  clear bb0 bb1 bb2 bb3 bb6 bb7 g5' h6 P4 hb67 O4 hb5
  have qc0 := O.cell (i := 0) rfl
  have qf0 := O.froz 0
  have qc1 := O.cell (i := 1) rfl
  have qf1 := O.froz 1
  have qc2 := O.cell (i := 2) rfl
  have qf2 := O.froz 2
  have qc3 := O.cell (i := 3) rfl
  have qf3 := O.froz 3
  have qc4 := O.cell (i := 4) rfl
  have qf4 := O.froz 4
  have qc5 := O.cell (i := 5) rfl
  have qf5 := O.froz 5
  have qc6 := O.cell (i := 6) rfl
  have qf6 := O.froz 6
  go_wp2
  clear qc0 qf0 qc1 qf1 qc2 qf2 qc3 qf3 qc4 qf4 qc5 qf5 qc6 qf6
  have hsz : w4.heap.size ≤ (((((((w6.setCell ⟨w.heap.size + 1, 0, none⟩ (.string on)).setCell ⟨w.heap.size + 1, 1, none⟩ (.int .i64 ob)).setCell ⟨w.heap.size + 1, 2, none⟩ (.slice A9 oH.length a9)).setCell ⟨w.heap.size + 1, 3, none⟩ (.slice B9 oG.length b9)).setCell ⟨w.heap.size + 1, 4, none⟩ (.slice T9 N.length x9)).setCell ⟨w.heap.size + 1, 5, none⟩ (.int .i64 rn)).setCell ⟨w.heap.size + 1, 6, none⟩ (.int .i64 0)).heap.size := by simpa [World.setCell] using hz46
  have rA := (((((((sA.off O (by decide) 0 (.string on)).off (O.put 0 (.string on)) (by decide) 1 (.int .i64 ob)).off ((O.put 0 (.string on)).put 1 (.int .i64 ob)) (by decide) 2 (.slice A9 oH.length a9)).off (((O.put 0 (.string on)).put 1 (.int .i64 ob)).put 2 (.slice A9 oH.length a9)) (by decide) 3 (.slice B9 oG.length b9)).off ((((O.put 0 (.string on)).put 1 (.int .i64 ob)).put 2 (.slice A9 oH.length a9)).put 3 (.slice B9 oG.length b9)) (by decide) 4 (.slice T9 N.length x9)).off (((((O.put 0 (.string on)).put 1 (.int .i64 ob)).put 2 (.slice A9 oH.length a9)).put 3 (.slice B9 oG.length b9)).put 4 (.slice T9 N.length x9)) (by decide) 5 (.int .i64 rn)).off ((((((O.put 0 (.string on)).put 1 (.int .i64 ob)).put 2 (.slice A9 oH.length a9)).put 3 (.slice B9 oG.length b9)).put 4 (.slice T9 N.length x9)).put 5 (.int .i64 rn)) (by decide) 6 (.int .i64 0))
  have rB := (((((((sB.off O (by decide) 0 (.string on)).off (O.put 0 (.string on)) (by decide) 1 (.int .i64 ob)).off ((O.put 0 (.string on)).put 1 (.int .i64 ob)) (by decide) 2 (.slice A9 oH.length a9)).off (((O.put 0 (.string on)).put 1 (.int .i64 ob)).put 2 (.slice A9 oH.length a9)) (by decide) 3 (.slice B9 oG.length b9)).off ((((O.put 0 (.string on)).put 1 (.int .i64 ob)).put 2 (.slice A9 oH.length a9)).put 3 (.slice B9 oG.length b9)) (by decide) 4 (.slice T9 N.length x9)).off (((((O.put 0 (.string on)).put 1 (.int .i64 ob)).put 2 (.slice A9 oH.length a9)).put 3 (.slice B9 oG.length b9)).put 4 (.slice T9 N.length x9)) (by decide) 5 (.int .i64 rn)).off ((((((O.put 0 (.string on)).put 1 (.int .i64 ob)).put 2 (.slice A9 oH.length a9)).put 3 (.slice B9 oG.length b9)).put 4 (.slice T9 N.length x9)).put 5 (.int .i64 rn)) (by decide) 6 (.int .i64 0))
  have rT := (((((((sT.off O (by decide) 0 (.string on)).off (O.put 0 (.string on)) (by decide) 1 (.int .i64 ob)).off ((O.put 0 (.string on)).put 1 (.int .i64 ob)) (by decide) 2 (.slice A9 oH.length a9)).off (((O.put 0 (.string on)).put 1 (.int .i64 ob)).put 2 (.slice A9 oH.length a9)) (by decide) 3 (.slice B9 oG.length b9)).off ((((O.put 0 (.string on)).put 1 (.int .i64 ob)).put 2 (.slice A9 oH.length a9)).put 3 (.slice B9 oG.length b9)) (by decide) 4 (.slice T9 N.length x9)).off (((((O.put 0 (.string on)).put 1 (.int .i64 ob)).put 2 (.slice A9 oH.length a9)).put 3 (.slice B9 oG.length b9)).put 4 (.slice T9 N.length x9)) (by decide) 5 (.int .i64 rn)).off ((((((O.put 0 (.string on)).put 1 (.int .i64 ob)).put 2 (.slice A9 oH.length a9)).put 3 (.slice B9 oG.length b9)).put 4 (.slice T9 N.length x9)).put 5 (.int .i64 rn)) (by decide) 6 (.int .i64 0))
  have O9 := (((((((O.put 0 (.string on)).put 1 (.int .i64 ob)).put 2 (.slice A9 oH.length a9)).put 3 (.slice B9 oG.length b9)).put 4 (.slice T9 N.length x9)).put 5 (.int .i64 rn)).put 6 (.int .i64 0))
  have hb9 := (((((((hb.setCell (p := ⟨w.heap.size + 1, 0, none⟩) (by simp <;> omega) (.string on)).setCell (p := ⟨w.heap.size + 1, 1, none⟩) (by simp <;> omega) (.int .i64 ob)).setCell (p := ⟨w.heap.size + 1, 2, none⟩) (by simp <;> omega) (.slice A9 oH.length a9)).setCell (p := ⟨w.heap.size + 1, 3, none⟩) (by simp <;> omega) (.slice B9 oG.length b9)).setCell (p := ⟨w.heap.size + 1, 4, none⟩) (by simp <;> omega) (.slice T9 N.length x9)).setCell (p := ⟨w.heap.size + 1, 5, none⟩) (by simp <;> omega) (.int .i64 rn)).setCell (p := ⟨w.heap.size + 1, 6, none⟩) (by simp <;> omega) (.int .i64 0))
  have kp9 := (((((((kp.put ⟨w.heap.size + 1, 0, none⟩ (.inr (by simp)) (.string on)).put ⟨w.heap.size + 1, 1, none⟩ (.inr (by simp)) (.int .i64 ob)).put ⟨w.heap.size + 1, 2, none⟩ (.inr (by simp)) (.slice A9 oH.length a9)).put ⟨w.heap.size + 1, 3, none⟩ (.inr (by simp)) (.slice B9 oG.length b9)).put ⟨w.heap.size + 1, 4, none⟩ (.inr (by simp)) (.slice T9 N.length x9)).put ⟨w.heap.size + 1, 5, none⟩ (.inr (by simp)) (.int .i64 rn)).put ⟨w.heap.size + 1, 6, none⟩ (.inr (by simp)) (.int .i64 0))
  simp only [List.set_cons_succ, List.set_cons_zero] at O9
  generalize ((((((w6.setCell ⟨w.heap.size + 1, 0, none⟩ (.string on)).setCell ⟨w.heap.size + 1, 1, none⟩ (.int .i64 ob)).setCell ⟨w.heap.size + 1, 2, none⟩ (.slice A9 oH.length a9)).setCell ⟨w.heap.size + 1, 3, none⟩ (.slice B9 oG.length b9)).setCell ⟨w.heap.size + 1, 4, none⟩ (.slice T9 N.length x9)).setCell ⟨w.heap.size + 1, 5, none⟩ (.int .i64 rn)).setCell ⟨w.heap.size + 1, 6, none⟩ (.int .i64 0) = w9 at O9 hb9 kp9 hsz rA rB rT  ⊢
  have oc0 := O9.cell (i := 0) rfl
  have oc1 := O9.cell (i := 1) rfl
  have oc2 := O9.cell (i := 2) rfl
  have oc3 := O9.cell (i := 3) rfl
  have oc4 := O9.cell (i := 4) rfl
  have oc5 := O9.cell (i := 5) rfl
  have oc6 := O9.cell (i := 6) rfl
  exact bodyPost_ret (v := .agg #[.string on, .int .i64 ob, .slice A9 oH.length a9, .slice B9 oG.length b9, .slice T9 N.length x9, .int .i64 rn, .int .i64 0]) (by simp [results, Try.results86, go_sem, oc0, oc1, oc2, oc3, oc4, oc5, oc6]) rfl (⟨run_out HR.out hsz rA rB rT hap cA cB hb9, kp9⟩)
end Go.Proofs.Ytkimieeabmjfgaa

namespace Go.Proofs.Ytkimieeabmjfgaa
open Go.RowKit
set_option linter.unusedVariables false
/-- A group that is moved to the first message. -/
def upG (b : Int) (g : Grp) : Grp := ⟨g.name, max b g.acked⟩
/-- How many messages go. -/
def goneN (t : Tpc) (keep : Int) : Nat := t.held.length - keep.toNat
/-- TopicRetain. -/
noncomputable def retT (t : Tpc) (keep : Int) : Ans :=
  if (topB t && inB keep 0 20) = false then ill 1
  else ⟨⟨t.name, t.base + goneN t keep, t.held.drop (goneN t keep), t.groups.map (upG (t.base + goneN t keep))⟩, [], goneN t keep, 0⟩
theorem gone_le (t : Tpc) (keep : Int) : goneN t keep ≤ t.held.length := Nat.sub_le _ _
theorem gone_max {n : Nat} {keep : Int} (h : 0 ≤ keep) : max 0 ((n : Int) - keep) = ((n - keep.toNat : Nat) : Int) := by omega
/-- Groups the first of which are moved. -/
def partG (b : Int) (G : List Grp) (k : Nat) : List Grp := (G.map (upG b)).take k ++ G.drop k
theorem partG_zero (b : Int) (G : List Grp) : partG b G 0 = G := by simp [partG]
theorem partG_all (b : Int) (G : List Grp) : partG b G G.length = G.map (upG b) := by
  unfold partG; rw [List.take_of_length_le (by simp), List.drop_length, List.append_nil]
theorem partG_len (b : Int) (G : List Grp) (k : Nat) (h : k ≤ G.length) : (partG b G k).length = G.length := by simp [partG]; omega
theorem partG_at (b : Int) (G : List Grp) {k : Nat} (h : k < G.length) : (partG b G k)[k]? = some G[k] := by
  unfold partG
  rw [List.getElem?_append_right (by simp; omega), List.getElem?_drop]
  have : (List.take k (G.map (upG b))).length = k := by simp; omega
  simp [this, h]
theorem gflat_acked (v : Int) : ∀ (L : List Grp) (i : Nat) (h : i < L.length), (gflat L).set (i * 2 + 1) (.int .i64 v) = gflat (L.set i ⟨L[i].name, v⟩)
  | [], i, h => by simp at h
  | g :: L, 0, _ => rfl
  | g :: L, i + 1, h => by
    rw [gflat_cons, show (i + 1) * 2 + 1 = i * 2 + 1 + 1 + 1 by omega, List.set_cons_succ, List.set_cons_succ, gflat_acked v L i (by simpa using h)]
    rfl
theorem partG_set (b : Int) (G : List Grp) {k : Nat} (h : k < G.length) : (partG b G k).set k (upG b G[k]) = partG b G (k + 1) := by
  unfold partG
  have := part_set (M := G.map (upG b)) (L := G) (j := k) (by simp) h
  simpa using this
theorem partG_step (b : Int) (G : List Grp) {k : Nat} (h : k < G.length) : (gflat (partG b G k)).set (k * 2 + 1) (.int .i64 (max b G[k].acked)) = gflat (partG b G (k + 1)) := by
  have hl := partG_len b G k (by omega)
  rw [gflat_acked _ _ k (by omega)]
  have e : (partG b G k)[k]'(by omega) = G[k] := by
    have := partG_at b G h
    rw [List.getElem?_eq_getElem (by omega)] at this
    exact Option.some.inj this
  rw [e, ← partG_set b G h]
  rfl
/-- What lies behind a cut. -/
theorem strs_drop {w : World} {B : Nat} {A : Option Addr} {L : List ByteArray} (h : Strs w B A L) {k c : Nat} (hk : k ≤ L.length) (hc : L.length ≤ c) : Strs w B (if c = k then A else A.map (·.add k)) (L.drop k) := by
  refine ⟨Nat.le_trans (by simp) h.1, fun i hi => ?_⟩
  have hi' : k + i < L.length := by simp at hi; omega
  obtain ⟨a, e, h1, h2⟩ := h.2 (k + i) hi'
  rw [if_neg (by omega)]
  refine ⟨a.add k, by rw [e]; rfl, by rw [add_blk]; exact h1, ?_⟩
  rw [ofNat_add]
  simpa using h2
theorem cap_drop {A : Option Addr} {L : List ByteArray} {k c : Nat} (h : Cap A L.length c) (hk : k ≤ L.length) : Cap (if c = k then A else A.map (·.add k)) (L.drop k).length (c - k) := by
  have h1 := h.le
  have h2 := h.max
  refine ⟨fun e => ?_, by simp; omega, by omega⟩
  by_cases hc : c = k
  · omega
  · rw [if_neg hc] at e
    have : A = none := by cases A with | none => rfl | some a => simp at e
    have := h.nil this
    omega
end Go.Proofs.Ytkimieeabmjfgaa

namespace Go.Proofs.Ytkimieeabmjfgaa
open Go.RowKit Go.Deep
set_option linter.unusedVariables false
set_option maxRecDepth 1000000
theorem gflat_set1 (G : List Grp) {k : Nat} (h : k < G.length) (n : Int) : (gflat G).set (k * 2 + 1) (.int .i64 n) = gflat (G.set k ⟨G[k].name, n⟩) := by
  rw [← gflat_set ⟨G[k].name, n⟩ G k]
  have e : (gflat G)[k * 2]? = some (.string G[k].name) := by have := gflat_get G k h 0 (by omega); rw [Nat.add_zero] at this; rw [this]; rfl
  have hl : k * 2 < (gflat G).length := by rw [gflat_len]; omega
  have e2 : (gflat G).set (k * 2) (.string G[k].name) = gflat G := by
    rw [List.getElem?_eq_getElem hl] at e
    injection e with e
    rw [← e]; exact List.set_getElem_self hl
  simp only [e2]
/-- What a group's place is set to. -/
def setA (t : Tpc) (k : Nat) (n : Int) : Ans := ⟨⟨t.name, t.base, t.held, t.groups.set k ⟨(t.groups.getD k zeroGrp).name, n⟩⟩, [], 0, 0⟩
def moveA (t : Tpc) (k : Nat) (n : Int) (r : Bool) : Ans := if r = true then setA t k n else ill 8
theorem move_yes (p bg k x y : Nat) (n a0 b0 : Int) (c0 c1 c2 c3 c4 c6 c7 v : Value) (w : World) (P : Blk w p 73 [c0, c1, c2, c3, c4, .int .i64 n, c6, c7]) (hx : w.cell? ⟨x, 0, none⟩ = some (.int .i64 a0)) (hy : w.cell? ⟨y, 0, none⟩ = some (.int .i64 b0)) (hv : w.cell? ⟨bg, k * 2 + 1, none⟩ = some v) (hz : w.frozen? ⟨bg, k * 2 + 1, none⟩ = false) (hr : inB n a0 b0 = true) :
    Calls Try.prog 96 #[.pointer (some ⟨p, 0, none⟩), .pointer (some ⟨bg, k * 2, none⟩), btwV x y] w fun e w' => e = .returned (.int .i64 0) ∧ w' = w.setCell ⟨bg, k * 2 + 1, none⟩ (.int .i64 n) := by
  have BT := Lib.hid (between_any hr x y w hx hy)
  have q5 := P.cell (i := 5) rfl
  clear hx hy hr
  go_enter Try.func96, Try.ntmps96
  go_wp2_with (fail)
  refine BT.out.mono ?_
  rintro e w' ⟨rfl, rfl⟩
  go_wp2
  go_ret
  exact ⟨rfl, rfl⟩
theorem move_no (p bg k x y : Nat) (n a0 b0 : Int) (c0 c1 c2 c3 c4 c6 c7 : Value) (w : World) (P : Blk w p 73 [c0, c1, c2, c3, c4, .int .i64 n, c6, c7]) (hx : w.cell? ⟨x, 0, none⟩ = some (.int .i64 a0)) (hy : w.cell? ⟨y, 0, none⟩ = some (.int .i64 b0)) (hr : inB n a0 b0 = false) :
    Calls Try.prog 96 #[.pointer (some ⟨p, 0, none⟩), .pointer (some ⟨bg, k * 2, none⟩), btwV x y] w fun e w' => e = .returned (.int .i64 8) ∧ w' = w := by
  have BT := Lib.hid (between_any hr x y w hx hy)
  have q5 := P.cell (i := 5) rfl
  clear hx hy hr
  go_enter Try.func96, Try.ntmps96
  go_wp2_with (fail)
  refine BT.out.mono ?_
  rintro e w' ⟨rfl, rfl⟩
  go_wp2
  go_ret
  exact ⟨rfl, rfl⟩
/-- What a change of a group's place leaves. -/
theorem set_post {w W : World} {lo p bg k : Nat} {t : Tpc} {s : ByteArray} {n : Int} {A : Option Addr} {a b : Nat} (h : Wk w lo p t s n A a (some ⟨bg, 0, none⟩) b) (hb : Below w.heap.size w W) (hlow : lo ≤ w.heap.size) (hk : k < t.groups.length) :
    OpPost lo p s n (setA t k n) w (.returned (.int .i64 0)) (W.setCell ⟨bg, k * 2 + 1, none⟩ (.int .i64 n)) := by
  obtain ⟨P, oS, oG⟩ := h
  have P1 := P.below hb P.lt
  have S1 : OwnS W lo (.slice A t.held.length a) t.held := row_below oS hb (Nat.le_refl _)
  have G1 : OwnG W lo (.slice (some ⟨bg, 0, none⟩) t.groups.length b) t.groups := row_below oG hb (Nat.le_refl _)
  have cS := Cap.own oS
  have cG := Cap.own oG
  have nP : p ≠ bg := fun e => own_not oG P (by decide) (by rw [e]; rfl)
  have hbl := (oG.lt bg rfl).1
  have S2 : OwnS (W.setCell ⟨bg, k * 2 + 1, none⟩ (.int .i64 n)) lo (.slice A t.held.length a) t.held := row_off S1 (p := ⟨bg, k * 2 + 1, none⟩) (by
    rcases own_apart S1 G1 (by decide) with h | h
    · rw [h]; exact fun e => by cases e
    · exact h) _
  have G2 := (World.ownsRow.stored G1 (k * 2 + 1) (.int .i64 n)).1
  rw [gflat_set1 t.groups hk n] at G2
  have hl2 : (t.groups.set k ⟨t.groups[k].name, n⟩).length = t.groups.length := List.length_set ..
  have eD : t.groups.getD k zeroGrp = t.groups[k] := by rw [List.getD_eq_getElem?_getD, List.getElem?_eq_getElem hk]; rfl
  have hb2 : Below lo w (W.setCell ⟨bg, k * 2 + 1, none⟩ (.int .i64 n)) := (hb.mono hlow).setCell (p := ⟨bg, k * 2 + 1, none⟩) hbl _
  refine ⟨hb2, fun g cs hg h => (h.below hb h.lt).far (p := ⟨bg, k * 2 + 1, none⟩) (fun e => own_not oG h (by decide) (by rw [e]; rfl)) _, rfl, .inr ⟨rfl, A, a, some ⟨bg, 0, none⟩, b, none, 0, ?_, ?_, ?_, .inl rfl, (fun x y _ e => by cases e), cS, ?_⟩⟩
  · have := P1.far (p := ⟨bg, k * 2 + 1, none⟩) nP (.int .i64 n)
    unfold setA
    simp only [List.length_set]
    exact this
  · exact Sl.of_own S2 rfl
  · unfold setA
    simp only [eD]
    have h3 := Sl.of_own G2 rfl
    exact h3
  · unfold setA
    simp only [List.length_set]
    exact cG
set_option maxHeartbeats 8000000 in
theorem ack_any (t : Tpc) (s : ByteArray) (n : Int) (lo p bg k : Nat) (A : Option Addr) (a b : Nat) (w : World) (h : Wk w lo p t s n A a (some ⟨bg, 0, none⟩) b) (hl : lo ≤ p) (hH : t.held.length ≤ 20) (h0 : 0 ≤ t.base) (h1 : t.base + t.held.length ≤ 1000000000) (hk : k < t.groups.length) :
    Calls Try.prog 54 #[.pointer (some ⟨p, 0, none⟩), .pointer (some ⟨bg, k * 2, none⟩)] w (OpPost lo p s n (moveA t k n (inB n (t.groups.getD k zeroGrp).acked (t.base + t.held.length))) w) := by
  have hlow : lo ≤ w.heap.size := Nat.le_trans hl (Nat.le_of_lt h.blk.lt)
  have SP := Lib.hid (fun W (hb : Below w.heap.size w W) => set_post (n := n) h hb hlow hk)
  have NP := Lib.hid (fun W (hb : Below w.heap.size w W) => (show OpPost lo p s n (ill 8) w (.returned (.int .i64 8)) W from ⟨hb.mono hlow, fun g cs _ q => q.below hb q.lt, rfl, .inl ⟨by simp [ill], rfl⟩⟩))
  obtain ⟨P, oS, oG⟩ := h
  have EN := Lib.hid (endOf_any t.name t.base A t.held.length a (.slice (some ⟨bg, 0, none⟩) t.groups.length b) (by omega) h0 (by omega) rfl)
  obtain ⟨ak0, ak1, af0, af1⟩ := row_grp oG hk
  obtain ⟨ak, HAK⟩ : ∃ x, Hid (t.groups[k].acked = x) := ⟨_, Lib.hid rfl⟩
  rw [HAK.out] at ak1
  have eD : Hid ((t.groups.getD k zeroGrp).acked = ak) := Lib.hid (by rw [List.getD_eq_getElem?_getD, List.getElem?_eq_getElem hk]; exact HAK.out)
  rw [eD.out]
  have nP : p ≠ bg := fun e => own_not oG P (by decide) (by rw [e]; rfl)
  obtain ⟨E, HE⟩ : ∃ x, Hid (t.base + (t.held.length : Int) = x) := ⟨_, Lib.hid rfl⟩
  rw [HE.out] at EN ⊢
  have FZ := Lib.hid (fun W (hb : Below w.heap.size w W) => (show W.frozen? ⟨bg, k * 2 + 1, none⟩ = false from by rw [← af1]; exact hb.frozen (p := ⟨bg, k * 2 + 1, none⟩) (oG.lt bg rfl).2))
  obtain ⟨r, HR⟩ : ∃ r, Hid (inB n ak E = r) := ⟨_, Lib.hid rfl⟩
  rw [HR.out]
  have y0 : w.drew.cell? ⟨p, 0, none⟩ = _ := P.drew.cell (i := 0) rfl
  have y1 : w.drew.cell? ⟨p, 1, none⟩ = _ := P.drew.cell (i := 1) rfl
  have y2 : w.drew.cell? ⟨p, 2, none⟩ = _ := P.drew.cell (i := 2) rfl
  have y3 : w.drew.cell? ⟨p, 3, none⟩ = _ := P.drew.cell (i := 3) rfl
  have yk : w.drew.cell? ⟨bg, k * 2 + 1, none⟩ = some (.int .i64 ak) := ak1
  have DR := Lib.hid (fun W (h : Below w.drew.heap.size w.drew W) => (show Below w.heap.size w W from (below_drew (Below.refl _ w)).trans h))
  have PL := Lib.hid P
  clear P oS oG ak0 ak1 af0 af1 eD HE HAK h0 h1
  cases r with
  | true =>
    have MV := Lib.hid (fun W x y hP hx hy hv hz => move_yes (p := p) (bg := bg) (k := k) (x := x) (y := y) (n := n) (a0 := ak) (b0 := E) (w := W) (P := hP) (hx := hx) (hy := hy) (hv := hv) (hz := hz) (hr := HR.out) (c0 := .string t.name) (c1 := .int .i64 t.base) (c2 := .slice A t.held.length a) (c3 := .slice (some ⟨bg, 0, none⟩) t.groups.length b) (c4 := .string s) (c6 := .slice none 0 0) (c7 := .int .i64 0) (v := .int .i64 ak))
    unfold moveA
    rw [if_pos rfl]
    go_enter Try.func54, Try.ntmps54
    go_wp2_with (fail)
    go_region_law
      (first
        | (go_simp; go_at_call 98; (with_reducible refine (EN.out _).mono ?_); rintro e w4 ⟨rfl, hb4⟩; have z0 := kept_cell hb4 y0; have z1 := kept_cell hb4 y1; have z2 := kept_cell hb4 y2; have z3 := kept_cell hb4 y3; have zk := kept_cell hb4 yk)
        | (go_simp; go_at_call 97; (with_reducible refine (numbersBetween_b _ _ w4).mono ?_); rintro e w5 ⟨rfl, hx, hy, hb5⟩; have hb6 := hb4.trans (hb5.mono hb4.size); have vk := kept_cell hb6 yk)
        | (go_simp; go_at_call 96; (with_reducible refine (MV.out w5 w4.heap.size (w4.heap.size + 1) (PL.out.below (DR.out _ hb6) PL.out.lt) hx hy vk (FZ.out _ (DR.out _ hb6))).mono ?_); rintro e w6 ⟨rfl, rfl⟩))
    all_goals
      have hb7 := SP.out w5 (DR.out _ hb6)
      go_wp2
      go_ret
      exact hb7
  | false =>
    have MV := Lib.hid (fun W x y hP hx hy => move_no (p := p) (bg := bg) (k := k) (x := x) (y := y) (n := n) (a0 := ak) (b0 := E) (w := W) (P := hP) (hx := hx) (hy := hy) (hr := HR.out) (c0 := .string t.name) (c1 := .int .i64 t.base) (c2 := .slice A t.held.length a) (c3 := .slice (some ⟨bg, 0, none⟩) t.groups.length b) (c4 := .string s) (c6 := .slice none 0 0) (c7 := .int .i64 0))
    unfold moveA
    rw [if_neg (by simp)]
    go_enter Try.func54, Try.ntmps54
    go_wp2_with (fail)
    go_region_law
      (first
        | (go_simp; go_at_call 98; (with_reducible refine (EN.out _).mono ?_); rintro e w4 ⟨rfl, hb4⟩; have z0 := kept_cell hb4 y0; have z1 := kept_cell hb4 y1; have z2 := kept_cell hb4 y2; have z3 := kept_cell hb4 y3; have zk := kept_cell hb4 yk)
        | (go_simp; go_at_call 97; (with_reducible refine (numbersBetween_b _ _ w4).mono ?_); rintro e w5 ⟨rfl, hx, hy, hb5⟩; have hb6 := hb4.trans (hb5.mono hb4.size))
        | (go_simp; go_at_call 96; (with_reducible refine (MV.out w5 w4.heap.size (w4.heap.size + 1) (PL.out.below (DR.out _ hb6) PL.out.lt) hx hy).mono ?_); rintro e w6 ⟨rfl, rfl⟩))
    all_goals
      have hb7 := NP.out _ (DR.out _ hb6)
      go_wp2
      go_ret
      exact hb7
set_option maxHeartbeats 8000000 in
theorem seek_any (t : Tpc) (s : ByteArray) (n : Int) (lo p bg k : Nat) (A : Option Addr) (a b : Nat) (w : World) (h : Wk w lo p t s n A a (some ⟨bg, 0, none⟩) b) (hl : lo ≤ p) (hH : t.held.length ≤ 20) (h0 : 0 ≤ t.base) (h1 : t.base + t.held.length ≤ 1000000000) (hk : k < t.groups.length) :
    Calls Try.prog 55 #[.pointer (some ⟨p, 0, none⟩), .pointer (some ⟨bg, k * 2, none⟩)] w (OpPost lo p s n (moveA t k n (inB n t.base (t.base + t.held.length))) w) := by
  have hlow : lo ≤ w.heap.size := Nat.le_trans hl (Nat.le_of_lt h.blk.lt)
  have SP := Lib.hid (fun W (hb : Below w.heap.size w W) => set_post (n := n) h hb hlow hk)
  have NP := Lib.hid (fun W (hb : Below w.heap.size w W) => (show OpPost lo p s n (ill 8) w (.returned (.int .i64 8)) W from ⟨hb.mono hlow, fun g cs _ q => q.below hb q.lt, rfl, .inl ⟨by simp [ill], rfl⟩⟩))
  obtain ⟨P, oS, oG⟩ := h
  have EN := Lib.hid (endOf_any t.name t.base A t.held.length a (.slice (some ⟨bg, 0, none⟩) t.groups.length b) (by omega) h0 (by omega) rfl)
  obtain ⟨ak0, ak1, af0, af1⟩ := row_grp oG hk
  obtain ⟨ak, HAK⟩ : ∃ x, Hid (t.groups[k].acked = x) := ⟨_, Lib.hid rfl⟩
  rw [HAK.out] at ak1
  have eD : Hid (t.base = t.base) := Lib.hid (by rfl)
  rw [eD.out]
  have nP : p ≠ bg := fun e => own_not oG P (by decide) (by rw [e]; rfl)
  obtain ⟨E, HE⟩ : ∃ x, Hid (t.base + (t.held.length : Int) = x) := ⟨_, Lib.hid rfl⟩
  rw [HE.out] at EN ⊢
  have FZ := Lib.hid (fun W (hb : Below w.heap.size w W) => (show W.frozen? ⟨bg, k * 2 + 1, none⟩ = false from by rw [← af1]; exact hb.frozen (p := ⟨bg, k * 2 + 1, none⟩) (oG.lt bg rfl).2))
  obtain ⟨r, HR⟩ : ∃ r, Hid (inB n t.base E = r) := ⟨_, Lib.hid rfl⟩
  rw [HR.out]
  have y0 : w.drew.cell? ⟨p, 0, none⟩ = _ := P.drew.cell (i := 0) rfl
  have y1 : w.drew.cell? ⟨p, 1, none⟩ = _ := P.drew.cell (i := 1) rfl
  have y2 : w.drew.cell? ⟨p, 2, none⟩ = _ := P.drew.cell (i := 2) rfl
  have y3 : w.drew.cell? ⟨p, 3, none⟩ = _ := P.drew.cell (i := 3) rfl
  have yk : w.drew.cell? ⟨bg, k * 2 + 1, none⟩ = some (.int .i64 ak) := ak1
  have DR := Lib.hid (fun W (h : Below w.drew.heap.size w.drew W) => (show Below w.heap.size w W from (below_drew (Below.refl _ w)).trans h))
  have PL := Lib.hid P
  clear P oS oG ak0 ak1 af0 af1 eD HE HAK h0 h1
  cases r with
  | true =>
    have MV := Lib.hid (fun W x y hP hx hy hv hz => move_yes (p := p) (bg := bg) (k := k) (x := x) (y := y) (n := n) (a0 := t.base) (b0 := E) (w := W) (P := hP) (hx := hx) (hy := hy) (hv := hv) (hz := hz) (hr := HR.out) (c0 := .string t.name) (c1 := .int .i64 t.base) (c2 := .slice A t.held.length a) (c3 := .slice (some ⟨bg, 0, none⟩) t.groups.length b) (c4 := .string s) (c6 := .slice none 0 0) (c7 := .int .i64 0) (v := .int .i64 ak))
    unfold moveA
    rw [if_pos rfl]
    go_enter Try.func55, Try.ntmps55
    go_wp2_with (fail)
    go_region_law
      (first
        | (go_simp; go_at_call 98; (with_reducible refine (EN.out _).mono ?_); rintro e w4 ⟨rfl, hb4⟩; have z0 := kept_cell hb4 y0; have z1 := kept_cell hb4 y1; have z2 := kept_cell hb4 y2; have z3 := kept_cell hb4 y3; have zk := kept_cell hb4 yk)
        | (go_simp; go_at_call 97; (with_reducible refine (numbersBetween_b _ _ w4).mono ?_); rintro e w5 ⟨rfl, hx, hy, hb5⟩; have hb6 := hb4.trans (hb5.mono hb4.size); have vk := kept_cell hb6 yk)
        | (go_simp; go_at_call 96; (with_reducible refine (MV.out w5 w4.heap.size (w4.heap.size + 1) (PL.out.below (DR.out _ hb6) PL.out.lt) hx hy vk (FZ.out _ (DR.out _ hb6))).mono ?_); rintro e w6 ⟨rfl, rfl⟩))
    all_goals
      have hb7 := SP.out w5 (DR.out _ hb6)
      go_wp2
      go_ret
      exact hb7
  | false =>
    have MV := Lib.hid (fun W x y hP hx hy => move_no (p := p) (bg := bg) (k := k) (x := x) (y := y) (n := n) (a0 := t.base) (b0 := E) (w := W) (P := hP) (hx := hx) (hy := hy) (hr := HR.out) (c0 := .string t.name) (c1 := .int .i64 t.base) (c2 := .slice A t.held.length a) (c3 := .slice (some ⟨bg, 0, none⟩) t.groups.length b) (c4 := .string s) (c6 := .slice none 0 0) (c7 := .int .i64 0))
    unfold moveA
    rw [if_neg (by simp)]
    go_enter Try.func55, Try.ntmps55
    go_wp2_with (fail)
    go_region_law
      (first
        | (go_simp; go_at_call 98; (with_reducible refine (EN.out _).mono ?_); rintro e w4 ⟨rfl, hb4⟩; have z0 := kept_cell hb4 y0; have z1 := kept_cell hb4 y1; have z2 := kept_cell hb4 y2; have z3 := kept_cell hb4 y3; have zk := kept_cell hb4 yk)
        | (go_simp; go_at_call 97; (with_reducible refine (numbersBetween_b _ _ w4).mono ?_); rintro e w5 ⟨rfl, hx, hy, hb5⟩; have hb6 := hb4.trans (hb5.mono hb4.size))
        | (go_simp; go_at_call 96; (with_reducible refine (MV.out w5 w4.heap.size (w4.heap.size + 1) (PL.out.below (DR.out _ hb6) PL.out.lt) hx hy).mono ?_); rintro e w6 ⟨rfl, rfl⟩))
    all_goals
      have hb7 := NP.out _ (DR.out _ hb6)
      go_wp2
      go_ret
      exact hb7
end Go.Proofs.Ytkimieeabmjfgaa

namespace Go.Proofs.Ytkimieeabmjfgaa
open Go.RowKit Go.Deep
set_option linter.unusedVariables false
set_option maxRecDepth 1000000
/-- What a group fetches. -/
def fetchA (t : Tpc) (k : Nat) (n : Int) : Ans :=
  ⟨t, (t.held.drop ((t.groups.getD k zeroGrp).acked - t.base).toNat).take n.toNat, (t.groups.getD k zeroGrp).acked, 0⟩
theorem strs_takeN {w : World} {B : Nat} {A : Option Addr} {L : List ByteArray} (h : Strs w B A L) (q : Nat) : Strs w B A (L.take q) := by
  refine ⟨Nat.le_trans (by simp; omega) h.1, fun i hi => ?_⟩
  simp at hi
  obtain ⟨a, e, h1, h2⟩ := h.2 i (by omega)
  exact ⟨a, e, h1, by simpa using h2⟩
set_option maxHeartbeats 8000000 in
theorem fetch_any (t : Tpc) (s : ByteArray) (n : Int) (lo p bg k : Nat) (A : Option Addr) (a b : Nat) (w : World) (h : Wk w lo p t s n A a (some ⟨bg, 0, none⟩) b) (hl : lo ≤ p) (hH : t.held.length ≤ 20) (hs : ∀ x ∈ t.held, x.size ≤ 1048576) (h0 : 0 ≤ t.base) (h1 : t.base + t.held.length ≤ 1000000000) (hk : k < t.groups.length) (hn0 : 0 ≤ n) (hn1 : n ≤ 20)
    (hk1 : t.base ≤ t.groups[k].acked) (hk2 : t.groups[k].acked ≤ t.base + t.held.length) :
    Calls Try.prog 47 #[.pointer (some ⟨p, 0, none⟩), .pointer (some ⟨bg, k * 2, none⟩)] w (OpPost lo p s n (fetchA t k n) w) := by
  have hlow : lo ≤ w.heap.size := Nat.le_trans hl (Nat.le_of_lt h.blk.lt)
  obtain ⟨P, oS, oG⟩ := h
  obtain ⟨ak0, ak1, af0, af1⟩ := row_grp oG hk
  obtain ⟨ak, HAK⟩ : ∃ x, Hid (t.groups[k].acked = x) := ⟨_, Lib.hid rfl⟩
  rw [HAK.out] at ak1 hk1 hk2
  obtain ⟨m, HM⟩ : ∃ m : Nat, Hid ((ak - t.base).toNat = m) := ⟨_, Lib.hid rfl⟩
  have hm : ak = t.base + m := by have := HM.out; omega
  have hml : m ≤ t.held.length := by omega
  have eR : Hid (fetchA t k n = ⟨t, (t.held.drop m).take n.toNat, t.base + m, 0⟩) := Lib.hid (by
    unfold fetchA
    have e : t.groups.getD k zeroGrp = t.groups[k] := by rw [List.getD_eq_getElem?_getD, List.getElem?_eq_getElem hk]; rfl
    rw [e, HAK.out, HM.out, hm])
  rw [eR.out]
  subst hm
  obtain ⟨nm, bs, H, G⟩ := t
  simp only at P oS oG hH hs h0 h1 hk hml ak1 ⊢
  have cS := Cap.own oS
  have cG := Cap.own oG
  have SA := (OwnS.strs (n := H.length) oS).2
  have hcl := cS.le
  have hcm := cS.max
  unfold maxLen at hcm
  have nP : p ≠ bg := fun e => own_not oG P (by decide) (by rw [e]; rfl)
  have y1 : w.drew.cell? ⟨p, 1, none⟩ = _ := P.drew.cell (i := 1) rfl
  have y2 : w.drew.cell? ⟨p, 2, none⟩ = _ := P.drew.cell (i := 2) rfl
  have yk : w.drew.cell? ⟨bg, k * 2 + 1, none⟩ = some (.int .i64 (bs + m)) := ak1
  have hsub : IntKind.i64.wrap (bs + (m : Int) - bs) = (m : Int) := by rw [IntWalk.i64_in _ (by omega)]; omega
  have hm0 : (0 : Int) ≤ (m : Int) := by omega
  have hm1 : (m : Int) ≤ (H.length : Int) := by omega
  have htn : ((m : Int)).toNat = m := by omega
  obtain ⟨I, fw, hI, g0, h6, gc, ge⟩ := class_grown w
  have x1 := fun q => kept_cell (h6 q) (P.cell (i := 1) rfl)
  have x2 := fun q => kept_cell (h6 q) (P.cell (i := 2) rfl)
  have xk := fun q => kept_cell (h6 q) ak1
  have GE := Lib.hid ge
  clear h6 gc ge
  obtain ⟨TX, HTX⟩ : ∃ X, Hid ((H.drop m).take n.toNat = X) := ⟨_, Lib.hid rfl⟩
  rw [HTX.out]
  go_enter Try.func47, Try.ntmps47
  go_wp2_with (fail)
  refine wp_region_kept fw (by kernel_rfl) (by kernel_rfl) g0 ?_
  repeat (first
    | go_big_quiet_skip
    | (go_big_quiet_want; go_big_quiet_op; go_big_quiet_on))
  refine wpQuiet_nil ?_
  intro w2 h2
  have hb2 := GE.out _ h2
  have P2 := P.below hb2 P.lt
  have S2 : OwnS w2 lo (.slice A H.length a) H := row_below oS hb2 (Nat.le_refl _)
  have G2 : OwnG w2 lo (.slice (some ⟨bg, 0, none⟩) G.length b) G := row_below oG hb2 (Nat.le_refl _)
  have ak2 := kept_cell hb2 ak1
  have SB := (strs_drop SA hml hcl).mono (Nat.le_refl _)
  have SB2 := SB.on hb2
  have hb02 : Below lo w w2 := hb2.mono hlow
  have KQ := Lib.hid (fun g cs (_ : g ≠ p) (h : Blk w g 31 cs) => h.below hb2 h.lt)
  clear SB h2 g0 x1 x2 xk GE y1 y2 yk hsub hm0 hm1 htn ak0 ak1 af0 af1
  obtain ⟨L, HL⟩ : ∃ L, Hid (H.drop m = L) := ⟨_, Lib.hid rfl⟩
  have hLl : H.length - m = L.length := by rw [← HL.out, List.length_drop]
  have hLs : ∀ x ∈ L, x.size ≤ 1048576 := fun x hx => hs x (List.mem_of_mem_drop (by rw [HL.out]; exact hx))
  have hcl2 : L.length ≤ a - m := by omega
  have hcm2 : a - m ≤ 9223372036854775807 := by omega
  rw [HL.out] at SB2
  rw [hLl]
  have hL20 : L.length ≤ 20 := by omega
  have hHm := hH
  generalize (if a = m then A else Option.map (fun x => x.add m) A) = A' at SB2 ⊢
  generalize a - m = c' at hcl2 hcm2 ⊢
  obtain ⟨N, rfl⟩ : ∃ N : Nat, n = (N : Int) := ⟨n.toNat, by omega⟩
  obtain ⟨q, hq, hqe⟩ : ∃ q : Nat, q ≤ L.length ∧ L.take N = L.take q ∧ ((N < L.length ∧ q = N) ∨ (N = L.length ∧ q = N) ∨ (L.length < N ∧ q = L.length)) := by
    rcases Nat.lt_trichotomy N L.length with h | h | h
    · exact ⟨N, by omega, rfl, .inl ⟨h, rfl⟩⟩
    · exact ⟨N, by omega, rfl, .inr (.inl ⟨h, rfl⟩)⟩
    · exact ⟨L.length, Nat.le_refl _, by rw [List.take_of_length_le (by omega), List.take_of_length_le (Nat.le_refl _)], .inr (.inr ⟨h, rfl⟩)⟩
  have eN : ((N : Int)).toNat = N := by omega
  have FX := fun W (hw : Below w2.heap.size w2 W) => freshTexts_any A' (L.take q) c' W (strs_takeN (SB2.on hw) q) (by simp; omega) (fun x hx => hLs x (List.mem_of_mem_take hx))
  have hql : (L.take q).length = q := by simp; omega
  rw [hql] at FX
  have FXh := Lib.hid FX
  clear FX SB2
  obtain ⟨QT, HQT⟩ : ∃ Q, Hid (L.take q = Q) := ⟨_, Lib.hid rfl⟩
  rw [HQT.out] at FXh hql
  have HTQ : Hid (TX = QT) := Lib.hid (by rw [← HTX.out, HL.out, eN, hqe.1, HQT.out])
  clear eN HTX
  have q5 := P2.cell (i := 5) rfl
  have HQL := Lib.hid hql
  clear hql hLl
  have hl2 : lo ≤ w2.heap.size := Nat.le_trans hlow hb02.size
  have hlw := hb02.size
  have FIN := Lib.hid (show ∀ q T x w3, QT.length = q → Below w2.heap.size w2 w3 → OwnS w3 w2.heap.size (.slice T q x) QT → OpPost lo p s N ⟨⟨nm, bs, H, G⟩, QT, bs + m, 0⟩ w (.returned (.int .i64 0)) ((w3.setCell ⟨p, 6, none⟩ (.slice T q x)).setCell ⟨p, 7, none⟩ (.int .i64 (bs + m))) from fun q T x w3 hql hb3 oT => by
    have P3 := P2.below hb3 P2.lt
    have S3 : OwnS w3 lo (.slice A H.length a) H := row_below S2 hb3 (Nat.le_refl _)
    have G3 : OwnG w3 lo (.slice (some ⟨bg, 0, none⟩) G.length b) G := row_below G2 hb3 (Nat.le_refl _)
    have hb03 := hb02.trans (hb3.mono hl2)
    have hap : Apart A T := fun x1 y1 e1 e2 => by
      have i1 := (S2.lt x1.block (by rw [e1]; rfl)).2
      have i2 := (oT.lt y1.block (by rw [e2]; rfl)).1
      omega
    have P4 := (P3.put 6 (.slice T q x)).put 7 (.int .i64 (bs + m))
    have hb4 := (hb03.setCell (p := ⟨p, 6, none⟩) hl (.slice T q x)).setCell (p := ⟨p, 7, none⟩) hl (.int .i64 (bs + m))
    have S4 := row_off (row_off S3 (p := ⟨p, 6, none⟩) (own_not S3 P3 (by decide)) (.slice T q x)) (p := ⟨p, 7, none⟩) (own_not S3 P3 (by decide)) (.int .i64 (bs + m))
    have G4 := row_off (row_off G3 (p := ⟨p, 6, none⟩) (own_not G3 P3 (by decide)) (.slice T q x)) (p := ⟨p, 7, none⟩) (own_not G3 P3 (by decide)) (.int .i64 (bs + m))
    have T4 := row_off (row_off oT (p := ⟨p, 6, none⟩) (own_not oT P3 (by decide)) (.slice T q x)) (p := ⟨p, 7, none⟩) (own_not oT P3 (by decide)) (.int .i64 (bs + m))
    simp only [List.set_cons_succ, List.set_cons_zero] at P4
    refine ⟨hb4, fun g cs hg h => (((KQ.out g cs hg h).below hb3 (KQ.out g cs hg h).lt).far (p := ⟨p, 6, none⟩) hg _).far (p := ⟨p, 7, none⟩) hg _, rfl, .inr ⟨rfl, A, a, some ⟨bg, 0, none⟩, b, T, x, ?_, Sl.of_own S4 rfl, Sl.of_own G4 rfl, (Sl.of_own T4 rfl).wide hl2 (Nat.le_refl _), hap, cS, cG⟩⟩
    simp only [hql]
    exact P4)
  rcases hqe.2 with ⟨h3, rfl⟩ | ⟨rfl, rfl⟩ | ⟨h3, rfl⟩
  all_goals
    clear hqe
    go_wp2_with (fail)
    with_reducible refine (FXh.out _ (Below.refl _ _)).mono ?_
    rintro e w3 ⟨T, x, rfl, oT, hb3⟩
    have P3 := P2.below hb3 P2.lt
    have ak3 := kept_cell hb3 ak2
    have q6 := P3.cell (i := 6) rfl
    have f6 := P3.froz 6
    have q7 := P3.cell (i := 7) rfl
    have f7 := P3.froz 7
    have ak4 := fun v => cell_put_far ak3 (p := ⟨p, 6, none⟩) (Ne.symm nP) v
    go_wp2
    go_ret
    have h := FIN.out _ _ _ _ HQL.out hb3 oT
    rw [← HTQ.out] at h
    exact h
end Go.Proofs.Ytkimieeabmjfgaa
