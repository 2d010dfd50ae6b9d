/- spec.l07Set. spec.TopicAck and spec.TopicSeek. The closure of runFor, the operation being ack. impl.TopicAck; the two answer alike. -/
import Derived.Test.YtkimieeabmjfgaaTpSetMW
import Derived.Test.YtkimieeabmjfgaaTpArgW
import Derived.Test.YtkimieeabmjfgaaTpRunDW
import Derived.Test.YtkimieeabmjfgaaTpRfMW
namespace Go.Proofs.Ytkimieeabmjfgaa
open Go.RowKit
set_option linter.unusedVariables false
set_option maxRecDepth 1000000
theorem set_end {w w9 : World} {lo : Nat} {nm : ByteArray} {b n : Int} {k : Nat} {H : List ByteArray} {G : List Grp} {A3 B2 : Option Addr} {c3 d2 : Nat} {R : Ans} (h : R = setA ⟨nm, b, H, G⟩ k n) (hk : k < G.length) (hlo : w.heap.size ≤ lo) (hS : OwnS w9 lo (.slice A3 H.length c3) H) (hG : w9.ownsRow lo 68 2 (.slice B2 G.length d2) G.length (gflat (G.set k ⟨G[k].name, n⟩))) (hb : Below w.heap.size w w9) :
    ImO w w9 (.returned (outV nm b (.slice A3 H.length c3) (.slice B2 G.length d2) (.slice none 0 0) 0 0)) R := by
  subst h
  have eD : G.getD k zeroGrp = G[k] := by rw [List.getD_eq_getElem?_getD, List.getElem?_eq_getElem hk]; rfl
  have e2 : (G.set k ⟨G[k].name, n⟩).length = G.length := List.length_set ..
  have hG' : OwnG w9 w.heap.size (.slice B2 G.length d2) (G.set k ⟨G[k].name, n⟩) := by unfold OwnG; rw [e2]; exact own_base hG hlo
  have hS' : OwnS w9 w.heap.size (.slice A3 H.length c3) H := own_base hS hlo
  unfold setA
  simp only [eD]
  refine ⟨A3, c3, B2, d2, none, 0, by rw [e2]; rfl, Sl.of_own hS' rfl, Sl.of_own hG' rfl, .inl rfl, (fun x y _ e => by cases e), Cap.own hS', ?_, hb⟩
  have := Cap.own hG'
  rw [e2] at this ⊢
  exact this
/-- Rows of its own are rows. -/
theorem ImO.sp {w w9 : World} {e : Ending} {R : Ans} (h : ImO w w9 e R) (h1 : R.o.held.length ≤ maxLen) (h2 : R.o.groups.length ≤ maxLen) (h3 : R.texts.length ≤ maxLen) : SpO w w9 e R := by
  obtain ⟨A, a, B, b, T, x, he, sA, sB, sT, _, cA, cB, hb⟩ := h
  exact ⟨A, a, B, b, T, x, he, sA.strs h1, sB.grs h2, sT.strs h3, cA, cB, hb⟩
set_option maxHeartbeats 8000000 in
theorem l07Set_any (t : Tpc) (gn : ByteArray) (n : Int) (back : Bool) (A : Option Addr) (c : Nat) (B : Option Addr) (d : Nat) (w : World) (hf : t.fits) (hs : gn.size ≤ maxLen) (hA : Strs w w.heap.size A t.held) (hB : Grs w w.heap.size B t.groups) (hc : Cap A t.held.length c) (hd : Cap B t.groups.length d) :
    Calls Try.prog 53 #[topV t.name t.base (.slice A t.held.length c) (.slice B t.groups.length d), .string gn, .int .i64 n, .bool back] w fun e w' => ImO w w' e (setT t gn n back) := by
  have BG := Lib.hid (fun W (h : Below w.heap.size w W) => l07Begin_any t gn true A c B d W hf hs (hA.on h) (hB.on h) hc hd)
  have hkl := hasG_lt t gn
  have HT := Lib.hid (beg_top (t := t) (g := gn) (ok := true))
  have HI := Lib.hid (setT_ill (t := t) (gn := gn) (n := n) (back := back))
  have HZ0 := Lib.hid (setT_ok (t := t) (gn := gn) (n := n) (back := back))
  obtain ⟨cc, HCC⟩ : ∃ x, Hid (begC t gn true = x) := ⟨_, Lib.hid rfl⟩
  obtain ⟨hg, HHG⟩ : ∃ x, Hid (hasG t gn = x) := ⟨_, Lib.hid rfl⟩
  obtain ⟨kk, HKK⟩ : ∃ x, Hid (posG t.groups gn = x) := ⟨_, Lib.hid rfl⟩
  rw [HHG.out, HKK.out] at hkl
  rw [HCC.out, HHG.out, HKK.out] at BG
  obtain ⟨nm, bs, H, G⟩ := t
  simp only at HKK hA hB hc hd BG ⊢
  have K := (Blk.fresh w 29 [.string nm, .int .i64 bs, .slice A H.length c, .slice B G.length d]).alloc (.cells #[.string ⟨#[]⟩, .int .i64 0, .slice none 0 0, .slice none 0 0, .slice none 0 0, .int .i64 0, .int .i64 0] 31)
  have O := Blk.fresh (w.alloc (.cells #[.string nm, .int .i64 bs, .slice A H.length c, .slice B G.length d] 29)) 31 [.string ⟨#[]⟩, .int .i64 0, .slice none 0 0, .slice none 0 0, .slice none 0 0, .int .i64 0, .int .i64 0]
  have hb : Below w.heap.size w ((w.alloc (.cells #[.string nm, .int .i64 bs, .slice A H.length c, .slice B G.length d] 29)).alloc (.cells #[.string ⟨#[]⟩, .int .i64 0, .slice none 0 0, .slice none 0 0, .slice none 0 0, .int .i64 0, .int .i64 0] 31)) := ((Below.refl _ _).alloc (Nat.le_refl _) _).alloc (by simp) _
  simp only [World.size_alloc] at K O
  replace K : Blk ((w.alloc (.cells #[.string nm, .int .i64 bs, .slice A H.length c, .slice B G.length d] 29)).alloc (.cells #[.string ⟨#[]⟩, .int .i64 0, .slice none 0 0, .slice none 0 0, .slice none 0 0, .int .i64 0, .int .i64 0] 31)) w.heap.size 29 [.string nm, .int .i64 bs, .slice A H.length c, .slice B G.length d] := K
  replace O : Blk ((w.alloc (.cells #[.string nm, .int .i64 bs, .slice A H.length c, .slice B G.length d] 29)).alloc (.cells #[.string ⟨#[]⟩, .int .i64 0, .slice none 0 0, .slice none 0 0, .slice none 0 0, .int .i64 0, .int .i64 0] 31)) (w.heap.size + 1) 31 [.string ⟨#[]⟩, .int .i64 0, .slice none 0 0, .slice none 0 0, .slice none 0 0, .int .i64 0, .int .i64 0] := O
  have hz1 := hb.size
  by_cases hz : cc = 0
  rotate_left
  · have HR : Hid (setT ⟨nm, bs, H, G⟩ gn n back = ill cc) := Lib.hid (by rw [HI.out (by rw [HCC.out]; exact hz), HCC.out])
    go_enter Try.func53, Try.ntmps53
    go_wp2_with (fail)
    generalize (w.alloc (.cells #[.string nm, .int .i64 bs, .slice A H.length c, .slice B G.length d] 29)).alloc (.cells #[.string ⟨#[]⟩, .int .i64 0, .slice none 0 0, .slice none 0 0, .slice none 0 0, .int .i64 0, .int .i64 0] 31) = v0 at K O hb ⊢
    have hov := O.lt
    refine (BG.out _ hb).mono ?_
    rintro e w1 ⟨A8, a8, B8, b8, L, k, code, rfl, hcd, hok, hb1⟩
    replace K := K.below hb1 K.lt
    replace O := O.below hb1 O.lt
    replace hb := hb.trans (hb1.mono hb.size)
    clear hok
    have P := Blk.fresh w1 29 [.string nm, .int .i64 bs, .slice A8 H.length a8, .slice B8 L.length b8]
    have al := below_box w1 (.cells #[.string nm, .int .i64 bs, .slice A8 H.length a8, .slice B8 L.length b8] 29)
    replace P : Blk (w1.alloc (.cells #[.string nm, .int .i64 bs, .slice A8 H.length a8, .slice B8 L.length b8] 29)) w1.heap.size 29 [.string nm, .int .i64 bs, .slice A8 H.length a8, .slice B8 L.length b8] := P

    replace K := K.below al K.lt
    replace O := O.below al O.lt
    replace hb := hb.trans (al.mono hb.size)
    have kc0 := K.cell (i := 0) rfl
    have kc1 := K.cell (i := 1) rfl
    have kc2 := K.cell (i := 2) rfl
    have kc3 := K.cell (i := 3) rfl
    have pc0 := P.cell (i := 0) rfl
    have pc1 := P.cell (i := 1) rfl
    have pc2 := P.cell (i := 2) rfl
    have pc3 := P.cell (i := 3) rfl
    go_wp2_with (fail)
    clear kc0 kc1 kc2 kc3
    generalize w1.alloc (.cells #[.string nm, .int .i64 bs, .slice A8 H.length a8, .slice B8 L.length b8] 29) = w2 at P K O hb pc0 pc1 pc2 pc3  ⊢
    refine (l07Ill_any cc _).mono ?_
    rintro e w3 ⟨rfl, hb3⟩
    replace K := K.below hb3 K.lt
    replace O := O.below hb3 O.lt
    replace hb := hb.trans (hb3.mono hb.size)
    have qc0 := O.cell (i := 0) rfl
    have qf0 := O.froz 0
    have qc1 := O.cell (i := 1) rfl
    have qf1 := O.froz 1
    have qc2 := O.cell (i := 2) rfl
    have qf2 := O.froz 2
    have qc3 := O.cell (i := 3) rfl
    have qf3 := O.froz 3
    have qc4 := O.cell (i := 4) rfl
    have qf4 := O.froz 4
    have qc5 := O.cell (i := 5) rfl
    have qf5 := O.froz 5
    have qc6 := O.cell (i := 6) rfl
    have qf6 := O.froz 6
    go_wp2
    clear qc0 qf0 qc1 qf1 qc2 qf2 qc3 qf3 qc4 qf4 qc5 qf5 qc6 qf6
    have O9 := (((((((O.put 0 (.string ⟨#[]⟩)).put 1 (.int .i64 0)).put 2 (.slice none 0 0)).put 3 (.slice none 0 0)).put 4 (.slice none 0 0)).put 5 (.int .i64 0)).put 6 (.int .i64 cc))
    have hb9 := (((((((hb.setCell (p := ⟨w.heap.size + 1, 0, none⟩) (by simp <;> omega) (.string ⟨#[]⟩)).setCell (p := ⟨w.heap.size + 1, 1, none⟩) (by simp <;> omega) (.int .i64 0)).setCell (p := ⟨w.heap.size + 1, 2, none⟩) (by simp <;> omega) (.slice none 0 0)).setCell (p := ⟨w.heap.size + 1, 3, none⟩) (by simp <;> omega) (.slice none 0 0)).setCell (p := ⟨w.heap.size + 1, 4, none⟩) (by simp <;> omega) (.slice none 0 0)).setCell (p := ⟨w.heap.size + 1, 5, none⟩) (by simp <;> omega) (.int .i64 0)).setCell (p := ⟨w.heap.size + 1, 6, none⟩) (by simp <;> omega) (.int .i64 cc))
    simp only [List.set_cons_succ, List.set_cons_zero] at O9
    generalize ((((((w3.setCell ⟨w.heap.size + 1, 0, none⟩ (.string ⟨#[]⟩)).setCell ⟨w.heap.size + 1, 1, none⟩ (.int .i64 0)).setCell ⟨w.heap.size + 1, 2, none⟩ (.slice none 0 0)).setCell ⟨w.heap.size + 1, 3, none⟩ (.slice none 0 0)).setCell ⟨w.heap.size + 1, 4, none⟩ (.slice none 0 0)).setCell ⟨w.heap.size + 1, 5, none⟩ (.int .i64 0)).setCell ⟨w.heap.size + 1, 6, none⟩ (.int .i64 cc) = w9 at O9 hb9  ⊢
    have oc0 := O9.cell (i := 0) rfl
    have oc1 := O9.cell (i := 1) rfl
    have oc2 := O9.cell (i := 2) rfl
    have oc3 := O9.cell (i := 3) rfl
    have oc4 := O9.cell (i := 4) rfl
    have oc5 := O9.cell (i := 5) rfl
    have oc6 := O9.cell (i := 6) rfl
    exact bodyPost_ret (v := .agg #[.string ⟨#[]⟩, .int .i64 0, .slice none 0 0, .slice none 0 0, .slice none 0 0, .int .i64 0, .int .i64 cc]) (by simp [results, Try.results53, go_sem, oc0, oc1, oc2, oc3, oc4, oc5, oc6]) rfl (by rw [HR.out]; exact ImO.ill hb9)
  have HZ : Hid (begC ⟨nm, bs, H, G⟩ gn true = 0) := Lib.hid (by rw [HCC.out]; exact hz)
  have hO := HT.out HZ.out
  have hbs := inB_true hO.2.1
  have hl : H.length ≤ 20 := hO.2.2.1
  clear hO HT HI HCC HZ0
  obtain ⟨ak, HAK⟩ : ∃ x, Hid (hg[kk].acked = x) := ⟨_, Lib.hid rfl⟩
  have HGD : Hid ((hg.getD kk zeroGrp).acked = ak) := Lib.hid (by rw [List.getD_eq_getElem?_getD, List.getElem?_eq_getElem hkl]; exact HAK.out)
  have EN := Lib.hid (fun W => l07End_any nm bs A H.length c (.slice B G.length d) (by omega) hbs.1 hbs.2 rfl W)
  have hkn : (kk : Int) < (hg.length : Int) := by omega
  cases back with
  | true =>
    have HX : Hid (setT ⟨nm, bs, H, G⟩ gn n true = moveA ⟨nm, bs, H, hg⟩ kk n (inB n bs (bs + (H.length : Int)))) := Lib.hid (by
      rw [setT_ok HZ.out]
      simp only [HHG.out, HKK.out]
      rfl)
    cases hI : inB n bs (bs + (H.length : Int)) with
    | false =>
      have IS := is3 hI
      have HR : Hid (setT ⟨nm, bs, H, G⟩ gn n true = ill 8) := Lib.hid (by rw [HX.out, hI]; rfl)
      go_enter Try.func53, Try.ntmps53
      go_wp2_with (fail)
      generalize (w.alloc (.cells #[.string nm, .int .i64 bs, .slice A H.length c, .slice B G.length d] 29)).alloc (.cells #[.string ⟨#[]⟩, .int .i64 0, .slice none 0 0, .slice none 0 0, .slice none 0 0, .int .i64 0, .int .i64 0] 31) = v0 at K O hb ⊢
      have hov := O.lt
      refine (BG.out _ hb).mono ?_
      rintro e w1 ⟨A8, a8, B8, b8, L, k, code, rfl, hcd, hok, hb1⟩
      replace K := K.below hb1 K.lt
      replace O := O.below hb1 O.lt
      replace hb := hb.trans (hb1.mono hb.size)
      obtain rfl : code = 0 := by rw [hcd]; exact hz
      obtain ⟨hL, rfl, oS, oG⟩ := hok rfl
      subst L
      clear hok hcd BG
      obtain ⟨bg, rfl⟩ : ∃ bg, B8 = some ⟨bg, 0, none⟩ := by
        rcases oG.2 with ⟨he, h0⟩ | ⟨g, cap, cur, he, _⟩
        · omega
        · injection he with e1; exact ⟨g, e1⟩
      have nb : w1.heap.size ≠ bg := fun e => by have := (oG.lt bg rfl).2; omega
      obtain ⟨ga0, ga1, gf0, gf1⟩ := row_grp (row_below oG (below_box w1 (.cells #[.string nm, .int .i64 bs, .slice A8 H.length a8, .slice (some ⟨bg, 0, none⟩) hg.length b8] 29)) (Nat.le_refl _)) hkl
      rw [HAK.out] at ga1
      clear ga0 gf0
      have P := Blk.fresh w1 29 [.string nm, .int .i64 bs, .slice A8 H.length a8, .slice (some ⟨bg, 0, none⟩) hg.length b8]
      have al := below_box w1 (.cells #[.string nm, .int .i64 bs, .slice A8 H.length a8, .slice (some ⟨bg, 0, none⟩) hg.length b8] 29)
      replace P : Blk (w1.alloc (.cells #[.string nm, .int .i64 bs, .slice A8 H.length a8, .slice (some ⟨bg, 0, none⟩) hg.length b8] 29)) w1.heap.size 29 [.string nm, .int .i64 bs, .slice A8 H.length a8, .slice (some ⟨bg, 0, none⟩) hg.length b8] := P
      replace oS := row_below oS al (Nat.le_refl _)
      replace oG := row_below oG al (Nat.le_refl _)
      replace K := K.below al K.lt
      replace O := O.below al O.lt
      replace hb := hb.trans (al.mono hb.size)
      have kc0 := K.cell (i := 0) rfl
      have kc1 := K.cell (i := 1) rfl
      have kc2 := K.cell (i := 2) rfl
      have kc3 := K.cell (i := 3) rfl
      have pc0 := P.cell (i := 0) rfl
      have pc1 := P.cell (i := 1) rfl
      have pc2 := P.cell (i := 2) rfl
      have pc3 := P.cell (i := 3) rfl
      go_wp2_with (fail)
      clear kc0 kc1 kc2 kc3
      generalize w1.alloc (.cells #[.string nm, .int .i64 bs, .slice A8 H.length a8, .slice (some ⟨bg, 0, none⟩) hg.length b8] 29) = w2 at P K O hb pc0 pc1 pc2 pc3 oS oG ⊢
      refine (EN.out _).mono ?_
      rintro e w3 ⟨rfl, hb3⟩
      replace P := P.below hb3 P.lt
      replace oS := row_below oS hb3 (Nat.le_refl _)
      replace oG := row_below oG hb3 (Nat.le_refl _)
      replace K := K.below hb3 K.lt
      replace O := O.below hb3 O.lt
      replace hb := hb.trans (hb3.mono hb.size)
      obtain ⟨ga0, ga1, gf0, gf1⟩ := row_grp oG hkl
      clear pc0 pc1 pc2 pc3 ga0 gf0
      go_wp2_with (fail)
      refine (IS _).mono ?_
      rintro e w3' ⟨rfl, rfl⟩
      go_wp2_with (fail)
      refine (l07Ill_any 8 _).mono ?_
      rintro e w3 ⟨rfl, hb3⟩
      replace K := K.below hb3 K.lt
      replace O := O.below hb3 O.lt
      replace hb := hb.trans (hb3.mono hb.size)
      have qc0 := O.cell (i := 0) rfl
      have qf0 := O.froz 0
      have qc1 := O.cell (i := 1) rfl
      have qf1 := O.froz 1
      have qc2 := O.cell (i := 2) rfl
      have qf2 := O.froz 2
      have qc3 := O.cell (i := 3) rfl
      have qf3 := O.froz 3
      have qc4 := O.cell (i := 4) rfl
      have qf4 := O.froz 4
      have qc5 := O.cell (i := 5) rfl
      have qf5 := O.froz 5
      have qc6 := O.cell (i := 6) rfl
      have qf6 := O.froz 6
      go_wp2
      clear qc0 qf0 qc1 qf1 qc2 qf2 qc3 qf3 qc4 qf4 qc5 qf5 qc6 qf6
      have O9 := (((((((O.put 0 (.string ⟨#[]⟩)).put 1 (.int .i64 0)).put 2 (.slice none 0 0)).put 3 (.slice none 0 0)).put 4 (.slice none 0 0)).put 5 (.int .i64 0)).put 6 (.int .i64 8))
      have hb9 := (((((((hb.setCell (p := ⟨w.heap.size + 1, 0, none⟩) (by simp <;> omega) (.string ⟨#[]⟩)).setCell (p := ⟨w.heap.size + 1, 1, none⟩) (by simp <;> omega) (.int .i64 0)).setCell (p := ⟨w.heap.size + 1, 2, none⟩) (by simp <;> omega) (.slice none 0 0)).setCell (p := ⟨w.heap.size + 1, 3, none⟩) (by simp <;> omega) (.slice none 0 0)).setCell (p := ⟨w.heap.size + 1, 4, none⟩) (by simp <;> omega) (.slice none 0 0)).setCell (p := ⟨w.heap.size + 1, 5, none⟩) (by simp <;> omega) (.int .i64 0)).setCell (p := ⟨w.heap.size + 1, 6, none⟩) (by simp <;> omega) (.int .i64 8))
      simp only [List.set_cons_succ, List.set_cons_zero] at O9
      generalize ((((((w3.setCell ⟨w.heap.size + 1, 0, none⟩ (.string ⟨#[]⟩)).setCell ⟨w.heap.size + 1, 1, none⟩ (.int .i64 0)).setCell ⟨w.heap.size + 1, 2, none⟩ (.slice none 0 0)).setCell ⟨w.heap.size + 1, 3, none⟩ (.slice none 0 0)).setCell ⟨w.heap.size + 1, 4, none⟩ (.slice none 0 0)).setCell ⟨w.heap.size + 1, 5, none⟩ (.int .i64 0)).setCell ⟨w.heap.size + 1, 6, none⟩ (.int .i64 8) = w9 at O9 hb9  ⊢
      have oc0 := O9.cell (i := 0) rfl
      have oc1 := O9.cell (i := 1) rfl
      have oc2 := O9.cell (i := 2) rfl
      have oc3 := O9.cell (i := 3) rfl
      have oc4 := O9.cell (i := 4) rfl
      have oc5 := O9.cell (i := 5) rfl
      have oc6 := O9.cell (i := 6) rfl
      exact bodyPost_ret (v := .agg #[.string ⟨#[]⟩, .int .i64 0, .slice none 0 0, .slice none 0 0, .slice none 0 0, .int .i64 0, .int .i64 8]) (by simp [results, Try.results53, go_sem, oc0, oc1, oc2, oc3, oc4, oc5, oc6]) rfl (by rw [HR.out]; exact ImO.ill hb9)
    | true =>
      have IS := is3 hI
      have HR : Hid (setT ⟨nm, bs, H, G⟩ gn n true = setA ⟨nm, bs, H, hg⟩ kk n) := Lib.hid (by rw [HX.out, hI]; rfl)
      go_enter Try.func53, Try.ntmps53
      go_wp2_with (fail)
      generalize (w.alloc (.cells #[.string nm, .int .i64 bs, .slice A H.length c, .slice B G.length d] 29)).alloc (.cells #[.string ⟨#[]⟩, .int .i64 0, .slice none 0 0, .slice none 0 0, .slice none 0 0, .int .i64 0, .int .i64 0] 31) = v0 at K O hb ⊢
      have hov := O.lt
      refine (BG.out _ hb).mono ?_
      rintro e w1 ⟨A8, a8, B8, b8, L, k, code, rfl, hcd, hok, hb1⟩
      replace K := K.below hb1 K.lt
      replace O := O.below hb1 O.lt
      replace hb := hb.trans (hb1.mono hb.size)
      obtain rfl : code = 0 := by rw [hcd]; exact hz
      obtain ⟨hL, rfl, oS, oG⟩ := hok rfl
      subst L
      clear hok hcd BG
      obtain ⟨bg, rfl⟩ : ∃ bg, B8 = some ⟨bg, 0, none⟩ := by
        rcases oG.2 with ⟨he, h0⟩ | ⟨g, cap, cur, he, _⟩
        · omega
        · injection he with e1; exact ⟨g, e1⟩
      have nb : w1.heap.size ≠ bg := fun e => by have := (oG.lt bg rfl).2; omega
      obtain ⟨ga0, ga1, gf0, gf1⟩ := row_grp (row_below oG (below_box w1 (.cells #[.string nm, .int .i64 bs, .slice A8 H.length a8, .slice (some ⟨bg, 0, none⟩) hg.length b8] 29)) (Nat.le_refl _)) hkl
      rw [HAK.out] at ga1
      clear ga0 gf0
      have P := Blk.fresh w1 29 [.string nm, .int .i64 bs, .slice A8 H.length a8, .slice (some ⟨bg, 0, none⟩) hg.length b8]
      have al := below_box w1 (.cells #[.string nm, .int .i64 bs, .slice A8 H.length a8, .slice (some ⟨bg, 0, none⟩) hg.length b8] 29)
      replace P : Blk (w1.alloc (.cells #[.string nm, .int .i64 bs, .slice A8 H.length a8, .slice (some ⟨bg, 0, none⟩) hg.length b8] 29)) w1.heap.size 29 [.string nm, .int .i64 bs, .slice A8 H.length a8, .slice (some ⟨bg, 0, none⟩) hg.length b8] := P
      replace oS := row_below oS al (Nat.le_refl _)
      replace oG := row_below oG al (Nat.le_refl _)
      replace K := K.below al K.lt
      replace O := O.below al O.lt
      replace hb := hb.trans (al.mono hb.size)
      have kc0 := K.cell (i := 0) rfl
      have kc1 := K.cell (i := 1) rfl
      have kc2 := K.cell (i := 2) rfl
      have kc3 := K.cell (i := 3) rfl
      have pc0 := P.cell (i := 0) rfl
      have pc1 := P.cell (i := 1) rfl
      have pc2 := P.cell (i := 2) rfl
      have pc3 := P.cell (i := 3) rfl
      go_wp2_with (fail)
      clear kc0 kc1 kc2 kc3
      generalize w1.alloc (.cells #[.string nm, .int .i64 bs, .slice A8 H.length a8, .slice (some ⟨bg, 0, none⟩) hg.length b8] 29) = w2 at P K O hb pc0 pc1 pc2 pc3 oS oG ⊢
      refine (EN.out _).mono ?_
      rintro e w3 ⟨rfl, hb3⟩
      replace P := P.below hb3 P.lt
      replace oS := row_below oS hb3 (Nat.le_refl _)
      replace oG := row_below oG hb3 (Nat.le_refl _)
      replace K := K.below hb3 K.lt
      replace O := O.below hb3 O.lt
      replace hb := hb.trans (hb3.mono hb.size)
      obtain ⟨ga0, ga1, gf0, gf1⟩ := row_grp oG hkl
      clear pc0 pc1 pc2 pc3 ga0 gf0
      go_wp2_with (fail)
      refine (IS _).mono ?_
      rintro e w3' ⟨rfl, rfl⟩
      have nPg : w1.heap.size ≠ bg := nb
      have nOg : w.heap.size + 1 ≠ bg := fun e => by have := (oG.lt bg rfl).1; omega
      have P5 := P.far (p := ⟨bg, kk * 2 + 1, none⟩) nPg (.int .i64 n)
      have O5 := O.far (p := ⟨bg, kk * 2 + 1, none⟩) nOg (.int .i64 n)
      have pc0 := P.cell (i := 0) rfl
      have pc1 := P.cell (i := 1) rfl
      have pc2 := P.cell (i := 2) rfl
      have pc3 := P.cell (i := 3) rfl
      have rc0 := P5.cell (i := 0) rfl
      have rc1 := P5.cell (i := 1) rfl
      have rc2 := P5.cell (i := 2) rfl
      have rc3 := P5.cell (i := 3) rfl
      have qc0 := O5.cell (i := 0) rfl
      have qf0 := O5.froz 0
      have qc1 := O5.cell (i := 1) rfl
      have qf1 := O5.froz 1
      have qc2 := O5.cell (i := 2) rfl
      have qf2 := O5.froz 2
      have qc3 := O5.cell (i := 3) rfl
      have qf3 := O5.froz 3
      have qc4 := O5.cell (i := 4) rfl
      have qf4 := O5.froz 4
      have qc5 := O5.cell (i := 5) rfl
      have qf5 := O5.froz 5
      have qc6 := O5.cell (i := 6) rfl
      have qf6 := O5.froz 6
      go_wp2
      clear qc0 qf0 qc1 qf1 qc2 qf2 qc3 qf3 qc4 qf4 qc5 qf5 qc6 qf6
      clear rc0 rc1 rc2 rc3
      clear pc0 pc1 pc2 pc3
      have hbl : w.heap.size ≤ bg := by have := (oG.lt bg rfl).1; omega
      have oS5 : OwnS (w3'.setCell ⟨bg, kk * 2 + 1, none⟩ (.int .i64 n)) v0.heap.size (.slice A8 H.length a8) H := row_off oS (p := ⟨bg, kk * 2 + 1, none⟩) (by
        rcases own_apart oS oG (by decide) with h | h
        · rw [h]; exact fun e => by cases e
        · exact h) _
      have oG5 := (World.ownsRow.stored oG (kk * 2 + 1) (.int .i64 n)).1
      rw [gflat_set1 hg hkl n] at oG5
      have hb5 := hb.setCell (p := ⟨bg, kk * 2 + 1, none⟩) hbl (.int .i64 n)
      clear O hb P P5 oS oG K
      generalize w3'.setCell ⟨bg, kk * 2 + 1, none⟩ (.int .i64 n) = w5 at O5 hb5 oS5 oG5 ⊢
      have O := O5
      have hb := hb5
      have O9 := (((((((O.put 0 (.string nm)).put 1 (.int .i64 bs)).put 2 (.slice A8 H.length a8)).put 3 (.slice (some ⟨bg, 0, none⟩) hg.length b8)).put 4 (.slice none 0 0)).put 5 (.int .i64 0)).put 6 (.int .i64 0))
      have hb9 := (((((((hb.setCell (p := ⟨w.heap.size + 1, 0, none⟩) (by simp <;> omega) (.string nm)).setCell (p := ⟨w.heap.size + 1, 1, none⟩) (by simp <;> omega) (.int .i64 bs)).setCell (p := ⟨w.heap.size + 1, 2, none⟩) (by simp <;> omega) (.slice A8 H.length a8)).setCell (p := ⟨w.heap.size + 1, 3, none⟩) (by simp <;> omega) (.slice (some ⟨bg, 0, none⟩) hg.length b8)).setCell (p := ⟨w.heap.size + 1, 4, none⟩) (by simp <;> omega) (.slice none 0 0)).setCell (p := ⟨w.heap.size + 1, 5, none⟩) (by simp <;> omega) (.int .i64 0)).setCell (p := ⟨w.heap.size + 1, 6, none⟩) (by simp <;> omega) (.int .i64 0))
      have oS59 := (row_far (row_far (row_far (row_far (row_far (row_far (row_far oS5 (p := ⟨w.heap.size + 1, 0, none⟩) (by simp <;> omega) (.string nm)) (p := ⟨w.heap.size + 1, 1, none⟩) (by simp <;> omega) (.int .i64 bs)) (p := ⟨w.heap.size + 1, 2, none⟩) (by simp <;> omega) (.slice A8 H.length a8)) (p := ⟨w.heap.size + 1, 3, none⟩) (by simp <;> omega) (.slice (some ⟨bg, 0, none⟩) hg.length b8)) (p := ⟨w.heap.size + 1, 4, none⟩) (by simp <;> omega) (.slice none 0 0)) (p := ⟨w.heap.size + 1, 5, none⟩) (by simp <;> omega) (.int .i64 0)) (p := ⟨w.heap.size + 1, 6, none⟩) (by simp <;> omega) (.int .i64 0))
      have oG59 := (row_far (row_far (row_far (row_far (row_far (row_far (row_far oG5 (p := ⟨w.heap.size + 1, 0, none⟩) (by simp <;> omega) (.string nm)) (p := ⟨w.heap.size + 1, 1, none⟩) (by simp <;> omega) (.int .i64 bs)) (p := ⟨w.heap.size + 1, 2, none⟩) (by simp <;> omega) (.slice A8 H.length a8)) (p := ⟨w.heap.size + 1, 3, none⟩) (by simp <;> omega) (.slice (some ⟨bg, 0, none⟩) hg.length b8)) (p := ⟨w.heap.size + 1, 4, none⟩) (by simp <;> omega) (.slice none 0 0)) (p := ⟨w.heap.size + 1, 5, none⟩) (by simp <;> omega) (.int .i64 0)) (p := ⟨w.heap.size + 1, 6, none⟩) (by simp <;> omega) (.int .i64 0))
      simp only [List.set_cons_succ, List.set_cons_zero] at O9
      generalize ((((((w5.setCell ⟨w.heap.size + 1, 0, none⟩ (.string nm)).setCell ⟨w.heap.size + 1, 1, none⟩ (.int .i64 bs)).setCell ⟨w.heap.size + 1, 2, none⟩ (.slice A8 H.length a8)).setCell ⟨w.heap.size + 1, 3, none⟩ (.slice (some ⟨bg, 0, none⟩) hg.length b8)).setCell ⟨w.heap.size + 1, 4, none⟩ (.slice none 0 0)).setCell ⟨w.heap.size + 1, 5, none⟩ (.int .i64 0)).setCell ⟨w.heap.size + 1, 6, none⟩ (.int .i64 0) = w9 at O9 hb9 oS59 oG59 ⊢
      have oc0 := O9.cell (i := 0) rfl
      have oc1 := O9.cell (i := 1) rfl
      have oc2 := O9.cell (i := 2) rfl
      have oc3 := O9.cell (i := 3) rfl
      have oc4 := O9.cell (i := 4) rfl
      have oc5 := O9.cell (i := 5) rfl
      have oc6 := O9.cell (i := 6) rfl
      exact bodyPost_ret (v := .agg #[.string nm, .int .i64 bs, .slice A8 H.length a8, .slice (some ⟨bg, 0, none⟩) hg.length b8, .slice none 0 0, .int .i64 0, .int .i64 0]) (by simp [results, Try.results53, go_sem, oc0, oc1, oc2, oc3, oc4, oc5, oc6]) rfl (set_end HR.out hkl (by omega) oS59 oG59 hb9)
  | false =>
    have HX : Hid (setT ⟨nm, bs, H, G⟩ gn n false = moveA ⟨nm, bs, H, hg⟩ kk n (inB n ak (bs + (H.length : Int)))) := Lib.hid (by
      rw [setT_ok HZ.out]
      simp only [HHG.out, HKK.out, HGD.out]
      rfl)
    cases hI : inB n ak (bs + (H.length : Int)) with
    | false =>
      have IS := is3 hI
      have HR : Hid (setT ⟨nm, bs, H, G⟩ gn n false = ill 8) := Lib.hid (by rw [HX.out, hI]; rfl)
      go_enter Try.func53, Try.ntmps53
      go_wp2_with (fail)
      generalize (w.alloc (.cells #[.string nm, .int .i64 bs, .slice A H.length c, .slice B G.length d] 29)).alloc (.cells #[.string ⟨#[]⟩, .int .i64 0, .slice none 0 0, .slice none 0 0, .slice none 0 0, .int .i64 0, .int .i64 0] 31) = v0 at K O hb ⊢
      have hov := O.lt
      refine (BG.out _ hb).mono ?_
      rintro e w1 ⟨A8, a8, B8, b8, L, k, code, rfl, hcd, hok, hb1⟩
      replace K := K.below hb1 K.lt
      replace O := O.below hb1 O.lt
      replace hb := hb.trans (hb1.mono hb.size)
      obtain rfl : code = 0 := by rw [hcd]; exact hz
      obtain ⟨hL, rfl, oS, oG⟩ := hok rfl
      subst L
      clear hok hcd BG
      obtain ⟨bg, rfl⟩ : ∃ bg, B8 = some ⟨bg, 0, none⟩ := by
        rcases oG.2 with ⟨he, h0⟩ | ⟨g, cap, cur, he, _⟩
        · omega
        · injection he with e1; exact ⟨g, e1⟩
      have nb : w1.heap.size ≠ bg := fun e => by have := (oG.lt bg rfl).2; omega
      obtain ⟨ga0, ga1, gf0, gf1⟩ := row_grp (row_below oG (below_box w1 (.cells #[.string nm, .int .i64 bs, .slice A8 H.length a8, .slice (some ⟨bg, 0, none⟩) hg.length b8] 29)) (Nat.le_refl _)) hkl
      rw [HAK.out] at ga1
      clear ga0 gf0
      have P := Blk.fresh w1 29 [.string nm, .int .i64 bs, .slice A8 H.length a8, .slice (some ⟨bg, 0, none⟩) hg.length b8]
      have al := below_box w1 (.cells #[.string nm, .int .i64 bs, .slice A8 H.length a8, .slice (some ⟨bg, 0, none⟩) hg.length b8] 29)
      replace P : Blk (w1.alloc (.cells #[.string nm, .int .i64 bs, .slice A8 H.length a8, .slice (some ⟨bg, 0, none⟩) hg.length b8] 29)) w1.heap.size 29 [.string nm, .int .i64 bs, .slice A8 H.length a8, .slice (some ⟨bg, 0, none⟩) hg.length b8] := P
      replace oS := row_below oS al (Nat.le_refl _)
      replace oG := row_below oG al (Nat.le_refl _)
      replace K := K.below al K.lt
      replace O := O.below al O.lt
      replace hb := hb.trans (al.mono hb.size)
      have kc0 := K.cell (i := 0) rfl
      have kc1 := K.cell (i := 1) rfl
      have kc2 := K.cell (i := 2) rfl
      have kc3 := K.cell (i := 3) rfl
      have pc0 := P.cell (i := 0) rfl
      have pc1 := P.cell (i := 1) rfl
      have pc2 := P.cell (i := 2) rfl
      have pc3 := P.cell (i := 3) rfl
      go_wp2_with (fail)
      clear kc0 kc1 kc2 kc3
      generalize w1.alloc (.cells #[.string nm, .int .i64 bs, .slice A8 H.length a8, .slice (some ⟨bg, 0, none⟩) hg.length b8] 29) = w2 at P K O hb pc0 pc1 pc2 pc3 oS oG ⊢
      refine (EN.out _).mono ?_
      rintro e w3 ⟨rfl, hb3⟩
      replace P := P.below hb3 P.lt
      replace oS := row_below oS hb3 (Nat.le_refl _)
      replace oG := row_below oG hb3 (Nat.le_refl _)
      replace K := K.below hb3 K.lt
      replace O := O.below hb3 O.lt
      replace hb := hb.trans (hb3.mono hb.size)
      obtain ⟨ga0, ga1, gf0, gf1⟩ := row_grp oG hkl
      clear pc0 pc1 pc2 pc3 ga0 gf0
      go_wp2_with (fail)
      refine (IS _).mono ?_
      rintro e w3' ⟨rfl, rfl⟩
      go_wp2_with (fail)
      refine (l07Ill_any 8 _).mono ?_
      rintro e w3 ⟨rfl, hb3⟩
      replace K := K.below hb3 K.lt
      replace O := O.below hb3 O.lt
      replace hb := hb.trans (hb3.mono hb.size)
      have qc0 := O.cell (i := 0) rfl
      have qf0 := O.froz 0
      have qc1 := O.cell (i := 1) rfl
      have qf1 := O.froz 1
      have qc2 := O.cell (i := 2) rfl
      have qf2 := O.froz 2
      have qc3 := O.cell (i := 3) rfl
      have qf3 := O.froz 3
      have qc4 := O.cell (i := 4) rfl
      have qf4 := O.froz 4
      have qc5 := O.cell (i := 5) rfl
      have qf5 := O.froz 5
      have qc6 := O.cell (i := 6) rfl
      have qf6 := O.froz 6
      go_wp2
      clear qc0 qf0 qc1 qf1 qc2 qf2 qc3 qf3 qc4 qf4 qc5 qf5 qc6 qf6
      have O9 := (((((((O.put 0 (.string ⟨#[]⟩)).put 1 (.int .i64 0)).put 2 (.slice none 0 0)).put 3 (.slice none 0 0)).put 4 (.slice none 0 0)).put 5 (.int .i64 0)).put 6 (.int .i64 8))
      have hb9 := (((((((hb.setCell (p := ⟨w.heap.size + 1, 0, none⟩) (by simp <;> omega) (.string ⟨#[]⟩)).setCell (p := ⟨w.heap.size + 1, 1, none⟩) (by simp <;> omega) (.int .i64 0)).setCell (p := ⟨w.heap.size + 1, 2, none⟩) (by simp <;> omega) (.slice none 0 0)).setCell (p := ⟨w.heap.size + 1, 3, none⟩) (by simp <;> omega) (.slice none 0 0)).setCell (p := ⟨w.heap.size + 1, 4, none⟩) (by simp <;> omega) (.slice none 0 0)).setCell (p := ⟨w.heap.size + 1, 5, none⟩) (by simp <;> omega) (.int .i64 0)).setCell (p := ⟨w.heap.size + 1, 6, none⟩) (by simp <;> omega) (.int .i64 8))
      simp only [List.set_cons_succ, List.set_cons_zero] at O9
      generalize ((((((w3.setCell ⟨w.heap.size + 1, 0, none⟩ (.string ⟨#[]⟩)).setCell ⟨w.heap.size + 1, 1, none⟩ (.int .i64 0)).setCell ⟨w.heap.size + 1, 2, none⟩ (.slice none 0 0)).setCell ⟨w.heap.size + 1, 3, none⟩ (.slice none 0 0)).setCell ⟨w.heap.size + 1, 4, none⟩ (.slice none 0 0)).setCell ⟨w.heap.size + 1, 5, none⟩ (.int .i64 0)).setCell ⟨w.heap.size + 1, 6, none⟩ (.int .i64 8) = w9 at O9 hb9  ⊢
      have oc0 := O9.cell (i := 0) rfl
      have oc1 := O9.cell (i := 1) rfl
      have oc2 := O9.cell (i := 2) rfl
      have oc3 := O9.cell (i := 3) rfl
      have oc4 := O9.cell (i := 4) rfl
      have oc5 := O9.cell (i := 5) rfl
      have oc6 := O9.cell (i := 6) rfl
      exact bodyPost_ret (v := .agg #[.string ⟨#[]⟩, .int .i64 0, .slice none 0 0, .slice none 0 0, .slice none 0 0, .int .i64 0, .int .i64 8]) (by simp [results, Try.results53, go_sem, oc0, oc1, oc2, oc3, oc4, oc5, oc6]) rfl (by rw [HR.out]; exact ImO.ill hb9)
    | true =>
      have IS := is3 hI
      have HR : Hid (setT ⟨nm, bs, H, G⟩ gn n false = setA ⟨nm, bs, H, hg⟩ kk n) := Lib.hid (by rw [HX.out, hI]; rfl)
      go_enter Try.func53, Try.ntmps53
      go_wp2_with (fail)
      generalize (w.alloc (.cells #[.string nm, .int .i64 bs, .slice A H.length c, .slice B G.length d] 29)).alloc (.cells #[.string ⟨#[]⟩, .int .i64 0, .slice none 0 0, .slice none 0 0, .slice none 0 0, .int .i64 0, .int .i64 0] 31) = v0 at K O hb ⊢
      have hov := O.lt
      refine (BG.out _ hb).mono ?_
      rintro e w1 ⟨A8, a8, B8, b8, L, k, code, rfl, hcd, hok, hb1⟩
      replace K := K.below hb1 K.lt
      replace O := O.below hb1 O.lt
      replace hb := hb.trans (hb1.mono hb.size)
      obtain rfl : code = 0 := by rw [hcd]; exact hz
      obtain ⟨hL, rfl, oS, oG⟩ := hok rfl
      subst L
      clear hok hcd BG
      obtain ⟨bg, rfl⟩ : ∃ bg, B8 = some ⟨bg, 0, none⟩ := by
        rcases oG.2 with ⟨he, h0⟩ | ⟨g, cap, cur, he, _⟩
        · omega
        · injection he with e1; exact ⟨g, e1⟩
      have nb : w1.heap.size ≠ bg := fun e => by have := (oG.lt bg rfl).2; omega
      obtain ⟨ga0, ga1, gf0, gf1⟩ := row_grp (row_below oG (below_box w1 (.cells #[.string nm, .int .i64 bs, .slice A8 H.length a8, .slice (some ⟨bg, 0, none⟩) hg.length b8] 29)) (Nat.le_refl _)) hkl
      rw [HAK.out] at ga1
      clear ga0 gf0
      have P := Blk.fresh w1 29 [.string nm, .int .i64 bs, .slice A8 H.length a8, .slice (some ⟨bg, 0, none⟩) hg.length b8]
      have al := below_box w1 (.cells #[.string nm, .int .i64 bs, .slice A8 H.length a8, .slice (some ⟨bg, 0, none⟩) hg.length b8] 29)
      replace P : Blk (w1.alloc (.cells #[.string nm, .int .i64 bs, .slice A8 H.length a8, .slice (some ⟨bg, 0, none⟩) hg.length b8] 29)) w1.heap.size 29 [.string nm, .int .i64 bs, .slice A8 H.length a8, .slice (some ⟨bg, 0, none⟩) hg.length b8] := P
      replace oS := row_below oS al (Nat.le_refl _)
      replace oG := row_below oG al (Nat.le_refl _)
      replace K := K.below al K.lt
      replace O := O.below al O.lt
      replace hb := hb.trans (al.mono hb.size)
      have kc0 := K.cell (i := 0) rfl
      have kc1 := K.cell (i := 1) rfl
      have kc2 := K.cell (i := 2) rfl
      have kc3 := K.cell (i := 3) rfl
      have pc0 := P.cell (i := 0) rfl
      have pc1 := P.cell (i := 1) rfl
      have pc2 := P.cell (i := 2) rfl
      have pc3 := P.cell (i := 3) rfl
      go_wp2_with (fail)
      clear kc0 kc1 kc2 kc3
      generalize w1.alloc (.cells #[.string nm, .int .i64 bs, .slice A8 H.length a8, .slice (some ⟨bg, 0, none⟩) hg.length b8] 29) = w2 at P K O hb pc0 pc1 pc2 pc3 oS oG ⊢
      refine (EN.out _).mono ?_
      rintro e w3 ⟨rfl, hb3⟩
      replace P := P.below hb3 P.lt
      replace oS := row_below oS hb3 (Nat.le_refl _)
      replace oG := row_below oG hb3 (Nat.le_refl _)
      replace K := K.below hb3 K.lt
      replace O := O.below hb3 O.lt
      replace hb := hb.trans (hb3.mono hb.size)
      obtain ⟨ga0, ga1, gf0, gf1⟩ := row_grp oG hkl
      clear pc0 pc1 pc2 pc3 ga0 gf0
      go_wp2_with (fail)
      refine (IS _).mono ?_
      rintro e w3' ⟨rfl, rfl⟩
      have nPg : w1.heap.size ≠ bg := nb
      have nOg : w.heap.size + 1 ≠ bg := fun e => by have := (oG.lt bg rfl).1; omega
      have P5 := P.far (p := ⟨bg, kk * 2 + 1, none⟩) nPg (.int .i64 n)
      have O5 := O.far (p := ⟨bg, kk * 2 + 1, none⟩) nOg (.int .i64 n)
      have pc0 := P.cell (i := 0) rfl
      have pc1 := P.cell (i := 1) rfl
      have pc2 := P.cell (i := 2) rfl
      have pc3 := P.cell (i := 3) rfl
      have rc0 := P5.cell (i := 0) rfl
      have rc1 := P5.cell (i := 1) rfl
      have rc2 := P5.cell (i := 2) rfl
      have rc3 := P5.cell (i := 3) rfl
      have qc0 := O5.cell (i := 0) rfl
      have qf0 := O5.froz 0
      have qc1 := O5.cell (i := 1) rfl
      have qf1 := O5.froz 1
      have qc2 := O5.cell (i := 2) rfl
      have qf2 := O5.froz 2
      have qc3 := O5.cell (i := 3) rfl
      have qf3 := O5.froz 3
      have qc4 := O5.cell (i := 4) rfl
      have qf4 := O5.froz 4
      have qc5 := O5.cell (i := 5) rfl
      have qf5 := O5.froz 5
      have qc6 := O5.cell (i := 6) rfl
      have qf6 := O5.froz 6
      go_wp2
      clear qc0 qf0 qc1 qf1 qc2 qf2 qc3 qf3 qc4 qf4 qc5 qf5 qc6 qf6
      clear rc0 rc1 rc2 rc3
      clear pc0 pc1 pc2 pc3
      have hbl : w.heap.size ≤ bg := by have := (oG.lt bg rfl).1; omega
      have oS5 : OwnS (w3'.setCell ⟨bg, kk * 2 + 1, none⟩ (.int .i64 n)) v0.heap.size (.slice A8 H.length a8) H := row_off oS (p := ⟨bg, kk * 2 + 1, none⟩) (by
        rcases own_apart oS oG (by decide) with h | h
        · rw [h]; exact fun e => by cases e
        · exact h) _
      have oG5 := (World.ownsRow.stored oG (kk * 2 + 1) (.int .i64 n)).1
      rw [gflat_set1 hg hkl n] at oG5
      have hb5 := hb.setCell (p := ⟨bg, kk * 2 + 1, none⟩) hbl (.int .i64 n)
      clear O hb P P5 oS oG K
      generalize w3'.setCell ⟨bg, kk * 2 + 1, none⟩ (.int .i64 n) = w5 at O5 hb5 oS5 oG5 ⊢
      have O := O5
      have hb := hb5
      have O9 := (((((((O.put 0 (.string nm)).put 1 (.int .i64 bs)).put 2 (.slice A8 H.length a8)).put 3 (.slice (some ⟨bg, 0, none⟩) hg.length b8)).put 4 (.slice none 0 0)).put 5 (.int .i64 0)).put 6 (.int .i64 0))
      have hb9 := (((((((hb.setCell (p := ⟨w.heap.size + 1, 0, none⟩) (by simp <;> omega) (.string nm)).setCell (p := ⟨w.heap.size + 1, 1, none⟩) (by simp <;> omega) (.int .i64 bs)).setCell (p := ⟨w.heap.size + 1, 2, none⟩) (by simp <;> omega) (.slice A8 H.length a8)).setCell (p := ⟨w.heap.size + 1, 3, none⟩) (by simp <;> omega) (.slice (some ⟨bg, 0, none⟩) hg.length b8)).setCell (p := ⟨w.heap.size + 1, 4, none⟩) (by simp <;> omega) (.slice none 0 0)).setCell (p := ⟨w.heap.size + 1, 5, none⟩) (by simp <;> omega) (.int .i64 0)).setCell (p := ⟨w.heap.size + 1, 6, none⟩) (by simp <;> omega) (.int .i64 0))
      have oS59 := (row_far (row_far (row_far (row_far (row_far (row_far (row_far oS5 (p := ⟨w.heap.size + 1, 0, none⟩) (by simp <;> omega) (.string nm)) (p := ⟨w.heap.size + 1, 1, none⟩) (by simp <;> omega) (.int .i64 bs)) (p := ⟨w.heap.size + 1, 2, none⟩) (by simp <;> omega) (.slice A8 H.length a8)) (p := ⟨w.heap.size + 1, 3, none⟩) (by simp <;> omega) (.slice (some ⟨bg, 0, none⟩) hg.length b8)) (p := ⟨w.heap.size + 1, 4, none⟩) (by simp <;> omega) (.slice none 0 0)) (p := ⟨w.heap.size + 1, 5, none⟩) (by simp <;> omega) (.int .i64 0)) (p := ⟨w.heap.size + 1, 6, none⟩) (by simp <;> omega) (.int .i64 0))
      have oG59 := (row_far (row_far (row_far (row_far (row_far (row_far (row_far oG5 (p := ⟨w.heap.size + 1, 0, none⟩) (by simp <;> omega) (.string nm)) (p := ⟨w.heap.size + 1, 1, none⟩) (by simp <;> omega) (.int .i64 bs)) (p := ⟨w.heap.size + 1, 2, none⟩) (by simp <;> omega) (.slice A8 H.length a8)) (p := ⟨w.heap.size + 1, 3, none⟩) (by simp <;> omega) (.slice (some ⟨bg, 0, none⟩) hg.length b8)) (p := ⟨w.heap.size + 1, 4, none⟩) (by simp <;> omega) (.slice none 0 0)) (p := ⟨w.heap.size + 1, 5, none⟩) (by simp <;> omega) (.int .i64 0)) (p := ⟨w.heap.size + 1, 6, none⟩) (by simp <;> omega) (.int .i64 0))
      simp only [List.set_cons_succ, List.set_cons_zero] at O9
      generalize ((((((w5.setCell ⟨w.heap.size + 1, 0, none⟩ (.string nm)).setCell ⟨w.heap.size + 1, 1, none⟩ (.int .i64 bs)).setCell ⟨w.heap.size + 1, 2, none⟩ (.slice A8 H.length a8)).setCell ⟨w.heap.size + 1, 3, none⟩ (.slice (some ⟨bg, 0, none⟩) hg.length b8)).setCell ⟨w.heap.size + 1, 4, none⟩ (.slice none 0 0)).setCell ⟨w.heap.size + 1, 5, none⟩ (.int .i64 0)).setCell ⟨w.heap.size + 1, 6, none⟩ (.int .i64 0) = w9 at O9 hb9 oS59 oG59 ⊢
      have oc0 := O9.cell (i := 0) rfl
      have oc1 := O9.cell (i := 1) rfl
      have oc2 := O9.cell (i := 2) rfl
      have oc3 := O9.cell (i := 3) rfl
      have oc4 := O9.cell (i := 4) rfl
      have oc5 := O9.cell (i := 5) rfl
      have oc6 := O9.cell (i := 6) rfl
      exact bodyPost_ret (v := .agg #[.string nm, .int .i64 bs, .slice A8 H.length a8, .slice (some ⟨bg, 0, none⟩) hg.length b8, .slice none 0 0, .int .i64 0, .int .i64 0]) (by simp [results, Try.results53, go_sem, oc0, oc1, oc2, oc3, oc4, oc5, oc6]) rfl (set_end HR.out hkl (by omega) oS59 oG59 hb9)
end Go.Proofs.Ytkimieeabmjfgaa

namespace Go.Proofs.Ytkimieeabmjfgaa
open Go.RowKit
set_option linter.unusedVariables false
set_option maxRecDepth 1000000
theorem set_small (t : Tpc) (gn : ByteArray) (n : Int) (back : Bool) : (setT t gn n back).o.held.length ≤ maxLen ∧ (setT t gn n back).o.groups.length ≤ maxLen ∧ (setT t gn n back).texts.length ≤ maxLen ∧ 1 + (setT t gn n back).o.held.length + 2 * (setT t gn n back).o.groups.length + (setT t gn n back).texts.length ≤ 3900001 := by
  by_cases h : begC t gn true = 0
  · have ho := beg_top h
    have h1 := ho.2.2.1
    have h2 := ho.2.2.2.2.1
    have h3 := hasG_len t gn
    rw [setT_ok h]
    generalize inB n _ _ = r
    unfold moveA
    cases r with
    | true => simp [setA, maxLen]; omega
    | false => simp [ill, maxLen]
  · rw [setT_ill h]
    simp [ill, maxLen]
set_option maxHeartbeats 8000000 in
theorem specTopicAck_any (t : Tpc) (gn : ByteArray) (n : Int) (A : Option Addr) (c : Nat) (B : Option Addr) (d : Nat) (w : World) (hf : t.fits) (hs : gn.size ≤ maxLen) (hA : Strs w w.heap.size A t.held) (hB : Grs w w.heap.size B t.groups) (hc : Cap A t.held.length c) (hd : Cap B t.groups.length d) :
    Calls Try.prog 19 #[topV t.name t.base (.slice A t.held.length c) (.slice B t.groups.length d), .string gn, .int .i64 n] w fun e w' => SpO w w' e (setT t gn n false) := by
  have LS := Lib.hid (fun W (h : Below w.heap.size w W) => l07Set_any t gn n false A c B d W hf hs (hA.on h) (hB.on h) hc hd)
  obtain ⟨z1, z2, z3, z4⟩ := set_small t gn n false
  refine Calls.mono (R := fun e w' => ImO w w' e (setT t gn n false)) ?_ (fun e w' h => ImO.sp h z1 z2 z3)
  clear z1 z2 z3 z4
  generalize setT t gn n false = R at LS ⊢
  obtain ⟨nm, bs, H, G⟩ := t
  simp only at hA hB hc hd LS ⊢
  have K := (Blk.fresh w 29 [.string nm, .int .i64 bs, .slice A H.length c, .slice B G.length d]).alloc (.cells #[.string ⟨#[]⟩, .int .i64 0, .slice none 0 0, .slice none 0 0, .slice none 0 0, .int .i64 0, .int .i64 0] 31)
  have O := Blk.fresh (w.alloc (.cells #[.string nm, .int .i64 bs, .slice A H.length c, .slice B G.length d] 29)) 31 [.string ⟨#[]⟩, .int .i64 0, .slice none 0 0, .slice none 0 0, .slice none 0 0, .int .i64 0, .int .i64 0]
  have hb : Below w.heap.size w ((w.alloc (.cells #[.string nm, .int .i64 bs, .slice A H.length c, .slice B G.length d] 29)).alloc (.cells #[.string ⟨#[]⟩, .int .i64 0, .slice none 0 0, .slice none 0 0, .slice none 0 0, .int .i64 0, .int .i64 0] 31)) := ((Below.refl _ _).alloc (Nat.le_refl _) _).alloc (by simp) _
  simp only [World.size_alloc] at K O
  replace K : Blk ((w.alloc (.cells #[.string nm, .int .i64 bs, .slice A H.length c, .slice B G.length d] 29)).alloc (.cells #[.string ⟨#[]⟩, .int .i64 0, .slice none 0 0, .slice none 0 0, .slice none 0 0, .int .i64 0, .int .i64 0] 31)) w.heap.size 29 [.string nm, .int .i64 bs, .slice A H.length c, .slice B G.length d] := K
  replace O : Blk ((w.alloc (.cells #[.string nm, .int .i64 bs, .slice A H.length c, .slice B G.length d] 29)).alloc (.cells #[.string ⟨#[]⟩, .int .i64 0, .slice none 0 0, .slice none 0 0, .slice none 0 0, .int .i64 0, .int .i64 0] 31)) (w.heap.size + 1) 31 [.string ⟨#[]⟩, .int .i64 0, .slice none 0 0, .slice none 0 0, .slice none 0 0, .int .i64 0, .int .i64 0] := O
  have kc0 := K.cell (i := 0) rfl
  have kc1 := K.cell (i := 1) rfl
  have kc2 := K.cell (i := 2) rfl
  have kc3 := K.cell (i := 3) rfl
  go_enter Try.func19, Try.ntmps19
  go_wp2_with (fail)
  clear kc0 kc1 kc2 kc3
  generalize (w.alloc (.cells #[.string nm, .int .i64 bs, .slice A H.length c, .slice B G.length d] 29)).alloc (.cells #[.string ⟨#[]⟩, .int .i64 0, .slice none 0 0, .slice none 0 0, .slice none 0 0, .int .i64 0, .int .i64 0] 31) = v0 at K O hb ⊢
  obtain ⟨⟨on, ob, oH, oG⟩, N, rn, co⟩ := R
  have ho0 := O.lt
  refine (LS.out _ hb).mono ?_
  rintro e w1 ⟨A1, a1, B1, b1, T1, x1, rfl, sA, sB, sT, hap, cA, cB, hb1⟩
  simp only at sA sB sT cA cB
  replace O := O.below hb1 O.lt
  have hv0 := hb.size
  replace hb := hb.trans (hb1.mono hb.size)
  replace sA := sA.wide hv0 (Nat.le_refl _)
  replace sB := sB.wide hv0 (Nat.le_refl _)
  replace sT := sT.wide hv0 (Nat.le_refl _)
  have qc0 := O.cell (i := 0) rfl
  have qf0 := O.froz 0
  have qc1 := O.cell (i := 1) rfl
  have qf1 := O.froz 1
  have qc2 := O.cell (i := 2) rfl
  have qf2 := O.froz 2
  have qc3 := O.cell (i := 3) rfl
  have qf3 := O.froz 3
  have qc4 := O.cell (i := 4) rfl
  have qf4 := O.froz 4
  have qc5 := O.cell (i := 5) rfl
  have qf5 := O.froz 5
  have qc6 := O.cell (i := 6) rfl
  have qf6 := O.froz 6
  go_wp2
  clear qc0 qf0 qc1 qf1 qc2 qf2 qc3 qf3 qc4 qf4 qc5 qf5 qc6 qf6
  have hsz : (((((((w1.setCell ⟨w.heap.size + 1, 0, none⟩ (.string on)).setCell ⟨w.heap.size + 1, 1, none⟩ (.int .i64 ob)).setCell ⟨w.heap.size + 1, 2, none⟩ (.slice A1 oH.length a1)).setCell ⟨w.heap.size + 1, 3, none⟩ (.slice B1 oG.length b1)).setCell ⟨w.heap.size + 1, 4, none⟩ (.slice T1 N.length x1)).setCell ⟨w.heap.size + 1, 5, none⟩ (.int .i64 rn)).setCell ⟨w.heap.size + 1, 6, none⟩ (.int .i64 co)).heap.size = w1.heap.size := by simp [World.setCell]
  have rA := (((((((sA.off O (by decide) 0 (.string on)).off (O.put 0 (.string on)) (by decide) 1 (.int .i64 ob)).off ((O.put 0 (.string on)).put 1 (.int .i64 ob)) (by decide) 2 (.slice A1 oH.length a1)).off (((O.put 0 (.string on)).put 1 (.int .i64 ob)).put 2 (.slice A1 oH.length a1)) (by decide) 3 (.slice B1 oG.length b1)).off ((((O.put 0 (.string on)).put 1 (.int .i64 ob)).put 2 (.slice A1 oH.length a1)).put 3 (.slice B1 oG.length b1)) (by decide) 4 (.slice T1 N.length x1)).off (((((O.put 0 (.string on)).put 1 (.int .i64 ob)).put 2 (.slice A1 oH.length a1)).put 3 (.slice B1 oG.length b1)).put 4 (.slice T1 N.length x1)) (by decide) 5 (.int .i64 rn)).off ((((((O.put 0 (.string on)).put 1 (.int .i64 ob)).put 2 (.slice A1 oH.length a1)).put 3 (.slice B1 oG.length b1)).put 4 (.slice T1 N.length x1)).put 5 (.int .i64 rn)) (by decide) 6 (.int .i64 co))
  have rB := (((((((sB.off O (by decide) 0 (.string on)).off (O.put 0 (.string on)) (by decide) 1 (.int .i64 ob)).off ((O.put 0 (.string on)).put 1 (.int .i64 ob)) (by decide) 2 (.slice A1 oH.length a1)).off (((O.put 0 (.string on)).put 1 (.int .i64 ob)).put 2 (.slice A1 oH.length a1)) (by decide) 3 (.slice B1 oG.length b1)).off ((((O.put 0 (.string on)).put 1 (.int .i64 ob)).put 2 (.slice A1 oH.length a1)).put 3 (.slice B1 oG.length b1)) (by decide) 4 (.slice T1 N.length x1)).off (((((O.put 0 (.string on)).put 1 (.int .i64 ob)).put 2 (.slice A1 oH.length a1)).put 3 (.slice B1 oG.length b1)).put 4 (.slice T1 N.length x1)) (by decide) 5 (.int .i64 rn)).off ((((((O.put 0 (.string on)).put 1 (.int .i64 ob)).put 2 (.slice A1 oH.length a1)).put 3 (.slice B1 oG.length b1)).put 4 (.slice T1 N.length x1)).put 5 (.int .i64 rn)) (by decide) 6 (.int .i64 co))
  have rT := (((((((sT.off O (by decide) 0 (.string on)).off (O.put 0 (.string on)) (by decide) 1 (.int .i64 ob)).off ((O.put 0 (.string on)).put 1 (.int .i64 ob)) (by decide) 2 (.slice A1 oH.length a1)).off (((O.put 0 (.string on)).put 1 (.int .i64 ob)).put 2 (.slice A1 oH.length a1)) (by decide) 3 (.slice B1 oG.length b1)).off ((((O.put 0 (.string on)).put 1 (.int .i64 ob)).put 2 (.slice A1 oH.length a1)).put 3 (.slice B1 oG.length b1)) (by decide) 4 (.slice T1 N.length x1)).off (((((O.put 0 (.string on)).put 1 (.int .i64 ob)).put 2 (.slice A1 oH.length a1)).put 3 (.slice B1 oG.length b1)).put 4 (.slice T1 N.length x1)) (by decide) 5 (.int .i64 rn)).off ((((((O.put 0 (.string on)).put 1 (.int .i64 ob)).put 2 (.slice A1 oH.length a1)).put 3 (.slice B1 oG.length b1)).put 4 (.slice T1 N.length x1)).put 5 (.int .i64 rn)) (by decide) 6 (.int .i64 co))
  have O9 := (((((((O.put 0 (.string on)).put 1 (.int .i64 ob)).put 2 (.slice A1 oH.length a1)).put 3 (.slice B1 oG.length b1)).put 4 (.slice T1 N.length x1)).put 5 (.int .i64 rn)).put 6 (.int .i64 co))
  have hb9 := (((((((hb.setCell (p := ⟨w.heap.size + 1, 0, none⟩) (by simp <;> omega) (.string on)).setCell (p := ⟨w.heap.size + 1, 1, none⟩) (by simp <;> omega) (.int .i64 ob)).setCell (p := ⟨w.heap.size + 1, 2, none⟩) (by simp <;> omega) (.slice A1 oH.length a1)).setCell (p := ⟨w.heap.size + 1, 3, none⟩) (by simp <;> omega) (.slice B1 oG.length b1)).setCell (p := ⟨w.heap.size + 1, 4, none⟩) (by simp <;> omega) (.slice T1 N.length x1)).setCell (p := ⟨w.heap.size + 1, 5, none⟩) (by simp <;> omega) (.int .i64 rn)).setCell (p := ⟨w.heap.size + 1, 6, none⟩) (by simp <;> omega) (.int .i64 co))
  simp only [List.set_cons_succ, List.set_cons_zero] at O9
  generalize ((((((w1.setCell ⟨w.heap.size + 1, 0, none⟩ (.string on)).setCell ⟨w.heap.size + 1, 1, none⟩ (.int .i64 ob)).setCell ⟨w.heap.size + 1, 2, none⟩ (.slice A1 oH.length a1)).setCell ⟨w.heap.size + 1, 3, none⟩ (.slice B1 oG.length b1)).setCell ⟨w.heap.size + 1, 4, none⟩ (.slice T1 N.length x1)).setCell ⟨w.heap.size + 1, 5, none⟩ (.int .i64 rn)).setCell ⟨w.heap.size + 1, 6, none⟩ (.int .i64 co) = w9 at O9 hb9 hsz rA rB rT  ⊢
  have oc0 := O9.cell (i := 0) rfl
  have oc1 := O9.cell (i := 1) rfl
  have oc2 := O9.cell (i := 2) rfl
  have oc3 := O9.cell (i := 3) rfl
  have oc4 := O9.cell (i := 4) rfl
  have oc5 := O9.cell (i := 5) rfl
  have oc6 := O9.cell (i := 6) rfl
  exact bodyPost_ret (v := .agg #[.string on, .int .i64 ob, .slice A1 oH.length a1, .slice B1 oG.length b1, .slice T1 N.length x1, .int .i64 rn, .int .i64 co]) (by simp [results, Try.results19, go_sem, oc0, oc1, oc2, oc3, oc4, oc5, oc6]) rfl (pub_out hsz rA rB rT hap cA cB hb9)
set_option maxHeartbeats 8000000 in
theorem specTopicSeek_any (t : Tpc) (gn : ByteArray) (n : Int) (A : Option Addr) (c : Nat) (B : Option Addr) (d : Nat) (w : World) (hf : t.fits) (hs : gn.size ≤ maxLen) (hA : Strs w w.heap.size A t.held) (hB : Grs w w.heap.size B t.groups) (hc : Cap A t.held.length c) (hd : Cap B t.groups.length d) :
    Calls Try.prog 21 #[topV t.name t.base (.slice A t.held.length c) (.slice B t.groups.length d), .string gn, .int .i64 n] w fun e w' => SpO w w' e (setT t gn n true) := by
  have LS := Lib.hid (fun W (h : Below w.heap.size w W) => l07Set_any t gn n true A c B d W hf hs (hA.on h) (hB.on h) hc hd)
  obtain ⟨z1, z2, z3, z4⟩ := set_small t gn n true
  refine Calls.mono (R := fun e w' => ImO w w' e (setT t gn n true)) ?_ (fun e w' h => ImO.sp h z1 z2 z3)
  clear z1 z2 z3 z4
  generalize setT t gn n true = R at LS ⊢
  obtain ⟨nm, bs, H, G⟩ := t
  simp only at hA hB hc hd LS ⊢
  have K := (Blk.fresh w 29 [.string nm, .int .i64 bs, .slice A H.length c, .slice B G.length d]).alloc (.cells #[.string ⟨#[]⟩, .int .i64 0, .slice none 0 0, .slice none 0 0, .slice none 0 0, .int .i64 0, .int .i64 0] 31)
  have O := Blk.fresh (w.alloc (.cells #[.string nm, .int .i64 bs, .slice A H.length c, .slice B G.length d] 29)) 31 [.string ⟨#[]⟩, .int .i64 0, .slice none 0 0, .slice none 0 0, .slice none 0 0, .int .i64 0, .int .i64 0]
  have hb : Below w.heap.size w ((w.alloc (.cells #[.string nm, .int .i64 bs, .slice A H.length c, .slice B G.length d] 29)).alloc (.cells #[.string ⟨#[]⟩, .int .i64 0, .slice none 0 0, .slice none 0 0, .slice none 0 0, .int .i64 0, .int .i64 0] 31)) := ((Below.refl _ _).alloc (Nat.le_refl _) _).alloc (by simp) _
  simp only [World.size_alloc] at K O
  replace K : Blk ((w.alloc (.cells #[.string nm, .int .i64 bs, .slice A H.length c, .slice B G.length d] 29)).alloc (.cells #[.string ⟨#[]⟩, .int .i64 0, .slice none 0 0, .slice none 0 0, .slice none 0 0, .int .i64 0, .int .i64 0] 31)) w.heap.size 29 [.string nm, .int .i64 bs, .slice A H.length c, .slice B G.length d] := K
  replace O : Blk ((w.alloc (.cells #[.string nm, .int .i64 bs, .slice A H.length c, .slice B G.length d] 29)).alloc (.cells #[.string ⟨#[]⟩, .int .i64 0, .slice none 0 0, .slice none 0 0, .slice none 0 0, .int .i64 0, .int .i64 0] 31)) (w.heap.size + 1) 31 [.string ⟨#[]⟩, .int .i64 0, .slice none 0 0, .slice none 0 0, .slice none 0 0, .int .i64 0, .int .i64 0] := O
  have kc0 := K.cell (i := 0) rfl
  have kc1 := K.cell (i := 1) rfl
  have kc2 := K.cell (i := 2) rfl
  have kc3 := K.cell (i := 3) rfl
  go_enter Try.func21, Try.ntmps21
  go_wp2_with (fail)
  clear kc0 kc1 kc2 kc3
  generalize (w.alloc (.cells #[.string nm, .int .i64 bs, .slice A H.length c, .slice B G.length d] 29)).alloc (.cells #[.string ⟨#[]⟩, .int .i64 0, .slice none 0 0, .slice none 0 0, .slice none 0 0, .int .i64 0, .int .i64 0] 31) = v0 at K O hb ⊢
  obtain ⟨⟨on, ob, oH, oG⟩, N, rn, co⟩ := R
  have ho0 := O.lt
  refine (LS.out _ hb).mono ?_
  rintro e w1 ⟨A1, a1, B1, b1, T1, x1, rfl, sA, sB, sT, hap, cA, cB, hb1⟩
  simp only at sA sB sT cA cB
  replace O := O.below hb1 O.lt
  have hv0 := hb.size
  replace hb := hb.trans (hb1.mono hb.size)
  replace sA := sA.wide hv0 (Nat.le_refl _)
  replace sB := sB.wide hv0 (Nat.le_refl _)
  replace sT := sT.wide hv0 (Nat.le_refl _)
  have qc0 := O.cell (i := 0) rfl
  have qf0 := O.froz 0
  have qc1 := O.cell (i := 1) rfl
  have qf1 := O.froz 1
  have qc2 := O.cell (i := 2) rfl
  have qf2 := O.froz 2
  have qc3 := O.cell (i := 3) rfl
  have qf3 := O.froz 3
  have qc4 := O.cell (i := 4) rfl
  have qf4 := O.froz 4
  have qc5 := O.cell (i := 5) rfl
  have qf5 := O.froz 5
  have qc6 := O.cell (i := 6) rfl
  have qf6 := O.froz 6
  go_wp2
  clear qc0 qf0 qc1 qf1 qc2 qf2 qc3 qf3 qc4 qf4 qc5 qf5 qc6 qf6
  have hsz : (((((((w1.setCell ⟨w.heap.size + 1, 0, none⟩ (.string on)).setCell ⟨w.heap.size + 1, 1, none⟩ (.int .i64 ob)).setCell ⟨w.heap.size + 1, 2, none⟩ (.slice A1 oH.length a1)).setCell ⟨w.heap.size + 1, 3, none⟩ (.slice B1 oG.length b1)).setCell ⟨w.heap.size + 1, 4, none⟩ (.slice T1 N.length x1)).setCell ⟨w.heap.size + 1, 5, none⟩ (.int .i64 rn)).setCell ⟨w.heap.size + 1, 6, none⟩ (.int .i64 co)).heap.size = w1.heap.size := by simp [World.setCell]
  have rA := (((((((sA.off O (by decide) 0 (.string on)).off (O.put 0 (.string on)) (by decide) 1 (.int .i64 ob)).off ((O.put 0 (.string on)).put 1 (.int .i64 ob)) (by decide) 2 (.slice A1 oH.length a1)).off (((O.put 0 (.string on)).put 1 (.int .i64 ob)).put 2 (.slice A1 oH.length a1)) (by decide) 3 (.slice B1 oG.length b1)).off ((((O.put 0 (.string on)).put 1 (.int .i64 ob)).put 2 (.slice A1 oH.length a1)).put 3 (.slice B1 oG.length b1)) (by decide) 4 (.slice T1 N.length x1)).off (((((O.put 0 (.string on)).put 1 (.int .i64 ob)).put 2 (.slice A1 oH.length a1)).put 3 (.slice B1 oG.length b1)).put 4 (.slice T1 N.length x1)) (by decide) 5 (.int .i64 rn)).off ((((((O.put 0 (.string on)).put 1 (.int .i64 ob)).put 2 (.slice A1 oH.length a1)).put 3 (.slice B1 oG.length b1)).put 4 (.slice T1 N.length x1)).put 5 (.int .i64 rn)) (by decide) 6 (.int .i64 co))
  have rB := (((((((sB.off O (by decide) 0 (.string on)).off (O.put 0 (.string on)) (by decide) 1 (.int .i64 ob)).off ((O.put 0 (.string on)).put 1 (.int .i64 ob)) (by decide) 2 (.slice A1 oH.length a1)).off (((O.put 0 (.string on)).put 1 (.int .i64 ob)).put 2 (.slice A1 oH.length a1)) (by decide) 3 (.slice B1 oG.length b1)).off ((((O.put 0 (.string on)).put 1 (.int .i64 ob)).put 2 (.slice A1 oH.length a1)).put 3 (.slice B1 oG.length b1)) (by decide) 4 (.slice T1 N.length x1)).off (((((O.put 0 (.string on)).put 1 (.int .i64 ob)).put 2 (.slice A1 oH.length a1)).put 3 (.slice B1 oG.length b1)).put 4 (.slice T1 N.length x1)) (by decide) 5 (.int .i64 rn)).off ((((((O.put 0 (.string on)).put 1 (.int .i64 ob)).put 2 (.slice A1 oH.length a1)).put 3 (.slice B1 oG.length b1)).put 4 (.slice T1 N.length x1)).put 5 (.int .i64 rn)) (by decide) 6 (.int .i64 co))
  have rT := (((((((sT.off O (by decide) 0 (.string on)).off (O.put 0 (.string on)) (by decide) 1 (.int .i64 ob)).off ((O.put 0 (.string on)).put 1 (.int .i64 ob)) (by decide) 2 (.slice A1 oH.length a1)).off (((O.put 0 (.string on)).put 1 (.int .i64 ob)).put 2 (.slice A1 oH.length a1)) (by decide) 3 (.slice B1 oG.length b1)).off ((((O.put 0 (.string on)).put 1 (.int .i64 ob)).put 2 (.slice A1 oH.length a1)).put 3 (.slice B1 oG.length b1)) (by decide) 4 (.slice T1 N.length x1)).off (((((O.put 0 (.string on)).put 1 (.int .i64 ob)).put 2 (.slice A1 oH.length a1)).put 3 (.slice B1 oG.length b1)).put 4 (.slice T1 N.length x1)) (by decide) 5 (.int .i64 rn)).off ((((((O.put 0 (.string on)).put 1 (.int .i64 ob)).put 2 (.slice A1 oH.length a1)).put 3 (.slice B1 oG.length b1)).put 4 (.slice T1 N.length x1)).put 5 (.int .i64 rn)) (by decide) 6 (.int .i64 co))
  have O9 := (((((((O.put 0 (.string on)).put 1 (.int .i64 ob)).put 2 (.slice A1 oH.length a1)).put 3 (.slice B1 oG.length b1)).put 4 (.slice T1 N.length x1)).put 5 (.int .i64 rn)).put 6 (.int .i64 co))
  have hb9 := (((((((hb.setCell (p := ⟨w.heap.size + 1, 0, none⟩) (by simp <;> omega) (.string on)).setCell (p := ⟨w.heap.size + 1, 1, none⟩) (by simp <;> omega) (.int .i64 ob)).setCell (p := ⟨w.heap.size + 1, 2, none⟩) (by simp <;> omega) (.slice A1 oH.length a1)).setCell (p := ⟨w.heap.size + 1, 3, none⟩) (by simp <;> omega) (.slice B1 oG.length b1)).setCell (p := ⟨w.heap.size + 1, 4, none⟩) (by simp <;> omega) (.slice T1 N.length x1)).setCell (p := ⟨w.heap.size + 1, 5, none⟩) (by simp <;> omega) (.int .i64 rn)).setCell (p := ⟨w.heap.size + 1, 6, none⟩) (by simp <;> omega) (.int .i64 co))
  simp only [List.set_cons_succ, List.set_cons_zero] at O9
  generalize ((((((w1.setCell ⟨w.heap.size + 1, 0, none⟩ (.string on)).setCell ⟨w.heap.size + 1, 1, none⟩ (.int .i64 ob)).setCell ⟨w.heap.size + 1, 2, none⟩ (.slice A1 oH.length a1)).setCell ⟨w.heap.size + 1, 3, none⟩ (.slice B1 oG.length b1)).setCell ⟨w.heap.size + 1, 4, none⟩ (.slice T1 N.length x1)).setCell ⟨w.heap.size + 1, 5, none⟩ (.int .i64 rn)).setCell ⟨w.heap.size + 1, 6, none⟩ (.int .i64 co) = w9 at O9 hb9 hsz rA rB rT  ⊢
  have oc0 := O9.cell (i := 0) rfl
  have oc1 := O9.cell (i := 1) rfl
  have oc2 := O9.cell (i := 2) rfl
  have oc3 := O9.cell (i := 3) rfl
  have oc4 := O9.cell (i := 4) rfl
  have oc5 := O9.cell (i := 5) rfl
  have oc6 := O9.cell (i := 6) rfl
  exact bodyPost_ret (v := .agg #[.string on, .int .i64 ob, .slice A1 oH.length a1, .slice B1 oG.length b1, .slice T1 N.length x1, .int .i64 rn, .int .i64 co]) (by simp [results, Try.results21, go_sem, oc0, oc1, oc2, oc3, oc4, oc5, oc6]) rfl (pub_out hsz rA rB rT hap cA cB hb9)
end Go.Proofs.Ytkimieeabmjfgaa

namespace Go.Proofs.Ytkimieeabmjfgaa
open Go.RowKit Go.Deep
set_option linter.unusedVariables false
set_option maxRecDepth 1000000
set_option maxHeartbeats 16000000 in
theorem forC_ack (t : Tpc) (gn s : ByteArray) (n : Int) (R : Ans) (lo p b5 b7 b9 : Nat) (A : Option Addr) (a : Nat) (B : Option Addr) (b : Nat) (w : World) (h : Wk w lo p t s n A a B b) (ho : topOK t) (hl : lo ≤ p) (hgn : gn.size ≤ 1048576)
    (h5 : Blk w b5 109 [.pointer (some ⟨p, 0, none⟩)]) (h7 : Blk w b7 9 [.string gn]) (h9 : Blk w b9 75 [.func (.func 54) #[.pointer (some ⟨p, 0, none⟩)] #[]])
    (HOP : ∀ W A2 a2 bg b2, Wk W lo p ⟨t.name, t.base, t.held, hasG t gn⟩ s n A2 a2 (some ⟨bg, 0, none⟩) b2 → Calls Try.prog 54 #[.pointer (some ⟨p, 0, none⟩), .pointer (some ⟨bg, posG t.groups gn * 2, none⟩)] W (OpPost lo p s n R W)) :
    Calls Try.prog 88 #[.pointer (some ⟨b5, 0, none⟩), .pointer (some ⟨b7, 0, none⟩), .pointer (some ⟨b9, 0, none⟩)] w (OpPost lo p s n (forA t gn R) w) := by
  have hlow : lo ≤ w.heap.size := Nat.le_trans hl (Nat.le_of_lt h.blk.lt)
  obtain ⟨P, oS, oG⟩ := h
  have hG4 := ho.2.2.2.2.1
  have GP := Lib.hid (fun W (hb : Below w.heap.size w W) => groupPlace_any B t.groups b gn W ((OwnG.grs oG).on hb) (rising_of ho) (by omega))
  have hpl := posG_le t.groups gn
  have HIF := Lib.hid (isG_iff (G := t.groups) (s := gn))
  have HH := Lib.hid (show hasG t gn = if isG t.groups gn = true then t.groups else insAt t.groups (posG t.groups gn) ⟨gn, t.base⟩ from rfl)
  have HF := Lib.hid (forA.eq_1 t gn R)
  have HOPh := Lib.hid HOP
  clear HOP
  obtain ⟨hg, Hhg⟩ : ∃ x, Hid (hasG t gn = x) := ⟨_, Lib.hid rfl⟩
  rw [Hhg.out] at HH HOPh
  obtain ⟨fr, Hfr⟩ : ∃ x, Hid (forA t gn R = x) := ⟨_, Lib.hid rfl⟩
  rw [Hfr.out] at HF ⊢
  obtain ⟨nm, bs, H, G⟩ := t
  simp only at P oS oG hG4 GP hpl HIF HH HF HOPh
  clear Hhg Hfr ho
  obtain ⟨k, HK⟩ : ∃ k, Hid (posG G gn = k) := ⟨_, Lib.hid rfl⟩
  rw [HK.out] at GP hpl HH HOPh
  have n5 := blk_ne h5 P (by decide)
  have n9 : b9 ≠ p := blk_ne h9 P (by decide)
  obtain ⟨I, fw, hI, g0, h6, gc, ge⟩ := class_grown w
  have x3 := fun q => kept_cell (h6 q) (P.cell (i := 3) rfl)
  have x5 := fun q => kept_cell (h6 q) (h5.cell (i := 0) rfl)
  have x7 := fun q => kept_cell (h6 q) (h7.cell (i := 0) rfl)
  have GE := Lib.hid ge
  have GC := Lib.hid gc
  have H6 := Lib.hid h6
  clear h6 gc ge
  rcases Bool.eq_false_or_eq_true (isG G gn) with hI2 | hI2
  · obtain ⟨hkl, hke⟩ := HIF.out.1 hI2
    simp only [HK.out] at hkl
    have HHe : Hid (hg = G) := Lib.hid (by rw [HH.out, if_pos hI2])
    have HFe : Hid (fr = R) := Lib.hid (by rw [HF.out, if_neg (by rw [hI2]; simp)])
    rw [hI2] at GP
    clear HH HF HIF hke hI2
    go_enter Try.func88, Try.ntmps88
    go_wp2_with (fail)
    refine wp_region_kept fw (by kernel_rfl) (by kernel_rfl) g0 ?_
    repeat (first
      | go_big_quiet_skip
      | (go_big_quiet_want; go_big_quiet_op; first | go_big_quiet_on | (apply Exists.intro; refine ⟨fun q => ?_, ?_⟩; (go_at_call 89; (with_reducible refine (GP.out _ (H6.out q)).mono ?_); rintro e w4 ⟨rfl, hb4⟩; exact ⟨rfl, GC.out _ _ hb4⟩); go_big_quiet_on)))
    refine wpQuiet_nil ?_
    intro w2 h2
    have hb2 := GE.out _ h2
    have P2 := P.below hb2 P.lt
    have S2 : OwnS w2 lo (.slice A H.length a) H := row_below oS hb2 (Nat.le_refl _)
    have G2 : OwnG w2 lo (.slice B G.length b) G := row_below oG hb2 (Nat.le_refl _)
    have h52 := h5.below hb2 h5.lt
    have h92 := h9.below hb2 h9.lt
    have hb02 : Below lo w w2 := hb2.mono hlow
    have KQ := Lib.hid (fun g cs (_ : g ≠ p) (h : Blk w g 31 cs) => h.below hb2 h.lt)
    have hk' : (k : Int) < (G.length : Int) := by omega
    obtain ⟨bg, rfl⟩ : ∃ bg, B = some ⟨bg, 0, none⟩ := by
      rcases oG.2 with ⟨he, h0⟩ | ⟨g, cap, cur, he, _⟩
      · rw [h0] at hkl; omega
      · injection he with e1; exact ⟨g, e1⟩
    clear h2 g0 x3 x5 x7 GE GC H6 GP
    go_wp2_with (fail)
    obtain ⟨I2, fv, hI2, v0, v6, vc, ve⟩ := class_grown w2
    have z3 := fun q => kept_cell (v6 q) (P2.cell (i := 3) rfl)
    have z5 := fun q => kept_cell (v6 q) (h52.cell (i := 0) rfl)
    have z9 := fun q => kept_cell (v6 q) (h92.cell (i := 0) rfl)
    have VE := Lib.hid ve
    clear v6 vc ve
    refine wp_region_class_tail (C := fun w' => ∃ q, w' = fv q) 8 (by kernel_rfl) (by kernel_rfl) v0 ?_
    simp only [List.take_succ_cons, List.take_zero, List.drop_succ_cons, List.drop_zero]
    repeat (first
      | go_big_quiet_skip
      | (go_big_quiet_want; go_big_quiet_op; go_big_quiet_on))
    refine wpQuiet_nil ?_
    intro w8 h8
    have hb8 := VE.out _ h8
    have P8 := P2.below hb8 P2.lt
    have S8 : OwnS w8 lo (.slice A H.length a) H := row_below S2 hb8 (Nat.le_refl _)
    have G8 := row_below G2 hb8 (Nat.le_refl _)
    have hb08 := hb02.trans (hb8.mono (Nat.le_trans hlow hb02.size))
    have K8 := Lib.hid (fun g cs (hg : g ≠ p) (h : Blk w g 31 cs) => (KQ.out g cs hg h).below hb8 (KQ.out g cs hg h).lt)
    have OP := HOPh.out w8 A a bg b ⟨by rw [HHe.out]; exact P8, S8, by rw [HHe.out]; exact G8⟩
    have OPh := Lib.hid OP
    clear OP z3 z5 z9 h8 v0 VE
    go_wp2_with (fail)
    refine OPh.out.mono ?_
    rintro e w9 ⟨o1, o2, rfl, o4⟩
    go_wp2
    go_ret
    rw [HFe.out]
    exact OpPost.after hb08 K8.out ⟨o1, o2, rfl, o4⟩ hlow
  · have HHe : Hid (hg = insAt G k ⟨gn, bs⟩) := Lib.hid (by rw [HH.out, if_neg (by rw [hI2]; simp)])
    rw [hI2] at GP
    go_enter Try.func88, Try.ntmps88
    go_wp2_with (fail)
    refine wp_region_kept fw (by kernel_rfl) (by kernel_rfl) g0 ?_
    repeat (first
      | go_big_quiet_skip
      | (go_big_quiet_want; go_big_quiet_op; first | go_big_quiet_on | (apply Exists.intro; refine ⟨fun q => ?_, ?_⟩; (go_at_call 89; (with_reducible refine (GP.out _ (H6.out q)).mono ?_); rintro e w4 ⟨rfl, hb4⟩; exact ⟨rfl, GC.out _ _ hb4⟩); go_big_quiet_on)))
    refine wpQuiet_nil ?_
    intro w2 h2
    have hb2 := GE.out _ h2
    have P2 := P.below hb2 P.lt
    have S2 : OwnS w2 lo (.slice A H.length a) H := row_below oS hb2 (Nat.le_refl _)
    have G2 : OwnG w2 lo (.slice B G.length b) G := row_below oG hb2 (Nat.le_refl _)
    have h52 := h5.below hb2 h5.lt
    have h92 := h9.below hb2 h9.lt
    have hb02 : Below lo w w2 := hb2.mono hlow
    have KQ := Lib.hid (fun g cs (_ : g ≠ p) (h : Blk w g 31 cs) => h.below hb2 h.lt)
    have h72 := h7.below hb2 h7.lt
    clear h2 g0 x3 x5 x7 GE GC H6 GP
    have c3 := P2.cell (i := 3) rfl
    have c5 := h52.cell (i := 0) rfl
    by_cases h4 : 4 ≤ G.length
    · have hd : ((G.length : Int) == 4) = true := by have : G.length = 4 := by omega
                                                     rw [this]; rfl
      have HFe : Hid (fr = ill 9) := Lib.hid (by rw [HF.out, if_pos ⟨hI2, h4⟩])
      clear HF HIF HH hI2 h4
      go_wp2
      go_ret
      rw [HFe.out]
      exact ⟨hb02, KQ.out, rfl, .inl ⟨by simp [ill], rfl⟩⟩
    have hd : ((G.length : Int) == 4) = false := by rw [beq_eq_false_iff_ne]; omega
    have HFe : Hid (fr = R) := Lib.hid (by rw [HF.out, if_neg (fun h => h4 h.2)])
    have hG3 : G.length ≤ 3 := by omega
    clear HF HIF HH hI2 h4
    have CL := Lib.hid (fun W => clone_any gn W hgn)
    go_wp2_with (fail)
    clear c3 c5
    go_cut [6] (fun y wx => AdCut w2 gn bs y wx)
    case first =>
      have x5 : w2.drew.cell? ⟨b5, 0, none⟩ = some (.pointer (some ⟨p, 0, none⟩)) := h52.drew.cell (i := 0) rfl
      have x7 : w2.drew.cell? ⟨b7, 0, none⟩ = some (.string gn) := h72.drew.cell (i := 0) rfl
      have x1 : w2.drew.cell? ⟨p, 1, none⟩ = some (.int .i64 bs) := P2.drew.cell (i := 1) rfl
      have al1 := (Below.refl w2.heap.size w2).alloc (Nat.le_refl _) (.cells #[.string ⟨#[]⟩, .int .i64 0] 68)
      have al0 : Below w2.drew.heap.size w2.drew (w2.alloc (.cells #[.string ⟨#[]⟩, .int .i64 0] 68)).drew := ⟨al1.os, al1.tape, al1.output, al1.size, al1.block⟩
      have y0 := Blk.fresh w2 68 [.string ⟨#[]⟩, .int .i64 0]
      replace y0 : Blk (w2.alloc (.cells #[.string ⟨#[]⟩, .int .i64 0] 68)).drew w2.heap.size 68 [.string ⟨#[]⟩, .int .i64 0] := y0
      have l5 := Nat.ne_of_lt h52.lt
      have l7 := Nat.ne_of_lt h72.lt
      have lp := Nat.ne_of_lt P2.lt
      have L5 := h52.lt
      have L7 := h72.lt
      have LP := P2.lt
      have dr : ∀ W, Below w2.drew.heap.size w2.drew W → Below w2.heap.size w2 W := fun W h => (below_drew (Below.refl _ w2)).trans h
      have DR := Lib.hid dr
      clear al1 dr
      have a5 := kept_cell al0 x5
      have a7 := kept_cell al0 x7
      have a1 := kept_cell al0 x1
      go_region_held3 (fun W => W.cell? ⟨b5, 0, none⟩ = some (.pointer (some ⟨p, 0, none⟩)) ∧ W.cell? ⟨b7, 0, none⟩ = some (.string gn) ∧ W.cell? ⟨p, 1, none⟩ = some (.int .i64 bs))
        (first
          | with_reducible exact ⟨x5, x7, x1⟩
          | with_reducible exact ⟨a5, a7, a1⟩
          | with_reducible exact ⟨c5, c7, c1⟩
          | with_reducible exact ⟨d5, d7, d1⟩
          | with_reducible exact ⟨e5, e7, e1⟩
          | ((with_reducible refine ⟨far2 ?_ ?_, far2 ?_ ?_, far2 ?_ ?_⟩) <;> with_reducible assumption))
        (first
          | (go_at_call 90; first
            | ((with_reducible refine (CL.out w2.drew).mono ?_); rintro e w3 ⟨rfl, hX⟩; have hsX : w2.heap.size ≤ w3.heap.size := hX.size; have m5 := Nat.ne_of_lt (Nat.lt_of_lt_of_le L5 hsX); have m7 := Nat.ne_of_lt (Nat.lt_of_lt_of_le L7 hsX); have mp := Nat.ne_of_lt (Nat.lt_of_lt_of_le LP hsX); have c5 := kept_cell hX x5; have c7 := kept_cell hX x7; have c1 := kept_cell hX x1; have hXb := hX.alloc hX.size (.cells #[.string ⟨#[]⟩, .int .i64 0] 68); have d5 := kept_cell hXb x5; have d7 := kept_cell hXb x7; have d1 := kept_cell hXb x1; have hXc := hX.alloc hX.size (.cells #[.string gn, .int .i64 bs] 68); have e5 := kept_cell hXc x5; have e7 := kept_cell hXc x7; have e1 := kept_cell hXc x1)
            | ((with_reducible refine (CL.out (w2.alloc (.cells #[.string ⟨#[]⟩, .int .i64 0] 68)).drew).mono ?_); rintro e w3 ⟨rfl, hc1⟩; have O := y0.below hc1 y0.lt; have hX := al0.trans (hc1.mono al0.size); have o0 := O.cell (i := 0) rfl; have o1 := O.cell (i := 1) rfl; have p0 := O.froz 0; have p1 := O.froz 1; have c5 := kept_cell hX x5; have c7 := kept_cell hX x7; have c1 := kept_cell hX x1)))
      all_goals
        go_wp2_with (fail)
        have hyy := DR.out _ hX
        go_meet
        case rel => first
          | with_reducible exact AdCut.late hyy
          | with_reducible exact AdCut.of O hyy (Nat.le_refl _)
    case rest =>
      obtain ⟨w3, ba, rfl, rfl, hba, O3, hb3⟩ := hcut
      have P3 := P2.below hb3 P2.lt
      have S3 : OwnS w3 lo (.slice A H.length a) H := row_below S2 hb3 (Nat.le_refl _)
      have G3 : OwnG w3 lo (.slice B G.length b) G := row_below G2 hb3 (Nat.le_refl _)
      have h53 := h52.below hb3 h52.lt
      have h93 := h92.below hb3 h92.lt
      have hb03 := hb02.trans (hb3.mono (Nat.le_trans hlow hb02.size))
      have KQ3 := Lib.hid (fun g cs (hg : g ≠ p) (h : Blk w g 31 cs) => (KQ.out g cs hg h).below hb3 (KQ.out g cs hg h).lt)
      go_wp2_with (fail)
      clear hb2 P2 S2 G2 h52 h92 hb02 KQ h72 CL
      have nb5 : ∀ k, B.map (·.block) = some k → b5 ≠ k := fun k e h => own_not G3 h53 (by decide) (by rw [own_blk, e, h])
      have nb9 : ∀ k, B.map (·.block) = some k → b9 ≠ k := fun k e h => own_not G3 h93 (by decide) (by rw [own_blk, e, h])
      have nbp : ∀ k, B.map (·.block) = some k → p ≠ k := fun k e h => own_not G3 P3 (by decide) (by rw [own_blk, e, h])
      have hl3 : lo ≤ w3.heap.size := Nat.le_trans hlow hb03.size
      have al1 := (Below.refl w3.heap.size w3).alloc (Nat.le_refl _) (.cells #[.string gn, .int .i64 bs] 68)
      have al0 : Below w3.heap.size w3 (w3.alloc (.cells #[.string gn, .int .i64 bs] 68)).drew := below_drew al1
      have hV : Blk (w3.alloc (.cells #[.string gn, .int .i64 bs] 68)).drew w3.heap.size 68 [.string gn, .int .i64 bs] := Blk.fresh w3 68 [.string gn, .int .i64 bs]
      have P4 := P3.below al0 P3.lt
      have h54 := h53.below al0 h53.lt
      have h94 := h93.below al0 h93.lt
      have O4 := O3.below al0 O3.lt
      have G4 : OwnG (w3.alloc (.cells #[.string gn, .int .i64 bs] 68)).drew lo (.slice B G.length b) G := row_below G3 al0 (Nat.le_refl _)
      have S4 : OwnS (w3.alloc (.cells #[.string gn, .int .i64 bs] 68)).drew lo (.slice A H.length a) H := row_below S3 al0 (Nat.le_refl _)
      have hb04 := hb03.trans (al0.mono hl3)
      have KQ4 := Lib.hid (fun g cs (hg : g ≠ p) (h : Blk w g 31 cs) => (KQ3.out g cs hg h).below al0 (KQ3.out g cs hg h).lt)
      have INS := Lib.hid (insert_any B G b k w3.heap.size lo ⟨gn, bs⟩ (w3.alloc (.cells #[.string gn, .int .i64 bs] 68)).drew G4 hG3 hpl hV (fun q e h => by have := (G3.lt q (by rw [own_blk, e])).2; omega) (Nat.le_trans hl3 al0.size))
      have x5 : w3.drew.cell? ⟨b5, 0, none⟩ = some (.pointer (some ⟨p, 0, none⟩)) := h53.drew.cell (i := 0) rfl
      have x3 : w3.drew.cell? ⟨p, 3, none⟩ = some (.slice B G.length b) := P3.drew.cell (i := 3) rfl
      have xa : w3.drew.cell? ⟨ba, 0, none⟩ = some (.string gn) := O3.drew.cell (i := 0) rfl
      have xb : w3.drew.cell? ⟨ba, 1, none⟩ = some (.int .i64 bs) := O3.drew.cell (i := 1) rfl
      have y5 := h54.cell (i := 0) rfl
      have y3 := P4.cell (i := 3) rfl
      have ya := O4.cell (i := 0) rfl
      have yb := O4.cell (i := 1) rfl
      have LEN := Lib.hid (insAt_len G hpl ⟨gn, bs⟩)
      have OLEN := Lib.hid (show ∀ (W : World) (B' : Option Addr) (b' : Nat), W.ownsRow lo 68 2 (.slice B' (G.length + 1) b') (G.length + 1) (gflat (insAt G k ⟨gn, bs⟩)) → ∃ bg, B' = some ⟨bg, 0, none⟩ from fun W B' b' h => by
        rcases h.2 with ⟨he, h0⟩ | ⟨g, cap, cur, he, _⟩
        · omega
        · injection he with e1; exact ⟨g, e1⟩)
      have G4L := Lib.hid G4
      have S4L := Lib.hid S4
      have P4L := Lib.hid P4
      have H5L := Lib.hid h54
      have H9L := Lib.hid h94
      clear O3 O4 hV al1 hba G4 S4 P4 h54 h94
      have ZZ := Lib.hid (show ∀ w4, (w3.alloc (.cells #[.string gn, .int .i64 bs] 68)).drew.grownBy w4 (B.map (·.block)) → w4.cell? ⟨b5, 0, none⟩ = some (.pointer (some ⟨p, 0, none⟩)) ∧ w4.cell? ⟨p, 3, none⟩ = some (.slice B G.length b) ∧ w4.frozen? ⟨p, 3, none⟩ = false from fun w4 hgr =>
        ⟨(H5L.out.grown hgr (fun e => nb5 _ e.symm rfl)).cell (i := 0) rfl, (P4L.out.grown hgr (fun e => nbp _ e.symm rfl)).cell (i := 3) rfl, (P4L.out.grown hgr (fun e => nbp _ e.symm rfl)).froz 3⟩)
      have FIN := Lib.hid (show ∀ (w4 : World) (B' : Option Addr) (b' : Nat), w4.ownsRow lo 68 2 (.slice B' (G.length + 1) b') (G.length + 1) (gflat (insAt G k ⟨gn, bs⟩)) → (w3.alloc (.cells #[.string gn, .int .i64 bs] 68)).drew.grownBy w4 (B.map (·.block)) → InCut w lo p b5 b9 nm bs H A a s n 54 (insAt G k ⟨gn, bs⟩) (w4.setCell ⟨p, 3, none⟩ (.slice B' (G.length + 1) b')) from fun w4 B' b' oI hgr => by
        obtain ⟨bg, rfl⟩ := OLEN.out _ _ _ oI
        have P5 := P4L.out.grown hgr (fun e => nbp _ e.symm rfl)
        have h55 := H5L.out.grown hgr (fun e => nb5 _ e.symm rfl)
        have h95 := H9L.out.grown hgr (fun e => nb9 _ e.symm rfl)
        have S5 := S4L.out.kept hgr (by rw [← own_blk B G.length b]; exact own_apart S4L.out G4L.out (by decide))
        have hb05 := below_row hb04 hlow hgr (fun k e => (G4L.out.lt k (by rw [own_blk, e])).1)
        have P6 := P5.put 3 (.slice (some ⟨bg, 0, none⟩) (G.length + 1) b')
        simp only [List.set_cons_succ, List.set_cons_zero] at P6
        have LE := LEN.out
        refine ⟨_, bg, b', rfl, ?_, ?_, row_off S5 (p := ⟨p, 3, none⟩) (own_not S5 P5 (by decide)) _, h55.far (p := ⟨p, 3, none⟩) n5 _, h95.far (p := ⟨p, 3, none⟩) n9 _, hb05.setCell (p := ⟨p, 3, none⟩) hl _, fun g cs hg h => ((KQ4.out g cs hg h).grown hgr (fun e => own_not G4L.out (KQ4.out g cs hg h) (by decide) (by rw [own_blk, ← e]))).far (p := ⟨p, 3, none⟩) hg _⟩
        · rw [LE]; exact P6
        · rw [LE]; exact row_off oI (p := ⟨p, 3, none⟩) (own_not oI P5 (by decide)) _)
      go_cut [4] (fun y wx => y = .int .i64 k ∧ InCut w lo p b5 b9 nm bs H A a s n 54 (insAt G k ⟨gn, bs⟩) wx)
      case first =>
        go_region_law
          (first
            | (go_simp; go_at_call 91; (with_reducible refine INS.out.mono ?_); rintro e w4 ⟨B', b', rfl, oI, hgr⟩; obtain ⟨z5, z3, zf⟩ := ZZ.out w4 hgr))
        all_goals
          have hfin := FIN.out w4 _ _ oI hgr
          clear x5 x3 xa xb y5 y3 ya yb z5 z3 zf INS ZZ
          go_wp2_with (fail)
          go_meet
          case rel => exact ⟨rfl, hfin⟩
      case rest =>
        obtain ⟨rfl, w6, bg, b', rfl, P6, G6, S6, h56, h96, hb06, kq6⟩ := hcut
        have KQ5 := Lib.hid kq6
        clear kq6 x5 x3 xa xb y5 y3 ya yb
        rw [LEN.out] at P6 G6
        have hk' : (k : Int) < (G.length : Int) + 1 := by omega
        go_wp2_with (fail)
        obtain ⟨I2, fv, hI2, v0, v6, vc, ve⟩ := class_grown w6
        have z3 := fun q => kept_cell (v6 q) (P6.cell (i := 3) rfl)
        have z5 := fun q => kept_cell (v6 q) (h56.cell (i := 0) rfl)
        have z9 := fun q => kept_cell (v6 q) (h96.cell (i := 0) rfl)
        have VE := Lib.hid ve
        clear v6 vc ve
        refine wp_region_class_tail (C := fun w' => ∃ q, w' = fv q) 8 (by kernel_rfl) (by kernel_rfl) v0 ?_
        simp only [List.take_succ_cons, List.take_zero, List.drop_succ_cons, List.drop_zero]
        repeat (first
          | go_big_quiet_skip
          | (go_big_quiet_want; go_big_quiet_op; go_big_quiet_on))
        refine wpQuiet_nil ?_
        intro w8 h8
        have hb8 := VE.out _ h8
        have P8 := P6.below hb8 P6.lt
        have S8 : OwnS w8 lo (.slice A H.length a) H := row_below S6 hb8 (Nat.le_refl _)
        have G8 := row_below G6 hb8 (Nat.le_refl _)
        have hb08 := hb06.trans (hb8.mono (Nat.le_trans hlow hb06.size))
        have K8 := Lib.hid (fun g cs (hg : g ≠ p) (h : Blk w g 31 cs) => (KQ5.out g cs hg h).below hb8 (KQ5.out g cs hg h).lt)
        have OP := HOPh.out w8 A a bg b' ⟨by simp only [HHe.out, LEN.out]; exact P8, S8, by simp only [HHe.out, LEN.out]; unfold OwnG; rw [LEN.out]; exact G8⟩
        have OPh := Lib.hid OP
        clear OP z3 z5 z9 h8 v0 VE
        go_wp2_with (fail)
        refine OPh.out.mono ?_
        rintro e w9 ⟨o1, o2, rfl, o4⟩
        go_wp2
        go_ret
        rw [HFe.out]
        exact OpPost.after hb08 K8.out ⟨o1, o2, rfl, o4⟩ hlow
end Go.Proofs.Ytkimieeabmjfgaa

namespace Go.Proofs.Ytkimieeabmjfgaa
open Go.RowKit Go.Deep
set_option linter.unusedVariables false
set_option maxRecDepth 1000000
theorem ackT_of (t : Tpc) (gn : ByteArray) (n : Int) : setT t gn n false = rfR t gn true (moveA ⟨t.name, t.base, t.held, hasG t gn⟩ (posG t.groups gn) n (inB n ((hasG t gn).getD (posG t.groups gn) zeroGrp).acked (t.base + t.held.length))) := by
  rw [← forR_eq]
  simp [setT]
theorem ackCL (t : Tpc) (gn : ByteArray) (n : Int) (lo p : Nat) (hp : lo ≤ p) (W : World) (b5 b7 b9 : Nat) (A2 : Option Addr) (a2 : Nat) (B2 : Option Addr) (b2 : Nat) (hw : Wk W lo p t ⟨#[]⟩ n A2 a2 B2 b2) (ho : topOK t) (hr : true = true) (hg : gn.size ≤ 20000) (h5 : Blk W b5 109 [.pointer (some ⟨p, 0, none⟩)]) (h7 : Blk W b7 9 [.string gn]) (h9 : Blk W b9 75 [.func (.func 54) #[.pointer (some ⟨p, 0, none⟩)] #[]]) :
    Calls Try.prog 88 #[.pointer (some ⟨b5, 0, none⟩), .pointer (some ⟨b7, 0, none⟩), .pointer (some ⟨b9, 0, none⟩)] W (OpPost lo p ⟨#[]⟩ n (forA t gn (moveA ⟨t.name, t.base, t.held, hasG t gn⟩ (posG t.groups gn) n (inB n ((hasG t gn).getD (posG t.groups gn) zeroGrp).acked (t.base + t.held.length)))) W) :=
  forC_ack t gn ⟨#[]⟩ n _ lo p b5 b7 b9 A2 a2 B2 b2 W hw ho hp (by omega) h5 h7 h9 (fun W' A3 a3 bg b3 h => ack_any ⟨t.name, t.base, t.held, hasG t gn⟩ ⟨#[]⟩ n lo p bg (posG t.groups gn) A3 a3 b3 W' h hp ho.2.2.1 (inB_true ho.2.1).1 ho.2.2.2.2.2.1 (hasG_lt t gn))
set_option maxHeartbeats 8000000 in
theorem implTopicAck_any (t : Tpc) (gn : ByteArray) (n : Int) (A : Option Addr) (c : Nat) (B : Option Addr) (d : Nat) (w : World) (hf : t.fits) (hsm : t.small) (hs : gn.size ≤ maxLen) (hA : Strs w w.heap.size A t.held) (hB : Grs w w.heap.size B t.groups) :
    Calls Try.prog 20 #[topV t.name t.base (.slice A t.held.length c) (.slice B t.groups.length d), .string gn, .int .i64 n] w fun e w' => ImO w w' e (setT t gn n false) := by
  have HS := Lib.hid (ackT_of t gn n)
  have RN := Lib.hid (fun W p (h : Below w.heap.size w W) (hp : w.heap.size ≤ p) P => runFor2_any t gn ⟨#[]⟩ n true (moveA ⟨t.name, t.base, t.held, hasG t gn⟩ (posG t.groups gn) n (inB n ((hasG t gn).getD (posG t.groups gn) zeroGrp).acked (t.base + t.held.length))) 54 w.heap.size p A c B d W hf hsm hs (hA.on h) (hB.on h) hp (fun W b5 b7 b9 A2 a2 B2 b2 hw ho hr hg h5 h7 h9 => ackCL t gn n w.heap.size p hp W b5 b7 b9 A2 a2 B2 b2 hw ho hr hg h5 h7 h9) P)
  obtain ⟨R, HR0⟩ : ∃ x, Hid (setT t gn n false = x) := ⟨_, Lib.hid rfl⟩
  rw [HR0.out] at HS ⊢
  rw [← HS.out] at RN
  clear HS HR0
  obtain ⟨nm, bs, H, G⟩ := t
  simp only at RN hA hB ⊢
  have K := (Blk.fresh w 29 [.string nm, .int .i64 bs, .slice A H.length c, .slice B G.length d]).alloc (.cells #[.string ⟨#[]⟩, .int .i64 0, .slice none 0 0, .slice none 0 0, .slice none 0 0, .int .i64 0, .int .i64 0] 31)
  have O := Blk.fresh (w.alloc (.cells #[.string nm, .int .i64 bs, .slice A H.length c, .slice B G.length d] 29)) 31 [.string ⟨#[]⟩, .int .i64 0, .slice none 0 0, .slice none 0 0, .slice none 0 0, .int .i64 0, .int .i64 0]
  have hb : Below w.heap.size w ((w.alloc (.cells #[.string nm, .int .i64 bs, .slice A H.length c, .slice B G.length d] 29)).alloc (.cells #[.string ⟨#[]⟩, .int .i64 0, .slice none 0 0, .slice none 0 0, .slice none 0 0, .int .i64 0, .int .i64 0] 31)) := ((Below.refl _ _).alloc (Nat.le_refl _) _).alloc (by simp) _
  simp only [World.size_alloc] at K O
  replace K : Blk ((w.alloc (.cells #[.string nm, .int .i64 bs, .slice A H.length c, .slice B G.length d] 29)).alloc (.cells #[.string ⟨#[]⟩, .int .i64 0, .slice none 0 0, .slice none 0 0, .slice none 0 0, .int .i64 0, .int .i64 0] 31)) w.heap.size 29 [.string nm, .int .i64 bs, .slice A H.length c, .slice B G.length d] := K
  replace O : Blk ((w.alloc (.cells #[.string nm, .int .i64 bs, .slice A H.length c, .slice B G.length d] 29)).alloc (.cells #[.string ⟨#[]⟩, .int .i64 0, .slice none 0 0, .slice none 0 0, .slice none 0 0, .int .i64 0, .int .i64 0] 31)) (w.heap.size + 1) 31 [.string ⟨#[]⟩, .int .i64 0, .slice none 0 0, .slice none 0 0, .slice none 0 0, .int .i64 0, .int .i64 0] := O
  have hz1 : ((w.alloc (.cells #[.string nm, .int .i64 bs, .slice A H.length c, .slice B G.length d] 29)).alloc (.cells #[.string ⟨#[]⟩, .int .i64 0, .slice none 0 0, .slice none 0 0, .slice none 0 0, .int .i64 0, .int .i64 0] 31)).heap.size = w.heap.size + 1 + 1 := by simp
  have hK := K.alloc (.cells #[.string ⟨#[]⟩, .int .i64 0, .slice none 0 0, .slice none 0 0, .string ⟨#[]⟩, .int .i64 n, .slice none 0 0, .int .i64 0] 73)
  have hO := O.alloc (.cells #[.string ⟨#[]⟩, .int .i64 0, .slice none 0 0, .slice none 0 0, .string ⟨#[]⟩, .int .i64 n, .slice none 0 0, .int .i64 0] 73)
  have hP := Blk.fresh ((w.alloc (.cells #[.string nm, .int .i64 bs, .slice A H.length c, .slice B G.length d] 29)).alloc (.cells #[.string ⟨#[]⟩, .int .i64 0, .slice none 0 0, .slice none 0 0, .slice none 0 0, .int .i64 0, .int .i64 0] 31)) 73 [.string ⟨#[]⟩, .int .i64 0, .slice none 0 0, .slice none 0 0, .string ⟨#[]⟩, .int .i64 n, .slice none 0 0, .int .i64 0]
  rw [hz1] at hP
  have hb2 := hb.alloc hb.size (.cells #[.string ⟨#[]⟩, .int .i64 0, .slice none 0 0, .slice none 0 0, .string ⟨#[]⟩, .int .i64 n, .slice none 0 0, .int .i64 0] 73)
  clear hz1 K O hb
  have kc0 := hK.cell (i := 0) rfl
  have kc1 := hK.cell (i := 1) rfl
  have kc2 := hK.cell (i := 2) rfl
  have kc3 := hK.cell (i := 3) rfl
  go_enter Try.func20, Try.ntmps20
  go_wp2_with (fail)
  clear kc0 kc1 kc2 kc3
  generalize ((w.alloc (.cells #[.string nm, .int .i64 bs, .slice A H.length c, .slice B G.length d] 29)).alloc (.cells #[.string ⟨#[]⟩, .int .i64 0, .slice none 0 0, .slice none 0 0, .slice none 0 0, .int .i64 0, .int .i64 0] 31)).alloc (.cells #[.string ⟨#[]⟩, .int .i64 0, .slice none 0 0, .slice none 0 0, .string ⟨#[]⟩, .int .i64 n, .slice none 0 0, .int .i64 0] 73) = w2 at hK hO hP hb2 ⊢
  have RN5 := RN.out w2 (w.heap.size + 1 + 1) hb2 (by omega) hP
  obtain ⟨⟨on, ob, oH, oG⟩, N, rn, co⟩ := R
  clear RN
  refine RN5.mono ?_
  rintro e w6 ⟨⟨A1, a1, B1, b1, T1, x1, rfl, sA, sB, sT, hap, cA, cB, hb6⟩, kp⟩
  simp only at sA sB sT cA cB
  have O := kp _ _ (by omega) hO
  have hb := hb2.trans hb6
  clear RN5 kp hO hP hK hb6 hb2
  have qc0 := O.cell (i := 0) rfl
  have qf0 := O.froz 0
  have qc1 := O.cell (i := 1) rfl
  have qf1 := O.froz 1
  have qc2 := O.cell (i := 2) rfl
  have qf2 := O.froz 2
  have qc3 := O.cell (i := 3) rfl
  have qf3 := O.froz 3
  have qc4 := O.cell (i := 4) rfl
  have qf4 := O.froz 4
  have qc5 := O.cell (i := 5) rfl
  have qf5 := O.froz 5
  have qc6 := O.cell (i := 6) rfl
  have qf6 := O.froz 6
  go_wp2
  clear qc0 qf0 qc1 qf1 qc2 qf2 qc3 qf3 qc4 qf4 qc5 qf5 qc6 qf6
  have hsz : (((((((w6.setCell ⟨w.heap.size + 1, 0, none⟩ (.string on)).setCell ⟨w.heap.size + 1, 1, none⟩ (.int .i64 ob)).setCell ⟨w.heap.size + 1, 2, none⟩ (.slice A1 oH.length a1)).setCell ⟨w.heap.size + 1, 3, none⟩ (.slice B1 oG.length b1)).setCell ⟨w.heap.size + 1, 4, none⟩ (.slice T1 N.length x1)).setCell ⟨w.heap.size + 1, 5, none⟩ (.int .i64 rn)).setCell ⟨w.heap.size + 1, 6, none⟩ (.int .i64 co)).heap.size = w6.heap.size := by simp [World.setCell]
  have rA := (((((((sA.off O (by decide) 0 (.string on)).off (O.put 0 (.string on)) (by decide) 1 (.int .i64 ob)).off ((O.put 0 (.string on)).put 1 (.int .i64 ob)) (by decide) 2 (.slice A1 oH.length a1)).off (((O.put 0 (.string on)).put 1 (.int .i64 ob)).put 2 (.slice A1 oH.length a1)) (by decide) 3 (.slice B1 oG.length b1)).off ((((O.put 0 (.string on)).put 1 (.int .i64 ob)).put 2 (.slice A1 oH.length a1)).put 3 (.slice B1 oG.length b1)) (by decide) 4 (.slice T1 N.length x1)).off (((((O.put 0 (.string on)).put 1 (.int .i64 ob)).put 2 (.slice A1 oH.length a1)).put 3 (.slice B1 oG.length b1)).put 4 (.slice T1 N.length x1)) (by decide) 5 (.int .i64 rn)).off ((((((O.put 0 (.string on)).put 1 (.int .i64 ob)).put 2 (.slice A1 oH.length a1)).put 3 (.slice B1 oG.length b1)).put 4 (.slice T1 N.length x1)).put 5 (.int .i64 rn)) (by decide) 6 (.int .i64 co))
  have rB := (((((((sB.off O (by decide) 0 (.string on)).off (O.put 0 (.string on)) (by decide) 1 (.int .i64 ob)).off ((O.put 0 (.string on)).put 1 (.int .i64 ob)) (by decide) 2 (.slice A1 oH.length a1)).off (((O.put 0 (.string on)).put 1 (.int .i64 ob)).put 2 (.slice A1 oH.length a1)) (by decide) 3 (.slice B1 oG.length b1)).off ((((O.put 0 (.string on)).put 1 (.int .i64 ob)).put 2 (.slice A1 oH.length a1)).put 3 (.slice B1 oG.length b1)) (by decide) 4 (.slice T1 N.length x1)).off (((((O.put 0 (.string on)).put 1 (.int .i64 ob)).put 2 (.slice A1 oH.length a1)).put 3 (.slice B1 oG.length b1)).put 4 (.slice T1 N.length x1)) (by decide) 5 (.int .i64 rn)).off ((((((O.put 0 (.string on)).put 1 (.int .i64 ob)).put 2 (.slice A1 oH.length a1)).put 3 (.slice B1 oG.length b1)).put 4 (.slice T1 N.length x1)).put 5 (.int .i64 rn)) (by decide) 6 (.int .i64 co))
  have rT := (((((((sT.off O (by decide) 0 (.string on)).off (O.put 0 (.string on)) (by decide) 1 (.int .i64 ob)).off ((O.put 0 (.string on)).put 1 (.int .i64 ob)) (by decide) 2 (.slice A1 oH.length a1)).off (((O.put 0 (.string on)).put 1 (.int .i64 ob)).put 2 (.slice A1 oH.length a1)) (by decide) 3 (.slice B1 oG.length b1)).off ((((O.put 0 (.string on)).put 1 (.int .i64 ob)).put 2 (.slice A1 oH.length a1)).put 3 (.slice B1 oG.length b1)) (by decide) 4 (.slice T1 N.length x1)).off (((((O.put 0 (.string on)).put 1 (.int .i64 ob)).put 2 (.slice A1 oH.length a1)).put 3 (.slice B1 oG.length b1)).put 4 (.slice T1 N.length x1)) (by decide) 5 (.int .i64 rn)).off ((((((O.put 0 (.string on)).put 1 (.int .i64 ob)).put 2 (.slice A1 oH.length a1)).put 3 (.slice B1 oG.length b1)).put 4 (.slice T1 N.length x1)).put 5 (.int .i64 rn)) (by decide) 6 (.int .i64 co))
  have O9 := (((((((O.put 0 (.string on)).put 1 (.int .i64 ob)).put 2 (.slice A1 oH.length a1)).put 3 (.slice B1 oG.length b1)).put 4 (.slice T1 N.length x1)).put 5 (.int .i64 rn)).put 6 (.int .i64 co))
  have hb9 := (((((((hb.setCell (p := ⟨w.heap.size + 1, 0, none⟩) (by simp <;> omega) (.string on)).setCell (p := ⟨w.heap.size + 1, 1, none⟩) (by simp <;> omega) (.int .i64 ob)).setCell (p := ⟨w.heap.size + 1, 2, none⟩) (by simp <;> omega) (.slice A1 oH.length a1)).setCell (p := ⟨w.heap.size + 1, 3, none⟩) (by simp <;> omega) (.slice B1 oG.length b1)).setCell (p := ⟨w.heap.size + 1, 4, none⟩) (by simp <;> omega) (.slice T1 N.length x1)).setCell (p := ⟨w.heap.size + 1, 5, none⟩) (by simp <;> omega) (.int .i64 rn)).setCell (p := ⟨w.heap.size + 1, 6, none⟩) (by simp <;> omega) (.int .i64 co))
  simp only [List.set_cons_succ, List.set_cons_zero] at O9
  generalize ((((((w6.setCell ⟨w.heap.size + 1, 0, none⟩ (.string on)).setCell ⟨w.heap.size + 1, 1, none⟩ (.int .i64 ob)).setCell ⟨w.heap.size + 1, 2, none⟩ (.slice A1 oH.length a1)).setCell ⟨w.heap.size + 1, 3, none⟩ (.slice B1 oG.length b1)).setCell ⟨w.heap.size + 1, 4, none⟩ (.slice T1 N.length x1)).setCell ⟨w.heap.size + 1, 5, none⟩ (.int .i64 rn)).setCell ⟨w.heap.size + 1, 6, none⟩ (.int .i64 co) = w9 at O9 hb9 hsz rA rB rT  ⊢
  have oc0 := O9.cell (i := 0) rfl
  have oc1 := O9.cell (i := 1) rfl
  have oc2 := O9.cell (i := 2) rfl
  have oc3 := O9.cell (i := 3) rfl
  have oc4 := O9.cell (i := 4) rfl
  have oc5 := O9.cell (i := 5) rfl
  have oc6 := O9.cell (i := 6) rfl
  exact bodyPost_ret (v := .agg #[.string on, .int .i64 ob, .slice A1 oH.length a1, .slice B1 oG.length b1, .slice T1 N.length x1, .int .i64 rn, .int .i64 co]) (by simp [results, Try.results20, go_sem, oc0, oc1, oc2, oc3, oc4, oc5, oc6]) rfl (pub_out hsz rA rB rT hap cA cB hb9)
/-- The two answer alike. -/
theorem bothTopicAck (t : Tpc) (gn : ByteArray) (n : Int) (hf : t.fits) (hS : t.small) (hs : gn.size ≤ maxLen) (hn : (Lit.int .i64 n).wf = true) (hbg : gn.size ≤ 1048576) :
    ∃ (o : Tpc) (N : List ByteArray) (m co : Int), o.held.length ≤ maxLen ∧ o.groups.length ≤ maxLen ∧ N.length ≤ maxLen ∧ 1 + o.held.length + 2 * o.groups.length + N.length ≤ 3900001 ∧
      (∀ A c B d w, Strs w w.heap.size A t.held → Grs w w.heap.size B t.groups → Cap A t.held.length c → Cap B t.groups.length d → Calls Try.prog 19 #[topV t.name t.base (.slice A t.held.length c) (.slice B t.groups.length d), .string gn, .int .i64 n] w fun e w' => SpO w w' e ⟨o, N, m, co⟩) ∧
      (∀ A c B d w, Strs w w.heap.size A t.held → Grs w w.heap.size B t.groups → Cap A t.held.length c → Cap B t.groups.length d → Calls Try.prog 20 #[topV t.name t.base (.slice A t.held.length c) (.slice B t.groups.length d), .string gn, .int .i64 n] w fun e w' => ImO w w' e ⟨o, N, m, co⟩) :=
  ⟨(setT t gn n false).o, (setT t gn n false).texts, (setT t gn n false).n, (setT t gn n false).code, (set_small t gn n false).1, (set_small t gn n false).2.1, (set_small t gn n false).2.2.1, (set_small t gn n false).2.2.2, fun A c B d w h1 h2 h3 h4 => specTopicAck_any t gn n A c B d w hf hs h1 h2 h3 h4, fun A c B d w h1 h2 _ _ => implTopicAck_any t gn n A c B d w hf hS hs h1 h2⟩
end Go.Proofs.Ytkimieeabmjfgaa
