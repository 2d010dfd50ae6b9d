/- spec.l07Set. spec.TopicAck and spec.TopicSeek. spec.l07Set: its answer is its own. spec.TopicAck and TopicSeek: their answers are their own. -/
import Derived.Test.YtjnbhppnchmeoaaTpSetMW
import Derived.Test.YtjnbhppnchmeoaaTpBegW
import Derived.Test.YtjnbhppnchmeoaaTpPubXW
namespace Go.Proofs.Ytjnbhppnchmeoaa
open Go.RowKit
set_option linter.unusedVariables false
set_option maxRecDepth 1000000
theorem set_end {w w9 : World} {lo : Nat} {nm : ByteArray} {b n : Int} {k : Nat} {H : List ByteArray} {G : List Grp} {A3 B2 : Option Addr} {c3 d2 : Nat} {R : Ans} (h : R = setA ⟨nm, b, H, G⟩ k n) (hk : k < G.length) (hlo : w.heap.size ≤ lo) (hS : OwnS w9 lo (.slice A3 H.length c3) H) (hG : w9.ownsRow lo 94 2 (.slice B2 G.length d2) G.length (gflat (G.set k ⟨G[k].name, n⟩))) (hb : Below w.heap.size w w9) :
    ImO w w9 (.returned (outV nm b (.slice A3 H.length c3) (.slice B2 G.length d2) (.slice none 0 0) 0 0)) R := by
  subst h
  have eD : G.getD k zeroGrp = G[k] := by rw [List.getD_eq_getElem?_getD, List.getElem?_eq_getElem hk]; rfl
  have e2 : (G.set k ⟨G[k].name, n⟩).length = G.length := List.length_set ..
  have hG' : OwnG w9 w.heap.size (.slice B2 G.length d2) (G.set k ⟨G[k].name, n⟩) := by unfold OwnG; rw [e2]; exact own_base hG hlo
  have hS' : OwnS w9 w.heap.size (.slice A3 H.length c3) H := own_base hS hlo
  unfold setA
  simp only [eD]
  refine ⟨A3, c3, B2, d2, none, 0, by rw [e2]; rfl, Sl.of_own hS' rfl, Sl.of_own hG' rfl, .inl rfl, (fun x y _ e => by cases e), Cap.own hS', ?_, hb⟩
  have := Cap.own hG'
  rw [e2] at this ⊢
  exact this
/-- Rows of its own are rows. -/
theorem ImO.sp {w w9 : World} {e : Ending} {R : Ans} (h : ImO w w9 e R) (h1 : R.o.held.length ≤ maxLen) (h2 : R.o.groups.length ≤ maxLen) (h3 : R.texts.length ≤ maxLen) : SpO w w9 e R := by
  obtain ⟨A, a, B, b, T, x, he, sA, sB, sT, _, cA, cB, hb⟩ := h
  exact ⟨A, a, B, b, T, x, he, sA.strs h1, sB.grs h2, sT.strs h3, cA, cB, hb⟩
set_option maxHeartbeats 8000000 in
theorem l07Set_any (t : Tpc) (gn : ByteArray) (n : Int) (back : Bool) (A : Option Addr) (c : Nat) (B : Option Addr) (d : Nat) (w : World) (hf : t.fits) (hs : gn.size ≤ maxLen) (hA : Strs w w.heap.size A t.held) (hB : Grs w w.heap.size B t.groups) (hc : Cap A t.held.length c) (hd : Cap B t.groups.length d) :
    Calls Try.prog 77 #[topV t.name t.base (.slice A t.held.length c) (.slice B t.groups.length d), .string gn, .int .i64 n, .bool back] w fun e w' => ImO w w' e (setT t gn n back) := by
  have BG := Lib.hid (fun W (h : Below w.heap.size w W) => l07Begin_any t gn true A c B d W hf hs (hA.on h) (hB.on h) hc hd)
  have hkl := hasG_lt t gn
  have HT := Lib.hid (beg_top (t := t) (g := gn) (ok := true))
  have HI := Lib.hid (setT_ill (t := t) (gn := gn) (n := n) (back := back))
  have HZ0 := Lib.hid (setT_ok (t := t) (gn := gn) (n := n) (back := back))
  obtain ⟨cc, HCC⟩ : ∃ x, Hid (begC t gn true = x) := ⟨_, Lib.hid rfl⟩
  obtain ⟨hg, HHG⟩ : ∃ x, Hid (hasG t gn = x) := ⟨_, Lib.hid rfl⟩
  obtain ⟨kk, HKK⟩ : ∃ x, Hid (posG t.groups gn = x) := ⟨_, Lib.hid rfl⟩
  rw [HHG.out, HKK.out] at hkl
  rw [HCC.out, HHG.out, HKK.out] at BG
  obtain ⟨nm, bs, H, G⟩ := t
  simp only at HKK hA hB hc hd BG ⊢
  have K := (Blk.fresh w 26 [.string nm, .int .i64 bs, .slice A H.length c, .slice B G.length d]).alloc (.cells #[.string ⟨#[]⟩, .int .i64 0, .slice none 0 0, .slice none 0 0, .slice none 0 0, .int .i64 0, .int .i64 0] 30)
  have O := Blk.fresh (w.alloc (.cells #[.string nm, .int .i64 bs, .slice A H.length c, .slice B G.length d] 26)) 30 [.string ⟨#[]⟩, .int .i64 0, .slice none 0 0, .slice none 0 0, .slice none 0 0, .int .i64 0, .int .i64 0]
  have hb : Below w.heap.size w ((w.alloc (.cells #[.string nm, .int .i64 bs, .slice A H.length c, .slice B G.length d] 26)).alloc (.cells #[.string ⟨#[]⟩, .int .i64 0, .slice none 0 0, .slice none 0 0, .slice none 0 0, .int .i64 0, .int .i64 0] 30)) := ((Below.refl _ _).alloc (Nat.le_refl _) _).alloc (by simp) _
  simp only [World.size_alloc] at K O
  replace K : Blk ((w.alloc (.cells #[.string nm, .int .i64 bs, .slice A H.length c, .slice B G.length d] 26)).alloc (.cells #[.string ⟨#[]⟩, .int .i64 0, .slice none 0 0, .slice none 0 0, .slice none 0 0, .int .i64 0, .int .i64 0] 30)) w.heap.size 26 [.string nm, .int .i64 bs, .slice A H.length c, .slice B G.length d] := K
  replace O : Blk ((w.alloc (.cells #[.string nm, .int .i64 bs, .slice A H.length c, .slice B G.length d] 26)).alloc (.cells #[.string ⟨#[]⟩, .int .i64 0, .slice none 0 0, .slice none 0 0, .slice none 0 0, .int .i64 0, .int .i64 0] 30)) (w.heap.size + 1) 30 [.string ⟨#[]⟩, .int .i64 0, .slice none 0 0, .slice none 0 0, .slice none 0 0, .int .i64 0, .int .i64 0] := O
  have hz1 := hb.size
  by_cases hz : cc = 0
  rotate_left
  · have HR : Hid (setT ⟨nm, bs, H, G⟩ gn n back = ill cc) := Lib.hid (by rw [HI.out (by rw [HCC.out]; exact hz), HCC.out])
    go_enter Try.func77, Try.ntmps77
    go_wp2_with (fail)
    generalize (w.alloc (.cells #[.string nm, .int .i64 bs, .slice A H.length c, .slice B G.length d] 26)).alloc (.cells #[.string ⟨#[]⟩, .int .i64 0, .slice none 0 0, .slice none 0 0, .slice none 0 0, .int .i64 0, .int .i64 0] 30) = v0 at K O hb ⊢
    have hov := O.lt
    refine (BG.out _ hb).mono ?_
    rintro e w1 ⟨A8, a8, B8, b8, L, k, code, rfl, hcd, hok, hb1⟩
    replace K := K.below hb1 K.lt
    replace O := O.below hb1 O.lt
    replace hb := hb.trans (hb1.mono hb.size)
    clear hok
    have P := Blk.fresh w1 26 [.string nm, .int .i64 bs, .slice A8 H.length a8, .slice B8 L.length b8]
    have al := below_box w1 (.cells #[.string nm, .int .i64 bs, .slice A8 H.length a8, .slice B8 L.length b8] 26)
    replace P : Blk (w1.alloc (.cells #[.string nm, .int .i64 bs, .slice A8 H.length a8, .slice B8 L.length b8] 26)) w1.heap.size 26 [.string nm, .int .i64 bs, .slice A8 H.length a8, .slice B8 L.length b8] := P

    replace K := K.below al K.lt
    replace O := O.below al O.lt
    replace hb := hb.trans (al.mono hb.size)
    have kc0 := K.cell (i := 0) rfl
    have kc1 := K.cell (i := 1) rfl
    have kc2 := K.cell (i := 2) rfl
    have kc3 := K.cell (i := 3) rfl
    have pc0 := P.cell (i := 0) rfl
    have pc1 := P.cell (i := 1) rfl
    have pc2 := P.cell (i := 2) rfl
    have pc3 := P.cell (i := 3) rfl
    go_wp2_with (fail)
    clear kc0 kc1 kc2 kc3
    generalize w1.alloc (.cells #[.string nm, .int .i64 bs, .slice A8 H.length a8, .slice B8 L.length b8] 26) = w2 at P K O hb pc0 pc1 pc2 pc3  ⊢
    refine (l07Ill_any cc _).mono ?_
    rintro e w3 ⟨rfl, hb3⟩
    replace K := K.below hb3 K.lt
    replace O := O.below hb3 O.lt
    replace hb := hb.trans (hb3.mono hb.size)
    have qc0 := O.cell (i := 0) rfl
    have qf0 := O.froz 0
    have qc1 := O.cell (i := 1) rfl
    have qf1 := O.froz 1
    have qc2 := O.cell (i := 2) rfl
    have qf2 := O.froz 2
    have qc3 := O.cell (i := 3) rfl
    have qf3 := O.froz 3
    have qc4 := O.cell (i := 4) rfl
    have qf4 := O.froz 4
    have qc5 := O.cell (i := 5) rfl
    have qf5 := O.froz 5
    have qc6 := O.cell (i := 6) rfl
    have qf6 := O.froz 6
    go_wp2
    clear qc0 qf0 qc1 qf1 qc2 qf2 qc3 qf3 qc4 qf4 qc5 qf5 qc6 qf6
    have O9 := (((((((O.put 0 (.string ⟨#[]⟩)).put 1 (.int .i64 0)).put 2 (.slice none 0 0)).put 3 (.slice none 0 0)).put 4 (.slice none 0 0)).put 5 (.int .i64 0)).put 6 (.int .i64 cc))
    have hb9 := (((((((hb.setCell (p := ⟨w.heap.size + 1, 0, none⟩) (by simp <;> omega) (.string ⟨#[]⟩)).setCell (p := ⟨w.heap.size + 1, 1, none⟩) (by simp <;> omega) (.int .i64 0)).setCell (p := ⟨w.heap.size + 1, 2, none⟩) (by simp <;> omega) (.slice none 0 0)).setCell (p := ⟨w.heap.size + 1, 3, none⟩) (by simp <;> omega) (.slice none 0 0)).setCell (p := ⟨w.heap.size + 1, 4, none⟩) (by simp <;> omega) (.slice none 0 0)).setCell (p := ⟨w.heap.size + 1, 5, none⟩) (by simp <;> omega) (.int .i64 0)).setCell (p := ⟨w.heap.size + 1, 6, none⟩) (by simp <;> omega) (.int .i64 cc))
    simp only [List.set_cons_succ, List.set_cons_zero] at O9
    generalize ((((((w3.setCell ⟨w.heap.size + 1, 0, none⟩ (.string ⟨#[]⟩)).setCell ⟨w.heap.size + 1, 1, none⟩ (.int .i64 0)).setCell ⟨w.heap.size + 1, 2, none⟩ (.slice none 0 0)).setCell ⟨w.heap.size + 1, 3, none⟩ (.slice none 0 0)).setCell ⟨w.heap.size + 1, 4, none⟩ (.slice none 0 0)).setCell ⟨w.heap.size + 1, 5, none⟩ (.int .i64 0)).setCell ⟨w.heap.size + 1, 6, none⟩ (.int .i64 cc) = w9 at O9 hb9  ⊢
    have oc0 := O9.cell (i := 0) rfl
    have oc1 := O9.cell (i := 1) rfl
    have oc2 := O9.cell (i := 2) rfl
    have oc3 := O9.cell (i := 3) rfl
    have oc4 := O9.cell (i := 4) rfl
    have oc5 := O9.cell (i := 5) rfl
    have oc6 := O9.cell (i := 6) rfl
    exact bodyPost_ret (v := .agg #[.string ⟨#[]⟩, .int .i64 0, .slice none 0 0, .slice none 0 0, .slice none 0 0, .int .i64 0, .int .i64 cc]) (by simp [results, Try.results77, go_sem, oc0, oc1, oc2, oc3, oc4, oc5, oc6]) rfl (by rw [HR.out]; exact ImO.ill hb9)
  have HZ : Hid (begC ⟨nm, bs, H, G⟩ gn true = 0) := Lib.hid (by rw [HCC.out]; exact hz)
  have hO := HT.out HZ.out
  have hbs := inB_true hO.2.1
  have hl : H.length ≤ 20 := hO.2.2.1
  clear hO HT HI HCC HZ0
  obtain ⟨ak, HAK⟩ : ∃ x, Hid (hg[kk].acked = x) := ⟨_, Lib.hid rfl⟩
  have HGD : Hid ((hg.getD kk zeroGrp).acked = ak) := Lib.hid (by rw [List.getD_eq_getElem?_getD, List.getElem?_eq_getElem hkl]; exact HAK.out)
  have EN := Lib.hid (fun W => l07End_any nm bs A H.length c (.slice B G.length d) (by omega) hbs.1 hbs.2 rfl W)
  have hkn : (kk : Int) < (hg.length : Int) := by omega
  cases back with
  | true =>
    have HX : Hid (setT ⟨nm, bs, H, G⟩ gn n true = moveA ⟨nm, bs, H, hg⟩ kk n (inB n bs (bs + (H.length : Int)))) := Lib.hid (by
      rw [setT_ok HZ.out]
      simp only [HHG.out, HKK.out]
      rfl)
    cases hI : inB n bs (bs + (H.length : Int)) with
    | false =>
      have IS := is3 hI
      have HR : Hid (setT ⟨nm, bs, H, G⟩ gn n true = ill 8) := Lib.hid (by rw [HX.out, hI]; rfl)
      go_enter Try.func77, Try.ntmps77
      go_wp2_with (fail)
      generalize (w.alloc (.cells #[.string nm, .int .i64 bs, .slice A H.length c, .slice B G.length d] 26)).alloc (.cells #[.string ⟨#[]⟩, .int .i64 0, .slice none 0 0, .slice none 0 0, .slice none 0 0, .int .i64 0, .int .i64 0] 30) = v0 at K O hb ⊢
      have hov := O.lt
      refine (BG.out _ hb).mono ?_
      rintro e w1 ⟨A8, a8, B8, b8, L, k, code, rfl, hcd, hok, hb1⟩
      replace K := K.below hb1 K.lt
      replace O := O.below hb1 O.lt
      replace hb := hb.trans (hb1.mono hb.size)
      obtain rfl : code = 0 := by rw [hcd]; exact hz
      obtain ⟨hL, rfl, oS, oG⟩ := hok rfl
      subst L
      clear hok hcd BG
      obtain ⟨bg, rfl⟩ : ∃ bg, B8 = some ⟨bg, 0, none⟩ := by
        rcases oG.2 with ⟨he, h0⟩ | ⟨g, cap, cur, he, _⟩
        · omega
        · injection he with e1; exact ⟨g, e1⟩
      have nb : w1.heap.size ≠ bg := fun e => by have := (oG.lt bg rfl).2; omega
      obtain ⟨ga0, ga1, gf0, gf1⟩ := row_grp (row_below oG (below_box w1 (.cells #[.string nm, .int .i64 bs, .slice A8 H.length a8, .slice (some ⟨bg, 0, none⟩) hg.length b8] 26)) (Nat.le_refl _)) hkl
      rw [HAK.out] at ga1
      clear ga0 gf0
      have P := Blk.fresh w1 26 [.string nm, .int .i64 bs, .slice A8 H.length a8, .slice (some ⟨bg, 0, none⟩) hg.length b8]
      have al := below_box w1 (.cells #[.string nm, .int .i64 bs, .slice A8 H.length a8, .slice (some ⟨bg, 0, none⟩) hg.length b8] 26)
      replace P : Blk (w1.alloc (.cells #[.string nm, .int .i64 bs, .slice A8 H.length a8, .slice (some ⟨bg, 0, none⟩) hg.length b8] 26)) w1.heap.size 26 [.string nm, .int .i64 bs, .slice A8 H.length a8, .slice (some ⟨bg, 0, none⟩) hg.length b8] := P
      replace oS := row_below oS al (Nat.le_refl _)
      replace oG := row_below oG al (Nat.le_refl _)
      replace K := K.below al K.lt
      replace O := O.below al O.lt
      replace hb := hb.trans (al.mono hb.size)
      have kc0 := K.cell (i := 0) rfl
      have kc1 := K.cell (i := 1) rfl
      have kc2 := K.cell (i := 2) rfl
      have kc3 := K.cell (i := 3) rfl
      have pc0 := P.cell (i := 0) rfl
      have pc1 := P.cell (i := 1) rfl
      have pc2 := P.cell (i := 2) rfl
      have pc3 := P.cell (i := 3) rfl
      go_wp2_with (fail)
      clear kc0 kc1 kc2 kc3
      generalize w1.alloc (.cells #[.string nm, .int .i64 bs, .slice A8 H.length a8, .slice (some ⟨bg, 0, none⟩) hg.length b8] 26) = w2 at P K O hb pc0 pc1 pc2 pc3 oS oG ⊢
      refine (EN.out _).mono ?_
      rintro e w3 ⟨rfl, hb3⟩
      replace P := P.below hb3 P.lt
      replace oS := row_below oS hb3 (Nat.le_refl _)
      replace oG := row_below oG hb3 (Nat.le_refl _)
      replace K := K.below hb3 K.lt
      replace O := O.below hb3 O.lt
      replace hb := hb.trans (hb3.mono hb.size)
      obtain ⟨ga0, ga1, gf0, gf1⟩ := row_grp oG hkl
      clear pc0 pc1 pc2 pc3 ga0 gf0
      go_wp2_with (fail)
      refine (IS _).mono ?_
      rintro e w3' ⟨rfl, rfl⟩
      go_wp2_with (fail)
      refine (l07Ill_any 8 _).mono ?_
      rintro e w3 ⟨rfl, hb3⟩
      replace K := K.below hb3 K.lt
      replace O := O.below hb3 O.lt
      replace hb := hb.trans (hb3.mono hb.size)
      have qc0 := O.cell (i := 0) rfl
      have qf0 := O.froz 0
      have qc1 := O.cell (i := 1) rfl
      have qf1 := O.froz 1
      have qc2 := O.cell (i := 2) rfl
      have qf2 := O.froz 2
      have qc3 := O.cell (i := 3) rfl
      have qf3 := O.froz 3
      have qc4 := O.cell (i := 4) rfl
      have qf4 := O.froz 4
      have qc5 := O.cell (i := 5) rfl
      have qf5 := O.froz 5
      have qc6 := O.cell (i := 6) rfl
      have qf6 := O.froz 6
      go_wp2
      clear qc0 qf0 qc1 qf1 qc2 qf2 qc3 qf3 qc4 qf4 qc5 qf5 qc6 qf6
      have O9 := (((((((O.put 0 (.string ⟨#[]⟩)).put 1 (.int .i64 0)).put 2 (.slice none 0 0)).put 3 (.slice none 0 0)).put 4 (.slice none 0 0)).put 5 (.int .i64 0)).put 6 (.int .i64 8))
      have hb9 := (((((((hb.setCell (p := ⟨w.heap.size + 1, 0, none⟩) (by simp <;> omega) (.string ⟨#[]⟩)).setCell (p := ⟨w.heap.size + 1, 1, none⟩) (by simp <;> omega) (.int .i64 0)).setCell (p := ⟨w.heap.size + 1, 2, none⟩) (by simp <;> omega) (.slice none 0 0)).setCell (p := ⟨w.heap.size + 1, 3, none⟩) (by simp <;> omega) (.slice none 0 0)).setCell (p := ⟨w.heap.size + 1, 4, none⟩) (by simp <;> omega) (.slice none 0 0)).setCell (p := ⟨w.heap.size + 1, 5, none⟩) (by simp <;> omega) (.int .i64 0)).setCell (p := ⟨w.heap.size + 1, 6, none⟩) (by simp <;> omega) (.int .i64 8))
      simp only [List.set_cons_succ, List.set_cons_zero] at O9
      generalize ((((((w3.setCell ⟨w.heap.size + 1, 0, none⟩ (.string ⟨#[]⟩)).setCell ⟨w.heap.size + 1, 1, none⟩ (.int .i64 0)).setCell ⟨w.heap.size + 1, 2, none⟩ (.slice none 0 0)).setCell ⟨w.heap.size + 1, 3, none⟩ (.slice none 0 0)).setCell ⟨w.heap.size + 1, 4, none⟩ (.slice none 0 0)).setCell ⟨w.heap.size + 1, 5, none⟩ (.int .i64 0)).setCell ⟨w.heap.size + 1, 6, none⟩ (.int .i64 8) = w9 at O9 hb9  ⊢
      have oc0 := O9.cell (i := 0) rfl
      have oc1 := O9.cell (i := 1) rfl
      have oc2 := O9.cell (i := 2) rfl
      have oc3 := O9.cell (i := 3) rfl
      have oc4 := O9.cell (i := 4) rfl
      have oc5 := O9.cell (i := 5) rfl
      have oc6 := O9.cell (i := 6) rfl
      exact bodyPost_ret (v := .agg #[.string ⟨#[]⟩, .int .i64 0, .slice none 0 0, .slice none 0 0, .slice none 0 0, .int .i64 0, .int .i64 8]) (by simp [results, Try.results77, go_sem, oc0, oc1, oc2, oc3, oc4, oc5, oc6]) rfl (by rw [HR.out]; exact ImO.ill hb9)
    | true =>
      have IS := is3 hI
      have HR : Hid (setT ⟨nm, bs, H, G⟩ gn n true = setA ⟨nm, bs, H, hg⟩ kk n) := Lib.hid (by rw [HX.out, hI]; rfl)
      go_enter Try.func77, Try.ntmps77
      go_wp2_with (fail)
      generalize (w.alloc (.cells #[.string nm, .int .i64 bs, .slice A H.length c, .slice B G.length d] 26)).alloc (.cells #[.string ⟨#[]⟩, .int .i64 0, .slice none 0 0, .slice none 0 0, .slice none 0 0, .int .i64 0, .int .i64 0] 30) = v0 at K O hb ⊢
      have hov := O.lt
      refine (BG.out _ hb).mono ?_
      rintro e w1 ⟨A8, a8, B8, b8, L, k, code, rfl, hcd, hok, hb1⟩
      replace K := K.below hb1 K.lt
      replace O := O.below hb1 O.lt
      replace hb := hb.trans (hb1.mono hb.size)
      obtain rfl : code = 0 := by rw [hcd]; exact hz
      obtain ⟨hL, rfl, oS, oG⟩ := hok rfl
      subst L
      clear hok hcd BG
      obtain ⟨bg, rfl⟩ : ∃ bg, B8 = some ⟨bg, 0, none⟩ := by
        rcases oG.2 with ⟨he, h0⟩ | ⟨g, cap, cur, he, _⟩
        · omega
        · injection he with e1; exact ⟨g, e1⟩
      have nb : w1.heap.size ≠ bg := fun e => by have := (oG.lt bg rfl).2; omega
      obtain ⟨ga0, ga1, gf0, gf1⟩ := row_grp (row_below oG (below_box w1 (.cells #[.string nm, .int .i64 bs, .slice A8 H.length a8, .slice (some ⟨bg, 0, none⟩) hg.length b8] 26)) (Nat.le_refl _)) hkl
      rw [HAK.out] at ga1
      clear ga0 gf0
      have P := Blk.fresh w1 26 [.string nm, .int .i64 bs, .slice A8 H.length a8, .slice (some ⟨bg, 0, none⟩) hg.length b8]
      have al := below_box w1 (.cells #[.string nm, .int .i64 bs, .slice A8 H.length a8, .slice (some ⟨bg, 0, none⟩) hg.length b8] 26)
      replace P : Blk (w1.alloc (.cells #[.string nm, .int .i64 bs, .slice A8 H.length a8, .slice (some ⟨bg, 0, none⟩) hg.length b8] 26)) w1.heap.size 26 [.string nm, .int .i64 bs, .slice A8 H.length a8, .slice (some ⟨bg, 0, none⟩) hg.length b8] := P
      replace oS := row_below oS al (Nat.le_refl _)
      replace oG := row_below oG al (Nat.le_refl _)
      replace K := K.below al K.lt
      replace O := O.below al O.lt
      replace hb := hb.trans (al.mono hb.size)
      have kc0 := K.cell (i := 0) rfl
      have kc1 := K.cell (i := 1) rfl
      have kc2 := K.cell (i := 2) rfl
      have kc3 := K.cell (i := 3) rfl
      have pc0 := P.cell (i := 0) rfl
      have pc1 := P.cell (i := 1) rfl
      have pc2 := P.cell (i := 2) rfl
      have pc3 := P.cell (i := 3) rfl
      go_wp2_with (fail)
      clear kc0 kc1 kc2 kc3
      generalize w1.alloc (.cells #[.string nm, .int .i64 bs, .slice A8 H.length a8, .slice (some ⟨bg, 0, none⟩) hg.length b8] 26) = w2 at P K O hb pc0 pc1 pc2 pc3 oS oG ⊢
      refine (EN.out _).mono ?_
      rintro e w3 ⟨rfl, hb3⟩
      replace P := P.below hb3 P.lt
      replace oS := row_below oS hb3 (Nat.le_refl _)
      replace oG := row_below oG hb3 (Nat.le_refl _)
      replace K := K.below hb3 K.lt
      replace O := O.below hb3 O.lt
      replace hb := hb.trans (hb3.mono hb.size)
      obtain ⟨ga0, ga1, gf0, gf1⟩ := row_grp oG hkl
      clear pc0 pc1 pc2 pc3 ga0 gf0
      go_wp2_with (fail)
      refine (IS _).mono ?_
      rintro e w3' ⟨rfl, rfl⟩
      have nPg : w1.heap.size ≠ bg := nb
      have nOg : w.heap.size + 1 ≠ bg := fun e => by have := (oG.lt bg rfl).1; omega
      have P5 := P.far (p := ⟨bg, kk * 2 + 1, none⟩) nPg (.int .i64 n)
      have O5 := O.far (p := ⟨bg, kk * 2 + 1, none⟩) nOg (.int .i64 n)
      have pc0 := P.cell (i := 0) rfl
      have pc1 := P.cell (i := 1) rfl
      have pc2 := P.cell (i := 2) rfl
      have pc3 := P.cell (i := 3) rfl
      have rc0 := P5.cell (i := 0) rfl
      have rc1 := P5.cell (i := 1) rfl
      have rc2 := P5.cell (i := 2) rfl
      have rc3 := P5.cell (i := 3) rfl
      have qc0 := O5.cell (i := 0) rfl
      have qf0 := O5.froz 0
      have qc1 := O5.cell (i := 1) rfl
      have qf1 := O5.froz 1
      have qc2 := O5.cell (i := 2) rfl
      have qf2 := O5.froz 2
      have qc3 := O5.cell (i := 3) rfl
      have qf3 := O5.froz 3
      have qc4 := O5.cell (i := 4) rfl
      have qf4 := O5.froz 4
      have qc5 := O5.cell (i := 5) rfl
      have qf5 := O5.froz 5
      have qc6 := O5.cell (i := 6) rfl
      have qf6 := O5.froz 6
      go_wp2
      clear qc0 qf0 qc1 qf1 qc2 qf2 qc3 qf3 qc4 qf4 qc5 qf5 qc6 qf6
      clear rc0 rc1 rc2 rc3
      clear pc0 pc1 pc2 pc3
      have hbl : w.heap.size ≤ bg := by have := (oG.lt bg rfl).1; omega
      have oS5 : OwnS (w3'.setCell ⟨bg, kk * 2 + 1, none⟩ (.int .i64 n)) v0.heap.size (.slice A8 H.length a8) H := row_off oS (p := ⟨bg, kk * 2 + 1, none⟩) (by
        rcases own_apart oS oG (by decide) with h | h
        · rw [h]; exact fun e => by cases e
        · exact h) _
      have oG5 := (World.ownsRow.stored oG (kk * 2 + 1) (.int .i64 n)).1
      rw [gflat_set1 hg hkl n] at oG5
      have hb5 := hb.setCell (p := ⟨bg, kk * 2 + 1, none⟩) hbl (.int .i64 n)
      clear O hb P P5 oS oG K
      generalize w3'.setCell ⟨bg, kk * 2 + 1, none⟩ (.int .i64 n) = w5 at O5 hb5 oS5 oG5 ⊢
      have O := O5
      have hb := hb5
      have O9 := (((((((O.put 0 (.string nm)).put 1 (.int .i64 bs)).put 2 (.slice A8 H.length a8)).put 3 (.slice (some ⟨bg, 0, none⟩) hg.length b8)).put 4 (.slice none 0 0)).put 5 (.int .i64 0)).put 6 (.int .i64 0))
      have hb9 := (((((((hb.setCell (p := ⟨w.heap.size + 1, 0, none⟩) (by simp <;> omega) (.string nm)).setCell (p := ⟨w.heap.size + 1, 1, none⟩) (by simp <;> omega) (.int .i64 bs)).setCell (p := ⟨w.heap.size + 1, 2, none⟩) (by simp <;> omega) (.slice A8 H.length a8)).setCell (p := ⟨w.heap.size + 1, 3, none⟩) (by simp <;> omega) (.slice (some ⟨bg, 0, none⟩) hg.length b8)).setCell (p := ⟨w.heap.size + 1, 4, none⟩) (by simp <;> omega) (.slice none 0 0)).setCell (p := ⟨w.heap.size + 1, 5, none⟩) (by simp <;> omega) (.int .i64 0)).setCell (p := ⟨w.heap.size + 1, 6, none⟩) (by simp <;> omega) (.int .i64 0))
      have oS59 := (row_far (row_far (row_far (row_far (row_far (row_far (row_far oS5 (p := ⟨w.heap.size + 1, 0, none⟩) (by simp <;> omega) (.string nm)) (p := ⟨w.heap.size + 1, 1, none⟩) (by simp <;> omega) (.int .i64 bs)) (p := ⟨w.heap.size + 1, 2, none⟩) (by simp <;> omega) (.slice A8 H.length a8)) (p := ⟨w.heap.size + 1, 3, none⟩) (by simp <;> omega) (.slice (some ⟨bg, 0, none⟩) hg.length b8)) (p := ⟨w.heap.size + 1, 4, none⟩) (by simp <;> omega) (.slice none 0 0)) (p := ⟨w.heap.size + 1, 5, none⟩) (by simp <;> omega) (.int .i64 0)) (p := ⟨w.heap.size + 1, 6, none⟩) (by simp <;> omega) (.int .i64 0))
      have oG59 := (row_far (row_far (row_far (row_far (row_far (row_far (row_far oG5 (p := ⟨w.heap.size + 1, 0, none⟩) (by simp <;> omega) (.string nm)) (p := ⟨w.heap.size + 1, 1, none⟩) (by simp <;> omega) (.int .i64 bs)) (p := ⟨w.heap.size + 1, 2, none⟩) (by simp <;> omega) (.slice A8 H.length a8)) (p := ⟨w.heap.size + 1, 3, none⟩) (by simp <;> omega) (.slice (some ⟨bg, 0, none⟩) hg.length b8)) (p := ⟨w.heap.size + 1, 4, none⟩) (by simp <;> omega) (.slice none 0 0)) (p := ⟨w.heap.size + 1, 5, none⟩) (by simp <;> omega) (.int .i64 0)) (p := ⟨w.heap.size + 1, 6, none⟩) (by simp <;> omega) (.int .i64 0))
      simp only [List.set_cons_succ, List.set_cons_zero] at O9
      generalize ((((((w5.setCell ⟨w.heap.size + 1, 0, none⟩ (.string nm)).setCell ⟨w.heap.size + 1, 1, none⟩ (.int .i64 bs)).setCell ⟨w.heap.size + 1, 2, none⟩ (.slice A8 H.length a8)).setCell ⟨w.heap.size + 1, 3, none⟩ (.slice (some ⟨bg, 0, none⟩) hg.length b8)).setCell ⟨w.heap.size + 1, 4, none⟩ (.slice none 0 0)).setCell ⟨w.heap.size + 1, 5, none⟩ (.int .i64 0)).setCell ⟨w.heap.size + 1, 6, none⟩ (.int .i64 0) = w9 at O9 hb9 oS59 oG59 ⊢
      have oc0 := O9.cell (i := 0) rfl
      have oc1 := O9.cell (i := 1) rfl
      have oc2 := O9.cell (i := 2) rfl
      have oc3 := O9.cell (i := 3) rfl
      have oc4 := O9.cell (i := 4) rfl
      have oc5 := O9.cell (i := 5) rfl
      have oc6 := O9.cell (i := 6) rfl
      exact bodyPost_ret (v := .agg #[.string nm, .int .i64 bs, .slice A8 H.length a8, .slice (some ⟨bg, 0, none⟩) hg.length b8, .slice none 0 0, .int .i64 0, .int .i64 0]) (by simp [results, Try.results77, go_sem, oc0, oc1, oc2, oc3, oc4, oc5, oc6]) rfl (set_end HR.out hkl (by omega) oS59 oG59 hb9)
  | false =>
    have HX : Hid (setT ⟨nm, bs, H, G⟩ gn n false = moveA ⟨nm, bs, H, hg⟩ kk n (inB n ak (bs + (H.length : Int)))) := Lib.hid (by
      rw [setT_ok HZ.out]
      simp only [HHG.out, HKK.out, HGD.out]
      rfl)
    cases hI : inB n ak (bs + (H.length : Int)) with
    | false =>
      have IS := is3 hI
      have HR : Hid (setT ⟨nm, bs, H, G⟩ gn n false = ill 8) := Lib.hid (by rw [HX.out, hI]; rfl)
      go_enter Try.func77, Try.ntmps77
      go_wp2_with (fail)
      generalize (w.alloc (.cells #[.string nm, .int .i64 bs, .slice A H.length c, .slice B G.length d] 26)).alloc (.cells #[.string ⟨#[]⟩, .int .i64 0, .slice none 0 0, .slice none 0 0, .slice none 0 0, .int .i64 0, .int .i64 0] 30) = v0 at K O hb ⊢
      have hov := O.lt
      refine (BG.out _ hb).mono ?_
      rintro e w1 ⟨A8, a8, B8, b8, L, k, code, rfl, hcd, hok, hb1⟩
      replace K := K.below hb1 K.lt
      replace O := O.below hb1 O.lt
      replace hb := hb.trans (hb1.mono hb.size)
      obtain rfl : code = 0 := by rw [hcd]; exact hz
      obtain ⟨hL, rfl, oS, oG⟩ := hok rfl
      subst L
      clear hok hcd BG
      obtain ⟨bg, rfl⟩ : ∃ bg, B8 = some ⟨bg, 0, none⟩ := by
        rcases oG.2 with ⟨he, h0⟩ | ⟨g, cap, cur, he, _⟩
        · omega
        · injection he with e1; exact ⟨g, e1⟩
      have nb : w1.heap.size ≠ bg := fun e => by have := (oG.lt bg rfl).2; omega
      obtain ⟨ga0, ga1, gf0, gf1⟩ := row_grp (row_below oG (below_box w1 (.cells #[.string nm, .int .i64 bs, .slice A8 H.length a8, .slice (some ⟨bg, 0, none⟩) hg.length b8] 26)) (Nat.le_refl _)) hkl
      rw [HAK.out] at ga1
      clear ga0 gf0
      have P := Blk.fresh w1 26 [.string nm, .int .i64 bs, .slice A8 H.length a8, .slice (some ⟨bg, 0, none⟩) hg.length b8]
      have al := below_box w1 (.cells #[.string nm, .int .i64 bs, .slice A8 H.length a8, .slice (some ⟨bg, 0, none⟩) hg.length b8] 26)
      replace P : Blk (w1.alloc (.cells #[.string nm, .int .i64 bs, .slice A8 H.length a8, .slice (some ⟨bg, 0, none⟩) hg.length b8] 26)) w1.heap.size 26 [.string nm, .int .i64 bs, .slice A8 H.length a8, .slice (some ⟨bg, 0, none⟩) hg.length b8] := P
      replace oS := row_below oS al (Nat.le_refl _)
      replace oG := row_below oG al (Nat.le_refl _)
      replace K := K.below al K.lt
      replace O := O.below al O.lt
      replace hb := hb.trans (al.mono hb.size)
      have kc0 := K.cell (i := 0) rfl
      have kc1 := K.cell (i := 1) rfl
      have kc2 := K.cell (i := 2) rfl
      have kc3 := K.cell (i := 3) rfl
      have pc0 := P.cell (i := 0) rfl
      have pc1 := P.cell (i := 1) rfl
      have pc2 := P.cell (i := 2) rfl
      have pc3 := P.cell (i := 3) rfl
      go_wp2_with (fail)
      clear kc0 kc1 kc2 kc3
      generalize w1.alloc (.cells #[.string nm, .int .i64 bs, .slice A8 H.length a8, .slice (some ⟨bg, 0, none⟩) hg.length b8] 26) = w2 at P K O hb pc0 pc1 pc2 pc3 oS oG ⊢
      refine (EN.out _).mono ?_
      rintro e w3 ⟨rfl, hb3⟩
      replace P := P.below hb3 P.lt
      replace oS := row_below oS hb3 (Nat.le_refl _)
      replace oG := row_below oG hb3 (Nat.le_refl _)
      replace K := K.below hb3 K.lt
      replace O := O.below hb3 O.lt
      replace hb := hb.trans (hb3.mono hb.size)
      obtain ⟨ga0, ga1, gf0, gf1⟩ := row_grp oG hkl
      clear pc0 pc1 pc2 pc3 ga0 gf0
      go_wp2_with (fail)
      refine (IS _).mono ?_
      rintro e w3' ⟨rfl, rfl⟩
      go_wp2_with (fail)
      refine (l07Ill_any 8 _).mono ?_
      rintro e w3 ⟨rfl, hb3⟩
      replace K := K.below hb3 K.lt
      replace O := O.below hb3 O.lt
      replace hb := hb.trans (hb3.mono hb.size)
      have qc0 := O.cell (i := 0) rfl
      have qf0 := O.froz 0
      have qc1 := O.cell (i := 1) rfl
      have qf1 := O.froz 1
      have qc2 := O.cell (i := 2) rfl
      have qf2 := O.froz 2
      have qc3 := O.cell (i := 3) rfl
      have qf3 := O.froz 3
      have qc4 := O.cell (i := 4) rfl
      have qf4 := O.froz 4
      have qc5 := O.cell (i := 5) rfl
      have qf5 := O.froz 5
      have qc6 := O.cell (i := 6) rfl
      have qf6 := O.froz 6
      go_wp2
      clear qc0 qf0 qc1 qf1 qc2 qf2 qc3 qf3 qc4 qf4 qc5 qf5 qc6 qf6
      have O9 := (((((((O.put 0 (.string ⟨#[]⟩)).put 1 (.int .i64 0)).put 2 (.slice none 0 0)).put 3 (.slice none 0 0)).put 4 (.slice none 0 0)).put 5 (.int .i64 0)).put 6 (.int .i64 8))
      have hb9 := (((((((hb.setCell (p := ⟨w.heap.size + 1, 0, none⟩) (by simp <;> omega) (.string ⟨#[]⟩)).setCell (p := ⟨w.heap.size + 1, 1, none⟩) (by simp <;> omega) (.int .i64 0)).setCell (p := ⟨w.heap.size + 1, 2, none⟩) (by simp <;> omega) (.slice none 0 0)).setCell (p := ⟨w.heap.size + 1, 3, none⟩) (by simp <;> omega) (.slice none 0 0)).setCell (p := ⟨w.heap.size + 1, 4, none⟩) (by simp <;> omega) (.slice none 0 0)).setCell (p := ⟨w.heap.size + 1, 5, none⟩) (by simp <;> omega) (.int .i64 0)).setCell (p := ⟨w.heap.size + 1, 6, none⟩) (by simp <;> omega) (.int .i64 8))
      simp only [List.set_cons_succ, List.set_cons_zero] at O9
      generalize ((((((w3.setCell ⟨w.heap.size + 1, 0, none⟩ (.string ⟨#[]⟩)).setCell ⟨w.heap.size + 1, 1, none⟩ (.int .i64 0)).setCell ⟨w.heap.size + 1, 2, none⟩ (.slice none 0 0)).setCell ⟨w.heap.size + 1, 3, none⟩ (.slice none 0 0)).setCell ⟨w.heap.size + 1, 4, none⟩ (.slice none 0 0)).setCell ⟨w.heap.size + 1, 5, none⟩ (.int .i64 0)).setCell ⟨w.heap.size + 1, 6, none⟩ (.int .i64 8) = w9 at O9 hb9  ⊢
      have oc0 := O9.cell (i := 0) rfl
      have oc1 := O9.cell (i := 1) rfl
      have oc2 := O9.cell (i := 2) rfl
      have oc3 := O9.cell (i := 3) rfl
      have oc4 := O9.cell (i := 4) rfl
      have oc5 := O9.cell (i := 5) rfl
      have oc6 := O9.cell (i := 6) rfl
      exact bodyPost_ret (v := .agg #[.string ⟨#[]⟩, .int .i64 0, .slice none 0 0, .slice none 0 0, .slice none 0 0, .int .i64 0, .int .i64 8]) (by simp [results, Try.results77, go_sem, oc0, oc1, oc2, oc3, oc4, oc5, oc6]) rfl (by rw [HR.out]; exact ImO.ill hb9)
    | true =>
      have IS := is3 hI
      have HR : Hid (setT ⟨nm, bs, H, G⟩ gn n false = setA ⟨nm, bs, H, hg⟩ kk n) := Lib.hid (by rw [HX.out, hI]; rfl)
      go_enter Try.func77, Try.ntmps77
      go_wp2_with (fail)
      generalize (w.alloc (.cells #[.string nm, .int .i64 bs, .slice A H.length c, .slice B G.length d] 26)).alloc (.cells #[.string ⟨#[]⟩, .int .i64 0, .slice none 0 0, .slice none 0 0, .slice none 0 0, .int .i64 0, .int .i64 0] 30) = v0 at K O hb ⊢
      have hov := O.lt
      refine (BG.out _ hb).mono ?_
      rintro e w1 ⟨A8, a8, B8, b8, L, k, code, rfl, hcd, hok, hb1⟩
      replace K := K.below hb1 K.lt
      replace O := O.below hb1 O.lt
      replace hb := hb.trans (hb1.mono hb.size)
      obtain rfl : code = 0 := by rw [hcd]; exact hz
      obtain ⟨hL, rfl, oS, oG⟩ := hok rfl
      subst L
      clear hok hcd BG
      obtain ⟨bg, rfl⟩ : ∃ bg, B8 = some ⟨bg, 0, none⟩ := by
        rcases oG.2 with ⟨he, h0⟩ | ⟨g, cap, cur, he, _⟩
        · omega
        · injection he with e1; exact ⟨g, e1⟩
      have nb : w1.heap.size ≠ bg := fun e => by have := (oG.lt bg rfl).2; omega
      obtain ⟨ga0, ga1, gf0, gf1⟩ := row_grp (row_below oG (below_box w1 (.cells #[.string nm, .int .i64 bs, .slice A8 H.length a8, .slice (some ⟨bg, 0, none⟩) hg.length b8] 26)) (Nat.le_refl _)) hkl
      rw [HAK.out] at ga1
      clear ga0 gf0
      have P := Blk.fresh w1 26 [.string nm, .int .i64 bs, .slice A8 H.length a8, .slice (some ⟨bg, 0, none⟩) hg.length b8]
      have al := below_box w1 (.cells #[.string nm, .int .i64 bs, .slice A8 H.length a8, .slice (some ⟨bg, 0, none⟩) hg.length b8] 26)
      replace P : Blk (w1.alloc (.cells #[.string nm, .int .i64 bs, .slice A8 H.length a8, .slice (some ⟨bg, 0, none⟩) hg.length b8] 26)) w1.heap.size 26 [.string nm, .int .i64 bs, .slice A8 H.length a8, .slice (some ⟨bg, 0, none⟩) hg.length b8] := P
      replace oS := row_below oS al (Nat.le_refl _)
      replace oG := row_below oG al (Nat.le_refl _)
      replace K := K.below al K.lt
      replace O := O.below al O.lt
      replace hb := hb.trans (al.mono hb.size)
      have kc0 := K.cell (i := 0) rfl
      have kc1 := K.cell (i := 1) rfl
      have kc2 := K.cell (i := 2) rfl
      have kc3 := K.cell (i := 3) rfl
      have pc0 := P.cell (i := 0) rfl
      have pc1 := P.cell (i := 1) rfl
      have pc2 := P.cell (i := 2) rfl
      have pc3 := P.cell (i := 3) rfl
      go_wp2_with (fail)
      clear kc0 kc1 kc2 kc3
      generalize w1.alloc (.cells #[.string nm, .int .i64 bs, .slice A8 H.length a8, .slice (some ⟨bg, 0, none⟩) hg.length b8] 26) = w2 at P K O hb pc0 pc1 pc2 pc3 oS oG ⊢
      refine (EN.out _).mono ?_
      rintro e w3 ⟨rfl, hb3⟩
      replace P := P.below hb3 P.lt
      replace oS := row_below oS hb3 (Nat.le_refl _)
      replace oG := row_below oG hb3 (Nat.le_refl _)
      replace K := K.below hb3 K.lt
      replace O := O.below hb3 O.lt
      replace hb := hb.trans (hb3.mono hb.size)
      obtain ⟨ga0, ga1, gf0, gf1⟩ := row_grp oG hkl
      clear pc0 pc1 pc2 pc3 ga0 gf0
      go_wp2_with (fail)
      refine (IS _).mono ?_
      rintro e w3' ⟨rfl, rfl⟩
      have nPg : w1.heap.size ≠ bg := nb
      have nOg : w.heap.size + 1 ≠ bg := fun e => by have := (oG.lt bg rfl).1; omega
      have P5 := P.far (p := ⟨bg, kk * 2 + 1, none⟩) nPg (.int .i64 n)
      have O5 := O.far (p := ⟨bg, kk * 2 + 1, none⟩) nOg (.int .i64 n)
      have pc0 := P.cell (i := 0) rfl
      have pc1 := P.cell (i := 1) rfl
      have pc2 := P.cell (i := 2) rfl
      have pc3 := P.cell (i := 3) rfl
      have rc0 := P5.cell (i := 0) rfl
      have rc1 := P5.cell (i := 1) rfl
      have rc2 := P5.cell (i := 2) rfl
      have rc3 := P5.cell (i := 3) rfl
      have qc0 := O5.cell (i := 0) rfl
      have qf0 := O5.froz 0
      have qc1 := O5.cell (i := 1) rfl
      have qf1 := O5.froz 1
      have qc2 := O5.cell (i := 2) rfl
      have qf2 := O5.froz 2
      have qc3 := O5.cell (i := 3) rfl
      have qf3 := O5.froz 3
      have qc4 := O5.cell (i := 4) rfl
      have qf4 := O5.froz 4
      have qc5 := O5.cell (i := 5) rfl
      have qf5 := O5.froz 5
      have qc6 := O5.cell (i := 6) rfl
      have qf6 := O5.froz 6
      go_wp2
      clear qc0 qf0 qc1 qf1 qc2 qf2 qc3 qf3 qc4 qf4 qc5 qf5 qc6 qf6
      clear rc0 rc1 rc2 rc3
      clear pc0 pc1 pc2 pc3
      have hbl : w.heap.size ≤ bg := by have := (oG.lt bg rfl).1; omega
      have oS5 : OwnS (w3'.setCell ⟨bg, kk * 2 + 1, none⟩ (.int .i64 n)) v0.heap.size (.slice A8 H.length a8) H := row_off oS (p := ⟨bg, kk * 2 + 1, none⟩) (by
        rcases own_apart oS oG (by decide) with h | h
        · rw [h]; exact fun e => by cases e
        · exact h) _
      have oG5 := (World.ownsRow.stored oG (kk * 2 + 1) (.int .i64 n)).1
      rw [gflat_set1 hg hkl n] at oG5
      have hb5 := hb.setCell (p := ⟨bg, kk * 2 + 1, none⟩) hbl (.int .i64 n)
      clear O hb P P5 oS oG K
      generalize w3'.setCell ⟨bg, kk * 2 + 1, none⟩ (.int .i64 n) = w5 at O5 hb5 oS5 oG5 ⊢
      have O := O5
      have hb := hb5
      have O9 := (((((((O.put 0 (.string nm)).put 1 (.int .i64 bs)).put 2 (.slice A8 H.length a8)).put 3 (.slice (some ⟨bg, 0, none⟩) hg.length b8)).put 4 (.slice none 0 0)).put 5 (.int .i64 0)).put 6 (.int .i64 0))
      have hb9 := (((((((hb.setCell (p := ⟨w.heap.size + 1, 0, none⟩) (by simp <;> omega) (.string nm)).setCell (p := ⟨w.heap.size + 1, 1, none⟩) (by simp <;> omega) (.int .i64 bs)).setCell (p := ⟨w.heap.size + 1, 2, none⟩) (by simp <;> omega) (.slice A8 H.length a8)).setCell (p := ⟨w.heap.size + 1, 3, none⟩) (by simp <;> omega) (.slice (some ⟨bg, 0, none⟩) hg.length b8)).setCell (p := ⟨w.heap.size + 1, 4, none⟩) (by simp <;> omega) (.slice none 0 0)).setCell (p := ⟨w.heap.size + 1, 5, none⟩) (by simp <;> omega) (.int .i64 0)).setCell (p := ⟨w.heap.size + 1, 6, none⟩) (by simp <;> omega) (.int .i64 0))
      have oS59 := (row_far (row_far (row_far (row_far (row_far (row_far (row_far oS5 (p := ⟨w.heap.size + 1, 0, none⟩) (by simp <;> omega) (.string nm)) (p := ⟨w.heap.size + 1, 1, none⟩) (by simp <;> omega) (.int .i64 bs)) (p := ⟨w.heap.size + 1, 2, none⟩) (by simp <;> omega) (.slice A8 H.length a8)) (p := ⟨w.heap.size + 1, 3, none⟩) (by simp <;> omega) (.slice (some ⟨bg, 0, none⟩) hg.length b8)) (p := ⟨w.heap.size + 1, 4, none⟩) (by simp <;> omega) (.slice none 0 0)) (p := ⟨w.heap.size + 1, 5, none⟩) (by simp <;> omega) (.int .i64 0)) (p := ⟨w.heap.size + 1, 6, none⟩) (by simp <;> omega) (.int .i64 0))
      have oG59 := (row_far (row_far (row_far (row_far (row_far (row_far (row_far oG5 (p := ⟨w.heap.size + 1, 0, none⟩) (by simp <;> omega) (.string nm)) (p := ⟨w.heap.size + 1, 1, none⟩) (by simp <;> omega) (.int .i64 bs)) (p := ⟨w.heap.size + 1, 2, none⟩) (by simp <;> omega) (.slice A8 H.length a8)) (p := ⟨w.heap.size + 1, 3, none⟩) (by simp <;> omega) (.slice (some ⟨bg, 0, none⟩) hg.length b8)) (p := ⟨w.heap.size + 1, 4, none⟩) (by simp <;> omega) (.slice none 0 0)) (p := ⟨w.heap.size + 1, 5, none⟩) (by simp <;> omega) (.int .i64 0)) (p := ⟨w.heap.size + 1, 6, none⟩) (by simp <;> omega) (.int .i64 0))
      simp only [List.set_cons_succ, List.set_cons_zero] at O9
      generalize ((((((w5.setCell ⟨w.heap.size + 1, 0, none⟩ (.string nm)).setCell ⟨w.heap.size + 1, 1, none⟩ (.int .i64 bs)).setCell ⟨w.heap.size + 1, 2, none⟩ (.slice A8 H.length a8)).setCell ⟨w.heap.size + 1, 3, none⟩ (.slice (some ⟨bg, 0, none⟩) hg.length b8)).setCell ⟨w.heap.size + 1, 4, none⟩ (.slice none 0 0)).setCell ⟨w.heap.size + 1, 5, none⟩ (.int .i64 0)).setCell ⟨w.heap.size + 1, 6, none⟩ (.int .i64 0) = w9 at O9 hb9 oS59 oG59 ⊢
      have oc0 := O9.cell (i := 0) rfl
      have oc1 := O9.cell (i := 1) rfl
      have oc2 := O9.cell (i := 2) rfl
      have oc3 := O9.cell (i := 3) rfl
      have oc4 := O9.cell (i := 4) rfl
      have oc5 := O9.cell (i := 5) rfl
      have oc6 := O9.cell (i := 6) rfl
      exact bodyPost_ret (v := .agg #[.string nm, .int .i64 bs, .slice A8 H.length a8, .slice (some ⟨bg, 0, none⟩) hg.length b8, .slice none 0 0, .int .i64 0, .int .i64 0]) (by simp [results, Try.results77, go_sem, oc0, oc1, oc2, oc3, oc4, oc5, oc6]) rfl (set_end HR.out hkl (by omega) oS59 oG59 hb9)
end Go.Proofs.Ytjnbhppnchmeoaa

namespace Go.Proofs.Ytjnbhppnchmeoaa
open Go.RowKit
set_option linter.unusedVariables false
set_option maxRecDepth 1000000
theorem set_small (t : Tpc) (gn : ByteArray) (n : Int) (back : Bool) : (setT t gn n back).o.held.length ≤ maxLen ∧ (setT t gn n back).o.groups.length ≤ maxLen ∧ (setT t gn n back).texts.length ≤ maxLen ∧ 1 + (setT t gn n back).o.held.length + 2 * (setT t gn n back).o.groups.length + (setT t gn n back).texts.length ≤ 3900001 := by
  by_cases h : begC t gn true = 0
  · have ho := beg_top h
    have h1 := ho.2.2.1
    have h2 := ho.2.2.2.2.1
    have h3 := hasG_len t gn
    rw [setT_ok h]
    generalize inB n _ _ = r
    unfold moveA
    cases r with
    | true => simp [setA, maxLen]; omega
    | false => simp [ill, maxLen]
  · rw [setT_ill h]
    simp [ill, maxLen]
set_option maxHeartbeats 8000000 in
theorem specTopicAck_any (t : Tpc) (gn : ByteArray) (n : Int) (A : Option Addr) (c : Nat) (B : Option Addr) (d : Nat) (w : World) (hf : t.fits) (hs : gn.size ≤ maxLen) (hA : Strs w w.heap.size A t.held) (hB : Grs w w.heap.size B t.groups) (hc : Cap A t.held.length c) (hd : Cap B t.groups.length d) :
    Calls Try.prog 27 #[topV t.name t.base (.slice A t.held.length c) (.slice B t.groups.length d), .string gn, .int .i64 n] w fun e w' => SpO w w' e (setT t gn n false) := by
  have LS := Lib.hid (fun W (h : Below w.heap.size w W) => l07Set_any t gn n false A c B d W hf hs (hA.on h) (hB.on h) hc hd)
  obtain ⟨z1, z2, z3, z4⟩ := set_small t gn n false
  refine Calls.mono (R := fun e w' => ImO w w' e (setT t gn n false)) ?_ (fun e w' h => ImO.sp h z1 z2 z3)
  clear z1 z2 z3 z4
  generalize setT t gn n false = R at LS ⊢
  obtain ⟨nm, bs, H, G⟩ := t
  simp only at hA hB hc hd LS ⊢
  have K := (Blk.fresh w 26 [.string nm, .int .i64 bs, .slice A H.length c, .slice B G.length d]).alloc (.cells #[.string ⟨#[]⟩, .int .i64 0, .slice none 0 0, .slice none 0 0, .slice none 0 0, .int .i64 0, .int .i64 0] 30)
  have O := Blk.fresh (w.alloc (.cells #[.string nm, .int .i64 bs, .slice A H.length c, .slice B G.length d] 26)) 30 [.string ⟨#[]⟩, .int .i64 0, .slice none 0 0, .slice none 0 0, .slice none 0 0, .int .i64 0, .int .i64 0]
  have hb : Below w.heap.size w ((w.alloc (.cells #[.string nm, .int .i64 bs, .slice A H.length c, .slice B G.length d] 26)).alloc (.cells #[.string ⟨#[]⟩, .int .i64 0, .slice none 0 0, .slice none 0 0, .slice none 0 0, .int .i64 0, .int .i64 0] 30)) := ((Below.refl _ _).alloc (Nat.le_refl _) _).alloc (by simp) _
  simp only [World.size_alloc] at K O
  replace K : Blk ((w.alloc (.cells #[.string nm, .int .i64 bs, .slice A H.length c, .slice B G.length d] 26)).alloc (.cells #[.string ⟨#[]⟩, .int .i64 0, .slice none 0 0, .slice none 0 0, .slice none 0 0, .int .i64 0, .int .i64 0] 30)) w.heap.size 26 [.string nm, .int .i64 bs, .slice A H.length c, .slice B G.length d] := K
  replace O : Blk ((w.alloc (.cells #[.string nm, .int .i64 bs, .slice A H.length c, .slice B G.length d] 26)).alloc (.cells #[.string ⟨#[]⟩, .int .i64 0, .slice none 0 0, .slice none 0 0, .slice none 0 0, .int .i64 0, .int .i64 0] 30)) (w.heap.size + 1) 30 [.string ⟨#[]⟩, .int .i64 0, .slice none 0 0, .slice none 0 0, .slice none 0 0, .int .i64 0, .int .i64 0] := O
  have kc0 := K.cell (i := 0) rfl
  have kc1 := K.cell (i := 1) rfl
  have kc2 := K.cell (i := 2) rfl
  have kc3 := K.cell (i := 3) rfl
  go_enter Try.func27, Try.ntmps27
  go_wp2_with (fail)
  clear kc0 kc1 kc2 kc3
  generalize (w.alloc (.cells #[.string nm, .int .i64 bs, .slice A H.length c, .slice B G.length d] 26)).alloc (.cells #[.string ⟨#[]⟩, .int .i64 0, .slice none 0 0, .slice none 0 0, .slice none 0 0, .int .i64 0, .int .i64 0] 30) = v0 at K O hb ⊢
  obtain ⟨⟨on, ob, oH, oG⟩, N, rn, co⟩ := R
  have ho0 := O.lt
  refine (LS.out _ hb).mono ?_
  rintro e w1 ⟨A1, a1, B1, b1, T1, x1, rfl, sA, sB, sT, hap, cA, cB, hb1⟩
  simp only at sA sB sT cA cB
  replace O := O.below hb1 O.lt
  have hv0 := hb.size
  replace hb := hb.trans (hb1.mono hb.size)
  replace sA := sA.wide hv0 (Nat.le_refl _)
  replace sB := sB.wide hv0 (Nat.le_refl _)
  replace sT := sT.wide hv0 (Nat.le_refl _)
  have qc0 := O.cell (i := 0) rfl
  have qf0 := O.froz 0
  have qc1 := O.cell (i := 1) rfl
  have qf1 := O.froz 1
  have qc2 := O.cell (i := 2) rfl
  have qf2 := O.froz 2
  have qc3 := O.cell (i := 3) rfl
  have qf3 := O.froz 3
  have qc4 := O.cell (i := 4) rfl
  have qf4 := O.froz 4
  have qc5 := O.cell (i := 5) rfl
  have qf5 := O.froz 5
  have qc6 := O.cell (i := 6) rfl
  have qf6 := O.froz 6
  go_wp2
  clear qc0 qf0 qc1 qf1 qc2 qf2 qc3 qf3 qc4 qf4 qc5 qf5 qc6 qf6
  have hsz : (((((((w1.setCell ⟨w.heap.size + 1, 0, none⟩ (.string on)).setCell ⟨w.heap.size + 1, 1, none⟩ (.int .i64 ob)).setCell ⟨w.heap.size + 1, 2, none⟩ (.slice A1 oH.length a1)).setCell ⟨w.heap.size + 1, 3, none⟩ (.slice B1 oG.length b1)).setCell ⟨w.heap.size + 1, 4, none⟩ (.slice T1 N.length x1)).setCell ⟨w.heap.size + 1, 5, none⟩ (.int .i64 rn)).setCell ⟨w.heap.size + 1, 6, none⟩ (.int .i64 co)).heap.size = w1.heap.size := by simp [World.setCell]
  have rA := (((((((sA.off O (by decide) 0 (.string on)).off (O.put 0 (.string on)) (by decide) 1 (.int .i64 ob)).off ((O.put 0 (.string on)).put 1 (.int .i64 ob)) (by decide) 2 (.slice A1 oH.length a1)).off (((O.put 0 (.string on)).put 1 (.int .i64 ob)).put 2 (.slice A1 oH.length a1)) (by decide) 3 (.slice B1 oG.length b1)).off ((((O.put 0 (.string on)).put 1 (.int .i64 ob)).put 2 (.slice A1 oH.length a1)).put 3 (.slice B1 oG.length b1)) (by decide) 4 (.slice T1 N.length x1)).off (((((O.put 0 (.string on)).put 1 (.int .i64 ob)).put 2 (.slice A1 oH.length a1)).put 3 (.slice B1 oG.length b1)).put 4 (.slice T1 N.length x1)) (by decide) 5 (.int .i64 rn)).off ((((((O.put 0 (.string on)).put 1 (.int .i64 ob)).put 2 (.slice A1 oH.length a1)).put 3 (.slice B1 oG.length b1)).put 4 (.slice T1 N.length x1)).put 5 (.int .i64 rn)) (by decide) 6 (.int .i64 co))
  have rB := (((((((sB.off O (by decide) 0 (.string on)).off (O.put 0 (.string on)) (by decide) 1 (.int .i64 ob)).off ((O.put 0 (.string on)).put 1 (.int .i64 ob)) (by decide) 2 (.slice A1 oH.length a1)).off (((O.put 0 (.string on)).put 1 (.int .i64 ob)).put 2 (.slice A1 oH.length a1)) (by decide) 3 (.slice B1 oG.length b1)).off ((((O.put 0 (.string on)).put 1 (.int .i64 ob)).put 2 (.slice A1 oH.length a1)).put 3 (.slice B1 oG.length b1)) (by decide) 4 (.slice T1 N.length x1)).off (((((O.put 0 (.string on)).put 1 (.int .i64 ob)).put 2 (.slice A1 oH.length a1)).put 3 (.slice B1 oG.length b1)).put 4 (.slice T1 N.length x1)) (by decide) 5 (.int .i64 rn)).off ((((((O.put 0 (.string on)).put 1 (.int .i64 ob)).put 2 (.slice A1 oH.length a1)).put 3 (.slice B1 oG.length b1)).put 4 (.slice T1 N.length x1)).put 5 (.int .i64 rn)) (by decide) 6 (.int .i64 co))
  have rT := (((((((sT.off O (by decide) 0 (.string on)).off (O.put 0 (.string on)) (by decide) 1 (.int .i64 ob)).off ((O.put 0 (.string on)).put 1 (.int .i64 ob)) (by decide) 2 (.slice A1 oH.length a1)).off (((O.put 0 (.string on)).put 1 (.int .i64 ob)).put 2 (.slice A1 oH.length a1)) (by decide) 3 (.slice B1 oG.length b1)).off ((((O.put 0 (.string on)).put 1 (.int .i64 ob)).put 2 (.slice A1 oH.length a1)).put 3 (.slice B1 oG.length b1)) (by decide) 4 (.slice T1 N.length x1)).off (((((O.put 0 (.string on)).put 1 (.int .i64 ob)).put 2 (.slice A1 oH.length a1)).put 3 (.slice B1 oG.length b1)).put 4 (.slice T1 N.length x1)) (by decide) 5 (.int .i64 rn)).off ((((((O.put 0 (.string on)).put 1 (.int .i64 ob)).put 2 (.slice A1 oH.length a1)).put 3 (.slice B1 oG.length b1)).put 4 (.slice T1 N.length x1)).put 5 (.int .i64 rn)) (by decide) 6 (.int .i64 co))
  have O9 := (((((((O.put 0 (.string on)).put 1 (.int .i64 ob)).put 2 (.slice A1 oH.length a1)).put 3 (.slice B1 oG.length b1)).put 4 (.slice T1 N.length x1)).put 5 (.int .i64 rn)).put 6 (.int .i64 co))
  have hb9 := (((((((hb.setCell (p := ⟨w.heap.size + 1, 0, none⟩) (by simp <;> omega) (.string on)).setCell (p := ⟨w.heap.size + 1, 1, none⟩) (by simp <;> omega) (.int .i64 ob)).setCell (p := ⟨w.heap.size + 1, 2, none⟩) (by simp <;> omega) (.slice A1 oH.length a1)).setCell (p := ⟨w.heap.size + 1, 3, none⟩) (by simp <;> omega) (.slice B1 oG.length b1)).setCell (p := ⟨w.heap.size + 1, 4, none⟩) (by simp <;> omega) (.slice T1 N.length x1)).setCell (p := ⟨w.heap.size + 1, 5, none⟩) (by simp <;> omega) (.int .i64 rn)).setCell (p := ⟨w.heap.size + 1, 6, none⟩) (by simp <;> omega) (.int .i64 co))
  simp only [List.set_cons_succ, List.set_cons_zero] at O9
  generalize ((((((w1.setCell ⟨w.heap.size + 1, 0, none⟩ (.string on)).setCell ⟨w.heap.size + 1, 1, none⟩ (.int .i64 ob)).setCell ⟨w.heap.size + 1, 2, none⟩ (.slice A1 oH.length a1)).setCell ⟨w.heap.size + 1, 3, none⟩ (.slice B1 oG.length b1)).setCell ⟨w.heap.size + 1, 4, none⟩ (.slice T1 N.length x1)).setCell ⟨w.heap.size + 1, 5, none⟩ (.int .i64 rn)).setCell ⟨w.heap.size + 1, 6, none⟩ (.int .i64 co) = w9 at O9 hb9 hsz rA rB rT  ⊢
  have oc0 := O9.cell (i := 0) rfl
  have oc1 := O9.cell (i := 1) rfl
  have oc2 := O9.cell (i := 2) rfl
  have oc3 := O9.cell (i := 3) rfl
  have oc4 := O9.cell (i := 4) rfl
  have oc5 := O9.cell (i := 5) rfl
  have oc6 := O9.cell (i := 6) rfl
  exact bodyPost_ret (v := .agg #[.string on, .int .i64 ob, .slice A1 oH.length a1, .slice B1 oG.length b1, .slice T1 N.length x1, .int .i64 rn, .int .i64 co]) (by simp [results, Try.results27, go_sem, oc0, oc1, oc2, oc3, oc4, oc5, oc6]) rfl (pub_out hsz rA rB rT hap cA cB hb9)
set_option maxHeartbeats 8000000 in
theorem specTopicSeek_any (t : Tpc) (gn : ByteArray) (n : Int) (A : Option Addr) (c : Nat) (B : Option Addr) (d : Nat) (w : World) (hf : t.fits) (hs : gn.size ≤ maxLen) (hA : Strs w w.heap.size A t.held) (hB : Grs w w.heap.size B t.groups) (hc : Cap A t.held.length c) (hd : Cap B t.groups.length d) :
    Calls Try.prog 107 #[topV t.name t.base (.slice A t.held.length c) (.slice B t.groups.length d), .string gn, .int .i64 n] w fun e w' => SpO w w' e (setT t gn n true) := by
  have LS := Lib.hid (fun W (h : Below w.heap.size w W) => l07Set_any t gn n true A c B d W hf hs (hA.on h) (hB.on h) hc hd)
  obtain ⟨z1, z2, z3, z4⟩ := set_small t gn n true
  refine Calls.mono (R := fun e w' => ImO w w' e (setT t gn n true)) ?_ (fun e w' h => ImO.sp h z1 z2 z3)
  clear z1 z2 z3 z4
  generalize setT t gn n true = R at LS ⊢
  obtain ⟨nm, bs, H, G⟩ := t
  simp only at hA hB hc hd LS ⊢
  have K := (Blk.fresh w 26 [.string nm, .int .i64 bs, .slice A H.length c, .slice B G.length d]).alloc (.cells #[.string ⟨#[]⟩, .int .i64 0, .slice none 0 0, .slice none 0 0, .slice none 0 0, .int .i64 0, .int .i64 0] 30)
  have O := Blk.fresh (w.alloc (.cells #[.string nm, .int .i64 bs, .slice A H.length c, .slice B G.length d] 26)) 30 [.string ⟨#[]⟩, .int .i64 0, .slice none 0 0, .slice none 0 0, .slice none 0 0, .int .i64 0, .int .i64 0]
  have hb : Below w.heap.size w ((w.alloc (.cells #[.string nm, .int .i64 bs, .slice A H.length c, .slice B G.length d] 26)).alloc (.cells #[.string ⟨#[]⟩, .int .i64 0, .slice none 0 0, .slice none 0 0, .slice none 0 0, .int .i64 0, .int .i64 0] 30)) := ((Below.refl _ _).alloc (Nat.le_refl _) _).alloc (by simp) _
  simp only [World.size_alloc] at K O
  replace K : Blk ((w.alloc (.cells #[.string nm, .int .i64 bs, .slice A H.length c, .slice B G.length d] 26)).alloc (.cells #[.string ⟨#[]⟩, .int .i64 0, .slice none 0 0, .slice none 0 0, .slice none 0 0, .int .i64 0, .int .i64 0] 30)) w.heap.size 26 [.string nm, .int .i64 bs, .slice A H.length c, .slice B G.length d] := K
  replace O : Blk ((w.alloc (.cells #[.string nm, .int .i64 bs, .slice A H.length c, .slice B G.length d] 26)).alloc (.cells #[.string ⟨#[]⟩, .int .i64 0, .slice none 0 0, .slice none 0 0, .slice none 0 0, .int .i64 0, .int .i64 0] 30)) (w.heap.size + 1) 30 [.string ⟨#[]⟩, .int .i64 0, .slice none 0 0, .slice none 0 0, .slice none 0 0, .int .i64 0, .int .i64 0] := O
  have kc0 := K.cell (i := 0) rfl
  have kc1 := K.cell (i := 1) rfl
  have kc2 := K.cell (i := 2) rfl
  have kc3 := K.cell (i := 3) rfl
  go_enter Try.func107, Try.ntmps107
  go_wp2_with (fail)
  clear kc0 kc1 kc2 kc3
  generalize (w.alloc (.cells #[.string nm, .int .i64 bs, .slice A H.length c, .slice B G.length d] 26)).alloc (.cells #[.string ⟨#[]⟩, .int .i64 0, .slice none 0 0, .slice none 0 0, .slice none 0 0, .int .i64 0, .int .i64 0] 30) = v0 at K O hb ⊢
  obtain ⟨⟨on, ob, oH, oG⟩, N, rn, co⟩ := R
  have ho0 := O.lt
  refine (LS.out _ hb).mono ?_
  rintro e w1 ⟨A1, a1, B1, b1, T1, x1, rfl, sA, sB, sT, hap, cA, cB, hb1⟩
  simp only at sA sB sT cA cB
  replace O := O.below hb1 O.lt
  have hv0 := hb.size
  replace hb := hb.trans (hb1.mono hb.size)
  replace sA := sA.wide hv0 (Nat.le_refl _)
  replace sB := sB.wide hv0 (Nat.le_refl _)
  replace sT := sT.wide hv0 (Nat.le_refl _)
  have qc0 := O.cell (i := 0) rfl
  have qf0 := O.froz 0
  have qc1 := O.cell (i := 1) rfl
  have qf1 := O.froz 1
  have qc2 := O.cell (i := 2) rfl
  have qf2 := O.froz 2
  have qc3 := O.cell (i := 3) rfl
  have qf3 := O.froz 3
  have qc4 := O.cell (i := 4) rfl
  have qf4 := O.froz 4
  have qc5 := O.cell (i := 5) rfl
  have qf5 := O.froz 5
  have qc6 := O.cell (i := 6) rfl
  have qf6 := O.froz 6
  go_wp2
  clear qc0 qf0 qc1 qf1 qc2 qf2 qc3 qf3 qc4 qf4 qc5 qf5 qc6 qf6
  have hsz : (((((((w1.setCell ⟨w.heap.size + 1, 0, none⟩ (.string on)).setCell ⟨w.heap.size + 1, 1, none⟩ (.int .i64 ob)).setCell ⟨w.heap.size + 1, 2, none⟩ (.slice A1 oH.length a1)).setCell ⟨w.heap.size + 1, 3, none⟩ (.slice B1 oG.length b1)).setCell ⟨w.heap.size + 1, 4, none⟩ (.slice T1 N.length x1)).setCell ⟨w.heap.size + 1, 5, none⟩ (.int .i64 rn)).setCell ⟨w.heap.size + 1, 6, none⟩ (.int .i64 co)).heap.size = w1.heap.size := by simp [World.setCell]
  have rA := (((((((sA.off O (by decide) 0 (.string on)).off (O.put 0 (.string on)) (by decide) 1 (.int .i64 ob)).off ((O.put 0 (.string on)).put 1 (.int .i64 ob)) (by decide) 2 (.slice A1 oH.length a1)).off (((O.put 0 (.string on)).put 1 (.int .i64 ob)).put 2 (.slice A1 oH.length a1)) (by decide) 3 (.slice B1 oG.length b1)).off ((((O.put 0 (.string on)).put 1 (.int .i64 ob)).put 2 (.slice A1 oH.length a1)).put 3 (.slice B1 oG.length b1)) (by decide) 4 (.slice T1 N.length x1)).off (((((O.put 0 (.string on)).put 1 (.int .i64 ob)).put 2 (.slice A1 oH.length a1)).put 3 (.slice B1 oG.length b1)).put 4 (.slice T1 N.length x1)) (by decide) 5 (.int .i64 rn)).off ((((((O.put 0 (.string on)).put 1 (.int .i64 ob)).put 2 (.slice A1 oH.length a1)).put 3 (.slice B1 oG.length b1)).put 4 (.slice T1 N.length x1)).put 5 (.int .i64 rn)) (by decide) 6 (.int .i64 co))
  have rB := (((((((sB.off O (by decide) 0 (.string on)).off (O.put 0 (.string on)) (by decide) 1 (.int .i64 ob)).off ((O.put 0 (.string on)).put 1 (.int .i64 ob)) (by decide) 2 (.slice A1 oH.length a1)).off (((O.put 0 (.string on)).put 1 (.int .i64 ob)).put 2 (.slice A1 oH.length a1)) (by decide) 3 (.slice B1 oG.length b1)).off ((((O.put 0 (.string on)).put 1 (.int .i64 ob)).put 2 (.slice A1 oH.length a1)).put 3 (.slice B1 oG.length b1)) (by decide) 4 (.slice T1 N.length x1)).off (((((O.put 0 (.string on)).put 1 (.int .i64 ob)).put 2 (.slice A1 oH.length a1)).put 3 (.slice B1 oG.length b1)).put 4 (.slice T1 N.length x1)) (by decide) 5 (.int .i64 rn)).off ((((((O.put 0 (.string on)).put 1 (.int .i64 ob)).put 2 (.slice A1 oH.length a1)).put 3 (.slice B1 oG.length b1)).put 4 (.slice T1 N.length x1)).put 5 (.int .i64 rn)) (by decide) 6 (.int .i64 co))
  have rT := (((((((sT.off O (by decide) 0 (.string on)).off (O.put 0 (.string on)) (by decide) 1 (.int .i64 ob)).off ((O.put 0 (.string on)).put 1 (.int .i64 ob)) (by decide) 2 (.slice A1 oH.length a1)).off (((O.put 0 (.string on)).put 1 (.int .i64 ob)).put 2 (.slice A1 oH.length a1)) (by decide) 3 (.slice B1 oG.length b1)).off ((((O.put 0 (.string on)).put 1 (.int .i64 ob)).put 2 (.slice A1 oH.length a1)).put 3 (.slice B1 oG.length b1)) (by decide) 4 (.slice T1 N.length x1)).off (((((O.put 0 (.string on)).put 1 (.int .i64 ob)).put 2 (.slice A1 oH.length a1)).put 3 (.slice B1 oG.length b1)).put 4 (.slice T1 N.length x1)) (by decide) 5 (.int .i64 rn)).off ((((((O.put 0 (.string on)).put 1 (.int .i64 ob)).put 2 (.slice A1 oH.length a1)).put 3 (.slice B1 oG.length b1)).put 4 (.slice T1 N.length x1)).put 5 (.int .i64 rn)) (by decide) 6 (.int .i64 co))
  have O9 := (((((((O.put 0 (.string on)).put 1 (.int .i64 ob)).put 2 (.slice A1 oH.length a1)).put 3 (.slice B1 oG.length b1)).put 4 (.slice T1 N.length x1)).put 5 (.int .i64 rn)).put 6 (.int .i64 co))
  have hb9 := (((((((hb.setCell (p := ⟨w.heap.size + 1, 0, none⟩) (by simp <;> omega) (.string on)).setCell (p := ⟨w.heap.size + 1, 1, none⟩) (by simp <;> omega) (.int .i64 ob)).setCell (p := ⟨w.heap.size + 1, 2, none⟩) (by simp <;> omega) (.slice A1 oH.length a1)).setCell (p := ⟨w.heap.size + 1, 3, none⟩) (by simp <;> omega) (.slice B1 oG.length b1)).setCell (p := ⟨w.heap.size + 1, 4, none⟩) (by simp <;> omega) (.slice T1 N.length x1)).setCell (p := ⟨w.heap.size + 1, 5, none⟩) (by simp <;> omega) (.int .i64 rn)).setCell (p := ⟨w.heap.size + 1, 6, none⟩) (by simp <;> omega) (.int .i64 co))
  simp only [List.set_cons_succ, List.set_cons_zero] at O9
  generalize ((((((w1.setCell ⟨w.heap.size + 1, 0, none⟩ (.string on)).setCell ⟨w.heap.size + 1, 1, none⟩ (.int .i64 ob)).setCell ⟨w.heap.size + 1, 2, none⟩ (.slice A1 oH.length a1)).setCell ⟨w.heap.size + 1, 3, none⟩ (.slice B1 oG.length b1)).setCell ⟨w.heap.size + 1, 4, none⟩ (.slice T1 N.length x1)).setCell ⟨w.heap.size + 1, 5, none⟩ (.int .i64 rn)).setCell ⟨w.heap.size + 1, 6, none⟩ (.int .i64 co) = w9 at O9 hb9 hsz rA rB rT  ⊢
  have oc0 := O9.cell (i := 0) rfl
  have oc1 := O9.cell (i := 1) rfl
  have oc2 := O9.cell (i := 2) rfl
  have oc3 := O9.cell (i := 3) rfl
  have oc4 := O9.cell (i := 4) rfl
  have oc5 := O9.cell (i := 5) rfl
  have oc6 := O9.cell (i := 6) rfl
  exact bodyPost_ret (v := .agg #[.string on, .int .i64 ob, .slice A1 oH.length a1, .slice B1 oG.length b1, .slice T1 N.length x1, .int .i64 rn, .int .i64 co]) (by simp [results, Try.results107, go_sem, oc0, oc1, oc2, oc3, oc4, oc5, oc6]) rfl (pub_out hsz rA rB rT hap cA cB hb9)
end Go.Proofs.Ytjnbhppnchmeoaa

namespace Go.Proofs.Ytjnbhppnchmeoaa
open Go.RowKit
set_option linter.unusedVariables false
set_option maxRecDepth 1000000

theorem set_endX {w w9 : World} {lo : Nat} {nm : ByteArray} {b n : Int} {k : Nat} {H : List ByteArray} {G : List Grp} {A3 B2 : Option Addr} {c3 d2 : Nat} {R : Ans} (h : R = setA ⟨nm, b, H, G⟩ k n) (hk : k < G.length) (hlo : w.heap.size ≤ lo) (hS : OwnS w9 lo (.slice A3 H.length c3) H) (hG : w9.ownsRow lo 94 2 (.slice B2 G.length d2) G.length (gflat (G.set k ⟨G[k].name, n⟩))) (hb : Below w.heap.size w w9) :
    SpX w w9 (.returned (outV nm b (.slice A3 H.length c3) (.slice B2 G.length d2) (.slice none 0 0) 0 0)) R := by
  subst h
  have eD : G.getD k zeroGrp = G[k] := by rw [List.getD_eq_getElem?_getD, List.getElem?_eq_getElem hk]; rfl
  have e2 : (G.set k ⟨G[k].name, n⟩).length = G.length := List.length_set ..
  unfold setA
  simp only [eD]
  refine ⟨A3, c3, B2, d2, none, 0, by rw [e2]; rfl, rx_own hS hlo, Gx.low (show Gx w9 lo B2 d2 (G.set k ⟨G[k].name, n⟩) by unfold Gx; rw [e2]; exact hG) hlo, hb⟩
set_option maxHeartbeats 8000000 in
theorem l07Set_anyX (t : Tpc) (gn : ByteArray) (n : Int) (back : Bool) (A : Option Addr) (c : Nat) (B : Option Addr) (d : Nat) (w : World) (hf : t.fits) (hs : gn.size ≤ maxLen) (hA : Strs w w.heap.size A t.held) (hB : Grs w w.heap.size B t.groups) (hc : Cap A t.held.length c) (hd : Cap B t.groups.length d) :
    Calls Try.prog 77 #[topV t.name t.base (.slice A t.held.length c) (.slice B t.groups.length d), .string gn, .int .i64 n, .bool back] w fun e w' => SpX w w' e (setT t gn n back) := by
  have BG := Lib.hid (fun W (h : Below w.heap.size w W) => l07Begin_any t gn true A c B d W hf hs (hA.on h) (hB.on h) hc hd)
  have hkl := hasG_lt t gn
  have HT := Lib.hid (beg_top (t := t) (g := gn) (ok := true))
  have HI := Lib.hid (setT_ill (t := t) (gn := gn) (n := n) (back := back))
  have HZ0 := Lib.hid (setT_ok (t := t) (gn := gn) (n := n) (back := back))
  obtain ⟨cc, HCC⟩ : ∃ x, Hid (begC t gn true = x) := ⟨_, Lib.hid rfl⟩
  obtain ⟨hg, HHG⟩ : ∃ x, Hid (hasG t gn = x) := ⟨_, Lib.hid rfl⟩
  obtain ⟨kk, HKK⟩ : ∃ x, Hid (posG t.groups gn = x) := ⟨_, Lib.hid rfl⟩
  rw [HHG.out, HKK.out] at hkl
  rw [HCC.out, HHG.out, HKK.out] at BG
  obtain ⟨nm, bs, H, G⟩ := t
  simp only at HKK hA hB hc hd BG ⊢
  have K := (Blk.fresh w 26 [.string nm, .int .i64 bs, .slice A H.length c, .slice B G.length d]).alloc (.cells #[.string ⟨#[]⟩, .int .i64 0, .slice none 0 0, .slice none 0 0, .slice none 0 0, .int .i64 0, .int .i64 0] 30)
  have O := Blk.fresh (w.alloc (.cells #[.string nm, .int .i64 bs, .slice A H.length c, .slice B G.length d] 26)) 30 [.string ⟨#[]⟩, .int .i64 0, .slice none 0 0, .slice none 0 0, .slice none 0 0, .int .i64 0, .int .i64 0]
  have hb : Below w.heap.size w ((w.alloc (.cells #[.string nm, .int .i64 bs, .slice A H.length c, .slice B G.length d] 26)).alloc (.cells #[.string ⟨#[]⟩, .int .i64 0, .slice none 0 0, .slice none 0 0, .slice none 0 0, .int .i64 0, .int .i64 0] 30)) := ((Below.refl _ _).alloc (Nat.le_refl _) _).alloc (by simp) _
  simp only [World.size_alloc] at K O
  replace K : Blk ((w.alloc (.cells #[.string nm, .int .i64 bs, .slice A H.length c, .slice B G.length d] 26)).alloc (.cells #[.string ⟨#[]⟩, .int .i64 0, .slice none 0 0, .slice none 0 0, .slice none 0 0, .int .i64 0, .int .i64 0] 30)) w.heap.size 26 [.string nm, .int .i64 bs, .slice A H.length c, .slice B G.length d] := K
  replace O : Blk ((w.alloc (.cells #[.string nm, .int .i64 bs, .slice A H.length c, .slice B G.length d] 26)).alloc (.cells #[.string ⟨#[]⟩, .int .i64 0, .slice none 0 0, .slice none 0 0, .slice none 0 0, .int .i64 0, .int .i64 0] 30)) (w.heap.size + 1) 30 [.string ⟨#[]⟩, .int .i64 0, .slice none 0 0, .slice none 0 0, .slice none 0 0, .int .i64 0, .int .i64 0] := O
  have hz1 := hb.size
  by_cases hz : cc = 0
  rotate_left
  · have HR : Hid (setT ⟨nm, bs, H, G⟩ gn n back = ill cc) := Lib.hid (by rw [HI.out (by rw [HCC.out]; exact hz), HCC.out])
    go_enter Try.func77, Try.ntmps77
    go_wp2_with (fail)
    generalize (w.alloc (.cells #[.string nm, .int .i64 bs, .slice A H.length c, .slice B G.length d] 26)).alloc (.cells #[.string ⟨#[]⟩, .int .i64 0, .slice none 0 0, .slice none 0 0, .slice none 0 0, .int .i64 0, .int .i64 0] 30) = v0 at K O hb ⊢
    have hov := O.lt
    refine (BG.out _ hb).mono ?_
    rintro e w1 ⟨A8, a8, B8, b8, L, k, code, rfl, hcd, hok, hb1⟩
    replace K := K.below hb1 K.lt
    replace O := O.below hb1 O.lt
    replace hb := hb.trans (hb1.mono hb.size)
    clear hok
    have P := Blk.fresh w1 26 [.string nm, .int .i64 bs, .slice A8 H.length a8, .slice B8 L.length b8]
    have al := below_box w1 (.cells #[.string nm, .int .i64 bs, .slice A8 H.length a8, .slice B8 L.length b8] 26)
    replace P : Blk (w1.alloc (.cells #[.string nm, .int .i64 bs, .slice A8 H.length a8, .slice B8 L.length b8] 26)) w1.heap.size 26 [.string nm, .int .i64 bs, .slice A8 H.length a8, .slice B8 L.length b8] := P

    replace K := K.below al K.lt
    replace O := O.below al O.lt
    replace hb := hb.trans (al.mono hb.size)
    have kc0 := K.cell (i := 0) rfl
    have kc1 := K.cell (i := 1) rfl
    have kc2 := K.cell (i := 2) rfl
    have kc3 := K.cell (i := 3) rfl
    have pc0 := P.cell (i := 0) rfl
    have pc1 := P.cell (i := 1) rfl
    have pc2 := P.cell (i := 2) rfl
    have pc3 := P.cell (i := 3) rfl
    go_wp2_with (fail)
    clear kc0 kc1 kc2 kc3
    generalize w1.alloc (.cells #[.string nm, .int .i64 bs, .slice A8 H.length a8, .slice B8 L.length b8] 26) = w2 at P K O hb pc0 pc1 pc2 pc3  ⊢
    refine (l07Ill_any cc _).mono ?_
    rintro e w3 ⟨rfl, hb3⟩
    replace K := K.below hb3 K.lt
    replace O := O.below hb3 O.lt
    replace hb := hb.trans (hb3.mono hb.size)
    have qc0 := O.cell (i := 0) rfl
    have qf0 := O.froz 0
    have qc1 := O.cell (i := 1) rfl
    have qf1 := O.froz 1
    have qc2 := O.cell (i := 2) rfl
    have qf2 := O.froz 2
    have qc3 := O.cell (i := 3) rfl
    have qf3 := O.froz 3
    have qc4 := O.cell (i := 4) rfl
    have qf4 := O.froz 4
    have qc5 := O.cell (i := 5) rfl
    have qf5 := O.froz 5
    have qc6 := O.cell (i := 6) rfl
    have qf6 := O.froz 6
    go_wp2
    clear qc0 qf0 qc1 qf1 qc2 qf2 qc3 qf3 qc4 qf4 qc5 qf5 qc6 qf6
    have O9 := (((((((O.put 0 (.string ⟨#[]⟩)).put 1 (.int .i64 0)).put 2 (.slice none 0 0)).put 3 (.slice none 0 0)).put 4 (.slice none 0 0)).put 5 (.int .i64 0)).put 6 (.int .i64 cc))
    have hb9 := (((((((hb.setCell (p := ⟨w.heap.size + 1, 0, none⟩) (by simp <;> omega) (.string ⟨#[]⟩)).setCell (p := ⟨w.heap.size + 1, 1, none⟩) (by simp <;> omega) (.int .i64 0)).setCell (p := ⟨w.heap.size + 1, 2, none⟩) (by simp <;> omega) (.slice none 0 0)).setCell (p := ⟨w.heap.size + 1, 3, none⟩) (by simp <;> omega) (.slice none 0 0)).setCell (p := ⟨w.heap.size + 1, 4, none⟩) (by simp <;> omega) (.slice none 0 0)).setCell (p := ⟨w.heap.size + 1, 5, none⟩) (by simp <;> omega) (.int .i64 0)).setCell (p := ⟨w.heap.size + 1, 6, none⟩) (by simp <;> omega) (.int .i64 cc))
    simp only [List.set_cons_succ, List.set_cons_zero] at O9
    generalize ((((((w3.setCell ⟨w.heap.size + 1, 0, none⟩ (.string ⟨#[]⟩)).setCell ⟨w.heap.size + 1, 1, none⟩ (.int .i64 0)).setCell ⟨w.heap.size + 1, 2, none⟩ (.slice none 0 0)).setCell ⟨w.heap.size + 1, 3, none⟩ (.slice none 0 0)).setCell ⟨w.heap.size + 1, 4, none⟩ (.slice none 0 0)).setCell ⟨w.heap.size + 1, 5, none⟩ (.int .i64 0)).setCell ⟨w.heap.size + 1, 6, none⟩ (.int .i64 cc) = w9 at O9 hb9  ⊢
    have oc0 := O9.cell (i := 0) rfl
    have oc1 := O9.cell (i := 1) rfl
    have oc2 := O9.cell (i := 2) rfl
    have oc3 := O9.cell (i := 3) rfl
    have oc4 := O9.cell (i := 4) rfl
    have oc5 := O9.cell (i := 5) rfl
    have oc6 := O9.cell (i := 6) rfl
    exact bodyPost_ret (v := .agg #[.string ⟨#[]⟩, .int .i64 0, .slice none 0 0, .slice none 0 0, .slice none 0 0, .int .i64 0, .int .i64 cc]) (by simp [results, Try.results77, go_sem, oc0, oc1, oc2, oc3, oc4, oc5, oc6]) rfl (by rw [HR.out]; exact SpX.ill hb9)
  have HZ : Hid (begC ⟨nm, bs, H, G⟩ gn true = 0) := Lib.hid (by rw [HCC.out]; exact hz)
  have hO := HT.out HZ.out
  have hbs := inB_true hO.2.1
  have hl : H.length ≤ 20 := hO.2.2.1
  clear hO HT HI HCC HZ0
  obtain ⟨ak, HAK⟩ : ∃ x, Hid (hg[kk].acked = x) := ⟨_, Lib.hid rfl⟩
  have HGD : Hid ((hg.getD kk zeroGrp).acked = ak) := Lib.hid (by rw [List.getD_eq_getElem?_getD, List.getElem?_eq_getElem hkl]; exact HAK.out)
  have EN := Lib.hid (fun W => l07End_any nm bs A H.length c (.slice B G.length d) (by omega) hbs.1 hbs.2 rfl W)
  have hkn : (kk : Int) < (hg.length : Int) := by omega
  cases back with
  | true =>
    have HX : Hid (setT ⟨nm, bs, H, G⟩ gn n true = moveA ⟨nm, bs, H, hg⟩ kk n (inB n bs (bs + (H.length : Int)))) := Lib.hid (by
      rw [setT_ok HZ.out]
      simp only [HHG.out, HKK.out]
      rfl)
    cases hI : inB n bs (bs + (H.length : Int)) with
    | false =>
      have IS := is3 hI
      have HR : Hid (setT ⟨nm, bs, H, G⟩ gn n true = ill 8) := Lib.hid (by rw [HX.out, hI]; rfl)
      go_enter Try.func77, Try.ntmps77
      go_wp2_with (fail)
      generalize (w.alloc (.cells #[.string nm, .int .i64 bs, .slice A H.length c, .slice B G.length d] 26)).alloc (.cells #[.string ⟨#[]⟩, .int .i64 0, .slice none 0 0, .slice none 0 0, .slice none 0 0, .int .i64 0, .int .i64 0] 30) = v0 at K O hb ⊢
      have hov := O.lt
      refine (BG.out _ hb).mono ?_
      rintro e w1 ⟨A8, a8, B8, b8, L, k, code, rfl, hcd, hok, hb1⟩
      replace K := K.below hb1 K.lt
      replace O := O.below hb1 O.lt
      replace hb := hb.trans (hb1.mono hb.size)
      obtain rfl : code = 0 := by rw [hcd]; exact hz
      obtain ⟨hL, rfl, oS, oG⟩ := hok rfl
      subst L
      clear hok hcd BG
      obtain ⟨bg, rfl⟩ : ∃ bg, B8 = some ⟨bg, 0, none⟩ := by
        rcases oG.2 with ⟨he, h0⟩ | ⟨g, cap, cur, he, _⟩
        · omega
        · injection he with e1; exact ⟨g, e1⟩
      have nb : w1.heap.size ≠ bg := fun e => by have := (oG.lt bg rfl).2; omega
      obtain ⟨ga0, ga1, gf0, gf1⟩ := row_grp (row_below oG (below_box w1 (.cells #[.string nm, .int .i64 bs, .slice A8 H.length a8, .slice (some ⟨bg, 0, none⟩) hg.length b8] 26)) (Nat.le_refl _)) hkl
      rw [HAK.out] at ga1
      clear ga0 gf0
      have P := Blk.fresh w1 26 [.string nm, .int .i64 bs, .slice A8 H.length a8, .slice (some ⟨bg, 0, none⟩) hg.length b8]
      have al := below_box w1 (.cells #[.string nm, .int .i64 bs, .slice A8 H.length a8, .slice (some ⟨bg, 0, none⟩) hg.length b8] 26)
      replace P : Blk (w1.alloc (.cells #[.string nm, .int .i64 bs, .slice A8 H.length a8, .slice (some ⟨bg, 0, none⟩) hg.length b8] 26)) w1.heap.size 26 [.string nm, .int .i64 bs, .slice A8 H.length a8, .slice (some ⟨bg, 0, none⟩) hg.length b8] := P
      replace oS := row_below oS al (Nat.le_refl _)
      replace oG := row_below oG al (Nat.le_refl _)
      replace K := K.below al K.lt
      replace O := O.below al O.lt
      replace hb := hb.trans (al.mono hb.size)
      have kc0 := K.cell (i := 0) rfl
      have kc1 := K.cell (i := 1) rfl
      have kc2 := K.cell (i := 2) rfl
      have kc3 := K.cell (i := 3) rfl
      have pc0 := P.cell (i := 0) rfl
      have pc1 := P.cell (i := 1) rfl
      have pc2 := P.cell (i := 2) rfl
      have pc3 := P.cell (i := 3) rfl
      go_wp2_with (fail)
      clear kc0 kc1 kc2 kc3
      generalize w1.alloc (.cells #[.string nm, .int .i64 bs, .slice A8 H.length a8, .slice (some ⟨bg, 0, none⟩) hg.length b8] 26) = w2 at P K O hb pc0 pc1 pc2 pc3 oS oG ⊢
      refine (EN.out _).mono ?_
      rintro e w3 ⟨rfl, hb3⟩
      replace P := P.below hb3 P.lt
      replace oS := row_below oS hb3 (Nat.le_refl _)
      replace oG := row_below oG hb3 (Nat.le_refl _)
      replace K := K.below hb3 K.lt
      replace O := O.below hb3 O.lt
      replace hb := hb.trans (hb3.mono hb.size)
      obtain ⟨ga0, ga1, gf0, gf1⟩ := row_grp oG hkl
      clear pc0 pc1 pc2 pc3 ga0 gf0
      go_wp2_with (fail)
      refine (IS _).mono ?_
      rintro e w3' ⟨rfl, rfl⟩
      go_wp2_with (fail)
      refine (l07Ill_any 8 _).mono ?_
      rintro e w3 ⟨rfl, hb3⟩
      replace K := K.below hb3 K.lt
      replace O := O.below hb3 O.lt
      replace hb := hb.trans (hb3.mono hb.size)
      have qc0 := O.cell (i := 0) rfl
      have qf0 := O.froz 0
      have qc1 := O.cell (i := 1) rfl
      have qf1 := O.froz 1
      have qc2 := O.cell (i := 2) rfl
      have qf2 := O.froz 2
      have qc3 := O.cell (i := 3) rfl
      have qf3 := O.froz 3
      have qc4 := O.cell (i := 4) rfl
      have qf4 := O.froz 4
      have qc5 := O.cell (i := 5) rfl
      have qf5 := O.froz 5
      have qc6 := O.cell (i := 6) rfl
      have qf6 := O.froz 6
      go_wp2
      clear qc0 qf0 qc1 qf1 qc2 qf2 qc3 qf3 qc4 qf4 qc5 qf5 qc6 qf6
      have O9 := (((((((O.put 0 (.string ⟨#[]⟩)).put 1 (.int .i64 0)).put 2 (.slice none 0 0)).put 3 (.slice none 0 0)).put 4 (.slice none 0 0)).put 5 (.int .i64 0)).put 6 (.int .i64 8))
      have hb9 := (((((((hb.setCell (p := ⟨w.heap.size + 1, 0, none⟩) (by simp <;> omega) (.string ⟨#[]⟩)).setCell (p := ⟨w.heap.size + 1, 1, none⟩) (by simp <;> omega) (.int .i64 0)).setCell (p := ⟨w.heap.size + 1, 2, none⟩) (by simp <;> omega) (.slice none 0 0)).setCell (p := ⟨w.heap.size + 1, 3, none⟩) (by simp <;> omega) (.slice none 0 0)).setCell (p := ⟨w.heap.size + 1, 4, none⟩) (by simp <;> omega) (.slice none 0 0)).setCell (p := ⟨w.heap.size + 1, 5, none⟩) (by simp <;> omega) (.int .i64 0)).setCell (p := ⟨w.heap.size + 1, 6, none⟩) (by simp <;> omega) (.int .i64 8))
      simp only [List.set_cons_succ, List.set_cons_zero] at O9
      generalize ((((((w3.setCell ⟨w.heap.size + 1, 0, none⟩ (.string ⟨#[]⟩)).setCell ⟨w.heap.size + 1, 1, none⟩ (.int .i64 0)).setCell ⟨w.heap.size + 1, 2, none⟩ (.slice none 0 0)).setCell ⟨w.heap.size + 1, 3, none⟩ (.slice none 0 0)).setCell ⟨w.heap.size + 1, 4, none⟩ (.slice none 0 0)).setCell ⟨w.heap.size + 1, 5, none⟩ (.int .i64 0)).setCell ⟨w.heap.size + 1, 6, none⟩ (.int .i64 8) = w9 at O9 hb9  ⊢
      have oc0 := O9.cell (i := 0) rfl
      have oc1 := O9.cell (i := 1) rfl
      have oc2 := O9.cell (i := 2) rfl
      have oc3 := O9.cell (i := 3) rfl
      have oc4 := O9.cell (i := 4) rfl
      have oc5 := O9.cell (i := 5) rfl
      have oc6 := O9.cell (i := 6) rfl
      exact bodyPost_ret (v := .agg #[.string ⟨#[]⟩, .int .i64 0, .slice none 0 0, .slice none 0 0, .slice none 0 0, .int .i64 0, .int .i64 8]) (by simp [results, Try.results77, go_sem, oc0, oc1, oc2, oc3, oc4, oc5, oc6]) rfl (by rw [HR.out]; exact SpX.ill hb9)
    | true =>
      have IS := is3 hI
      have HR : Hid (setT ⟨nm, bs, H, G⟩ gn n true = setA ⟨nm, bs, H, hg⟩ kk n) := Lib.hid (by rw [HX.out, hI]; rfl)
      go_enter Try.func77, Try.ntmps77
      go_wp2_with (fail)
      generalize (w.alloc (.cells #[.string nm, .int .i64 bs, .slice A H.length c, .slice B G.length d] 26)).alloc (.cells #[.string ⟨#[]⟩, .int .i64 0, .slice none 0 0, .slice none 0 0, .slice none 0 0, .int .i64 0, .int .i64 0] 30) = v0 at K O hb ⊢
      have hov := O.lt
      refine (BG.out _ hb).mono ?_
      rintro e w1 ⟨A8, a8, B8, b8, L, k, code, rfl, hcd, hok, hb1⟩
      replace K := K.below hb1 K.lt
      replace O := O.below hb1 O.lt
      replace hb := hb.trans (hb1.mono hb.size)
      obtain rfl : code = 0 := by rw [hcd]; exact hz
      obtain ⟨hL, rfl, oS, oG⟩ := hok rfl
      subst L
      clear hok hcd BG
      obtain ⟨bg, rfl⟩ : ∃ bg, B8 = some ⟨bg, 0, none⟩ := by
        rcases oG.2 with ⟨he, h0⟩ | ⟨g, cap, cur, he, _⟩
        · omega
        · injection he with e1; exact ⟨g, e1⟩
      have nb : w1.heap.size ≠ bg := fun e => by have := (oG.lt bg rfl).2; omega
      obtain ⟨ga0, ga1, gf0, gf1⟩ := row_grp (row_below oG (below_box w1 (.cells #[.string nm, .int .i64 bs, .slice A8 H.length a8, .slice (some ⟨bg, 0, none⟩) hg.length b8] 26)) (Nat.le_refl _)) hkl
      rw [HAK.out] at ga1
      clear ga0 gf0
      have P := Blk.fresh w1 26 [.string nm, .int .i64 bs, .slice A8 H.length a8, .slice (some ⟨bg, 0, none⟩) hg.length b8]
      have al := below_box w1 (.cells #[.string nm, .int .i64 bs, .slice A8 H.length a8, .slice (some ⟨bg, 0, none⟩) hg.length b8] 26)
      replace P : Blk (w1.alloc (.cells #[.string nm, .int .i64 bs, .slice A8 H.length a8, .slice (some ⟨bg, 0, none⟩) hg.length b8] 26)) w1.heap.size 26 [.string nm, .int .i64 bs, .slice A8 H.length a8, .slice (some ⟨bg, 0, none⟩) hg.length b8] := P
      replace oS := row_below oS al (Nat.le_refl _)
      replace oG := row_below oG al (Nat.le_refl _)
      replace K := K.below al K.lt
      replace O := O.below al O.lt
      replace hb := hb.trans (al.mono hb.size)
      have kc0 := K.cell (i := 0) rfl
      have kc1 := K.cell (i := 1) rfl
      have kc2 := K.cell (i := 2) rfl
      have kc3 := K.cell (i := 3) rfl
      have pc0 := P.cell (i := 0) rfl
      have pc1 := P.cell (i := 1) rfl
      have pc2 := P.cell (i := 2) rfl
      have pc3 := P.cell (i := 3) rfl
      go_wp2_with (fail)
      clear kc0 kc1 kc2 kc3
      generalize w1.alloc (.cells #[.string nm, .int .i64 bs, .slice A8 H.length a8, .slice (some ⟨bg, 0, none⟩) hg.length b8] 26) = w2 at P K O hb pc0 pc1 pc2 pc3 oS oG ⊢
      refine (EN.out _).mono ?_
      rintro e w3 ⟨rfl, hb3⟩
      replace P := P.below hb3 P.lt
      replace oS := row_below oS hb3 (Nat.le_refl _)
      replace oG := row_below oG hb3 (Nat.le_refl _)
      replace K := K.below hb3 K.lt
      replace O := O.below hb3 O.lt
      replace hb := hb.trans (hb3.mono hb.size)
      obtain ⟨ga0, ga1, gf0, gf1⟩ := row_grp oG hkl
      clear pc0 pc1 pc2 pc3 ga0 gf0
      go_wp2_with (fail)
      refine (IS _).mono ?_
      rintro e w3' ⟨rfl, rfl⟩
      have nPg : w1.heap.size ≠ bg := nb
      have nOg : w.heap.size + 1 ≠ bg := fun e => by have := (oG.lt bg rfl).1; omega
      have P5 := P.far (p := ⟨bg, kk * 2 + 1, none⟩) nPg (.int .i64 n)
      have O5 := O.far (p := ⟨bg, kk * 2 + 1, none⟩) nOg (.int .i64 n)
      have pc0 := P.cell (i := 0) rfl
      have pc1 := P.cell (i := 1) rfl
      have pc2 := P.cell (i := 2) rfl
      have pc3 := P.cell (i := 3) rfl
      have rc0 := P5.cell (i := 0) rfl
      have rc1 := P5.cell (i := 1) rfl
      have rc2 := P5.cell (i := 2) rfl
      have rc3 := P5.cell (i := 3) rfl
      have qc0 := O5.cell (i := 0) rfl
      have qf0 := O5.froz 0
      have qc1 := O5.cell (i := 1) rfl
      have qf1 := O5.froz 1
      have qc2 := O5.cell (i := 2) rfl
      have qf2 := O5.froz 2
      have qc3 := O5.cell (i := 3) rfl
      have qf3 := O5.froz 3
      have qc4 := O5.cell (i := 4) rfl
      have qf4 := O5.froz 4
      have qc5 := O5.cell (i := 5) rfl
      have qf5 := O5.froz 5
      have qc6 := O5.cell (i := 6) rfl
      have qf6 := O5.froz 6
      go_wp2
      clear qc0 qf0 qc1 qf1 qc2 qf2 qc3 qf3 qc4 qf4 qc5 qf5 qc6 qf6
      clear rc0 rc1 rc2 rc3
      clear pc0 pc1 pc2 pc3
      have hbl : w.heap.size ≤ bg := by have := (oG.lt bg rfl).1; omega
      have oS5 : OwnS (w3'.setCell ⟨bg, kk * 2 + 1, none⟩ (.int .i64 n)) v0.heap.size (.slice A8 H.length a8) H := row_off oS (p := ⟨bg, kk * 2 + 1, none⟩) (by
        rcases own_apart oS oG (by decide) with h | h
        · rw [h]; exact fun e => by cases e
        · exact h) _
      have oG5 := (World.ownsRow.stored oG (kk * 2 + 1) (.int .i64 n)).1
      rw [gflat_set1 hg hkl n] at oG5
      have hb5 := hb.setCell (p := ⟨bg, kk * 2 + 1, none⟩) hbl (.int .i64 n)
      clear O hb P P5 oS oG K
      generalize w3'.setCell ⟨bg, kk * 2 + 1, none⟩ (.int .i64 n) = w5 at O5 hb5 oS5 oG5 ⊢
      have O := O5
      have hb := hb5
      have O9 := (((((((O.put 0 (.string nm)).put 1 (.int .i64 bs)).put 2 (.slice A8 H.length a8)).put 3 (.slice (some ⟨bg, 0, none⟩) hg.length b8)).put 4 (.slice none 0 0)).put 5 (.int .i64 0)).put 6 (.int .i64 0))
      have hb9 := (((((((hb.setCell (p := ⟨w.heap.size + 1, 0, none⟩) (by simp <;> omega) (.string nm)).setCell (p := ⟨w.heap.size + 1, 1, none⟩) (by simp <;> omega) (.int .i64 bs)).setCell (p := ⟨w.heap.size + 1, 2, none⟩) (by simp <;> omega) (.slice A8 H.length a8)).setCell (p := ⟨w.heap.size + 1, 3, none⟩) (by simp <;> omega) (.slice (some ⟨bg, 0, none⟩) hg.length b8)).setCell (p := ⟨w.heap.size + 1, 4, none⟩) (by simp <;> omega) (.slice none 0 0)).setCell (p := ⟨w.heap.size + 1, 5, none⟩) (by simp <;> omega) (.int .i64 0)).setCell (p := ⟨w.heap.size + 1, 6, none⟩) (by simp <;> omega) (.int .i64 0))
      have oS59 := (row_far (row_far (row_far (row_far (row_far (row_far (row_far oS5 (p := ⟨w.heap.size + 1, 0, none⟩) (by simp <;> omega) (.string nm)) (p := ⟨w.heap.size + 1, 1, none⟩) (by simp <;> omega) (.int .i64 bs)) (p := ⟨w.heap.size + 1, 2, none⟩) (by simp <;> omega) (.slice A8 H.length a8)) (p := ⟨w.heap.size + 1, 3, none⟩) (by simp <;> omega) (.slice (some ⟨bg, 0, none⟩) hg.length b8)) (p := ⟨w.heap.size + 1, 4, none⟩) (by simp <;> omega) (.slice none 0 0)) (p := ⟨w.heap.size + 1, 5, none⟩) (by simp <;> omega) (.int .i64 0)) (p := ⟨w.heap.size + 1, 6, none⟩) (by simp <;> omega) (.int .i64 0))
      have oG59 := (row_far (row_far (row_far (row_far (row_far (row_far (row_far oG5 (p := ⟨w.heap.size + 1, 0, none⟩) (by simp <;> omega) (.string nm)) (p := ⟨w.heap.size + 1, 1, none⟩) (by simp <;> omega) (.int .i64 bs)) (p := ⟨w.heap.size + 1, 2, none⟩) (by simp <;> omega) (.slice A8 H.length a8)) (p := ⟨w.heap.size + 1, 3, none⟩) (by simp <;> omega) (.slice (some ⟨bg, 0, none⟩) hg.length b8)) (p := ⟨w.heap.size + 1, 4, none⟩) (by simp <;> omega) (.slice none 0 0)) (p := ⟨w.heap.size + 1, 5, none⟩) (by simp <;> omega) (.int .i64 0)) (p := ⟨w.heap.size + 1, 6, none⟩) (by simp <;> omega) (.int .i64 0))
      simp only [List.set_cons_succ, List.set_cons_zero] at O9
      generalize ((((((w5.setCell ⟨w.heap.size + 1, 0, none⟩ (.string nm)).setCell ⟨w.heap.size + 1, 1, none⟩ (.int .i64 bs)).setCell ⟨w.heap.size + 1, 2, none⟩ (.slice A8 H.length a8)).setCell ⟨w.heap.size + 1, 3, none⟩ (.slice (some ⟨bg, 0, none⟩) hg.length b8)).setCell ⟨w.heap.size + 1, 4, none⟩ (.slice none 0 0)).setCell ⟨w.heap.size + 1, 5, none⟩ (.int .i64 0)).setCell ⟨w.heap.size + 1, 6, none⟩ (.int .i64 0) = w9 at O9 hb9 oS59 oG59 ⊢
      have oc0 := O9.cell (i := 0) rfl
      have oc1 := O9.cell (i := 1) rfl
      have oc2 := O9.cell (i := 2) rfl
      have oc3 := O9.cell (i := 3) rfl
      have oc4 := O9.cell (i := 4) rfl
      have oc5 := O9.cell (i := 5) rfl
      have oc6 := O9.cell (i := 6) rfl
      exact bodyPost_ret (v := .agg #[.string nm, .int .i64 bs, .slice A8 H.length a8, .slice (some ⟨bg, 0, none⟩) hg.length b8, .slice none 0 0, .int .i64 0, .int .i64 0]) (by simp [results, Try.results77, go_sem, oc0, oc1, oc2, oc3, oc4, oc5, oc6]) rfl (set_endX HR.out hkl (by omega) oS59 oG59 hb9)
  | false =>
    have HX : Hid (setT ⟨nm, bs, H, G⟩ gn n false = moveA ⟨nm, bs, H, hg⟩ kk n (inB n ak (bs + (H.length : Int)))) := Lib.hid (by
      rw [setT_ok HZ.out]
      simp only [HHG.out, HKK.out, HGD.out]
      rfl)
    cases hI : inB n ak (bs + (H.length : Int)) with
    | false =>
      have IS := is3 hI
      have HR : Hid (setT ⟨nm, bs, H, G⟩ gn n false = ill 8) := Lib.hid (by rw [HX.out, hI]; rfl)
      go_enter Try.func77, Try.ntmps77
      go_wp2_with (fail)
      generalize (w.alloc (.cells #[.string nm, .int .i64 bs, .slice A H.length c, .slice B G.length d] 26)).alloc (.cells #[.string ⟨#[]⟩, .int .i64 0, .slice none 0 0, .slice none 0 0, .slice none 0 0, .int .i64 0, .int .i64 0] 30) = v0 at K O hb ⊢
      have hov := O.lt
      refine (BG.out _ hb).mono ?_
      rintro e w1 ⟨A8, a8, B8, b8, L, k, code, rfl, hcd, hok, hb1⟩
      replace K := K.below hb1 K.lt
      replace O := O.below hb1 O.lt
      replace hb := hb.trans (hb1.mono hb.size)
      obtain rfl : code = 0 := by rw [hcd]; exact hz
      obtain ⟨hL, rfl, oS, oG⟩ := hok rfl
      subst L
      clear hok hcd BG
      obtain ⟨bg, rfl⟩ : ∃ bg, B8 = some ⟨bg, 0, none⟩ := by
        rcases oG.2 with ⟨he, h0⟩ | ⟨g, cap, cur, he, _⟩
        · omega
        · injection he with e1; exact ⟨g, e1⟩
      have nb : w1.heap.size ≠ bg := fun e => by have := (oG.lt bg rfl).2; omega
      obtain ⟨ga0, ga1, gf0, gf1⟩ := row_grp (row_below oG (below_box w1 (.cells #[.string nm, .int .i64 bs, .slice A8 H.length a8, .slice (some ⟨bg, 0, none⟩) hg.length b8] 26)) (Nat.le_refl _)) hkl
      rw [HAK.out] at ga1
      clear ga0 gf0
      have P := Blk.fresh w1 26 [.string nm, .int .i64 bs, .slice A8 H.length a8, .slice (some ⟨bg, 0, none⟩) hg.length b8]
      have al := below_box w1 (.cells #[.string nm, .int .i64 bs, .slice A8 H.length a8, .slice (some ⟨bg, 0, none⟩) hg.length b8] 26)
      replace P : Blk (w1.alloc (.cells #[.string nm, .int .i64 bs, .slice A8 H.length a8, .slice (some ⟨bg, 0, none⟩) hg.length b8] 26)) w1.heap.size 26 [.string nm, .int .i64 bs, .slice A8 H.length a8, .slice (some ⟨bg, 0, none⟩) hg.length b8] := P
      replace oS := row_below oS al (Nat.le_refl _)
      replace oG := row_below oG al (Nat.le_refl _)
      replace K := K.below al K.lt
      replace O := O.below al O.lt
      replace hb := hb.trans (al.mono hb.size)
      have kc0 := K.cell (i := 0) rfl
      have kc1 := K.cell (i := 1) rfl
      have kc2 := K.cell (i := 2) rfl
      have kc3 := K.cell (i := 3) rfl
      have pc0 := P.cell (i := 0) rfl
      have pc1 := P.cell (i := 1) rfl
      have pc2 := P.cell (i := 2) rfl
      have pc3 := P.cell (i := 3) rfl
      go_wp2_with (fail)
      clear kc0 kc1 kc2 kc3
      generalize w1.alloc (.cells #[.string nm, .int .i64 bs, .slice A8 H.length a8, .slice (some ⟨bg, 0, none⟩) hg.length b8] 26) = w2 at P K O hb pc0 pc1 pc2 pc3 oS oG ⊢
      refine (EN.out _).mono ?_
      rintro e w3 ⟨rfl, hb3⟩
      replace P := P.below hb3 P.lt
      replace oS := row_below oS hb3 (Nat.le_refl _)
      replace oG := row_below oG hb3 (Nat.le_refl _)
      replace K := K.below hb3 K.lt
      replace O := O.below hb3 O.lt
      replace hb := hb.trans (hb3.mono hb.size)
      obtain ⟨ga0, ga1, gf0, gf1⟩ := row_grp oG hkl
      clear pc0 pc1 pc2 pc3 ga0 gf0
      go_wp2_with (fail)
      refine (IS _).mono ?_
      rintro e w3' ⟨rfl, rfl⟩
      go_wp2_with (fail)
      refine (l07Ill_any 8 _).mono ?_
      rintro e w3 ⟨rfl, hb3⟩
      replace K := K.below hb3 K.lt
      replace O := O.below hb3 O.lt
      replace hb := hb.trans (hb3.mono hb.size)
      have qc0 := O.cell (i := 0) rfl
      have qf0 := O.froz 0
      have qc1 := O.cell (i := 1) rfl
      have qf1 := O.froz 1
      have qc2 := O.cell (i := 2) rfl
      have qf2 := O.froz 2
      have qc3 := O.cell (i := 3) rfl
      have qf3 := O.froz 3
      have qc4 := O.cell (i := 4) rfl
      have qf4 := O.froz 4
      have qc5 := O.cell (i := 5) rfl
      have qf5 := O.froz 5
      have qc6 := O.cell (i := 6) rfl
      have qf6 := O.froz 6
      go_wp2
      clear qc0 qf0 qc1 qf1 qc2 qf2 qc3 qf3 qc4 qf4 qc5 qf5 qc6 qf6
      have O9 := (((((((O.put 0 (.string ⟨#[]⟩)).put 1 (.int .i64 0)).put 2 (.slice none 0 0)).put 3 (.slice none 0 0)).put 4 (.slice none 0 0)).put 5 (.int .i64 0)).put 6 (.int .i64 8))
      have hb9 := (((((((hb.setCell (p := ⟨w.heap.size + 1, 0, none⟩) (by simp <;> omega) (.string ⟨#[]⟩)).setCell (p := ⟨w.heap.size + 1, 1, none⟩) (by simp <;> omega) (.int .i64 0)).setCell (p := ⟨w.heap.size + 1, 2, none⟩) (by simp <;> omega) (.slice none 0 0)).setCell (p := ⟨w.heap.size + 1, 3, none⟩) (by simp <;> omega) (.slice none 0 0)).setCell (p := ⟨w.heap.size + 1, 4, none⟩) (by simp <;> omega) (.slice none 0 0)).setCell (p := ⟨w.heap.size + 1, 5, none⟩) (by simp <;> omega) (.int .i64 0)).setCell (p := ⟨w.heap.size + 1, 6, none⟩) (by simp <;> omega) (.int .i64 8))
      simp only [List.set_cons_succ, List.set_cons_zero] at O9
      generalize ((((((w3.setCell ⟨w.heap.size + 1, 0, none⟩ (.string ⟨#[]⟩)).setCell ⟨w.heap.size + 1, 1, none⟩ (.int .i64 0)).setCell ⟨w.heap.size + 1, 2, none⟩ (.slice none 0 0)).setCell ⟨w.heap.size + 1, 3, none⟩ (.slice none 0 0)).setCell ⟨w.heap.size + 1, 4, none⟩ (.slice none 0 0)).setCell ⟨w.heap.size + 1, 5, none⟩ (.int .i64 0)).setCell ⟨w.heap.size + 1, 6, none⟩ (.int .i64 8) = w9 at O9 hb9  ⊢
      have oc0 := O9.cell (i := 0) rfl
      have oc1 := O9.cell (i := 1) rfl
      have oc2 := O9.cell (i := 2) rfl
      have oc3 := O9.cell (i := 3) rfl
      have oc4 := O9.cell (i := 4) rfl
      have oc5 := O9.cell (i := 5) rfl
      have oc6 := O9.cell (i := 6) rfl
      exact bodyPost_ret (v := .agg #[.string ⟨#[]⟩, .int .i64 0, .slice none 0 0, .slice none 0 0, .slice none 0 0, .int .i64 0, .int .i64 8]) (by simp [results, Try.results77, go_sem, oc0, oc1, oc2, oc3, oc4, oc5, oc6]) rfl (by rw [HR.out]; exact SpX.ill hb9)
    | true =>
      have IS := is3 hI
      have HR : Hid (setT ⟨nm, bs, H, G⟩ gn n false = setA ⟨nm, bs, H, hg⟩ kk n) := Lib.hid (by rw [HX.out, hI]; rfl)
      go_enter Try.func77, Try.ntmps77
      go_wp2_with (fail)
      generalize (w.alloc (.cells #[.string nm, .int .i64 bs, .slice A H.length c, .slice B G.length d] 26)).alloc (.cells #[.string ⟨#[]⟩, .int .i64 0, .slice none 0 0, .slice none 0 0, .slice none 0 0, .int .i64 0, .int .i64 0] 30) = v0 at K O hb ⊢
      have hov := O.lt
      refine (BG.out _ hb).mono ?_
      rintro e w1 ⟨A8, a8, B8, b8, L, k, code, rfl, hcd, hok, hb1⟩
      replace K := K.below hb1 K.lt
      replace O := O.below hb1 O.lt
      replace hb := hb.trans (hb1.mono hb.size)
      obtain rfl : code = 0 := by rw [hcd]; exact hz
      obtain ⟨hL, rfl, oS, oG⟩ := hok rfl
      subst L
      clear hok hcd BG
      obtain ⟨bg, rfl⟩ : ∃ bg, B8 = some ⟨bg, 0, none⟩ := by
        rcases oG.2 with ⟨he, h0⟩ | ⟨g, cap, cur, he, _⟩
        · omega
        · injection he with e1; exact ⟨g, e1⟩
      have nb : w1.heap.size ≠ bg := fun e => by have := (oG.lt bg rfl).2; omega
      obtain ⟨ga0, ga1, gf0, gf1⟩ := row_grp (row_below oG (below_box w1 (.cells #[.string nm, .int .i64 bs, .slice A8 H.length a8, .slice (some ⟨bg, 0, none⟩) hg.length b8] 26)) (Nat.le_refl _)) hkl
      rw [HAK.out] at ga1
      clear ga0 gf0
      have P := Blk.fresh w1 26 [.string nm, .int .i64 bs, .slice A8 H.length a8, .slice (some ⟨bg, 0, none⟩) hg.length b8]
      have al := below_box w1 (.cells #[.string nm, .int .i64 bs, .slice A8 H.length a8, .slice (some ⟨bg, 0, none⟩) hg.length b8] 26)
      replace P : Blk (w1.alloc (.cells #[.string nm, .int .i64 bs, .slice A8 H.length a8, .slice (some ⟨bg, 0, none⟩) hg.length b8] 26)) w1.heap.size 26 [.string nm, .int .i64 bs, .slice A8 H.length a8, .slice (some ⟨bg, 0, none⟩) hg.length b8] := P
      replace oS := row_below oS al (Nat.le_refl _)
      replace oG := row_below oG al (Nat.le_refl _)
      replace K := K.below al K.lt
      replace O := O.below al O.lt
      replace hb := hb.trans (al.mono hb.size)
      have kc0 := K.cell (i := 0) rfl
      have kc1 := K.cell (i := 1) rfl
      have kc2 := K.cell (i := 2) rfl
      have kc3 := K.cell (i := 3) rfl
      have pc0 := P.cell (i := 0) rfl
      have pc1 := P.cell (i := 1) rfl
      have pc2 := P.cell (i := 2) rfl
      have pc3 := P.cell (i := 3) rfl
      go_wp2_with (fail)
      clear kc0 kc1 kc2 kc3
      generalize w1.alloc (.cells #[.string nm, .int .i64 bs, .slice A8 H.length a8, .slice (some ⟨bg, 0, none⟩) hg.length b8] 26) = w2 at P K O hb pc0 pc1 pc2 pc3 oS oG ⊢
      refine (EN.out _).mono ?_
      rintro e w3 ⟨rfl, hb3⟩
      replace P := P.below hb3 P.lt
      replace oS := row_below oS hb3 (Nat.le_refl _)
      replace oG := row_below oG hb3 (Nat.le_refl _)
      replace K := K.below hb3 K.lt
      replace O := O.below hb3 O.lt
      replace hb := hb.trans (hb3.mono hb.size)
      obtain ⟨ga0, ga1, gf0, gf1⟩ := row_grp oG hkl
      clear pc0 pc1 pc2 pc3 ga0 gf0
      go_wp2_with (fail)
      refine (IS _).mono ?_
      rintro e w3' ⟨rfl, rfl⟩
      have nPg : w1.heap.size ≠ bg := nb
      have nOg : w.heap.size + 1 ≠ bg := fun e => by have := (oG.lt bg rfl).1; omega
      have P5 := P.far (p := ⟨bg, kk * 2 + 1, none⟩) nPg (.int .i64 n)
      have O5 := O.far (p := ⟨bg, kk * 2 + 1, none⟩) nOg (.int .i64 n)
      have pc0 := P.cell (i := 0) rfl
      have pc1 := P.cell (i := 1) rfl
      have pc2 := P.cell (i := 2) rfl
      have pc3 := P.cell (i := 3) rfl
      have rc0 := P5.cell (i := 0) rfl
      have rc1 := P5.cell (i := 1) rfl
      have rc2 := P5.cell (i := 2) rfl
      have rc3 := P5.cell (i := 3) rfl
      have qc0 := O5.cell (i := 0) rfl
      have qf0 := O5.froz 0
      have qc1 := O5.cell (i := 1) rfl
      have qf1 := O5.froz 1
      have qc2 := O5.cell (i := 2) rfl
      have qf2 := O5.froz 2
      have qc3 := O5.cell (i := 3) rfl
      have qf3 := O5.froz 3
      have qc4 := O5.cell (i := 4) rfl
      have qf4 := O5.froz 4
      have qc5 := O5.cell (i := 5) rfl
      have qf5 := O5.froz 5
      have qc6 := O5.cell (i := 6) rfl
      have qf6 := O5.froz 6
      go_wp2
      clear qc0 qf0 qc1 qf1 qc2 qf2 qc3 qf3 qc4 qf4 qc5 qf5 qc6 qf6
      clear rc0 rc1 rc2 rc3
      clear pc0 pc1 pc2 pc3
      have hbl : w.heap.size ≤ bg := by have := (oG.lt bg rfl).1; omega
      have oS5 : OwnS (w3'.setCell ⟨bg, kk * 2 + 1, none⟩ (.int .i64 n)) v0.heap.size (.slice A8 H.length a8) H := row_off oS (p := ⟨bg, kk * 2 + 1, none⟩) (by
        rcases own_apart oS oG (by decide) with h | h
        · rw [h]; exact fun e => by cases e
        · exact h) _
      have oG5 := (World.ownsRow.stored oG (kk * 2 + 1) (.int .i64 n)).1
      rw [gflat_set1 hg hkl n] at oG5
      have hb5 := hb.setCell (p := ⟨bg, kk * 2 + 1, none⟩) hbl (.int .i64 n)
      clear O hb P P5 oS oG K
      generalize w3'.setCell ⟨bg, kk * 2 + 1, none⟩ (.int .i64 n) = w5 at O5 hb5 oS5 oG5 ⊢
      have O := O5
      have hb := hb5
      have O9 := (((((((O.put 0 (.string nm)).put 1 (.int .i64 bs)).put 2 (.slice A8 H.length a8)).put 3 (.slice (some ⟨bg, 0, none⟩) hg.length b8)).put 4 (.slice none 0 0)).put 5 (.int .i64 0)).put 6 (.int .i64 0))
      have hb9 := (((((((hb.setCell (p := ⟨w.heap.size + 1, 0, none⟩) (by simp <;> omega) (.string nm)).setCell (p := ⟨w.heap.size + 1, 1, none⟩) (by simp <;> omega) (.int .i64 bs)).setCell (p := ⟨w.heap.size + 1, 2, none⟩) (by simp <;> omega) (.slice A8 H.length a8)).setCell (p := ⟨w.heap.size + 1, 3, none⟩) (by simp <;> omega) (.slice (some ⟨bg, 0, none⟩) hg.length b8)).setCell (p := ⟨w.heap.size + 1, 4, none⟩) (by simp <;> omega) (.slice none 0 0)).setCell (p := ⟨w.heap.size + 1, 5, none⟩) (by simp <;> omega) (.int .i64 0)).setCell (p := ⟨w.heap.size + 1, 6, none⟩) (by simp <;> omega) (.int .i64 0))
      have oS59 := (row_far (row_far (row_far (row_far (row_far (row_far (row_far oS5 (p := ⟨w.heap.size + 1, 0, none⟩) (by simp <;> omega) (.string nm)) (p := ⟨w.heap.size + 1, 1, none⟩) (by simp <;> omega) (.int .i64 bs)) (p := ⟨w.heap.size + 1, 2, none⟩) (by simp <;> omega) (.slice A8 H.length a8)) (p := ⟨w.heap.size + 1, 3, none⟩) (by simp <;> omega) (.slice (some ⟨bg, 0, none⟩) hg.length b8)) (p := ⟨w.heap.size + 1, 4, none⟩) (by simp <;> omega) (.slice none 0 0)) (p := ⟨w.heap.size + 1, 5, none⟩) (by simp <;> omega) (.int .i64 0)) (p := ⟨w.heap.size + 1, 6, none⟩) (by simp <;> omega) (.int .i64 0))
      have oG59 := (row_far (row_far (row_far (row_far (row_far (row_far (row_far oG5 (p := ⟨w.heap.size + 1, 0, none⟩) (by simp <;> omega) (.string nm)) (p := ⟨w.heap.size + 1, 1, none⟩) (by simp <;> omega) (.int .i64 bs)) (p := ⟨w.heap.size + 1, 2, none⟩) (by simp <;> omega) (.slice A8 H.length a8)) (p := ⟨w.heap.size + 1, 3, none⟩) (by simp <;> omega) (.slice (some ⟨bg, 0, none⟩) hg.length b8)) (p := ⟨w.heap.size + 1, 4, none⟩) (by simp <;> omega) (.slice none 0 0)) (p := ⟨w.heap.size + 1, 5, none⟩) (by simp <;> omega) (.int .i64 0)) (p := ⟨w.heap.size + 1, 6, none⟩) (by simp <;> omega) (.int .i64 0))
      simp only [List.set_cons_succ, List.set_cons_zero] at O9
      generalize ((((((w5.setCell ⟨w.heap.size + 1, 0, none⟩ (.string nm)).setCell ⟨w.heap.size + 1, 1, none⟩ (.int .i64 bs)).setCell ⟨w.heap.size + 1, 2, none⟩ (.slice A8 H.length a8)).setCell ⟨w.heap.size + 1, 3, none⟩ (.slice (some ⟨bg, 0, none⟩) hg.length b8)).setCell ⟨w.heap.size + 1, 4, none⟩ (.slice none 0 0)).setCell ⟨w.heap.size + 1, 5, none⟩ (.int .i64 0)).setCell ⟨w.heap.size + 1, 6, none⟩ (.int .i64 0) = w9 at O9 hb9 oS59 oG59 ⊢
      have oc0 := O9.cell (i := 0) rfl
      have oc1 := O9.cell (i := 1) rfl
      have oc2 := O9.cell (i := 2) rfl
      have oc3 := O9.cell (i := 3) rfl
      have oc4 := O9.cell (i := 4) rfl
      have oc5 := O9.cell (i := 5) rfl
      have oc6 := O9.cell (i := 6) rfl
      exact bodyPost_ret (v := .agg #[.string nm, .int .i64 bs, .slice A8 H.length a8, .slice (some ⟨bg, 0, none⟩) hg.length b8, .slice none 0 0, .int .i64 0, .int .i64 0]) (by simp [results, Try.results77, go_sem, oc0, oc1, oc2, oc3, oc4, oc5, oc6]) rfl (set_endX HR.out hkl (by omega) oS59 oG59 hb9)
end Go.Proofs.Ytjnbhppnchmeoaa

namespace Go.Proofs.Ytjnbhppnchmeoaa
open Go.RowKit
set_option linter.unusedVariables false
set_option maxRecDepth 1000000

set_option maxHeartbeats 8000000 in
theorem specTopicAck_anyX (t : Tpc) (gn : ByteArray) (n : Int) (A : Option Addr) (c : Nat) (B : Option Addr) (d : Nat) (w : World) (hf : t.fits) (hs : gn.size ≤ maxLen) (hA : Strs w w.heap.size A t.held) (hB : Grs w w.heap.size B t.groups) (hc : Cap A t.held.length c) (hd : Cap B t.groups.length d) :
    Calls Try.prog 27 #[topV t.name t.base (.slice A t.held.length c) (.slice B t.groups.length d), .string gn, .int .i64 n] w fun e w' => SpX w w' e (setT t gn n false) := by
  have LS := Lib.hid (fun W (h : Below w.heap.size w W) => l07Set_anyX t gn n false A c B d W hf hs (hA.on h) (hB.on h) hc hd)
  generalize setT t gn n false = R at LS ⊢
  obtain ⟨nm, bs, H, G⟩ := t
  simp only at hA hB hc hd LS ⊢
  have K := (Blk.fresh w 26 [.string nm, .int .i64 bs, .slice A H.length c, .slice B G.length d]).alloc (.cells #[.string ⟨#[]⟩, .int .i64 0, .slice none 0 0, .slice none 0 0, .slice none 0 0, .int .i64 0, .int .i64 0] 30)
  have O := Blk.fresh (w.alloc (.cells #[.string nm, .int .i64 bs, .slice A H.length c, .slice B G.length d] 26)) 30 [.string ⟨#[]⟩, .int .i64 0, .slice none 0 0, .slice none 0 0, .slice none 0 0, .int .i64 0, .int .i64 0]
  have hb : Below w.heap.size w ((w.alloc (.cells #[.string nm, .int .i64 bs, .slice A H.length c, .slice B G.length d] 26)).alloc (.cells #[.string ⟨#[]⟩, .int .i64 0, .slice none 0 0, .slice none 0 0, .slice none 0 0, .int .i64 0, .int .i64 0] 30)) := ((Below.refl _ _).alloc (Nat.le_refl _) _).alloc (by simp) _
  simp only [World.size_alloc] at K O
  replace K : Blk ((w.alloc (.cells #[.string nm, .int .i64 bs, .slice A H.length c, .slice B G.length d] 26)).alloc (.cells #[.string ⟨#[]⟩, .int .i64 0, .slice none 0 0, .slice none 0 0, .slice none 0 0, .int .i64 0, .int .i64 0] 30)) w.heap.size 26 [.string nm, .int .i64 bs, .slice A H.length c, .slice B G.length d] := K
  replace O : Blk ((w.alloc (.cells #[.string nm, .int .i64 bs, .slice A H.length c, .slice B G.length d] 26)).alloc (.cells #[.string ⟨#[]⟩, .int .i64 0, .slice none 0 0, .slice none 0 0, .slice none 0 0, .int .i64 0, .int .i64 0] 30)) (w.heap.size + 1) 30 [.string ⟨#[]⟩, .int .i64 0, .slice none 0 0, .slice none 0 0, .slice none 0 0, .int .i64 0, .int .i64 0] := O
  have kc0 := K.cell (i := 0) rfl
  have kc1 := K.cell (i := 1) rfl
  have kc2 := K.cell (i := 2) rfl
  have kc3 := K.cell (i := 3) rfl
  go_enter Try.func27, Try.ntmps27
  go_wp2_with (fail)
  clear kc0 kc1 kc2 kc3
  generalize (w.alloc (.cells #[.string nm, .int .i64 bs, .slice A H.length c, .slice B G.length d] 26)).alloc (.cells #[.string ⟨#[]⟩, .int .i64 0, .slice none 0 0, .slice none 0 0, .slice none 0 0, .int .i64 0, .int .i64 0] 30) = v0 at K O hb ⊢
  obtain ⟨⟨on, ob, oH, oG⟩, N, rn, co⟩ := R
  have ho0 := O.lt
  refine (LS.out _ hb).mono ?_
  rintro e w1 ⟨A1, a1, B1, b1, T1, x1, rfl, sA, sB, hb1⟩
  simp only at sA sB
  replace O := O.below hb1 O.lt
  have hv0 := hb.size
  replace hb := hb.trans (hb1.mono hb.size)
  replace sA := sA.low hv0
  replace sB := sB.low hv0
  have qc0 := O.cell (i := 0) rfl
  have qf0 := O.froz 0
  have qc1 := O.cell (i := 1) rfl
  have qf1 := O.froz 1
  have qc2 := O.cell (i := 2) rfl
  have qf2 := O.froz 2
  have qc3 := O.cell (i := 3) rfl
  have qf3 := O.froz 3
  have qc4 := O.cell (i := 4) rfl
  have qf4 := O.froz 4
  have qc5 := O.cell (i := 5) rfl
  have qf5 := O.froz 5
  have qc6 := O.cell (i := 6) rfl
  have qf6 := O.froz 6
  go_wp2
  clear qc0 qf0 qc1 qf1 qc2 qf2 qc3 qf3 qc4 qf4 qc5 qf5 qc6 qf6
  have rA := (((((((sA.off O (by decide) 0 (.string on)).off (O.put 0 (.string on)) (by decide) 1 (.int .i64 ob)).off ((O.put 0 (.string on)).put 1 (.int .i64 ob)) (by decide) 2 (.slice A1 oH.length a1)).off (((O.put 0 (.string on)).put 1 (.int .i64 ob)).put 2 (.slice A1 oH.length a1)) (by decide) 3 (.slice B1 oG.length b1)).off ((((O.put 0 (.string on)).put 1 (.int .i64 ob)).put 2 (.slice A1 oH.length a1)).put 3 (.slice B1 oG.length b1)) (by decide) 4 (.slice T1 N.length x1)).off (((((O.put 0 (.string on)).put 1 (.int .i64 ob)).put 2 (.slice A1 oH.length a1)).put 3 (.slice B1 oG.length b1)).put 4 (.slice T1 N.length x1)) (by decide) 5 (.int .i64 rn)).off ((((((O.put 0 (.string on)).put 1 (.int .i64 ob)).put 2 (.slice A1 oH.length a1)).put 3 (.slice B1 oG.length b1)).put 4 (.slice T1 N.length x1)).put 5 (.int .i64 rn)) (by decide) 6 (.int .i64 co))
  have rB := (((((((sB.off O (by decide) 0 (.string on)).off (O.put 0 (.string on)) (by decide) 1 (.int .i64 ob)).off ((O.put 0 (.string on)).put 1 (.int .i64 ob)) (by decide) 2 (.slice A1 oH.length a1)).off (((O.put 0 (.string on)).put 1 (.int .i64 ob)).put 2 (.slice A1 oH.length a1)) (by decide) 3 (.slice B1 oG.length b1)).off ((((O.put 0 (.string on)).put 1 (.int .i64 ob)).put 2 (.slice A1 oH.length a1)).put 3 (.slice B1 oG.length b1)) (by decide) 4 (.slice T1 N.length x1)).off (((((O.put 0 (.string on)).put 1 (.int .i64 ob)).put 2 (.slice A1 oH.length a1)).put 3 (.slice B1 oG.length b1)).put 4 (.slice T1 N.length x1)) (by decide) 5 (.int .i64 rn)).off ((((((O.put 0 (.string on)).put 1 (.int .i64 ob)).put 2 (.slice A1 oH.length a1)).put 3 (.slice B1 oG.length b1)).put 4 (.slice T1 N.length x1)).put 5 (.int .i64 rn)) (by decide) 6 (.int .i64 co))
  have O9 := (((((((O.put 0 (.string on)).put 1 (.int .i64 ob)).put 2 (.slice A1 oH.length a1)).put 3 (.slice B1 oG.length b1)).put 4 (.slice T1 N.length x1)).put 5 (.int .i64 rn)).put 6 (.int .i64 co))
  have hb9 := (((((((hb.setCell (p := ⟨w.heap.size + 1, 0, none⟩) (by simp <;> omega) (.string on)).setCell (p := ⟨w.heap.size + 1, 1, none⟩) (by simp <;> omega) (.int .i64 ob)).setCell (p := ⟨w.heap.size + 1, 2, none⟩) (by simp <;> omega) (.slice A1 oH.length a1)).setCell (p := ⟨w.heap.size + 1, 3, none⟩) (by simp <;> omega) (.slice B1 oG.length b1)).setCell (p := ⟨w.heap.size + 1, 4, none⟩) (by simp <;> omega) (.slice T1 N.length x1)).setCell (p := ⟨w.heap.size + 1, 5, none⟩) (by simp <;> omega) (.int .i64 rn)).setCell (p := ⟨w.heap.size + 1, 6, none⟩) (by simp <;> omega) (.int .i64 co))
  simp only [List.set_cons_succ, List.set_cons_zero] at O9
  generalize ((((((w1.setCell ⟨w.heap.size + 1, 0, none⟩ (.string on)).setCell ⟨w.heap.size + 1, 1, none⟩ (.int .i64 ob)).setCell ⟨w.heap.size + 1, 2, none⟩ (.slice A1 oH.length a1)).setCell ⟨w.heap.size + 1, 3, none⟩ (.slice B1 oG.length b1)).setCell ⟨w.heap.size + 1, 4, none⟩ (.slice T1 N.length x1)).setCell ⟨w.heap.size + 1, 5, none⟩ (.int .i64 rn)).setCell ⟨w.heap.size + 1, 6, none⟩ (.int .i64 co) = w9 at O9 hb9 rA rB  ⊢
  have oc0 := O9.cell (i := 0) rfl
  have oc1 := O9.cell (i := 1) rfl
  have oc2 := O9.cell (i := 2) rfl
  have oc3 := O9.cell (i := 3) rfl
  have oc4 := O9.cell (i := 4) rfl
  have oc5 := O9.cell (i := 5) rfl
  have oc6 := O9.cell (i := 6) rfl
  exact bodyPost_ret (v := .agg #[.string on, .int .i64 ob, .slice A1 oH.length a1, .slice B1 oG.length b1, .slice T1 N.length x1, .int .i64 rn, .int .i64 co]) (by simp [results, Try.results27, go_sem, oc0, oc1, oc2, oc3, oc4, oc5, oc6]) rfl ⟨A1, a1, B1, b1, T1, x1, rfl, rA, rB, hb9⟩
set_option maxHeartbeats 8000000 in
theorem specTopicSeek_anyX (t : Tpc) (gn : ByteArray) (n : Int) (A : Option Addr) (c : Nat) (B : Option Addr) (d : Nat) (w : World) (hf : t.fits) (hs : gn.size ≤ maxLen) (hA : Strs w w.heap.size A t.held) (hB : Grs w w.heap.size B t.groups) (hc : Cap A t.held.length c) (hd : Cap B t.groups.length d) :
    Calls Try.prog 107 #[topV t.name t.base (.slice A t.held.length c) (.slice B t.groups.length d), .string gn, .int .i64 n] w fun e w' => SpX w w' e (setT t gn n true) := by
  have LS := Lib.hid (fun W (h : Below w.heap.size w W) => l07Set_anyX t gn n true A c B d W hf hs (hA.on h) (hB.on h) hc hd)
  generalize setT t gn n true = R at LS ⊢
  obtain ⟨nm, bs, H, G⟩ := t
  simp only at hA hB hc hd LS ⊢
  have K := (Blk.fresh w 26 [.string nm, .int .i64 bs, .slice A H.length c, .slice B G.length d]).alloc (.cells #[.string ⟨#[]⟩, .int .i64 0, .slice none 0 0, .slice none 0 0, .slice none 0 0, .int .i64 0, .int .i64 0] 30)
  have O := Blk.fresh (w.alloc (.cells #[.string nm, .int .i64 bs, .slice A H.length c, .slice B G.length d] 26)) 30 [.string ⟨#[]⟩, .int .i64 0, .slice none 0 0, .slice none 0 0, .slice none 0 0, .int .i64 0, .int .i64 0]
  have hb : Below w.heap.size w ((w.alloc (.cells #[.string nm, .int .i64 bs, .slice A H.length c, .slice B G.length d] 26)).alloc (.cells #[.string ⟨#[]⟩, .int .i64 0, .slice none 0 0, .slice none 0 0, .slice none 0 0, .int .i64 0, .int .i64 0] 30)) := ((Below.refl _ _).alloc (Nat.le_refl _) _).alloc (by simp) _
  simp only [World.size_alloc] at K O
  replace K : Blk ((w.alloc (.cells #[.string nm, .int .i64 bs, .slice A H.length c, .slice B G.length d] 26)).alloc (.cells #[.string ⟨#[]⟩, .int .i64 0, .slice none 0 0, .slice none 0 0, .slice none 0 0, .int .i64 0, .int .i64 0] 30)) w.heap.size 26 [.string nm, .int .i64 bs, .slice A H.length c, .slice B G.length d] := K
  replace O : Blk ((w.alloc (.cells #[.string nm, .int .i64 bs, .slice A H.length c, .slice B G.length d] 26)).alloc (.cells #[.string ⟨#[]⟩, .int .i64 0, .slice none 0 0, .slice none 0 0, .slice none 0 0, .int .i64 0, .int .i64 0] 30)) (w.heap.size + 1) 30 [.string ⟨#[]⟩, .int .i64 0, .slice none 0 0, .slice none 0 0, .slice none 0 0, .int .i64 0, .int .i64 0] := O
  have kc0 := K.cell (i := 0) rfl
  have kc1 := K.cell (i := 1) rfl
  have kc2 := K.cell (i := 2) rfl
  have kc3 := K.cell (i := 3) rfl
  go_enter Try.func107, Try.ntmps107
  go_wp2_with (fail)
  clear kc0 kc1 kc2 kc3
  generalize (w.alloc (.cells #[.string nm, .int .i64 bs, .slice A H.length c, .slice B G.length d] 26)).alloc (.cells #[.string ⟨#[]⟩, .int .i64 0, .slice none 0 0, .slice none 0 0, .slice none 0 0, .int .i64 0, .int .i64 0] 30) = v0 at K O hb ⊢
  obtain ⟨⟨on, ob, oH, oG⟩, N, rn, co⟩ := R
  have ho0 := O.lt
  refine (LS.out _ hb).mono ?_
  rintro e w1 ⟨A1, a1, B1, b1, T1, x1, rfl, sA, sB, hb1⟩
  simp only at sA sB
  replace O := O.below hb1 O.lt
  have hv0 := hb.size
  replace hb := hb.trans (hb1.mono hb.size)
  replace sA := sA.low hv0
  replace sB := sB.low hv0
  have qc0 := O.cell (i := 0) rfl
  have qf0 := O.froz 0
  have qc1 := O.cell (i := 1) rfl
  have qf1 := O.froz 1
  have qc2 := O.cell (i := 2) rfl
  have qf2 := O.froz 2
  have qc3 := O.cell (i := 3) rfl
  have qf3 := O.froz 3
  have qc4 := O.cell (i := 4) rfl
  have qf4 := O.froz 4
  have qc5 := O.cell (i := 5) rfl
  have qf5 := O.froz 5
  have qc6 := O.cell (i := 6) rfl
  have qf6 := O.froz 6
  go_wp2
  clear qc0 qf0 qc1 qf1 qc2 qf2 qc3 qf3 qc4 qf4 qc5 qf5 qc6 qf6
  have rA := (((((((sA.off O (by decide) 0 (.string on)).off (O.put 0 (.string on)) (by decide) 1 (.int .i64 ob)).off ((O.put 0 (.string on)).put 1 (.int .i64 ob)) (by decide) 2 (.slice A1 oH.length a1)).off (((O.put 0 (.string on)).put 1 (.int .i64 ob)).put 2 (.slice A1 oH.length a1)) (by decide) 3 (.slice B1 oG.length b1)).off ((((O.put 0 (.string on)).put 1 (.int .i64 ob)).put 2 (.slice A1 oH.length a1)).put 3 (.slice B1 oG.length b1)) (by decide) 4 (.slice T1 N.length x1)).off (((((O.put 0 (.string on)).put 1 (.int .i64 ob)).put 2 (.slice A1 oH.length a1)).put 3 (.slice B1 oG.length b1)).put 4 (.slice T1 N.length x1)) (by decide) 5 (.int .i64 rn)).off ((((((O.put 0 (.string on)).put 1 (.int .i64 ob)).put 2 (.slice A1 oH.length a1)).put 3 (.slice B1 oG.length b1)).put 4 (.slice T1 N.length x1)).put 5 (.int .i64 rn)) (by decide) 6 (.int .i64 co))
  have rB := (((((((sB.off O (by decide) 0 (.string on)).off (O.put 0 (.string on)) (by decide) 1 (.int .i64 ob)).off ((O.put 0 (.string on)).put 1 (.int .i64 ob)) (by decide) 2 (.slice A1 oH.length a1)).off (((O.put 0 (.string on)).put 1 (.int .i64 ob)).put 2 (.slice A1 oH.length a1)) (by decide) 3 (.slice B1 oG.length b1)).off ((((O.put 0 (.string on)).put 1 (.int .i64 ob)).put 2 (.slice A1 oH.length a1)).put 3 (.slice B1 oG.length b1)) (by decide) 4 (.slice T1 N.length x1)).off (((((O.put 0 (.string on)).put 1 (.int .i64 ob)).put 2 (.slice A1 oH.length a1)).put 3 (.slice B1 oG.length b1)).put 4 (.slice T1 N.length x1)) (by decide) 5 (.int .i64 rn)).off ((((((O.put 0 (.string on)).put 1 (.int .i64 ob)).put 2 (.slice A1 oH.length a1)).put 3 (.slice B1 oG.length b1)).put 4 (.slice T1 N.length x1)).put 5 (.int .i64 rn)) (by decide) 6 (.int .i64 co))
  have O9 := (((((((O.put 0 (.string on)).put 1 (.int .i64 ob)).put 2 (.slice A1 oH.length a1)).put 3 (.slice B1 oG.length b1)).put 4 (.slice T1 N.length x1)).put 5 (.int .i64 rn)).put 6 (.int .i64 co))
  have hb9 := (((((((hb.setCell (p := ⟨w.heap.size + 1, 0, none⟩) (by simp <;> omega) (.string on)).setCell (p := ⟨w.heap.size + 1, 1, none⟩) (by simp <;> omega) (.int .i64 ob)).setCell (p := ⟨w.heap.size + 1, 2, none⟩) (by simp <;> omega) (.slice A1 oH.length a1)).setCell (p := ⟨w.heap.size + 1, 3, none⟩) (by simp <;> omega) (.slice B1 oG.length b1)).setCell (p := ⟨w.heap.size + 1, 4, none⟩) (by simp <;> omega) (.slice T1 N.length x1)).setCell (p := ⟨w.heap.size + 1, 5, none⟩) (by simp <;> omega) (.int .i64 rn)).setCell (p := ⟨w.heap.size + 1, 6, none⟩) (by simp <;> omega) (.int .i64 co))
  simp only [List.set_cons_succ, List.set_cons_zero] at O9
  generalize ((((((w1.setCell ⟨w.heap.size + 1, 0, none⟩ (.string on)).setCell ⟨w.heap.size + 1, 1, none⟩ (.int .i64 ob)).setCell ⟨w.heap.size + 1, 2, none⟩ (.slice A1 oH.length a1)).setCell ⟨w.heap.size + 1, 3, none⟩ (.slice B1 oG.length b1)).setCell ⟨w.heap.size + 1, 4, none⟩ (.slice T1 N.length x1)).setCell ⟨w.heap.size + 1, 5, none⟩ (.int .i64 rn)).setCell ⟨w.heap.size + 1, 6, none⟩ (.int .i64 co) = w9 at O9 hb9 rA rB  ⊢
  have oc0 := O9.cell (i := 0) rfl
  have oc1 := O9.cell (i := 1) rfl
  have oc2 := O9.cell (i := 2) rfl
  have oc3 := O9.cell (i := 3) rfl
  have oc4 := O9.cell (i := 4) rfl
  have oc5 := O9.cell (i := 5) rfl
  have oc6 := O9.cell (i := 6) rfl
  exact bodyPost_ret (v := .agg #[.string on, .int .i64 ob, .slice A1 oH.length a1, .slice B1 oG.length b1, .slice T1 N.length x1, .int .i64 rn, .int .i64 co]) (by simp [results, Try.results107, go_sem, oc0, oc1, oc2, oc3, oc4, oc5, oc6]) rfl ⟨A1, a1, B1, b1, T1, x1, rfl, rA, rB, hb9⟩
end Go.Proofs.Ytjnbhppnchmeoaa
