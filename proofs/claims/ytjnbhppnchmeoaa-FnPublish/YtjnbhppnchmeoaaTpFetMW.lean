/- impl.TopicSeek; the two answer alike. The closure of runFor, the operation being fetch. Strings appended at a step of a region that draws its order. What TopicFetch answers. -/
import Derived.Test.YtjnbhppnchmeoaaTpForKW
import Derived.Test.YtjnbhppnchmeoaaTpAckXW
import Derived.Test.YtjnbhppnchmeoaaIs3W
import Derived.Deep.RegionLaw
import Derived.Test.YtjnbhppnchmeoaaTpSetMW
namespace Go.Proofs.Ytjnbhppnchmeoaa
open Go.RowKit Go.Deep
set_option linter.unusedVariables false
set_option maxRecDepth 1000000
theorem seekT_of (t : Tpc) (gn : ByteArray) (n : Int) : setT t gn n true = rfR t gn true (moveA ⟨t.name, t.base, t.held, hasG t gn⟩ (posG t.groups gn) n (inB n t.base (t.base + t.held.length))) := by
  rw [← forR_eq]
  simp [setT]
end Go.Proofs.Ytjnbhppnchmeoaa

namespace Go.Proofs.Ytjnbhppnchmeoaa
open Go.RowKit Go.Deep
set_option linter.unusedVariables false
set_option maxRecDepth 1000000
set_option maxHeartbeats 16000000 in
theorem forC_fetch (t : Tpc) (gn s : ByteArray) (n : Int) (R : Ans) (lo p b5 b7 b9 : Nat) (A : Option Addr) (a : Nat) (B : Option Addr) (b : Nat) (w : World) (h : Wk w lo p t s n A a B b) (ho : topOK t) (hl : lo ≤ p) (hgn : gn.size ≤ 1048576)
    (h5 : Blk w b5 126 [.pointer (some ⟨p, 0, none⟩)]) (h7 : Blk w b7 9 [.string gn]) (h9 : Blk w b9 97 [.func (.func 72) #[.pointer (some ⟨p, 0, none⟩)] #[]])
    (HOP : ∀ W A2 a2 bg b2, Wk W lo p ⟨t.name, t.base, t.held, hasG t gn⟩ s n A2 a2 (some ⟨bg, 0, none⟩) b2 → Calls Try.prog 72 #[.pointer (some ⟨p, 0, none⟩), .pointer (some ⟨bg, posG t.groups gn * 2, none⟩)] W (OpPost lo p s n R W)) :
    Calls Try.prog 114 #[.pointer (some ⟨b5, 0, none⟩), .pointer (some ⟨b7, 0, none⟩), .pointer (some ⟨b9, 0, none⟩)] w (OpPost lo p s n (forA t gn R) w) := by
  have hlow : lo ≤ w.heap.size := Nat.le_trans hl (Nat.le_of_lt h.blk.lt)
  obtain ⟨P, oS, oG⟩ := h
  have hG4 := ho.2.2.2.2.1
  have GP := Lib.hid (fun W (hb : Below w.heap.size w W) => groupPlace_any B t.groups b gn W ((OwnG.grs oG).on hb) (rising_of ho) (by omega))
  have hpl := posG_le t.groups gn
  have HIF := Lib.hid (isG_iff (G := t.groups) (s := gn))
  have HH := Lib.hid (show hasG t gn = if isG t.groups gn = true then t.groups else insAt t.groups (posG t.groups gn) ⟨gn, t.base⟩ from rfl)
  have HF := Lib.hid (forA.eq_1 t gn R)
  have HOPh := Lib.hid HOP
  clear HOP
  obtain ⟨hg, Hhg⟩ : ∃ x, Hid (hasG t gn = x) := ⟨_, Lib.hid rfl⟩
  rw [Hhg.out] at HH HOPh
  obtain ⟨fr, Hfr⟩ : ∃ x, Hid (forA t gn R = x) := ⟨_, Lib.hid rfl⟩
  rw [Hfr.out] at HF ⊢
  obtain ⟨nm, bs, H, G⟩ := t
  simp only at P oS oG hG4 GP hpl HIF HH HF HOPh
  clear Hhg Hfr ho
  obtain ⟨k, HK⟩ : ∃ k, Hid (posG G gn = k) := ⟨_, Lib.hid rfl⟩
  rw [HK.out] at GP hpl HH HOPh
  have n5 := blk_ne h5 P (by decide)
  have n9 : b9 ≠ p := blk_ne h9 P (by decide)
  obtain ⟨I, fw, hI, g0, h6, gc, ge⟩ := class_grown w
  have x3 := fun q => kept_cell (h6 q) (P.cell (i := 3) rfl)
  have x5 := fun q => kept_cell (h6 q) (h5.cell (i := 0) rfl)
  have x7 := fun q => kept_cell (h6 q) (h7.cell (i := 0) rfl)
  have GE := Lib.hid ge
  have GC := Lib.hid gc
  have H6 := Lib.hid h6
  clear h6 gc ge
  rcases Bool.eq_false_or_eq_true (isG G gn) with hI2 | hI2
  · obtain ⟨hkl, hke⟩ := HIF.out.1 hI2
    simp only [HK.out] at hkl
    have HHe : Hid (hg = G) := Lib.hid (by rw [HH.out, if_pos hI2])
    have HFe : Hid (fr = R) := Lib.hid (by rw [HF.out, if_neg (by rw [hI2]; simp)])
    rw [hI2] at GP
    clear HH HF HIF hke hI2
    go_enter Try.func114, Try.ntmps114
    go_wp2_with (fail)
    refine wp_region_kept fw (by kernel_rfl) (by kernel_rfl) g0 ?_
    repeat (first
      | go_big_quiet_skip
      | (go_big_quiet_want; go_big_quiet_op; first | go_big_quiet_on | (apply Exists.intro; refine ⟨fun q => ?_, ?_⟩; (go_at_call 78; (with_reducible refine (GP.out _ (H6.out q)).mono ?_); rintro e w4 ⟨rfl, hb4⟩; exact ⟨rfl, GC.out _ _ hb4⟩); go_big_quiet_on)))
    refine wpQuiet_nil ?_
    intro w2 h2
    have hb2 := GE.out _ h2
    have P2 := P.below hb2 P.lt
    have S2 : OwnS w2 lo (.slice A H.length a) H := row_below oS hb2 (Nat.le_refl _)
    have G2 : OwnG w2 lo (.slice B G.length b) G := row_below oG hb2 (Nat.le_refl _)
    have h52 := h5.below hb2 h5.lt
    have h92 := h9.below hb2 h9.lt
    have hb02 : Below lo w w2 := hb2.mono hlow
    have KQ := Lib.hid (fun g cs (_ : g ≠ p) (h : Blk w g 30 cs) => h.below hb2 h.lt)
    have hk' : (k : Int) < (G.length : Int) := by omega
    obtain ⟨bg, rfl⟩ : ∃ bg, B = some ⟨bg, 0, none⟩ := by
      rcases oG.2 with ⟨he, h0⟩ | ⟨g, cap, cur, he, _⟩
      · rw [h0] at hkl; omega
      · injection he with e1; exact ⟨g, e1⟩
    clear h2 g0 x3 x5 x7 GE GC H6 GP
    go_wp2_with (fail)
    obtain ⟨I2, fv, hI2, v0, v6, vc, ve⟩ := class_grown w2
    have z3 := fun q => kept_cell (v6 q) (P2.cell (i := 3) rfl)
    have z5 := fun q => kept_cell (v6 q) (h52.cell (i := 0) rfl)
    have z9 := fun q => kept_cell (v6 q) (h92.cell (i := 0) rfl)
    have VE := Lib.hid ve
    clear v6 vc ve
    refine wp_region_class_tail (C := fun w' => ∃ q, w' = fv q) 8 (by kernel_rfl) (by kernel_rfl) v0 ?_
    simp only [List.take_succ_cons, List.take_zero, List.drop_succ_cons, List.drop_zero]
    repeat (first
      | go_big_quiet_skip
      | (go_big_quiet_want; go_big_quiet_op; go_big_quiet_on))
    refine wpQuiet_nil ?_
    intro w8 h8
    have hb8 := VE.out _ h8
    have P8 := P2.below hb8 P2.lt
    have S8 : OwnS w8 lo (.slice A H.length a) H := row_below S2 hb8 (Nat.le_refl _)
    have G8 := row_below G2 hb8 (Nat.le_refl _)
    have hb08 := hb02.trans (hb8.mono (Nat.le_trans hlow hb02.size))
    have K8 := Lib.hid (fun g cs (hg : g ≠ p) (h : Blk w g 30 cs) => (KQ.out g cs hg h).below hb8 (KQ.out g cs hg h).lt)
    have OP := HOPh.out w8 A a bg b ⟨by rw [HHe.out]; exact P8, S8, by rw [HHe.out]; exact G8⟩
    have OPh := Lib.hid OP
    clear OP z3 z5 z9 h8 v0 VE
    go_wp2_with (fail)
    refine OPh.out.mono ?_
    rintro e w9 ⟨o1, o2, rfl, o4⟩
    go_wp2
    go_ret
    rw [HFe.out]
    exact OpPost.after hb08 K8.out ⟨o1, o2, rfl, o4⟩ hlow
  · have HHe : Hid (hg = insAt G k ⟨gn, bs⟩) := Lib.hid (by rw [HH.out, if_neg (by rw [hI2]; simp)])
    rw [hI2] at GP
    go_enter Try.func114, Try.ntmps114
    go_wp2_with (fail)
    refine wp_region_kept fw (by kernel_rfl) (by kernel_rfl) g0 ?_
    repeat (first
      | go_big_quiet_skip
      | (go_big_quiet_want; go_big_quiet_op; first | go_big_quiet_on | (apply Exists.intro; refine ⟨fun q => ?_, ?_⟩; (go_at_call 78; (with_reducible refine (GP.out _ (H6.out q)).mono ?_); rintro e w4 ⟨rfl, hb4⟩; exact ⟨rfl, GC.out _ _ hb4⟩); go_big_quiet_on)))
    refine wpQuiet_nil ?_
    intro w2 h2
    have hb2 := GE.out _ h2
    have P2 := P.below hb2 P.lt
    have S2 : OwnS w2 lo (.slice A H.length a) H := row_below oS hb2 (Nat.le_refl _)
    have G2 : OwnG w2 lo (.slice B G.length b) G := row_below oG hb2 (Nat.le_refl _)
    have h52 := h5.below hb2 h5.lt
    have h92 := h9.below hb2 h9.lt
    have hb02 : Below lo w w2 := hb2.mono hlow
    have KQ := Lib.hid (fun g cs (_ : g ≠ p) (h : Blk w g 30 cs) => h.below hb2 h.lt)
    have h72 := h7.below hb2 h7.lt
    clear h2 g0 x3 x5 x7 GE GC H6 GP
    have c3 := P2.cell (i := 3) rfl
    have c5 := h52.cell (i := 0) rfl
    by_cases h4 : 4 ≤ G.length
    · have hd : ((G.length : Int) == 4) = true := by have : G.length = 4 := by omega
                                                     rw [this]; rfl
      have HFe : Hid (fr = ill 9) := Lib.hid (by rw [HF.out, if_pos ⟨hI2, h4⟩])
      clear HF HIF HH hI2 h4
      go_wp2
      go_ret
      rw [HFe.out]
      exact ⟨hb02, KQ.out, rfl, .inl ⟨by simp [ill], rfl⟩⟩
    have hd : ((G.length : Int) == 4) = false := by rw [beq_eq_false_iff_ne]; omega
    have HFe : Hid (fr = R) := Lib.hid (by rw [HF.out, if_neg (fun h => h4 h.2)])
    have hG3 : G.length ≤ 3 := by omega
    clear HF HIF HH hI2 h4
    have CL := Lib.hid (fun W => clone_any gn W hgn)
    go_wp2_with (fail)
    clear c3 c5
    go_cut [6] (fun y wx => AdCut w2 gn bs y wx)
    case first =>
      have x5 : w2.drew.cell? ⟨b5, 0, none⟩ = some (.pointer (some ⟨p, 0, none⟩)) := h52.drew.cell (i := 0) rfl
      have x7 : w2.drew.cell? ⟨b7, 0, none⟩ = some (.string gn) := h72.drew.cell (i := 0) rfl
      have x1 : w2.drew.cell? ⟨p, 1, none⟩ = some (.int .i64 bs) := P2.drew.cell (i := 1) rfl
      have al1 := (Below.refl w2.heap.size w2).alloc (Nat.le_refl _) (.cells #[.string ⟨#[]⟩, .int .i64 0] 94)
      have al0 : Below w2.drew.heap.size w2.drew (w2.alloc (.cells #[.string ⟨#[]⟩, .int .i64 0] 94)).drew := ⟨al1.os, al1.tape, al1.output, al1.size, al1.block⟩
      have y0 := Blk.fresh w2 94 [.string ⟨#[]⟩, .int .i64 0]
      replace y0 : Blk (w2.alloc (.cells #[.string ⟨#[]⟩, .int .i64 0] 94)).drew w2.heap.size 94 [.string ⟨#[]⟩, .int .i64 0] := y0
      have l5 := Nat.ne_of_lt h52.lt
      have l7 := Nat.ne_of_lt h72.lt
      have lp := Nat.ne_of_lt P2.lt
      have L5 := h52.lt
      have L7 := h72.lt
      have LP := P2.lt
      have dr : ∀ W, Below w2.drew.heap.size w2.drew W → Below w2.heap.size w2 W := fun W h => (below_drew (Below.refl _ w2)).trans h
      have DR := Lib.hid dr
      clear al1 dr
      have a5 := kept_cell al0 x5
      have a7 := kept_cell al0 x7
      have a1 := kept_cell al0 x1
      go_region_held3 (fun W => W.cell? ⟨b5, 0, none⟩ = some (.pointer (some ⟨p, 0, none⟩)) ∧ W.cell? ⟨b7, 0, none⟩ = some (.string gn) ∧ W.cell? ⟨p, 1, none⟩ = some (.int .i64 bs))
        (first
          | with_reducible exact ⟨x5, x7, x1⟩
          | with_reducible exact ⟨a5, a7, a1⟩
          | with_reducible exact ⟨c5, c7, c1⟩
          | with_reducible exact ⟨d5, d7, d1⟩
          | with_reducible exact ⟨e5, e7, e1⟩
          | ((with_reducible refine ⟨far2 ?_ ?_, far2 ?_ ?_, far2 ?_ ?_⟩) <;> with_reducible assumption))
        (first
          | (go_at_call 110; first
            | ((with_reducible refine (CL.out w2.drew).mono ?_); rintro e w3 ⟨rfl, hX⟩; have hsX : w2.heap.size ≤ w3.heap.size := hX.size; have m5 := Nat.ne_of_lt (Nat.lt_of_lt_of_le L5 hsX); have m7 := Nat.ne_of_lt (Nat.lt_of_lt_of_le L7 hsX); have mp := Nat.ne_of_lt (Nat.lt_of_lt_of_le LP hsX); have c5 := kept_cell hX x5; have c7 := kept_cell hX x7; have c1 := kept_cell hX x1; have hXb := hX.alloc hX.size (.cells #[.string ⟨#[]⟩, .int .i64 0] 94); have d5 := kept_cell hXb x5; have d7 := kept_cell hXb x7; have d1 := kept_cell hXb x1; have hXc := hX.alloc hX.size (.cells #[.string gn, .int .i64 bs] 94); have e5 := kept_cell hXc x5; have e7 := kept_cell hXc x7; have e1 := kept_cell hXc x1)
            | ((with_reducible refine (CL.out (w2.alloc (.cells #[.string ⟨#[]⟩, .int .i64 0] 94)).drew).mono ?_); rintro e w3 ⟨rfl, hc1⟩; have O := y0.below hc1 y0.lt; have hX := al0.trans (hc1.mono al0.size); have o0 := O.cell (i := 0) rfl; have o1 := O.cell (i := 1) rfl; have p0 := O.froz 0; have p1 := O.froz 1; have c5 := kept_cell hX x5; have c7 := kept_cell hX x7; have c1 := kept_cell hX x1)))
      all_goals
        go_wp2_with (fail)
        have hyy := DR.out _ hX
        go_meet
        case rel => first
          | with_reducible exact AdCut.late hyy
          | with_reducible exact AdCut.of O hyy (Nat.le_refl _)
    case rest =>
      obtain ⟨w3, ba, rfl, rfl, hba, O3, hb3⟩ := hcut
      have P3 := P2.below hb3 P2.lt
      have S3 : OwnS w3 lo (.slice A H.length a) H := row_below S2 hb3 (Nat.le_refl _)
      have G3 : OwnG w3 lo (.slice B G.length b) G := row_below G2 hb3 (Nat.le_refl _)
      have h53 := h52.below hb3 h52.lt
      have h93 := h92.below hb3 h92.lt
      have hb03 := hb02.trans (hb3.mono (Nat.le_trans hlow hb02.size))
      have KQ3 := Lib.hid (fun g cs (hg : g ≠ p) (h : Blk w g 30 cs) => (KQ.out g cs hg h).below hb3 (KQ.out g cs hg h).lt)
      go_wp2_with (fail)
      clear hb2 P2 S2 G2 h52 h92 hb02 KQ h72 CL
      have nb5 : ∀ k, B.map (·.block) = some k → b5 ≠ k := fun k e h => own_not G3 h53 (by decide) (by rw [own_blk, e, h])
      have nb9 : ∀ k, B.map (·.block) = some k → b9 ≠ k := fun k e h => own_not G3 h93 (by decide) (by rw [own_blk, e, h])
      have nbp : ∀ k, B.map (·.block) = some k → p ≠ k := fun k e h => own_not G3 P3 (by decide) (by rw [own_blk, e, h])
      have hl3 : lo ≤ w3.heap.size := Nat.le_trans hlow hb03.size
      have al1 := (Below.refl w3.heap.size w3).alloc (Nat.le_refl _) (.cells #[.string gn, .int .i64 bs] 94)
      have al0 : Below w3.heap.size w3 (w3.alloc (.cells #[.string gn, .int .i64 bs] 94)).drew := below_drew al1
      have hV : Blk (w3.alloc (.cells #[.string gn, .int .i64 bs] 94)).drew w3.heap.size 94 [.string gn, .int .i64 bs] := Blk.fresh w3 94 [.string gn, .int .i64 bs]
      have P4 := P3.below al0 P3.lt
      have h54 := h53.below al0 h53.lt
      have h94 := h93.below al0 h93.lt
      have O4 := O3.below al0 O3.lt
      have G4 : OwnG (w3.alloc (.cells #[.string gn, .int .i64 bs] 94)).drew lo (.slice B G.length b) G := row_below G3 al0 (Nat.le_refl _)
      have S4 : OwnS (w3.alloc (.cells #[.string gn, .int .i64 bs] 94)).drew lo (.slice A H.length a) H := row_below S3 al0 (Nat.le_refl _)
      have hb04 := hb03.trans (al0.mono hl3)
      have KQ4 := Lib.hid (fun g cs (hg : g ≠ p) (h : Blk w g 30 cs) => (KQ3.out g cs hg h).below al0 (KQ3.out g cs hg h).lt)
      have INS := Lib.hid (insert_any B G b k w3.heap.size lo ⟨gn, bs⟩ (w3.alloc (.cells #[.string gn, .int .i64 bs] 94)).drew G4 hG3 hpl hV (fun q e h => by have := (G3.lt q (by rw [own_blk, e])).2; omega) (Nat.le_trans hl3 al0.size))
      have x5 : w3.drew.cell? ⟨b5, 0, none⟩ = some (.pointer (some ⟨p, 0, none⟩)) := h53.drew.cell (i := 0) rfl
      have x3 : w3.drew.cell? ⟨p, 3, none⟩ = some (.slice B G.length b) := P3.drew.cell (i := 3) rfl
      have xa : w3.drew.cell? ⟨ba, 0, none⟩ = some (.string gn) := O3.drew.cell (i := 0) rfl
      have xb : w3.drew.cell? ⟨ba, 1, none⟩ = some (.int .i64 bs) := O3.drew.cell (i := 1) rfl
      have y5 := h54.cell (i := 0) rfl
      have y3 := P4.cell (i := 3) rfl
      have ya := O4.cell (i := 0) rfl
      have yb := O4.cell (i := 1) rfl
      have LEN := Lib.hid (insAt_len G hpl ⟨gn, bs⟩)
      have OLEN := Lib.hid (show ∀ (W : World) (B' : Option Addr) (b' : Nat), W.ownsRow lo 94 2 (.slice B' (G.length + 1) b') (G.length + 1) (gflat (insAt G k ⟨gn, bs⟩)) → ∃ bg, B' = some ⟨bg, 0, none⟩ from fun W B' b' h => by
        rcases h.2 with ⟨he, h0⟩ | ⟨g, cap, cur, he, _⟩
        · omega
        · injection he with e1; exact ⟨g, e1⟩)
      have G4L := Lib.hid G4
      have S4L := Lib.hid S4
      have P4L := Lib.hid P4
      have H5L := Lib.hid h54
      have H9L := Lib.hid h94
      clear O3 O4 hV al1 hba G4 S4 P4 h54 h94
      have ZZ := Lib.hid (show ∀ w4, (w3.alloc (.cells #[.string gn, .int .i64 bs] 94)).drew.grownBy w4 (B.map (·.block)) → w4.cell? ⟨b5, 0, none⟩ = some (.pointer (some ⟨p, 0, none⟩)) ∧ w4.cell? ⟨p, 3, none⟩ = some (.slice B G.length b) ∧ w4.frozen? ⟨p, 3, none⟩ = false from fun w4 hgr =>
        ⟨(H5L.out.grown hgr (fun e => nb5 _ e.symm rfl)).cell (i := 0) rfl, (P4L.out.grown hgr (fun e => nbp _ e.symm rfl)).cell (i := 3) rfl, (P4L.out.grown hgr (fun e => nbp _ e.symm rfl)).froz 3⟩)
      have FIN := Lib.hid (show ∀ (w4 : World) (B' : Option Addr) (b' : Nat), w4.ownsRow lo 94 2 (.slice B' (G.length + 1) b') (G.length + 1) (gflat (insAt G k ⟨gn, bs⟩)) → (w3.alloc (.cells #[.string gn, .int .i64 bs] 94)).drew.grownBy w4 (B.map (·.block)) → InCut w lo p b5 b9 nm bs H A a s n 72 (insAt G k ⟨gn, bs⟩) (w4.setCell ⟨p, 3, none⟩ (.slice B' (G.length + 1) b')) from fun w4 B' b' oI hgr => by
        obtain ⟨bg, rfl⟩ := OLEN.out _ _ _ oI
        have P5 := P4L.out.grown hgr (fun e => nbp _ e.symm rfl)
        have h55 := H5L.out.grown hgr (fun e => nb5 _ e.symm rfl)
        have h95 := H9L.out.grown hgr (fun e => nb9 _ e.symm rfl)
        have S5 := S4L.out.kept hgr (by rw [← own_blk B G.length b]; exact own_apart S4L.out G4L.out (by decide))
        have hb05 := below_row hb04 hlow hgr (fun k e => (G4L.out.lt k (by rw [own_blk, e])).1)
        have P6 := P5.put 3 (.slice (some ⟨bg, 0, none⟩) (G.length + 1) b')
        simp only [List.set_cons_succ, List.set_cons_zero] at P6
        have LE := LEN.out
        refine ⟨_, bg, b', rfl, ?_, ?_, row_off S5 (p := ⟨p, 3, none⟩) (own_not S5 P5 (by decide)) _, h55.far (p := ⟨p, 3, none⟩) n5 _, h95.far (p := ⟨p, 3, none⟩) n9 _, hb05.setCell (p := ⟨p, 3, none⟩) hl _, fun g cs hg h => ((KQ4.out g cs hg h).grown hgr (fun e => own_not G4L.out (KQ4.out g cs hg h) (by decide) (by rw [own_blk, ← e]))).far (p := ⟨p, 3, none⟩) hg _⟩
        · rw [LE]; exact P6
        · rw [LE]; exact row_off oI (p := ⟨p, 3, none⟩) (own_not oI P5 (by decide)) _)
      go_cut [4] (fun y wx => y = .int .i64 k ∧ InCut w lo p b5 b9 nm bs H A a s n 72 (insAt G k ⟨gn, bs⟩) wx)
      case first =>
        go_region_law
          (first
            | (go_simp; go_at_call 115; (with_reducible refine INS.out.mono ?_); rintro e w4 ⟨B', b', rfl, oI, hgr⟩; obtain ⟨z5, z3, zf⟩ := ZZ.out w4 hgr))
        all_goals
          have hfin := FIN.out w4 _ _ oI hgr
          clear x5 x3 xa xb y5 y3 ya yb z5 z3 zf INS ZZ
          go_wp2_with (fail)
          go_meet
          case rel => exact ⟨rfl, hfin⟩
      case rest =>
        obtain ⟨rfl, w6, bg, b', rfl, P6, G6, S6, h56, h96, hb06, kq6⟩ := hcut
        have KQ5 := Lib.hid kq6
        clear kq6 x5 x3 xa xb y5 y3 ya yb
        rw [LEN.out] at P6 G6
        have hk' : (k : Int) < (G.length : Int) + 1 := by omega
        go_wp2_with (fail)
        obtain ⟨I2, fv, hI2, v0, v6, vc, ve⟩ := class_grown w6
        have z3 := fun q => kept_cell (v6 q) (P6.cell (i := 3) rfl)
        have z5 := fun q => kept_cell (v6 q) (h56.cell (i := 0) rfl)
        have z9 := fun q => kept_cell (v6 q) (h96.cell (i := 0) rfl)
        have VE := Lib.hid ve
        clear v6 vc ve
        refine wp_region_class_tail (C := fun w' => ∃ q, w' = fv q) 8 (by kernel_rfl) (by kernel_rfl) v0 ?_
        simp only [List.take_succ_cons, List.take_zero, List.drop_succ_cons, List.drop_zero]
        repeat (first
          | go_big_quiet_skip
          | (go_big_quiet_want; go_big_quiet_op; go_big_quiet_on))
        refine wpQuiet_nil ?_
        intro w8 h8
        have hb8 := VE.out _ h8
        have P8 := P6.below hb8 P6.lt
        have S8 : OwnS w8 lo (.slice A H.length a) H := row_below S6 hb8 (Nat.le_refl _)
        have G8 := row_below G6 hb8 (Nat.le_refl _)
        have hb08 := hb06.trans (hb8.mono (Nat.le_trans hlow hb06.size))
        have K8 := Lib.hid (fun g cs (hg : g ≠ p) (h : Blk w g 30 cs) => (KQ5.out g cs hg h).below hb8 (KQ5.out g cs hg h).lt)
        have OP := HOPh.out w8 A a bg b' ⟨by simp only [HHe.out, LEN.out]; exact P8, S8, by simp only [HHe.out, LEN.out]; unfold OwnG; rw [LEN.out]; exact G8⟩
        have OPh := Lib.hid OP
        clear OP z3 z5 z9 h8 v0 VE
        go_wp2_with (fail)
        refine OPh.out.mono ?_
        rintro e w9 ⟨o1, o2, rfl, o4⟩
        go_wp2
        go_ret
        rw [HFe.out]
        exact OpPost.after hb08 K8.out ⟨o1, o2, rfl, o4⟩ hlow
end Go.Proofs.Ytjnbhppnchmeoaa

namespace Go.Proofs.Ytjnbhppnchmeoaa
open Go.RowKit
set_option linter.unusedVariables false
set_option maxRecDepth 1000000
theorem step_app_str {ops : Array Oper} {o : Oper} {a : Act} (w : World) {K : Act → World → Prop} {Q : Exit → Act → World → Prop} {E : Prop} (hgd : o.guard = none) (s x : Operand)
    (ho : o.op = .call { callee := .builtin .append, args := #[s, x], argTypes := #[23, 23] })
    (base : Nat) (v : Value) (L : List ByteArray) (hs : a.eval s = v) (hown : OwnS w base v L) (B : Nat) (A : Option Addr) (M : List ByteArray) (m c : Nat) (hm : m = M.length) (hx : a.eval x = .slice A m c) (hc : A = none → c = 0) (hM : Strs w B A M)
    (hlen : L.length + M.length ≤ 1000000) (hbase : base ≤ w.heap.size)
    (h : ∀ A' c' w', OwnS w' base (.slice A' (L ++ M).length c') (L ++ M) → w.grownBy w' v.ownBlock → K (a.put o.dst (.slice A' (L ++ M).length c')) w') :
    if Region.wanted o (yielded ops a.tmps) = true then Oper.wp Try.prog o a w K Q else E := by
  subst hm
  have hw : Region.wanted o (yielded ops a.tmps) = true := by simp [Region.wanted, hgd]
  rw [if_pos hw]
  obtain ⟨i0, hi, hz0, hz1, hz2⟩ := info_parts infoStr
  have key : ∀ v' w', OwnS w' base v' (L ++ M) → w.grownBy w' v.ownBlock → K (a.put o.dst v') w' := by
    intro v' w' h1 h2
    obtain ⟨A', c', rfl⟩ := ownS_some h1
    exact h A' c' w' h1 h2
  cases A with
  | none =>
    have hz := strs_none hM
    subst hz
    obtain rfl := hc rfl
    unfold OwnS at hown
    have hrun := run_append_owned_none (P := Try.prog) (w := w) base 23 o.type 9 i0 1 Try.underlying23 hi v _ _ hown
    have := key v w (by rw [List.append_nil]; exact hown) (grown_same _ _)
    unfold Oper.wp
    simp only [List.length_nil] at hx
    simpa [execOp, ho, resolve, invoke, builtin, hs, hx, hrun, Result.andThen, Oper.upon] using this
  | some ad =>
    refine wp_append_own w s x 23 ho base 9 i0 (.string ⟨#[]⟩) 1 16 Try.underlying23 hi hz0 hz1 hz2 rfl (by decide) v _ _ hs hown ad M.length c (M.map Value.string) hx (by simp) (strs_news hM) (by intro u hu; obtain ⟨t, _, rfl⟩ := List.mem_map.1 hu; rfl) (by unfold maxLen; omega) (by omega) hbase ?_
    intro v' w' h1 h2 _
    refine key v' w' ?_ h2
    unfold OwnS
    rw [List.length_append, List.map_append]
    exact h1
end Go.Proofs.Ytjnbhppnchmeoaa

namespace Go.Proofs.Ytjnbhppnchmeoaa
open Go.RowKit
set_option linter.unusedVariables false
theorem fetT_ok {t : Tpc} {gn : ByteArray} {n : Int} (h : begC t gn (inB n 0 20) = 0) : fetT t gn n = fetchA ⟨t.name, t.base, t.held, hasG t gn⟩ (posG t.groups gn) n := by
  unfold fetT forR; rw [if_pos h]
theorem fetT_ill {t : Tpc} {gn : ByteArray} {n : Int} (h : ¬ begC t gn (inB n 0 20) = 0) : fetT t gn n = ill (begC t gn (inB n 0 20)) := by
  unfold fetT forR; rw [if_neg h]
theorem beg_okv {t : Tpc} {g : ByteArray} {ok : Bool} (h : begC t g ok = 0) : ok = true := by
  unfold begC at h
  split at h
  · exact absurd h (by decide)
  · split at h
    · exact absurd h (by decide)
    · rename_i h2
      cases ok with
      | true => rfl
      | false => simp at h2
theorem hasG_in (t : Tpc) (s : ByteArray) (ho : topOK t) (hk : posG t.groups s < (hasG t s).length) : t.base ≤ (hasG t s)[posG t.groups s].acked ∧ (hasG t s)[posG t.groups s].acked ≤ t.base + t.held.length := by
  have hp := posG_le t.groups s
  by_cases hi : isG t.groups s = true
  · have e : hasG t s = t.groups := by unfold hasG; rw [if_pos hi]
    have h1 : posG t.groups s < t.groups.length := by rw [e] at hk; exact hk
    have h2 := inB_true (ho.2.2.2.2.2.2 (posG t.groups s) h1).2.1
    simp only [e]
    exact h2
  · have e : hasG t s = insG t s := by unfold hasG; rw [if_neg hi]
    have h3 : (insG t s)[posG t.groups s]'(by rw [← e]; exact hk) = ⟨s, t.base⟩ := by
      unfold insG
      rw [List.getElem_append_left (by simp; omega), List.getElem_append_right (by simp; omega)]
      simp
    simp only [e, h3]
    omega
/-- What is fetched, by its place. -/
theorem fetchA_eq (t : Tpc) (gn : ByteArray) (n : Int) (m : Nat) (hk : posG t.groups gn < (hasG t gn).length) (ha : (hasG t gn)[posG t.groups gn].acked = t.base + m) : fetchA ⟨t.name, t.base, t.held, hasG t gn⟩ (posG t.groups gn) n = ⟨⟨t.name, t.base, t.held, hasG t gn⟩, (t.held.drop m).take n.toNat, t.base + m, 0⟩ := by
  have e : (hasG t gn).getD (posG t.groups gn) zeroGrp = (hasG t gn)[posG t.groups gn] := by rw [List.getD_eq_getElem?_getD, List.getElem?_eq_getElem hk]; rfl
  unfold fetchA
  simp only [e, ha]
  rw [show (t.base + (m : Int) - t.base).toNat = m by omega]
end Go.Proofs.Ytjnbhppnchmeoaa
